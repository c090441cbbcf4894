/- Package signals: Gone, Clear. -/
import Derived.Test.YtliifpknkdjgjaaSgF
namespace Go.Proofs.Ytliifpknkdjgjaa
open Go.RowKit
set_option linter.unusedVariables false

theorem frowS_size : (frow tailS 15).size = 19 := rfl
theorem frowS_one : (frow tailS 15).all (·.oneCell') = true := frow_one (fun v hv => by simp [tailS] at hv; rcases hv with rfl | rfl | rfl | rfl <;> rfl)
theorem gone_nil (pid : Int) (w : World) :
    Calls Try.prog 26 #[.pointer none, .int .i64 pid] w fun e w' => e = .returned (.tuple #[]) ∧ w' = w := by
  have hP := process_nil pid w
  go_enter Try.func26, Try.ntmps26
  go_wp2_with fail
  refine hP.mono ?_
  rintro e w1 ⟨rfl, hw⟩
  rw [hw]
  clear hw w1 hP
  go_wp2
  refine bodyPost_ret (results_none rfl _ _ _) rfl ?_
  exact ⟨rfl, rfl⟩
set_option maxHeartbeats 1000000 in
theorem gone_at (b : Nat) (S : SS) (pid : Int) (w : World) (h : SgAt w b S) :
    Calls Try.prog 26 #[.pointer (some ⟨b, 0, none⟩), .int .i64 pid] w fun e w' => e = .returned (.tuple #[]) ∧ SgAt w' b (goS S pid) ∧ Upd b w w' := by
  cases hp : isP pid with
  | false =>
    have hP := process_no b pid w hp
    have HS : Hid (goS S pid = S) := by show _ = _; unfold goS; rw [hp]; rfl
    have HH : Hid (SgAt w b S) := h
    clear h hp
    go_enter Try.func26, Try.ntmps26
    go_wp2_with fail
    refine hP.mono ?_
    rintro e w1 ⟨rfl, hw⟩
    rw [hw]
    clear hw w1 hP
    go_wp2
    refine bodyPost_ret (results_none rfl _ _ _) rfl ?_
    exact ⟨rfl, by rw [HS.out]; exact HH.out, Upd.refl _ _⟩
  | true =>
    obtain ⟨i, rfl, hi⟩ := isP_nat hp
    have hP := process_yes b i w hi
    have hnn := pptr_eq b (i * 19)
    have HS : Hid (goS S ((i : Int) + 1) = S.set i Sg.first) := by show _ = _; unfold goS; rw [hp, if_pos rfl, show ((i : Int) + 1 - 1).toNat = i by omega]
    obtain ⟨row, hB, hR⟩ := h
    have hAF := atFirst_at w
    have HB : Hid (SB w b row) := hB
    have HR : Hid (SgRow w row S) := hR
    have HFs : Hid ((frow tailS 15).size = 19) := frowS_size
    have HFo : Hid ((frow tailS 15).all (·.oneCell') = true) := frowS_one
    have HFt : Hid (∀ w' row', i * 19 + 19 ≤ Array.size row' → (∀ j, j < 19 → row'[i * 19 + j]? = (frow tailS 15)[j]?) → SgR w' row' (i * 19) Sg.first) := fun w' row' h1 h2 => first_R h1 h2
    generalize frow tailS 15 = F at *
    clear hp hB hR
    go_enter Try.func26, Try.ntmps26
    go_wp2_with fail
    refine hP.mono ?_
    rintro e w1 ⟨rfl, hw⟩
    rw [hw]
    clear hw w1 hP
    go_wp2_with fail
    refine hAF.mono ?_
    rintro e w1 ⟨rfl, hb1⟩
    have HB1 : Hid (SB w1 b row) := HB.out.below hb1
    have HK1 : Hid (KeepW w w1) := KeepW.below hb1
    have HBl : Hid (Below w.heap.size w w1) := hb1
    have hth : w1.there b (i * 19) F.size := HB1.out.there _ _ (by have := HR.out.size; rw [HFs.out]; omega)
    clear hb1 hAF
    go_wp2_with (first
      | (refine wpList_store_mid rfl 62 _ _ rfl b (i * 19) F rfl rfl hth (by rw [HFs.out]; exact procSize) HFo.out ?_)
      | go_in)
    go_end0
    have hu := upd_sets b F.toList (i * 19) w1
    have hl : F.toList.length = 19 := by rw [Array.length_toList]; exact HFs.out
    refine ⟨rfl, ?_, (Upd.of_below HBl.out).trans hu⟩
    rw [HS.out]
    refine ⟨_, HB1.out.sets _ _ _ _, HR.out.put (p := Sg.first) (putA_same (i * 19) row hl) (HFt.out _ _ ?_ (fun j hj => ?_)) (HK1.out.trans (HB1.out.kw hu))⟩
    · rw [putA_size]; have := HR.out.size; omega
    · rw [putA_in _ _ _ j (by omega) (by have := HR.out.size; omega), Array.getElem?_toList]

/-- The handlers as cells. -/
def hvs (p : Sg) : List Value := (List.range 15).map (fun j => Value.int .u64 (p.h.getD j 0))
theorem hvs_len (p : Sg) : (hvs p).length = 15 := by simp [hvs]
theorem hvs_get (p : Sg) (j : Nat) (hj : j < 15) : (hvs p)[j]? = some (.int .u64 (p.h.getD j 0)) := by
  unfold hvs
  rw [List.getElem?_map, List.getElem?_range hj]
  rfl
theorem hvs_range {w : World} {b o : Nat} {row : Array Value} {p : Sg} (hB : SB w b row) (hR : SgR w row o p) : w.rangeAt b o (hvs p) := by
  intro j v hv
  have hj : j < 15 := by have := (List.getElem?_eq_some_iff.1 hv).1; rwa [hvs_len] at this
  rw [hvs_get p j hj] at hv
  rw [hB.cell, hR.hnd j hj]
  exact hv
theorem words15 : (Try.prog.info? 60).map (·.size) = some 15 := by kernel_rfl
theorem hvs_index (p : Sg) (j : Nat) (hj : j < 15) (W : World) : (Instr.index 60 (.agg (hvs p).toArray) (.int .i64 j)).run Try.prog W = .ok (.int .u64 (p.h.getD j 0)) W := by
  have h1 : (hvs p).toArray[j * 1]? = some (.int .u64 (p.h.getD j 0)) := by
    rw [Nat.mul_one, List.getElem?_toArray, hvs_get p j hj]
  have hs : (sizeOf 27).run Try.prog W = .ok 1 W := by kernel_rfl
  have ha : (isAgg 27).run Try.prog W = .ok false W := by kernel_rfl
  have hi : 0 ≤ (j : Int) ∧ (j : Int) < (15 : Nat) := by omega
  simp only [Instr.index, Sem.run_bind, asIntOf, Sem.run_pure, Result.andThen_ok, run_underlying Try.underlying60, if_pos hi, hs, part, ha, Int.toNat_natCast, h1, Bool.false_eq_true, if_false]
/-- Cleared as far as handler k. -/
def clK (h : List Int) (k : Nat) : List Int := clH (h.take k) ++ h.drop k
theorem clK_zero (h : List Int) : clK h 0 = h := by simp [clK, clH]
theorem clK_all {h : List Int} (hl : h.length = 15) : clK h 15 = clH h := by
  unfold clK
  rw [List.take_of_length_le (by omega), List.drop_eq_nil_of_le (by omega), List.append_nil]
theorem clK_len {h : List Int} (hl : h.length = 15) (k : Nat) : (clK h k).length = 15 := by
  unfold clK clH
  rw [List.length_append, List.length_map, List.length_take, List.length_drop]
  omega
theorem clK_keep {h : List Int} (hl : h.length = 15) {k : Nat} (hk : k < 15) (hi : h.getD k 0 = ign) : clK h (k + 1) = clK h k := by
  have hx : h[k]? = some ign := by
    rw [← hi, List.getD_eq_getElem?_getD, List.getElem?_eq_getElem (by omega)]
    rfl
  unfold clK clH
  rw [List.take_add_one, hx, List.drop_eq_getElem_cons (l := h) (i := k) (by omega)]
  have he : h[k] = ign := by have := List.getElem?_eq_getElem (l := h) (i := k) (by omega); rw [hx] at this; exact (Option.some.inj this).symm
  rw [he]
  simp
theorem clK_set {h : List Int} (hl : h.length = 15) {k : Nat} (hk : k < 15) (hi : h.getD k 0 ≠ ign) : clK h (k + 1) = (clK h k).set k dfl := by
  have hx : h[k]? = some (h.getD k 0) := by
    rw [List.getD_eq_getElem?_getD, List.getElem?_eq_getElem (by omega)]
    rfl
  unfold clK clH
  rw [List.take_add_one, hx, List.drop_eq_getElem_cons (l := h) (i := k) (by omega)]
  rw [List.set_append_right _ _ (by rw [List.length_map, List.length_take]; omega)]
  rw [List.length_map, List.length_take, show k - min k h.length = 0 by omega, List.map_append, List.append_assoc, List.set_cons_zero]
  simp only [Option.toList_some, List.map_cons, List.map_nil, if_neg hi]
  rfl
theorem clear_nil (pid : Int) (w : World) :
    Calls Try.prog 25 #[.pointer none, .int .i64 pid] w fun e w' => e = .returned (.tuple #[]) ∧ w' = w := by
  have hP := process_nil pid w
  go_enter Try.func25, Try.ntmps25
  go_wp2_with fail
  refine hP.mono ?_
  rintro e w1 ⟨rfl, hw⟩
  rw [hw]
  clear hw w1 hP
  go_wp2
  refine bodyPost_ret (results_none rfl _ _ _) rfl ?_
  exact ⟨rfl, rfl⟩
set_option maxRecDepth 100000 in
set_option maxHeartbeats 2000000 in
theorem clear_at (b : Nat) (S : SS) (pid : Int) (w : World) (h : SgAt w b S) (hok : SOk S) :
    Calls Try.prog 25 #[.pointer (some ⟨b, 0, none⟩), .int .i64 pid] w fun e w' => e = .returned (.tuple #[]) ∧ SgAt w' b (clS S pid) ∧ Upd b w w' := by
  cases hp : isP pid with
  | false =>
    have hP := process_no b pid w hp
    have HS : Hid (clS S pid = S) := by show _ = _; unfold clS; rw [hp]; rfl
    have HH : Hid (SgAt w b S) := h
    clear h hp
    go_enter Try.func25, Try.ntmps25
    go_wp2_with fail
    refine hP.mono ?_
    rintro e w1 ⟨rfl, hw⟩
    rw [hw]
    clear hw w1 hP
    go_wp2
    refine bodyPost_ret (results_none rfl _ _ _) rfl ?_
    exact ⟨rfl, by rw [HS.out]; exact HH.out, Upd.refl _ _⟩
  | true =>
    obtain ⟨i, rfl, hi⟩ := isP_nat hp
    have hP := process_yes b i w hi
    have hnn := pptr_eq b (i * 19)
    have HS : Hid (clS S ((i : Int) + 1) = S.set i ⟨clH (S i).h, (S i).q, none⟩) := by show _ = _; unfold clS; rw [hp, if_pos rfl, show ((i : Int) + 1 - 1).toNat = i by omega]
    obtain ⟨row, hB, hR⟩ := h
    have HL : Hid (w.rangeAt b (i * 19) (hvs (S i))) := hvs_range hB (hR.at' i hi)
    have hll : (hvs (S i)).length = 15 := hvs_len _
    have HLen : Hid ((S i).h.length = 15) := (hok i hi).len
    have HB : Hid (SB w b row) := hB
    have HR : Hid (SgRow w row S) := hR
    clear hp hB hR
    go_enter Try.func25, Try.ntmps25
    go_wp2_with fail
    refine hP.mono ?_
    rintro e w1 ⟨rfl, hw⟩
    rw [hw]
    clear hw w1 hP
    go_wp2_with (first | (refine wpList_load_mid rfl 60 _ rfl b (i * 19) rfl (hvs (S i)) _ HL.out Try.underlying60 rfl (by rw [hll]; exact words15) ?_) | go_in)
    clear HL hll
    go_loopw [16] (fun s wr => ∃ (k : Nat) (row' : Array Value), k ≤ 15 ∧ s = .int .i64 k ∧ SB wr b row' ∧ SgR wr row' (i * 19) ⟨clK (S i).h k, (S i).q, (S i).k⟩ ∧ Same (i * 19) row row' ∧ Upd b w wr) (fun s _ => 15 - (intOf s).toNat)
    case atStart => exact ⟨0, row, by omega, rfl, HB.out, by rw [clK_zero]; exact HR.out.at' i hi, Same.refl _ _, Upd.refl _ _⟩
    case round =>
      obtain ⟨k, row', hk, rfl, hB, hRr, hSm, hU⟩ := hrel
      have HB2 : Hid (SB wr b row') := hB
      have HR2 : Hid (SgR wr row' (i * 19) ⟨clK (S i).h k, (S i).q, (S i).k⟩) := hRr
      have HSm : Hid (Same (i * 19) row row') := hSm
      have HU : Hid (Upd b w wr) := hU
      by_cases hlt : k < 15
      · have i1 : decide ((k : Int) < 15) = true := decide_eq_true (by omega)
        have hki : (k : Int) < 15 := by omega
        have hix := hvs_index (S i) k hlt
        have c0 := (hB.cell (i * 19 + k)).trans (hRr.hnd k hlt)
        have f0 := hB.free (i * 19 + k)
        by_cases he : (S i).h.getD k 0 = ign
        · have g0 : ((S i).h.getD k 0 != 18446744073709551614) = false := by rw [he]; rfl
          have HR3 : Hid (SgR wr row' (i * 19) ⟨clK (S i).h (k + 1), (S i).q, (S i).k⟩) := by rw [clK_keep HLen.out hlt he]; exact hRr
          generalize (S i).h.getD k 0 = x at *
          clear hB hRr hSm hU HR2 he
          go_wp2
          go_roundw
          case rel => exact ⟨k + 1, row', by omega, by go_num, HB2.out, HR3.out, HSm.out, HU.out⟩
          case measure => simp [intOf]; omega
        · have g0 : ((S i).h.getD k 0 != 18446744073709551614) = true := bne_iff_ne.2 he
          have hu : Upd b wr (wr.setCell ⟨b, i * 19 + k, none⟩ (.int .u64 18446744073709551615)) := Upd.setCell _ _ _ _
          have HR3 : Hid (SgR (wr.setCell ⟨b, i * 19 + k, none⟩ (.int .u64 18446744073709551615)) (row'.setIfInBounds (i * 19 + k) (.int .u64 18446744073709551615)) (i * 19) ⟨clK (S i).h (k + 1), (S i).q, (S i).k⟩) := by
            rw [clK_set HLen.out hlt he]
            exact hRr.handler dfl hlt (clK_len HLen.out k) (hB.kw hu)
          have HB3 : Hid (SB (wr.setCell ⟨b, i * 19 + k, none⟩ (.int .u64 18446744073709551615)) b (row'.setIfInBounds (i * 19 + k) (.int .u64 18446744073709551615))) := hB.set _ _
          have HS3 : Hid (Same (i * 19) row (row'.setIfInBounds (i * 19 + k) (.int .u64 18446744073709551615))) := hSm.trans (Same.set _ _ (by omega))
          have HU3 : Hid (Upd b w (wr.setCell ⟨b, i * 19 + k, none⟩ (.int .u64 18446744073709551615))) := hU.trans hu
          generalize (S i).h.getD k 0 = x at *
          clear hB hRr hSm hU HR2 he hu
          go_wp2
          go_roundw
          case rel => exact ⟨k + 1, _, by omega, by go_num, HB3.out, HR3.out, HS3.out, HU3.out⟩
          case measure => simp [intOf]; omega
      · obtain rfl : k = 15 := by omega
        have i1 : decide (((15 : Nat) : Int) < 15) = false := rfl
        have c1 := (hB.cell (i * 19 + 16)).trans hRr.inh
        obtain ⟨a0, c0, e18, -, -⟩ := hRr.stk
        have c2 := (hB.cell (i * 19 + 17)).trans hRr.pc
        have c3 := (hB.cell (i * 19 + 18)).trans e18
        have f1 := hB.free (i * 19 + 16)
        have f2 := hB.free (i * 19 + 17)
        have f3 := hB.free (i * 19 + 18)
        have HF : Hid (SgAt (((wr.setCell ⟨b, i * 19 + 16, none⟩ (.bool false)).setCell ⟨b, i * 19 + 17, none⟩ (.int .i64 0)).setCell ⟨b, i * 19 + 18, none⟩ (.slice none 0 0)) b (S.set i ⟨clH (S i).h, (S i).q, none⟩) ∧ Upd b w (((wr.setCell ⟨b, i * 19 + 16, none⟩ (.bool false)).setCell ⟨b, i * 19 + 17, none⟩ (.int .i64 0)).setCell ⟨b, i * 19 + 18, none⟩ (.slice none 0 0))) := by
          have hu := upd_three b (i * 19) wr (.bool false) (.int .i64 0) (.slice none 0 0)
          refine ⟨⟨_, hB.three _ _ _, HR.out.put (hSm.trans (same_three _ row' _ _ _)) ?_ ((HB.out.kw hU).trans (hB.kw hu))⟩, hU.trans hu⟩
          have := hRr.three (k := none) (w' := ((wr.setCell ⟨b, i * 19 + 16, none⟩ (.bool false)).setCell ⟨b, i * 19 + 17, none⟩ (.int .i64 0)).setCell ⟨b, i * 19 + 18, none⟩ (.slice none 0 0)) none 0 (Nat.le_refl _) (TRd.nil _ _)
          rw [show (⟨clK (S i).h 15, (S i).q, (S i).k⟩ : Sg).h = clK (S i).h 15 from rfl, clK_all HLen.out] at this
          exact this
        generalize (⟨clK (S i).h 15, (S i).q, (S i).k⟩ : Sg).pc = kpc at *
        generalize (⟨clK (S i).h 15, (S i).q, (S i).k⟩ : Sg).st.length = kl at *
        generalize (⟨clK (S i).h 15, (S i).q, (S i).k⟩ : Sg).k.isSome = kb at *
        clear hB hRr hSm hU e18 HB2 HR2 HSm HU
        go_wp2
        go_end0
        exact ⟨rfl, by rw [HS.out]; exact HF.out.1, HF.out.2⟩
end Go.Proofs.Ytliifpknkdjgjaa
