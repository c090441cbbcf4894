/- The reference of package signals: Gone, Clear, Fork. -/
import Derived.Test.YtliifpknkdjgjaaRsC
namespace Go.Proofs.Ytliifpknkdjgjaa
open Go.RowKit Go.Lib
set_option linter.unusedVariables false

set_option maxHeartbeats 1000000 in
theorem xgone_at (b : Nat) (S : SS) (pid : Int) (w : World) (h : RgAt w b S) :
    Calls Try.prog 36 #[.pointer (some ⟨b, 0, none⟩), .int .i64 pid] w fun e w' => e = .returned (.tuple #[]) ∧ RgAt w' b (goS S pid) ∧ Upd b w w' := by
  have hP := xPid_at pid w
  cases hp : isP pid with
  | false =>
    have HS : Hid (goS S pid = S) := by show _ = _; unfold goS; rw [hp]; rfl
    have HH : Hid (RgAt w b S) := h
    rw [hp] at hP
    clear h hp
    go_enter Try.func36, Try.ntmps36
    go_wp2_with fail
    refine hP.mono ?_
    rintro e w1 ⟨rfl, hw⟩
    rw [hw]
    clear hw w1 hP
    go_wp2
    go_end0
    exact ⟨rfl, by rw [HS.out]; exact HH.out, Upd.refl _ _⟩
  | true =>
    obtain ⟨i, rfl, hi⟩ := isP_nat hp
    rw [hp] at hP
    have hw1 := wr_pred i (by omega)
    have hii : (i : Int) < 8 := by omega
    have HS : Hid (goS S ((i : Int) + 1) = S.set i Sg.first) := by show _ = _; unfold goS; rw [hp, if_pos rfl, show ((i : Int) + 1 - 1).toNat = i by omega]
    obtain ⟨row, hB, hR⟩ := h
    have hAF := xfresh_at w.drew
    have HB : Hid (RB w b row) := hB
    have HR : Hid (RgRow w row S) := hR
    have HFs : Hid ((frow tailR 15).size = 33) := freshS
    have HFo : Hid ((frow tailR 15).all (·.oneCell') = true) := freshO
    have HFt : Hid (∀ w' row', i * 33 + 33 ≤ Array.size row' → (∀ j, j < 33 → row'[i * 33 + j]? = (frow tailR 15)[j]?) → RgR w' row' (i * 33) Sg.first) := fun w' row' h1 h2 => fresh_R h1 h2
    generalize frow tailR 15 = F at *
    clear hp hB hR
    generalize (i : Int) + 1 = pd at *
    go_enter Try.func36, Try.ntmps36
    go_wp2_with fail
    refine hP.mono ?_
    rintro e w1 ⟨rfl, hw⟩
    rw [hw]
    clear hw w1 hP
    go_upto_region 1 with fail
    refine wp_region_held_drew (S := fun w' => True) (by kernel_rfl) trivial (fun hHeld => ?_)
    refine wpAnyH_take (i := 0) (v := ?_) rfl (by kernel_rfl) (by kernel_rfl) (by kernel_rfl) (fun _ _ _ h => h) (Or.inl ⟨by kernel_rfl, ?_⟩) (by assumption) ?_
    rotate_left
    · (intro w hSw; (try dsimp only at hSw); go_simp) <;> with_reducible rfl
    (try simp only [Act.put, List.getElem_toArray, List.getElem_cons_zero, List.setIfInBounds_toArray, List.set_cons_zero, List.set_cons_succ])
    refine wpAnyH_take (i := 1) (v := ?_) rfl (by kernel_rfl) (by kernel_rfl) (by kernel_rfl) (fun _ _ _ h => h) (Or.inl ⟨by kernel_rfl, ?_⟩) (by assumption) ?_
    rotate_left
    · (intro w hSw; (try dsimp only at hSw); go_simp) <;> with_reducible rfl
    (try simp only [Act.put, List.getElem_toArray, List.getElem_cons_zero, List.getElem_cons_succ, List.setIfInBounds_toArray, List.set_cons_zero, List.set_cons_succ])
    refine wpAnyH_take (i := 2) (v := ?_) rfl (by kernel_rfl) (by kernel_rfl) (by kernel_rfl) (fun _ _ _ h => h) (Or.inl ⟨by kernel_rfl, ?_⟩) (by assumption) ?_
    rotate_left
    · (intro w hSw; (try dsimp only at hSw); go_simp) <;> with_reducible rfl
    (try simp only [Act.put, List.getElem_toArray, List.getElem_cons_zero, List.getElem_cons_succ, List.setIfInBounds_toArray, List.set_cons_zero, List.set_cons_succ])
    refine wpAnyH_take (i := 4) (v := ?_) rfl (by kernel_rfl) (by kernel_rfl) (by kernel_rfl) (fun _ _ _ h => h) (Or.inl ⟨by kernel_rfl, ?_⟩) (by assumption) ?_
    rotate_left
    · (intro w hSw; (try dsimp only at hSw); go_simp) <;> with_reducible rfl
    (try simp only [Act.put, List.getElem_toArray, List.getElem_cons_zero, List.getElem_cons_succ, List.setIfInBounds_toArray, List.set_cons_zero, List.set_cons_succ])
    refine wpAnyH_take (i := 5) (v := ?_) rfl (by kernel_rfl) (by kernel_rfl) (by kernel_rfl) (fun _ _ _ h => h) (Or.inl ⟨by kernel_rfl, ?_⟩) (by assumption) ?_
    rotate_left
    · (intro w hSw; (try dsimp only at hSw); go_simp) <;> with_reducible rfl
    (try simp only [Act.put, List.getElem_toArray, List.getElem_cons_zero, List.getElem_cons_succ, List.setIfInBounds_toArray, List.set_cons_zero, List.set_cons_succ])
    refine wpAnyH_ready (rs := [3]) (by kernel_rfl) (by simp) ?_
    refine AllReadyH.cons rfl (fun K hK => ?_) AllReadyH.nil
    go_simp
    refine hAF.mono ?_
    rintro e w1 ⟨rfl, hb1⟩
    have HB1 : Hid (RB w1 b row) := (RB.drew HB.out).below hb1
    have HK1 : Hid (KeepW w w1) := (KeepW.below (Below.refl w.heap.size w).drew).trans (KeepW.below hb1)
    have HBl : Hid (Below w.heap.size w w1) := ((Below.refl w.heap.size w).drew).trans (hb1.mono (Nat.le_refl _))
    clear hb1 hAF
    refine hK.out _ _ trivial (fun hHeld => ?_)
    clear hK K
    (try simp only [Act.put, List.getElem_toArray, List.getElem_cons_zero, List.getElem_cons_succ, List.setIfInBounds_toArray, List.set_cons_zero, List.set_cons_succ])
    refine wpAnyH_take (i := 6) (v := ?_) rfl (by kernel_rfl) (by kernel_rfl) (by kernel_rfl) (fun _ _ _ h => h) (Or.inl ⟨by kernel_rfl, ?_⟩) (by assumption) ?_
    rotate_left
    · (intro w hSw; (try dsimp only at hSw); go_simp) <;> with_reducible rfl
    (try simp only [Act.put, List.getElem_toArray, List.getElem_cons_zero, List.getElem_cons_succ, List.setIfInBounds_toArray, List.set_cons_zero, List.set_cons_succ])
    refine wpAnyH_ready (rs := [7]) (by kernel_rfl) (by simp) ?_
    refine AllReadyH.cons rfl (fun K hK => ?_) AllReadyH.nil
    refine wp_store_mid 69 _ _ rfl b (i * 33) F rfl rfl (HB1.out.there _ _ (by have := HR.out.size; rw [HFs.out]; omega)) (by rw [HFs.out]; exact refSize) HFo.out ?_
    have hu := upd_sets b F.toList (i * 33) w1
    have hl : F.toList.length = 33 := by rw [Array.length_toList]; exact HFs.out
    have HF : Hid (RgAt (w1.setCells b (i * 33) F.toList) b (S.set i Sg.first)) := by
      refine ⟨_, HB1.out.sets _ _ _ _, HR.out.put (p := Sg.first) (putA_sameR (i * 33) row hl) (HFt.out _ _ ?_ (fun j hj => ?_)) (HK1.out.trans (HB1.out.kw hu))⟩
      · rw [putA_size]; have := HR.out.size; omega
      · rw [putA_in _ _ _ j (by omega) (by have := HR.out.size; omega), Array.getElem?_toList]
    have HU : Hid (Upd b w (w1.setCells b (i * 33) F.toList)) := (Upd.of_below HBl.out).trans hu
    clear hu hl
    generalize w1.setCells b (i * 33) F.toList = w2 at *
    refine hK.out _ _ trivial (fun hHeld => ?_)
    clear hK K
    simp only [Act.put, List.getElem_toArray, List.getElem_cons_zero, List.getElem_cons_succ]
    refine wpAnyH_done (by kernel_rfl) ?_ _
    clear hHeld
    go_wp2
    go_end0
    exact ⟨rfl, by rw [HS.out]; exact HF.out, HU.out⟩
theorem clK_get (h : List Int) (k : Nat) : (clK h k).getD k 0 = h.getD k 0 := by
  unfold clK clH
  rw [List.getD_eq_getElem?_getD, List.getD_eq_getElem?_getD]
  by_cases hk : k < h.length
  · rw [List.getElem?_append_right (by rw [List.length_map, List.length_take]; omega), List.length_map, List.length_take, show k - min k h.length = 0 by omega, List.getElem?_drop]
    simp
  · rw [List.getElem?_eq_none (by rw [List.length_append, List.length_map, List.length_take, List.length_drop]; omega), List.getElem?_eq_none (by omega)]
set_option maxRecDepth 100000 in
set_option maxHeartbeats 2000000 in
theorem xclear_at (b : Nat) (S : SS) (pid : Int) (w : World) (h : RgAt w b S) (hok : SOk S) :
    Calls Try.prog 35 #[.pointer (some ⟨b, 0, none⟩), .int .i64 pid] w fun e w' => e = .returned (.tuple #[]) ∧ RgAt w' b (clS S pid) ∧ Upd b w w' := by
  cases hp : isP pid with
  | false =>
    have hP := xPid_at pid w
    rw [hp] at hP
    have HS : Hid (clS S pid = S) := by show _ = _; unfold clS; rw [hp]; rfl
    have HH : Hid (RgAt w b S) := h
    clear h hp
    go_enter Try.func35, Try.ntmps35
    go_wp2_with fail
    refine hP.mono ?_
    rintro e w1 ⟨rfl, hw⟩
    rw [hw]
    clear hw w1 hP
    go_wp2
    refine bodyPost_ret (results_none rfl _ _ _) rfl ?_
    exact ⟨rfl, by rw [HS.out]; exact HH.out, Upd.refl _ _⟩
  | true =>
    obtain ⟨i, rfl, hi⟩ := isP_nat hp
    have hP := xPid_at ((i : Int) + 1) w
    rw [hp] at hP
    have hw1 := wr_pred i (by omega)
    have hii : (i : Int) < 8 := by omega
    have HS : Hid (clS S ((i : Int) + 1) = S.set i ⟨clH (S i).h, (S i).q, none⟩) := by show _ = _; unfold clS; rw [hp, if_pos rfl, show ((i : Int) + 1 - 1).toNat = i by omega]
    obtain ⟨row, hB, hR⟩ := h
    have HLen : Hid ((S i).h.length = 15) := (hok i hi).len
    have HB : Hid (RB w b row) := hB
    have HR : Hid (RgRow w row S) := hR
    clear hp hB hR
    go_enter Try.func35, Try.ntmps35
    go_wp2_with fail
    refine hP.mono ?_
    rintro e w1 ⟨rfl, hw⟩
    rw [hw]
    clear hw w1 hP
    go_wp2
    go_loopw [5] (fun s wr => ∃ (k : Nat) (row' : Array Value), k ≤ 15 ∧ s = .int .i64 k ∧ RB wr b row' ∧ RgR wr row' (i * 33) ⟨clK (S i).h k, (S i).q, (S i).k⟩ ∧ SameR (i * 33) row row' ∧ Upd b w wr) (fun s _ => 15 - (intOf s).toNat)
    case atStart => exact ⟨0, row, by omega, rfl, HB.out, by rw [clK_zero]; exact HR.out.at' i hi, SameR.refl _ _, Upd.refl _ _⟩
    case round =>
      obtain ⟨k, row', hk, rfl, hB, hRr, hSm, hU⟩ := hrel
      have HB2 : Hid (RB wr b row') := hB
      have HR2 : Hid (RgR wr row' (i * 33) ⟨clK (S i).h k, (S i).q, (S i).k⟩) := hRr
      have HSm : Hid (SameR (i * 33) row row') := hSm
      have HU : Hid (Upd b w wr) := hU
      by_cases hlt : k < 15
      · have i1 : decide ((k : Int) < 15) = true := decide_eq_true (by omega)
        have hki : (k : Int) < 15 := by omega
        have c0 := (hB.cell (i * 33 + k)).trans (hRr.hnd k hlt)
        rw [show (⟨clK (S i).h k, (S i).q, (S i).k⟩ : Sg).h.getD k 0 = (S i).h.getD k 0 from clK_get _ _] at c0
        have f0 := hB.free (i * 33 + k)
        by_cases he : (S i).h.getD k 0 = ign
        · have g0 : ((S i).h.getD k 0 != 18446744073709551614) = false := by rw [he]; rfl
          have HR3 : Hid (RgR wr row' (i * 33) ⟨clK (S i).h (k + 1), (S i).q, (S i).k⟩) := by rw [clK_keep HLen.out hlt he]; exact hRr
          generalize (S i).h.getD k 0 = x at *
          clear hB hRr hSm hU HR2 he
          go_wp2
          go_roundw
          case rel => exact ⟨k + 1, row', by omega, by go_num, HB2.out, HR3.out, HSm.out, HU.out⟩
          case measure => simp [intOf]; omega
        · have g0 : ((S i).h.getD k 0 != 18446744073709551614) = true := bne_iff_ne.2 he
          have hu : Upd b wr (wr.setCell ⟨b, i * 33 + k, none⟩ (.int .u64 18446744073709551615)) := Upd.setCell _ _ _ _
          have HR3 : Hid (RgR (wr.setCell ⟨b, i * 33 + k, none⟩ (.int .u64 18446744073709551615)) (row'.setIfInBounds (i * 33 + k) (.int .u64 18446744073709551615)) (i * 33) ⟨clK (S i).h (k + 1), (S i).q, (S i).k⟩) := by
            rw [clK_set HLen.out hlt he]
            exact hRr.handler dfl hlt (clK_len HLen.out k) (hB.kw hu)
          have HB3 : Hid (RB (wr.setCell ⟨b, i * 33 + k, none⟩ (.int .u64 18446744073709551615)) b (row'.setIfInBounds (i * 33 + k) (.int .u64 18446744073709551615))) := hB.set _ _
          have HS3 : Hid (SameR (i * 33) row (row'.setIfInBounds (i * 33 + k) (.int .u64 18446744073709551615))) := hSm.trans (SameR.set _ _ (by omega))
          have HU3 : Hid (Upd b w (wr.setCell ⟨b, i * 33 + k, none⟩ (.int .u64 18446744073709551615))) := hU.trans hu
          generalize (S i).h.getD k 0 = x at *
          clear hB hRr hSm hU HR2 he hu
          go_wp2
          go_roundw
          case rel => exact ⟨k + 1, _, by omega, by go_num, HB3.out, HR3.out, HS3.out, HU3.out⟩
          case measure => simp [intOf]; omega
      · obtain rfl : k = 15 := by omega
        have i1 : decide (((15 : Nat) : Int) < 15) = false := rfl
        have c1 := (hB.cell (i * 33 + 30)).trans hRr.inh
        obtain ⟨a0, c0, e18, -, -⟩ := hRr.stk
        have c2 := (hB.cell (i * 33 + 31)).trans hRr.pc
        have c3 := (hB.cell (i * 33 + 32)).trans e18
        have f1 := hB.free (i * 33 + 30)
        have f2 := hB.free (i * 33 + 31)
        have f3 := hB.free (i * 33 + 32)
        have HF : Hid (RgAt (((wr.setCell ⟨b, i * 33 + 30, none⟩ (.bool false)).setCell ⟨b, i * 33 + 31, none⟩ (.int .i64 0)).setCell ⟨b, i * 33 + 32, none⟩ (.slice none 0 0)) b (S.set i ⟨clH (S i).h, (S i).q, none⟩) ∧ Upd b w (((wr.setCell ⟨b, i * 33 + 30, none⟩ (.bool false)).setCell ⟨b, i * 33 + 31, none⟩ (.int .i64 0)).setCell ⟨b, i * 33 + 32, none⟩ (.slice none 0 0))) := by
          have hu := upd_threeR b (i * 33) wr (.bool false) (.int .i64 0) (.slice none 0 0)
          refine ⟨⟨_, hB.three _ _ _, HR.out.put (hSm.trans (same_threeR _ row' _ _ _)) ?_ ((HB.out.kw hU).trans (hB.kw hu))⟩, hU.trans hu⟩
          have := hRr.three (k := none) (w' := ((wr.setCell ⟨b, i * 33 + 30, none⟩ (.bool false)).setCell ⟨b, i * 33 + 31, none⟩ (.int .i64 0)).setCell ⟨b, i * 33 + 32, none⟩ (.slice none 0 0)) none 0 (Nat.le_refl _) (TRd.nil _ _)
          rw [show (⟨clK (S i).h 15, (S i).q, (S i).k⟩ : Sg).h = clK (S i).h 15 from rfl, clK_all HLen.out] at this
          exact this
        generalize (⟨clK (S i).h 15, (S i).q, (S i).k⟩ : Sg).pc = kpc at *
        generalize (⟨clK (S i).h 15, (S i).q, (S i).k⟩ : Sg).st.length = kl at *
        generalize (⟨clK (S i).h 15, (S i).q, (S i).k⟩ : Sg).k.isSome = kb at *
        clear hB hRr hSm hU e18 HB2 HR2 HSm HU
        go_wp2
        go_end0
        exact ⟨rfl, by rw [HS.out]; exact HF.out.1, HF.out.2⟩

theorem xbuilt15 (a0 a1 a2 a3 a4 a5 a6 a7 a8 a9 a10 a11 a12 a13 a14 : Value) (kb : Bool) (pc : Int) (a : Option Addr) (n c : Nat) : Try.prog.built 69 [(0, Value.agg #[a0, a1, a2, a3, a4, a5, a6, a7, a8, a9, a10, a11, a12, a13, a14]), (2, Value.bool kb), (3, Value.agg #[Value.int .i64 pc, Value.slice a n c])] = some #[a0, a1, a2, a3, a4, a5, a6, a7, a8, a9, a10, a11, a12, a13, a14, Value.bool false, Value.bool false, Value.bool false, Value.bool false, Value.bool false, Value.bool false, Value.bool false, Value.bool false, Value.bool false, Value.bool false, Value.bool false, Value.bool false, Value.bool false, Value.bool false, Value.bool false, Value.bool kb, Value.int .i64 pc, Value.slice a n c] := by kernel_rfl
theorem xbuilt_proc (h : List Value) (hl : h.length = 15) (kb : Bool) (pc : Int) (a : Option Addr) (n c : Nat) : Try.prog.built 69 [(0, Value.agg h.toArray), (2, Value.bool kb), (3, Value.agg #[Value.int .i64 pc, Value.slice a n c])] = some (h ++ (List.replicate 15 (Value.bool false) ++ [Value.bool kb, Value.int .i64 pc, Value.slice a n c])).toArray := by
  obtain ⟨a0, a1, a2, a3, a4, a5, a6, a7, a8, a9, a10, a11, a12, a13, a14, rfl⟩ := list15 h hl
  exact xbuilt15 a0 a1 a2 a3 a4 a5 a6 a7 a8 a9 a10 a11 a12 a13 a14 kb pc a n c
/-- The cells of the reference's process. -/
def pvs (p : Sg) (q : Nat) (sl : Value) : List Value := hvs p ++ ((List.range 15).map (fun j => Value.bool (q.testBit (j + 1))) ++ [.bool p.k.isSome, .int .i64 p.pc, sl])
theorem pvs_len (p : Sg) (q : Nat) (sl : Value) : (pvs p q sl).length = 33 := by simp [pvs, hvs_len]
theorem pvs_zero (p : Sg) (sl : Value) : pvs p 0 sl = hvs p ++ (List.replicate 15 (Value.bool false) ++ [.bool p.k.isSome, .int .i64 p.pc, sl]) := by
  unfold pvs
  congr 2
theorem pvs_one (p : Sg) (q : Nat) (a : Option Addr) (n c : Nat) : ((pvs p q (.slice a n c)).toArray).all (·.oneCell') = true := by
  refine all_oneCell_toArray (fun v hv => ?_)
  simp only [pvs, hvs, List.mem_append, List.mem_map, List.mem_cons, List.not_mem_nil, or_false] at hv
  rcases hv with ⟨j, _, rfl⟩ | ⟨j, _, rfl⟩ | rfl | rfl | rfl <;> rfl
theorem pvs_hnd (p : Sg) (q : Nat) (sl : Value) (j : Nat) (hj : j < 15) : (pvs p q sl)[j]? = some (.int .u64 (p.h.getD j 0)) := by
  unfold pvs
  rw [List.getElem?_append_left (by rw [hvs_len]; omega), hvs_get p j hj]
theorem pvs_pen (p : Sg) (q : Nat) (sl : Value) (j : Nat) (hj : j < 15) : (pvs p q sl)[15 + j]? = some (.bool (q.testBit (j + 1))) := by
  unfold pvs
  rw [List.getElem?_append_right (by rw [hvs_len]; omega), hvs_len, List.getElem?_append_left (by simp; omega), List.getElem?_map, show 15 + j - 15 = j by omega, List.getElem?_range hj]
  rfl
theorem pvs_tail (p : Sg) (q : Nat) (sl : Value) (j : Nat) : (pvs p q sl)[30 + j]? = [Value.bool p.k.isSome, .int .i64 p.pc, sl][j]? := by
  unfold pvs
  rw [List.getElem?_append_right (by rw [hvs_len]; omega), hvs_len, List.getElem?_append_right (by simp; omega), List.length_map, List.length_range]
  congr 1
  omega
theorem pvs_range {w : World} {b o : Nat} {row : Array Value} {p : Sg} {a : Option Addr} {c : Nat} (hB : RB w b row) (hR : RgR w row o p) (h18 : row[o + 32]? = some (.slice a p.st.length c)) : w.rangeAt b o (pvs p p.q (.slice a p.st.length c)) := by
  intro j v hv
  have hj : j < 33 := by have := (List.getElem?_eq_some_iff.1 hv).1; rwa [pvs_len] at this
  rw [hB.cell]
  rcases (by omega : j < 15 ∨ (15 ≤ j ∧ j < 30) ∨ j = 30 ∨ j = 31 ∨ j = 32) with q | q | q | q | q
  · rw [pvs_hnd _ _ _ j q] at hv; rw [hR.hnd j q]; exact hv
  · obtain ⟨i, rfl⟩ : ∃ i, j = 15 + i := ⟨j - 15, by omega⟩
    rw [pvs_pen _ _ _ i (by omega)] at hv
    rw [← Nat.add_assoc, hR.pen i (by omega)]; exact hv
  · subst q; have := pvs_tail p p.q (.slice a p.st.length c) 0; rw [this] at hv; rw [hR.inh]; exact hv
  · subst q; have := pvs_tail p p.q (.slice a p.st.length c) 1; rw [this] at hv; rw [hR.pc]; exact hv
  · subst q; have := pvs_tail p p.q (.slice a p.st.length c) 2; rw [this] at hv; rw [h18]; exact hv
theorem pvs_R {w : World} {row : Array Value} {o c q : Nat} {p : Sg} {a : Option Addr} (h : o + 33 ≤ row.size) (h1 : ∀ j, j < 33 → row[o + j]? = (pvs p q (.slice a p.st.length c))[j]?) (hc : p.st.length ≤ c) (hT : TRd w a p.st) : RgR w row o ⟨p.h, q, p.k⟩ := by
  refine ⟨h, fun j hj => ?_, fun j hj => ?_, ?_, ?_, a, c, ?_, hc, hT⟩
  · rw [h1 j (by omega)]; exact pvs_hnd _ _ _ j hj
  · rw [Nat.add_assoc, h1 (15 + j) (by omega)]; exact pvs_pen _ _ _ j hj
  · rw [h1 30 (by omega)]; exact pvs_tail _ _ _ 0
  · rw [h1 31 (by omega)]; exact pvs_tail _ _ _ 1
  · rw [h1 32 (by omega)]; exact pvs_tail _ _ _ 2
set_option maxRecDepth 100000 in
set_option maxHeartbeats 2000000 in
theorem xfork_at (b : Nat) (S : SS) (pid child : Int) (w : World) (h : RgAt w b S) (hok : SOk S) :
    Calls Try.prog 34 #[.pointer (some ⟨b, 0, none⟩), .int .i64 pid, .int .i64 child] w fun e w' => e = .returned (.tuple #[]) ∧ RgAt w' b (fkS S pid child) ∧ Upd b w w' := by
  have hP := xPid_at pid w
  have hQ := xPid_at child w
  have HH : Hid (RgAt w b S) := h
  cases hp : isP pid with
  | false =>
    have HS : Hid (fkS S pid child = S) := by show _ = _; unfold fkS; rw [hp]; rfl
    rw [hp] at hP
    clear h hp hQ
    go_enter Try.func34, Try.ntmps34
    go_wp2_with fail
    refine hP.mono ?_
    rintro e w1 ⟨rfl, hw⟩
    rw [hw]
    clear hw w1 hP
    go_wp2
    refine bodyPost_ret (results_none rfl _ _ _) rfl ?_
    exact ⟨rfl, by rw [HS.out]; exact HH.out, Upd.refl _ _⟩
  | true =>
    rw [hp] at hP
    cases hc : isP child with
    | false =>
      have HS : Hid (fkS S pid child = S) := by show _ = _; unfold fkS; rw [hp, hc]; rfl
      rw [hc] at hQ
      clear h hp hc
      go_enter Try.func34, Try.ntmps34
      go_wp2_with fail
      refine hP.mono ?_
      rintro e w1 ⟨rfl, hw⟩
      rw [hw]
      clear hw w1 hP
      go_wp2_with fail
      refine hQ.mono ?_
      rintro e w1 ⟨rfl, hw⟩
      rw [hw]
      clear hw w1 hQ
      go_wp2
      refine bodyPost_ret (results_none rfl _ _ _) rfl ?_
      exact ⟨rfl, by rw [HS.out]; exact HH.out, Upd.refl _ _⟩
    | true =>
      rw [hc] at hQ
      by_cases hij : pid = child
      · have HS : Hid (fkS S pid child = S) := by show _ = _; unfold fkS; rw [hij]; simp
        have heq : (pid == child) = true := by rw [hij]; simp
        clear h hp hc hij
        go_enter Try.func34, Try.ntmps34
        go_wp2_with fail
        refine hP.mono ?_
        rintro e w1 ⟨rfl, hw⟩
        rw [hw]
        clear hw w1 hP
        go_wp2_with fail
        refine hQ.mono ?_
        rintro e w1 ⟨rfl, hw⟩
        rw [hw]
        clear hw w1 hQ
        go_wp2
        refine bodyPost_ret (results_none rfl _ _ _) rfl ?_
        exact ⟨rfl, by rw [HS.out]; exact HH.out, Upd.refl _ _⟩
      · have heq : (pid == child) = false := beq_false_of_ne hij
        obtain ⟨i, rfl, hi⟩ := isP_nat hp
        obtain ⟨j, rfl, hj⟩ := isP_nat hc
        have HS : Hid (fkS S ((i : Int) + 1) ((j : Int) + 1) = S.set j ⟨(S i).h, 0, (S i).k⟩) := by
          show _ = _
          unfold fkS
          rw [hp, hc, bne_iff_ne.2 hij, if_pos (by rfl), show ((i : Int) + 1 - 1).toNat = i by omega, show ((j : Int) + 1 - 1).toNat = j by omega]
        have hw1 := wr_pred i (by omega)
        have hw2 := wr_pred j (by omega)
        have hii : (i : Int) < 8 := by omega
        have hjj : (j : Int) < 8 := by omega
        obtain ⟨row, hB, hR⟩ := h
        have hRi := hR.at' i hi
        obtain ⟨a, c, e18, hcc, hT⟩ := hRi.stk
        obtain ⟨X0, hX0⟩ : ∃ X, X = (pvs (S i) (S i).q (.slice a (S i).st.length c)).toArray := ⟨_, rfl⟩
        have hrg : w.rangeAt b (i * 33) X0.toList := by rw [hX0]; exact pvs_range hB hRi e18
        have hXs : X0.size = 33 := by rw [hX0, List.size_toArray]; exact pvs_len _ _ _
        have hXo : X0.all (·.oneCell') = true := by rw [hX0]; exact pvs_one _ _ _ _ _
        obtain ⟨W, hW⟩ : ∃ W, W = w.alloc (.cells X0 69) := ⟨_, rfl⟩
        obtain ⟨q, hq⟩ : ∃ q, q = w.heap.size := ⟨_, rfl⟩
        have hbW : Below w.heap.size w W := by rw [hW]; exact below_alloc _ _
        have hkq : W.heap[q]? = some (.cells X0 69 (0, 0)) := by rw [hW, hq]; exact heap_alloc_new _ _
        have HKq : Hid (∀ w' : World, w'.heap[q]? = some (.cells X0 69 (0, 0)) → w'.rangeAt q 0 (hvs (S i)) ∧ w'.cell? ⟨q, 30, none⟩ = some (.bool (S i).k.isSome) ∧ w'.cell? ⟨q, 31, none⟩ = some (.int .i64 (S i).pc) ∧ w'.cell? ⟨q, 32, none⟩ = some (.slice a (S i).st.length c)) := fun w' h' => by
          refine ⟨fun k v hv => ?_, ?_, ?_, ?_⟩
          · have hk : k < 15 := by have := (List.getElem?_eq_some_iff.1 hv).1; rwa [hvs_len] at this
            rw [Nat.zero_add, cell_of_heap h', hX0, List.getElem?_toArray, pvs_hnd _ _ _ k hk, ← hv, hvs_get _ k hk]
          · rw [cell_of_heap h', hX0, List.getElem?_toArray]; exact pvs_tail _ _ _ 0
          · rw [cell_of_heap h', hX0, List.getElem?_toArray]; exact pvs_tail _ _ _ 1
          · rw [cell_of_heap h', hX0, List.getElem?_toArray]; exact pvs_tail _ _ _ 2
        have hKW : KeepW w W := KeepW.below hbW
        have hC := xcopy_at (S i).pc a (S i).st.length c (S i).st W.drew ((hT.kept hKW).rd : Rd W a (S i).st) rfl (by have := (hok i hi).st32; omega)
        have HBW : Hid (RB W b row) := hB.below hbW
        have HR : Hid (RgRow w row S) := hR
        have HXs : Hid (X0.size = 33) := hXs
        have HXo : Hid (X0.all (·.oneCell') = true) := hXo
        have HRg : Hid (w.rangeAt b (i * 33) X0.toList) := hrg
        have HKW : Hid (KeepW w W) := hKW
        have HbW : Hid (Below w.heap.size w W) := hbW
        have HQk : Hid (W.heap[q]? = some (.cells X0 69 (0, 0))) := hkq
        have HQb : Hid (q ≠ b) := by show q ≠ b; have := hB.lt; omega
        have hll : (hvs (S i)).length = 15 := hvs_len _
        have HBt : Hid (∀ a' n' c', Try.prog.built 69 [(0, .agg (hvs (S i)).toArray), (2, .bool (S i).k.isSome), (3, .agg #[.int .i64 (S i).pc, .slice a' n' c'])] = some (pvs (S i) 0 (.slice a' n' c')).toArray) := fun a' n' c' => by rw [pvs_zero]; exact xbuilt_proc _ (hvs_len _) _ _ _ _ _
        have HFin : Hid (∀ w' row' a' c', j * 33 + 33 ≤ Array.size row' → (∀ k, k < 33 → row'[j * 33 + k]? = (pvs (S i) 0 (.slice a' (S i).st.length c'))[k]?) → (S i).st.length ≤ c' → TRd w' a' (S i).st → RgR w' row' (j * 33) ⟨(S i).h, 0, (S i).k⟩) := fun w' row' a' c' h1 h2 h3 h4 => pvs_R h1 h2 h3 h4
        have HFl : Hid (∀ sl, (pvs (S i) 0 sl).length = 33) := fun sl => pvs_len _ _ _
        have HFo : Hid (∀ a' c', ((pvs (S i) 0 (.slice a' (S i).st.length c')).toArray).all (·.oneCell') = true) := fun a' c' => pvs_one _ _ _ _ _
        have HW : Hid (W = w.alloc (.cells X0 69)) := hW
        have HQ : Hid (q = w.heap.size) := hq
        have hzl := lit_fresh
        generalize hZ0 : frow tailR 0 = Z0 at *
        have HZs : Hid (Z0.size = 33) := by show _ = _; rw [← hZ0]; rfl
        clear hp hc hij hB hR hRi hT e18 hcc hX0 hrg hXs hXo hW hq hbW hkq hKW hZ0
        generalize hvs (S i) = hs at *
        generalize hFR : pvs (S i) 0 = FR at *
        clear hFR
        generalize (S i).k.isSome = kb at *
        generalize (S i).pc = kpc at *
        generalize hkl : (S i).st.length = kl at *
        have HKl : Hid ((S i).st.length = kl) := hkl
        clear hkl
        generalize (i : Int) + 1 = pd at *
        generalize (j : Int) + 1 = cd at *
        go_enter Try.func34, Try.ntmps34
        go_wp2_with fail
        refine hP.mono ?_
        rintro e w1 ⟨rfl, hw⟩
        rw [hw]
        clear hw w1 hP
        go_wp2_with fail
        refine hQ.mono ?_
        rintro e w1 ⟨rfl, hw⟩
        rw [hw]
        clear hw w1 hQ
        go_upto_region 2 with (first
          | (refine wpList_load_mid rfl 69 _ rfl b (i * 33) rfl X0.toList _ HRg.out Try.underlying69 rfl (by rw [Array.length_toList, HXs.out]; exact refSize) ?_)
          | (refine wpList_store_row rfl 69 _ _ rfl w.heap.size X0 rfl rfl 69 Z0 (heap_alloc_new _ _) (by rw [HXs.out]; exact refSize) (by rw [HXs.out, HZs.out]) HXo.out ?_; rw [setRow_alloc_new])
          | go_in)
        rw [← HW.out, ← HQ.out]
        clear HW hzl HRg
        refine wp_region_held_drew (S := fun w' => w'.rangeAt q 0 hs ∧ w'.cell? ⟨q, 30, none⟩ = some (.bool kb) ∧ w'.cell? ⟨q, 31, none⟩ = some (.int .i64 kpc) ∧ w'.cell? ⟨q, 32, none⟩ = some (.slice a kl c)) (by kernel_rfl) (HKq.out W.drew HQk.out) (fun hHeld => ?_)
        refine wpAnyH_take (i := 0) (v := ?_) rfl (by kernel_rfl) (by kernel_rfl) (by kernel_rfl) (fun _ _ _ h => h) (Or.inl ⟨by kernel_rfl, ?_⟩) (by assumption) ?_
        rotate_left
        · (intro w hSw; (try dsimp only at hSw); go_simp) <;> with_reducible rfl
        (try simp only [Act.put, List.getElem_toArray, List.getElem_cons_zero, List.setIfInBounds_toArray, List.set_cons_zero, List.set_cons_succ])
        refine wpAnyH_take (i := 1) (v := ?_) rfl (by kernel_rfl) (by kernel_rfl) (by kernel_rfl) (fun _ _ _ h => h) (Or.inl ⟨by kernel_rfl, ?_⟩) (by assumption) ?_
        rotate_left
        · (intro w hSw; (try dsimp only at hSw); go_simp) <;> with_reducible rfl
        (try simp only [Act.put, List.getElem_toArray, List.getElem_cons_zero, List.getElem_cons_succ, List.setIfInBounds_toArray, List.set_cons_zero, List.set_cons_succ])
        refine wpAnyH_take (i := 2) (v := ?_) rfl (by kernel_rfl) (by kernel_rfl) (by kernel_rfl) (fun _ _ _ h => h) (Or.inl ⟨by kernel_rfl, ?_⟩) (by assumption) ?_
        rotate_left
        · (intro w hSw; (try dsimp only at hSw); go_simp) <;> with_reducible rfl
        (try simp only [Act.put, List.getElem_toArray, List.getElem_cons_zero, List.getElem_cons_succ, List.setIfInBounds_toArray, List.set_cons_zero, List.set_cons_succ])
        refine wpAnyH_take (i := 3) (v := ?_) rfl (by kernel_rfl) (by kernel_rfl) (by kernel_rfl) (fun _ _ _ h => h) (Or.inl ⟨by kernel_rfl, ?_⟩) (by assumption) ?_
        rotate_left
        · (intro w hSw; (try dsimp only at hSw); go_simp) <;> with_reducible rfl
        (try simp only [Act.put, List.getElem_toArray, List.getElem_cons_zero, List.getElem_cons_succ, List.setIfInBounds_toArray, List.set_cons_zero, List.set_cons_succ])
        refine wpAnyH_take (i := 4) (v := .agg (hs).toArray) rfl (by kernel_rfl) (by kernel_rfl) (by kernel_rfl) (fun _ _ _ h => h) (yieldsIf_load_mid (by kernel_rfl) 60 _ rfl q 0 rfl (hs) _ (fun _ hS => hS.1) Try.underlying60 rfl (by rw [hll]; exact words15)) (by assumption) ?_
        (try simp only [Act.put, List.getElem_toArray, List.getElem_cons_zero, List.getElem_cons_succ, List.setIfInBounds_toArray, List.set_cons_zero, List.set_cons_succ])
        refine wpAnyH_take (i := 5) (v := ?_) rfl (by kernel_rfl) (by kernel_rfl) (by kernel_rfl) (fun _ _ _ h => h) (Or.inl ⟨by kernel_rfl, ?_⟩) (by assumption) ?_
        rotate_left
        · (intro w hSw; (try dsimp only at hSw); go_simp) <;> with_reducible rfl
        (try simp only [Act.put, List.getElem_toArray, List.getElem_cons_zero, List.getElem_cons_succ, List.setIfInBounds_toArray, List.set_cons_zero, List.set_cons_succ])
        refine wpAnyH_take (i := 6) (v := ?_) rfl (by kernel_rfl) (by kernel_rfl) (by kernel_rfl) (fun _ _ _ h => h) (Or.inl ⟨by kernel_rfl, ?_⟩) (by assumption) ?_
        rotate_left
        · (intro w hSw; (try dsimp only at hSw); go_simp) <;> with_reducible rfl
        (try simp only [Act.put, List.getElem_toArray, List.getElem_cons_zero, List.getElem_cons_succ, List.setIfInBounds_toArray, List.set_cons_zero, List.set_cons_succ])
        refine wpAnyH_take (i := 7) (v := ?_) rfl (by kernel_rfl) (by kernel_rfl) (by kernel_rfl) (fun _ _ _ h => h) (Or.inl ⟨by kernel_rfl, ?_⟩) (by assumption) ?_
        rotate_left
        · (intro w hSw; (try dsimp only at hSw); go_simp) <;> with_reducible rfl
        (try simp only [Act.put, List.getElem_toArray, List.getElem_cons_zero, List.getElem_cons_succ, List.setIfInBounds_toArray, List.set_cons_zero, List.set_cons_succ])
        refine wpAnyH_take (i := 8) (v := ?_) rfl (by kernel_rfl) (by kernel_rfl) (by kernel_rfl) (fun _ _ _ h => h) (Or.inl ⟨by kernel_rfl, ?_⟩) (by assumption) ?_
        rotate_left
        · (intro w hSw; (try dsimp only at hSw); go_simp) <;> with_reducible rfl
        (try simp only [Act.put, List.getElem_toArray, List.getElem_cons_zero, List.getElem_cons_succ, List.setIfInBounds_toArray, List.set_cons_zero, List.set_cons_succ])
        refine wpAnyH_take (i := 11) (v := ?_) rfl (by kernel_rfl) (by kernel_rfl) (by kernel_rfl) (fun _ _ _ h => h) (Or.inl ⟨by kernel_rfl, ?_⟩) (by assumption) ?_
        rotate_left
        · (intro w hSw; (try dsimp only at hSw); go_simp) <;> with_reducible rfl
        (try simp only [Act.put, List.getElem_toArray, List.getElem_cons_zero, List.getElem_cons_succ, List.setIfInBounds_toArray, List.set_cons_zero, List.set_cons_succ])
        refine wpAnyH_take (i := 12) (v := ?_) rfl (by kernel_rfl) (by kernel_rfl) (by kernel_rfl) (fun _ _ _ h => h) (Or.inl ⟨by kernel_rfl, ?_⟩) (by assumption) ?_
        rotate_left
        · (intro w hSw; (try dsimp only at hSw); go_simp) <;> with_reducible rfl
        (try simp only [Act.put, List.getElem_toArray, List.getElem_cons_zero, List.getElem_cons_succ, List.setIfInBounds_toArray, List.set_cons_zero, List.set_cons_succ])
        refine wpAnyH_ready (rs := [9]) (by kernel_rfl) (by simp) ?_
        refine AllReadyH.cons rfl (fun K hK => ?_) AllReadyH.nil
        go_simp
        refine hC.mono ?_
        rintro e w1 ⟨a', c', rfl, hc', hT', hb1⟩
        have HB1 : Hid (RB w1 b row) := (RB.drew HBW.out).below hb1
        have HK1 : Hid (KeepW w w1) := (HKW.out.trans (KeepW.below (Below.refl W.heap.size W).drew)).trans (KeepW.below hb1)
        have HBw : Hid (Below w.heap.size w w1) := HbW.out.trans (((Below.refl W.heap.size W).drew.trans (hb1.mono (Nat.le_refl _))).mono HbW.out.size)
        have HT1 : Hid (TRd w1 a' (S i).st) := hT'
        have HC1 : Hid (kl ≤ c') := hc'
        have hk1 := (hb1.block q (lt_of_heap HQk.out)).trans HQk.out
        have HQ1 : Hid (w1.heap[q]? = some (.cells X0 69 (0, 0))) := hk1
        have hS1 := HKq.out w1 hk1
        clear hb1 hC hT' hc' hk1
        refine hK.out _ _ hS1 (fun hHeld => ?_)
        clear hK K
        (try simp only [Act.put, List.getElem_toArray, List.getElem_cons_zero, List.getElem_cons_succ, List.setIfInBounds_toArray, List.set_cons_zero, List.set_cons_succ])
        clear hS1
        have hbt := HBt.out a' kl c'
        have hfl := HFl.out (.slice a' kl c')
        have hfo := HFo.out a' c'
        generalize hX : (FR (.slice a' kl c')).toArray = X at *
        have HX : Hid ((FR (.slice a' kl c')).toArray = X) := hX
        have HXz : Hid (X.size = 33) := by show _ = _; rw [← hX, List.size_toArray]; exact hfl
        clear hX
        refine wpAnyH_take (i := 10) (v := .agg X) rfl (by kernel_rfl) (by kernel_rfl) (by kernel_rfl) (fun _ _ _ h => h) (yieldsIf_build (by kernel_rfl) 69 _ rfl X (by rw [← hbt]; go_simp)) (by assumption) ?_
        simp only [Act.put, List.getElem_toArray, List.getElem_cons_zero, List.getElem_cons_succ, List.setIfInBounds_toArray, List.set_cons_zero, List.set_cons_succ]
        clear hbt
        refine wpAnyH_take (i := 13) (v := ?_) rfl (by kernel_rfl) (by kernel_rfl) (by kernel_rfl) (fun _ _ _ h => h) (Or.inl ⟨by kernel_rfl, ?_⟩) (by assumption) ?_
        rotate_left
        · (intro w hSw; (try dsimp only at hSw); go_simp) <;> with_reducible rfl
        (try simp only [Act.put, List.getElem_toArray, List.getElem_cons_zero, List.getElem_cons_succ, List.setIfInBounds_toArray, List.set_cons_zero, List.set_cons_succ])
        refine wpAnyH_ready (rs := [14]) (by kernel_rfl) (by simp) ?_
        refine AllReadyH.cons rfl (fun K hK => ?_) AllReadyH.nil
        refine wp_store_mid 69 _ _ rfl b (j * 33) X rfl rfl (HB1.out.there _ _ (by have := HR.out.size; rw [HXz.out]; omega)) (by rw [HXz.out]; exact refSize) hfo ?_
        have hu := upd_sets b X.toList (j * 33) w1
        have hB2 := HB1.out.sets X.toList (j * 33) _ _
        have hl : X.toList.length = 33 := by rw [Array.length_toList]; exact HXz.out
        have HF : Hid (RgAt (w1.setCells b (j * 33) X.toList) b (S.set j ⟨(S i).h, 0, (S i).k⟩)) := by
          refine ⟨_, hB2, HR.out.put (putA_sameR (j * 33) row hl) (HFin.out _ _ a' c' ?_ (fun k hk => ?_) HC1.out (HT1.out.kept (HB1.out.kw hu))) (HK1.out.trans (HB1.out.kw hu))⟩
          · rw [putA_size]; have := HR.out.size; omega
          · rw [putA_in _ _ _ k (by omega) (by have := HR.out.size; omega), Array.getElem?_toList, ← HX.out, List.getElem?_toArray]
        have HU : Hid (Upd b w (w1.setCells b (j * 33) X.toList)) := (Upd.of_below HBw.out).trans hu
        have hS2 := HKq.out (w1.setCells b (j * 33) X.toList) ((hu.block q (lt_of_heap HQ1.out) HQb.out).trans HQ1.out)
        clear hu hB2 hl
        generalize w1.setCells b (j * 33) X.toList = w2 at *
        refine hK.out _ _ hS2 (fun hHeld => ?_)
        clear hK K
        simp only [Act.put, List.getElem_toArray, List.getElem_cons_zero, List.getElem_cons_succ]
        refine wpAnyH_done (by kernel_rfl) ?_ _
        clear hHeld
        go_wp2
        go_end0
        exact ⟨rfl, by rw [HS.out]; exact HF.out, HU.out⟩
end Go.Proofs.Ytliifpknkdjgjaa
