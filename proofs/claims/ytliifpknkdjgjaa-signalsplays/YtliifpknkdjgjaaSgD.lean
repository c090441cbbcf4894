/- Package signals: New, process, Set, Send, Next. -/
import Derived.Test.YtliifpknkdjgjaaSgC
namespace Go.Proofs.Ytliifpknkdjgjaa
open Go.RowKit
set_option linter.unusedVariables false

/-- The cells of zeroed signals. -/
def srow : Array Value := ((List.replicate 8 (frow tailS 0).toList).flatten).toArray
theorem srow_size : srow.size = 152 := by kernel_rfl
theorem srow_zero : (Try.prog.info? 65).map (·.zero) = some (some (.agg srow)) := by kernel_rfl
theorem zero_sig (W : World) : (zeroValue 65).run Try.prog W = .ok (.agg srow) W := by
  obtain ⟨i, hi, hz⟩ := Option.map_eq_some_iff.1 srow_zero
  simp [zeroValue, typeInfo, hi, hz]
/-- The first k processes are as at first. -/
structure FirstK (w : World) (row : Array Value) (k : Nat) : Prop where
  size : row.size = 152
  at' : ∀ i, i < k → SgR w row (i * 19) Sg.first
theorem FirstK.next {w w' : World} {row : Array Value} {k : Nat} (h : FirstK w row k) (hk : k < 8) (hw : KeepW w w') : FirstK w' (putA row (k * 19) (frow tailS 15).toList) (k + 1) := by
  have hs := h.size
  have hl : (frow tailS 15).toList.length = 19 := rfl
  have hsm := putA_same (k * 19) row hl
  refine ⟨hsm.1.trans hs, fun i hi => ?_⟩
  by_cases e : i = k
  · subst e
    refine first_R (by rw [hsm.1]; omega) (fun j hj => ?_)
    rw [putA_in _ _ _ j (by omega) (by omega), Array.getElem?_toList]
  · exact (h.at' i (by omega)).keep hsm.1 (fun q h1 h2 => hsm.2 q (by omega)) hw
set_option maxRecDepth 100000 in
set_option maxHeartbeats 2000000 in
theorem new_at (w : World) :
    Calls Try.prog 8 #[] w fun x w' => x = .returned (.pointer (some ⟨w.heap.size, 0, none⟩)) ∧ SgAt w' w.heap.size SS.first ∧ Below w.heap.size w w' := by
  have HR : Hid (srow.size = 152) := srow_size
  have hz := zero_sig
  generalize srow = R at *
  obtain ⟨b, hb⟩ : ∃ b, b = w.heap.size := ⟨_, rfl⟩
  have HBb : Hid (b = w.heap.size) := hb
  go_enter Try.func8, Try.ntmps8
  go_wp2
  have HN : Hid (SB (w.alloc (.cells R 65)) b R) := by rw [hb]; exact heap_alloc_new _ _
  have HB : Hid (Below w.heap.size w (w.alloc (.cells R 65))) := below_alloc _ _
  rw [← hb]
  generalize w.alloc (.cells R 65) = W at *
  clear hz hb
  go_loopw [5] (fun s wr => ∃ (k : Nat) (row : Array Value), k ≤ 8 ∧ s = .int .i64 k ∧ SB wr b row ∧ FirstK wr row k ∧ Below w.heap.size w wr) (fun s _ => 8 - (intOf s).toNat)
  case atStart => exact ⟨0, R, by omega, rfl, HN.out, ⟨HR.out, fun i hi => by omega⟩, HB.out⟩
  case round =>
    clear HN HB
    obtain ⟨k, row, hk, rfl, hS, hF, hB⟩ := hrel
    have HS : Hid (SB wr b row) := hS
    have HF : Hid (FirstK wr row k) := hF
    have HB : Hid (Below w.heap.size w wr) := hB
    by_cases hlt : k < 8
    · have i1 : decide ((k : Int) < 8) = true := decide_eq_true (by omega)
      have hki : (k : Int) < 8 := by omega
      have hAF := atFirst_at wr.drew
      have HFs : Hid ((frow tailS 15).size = 19) := rfl
      have HFo : Hid ((frow tailS 15).all (·.oneCell') = true) := frow_one (fun v hv => by simp [tailS] at hv; rcases hv with rfl | rfl | rfl | rfl <;> rfl)
      have HNx : Hid (∀ w', KeepW wr w' → FirstK w' (putA row (k * 19) (frow tailS 15).toList) (k + 1)) := fun w' hw => hF.next hlt hw
      generalize frow tailS 15 = F at *
      clear hS hF hB
      go_wp2_with fail
      refine wp_region_held_drew (S := fun w' => True) (by kernel_rfl) trivial (fun hHeld => ?_)
      refine wpAnyH_take (i := 0) (v := ?_) rfl (by kernel_rfl) (by kernel_rfl) (by kernel_rfl) (fun _ _ _ h => h) (Or.inl ⟨by kernel_rfl, ?_⟩) (by assumption) ?_
      rotate_left
      · (intro w hSw; (try dsimp only at hSw); go_simp) <;> with_reducible rfl
      (try simp only [Act.put, List.getElem_toArray, List.getElem_cons_zero, List.setIfInBounds_toArray, List.set_cons_zero, List.set_cons_succ])
      refine wpAnyH_take (i := 1) (v := ?_) rfl (by kernel_rfl) (by kernel_rfl) (by kernel_rfl) (fun _ _ _ h => h) (Or.inl ⟨by kernel_rfl, ?_⟩) (by assumption) ?_
      rotate_left
      · (intro w hSw; (try dsimp only at hSw); go_simp) <;> with_reducible rfl
      (try simp only [Act.put, List.getElem_toArray, List.getElem_cons_zero, List.getElem_cons_succ, List.setIfInBounds_toArray, List.set_cons_zero, List.set_cons_succ])
      refine wpAnyH_take (i := 3) (v := ?_) rfl (by kernel_rfl) (by kernel_rfl) (by kernel_rfl) (fun _ _ _ h => h) (Or.inl ⟨by kernel_rfl, ?_⟩) (by assumption) ?_
      rotate_left
      · (intro w hSw; (try dsimp only at hSw); go_simp) <;> with_reducible rfl
      (try simp only [Act.put, List.getElem_toArray, List.getElem_cons_zero, List.getElem_cons_succ, List.setIfInBounds_toArray, List.set_cons_zero, List.set_cons_succ])
      refine wpAnyH_take (i := 4) (v := ?_) rfl (by kernel_rfl) (by kernel_rfl) (by kernel_rfl) (fun _ _ _ h => h) (Or.inl ⟨by kernel_rfl, ?_⟩) (by assumption) ?_
      rotate_left
      · (intro w hSw; (try dsimp only at hSw); go_simp) <;> with_reducible rfl
      (try simp only [Act.put, List.getElem_toArray, List.getElem_cons_zero, List.getElem_cons_succ, List.setIfInBounds_toArray, List.set_cons_zero, List.set_cons_succ])
      refine wpAnyH_ready (rs := [2]) (by kernel_rfl) (by simp) ?_
      refine AllReadyH.cons rfl (fun K hK => ?_) AllReadyH.nil
      go_simp
      refine hAF.mono ?_
      rintro e w1 ⟨rfl, hb1⟩
      have HS1 : Hid (SB w1 b row) := (SB.drew HS.out).below hb1
      have HK1 : Hid (KeepW wr w1) := (KeepW.below (Below.refl wr.heap.size wr).drew).trans (KeepW.below hb1)
      have HB1 : Hid (Below w.heap.size w w1) := HB.out.drew.trans (hb1.mono (by have := HB.out.size; simpa using this))
      clear hb1 hAF
      refine hK.out _ _ trivial (fun hHeld => ?_)
      clear hK K
      (try simp only [Act.put, List.getElem_toArray, List.getElem_cons_zero, List.getElem_cons_succ, List.setIfInBounds_toArray, List.set_cons_zero, List.set_cons_succ])
      refine wpAnyH_take (i := 5) (v := ?_) rfl (by kernel_rfl) (by kernel_rfl) (by kernel_rfl) (fun _ _ _ h => h) (Or.inl ⟨by kernel_rfl, ?_⟩) (by assumption) ?_
      rotate_left
      · (intro w hSw; (try dsimp only at hSw); go_simp) <;> with_reducible rfl
      (try simp only [Act.put, List.getElem_toArray, List.getElem_cons_zero, List.getElem_cons_succ, List.setIfInBounds_toArray, List.set_cons_zero, List.set_cons_succ])
      refine wpAnyH_ready (rs := [6]) (by kernel_rfl) (by simp) ?_
      refine AllReadyH.cons rfl (fun K hK => ?_) AllReadyH.nil
      refine wp_store_mid 62 _ _ rfl b (k * 19) F rfl rfl (HS1.out.there _ _ (by have := HF.out.size; rw [HFs.out]; omega)) (by rw [HFs.out]; exact procSize) HFo.out ?_
      have HS2 : Hid (SB (w1.setCells b (k * 19) F.toList) b (putA row (k * 19) F.toList)) := SB.sets _ _ _ _ HS1.out
      have HU2 : Hid (Upd b w1 (w1.setCells b (k * 19) F.toList)) := upd_sets _ _ _ _
      generalize w1.setCells b (k * 19) F.toList = w2 at *
      have HF2 : Hid (FirstK w2 (putA row (k * 19) F.toList) (k + 1)) := HNx.out _ (HK1.out.trans (HS1.out.kw HU2.out))
      have HB2 : Hid (Below w.heap.size w w2) := HB1.out.trans (HU2.out.below (by have := HBb.out; omega) HB1.out.size)
      refine hK.out _ _ trivial (fun hHeld => ?_)
      clear hK K
      simp only [Act.put, List.getElem_toArray, List.getElem_cons_zero, List.getElem_cons_succ]
      refine wpAnyH_done (by kernel_rfl) ?_ _
      clear hHeld
      go_wp2
      go_roundw
      case rel => exact ⟨k + 1, _, by omega, by go_num, HS2.out, HF2.out, HB2.out⟩
      case measure => simp [intOf]; omega
    · obtain rfl : k = 8 := by omega
      have i1 : decide (((8 : Nat) : Int) < 8) = false := rfl
      clear hS hF hB
      go_wp2
      go_ret
      exact ⟨by rw [HBb.out]; rfl, ⟨row, by rw [← HBb.out]; exact HS.out, HF.out.size, HF.out.at'⟩, HB.out⟩

theorem process_nil (n : Int) (w : World) :
    Calls Try.prog 39 #[.pointer none, .int .i64 n] w fun x w' => x = .returned (.pointer none) ∧ w' = w := by
  go_enter Try.func39, Try.ntmps39
  go_wp2
  go_ret
  exact ⟨rfl, rfl⟩
theorem process_no (b : Nat) (n : Int) (w : World) (hn : isP n = false) :
    Calls Try.prog 39 #[.pointer (some ⟨b, 0, none⟩), .int .i64 n] w fun x w' => x = .returned (.pointer none) ∧ w' = w := by
  have hne := ptr_eq b 0
  rcases isP_no hn with h | h
  · have g0 : decide (n < 1) = true := decide_eq_true (by omega)
    clear hn
    go_enter Try.func39, Try.ntmps39
    go_wp2
    go_ret
    exact ⟨rfl, rfl⟩
  · have g0 : decide (n < 1) = false := decide_eq_false (by omega)
    have g1 : decide (8 < n) = true := decide_eq_true h
    clear hn
    go_enter Try.func39, Try.ntmps39
    go_wp2
    go_ret
    exact ⟨rfl, rfl⟩
theorem process_yes (b i : Nat) (w : World) (hi : i < 8) :
    Calls Try.prog 39 #[.pointer (some ⟨b, 0, none⟩), .int .i64 ((i : Int) + 1)] w fun x w' => x = .returned (.pointer (some ⟨b, i * 19, none⟩)) ∧ w' = w := by
  have hne := ptr_eq b 0
  have g0 : decide ((i : Int) + 1 < 1) = false := decide_eq_false (by omega)
  have g1 : decide (8 < (i : Int) + 1) = false := decide_eq_false (by omega)
  have hw : IntKind.i64.wrap ((i : Int) + 1 - 1) = (i : Int) := by simp [IntKind.wrap, IntKind.bits, IntKind.signed]; omega
  have hii : (i : Int) < 8 := by omega
  generalize (i : Int) + 1 = n at *
  go_enter Try.func39, Try.ntmps39
  go_wp2
  go_ret
  exact ⟨by simp, rfl⟩

theorem SgR.handler {w w' : World} {row : Array Value} {o m : Nat} {p : Sg} (h : SgR w row o p) (x : Int) (hm : m < 15) (hl : p.h.length = 15) (hw : KeepW w w') : SgR w' (row.setIfInBounds (o + m) (.int .u64 x)) o ⟨p.h.set m x, p.q, p.k⟩ := by
  have hs := h.size
  obtain ⟨a, c, h1, h2, h3⟩ := h.stk
  refine ⟨by simpa using hs, fun j hj => ?_, ?_, ?_, ?_, ⟨a, c, ?_, h2, h3.kept hw⟩⟩
  · rw [Array.getElem?_setIfInBounds]
    show _ = some (Value.int .u64 ((p.h.set m x).getD j 0))
    by_cases e : m = j
    · subst e
      rw [if_pos rfl, if_pos (by omega), List.getD_eq_getElem?_getD, List.getElem?_set_self (by omega)]
      rfl
    · rw [if_neg (by omega), h.hnd j hj, List.getD_eq_getElem?_getD, List.getD_eq_getElem?_getD, List.getElem?_set_ne e]
  · rw [Array.getElem?_setIfInBounds, if_neg (by omega)]; exact h.pen
  · rw [Array.getElem?_setIfInBounds, if_neg (by omega)]; exact h.inh
  · rw [Array.getElem?_setIfInBounds, if_neg (by omega)]; exact h.pc
  · rw [Array.getElem?_setIfInBounds, if_neg (by omega)]; exact h1
theorem setHandler_at (b o m : Nat) (x : Int) (p : Sg) (row : Array Value) (w : World) (hb : SB w b row) (hr : SgR w row o p) (hm : m < 15) (hl : p.h.length = 15) :
    Calls Try.prog 41 #[.pointer (some ⟨b, o, none⟩), .int .i64 ((m : Int) + 1), .int .u64 x] w fun e w' => e = .returned (.tuple #[]) ∧ ∃ row', SB w' b row' ∧ SgR w' row' o ⟨p.h.set m x, p.q, p.k⟩ ∧ Same o row row' ∧ Upd b w w' := by
  have c0 := (hb.cell (o + m)).trans (hr.hnd m hm)
  have f0 := hb.free (o + m)
  have hw : IntKind.i64.wrap ((m : Int) + 1 - 1) = (m : Int) := by simp [IntKind.wrap, IntKind.bits, IntKind.signed]; omega
  have hmi : (m : Int) < 15 := by omega
  have HF : Hid (∃ row', SB (w.setCell ⟨b, o + m, none⟩ (.int .u64 x)) b row' ∧ SgR (w.setCell ⟨b, o + m, none⟩ (.int .u64 x)) row' o ⟨p.h.set m x, p.q, p.k⟩ ∧ Same o row row' ∧ Upd b w (w.setCell ⟨b, o + m, none⟩ (.int .u64 x))) := by
    have hu : Upd b w (w.setCell ⟨b, o + m, none⟩ (.int .u64 x)) := Upd.setCell _ _ _ _
    exact ⟨_, hb.set _ _, hr.handler x hm hl (hb.kw hu), Same.set _ _ (by omega), hu⟩
  clear hb hr
  generalize (m : Int) + 1 = n at *
  go_enter Try.func41, Try.ntmps41
  go_wp2
  go_end0
  exact ⟨rfl, HF.out⟩

theorem set_nil (pid sig x : Int) (w : World) :
    Calls Try.prog 18 #[.pointer none, .int .i64 pid, .int .i64 sig, .int .u64 x] w fun e w' => e = .returned (.int .i64 3) ∧ w' = w := by
  have hP := process_nil pid w
  go_enter Try.func18, Try.ntmps18
  go_wp2_with fail
  refine hP.mono ?_
  rintro e w1 ⟨rfl, hw⟩
  rw [hw]
  clear hw w1 hP
  go_wp2
  go_ret
  exact ⟨rfl, rfl⟩
set_option maxHeartbeats 1000000 in
theorem set_at (b : Nat) (S : SS) (pid sig x : Int) (w : World) (h : SgAt w b S) (hok : SOk S) :
    Calls Try.prog 18 #[.pointer (some ⟨b, 0, none⟩), .int .i64 pid, .int .i64 sig, .int .u64 x] w fun e w' => e = .returned (.int .i64 (seE pid sig)) ∧ SgAt w' b (seS S pid sig x) ∧ Upd b w w' := by
  cases hp : isP pid with
  | false =>
    have hP := process_no b pid w hp
    have HE : Hid (seE pid sig = 3) := by show _ = _; unfold seE; rw [hp]; rfl
    have HS : Hid (seS S pid sig x = S) := by show _ = _; unfold seS; rw [hp]; rfl
    have HH : Hid (SgAt w b S) := h
    clear h hp
    go_enter Try.func18, Try.ntmps18
    go_wp2_with fail
    refine hP.mono ?_
    rintro e w1 ⟨rfl, hw⟩
    rw [hw]
    clear hw w1 hP
    go_wp2
    go_ret
    exact ⟨by rw [HE.out]; rfl, by rw [HS.out]; exact HH.out, Upd.refl _ _⟩
  | true =>
    obtain ⟨i, rfl, hi⟩ := isP_nat hp
    have hP := process_yes b i w hi
    have hI := isSignal_at sig w
    have hnn := pptr_eq b (i * 19)
    cases hs : isS sig with
    | false =>
      have HE : Hid (seE ((i : Int) + 1) sig = 22) := by show _ = _; unfold seE; rw [hp, hs]; rfl
      have HS : Hid (seS S ((i : Int) + 1) sig x = S) := by show _ = _; unfold seS; rw [hp, hs]; rfl
      have HH : Hid (SgAt w b S) := h
      rw [hs] at hI
      clear h hp hs
      go_enter Try.func18, Try.ntmps18
      go_wp2_with fail
      refine hP.mono ?_
      rintro e w1 ⟨rfl, hw⟩
      rw [hw]
      clear hw w1 hP
      go_wp2_with fail
      refine hI.mono ?_
      rintro e w1 ⟨rfl, hw⟩
      rw [hw]
      clear hw w1 hI
      go_wp2
      go_ret
      exact ⟨by rw [HE.out]; rfl, by rw [HS.out]; exact HH.out, Upd.refl _ _⟩
    | true =>
      rw [hs] at hI
      by_cases h9 : sig = 9
      · have HE : Hid (seE ((i : Int) + 1) sig = 22) := by show _ = _; unfold seE; rw [hp, hs, h9]; rfl
        have HS : Hid (seS S ((i : Int) + 1) sig x = S) := by show _ = _; unfold seS; rw [hp, hs, h9]; rfl
        have HH : Hid (SgAt w b S) := h
        have g0 : (sig == 9) = true := by rw [h9]; rfl
        clear h hp hs h9
        go_enter Try.func18, Try.ntmps18
        go_wp2_with fail
        refine hP.mono ?_
        rintro e w1 ⟨rfl, hw⟩
        rw [hw]
        clear hw w1 hP
        go_wp2_with fail
        refine hI.mono ?_
        rintro e w1 ⟨rfl, hw⟩
        rw [hw]
        clear hw w1 hI
        go_wp2
        go_ret
        exact ⟨by rw [HE.out]; rfl, by rw [HS.out]; exact HH.out, Upd.refl _ _⟩
      · have g0 : (sig == 9) = false := beq_false_of_ne h9
        have h9b : (sig != 9) = true := bne_iff_ne.2 h9
        obtain ⟨m, rfl, hm⟩ := isS_nat hs
        have HE : Hid (seE ((i : Int) + 1) ((m : Int) + 1) = 0) := by show _ = _; unfold seE; rw [hp, hs, h9b]; rfl
        have HS : Hid (seS S ((i : Int) + 1) ((m : Int) + 1) x = S.set i ⟨(S i).h.set m x, (S i).q, (S i).k⟩) := by
          show _ = _
          unfold seS
          rw [hp, hs, h9b, if_pos (by rfl), show ((i : Int) + 1 - 1).toNat = i by omega, show ((m : Int) + 1 - 1).toNat = m by omega]
        obtain ⟨row, hB, hR⟩ := h
        have hSe := setHandler_at b (i * 19) m x (S i) row w hB (hR.at' i hi) hm (hok i hi).len
        have HB : Hid (SB w b row) := hB
        have HR : Hid (SgRow w row S) := hR
        clear hp hs h9 h9b hB hR
        go_enter Try.func18, Try.ntmps18
        go_wp2_with fail
        refine hP.mono ?_
        rintro e w1 ⟨rfl, hw⟩
        rw [hw]
        clear hw w1 hP
        go_wp2_with fail
        refine hI.mono ?_
        rintro e w1 ⟨rfl, hw⟩
        rw [hw]
        clear hw w1 hI
        go_wp2_with fail
        refine hSe.mono ?_
        rintro e w1 ⟨rfl, row', hB2, hR2, hS2, hU2⟩
        have HF : Hid (SgAt w1 b (S.set i ⟨(S i).h.set m x, (S i).q, (S i).k⟩)) := ⟨row', hB2, HR.out.put hS2 hR2 (HB.out.kw hU2)⟩
        have HU : Hid (Upd b w w1) := hU2
        clear hSe hB2 hR2 hS2 hU2
        go_wp2
        go_ret
        exact ⟨by rw [HE.out]; rfl, by rw [HS.out]; exact HF.out, HU.out⟩
theorem send_nil (pid sig : Int) (w : World) :
    Calls Try.prog 19 #[.pointer none, .int .i64 pid, .int .i64 sig] w fun e w' => e = .returned (.int .i64 3) ∧ w' = w := by
  have hP := process_nil pid w
  go_enter Try.func19, Try.ntmps19
  go_wp2_with fail
  refine hP.mono ?_
  rintro e w1 ⟨rfl, hw⟩
  rw [hw]
  clear hw w1 hP
  go_wp2
  go_ret
  exact ⟨rfl, rfl⟩
set_option maxHeartbeats 1000000 in
theorem send_at (b : Nat) (S : SS) (pid sig : Int) (w : World) (h : SgAt w b S) (hok : SOk S) :
    Calls Try.prog 19 #[.pointer (some ⟨b, 0, none⟩), .int .i64 pid, .int .i64 sig] w fun e w' => e = .returned (.int .i64 (sdE pid sig)) ∧ SgAt w' b (sdS S pid sig) ∧ Upd b w w' := by
  cases hp : isP pid with
  | false =>
    have hP := process_no b pid w hp
    have HE : Hid (sdE pid sig = 3) := by show _ = _; unfold sdE; rw [hp]; rfl
    have HS : Hid (sdS S pid sig = S) := by show _ = _; unfold sdS; rw [hp]; rfl
    have HH : Hid (SgAt w b S) := h
    clear h hp
    go_enter Try.func19, Try.ntmps19
    go_wp2_with fail
    refine hP.mono ?_
    rintro e w1 ⟨rfl, hw⟩
    rw [hw]
    clear hw w1 hP
    go_wp2
    go_ret
    exact ⟨by rw [HE.out]; rfl, by rw [HS.out]; exact HH.out, Upd.refl _ _⟩
  | true =>
    obtain ⟨i, rfl, hi⟩ := isP_nat hp
    have hP := process_yes b i w hi
    have hI := isSignal_at sig w
    have hnn := pptr_eq b (i * 19)
    cases hs : isS sig with
    | false =>
      have HE : Hid (sdE ((i : Int) + 1) sig = 22) := by show _ = _; unfold sdE; rw [hp, hs]; rfl
      have HS : Hid (sdS S ((i : Int) + 1) sig = S) := by show _ = _; unfold sdS; rw [hp, hs]; rfl
      have HH : Hid (SgAt w b S) := h
      rw [hs] at hI
      clear h hp hs
      go_enter Try.func19, Try.ntmps19
      go_wp2_with fail
      refine hP.mono ?_
      rintro e w1 ⟨rfl, hw⟩
      rw [hw]
      clear hw w1 hP
      go_wp2_with fail
      refine hI.mono ?_
      rintro e w1 ⟨rfl, hw⟩
      rw [hw]
      clear hw w1 hI
      go_wp2
      go_ret
      exact ⟨by rw [HE.out]; rfl, by rw [HS.out]; exact HH.out, Upd.refl _ _⟩
    | true =>
      rw [hs] at hI
      obtain ⟨m, rfl, hm⟩ := isS_nat hs
      have HE : Hid (sdE ((i : Int) + 1) ((m : Int) + 1) = 0) := by show _ = _; unfold sdE; rw [hp, hs]; rfl
      have HS : Hid (sdS S ((i : Int) + 1) ((m : Int) + 1) = S.set i ((S i).q' (addB (S i).q (m + 1)))) := by
        show _ = _
        unfold sdS
        rw [hp, hs, if_pos (by rfl), show ((i : Int) + 1 - 1).toNat = i by omega, show ((m : Int) + 1).toNat = m + 1 by omega]
      obtain ⟨row, hB, hR⟩ := h
      have hRi := hR.at' i hi
      have hq := (hok i hi).pend.1
      have c0 := (hB.cell (i * 19 + 15)).trans hRi.pen
      have c1 := (hB.drew.cell (i * 19 + 15)).trans hRi.pen
      have f0 := hB.free (i * 19 + 15)
      have f1 := hB.drew.free (i * 19 + 15)
      have hcast : ((m : Int) + 1) = ((m + 1 : Nat) : Int) := by omega
      have hK1 : Calls Try.prog 42 #[.int .i64 ((m : Int) + 1)] w.drew fun x w' => x = .returned (.int .u64 ((2 ^ (m + 1) : Nat) : Int)) ∧ w' = w.drew := by
        rw [hcast]
        exact bit_at (m + 1) (by omega) _
      have ha : bits .or .u64 ((S i).q : Int) ((2 ^ (m + 1) : Nat) : Int) = ((addB (S i).q (m + 1) : Nat) : Int) := u64_or_nat _ _ (by omega) (bit_lt (by omega))
      have HF : Hid (SgAt (w.drew.setCell ⟨b, i * 19 + 15, none⟩ (.int .u64 ((addB (S i).q (m + 1) : Nat) : Int))) b (S.set i ((S i).q' (addB (S i).q (m + 1)))) ∧ Upd b w (w.drew.setCell ⟨b, i * 19 + 15, none⟩ (.int .u64 ((addB (S i).q (m + 1) : Nat) : Int)))) := by
        have hu : Upd b w (w.drew.setCell ⟨b, i * 19 + 15, none⟩ (.int .u64 ((addB (S i).q (m + 1) : Nat) : Int))) := (Upd.drew b w).trans (Upd.setCell _ _ _ _)
        exact ⟨⟨_, hB.drew.set _ _, hR.put (Same.set _ _ (by omega)) (hRi.pend _ (hB.kw hu)) (hB.kw hu)⟩, hu⟩
      clear hp hs hB hR hRi hcast
      generalize hz : addB (S i).q (m + 1) = r at *
      clear hz
      generalize (S i).q = q0 at *
      generalize 2 ^ (m + 1) = M at *
      generalize (m : Int) + 1 = sg at *
      go_enter Try.func19, Try.ntmps19
      go_wp2_with fail
      refine hP.mono ?_
      rintro e w1 ⟨rfl, hw⟩
      rw [hw]
      clear hw w1 hP
      go_wp2_with fail
      refine hI.mono ?_
      rintro e w1 ⟨rfl, hw⟩
      rw [hw]
      clear hw w1 hI
      go_wp2_with fail
      go_region_with (go_at_call 42; refine hK1.mono ?_; rintro e w2 ⟨rfl, hw⟩; rw [hw]; clear hw w2)
      all_goals
        go_wp2
        go_ret
        exact ⟨by rw [HE.out]; rfl, by rw [HS.out]; exact HF.out.1, HF.out.2⟩
theorem next_nil (pid : Int) (w : World) :
    Calls Try.prog 20 #[.pointer none, .int .i64 pid] w fun e w' => e = .returned (.tuple #[.int .i64 0, .int .u64 0, .bool false]) ∧ w' = w := by
  have hP := process_nil pid w
  go_enter Try.func20, Try.ntmps20
  go_wp2_with fail
  refine hP.mono ?_
  rintro e w1 ⟨rfl, hw⟩
  rw [hw]
  clear hw w1 hP
  go_wp2
  go_ret3
  exact ⟨rfl, rfl⟩
set_option maxHeartbeats 1000000 in
theorem snext_at (b : Nat) (S : SS) (pid : Int) (w : World) (h : SgAt w b S) (hok : SOk S) :
    Calls Try.prog 20 #[.pointer (some ⟨b, 0, none⟩), .int .i64 pid] w fun e w' => e = .returned (.tuple #[.int .i64 (nxI S pid : Nat), .int .u64 (nxH S pid), .bool (nxB S pid)]) ∧ SgAt w' b (nxS S pid) ∧ Upd b w w' := by
  cases hp : isP pid with
  | false =>
    have hP := process_no b pid w hp
    have HE : Hid (nxI S pid = 0) := by show _ = _; unfold nxI; rw [hp]; rfl
    have HS : Hid (nxS S pid = S) := by show _ = _; unfold nxS; rw [hp]; rfl
    have HH : Hid (SgAt w b S) := h
    clear h hp
    go_enter Try.func20, Try.ntmps20
    go_wp2_with fail
    refine hP.mono ?_
    rintro e w1 ⟨rfl, hw⟩
    rw [hw]
    clear hw w1 hP
    go_wp2
    go_ret3
    refine ⟨?_, by rw [HS.out]; exact HH.out, Upd.refl _ _⟩
    unfold nxH nxB
    rw [HE.out]
    rfl
  | true =>
    obtain ⟨i, rfl, hi⟩ := isP_nat hp
    have hP := process_yes b i w hi
    have hnn := pptr_eq b (i * 19)
    have HI : Hid (nxI S ((i : Int) + 1) = (S i).nx.1) := by show _ = _; unfold nxI; rw [hp, if_pos rfl, show ((i : Int) + 1 - 1).toNat = i by omega]
    have HS : Hid (nxS S ((i : Int) + 1) = S.set i ((S i).q' (S i).nx.2)) := by show _ = _; unfold nxS; rw [hp, if_pos rfl, show ((i : Int) + 1 - 1).toNat = i by omega]
    have HH : Hid (nxI S ((i : Int) + 1) ≠ 0 → nxH S ((i : Int) + 1) = (S i).hd (nxI S ((i : Int) + 1))) := fun h0 => by unfold nxH; rw [if_neg h0, show ((i : Int) + 1 - 1).toNat = i by omega]
    obtain ⟨row, hB, hR⟩ := h
    have hNx := next_at b (i * 19) (S i) row w hB (hR.at' i hi) (hok i hi).pend
    have HB : Hid (SB w b row) := hB
    have HR : Hid (SgRow w row S) := hR
    have HLen : Hid ((S i).h.length = 15) := (hok i hi).len
    clear hp hB hR
    go_enter Try.func20, Try.ntmps20
    go_wp2_with fail
    refine hP.mono ?_
    rintro e w1 ⟨rfl, hw⟩
    rw [hw]
    clear hw w1 hP
    go_wp2_with fail
    refine hNx.mono ?_
    rintro e w1 ⟨s, q, row', rfl, hB2, hR2, hS2, hU2, hNE⟩
    obtain ⟨hne, hqk, hs15⟩ := hNE
    by_cases h0 : s = 0
    · subst h0
      rw [if_pos rfl] at hne
      have HE : Hid (nxI S ((i : Int) + 1) = 0) := by show _ = _; rw [HI.out, hne]
      have HF : Hid (SgAt w1 b (nxS S ((i : Int) + 1))) := by rw [HS.out, hne]; exact ⟨row', hB2, HR.out.put hS2 hR2 (HB.out.kw hU2)⟩
      have HU : Hid (Upd b w w1) := hU2
      clear hNx hB2 hR2 hS2 hU2 hne hqk hs15
      go_wp2
      go_ret3
      refine ⟨?_, HF.out, HU.out⟩
      unfold nxH nxB
      rw [HE.out]
      rfl
    · rw [if_neg h0] at hne
      obtain ⟨m, rfl⟩ : ∃ m, s = m + 1 := ⟨s - 1, by omega⟩
      have g0 : (((m + 1 : Nat) : Int) == 0) = false := beq_false_of_ne (by omega)
      have HE : Hid (nxI S ((i : Int) + 1) = m + 1) := by show _ = _; rw [HI.out, hne]
      have HHd : Hid (nxH S ((i : Int) + 1) = (S i).h.getD m 0) := by
        show _ = _
        rw [HH.out (by rw [HE.out]; omega), HE.out]
        rfl
      have HS2 : Hid (nxS S ((i : Int) + 1) = S.set i ((S i).q' (clr q (m + 1)))) := by show _ = _; rw [HS.out, hne]
      have hDr := drop_at b (i * 19) (m + 1) ((S i).q' q) row' w1 hB2 hR2 hqk.1 (by omega)
      have HKw : Hid (KeepW w w1) := HB.out.kw hU2
      have HSm : Hid (Same (i * 19) row row') := hS2
      have HU : Hid (Upd b w w1) := hU2
      have HB2 : Hid (SB w1 b row') := hB2
      have hcast : ((m + 1 : Nat) : Int) = (m : Int) + 1 := by omega
      clear hNx hB2 hR2 hS2 hU2 hne
      go_wp2_with fail
      refine hDr.mono ?_
      rintro e w2 ⟨rfl, row2, hB3, hR3, hS3, hU3⟩
      have hHa := handler_at b (i * 19) m _ row2 w2 hB3 hR3 (by omega)
      have HF : Hid (SgAt w2 b (nxS S ((i : Int) + 1))) := by rw [HS2.out]; exact ⟨row2, hB3, HR.out.put (HSm.out.trans hS3) hR3 (HKw.out.trans (HB2.out.kw hU3))⟩
      have HU3 : Hid (Upd b w w2) := HU.out.trans hU3
      rw [← hcast] at hHa
      rw [show (((S i).q' q).q' (clr ((S i).q' q).q (m + 1))).h = (S i).h from rfl] at hHa
      clear hDr hB3 hR3 hS3 hU3 hcast
      go_wp2_with fail
      refine hHa.mono ?_
      rintro e w3 ⟨rfl, hw⟩
      rw [hw]
      clear hw w3 hHa
      go_wp2
      go_ret3
      refine ⟨?_, HF.out, HU3.out⟩
      rw [HHd.out]
      unfold nxB
      rw [HE.out]
      rfl
end Go.Proofs.Ytliifpknkdjgjaa
