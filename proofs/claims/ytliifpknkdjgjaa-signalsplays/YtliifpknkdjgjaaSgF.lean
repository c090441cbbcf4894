/- Package signals: Enter, Leave, Gone. -/
import Derived.Test.YtliifpknkdjgjaaSgE
import Derived.Laws.ResultCell
import Derived.Deep.CutBlock
namespace Go.Proofs.Ytliifpknkdjgjaa
open Go.RowKit
set_option linter.unusedVariables false

/-- The machine of the process at o is this one (or it is in no handler). -/
theorem SgR.vm {w w' : World} {row row' : Array Value} {o : Nat} {p : Sg} {k : Option (Int × List Int)} (h : SgR w row o p) (hs : Same o row row') (hk : ∀ j, j < 16 → row'[o + j]? = row[o + j]?)
    (h1 : row'[o + 16]? = some (.bool k.isSome)) (h2 : row'[o + 17]? = some (.int .i64 (k.getD (0, [])).1)) (a : Option Addr) (c : Nat) (h3 : row'[o + 18]? = some (.slice a (k.getD (0, [])).2.length c)) (h4 : (k.getD (0, [])).2.length ≤ c) (h5 : TRd w' a (k.getD (0, [])).2) : SgR w' row' o ⟨p.h, p.q, k⟩ := by
  refine ⟨by rw [hs.1]; exact h.size, fun j hj => ?_, ?_, h1, h2, a, c, h3, h4, h5⟩
  · rw [hk j (by omega)]; exact h.hnd j hj
  · rw [hk 15 (by omega)]; exact h.pen
/-- A machine is laid into the process: three stores. -/
theorem SB.three {w : World} {b o : Nat} {row : Array Value} (h : SB w b row) (x y z : Value) : SB (((w.setCell ⟨b, o + 16, none⟩ x).setCell ⟨b, o + 17, none⟩ y).setCell ⟨b, o + 18, none⟩ z) b (((row.setIfInBounds (o + 16) x).setIfInBounds (o + 17) y).setIfInBounds (o + 18) z) := ((h.set _ _).set _ _).set _ _
theorem upd_three (b o : Nat) (w : World) (x y z : Value) : Upd b w (((w.setCell ⟨b, o + 16, none⟩ x).setCell ⟨b, o + 17, none⟩ y).setCell ⟨b, o + 18, none⟩ z) := ((Upd.setCell _ _ _ _).trans (Upd.setCell _ _ _ _)).trans (Upd.setCell _ _ _ _)
theorem same_three (o : Nat) (row : Array Value) (x y z : Value) : Same o row (((row.setIfInBounds (o + 16) x).setIfInBounds (o + 17) y).setIfInBounds (o + 18) z) := ((Same.set row _ (by omega)).trans (Same.set _ _ (by omega))).trans (Same.set _ _ (by omega))
theorem SgR.three {w w' : World} {row : Array Value} {o : Nat} {p : Sg} {k : Option (Int × List Int)} (h : SgR w row o p) (a : Option Addr) (c : Nat) (h4 : (k.getD (0, [])).2.length ≤ c) (h5 : TRd w' a (k.getD (0, [])).2) :
    SgR w' (((row.setIfInBounds (o + 16) (.bool k.isSome)).setIfInBounds (o + 17) (.int .i64 (k.getD (0, [])).1)).setIfInBounds (o + 18) (.slice a (k.getD (0, [])).2.length c)) o ⟨p.h, p.q, k⟩ := by
  have hs := h.size
  refine h.vm (same_three o row _ _ _) (fun j hj => ?_) ?_ ?_ a c ?_ h4 h5
  · rw [Array.getElem?_setIfInBounds, if_neg (by omega), Array.getElem?_setIfInBounds, if_neg (by omega), Array.getElem?_setIfInBounds, if_neg (by omega)]
  · rw [Array.getElem?_setIfInBounds, if_neg (by omega), Array.getElem?_setIfInBounds, if_neg (by omega), Array.getElem?_setIfInBounds, if_pos rfl, if_pos (by omega)]
  · rw [Array.getElem?_setIfInBounds, if_neg (by omega), Array.getElem?_setIfInBounds, if_pos rfl, if_pos (by rw [Array.size_setIfInBounds]; omega)]
  · rw [Array.getElem?_setIfInBounds, if_pos rfl, if_pos (by rw [Array.size_setIfInBounds, Array.size_setIfInBounds]; omega)]

theorem Upd.then_below {b : Nat} {w w1 w2 : World} (h : Upd b w w1) (k : Below w.heap.size w1 w2) : Upd b w w2 :=
  ⟨k.os.trans h.os, k.tape.trans h.tape, k.output.trans h.output, Nat.le_trans h.size k.size, fun i hi hg => (k.block i hi).trans (h.block i hi hg)⟩
theorem enter_nil (pid : Int) (v : Value) (hv : ∃ cs : Array Value, v = .agg cs) (w : World) :
    Calls Try.prog 21 #[.pointer none, .int .i64 pid, v] w fun e w' => e = .returned (.int .i64 3) ∧ Below w.heap.size w w' := by
  obtain ⟨cs, rfl⟩ := hv
  have hP := fun W => process_nil pid W
  obtain ⟨W, hW⟩ : ∃ W, W = w.alloc (.cells cs 30) := ⟨_, rfl⟩
  have HB : Hid (Below w.heap.size w W) := by rw [hW]; exact below_alloc _ _
  have HW : Hid _ := hW
  have hP1 := hP W
  clear hW hP
  go_enter Try.func21, Try.ntmps21
  go_wp2_with fail
  rw [← HW.out]
  refine hP1.mono ?_
  rintro e w1 ⟨rfl, hw⟩
  rw [hw]
  clear hw w1 hP1 HW
  go_wp2
  go_ret
  exact ⟨rfl, HB.out⟩
set_option maxHeartbeats 2000000 in
theorem enter_at (b : Nat) (S : SS) (pid pc : Int) (a : Option Addr) (n c : Nat) (st : List Int) (w : World) (h : SgAt w b S) (hr : Rd w a st) (hn : n = st.length) (hl : n ≤ 1000000) :
    Calls Try.prog 21 #[.pointer (some ⟨b, 0, none⟩), .int .i64 pid, vmV pc a n c] w fun e w' => e = .returned (.int .i64 (enE S pid)) ∧ SgAt w' b (enS S pid pc st) ∧ Upd b w w' := by
  obtain ⟨W, hW⟩ : ∃ W, W = w.alloc (.cells #[.int .i64 pc, .slice a n c] 30) := ⟨_, rfl⟩
  have hb0 : Below w.heap.size w W := by rw [hW]; exact below_alloc _ _
  have HB0 : Hid (Below w.heap.size w W) := hb0
  have hA := h.below hb0
  obtain ⟨g, hg⟩ : ∃ g, g = w.heap.size := ⟨_, rfl⟩
  have H0 : Hid (W.heap[g]? = some (.cells #[.int .i64 pc, .slice a n c] 30 (0, 0))) := by rw [hW, hg]; exact heap_alloc_new _ _
  have HW : Hid _ := hW
  have HG : Hid (g = w.heap.size) := hg
  have hRW := hr.below hb0
  have HN : Hid (n = st.length) := hn
  clear hW hg hb0 h hr hn
  cases hp : isP pid with
  | false =>
    have hP := process_no b pid W hp
    have HE : Hid (enE S pid = 3) := by show _ = _; unfold enE; rw [hp]; rfl
    have HS : Hid (enS S pid pc st = S) := by show _ = _; unfold enS; rw [hp]; rfl
    have HH : Hid (SgAt W b S) := hA
    clear hA hp hRW
    go_enter Try.func21, Try.ntmps21
    go_wp2_with fail
    rw [← HW.out]
    refine hP.mono ?_
    rintro e w1 ⟨rfl, hw⟩
    rw [hw]
    clear hw w1 hP HW
    go_wp2
    go_ret
    exact ⟨by rw [HE.out]; rfl, by rw [HS.out]; exact HH.out, Upd.of_below HB0.out⟩
  | true =>
    obtain ⟨i, rfl, hi⟩ := isP_nat hp
    have hP := process_yes b i W hi
    have hnn := pptr_eq b (i * 19)
    obtain ⟨row, hB, hR⟩ := hA
    have hRi := hR.at' i hi
    have c16 := (hB.cell (i * 19 + 16)).trans hRi.inh
    cases hk : (S i).k.isSome with
    | true =>
      rw [hk] at c16
      have HE : Hid (enE S ((i : Int) + 1) = 22) := by show _ = _; unfold enE; rw [hp, if_pos rfl, show ((i : Int) + 1 - 1).toNat = i by omega, hk]; rfl
      have HS : Hid (enS S ((i : Int) + 1) pc st = S) := by show _ = _; unfold enS; rw [hp, show ((i : Int) + 1 - 1).toNat = i by omega, hk]; rfl
      have HH : Hid (SgAt W b S) := ⟨row, hB, hR⟩
      clear hB hR hRi hp hk hRW
      go_enter Try.func21, Try.ntmps21
      go_wp2_with fail
      rw [← HW.out]
      refine hP.mono ?_
      rintro e w1 ⟨rfl, hw⟩
      rw [hw]
      clear hw w1 hP HW
      go_wp2
      go_ret
      exact ⟨by rw [HE.out]; rfl, by rw [HS.out]; exact HH.out, Upd.of_below HB0.out⟩
    | false =>
      rw [hk] at c16
      have HE : Hid (enE S ((i : Int) + 1) = 0) := by show _ = _; unfold enE; rw [hp, if_pos rfl, show ((i : Int) + 1 - 1).toNat = i by omega, hk]; rfl
      have HS : Hid (enS S ((i : Int) + 1) pc st = S.set i ⟨(S i).h, (S i).q, some (pc, st)⟩) := by show _ = _; unfold enS; rw [hp, show ((i : Int) + 1 - 1).toNat = i by omega, hk]; rfl
      have hC := copyOf_at pc a n c st W hRW HN.out hl
      have HB : Hid (SB W b row) := hB
      have HR : Hid (SgRow W row S) := hR
      have HGb : Hid (g ≠ b) := by
        show g ≠ b
        intro e
        have h0 := H0.out
        unfold SB at hB
        rw [e, hB] at h0
        simp only [Option.some.injEq, Obj.cells.injEq] at h0
        exact absurd h0.2.1 (by decide)
      have k0 := H0.out
      have z0 : W.cell? ⟨g, 0, none⟩ = some (.int .i64 pc) := by rw [cell_of_heap k0]; rfl
      have z1 : W.cell? ⟨g, 1, none⟩ = some (.slice a n c) := by rw [cell_of_heap k0]; rfl
      clear hB hR hRi hp hk hRW k0
      go_enter Try.func21, Try.ntmps21
      go_wp2_with fail
      rw [← HW.out, ← HG.out]
      refine hP.mono ?_
      rintro e w1 ⟨rfl, hw⟩
      rw [hw]
      clear hw w1 hP HW
      go_wp2_with fail
      refine hC.mono ?_
      rintro e w1 ⟨a', c', rfl, hc', hT, hb1⟩
      have hB1 := HB.out.below hb1
      have c1 := hB1.cell (i * 19 + 16)
      rw [(HR.out.at' i hi).inh] at c1
      obtain ⟨a0, c0, e18, -, -⟩ := (HR.out.at' i hi).stk
      have c2 := (hB1.cell (i * 19 + 17)).trans (HR.out.at' i hi).pc
      have c3 := (hB1.cell (i * 19 + 18)).trans e18
      have f1 := hB1.free (i * 19 + 16)
      have f2 := hB1.free (i * 19 + 17)
      have f3 := hB1.free (i * 19 + 18)
      have HB1 : Hid (SB w1 b row) := hB1
      have HT : Hid (TRd w1 a' st) := hT
      have HCc : Hid (n ≤ c') := hc'
      have HBl : Hid (Below w.heap.size w w1) := HB0.out.trans (hb1.mono HB0.out.size)
      have HKw : Hid (KeepW W w1) := KeepW.below hb1
      generalize (S i).k.isSome = kb at *
      generalize (S i).pc = kpc at *
      generalize (S i).st.length = kl at *
      clear hB1 hT hb1 hC e18 hc' c16 z0 z1
      go_wp2
      go_ret
      have hu := upd_three b (i * 19) w1 (.bool true) (.int .i64 pc) (.slice a' n c')
      refine ⟨by rw [HE.out]; rfl, ?_, (Upd.of_below HBl.out).trans hu⟩
      rw [HS.out]
      refine ⟨_, HB1.out.three _ _ _, HR.out.put (p := ⟨(S i).h, (S i).q, some (pc, st)⟩) (same_three _ row (.bool true) (.int .i64 pc) (.slice a' n c')) ?_ (HKw.out.trans (HB1.out.kw hu))⟩
      have h3 := (HR.out.at' i hi).three (w' := ((w1.setCell ⟨b, i * 19 + 16, none⟩ (.bool true)).setCell ⟨b, i * 19 + 17, none⟩ (.int .i64 pc)).setCell ⟨b, i * 19 + 18, none⟩ (.slice a' n c')) (k := some (pc, st)) a' c' (by rw [HN.out] at HCc; exact HCc.out) (HT.out.kept (HB1.out.kw hu))
      rw [HN.out]
      rw [HN.out] at h3
      exact h3
theorem leave_nil (pid : Int) (w : World) :
    Calls Try.prog 22 #[.pointer none, .int .i64 pid] w fun e w' => e = .returned (.tuple #[vmV 0 none 0 0, .int .i64 3]) ∧ Below w.heap.size w w' := by
  have hP := fun W => process_nil pid W
  obtain ⟨W, hW⟩ : ∃ W, W = w.alloc (.cells #[.int .i64 0, .slice none 0 0] 30) := ⟨_, rfl⟩
  obtain ⟨g, hg⟩ : ∃ g, g = w.heap.size := ⟨_, rfl⟩
  have hb : Below w.heap.size w W := by rw [hW]; exact below_alloc _ _
  have h0 : W.heap[g]? = some (.cells #[.int .i64 0, .slice none 0 0] 30 (0, 0)) := by rw [hW, hg]; exact heap_alloc_new _ _
  have z0 : W.cell? ⟨g, 0, none⟩ = some (.int .i64 0) := by rw [cell_of_heap h0]; rfl
  have z1 : W.cell? ⟨g, 1, none⟩ = some (.slice none 0 0) := by rw [cell_of_heap h0]; rfl
  have f0 : W.frozen? ⟨g, 0, none⟩ = false := frozen_of_heap h0
  have f1 : W.frozen? ⟨g, 1, none⟩ = false := frozen_of_heap h0
  have HB : Hid (Below w.heap.size w W) := hb
  have H0 : Hid _ := h0
  have HW : Hid _ := hW
  have HG : Hid (g = w.heap.size) := hg
  have hP1 := hP W
  clear hW hP hg hb h0
  go_enter Try.func22, Try.ntmps22
  go_wp2_with fail
  rw [← HW.out, ← HG.out]
  refine hP1.mono ?_
  rintro e w1 ⟨rfl, hw⟩
  rw [hw]
  clear hw w1 hP1 HW
  go_wp2
  have k1 := heap_set H0.out 0 (.int .i64 0)
  have k2 := heap_set k1 1 (.slice none 0 0)
  refine bodyPost_ret (v := .tuple #[vmV 0 none 0 0, .int .i64 3]) ?_ rfl ⟨rfl, ?_⟩
  · rw [results_cell_tmp rfl]
    show ((asAddr (.pointer (some ⟨g, 0, none⟩))).run _ _).andThen _ = _
    simp only [asAddr, Sem.run_pure, Result.andThen_ok]
    rw [run_loadVar_row _ g _ _ _ (0, 0) _ k2 Try.underlying30 rfl vmSize]
    rfl
  · exact (HB.out.trans ((Upd.setCell g 0 W _).below (by have := HG.out; omega) HB.out.size)).trans ((Upd.setCell g 1 _ _).below (by have := HG.out; omega) (by have := HB.out.size; simpa [World.setCell] using this))
set_option maxHeartbeats 2000000 in
theorem leave_at (b : Nat) (S : SS) (pid : Int) (w : World) (h : SgAt w b S) :
    Calls Try.prog 22 #[.pointer (some ⟨b, 0, none⟩), .int .i64 pid] w fun e w' => ∃ a c, e = .returned (.tuple #[vmV (lePc S pid) a (leSt S pid).length c, .int .i64 (leE S pid)]) ∧ (leSt S pid).length ≤ c ∧ TRd w' a (leSt S pid) ∧ SgAt w' b (leS S pid) ∧ Upd b w w' := by
  obtain ⟨W, hW⟩ : ∃ W, W = w.alloc (.cells #[.int .i64 0, .slice none 0 0] 30) := ⟨_, rfl⟩
  obtain ⟨g, hg⟩ : ∃ g, g = w.heap.size := ⟨_, rfl⟩
  have hb : Below w.heap.size w W := by rw [hW]; exact below_alloc _ _
  have h0 : W.heap[g]? = some (.cells #[.int .i64 0, .slice none 0 0] 30 (0, 0)) := by rw [hW, hg]; exact heap_alloc_new _ _
  have z0 : W.cell? ⟨g, 0, none⟩ = some (.int .i64 0) := by rw [cell_of_heap h0]; rfl
  have z1 : W.cell? ⟨g, 1, none⟩ = some (.slice none 0 0) := by rw [cell_of_heap h0]; rfl
  have f0 : W.frozen? ⟨g, 0, none⟩ = false := frozen_of_heap h0
  have f1 : W.frozen? ⟨g, 1, none⟩ = false := frozen_of_heap h0
  have hsz : W.heap.size = g + 1 := by rw [hW, hg]; simp
  have HB : Hid (Below w.heap.size w W) := hb
  have H0 : Hid _ := h0
  have HW : Hid _ := hW
  have HG : Hid (g = w.heap.size) := hg
  have hA := h.below hb
  have hgb : g ≠ b := by have := h.lt; omega
  clear hW hg hb h0 h
  have fin : ∀ (a : Option Addr) (W2 : World) (k c : Nat) (x er : Int) (tm : Array Value), tm.getD 4 undef = .pointer (some ⟨g, 0, none⟩) → tm.getD 5 undef = .int .i64 er → W2.heap[g]? = some (.cells #[.int .i64 x, .slice a k c] 30 (0, 0)) →
      (results Try.f22 tm).run Try.prog W2 = .ok (.tuple #[vmV x a k c, .int .i64 er]) W2 := by
    intro a W2 k c x er tm h1 h2 h3
    rw [results_cell_tmp rfl, h1, h2]
    simp only [asAddr, Sem.run_pure, Result.andThen_ok]
    rw [run_loadVar_row _ g _ _ _ (0, 0) _ h3 Try.underlying30 rfl vmSize]
    rfl
  have HFin : Hid _ := fin
  clear fin
  cases hp : isP pid with
  | false =>
    have hP := process_no b pid W hp
    have HE : Hid (leE S pid = 3) := by show _ = _; unfold leE; rw [hp]; rfl
    have HPc : Hid (lePc S pid = 0) := by show _ = _; unfold lePc; rw [hp]; rfl
    have HSt : Hid (leSt S pid = []) := by show _ = _; unfold leSt; rw [hp]; rfl
    have HS : Hid (leS S pid = S) := by show _ = _; unfold leS; rw [hp]; rfl
    have HH : Hid (SgAt W b S) := hA
    clear hA hp
    go_enter Try.func22, Try.ntmps22
    go_wp2_with fail
    rw [← HW.out, ← HG.out]
    refine hP.mono ?_
    rintro e w1 ⟨rfl, hw⟩
    rw [hw]
    clear hw w1 hP HW
    go_wp2
    have k1 := heap_set H0.out 0 (.int .i64 0)
    have k2 := heap_set k1 1 (.slice none 0 0)
    have hk := (kw_set H0.out (by decide) 0 (.int .i64 0)).trans (kw_set k1 (by decide) 1 (.slice none 0 0))
    refine bodyPost_ret (v := .tuple #[vmV 0 none 0 0, .int .i64 3]) (HFin.out none _ 0 0 0 3 _ rfl rfl k2) rfl ⟨none, 0, ?_, ?_, ?_, ?_, ?_⟩
    · rw [HPc.out, HSt.out, HE.out]; rfl
    · rw [HSt.out]; exact Nat.le_refl _
    · rw [HSt.out]; exact TRd.nil _ _
    · rw [HS.out]
      exact HH.out.keep ((Below.heap_setCell _ _ _ _ (by show b ≠ g; omega)).trans (Below.heap_setCell _ _ _ _ (by show b ≠ g; omega))) hk
    · exact Upd.of_below (HB.out.trans (((Upd.setCell g 0 W _).trans (Upd.setCell g 1 _ _)).below (by have := HG.out; omega) HB.out.size))
  | true =>
    obtain ⟨i, rfl, hi⟩ := isP_nat hp
    have hP := process_yes b i W hi
    have hnn := pptr_eq b (i * 19)
    obtain ⟨row, hB, hR⟩ := hA
    have hRi := hR.at' i hi
    have c16 := (hB.cell (i * 19 + 16)).trans hRi.inh
    have HPc : Hid (lePc S ((i : Int) + 1) = (S i).pc) := by show _ = _; unfold lePc; rw [hp, if_pos rfl, show ((i : Int) + 1 - 1).toNat = i by omega]
    have HSt : Hid (leSt S ((i : Int) + 1) = (S i).st) := by show _ = _; unfold leSt; rw [hp, if_pos rfl, show ((i : Int) + 1 - 1).toNat = i by omega]
    have HS : Hid (leS S ((i : Int) + 1) = S.set i ⟨(S i).h, (S i).q, none⟩) := by show _ = _; unfold leS; rw [hp, if_pos rfl, show ((i : Int) + 1 - 1).toNat = i by omega]
    cases hk : (S i).k with
    | none =>
      have hkb : (S i).k.isSome = false := by rw [hk]; rfl
      rw [hkb] at c16
      have HE : Hid (leE S ((i : Int) + 1) = 22) := by show _ = _; unfold leE; rw [hp, if_pos rfl, show ((i : Int) + 1 - 1).toNat = i by omega, hkb]; rfl
      have HX : Hid ((S i).pc = 0 ∧ (S i).st = []) := by show _ ∧ _; unfold Sg.pc Sg.st; rw [hk]; exact ⟨rfl, rfl⟩
      have HS2 : Hid (S.set i ⟨(S i).h, (S i).q, none⟩ = S) := by
        show _ = _
        funext j
        by_cases e : j = i
        · rw [e, SS.set_same, ← hk]
        · rw [SS.set_other _ _ _ _ e]
      have HH : Hid (SgAt W b S) := ⟨row, hB, hR⟩
      clear hB hR hRi hp hk hkb
      go_enter Try.func22, Try.ntmps22
      go_wp2_with fail
      rw [← HW.out, ← HG.out]
      refine hP.mono ?_
      rintro e w1 ⟨rfl, hw⟩
      rw [hw]
      clear hw w1 hP HW
      go_wp2
      have k1 := heap_set H0.out 0 (.int .i64 0)
      have k2 := heap_set k1 1 (.slice none 0 0)
      have hk := (kw_set H0.out (by decide) 0 (.int .i64 0)).trans (kw_set k1 (by decide) 1 (.slice none 0 0))
      refine bodyPost_ret (v := .tuple #[vmV 0 none 0 0, .int .i64 22]) (HFin.out none _ 0 0 0 22 _ rfl rfl k2) rfl ⟨none, 0, ?_, ?_, ?_, ?_, ?_⟩
      · rw [HPc.out, HSt.out, HE.out, HX.out.1, HX.out.2]; rfl
      · rw [HSt.out, HX.out.2]; exact Nat.le_refl _
      · rw [HSt.out, HX.out.2]; exact TRd.nil _ _
      · rw [HS.out, HS2.out]
        exact HH.out.keep ((Below.heap_setCell _ _ _ _ (by show b ≠ g; omega)).trans (Below.heap_setCell _ _ _ _ (by show b ≠ g; omega))) hk
      · exact Upd.of_below (HB.out.trans (((Upd.setCell g 0 W _).trans (Upd.setCell g 1 _ _)).below (by have := HG.out; omega) HB.out.size))
    | some z =>
      have hkb : (S i).k.isSome = true := by rw [hk]; rfl
      rw [hkb] at c16
      have HE : Hid (leE S ((i : Int) + 1) = 0) := by show _ = _; unfold leE; rw [hp, if_pos rfl, show ((i : Int) + 1 - 1).toNat = i by omega, hkb]; rfl
      obtain ⟨a, c, e18, hcc, hT⟩ := hRi.stk
      have c17 := (hB.cell (i * 19 + 17)).trans hRi.pc
      have c18 := (hB.cell (i * 19 + 18)).trans e18
      have f16 := hB.free (i * 19 + 16)
      have f17 := hB.free (i * 19 + 17)
      have f18 := hB.free (i * 19 + 18)
      have HBw : Hid (SB W b row) := hB
      have HR : Hid (SgRow W row S) := hR
      have HT : Hid (TRd W a (S i).st) := hT
      have HCc : Hid ((S i).st.length ≤ c) := hcc
      generalize (S i).pc = kpc at *
      generalize hkl : (S i).st.length = kl at *
      have HKl : Hid ((S i).st.length = kl) := hkl
      have hbl : b < g + 1 := by have := hB.lt; omega
      have hbl2 : b < W.heap.size := hB.lt
      obtain ⟨V, hV⟩ : ∃ V, V = W.alloc (.cells #[.int .i64 kpc, .slice a kl c] 30) := ⟨_, rfl⟩
      have hbV : Below W.heap.size W V := by rw [hV]; exact below_alloc _ _
      have hBV := hB.below hbV
      have y16 := (hBV.cell (i * 19 + 16)).trans hRi.inh
      rw [hkb] at y16
      have y17 := (hBV.cell (i * 19 + 17)).trans ((hB.cell (i * 19 + 17)).symm.trans c17)
      have y18 := (hBV.cell (i * 19 + 18)).trans ((hB.cell (i * 19 + 18)).symm.trans c18)
      have x16 := hBV.free (i * 19 + 16)
      have x17 := hBV.free (i * 19 + 17)
      have x18 := hBV.free (i * 19 + 18)
      have k0 : V.heap[g]? = _ := (hbV.block g (by omega)).trans H0.out
      have k1 : V.heap[g + 1]? = some (.cells #[.int .i64 kpc, .slice a kl c] 30 (0, 0)) := by rw [hV, ← hsz]; exact heap_alloc_new _ _
      have v0 : V.cell? ⟨g, 0, none⟩ = some (.int .i64 0) := by rw [cell_of_heap k0]; rfl
      have v1 : V.cell? ⟨g, 1, none⟩ = some (.slice none 0 0) := by rw [cell_of_heap k0]; rfl
      have p0 : V.frozen? ⟨g, 0, none⟩ = false := frozen_of_heap k0
      have p1 : V.frozen? ⟨g, 1, none⟩ = false := frozen_of_heap k0
      have r0 : V.cell? ⟨g + 1, 0, none⟩ = some (.int .i64 kpc) := by rw [cell_of_heap k1]; rfl
      have r1 : V.cell? ⟨g + 1, 1, none⟩ = some (.slice a kl c) := by rw [cell_of_heap k1]; rfl
      have HK0 : Hid (V.heap[g]? = some (.cells #[.int .i64 0, .slice none 0 0] 30 (0, 0))) := k0
      have HBV : Hid (SB V b row) := hBV
      have HbV : Hid (Below W.heap.size W V) := hbV
      have HV : Hid _ := hV
      clear hB hR hRi hp hk hkb hT e18 hkl hcc hV hBV hbV k0 k1
      go_enter Try.func22, Try.ntmps22
      go_wp2_with fail
      rw [← HW.out, ← HG.out]
      refine hP.mono ?_
      rintro e w1 ⟨rfl, hw⟩
      rw [hw]
      clear hw w1 hP HW
      go_upto_region 7 with fail
      rw [← HV.out]
      clear z0 z1 f0 f1 c16 c17 c18 f16 f17 f18 HV
      go_wp2
      have hu := upd_three b (i * 19) V (.bool false) (.int .i64 0) (.slice none 0 0)
      have hB3 := HBV.out.three (o := i * 19) (.bool false) (.int .i64 0) (.slice none 0 0)
      have hK3 := HBV.out.kw hu
      obtain ⟨V3, hV3⟩ : ∃ V3, V3 = ((V.setCell ⟨b, i * 19 + 16, none⟩ (.bool false)).setCell ⟨b, i * 19 + 17, none⟩ (.int .i64 0)).setCell ⟨b, i * 19 + 18, none⟩ (.slice none 0 0) := ⟨_, rfl⟩
      rw [← hV3] at hu hB3 hK3
      have k0 : V3.heap[g]? = _ := (hu.block g (lt_of_heap HK0.out) hgb).trans HK0.out
      have k1 := heap_set k0 0 (.int .i64 kpc)
      have k2 := heap_set k1 1 (.slice a kl c)
      have hk := (kw_set k0 (by decide) 0 (.int .i64 kpc)).trans (kw_set k1 (by decide) 1 (.slice a kl c))
      have hall : KeepW W ((V3.setCell ⟨g, 0, none⟩ (.int .i64 kpc)).setCell ⟨g, 1, none⟩ (.slice a kl c)) := ((KeepW.below HbV.out).trans hK3).trans hk
      rw [Nat.add_assoc]
      show bodyPost Try.prog _ _ _ _ (((((V.setCell ⟨b, i * 19 + 16, none⟩ (.bool false)).setCell ⟨b, i * 19 + 17, none⟩ (.int .i64 0)).setCell ⟨b, i * 19 + 18, none⟩ (.slice none 0 0)).setCell ⟨g, 0, none⟩ (.int .i64 kpc)).setCell ⟨g, 1, none⟩ (.slice a kl c))
      rw [← hV3]
      refine bodyPost_ret (v := .tuple #[vmV kpc a kl c, .int .i64 0]) (HFin.out a _ kl c kpc 0 _ rfl rfl k2) rfl ⟨a, c, ?_, ?_, ?_, ?_, ?_⟩
      · rw [HPc.out, HSt.out, HE.out, HKl.out]
      · rw [HSt.out, HKl.out]; exact HCc.out
      · rw [HSt.out]; exact HT.out.kept hall
      · rw [HS.out]
        refine ⟨_, hB3.keep ((Below.heap_setCell _ _ _ _ (by show b ≠ g; omega)).trans (Below.heap_setCell _ _ _ _ (by show b ≠ g; omega))), HR.out.put (p := ⟨(S i).h, (S i).q, none⟩) (same_three _ row _ _ _) ?_ hall⟩
        exact (HR.out.at' i hi).three (k := none) none 0 (Nat.le_refl _) (TRd.nil _ _)
      · have hX : Upd b w V3 := (Upd.of_below (HB.out.trans (HbV.out.mono HB.out.size))).trans hu
        exact hX.then_below (((Upd.setCell g 0 V3 (.int .i64 kpc)).trans (Upd.setCell g 1 _ (.slice a kl c))).below (B := w.heap.size) (by have := HG.out; omega) hX.size)
end Go.Proofs.Ytliifpknkdjgjaa
