/- The reference of package fds: Get, Seek. -/
import Derived.Test.YtkdbmfckfbmbiaaRfF18
namespace Go.Proofs.Ytkdbmfckfbmbiaa
open Go.RowKit
set_option linter.unusedVariables false

theorem rget_at (B c : Nat) (v : Value) (L : List En) (S : FS) (n k : Int) (w : World) (h : RIs w B c v L) (hL : RL L S) :
    Calls Try.prog 17 #[.pointer (some ⟨c, 0, none⟩), .int .i64 n, .int .i64 k] w fun e w' => e = .returned (.tuple #[.agg (getX S n k).row, .int .i64 (getE S n k)]) ∧ Below w.heap.size w w' := by
  obtain ⟨W, hW⟩ : ∃ W, W = w.alloc (.cells nor 30) := ⟨_, rfl⟩
  have hbW : Below w.heap.size w W := by rw [hW]; exact below_alloc _ _
  have h1 := h.below hbW
  have HBW : Hid (Below w.heap.size w W) := hbW
  have hA := ra_at B c v L S n k W h1 hL
  have hll := hL.ll
  have hws : W.heap.size = w.heap.size + 1 := by rw [hW]; simp
  have hWn : W.heap[w.heap.size]? = some (.cells nor 30) := by rw [hW]; exact heap_alloc_new _ _
  have z0 : W.cell? ⟨w.heap.size, 0, none⟩ = some (.int .i64 0) := by rw [cell_of_heap hWn]; rfl
  have z1 : W.cell? ⟨w.heap.size, 1, none⟩ = some (.int .i64 0) := by rw [cell_of_heap hWn]; rfl
  have z2 : W.cell? ⟨w.heap.size, 2, none⟩ = some (.int .i64 0) := by rw [cell_of_heap hWn]; rfl
  have z3 : W.cell? ⟨w.heap.size, 3, none⟩ = some (.bool false) := by rw [cell_of_heap hWn]; rfl
  have z4 : W.cell? ⟨w.heap.size, 4, none⟩ = some (.int .i64 0) := by rw [cell_of_heap hWn]; rfl
  have zf : ∀ o, W.frozen? ⟨w.heap.size, o, none⟩ = false := fun o => frozen_of_heap hWn
  have HW : Hid _ := hW
  clear hW hws hWn hbW
  by_cases hn : nm S n k = 0
  · have HE : Hid (getE S n k = 9) := by show _ = _; unfold getE; rw [if_pos hn]
    have HX : Hid (getX S n k = Fl.no) := by show _ = _; unfold getX; rw [if_pos hn]
    rw [atR_no hn] at hA
    clear h h1 hn hL hll
    go_enter Try.func17, Try.ntmps17
    go_wp2_with fail
    rw [← Hid.out HW]
    refine hA.mono ?_
    rintro e w1 ⟨rfl, hw⟩
    rw [hw]
    clear hw w1 hA HW
    generalize hV : W = V at *
    go_wp2
    refine bodyPost_ret (v := .tuple #[.agg nor, .int .i64 9]) ?_ rfl ⟨by rw [HE.out, HX.out]; rfl, ?_⟩
    · rw [results_cell_tmp rfl]; go_simp
    · exact below5 HBW.out (Nat.le_refl _) Fl.no
  · obtain ⟨i, hi, hq, hi2⟩ := atR_yes hn
    obtain ⟨e, he⟩ := hL.some hq
    obtain ⟨e1, -⟩ := hL.get he hq
    obtain ⟨g, cap, rfl, _, _, hc⟩ := h1.at he
    have hil : i < L.length := (List.getElem?_eq_some_iff.1 he).1
    have HE : Hid (getE S n k = 0) := by show _ = _; unfold getE; rw [if_neg hn]
    have HX : Hid (getX S n k = e.x) := by show _ = _; unfold getX; rw [if_neg hn, e1]
    rw [hi] at hA
    have c0 := h1.c0
    have d0 : W.cell? ⟨g, i * 6, none⟩ = some (.int .i64 e.x.kind) := hc 0 (by omega)
    have d1 : W.cell? ⟨g, i * 6 + 1, none⟩ = some (.int .i64 e.x.id) := hc 1 (by omega)
    have d2 : W.cell? ⟨g, i * 6 + 2, none⟩ = some (.int .i64 e.x.off) := hc 2 (by omega)
    have d3 : W.cell? ⟨g, i * 6 + 3, none⟩ = some (.bool e.x.app) := hc 3 (by omega)
    have d4 : W.cell? ⟨g, i * 6 + 4, none⟩ = some (.int .i64 e.x.refs) := hc 4 (by omega)
    have hin : decide ((i : Int) < 0) = false := decide_eq_false (by omega)
    generalize L.length = ll at *
    have hii : (i : Int) < (ll : Int) := by omega
    obtain ⟨x, a, ecp, d⟩ := e
    dsimp only at *
    clear h h1 hn hL hi hq he e1 hc
    go_enter Try.func17, Try.ntmps17
    go_wp2_with fail
    rw [← Hid.out HW]
    refine hA.mono ?_
    rintro e w1 ⟨rfl, hw⟩
    rw [hw]
    clear hw w1 hA HW
    generalize hV : W = V at *
    go_wp2
    refine bodyPost_ret (v := .tuple #[.agg x.row, .int .i64 0]) ?_ rfl ⟨by rw [HE.out, HX.out], ?_⟩
    · rw [results_cell_tmp rfl]; go_simp
    · exact below5 HBW.out (Nat.le_refl _) _
theorem RIs.cell_set {w : World} {B c : Nat} {v : Value} {L : List En} (h : RIs w B c v L) {i m : Nat} {e e' : En} {a : Addr} {ll cap : Nat} (hv : v = .slice (some a) ll cap) (he : L[i]? = some e) (hm : m < 6) (u : Value) (h1 : ecGet e' m = u) (h2 : ∀ j, j < 6 → j ≠ m → ecGet e' j = ecGet e j) (hrd : PRd w e'.a e'.d ∧ e'.d.length ≤ e'.cap) (o : Nat) (ho : o = i * 6 + m) :
    RIs (w.setCell ⟨a.block, o, none⟩ u) B c v (L.set i e') ∧ RU B w (w.setCell ⟨a.block, o, none⟩ u) := by
  obtain ⟨g, cap', e1, hB, ⟨cs, hcs⟩, hc⟩ := h.at he
  rw [hv] at e1
  simp only [Value.slice.injEq, Option.some.injEq] at e1
  obtain ⟨rfl, -, -⟩ := e1
  have hne : g ≠ c := by
    rintro rfl
    rw [h.head] at hcs
    simp only [Option.some.injEq, Obj.cells.injEq] at hcs
    exact absurd hcs.2.1 (by decide)
  have hu : RU B w (w.setCell ⟨g, o, none⟩ u) := RU.cell hcs (Or.inr rfl) hB u
  have hkp : ∀ (k : Nat) (cs : Array Value) (fr : Nat × Nat), w.heap[k]? = some (.cells cs 77 fr) → (w.setCell ⟨g, o, none⟩ u).heap[k]? = some (.cells cs 77 fr) := fun k cs fr hk => hu.other _ _ _ _ hk (by decide) (by decide)
  refine ⟨⟨?_, ?_, fun x hx => ?_, h.cB⟩, hu⟩
  · rw [Below.heap_setCell _ _ _ _ (by show c ≠ g; exact fun q => hne q.symm)]
    exact h.head
  · have ho1 := h.own
    rw [hv] at ho1 ⊢
    exact own_set ho1 he o m hm ho u e' h1 h2
  · rcases List.mem_or_eq_of_mem_set hx with hx | rfl
    · exact ⟨(h.rd x hx).1.keep hkp, (h.rd x hx).2⟩
    · exact ⟨hrd.1.keep hkp, hrd.2⟩
theorem rseek_at (B c : Nat) (v : Value) (L : List En) (S : FS) (n k o : Int) (w : World) (h : RIs w B c v L) (hL : RL L S) :
    Calls Try.prog 19 #[.pointer (some ⟨c, 0, none⟩), .int .i64 n, .int .i64 k, .int .i64 o] w fun e w' => e = .returned (.int .i64 (seekE S n k o)) ∧ (∃ v' L', RIs w' B c v' L' ∧ RL L' (seekT S n k o)) ∧ RU B w w' := by
  have hA := ra_at B c v L S n k w h hL
  have hll := hL.ll
  have HH : Hid (RIs w B c v L) := h
  have HL : Hid (RL L S) := hL
  by_cases hn : nm S n k = 0
  · have HE : Hid (seekE S n k o = 9) := by show _ = _; unfold seekE; rw [if_pos hn]
    have HX : Hid (seekT S n k o = S) := by show _ = _; unfold seekT; rw [if_pos (Or.inl hn)]
    rw [atR_no hn] at hA
    clear h hn hL hll
    go_enter Try.func19, Try.ntmps19
    go_wp2_with (go_at_call 42; refine hA.mono ?_; rintro e w1 ⟨rfl, hw⟩; rw [hw]; clear hw w1)
    go_ret
    exact ⟨by rw [HE.out]; rfl, ⟨_, _, HH.out, by rw [HX.out]; exact HL.out⟩, RU.refl _ _⟩
  · obtain ⟨i, hi, hq, hi2⟩ := atR_yes hn
    rw [hi] at hA
    have hin : decide ((i : Int) < 0) = false := decide_eq_false (by omega)
    by_cases ho : o < 0
    · have HE : Hid (seekE S n k o = 22) := by show _ = _; unfold seekE; rw [if_neg hn, if_pos ho]
      have HX : Hid (seekT S n k o = S) := by show _ = _; unfold seekT; rw [if_pos (Or.inr ho)]
      have g0 : decide (o < 0) = true := decide_eq_true ho
      clear h hn hL hll hi hq
      go_enter Try.func19, Try.ntmps19
      go_wp2_with (go_at_call 42; refine hA.mono ?_; rintro e w1 ⟨rfl, hw⟩; rw [hw]; clear hw w1)
      go_ret
      exact ⟨by rw [HE.out]; rfl, ⟨_, _, HH.out, by rw [HX.out]; exact HL.out⟩, RU.refl _ _⟩
    · obtain ⟨e, he⟩ := hL.some hq
      obtain ⟨g, cap, rfl, _, ⟨cs, hcs⟩, hc⟩ := h.at he
      have hil : i < L.length := (List.getElem?_eq_some_iff.1 he).1
      have HE : Hid (seekE S n k o = 0) := by show _ = _; unfold seekE; rw [if_neg hn, if_neg ho]
      have HX : Hid (seekT S n k o = S.setF (nm S n k - 1) ((S.f (nm S n k - 1)).at o)) := by show _ = _; unfold seekT; rw [if_neg (by rintro (q | q) <;> contradiction)]
      have HN : Hid (RL (L.set i ⟨e.x.at o, e.a, e.cap, e.d⟩) (S.setF (nm S n k - 1) ((S.f (nm S n k - 1)).at o))) := seek_ref hL he hq o
      have g0 : decide (o < 0) = false := decide_eq_false ho
      have c0 := h.c0
      have d2 : w.cell? ⟨g, i * 6 + 2, none⟩ = some (.int .i64 e.x.off) := hc 2 (by omega)
      have f2 : w.frozen? ⟨g, i * 6 + 2, none⟩ = false := frozen_of_heap hcs
      have HS : Hid _ := (h.cell_set (i := i) (m := 2) (e := e) (e' := ⟨e.x.at o, e.a, e.cap, e.d⟩) rfl he (by omega) (.int .i64 o) rfl (fun j hj hne => by
        obtain rfl | rfl | rfl | rfl | rfl : j = 0 ∨ j = 1 ∨ j = 3 ∨ j = 4 ∨ j = 5 := by omega
        all_goals rfl) (h.rd e (List.mem_of_getElem? he)) (i * 6 + 2) rfl)
      generalize L.length = ll at *
      have hii : (i : Int) < (ll : Int) := by omega
      obtain ⟨x, a, ecp, d⟩ := e
      dsimp only at *
      clear h hn hL hi hq he hc hcs
      go_enter Try.func19, Try.ntmps19
      go_wp2_with (go_at_call 42; refine hA.mono ?_; rintro e w1 ⟨rfl, hw⟩; rw [hw]; clear hw w1)
      go_ret
      exact ⟨by rw [HE.out]; rfl, ⟨_, _, HS.out.1, by rw [HX.out]; exact HN.out⟩, HS.out.2⟩
end Go.Proofs.Ytkdbmfckfbmbiaa
