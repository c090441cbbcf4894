import Derived.Test.YtinaeifpoljfoaaGreatDoorFdHTFdP
set_option linter.all false
set_option maxRecDepth 100000
set_option maxHeartbeats 16000000
namespace Go.Proofs.YtinaeifpoljfoaaGreatDoor
open Go.RowKit
namespace Ow
end Ow
namespace Fd
open Ow
theorem elemW : Tryz.prog.elem 22 = 45 := by kernel_rfl
def U64 (ws : List Int) : Prop := ∀ x ∈ ws, 0 ≤ x ∧ x < 18446744073709551616
theorem u64_get {ws : List Int} (h : U64 ws) {j : Nat} {x : Int} (hx : ws[j]? = some x) : 0 ≤ x ∧ x < 18446744073709551616 := h x (List.mem_of_getElem? hx)
theorem get_getD {ws : List Int} {j : Nat} (h : j < ws.length) : ws[j]? = some (ws.getD j 0) := by simp [List.getD, h]
theorem below_drewN {B : Nat} {a w : World} (h : Below B a w) (n : Nat) : Below B a (w.drewN n) := h.trans ⟨rfl, rfl, rfl, Nat.le_refl _, fun _ _ => rfl⟩
theorem cut_wl (D : List Int) (a : Option Addr) (len cap j : Nat) (hl : len = D.length) (hj : j ≤ len) (hcap : len ≤ cap) : ∃ a2 c2, (∀ V, (Instr.slice 22 (.slice a len cap) (some (.int .i64 (j : Int))) none none).run Tryz.prog V = .ok (.slice a2 (len - j) c2) V) ∧ len - j ≤ c2 ∧ (∀ W, Rd W a D → Rd W a2 (D.drop j)) := by
 obtain ⟨i0, hi0, hzz⟩ := Option.map_eq_some_iff.1 wordInfo;simp only [Prod.mk.injEq] at hzz;refine ⟨if cap = j then a else a.map (·.add (j * 1)), cap - j, fun V => ?_, by omega, fun W ha => ?_⟩
 ·have hk0 : (j : Int) ≤ (len : Int) := by omega
  rw [run_slice_l V 22 _ _ _ Tryz.underlying22 _ _ (by omega) hk0];simp [sizeOf, typeInfo, elemW, hi0, sliced, hzz.2.1]
 ·intro i x hx
  rw [List.getElem?_drop] at hx;have hlt := (List.getElem?_eq_some_iff.1 hx).1;obtain ⟨g, off, e, hc⟩ := ha (j + i) x hx;refine ⟨g, off + j, ?_, ?_⟩
  ·rw [if_neg (by omega), e]
   simp [Addr.add]
  ·rw [Nat.add_assoc]
   exact hc
theorem cut_wlh (D : List Int) (a : Option Addr) (len cap j k : Nat) (hl : len = D.length) (hj : j ≤ k) (hk : k ≤ len) (hcap : len ≤ cap) : ∃ a2 c2, (∀ V, (Instr.slice 22 (.slice a len cap) (some (.int .i64 (j : Int))) (some (.int .i64 (k : Int))) none).run Tryz.prog V = .ok (.slice a2 (k - j) c2) V) ∧ k - j ≤ c2 ∧ (∀ W, Rd W a D → Rd W a2 ((D.take k).drop j)) := by
 obtain ⟨i0, hi0, hzz⟩ := Option.map_eq_some_iff.1 wordInfo;simp only [Prod.mk.injEq] at hzz;refine ⟨if cap = j then a else a.map (·.add (j * 1)), cap - j, fun V => ?_, by omega, fun W ha => ?_⟩
 ·have hk0 : (j : Int) ≤ (k : Int) := by omega
  have hk1 : (k : Int) ≤ (cap : Int) := by omega
  rw [run_slice_lh V 22 _ _ _ Tryz.underlying22 _ _ _ _ (by omega) hk0 hk1];simp [sizeOf, typeInfo, elemW, hi0, sliced, hzz.2.1]
 ·intro i x hx
  rw [List.getElem?_drop] at hx;have hlt := (List.getElem?_eq_some_iff.1 hx).1;rw [List.length_take] at hlt;rw [List.getElem?_take_of_lt (by omega)] at hx;obtain ⟨g, off, e, hc⟩ := ha (j + i) x hx;refine ⟨g, off + j, ?_, ?_⟩
  ·rw [if_neg (by omega), e]
   simp [Addr.add]
  ·rw [Nat.add_assoc]
   exact hc
theorem readFile_at (a : Option Addr) (n cap : Nat) (D : List Int) (u0 u1 u2 u3 : Int) (w : World) (hr : Rd w a D) (hn : n = D.length) (h0 : D[0]? = some u0) (h1 : D[1]? = some u1) (h2 : D[2]? = some u2) (h3 : D[3]? = some u3) (hu : U64 D) :
  Calls Tryz.prog 94 #[.slice a n cap] w fun e w' => (okF u0 u1 u2 u3 = true → e = .returned (.tuple #[.agg (flOf u0 u1 u2 u3).row, .bool true])) ∧ (okF u0 u1 u2 u3 = false → e = .returned (.tuple #[.agg Fl.no.row, .bool false])) ∧ Below w.heap.size w w' := by
 obtain ⟨g, off, rfl, c0⟩ := hr 0 u0 h0;obtain ⟨_, _, e1, c1⟩ := hr 1 u1 h1;obtain ⟨_, _, e2, c2⟩ := hr 2 u2 h2;obtain ⟨_, _, e3, c3⟩ := hr 3 u3 h3;simp only [Option.some.injEq, Addr.mk.injEq, and_true] at e1 e2 e3;obtain ⟨rfl, rfl⟩ := e1;obtain ⟨rfl, rfl⟩ := e2;obtain ⟨rfl, rfl⟩ := e3;rw [Nat.add_zero] at c0
 have hlen : 4 ≤ n := by have := (List.getElem?_eq_some_iff.1 h3).1; omega
 have b0 := u64_get hu h0;have b1 := u64_get hu h1;have b2 := u64_get hu h2;have b3 := u64_get hu h3;obtain ⟨W, hW⟩ : ∃ W, W = w.alloc (.cells nor 102) := ⟨_, rfl⟩
 have hbW : Below w.heap.size w W := by rw [hW]; exact below_alloc _ _
 have k0 : W.drew.cell? ⟨g, off, none⟩ = some (.int .u64 u0) := (hbW.drew.cell (cell_lt c0)).trans c0;have k1 : W.drew.cell? ⟨g, off + 1, none⟩ = some (.int .u64 u1) := (hbW.drew.cell (cell_lt c1)).trans c1;have k2 : W.drew.cell? ⟨g, off + 2, none⟩ = some (.int .u64 u2) := (hbW.drew.cell (cell_lt c2)).trans c2;have k3 : W.drew.cell? ⟨g, off + 3, none⟩ = some (.int .u64 u3) := (hbW.drew.cell (cell_lt c3)).trans c3;have hgl : g < w.heap.size := cell_lt c0
 have hnb : w.heap.size ≠ g := by omega
 have n0 : (0 : Int) < (n : Int) := by omega
 have n1 : (1 : Int) < (n : Int) := by omega
 have n2 : (2 : Int) < (n : Int) := by omega
 have n3 : (3 : Int) < (n : Int) := by omega
 have HB := hid hbW
 have HWN : Hid (W.heap[w.heap.size]? = some (.cells nor 102)) := by show W.heap[w.heap.size]? = _; rw [hW]; exact heap_alloc_new _ _
 have HW := hid hW;obtain ⟨b0l, b0h⟩ := b0;obtain ⟨b1l, b1h⟩ := b1;obtain ⟨b2l, b2h⟩ := b2;obtain ⟨b3l, b3h⟩ := b3;have q0 : W.cell? ⟨g, off, none⟩ = some (.int .u64 u0) := k0;have q1 : W.cell? ⟨g, off + 1, none⟩ = some (.int .u64 u1) := k1;have q2 : W.cell? ⟨g, off + 2, none⟩ = some (.int .u64 u2) := k2;have q3 : W.cell? ⟨g, off + 3, none⟩ = some (.int .u64 u3) := k3;have hA : okF u0 u1 u2 u3 = (decide (1 ≤ u0) && decide (u0 ≤ 4) && decide (u1 ≤ 1048576) && decide (u2 ≤ 1048576) && decide (u3 ≤ 1)) := rfl;have HA : Hid _ := hA;clear hr hn h0 h1 h2 h3 hu hbW hW hA c0 c1 c2 c3
 cases hok : okF u0 u1 u2 u3 with
 | true =>
  rw [HA.out] at hok;simp only [Bool.and_eq_true, decide_eq_true_eq] at hok;obtain ⟨⟨⟨⟨e1, e2⟩, e3⟩, e4⟩, e5⟩ := hok;have g0 : decide (u0 < 1) = false := decide_eq_false (by omega);have g1 : decide (4 < u0) = false := decide_eq_false (by omega);have g2 : decide (1048576 < u1) = false := decide_eq_false (by omega);have g3 : decide (1048576 < u2) = false := decide_eq_false (by omega);have g4 : decide (1 < u3) = false := decide_eq_false (by omega)
  have w0 : IntKind.i64.wrap u0 = u0 := by simp [IntKind.wrap, IntKind.bits, IntKind.signed]; omega
  have w1 : IntKind.i64.wrap u1 = u1 := by simp [IntKind.wrap, IntKind.bits, IntKind.signed]; omega
  have w2 : IntKind.i64.wrap u2 = u2 := by simp [IntKind.wrap, IntKind.bits, IntKind.signed]; omega
  go_enter Tryz.func94, Tryz.ntmps94
  go_wp2_with fail
  rw [← Hid.out HW];clear HW
  go_quiet (fail)
  have hV : (W.drewN nq).heap[w.heap.size]? = some (.cells nor 102) := HWN.out
  have z0 : (W.drewN nq).cell? ⟨w.heap.size, 0, none⟩ = some (.int .i64 0) := by rw [cell_of_heap hV]; rfl
  have z1 : (W.drewN nq).cell? ⟨w.heap.size, 1, none⟩ = some (.int .i64 0) := by rw [cell_of_heap hV]; rfl
  have z2 : (W.drewN nq).cell? ⟨w.heap.size, 2, none⟩ = some (.int .i64 0) := by rw [cell_of_heap hV]; rfl
  have z3 : (W.drewN nq).cell? ⟨w.heap.size, 3, none⟩ = some (.bool false) := by rw [cell_of_heap hV]; rfl
  have z4 : (W.drewN nq).cell? ⟨w.heap.size, 4, none⟩ = some (.int .i64 0) := by rw [cell_of_heap hV]; rfl
  have zf : ∀ o, (W.drewN nq).frozen? ⟨w.heap.size, o, none⟩ = false := fun o => frozen_of_heap hV
  have HBV : Hid (Below w.heap.size w (W.drewN nq)) := below_drewN HB.out nq;generalize W.drewN nq = V at *;clear hV HWN HB
  (try simp only [Exit.then])
  go_wp2;refine bodyPost_ret (v := .tuple #[.agg (flOf u0 u1 u2 u3).row, .bool true]) ?_ rfl ⟨fun _ => rfl, (fun e => by cases e), ?_⟩
  ·rw [results_cell_tmp rfl]; go_simp; exact ⟨rfl, rfl, rfl, rfl, rfl⟩
  ·exact below5 HBV.out (Nat.le_refl _) (flOf u0 u1 u2 u3)
 | false =>
  have hno : u0 < 1 ∨ (¬ u0 < 1 ∧ 4 < u0) ∨ (¬ u0 < 1 ∧ ¬ 4 < u0 ∧ 1048576 < u1) ∨ (¬ u0 < 1 ∧ ¬ 4 < u0 ∧ ¬ 1048576 < u1 ∧ 1048576 < u2) ∨ (¬ u0 < 1 ∧ ¬ 4 < u0 ∧ ¬ 1048576 < u1 ∧ ¬ 1048576 < u2 ∧ 1 < u3) := by
   rw [HA.out] at hok
   by_cases c1 : u0 < 1
   ·exact Or.inl c1
   ·by_cases c2 : 4 < u0
    ·exact Or.inr (Or.inl ⟨c1, c2⟩)
    ·by_cases c3 : 1048576 < u1
     ·exact Or.inr (Or.inr (Or.inl ⟨c1, c2, c3⟩))
     ·by_cases c4 : 1048576 < u2
      ·exact Or.inr (Or.inr (Or.inr (Or.inl ⟨c1, c2, c3, c4⟩)))
      ·by_cases c5 : 1 < u3
       ·exact Or.inr (Or.inr (Or.inr (Or.inr ⟨c1, c2, c3, c4, c5⟩)))
       ·exfalso
        rw [decide_eq_true (show 1 ≤ u0 by omega), decide_eq_true (show u0 ≤ 4 by omega), decide_eq_true (show u1 ≤ 1048576 by omega), decide_eq_true (show u2 ≤ 1048576 by omega), decide_eq_true (show u3 ≤ 1 by omega)] at hok
        cases hok
  clear hok HA
  rcases hno with c1 | ⟨c1, c2⟩ | ⟨c1, c2, c3⟩ | ⟨c1, c2, c3, c4⟩ | ⟨c1, c2, c3, c4, c5⟩
  ·have g0 : decide (u0 < 1) = true := decide_eq_true c1
   go_enter Tryz.func94, Tryz.ntmps94
   go_wp2_with fail
   rw [← Hid.out HW];clear HW
   go_quiet (fail)
   have hV : (W.drewN nq).heap[w.heap.size]? = some (.cells nor 102) := HWN.out
   have z0 : (W.drewN nq).cell? ⟨w.heap.size, 0, none⟩ = some (.int .i64 0) := by rw [cell_of_heap hV]; rfl
   have z1 : (W.drewN nq).cell? ⟨w.heap.size, 1, none⟩ = some (.int .i64 0) := by rw [cell_of_heap hV]; rfl
   have z2 : (W.drewN nq).cell? ⟨w.heap.size, 2, none⟩ = some (.int .i64 0) := by rw [cell_of_heap hV]; rfl
   have z3 : (W.drewN nq).cell? ⟨w.heap.size, 3, none⟩ = some (.bool false) := by rw [cell_of_heap hV]; rfl
   have z4 : (W.drewN nq).cell? ⟨w.heap.size, 4, none⟩ = some (.int .i64 0) := by rw [cell_of_heap hV]; rfl
   have zf : ∀ o, (W.drewN nq).frozen? ⟨w.heap.size, o, none⟩ = false := fun o => frozen_of_heap hV
   have HBV : Hid (Below w.heap.size w (W.drewN nq)) := below_drewN HB.out nq;generalize W.drewN nq = V at *;clear hV HWN HB
   (try simp only [Exit.then])
   go_wp2;refine bodyPost_ret (v := .tuple #[.agg nor, .bool false]) ?_ rfl ⟨(fun e => by cases e), fun _ => rfl, ?_⟩
   ·rw [results_cell_tmp rfl]; go_simp
   ·exact below5 HBV.out (Nat.le_refl _) Fl.no
  ·have g0 : decide (u0 < 1) = false := decide_eq_false c1
   have g1 : decide (4 < u0) = true := decide_eq_true c2
   go_enter Tryz.func94, Tryz.ntmps94
   go_wp2_with fail
   rw [← Hid.out HW];clear HW
   go_quiet (fail)
   have hV : (W.drewN nq).heap[w.heap.size]? = some (.cells nor 102) := HWN.out
   have z0 : (W.drewN nq).cell? ⟨w.heap.size, 0, none⟩ = some (.int .i64 0) := by rw [cell_of_heap hV]; rfl
   have z1 : (W.drewN nq).cell? ⟨w.heap.size, 1, none⟩ = some (.int .i64 0) := by rw [cell_of_heap hV]; rfl
   have z2 : (W.drewN nq).cell? ⟨w.heap.size, 2, none⟩ = some (.int .i64 0) := by rw [cell_of_heap hV]; rfl
   have z3 : (W.drewN nq).cell? ⟨w.heap.size, 3, none⟩ = some (.bool false) := by rw [cell_of_heap hV]; rfl
   have z4 : (W.drewN nq).cell? ⟨w.heap.size, 4, none⟩ = some (.int .i64 0) := by rw [cell_of_heap hV]; rfl
   have zf : ∀ o, (W.drewN nq).frozen? ⟨w.heap.size, o, none⟩ = false := fun o => frozen_of_heap hV
   have HBV : Hid (Below w.heap.size w (W.drewN nq)) := below_drewN HB.out nq;generalize W.drewN nq = V at *;clear hV HWN HB
   (try simp only [Exit.then])
   go_wp2;refine bodyPost_ret (v := .tuple #[.agg nor, .bool false]) ?_ rfl ⟨(fun e => by cases e), fun _ => rfl, ?_⟩
   ·rw [results_cell_tmp rfl]; go_simp
   ·exact below5 HBV.out (Nat.le_refl _) Fl.no
  ·have g0 : decide (u0 < 1) = false := decide_eq_false c1
   have g1 : decide (4 < u0) = false := decide_eq_false c2;have g2 : decide (1048576 < u1) = true := decide_eq_true c3
   go_enter Tryz.func94, Tryz.ntmps94
   go_wp2_with fail
   rw [← Hid.out HW];clear HW
   go_quiet (fail)
   have hV : (W.drewN nq).heap[w.heap.size]? = some (.cells nor 102) := HWN.out
   have z0 : (W.drewN nq).cell? ⟨w.heap.size, 0, none⟩ = some (.int .i64 0) := by rw [cell_of_heap hV]; rfl
   have z1 : (W.drewN nq).cell? ⟨w.heap.size, 1, none⟩ = some (.int .i64 0) := by rw [cell_of_heap hV]; rfl
   have z2 : (W.drewN nq).cell? ⟨w.heap.size, 2, none⟩ = some (.int .i64 0) := by rw [cell_of_heap hV]; rfl
   have z3 : (W.drewN nq).cell? ⟨w.heap.size, 3, none⟩ = some (.bool false) := by rw [cell_of_heap hV]; rfl
   have z4 : (W.drewN nq).cell? ⟨w.heap.size, 4, none⟩ = some (.int .i64 0) := by rw [cell_of_heap hV]; rfl
   have zf : ∀ o, (W.drewN nq).frozen? ⟨w.heap.size, o, none⟩ = false := fun o => frozen_of_heap hV
   have HBV : Hid (Below w.heap.size w (W.drewN nq)) := below_drewN HB.out nq;generalize W.drewN nq = V at *;clear hV HWN HB
   (try simp only [Exit.then])
   go_wp2;refine bodyPost_ret (v := .tuple #[.agg nor, .bool false]) ?_ rfl ⟨(fun e => by cases e), fun _ => rfl, ?_⟩
   ·rw [results_cell_tmp rfl]; go_simp
   ·exact below5 HBV.out (Nat.le_refl _) Fl.no
  ·have g0 : decide (u0 < 1) = false := decide_eq_false c1
   have g1 : decide (4 < u0) = false := decide_eq_false c2;have g2 : decide (1048576 < u1) = false := decide_eq_false c3;have g3 : decide (1048576 < u2) = true := decide_eq_true c4
   go_enter Tryz.func94, Tryz.ntmps94
   go_wp2_with fail
   rw [← Hid.out HW];clear HW
   go_quiet (fail)
   have hV : (W.drewN nq).heap[w.heap.size]? = some (.cells nor 102) := HWN.out
   have z0 : (W.drewN nq).cell? ⟨w.heap.size, 0, none⟩ = some (.int .i64 0) := by rw [cell_of_heap hV]; rfl
   have z1 : (W.drewN nq).cell? ⟨w.heap.size, 1, none⟩ = some (.int .i64 0) := by rw [cell_of_heap hV]; rfl
   have z2 : (W.drewN nq).cell? ⟨w.heap.size, 2, none⟩ = some (.int .i64 0) := by rw [cell_of_heap hV]; rfl
   have z3 : (W.drewN nq).cell? ⟨w.heap.size, 3, none⟩ = some (.bool false) := by rw [cell_of_heap hV]; rfl
   have z4 : (W.drewN nq).cell? ⟨w.heap.size, 4, none⟩ = some (.int .i64 0) := by rw [cell_of_heap hV]; rfl
   have zf : ∀ o, (W.drewN nq).frozen? ⟨w.heap.size, o, none⟩ = false := fun o => frozen_of_heap hV
   have HBV : Hid (Below w.heap.size w (W.drewN nq)) := below_drewN HB.out nq;generalize W.drewN nq = V at *;clear hV HWN HB
   (try simp only [Exit.then])
   go_wp2;refine bodyPost_ret (v := .tuple #[.agg nor, .bool false]) ?_ rfl ⟨(fun e => by cases e), fun _ => rfl, ?_⟩
   ·rw [results_cell_tmp rfl]; go_simp
   ·exact below5 HBV.out (Nat.le_refl _) Fl.no
  ·have g0 : decide (u0 < 1) = false := decide_eq_false c1
   have g1 : decide (4 < u0) = false := decide_eq_false c2;have g2 : decide (1048576 < u1) = false := decide_eq_false c3;have g3 : decide (1048576 < u2) = false := decide_eq_false c4;have g4 : decide (1 < u3) = true := decide_eq_true c5
   go_enter Tryz.func94, Tryz.ntmps94
   go_wp2_with fail
   rw [← Hid.out HW];clear HW
   go_quiet (fail)
   have hV : (W.drewN nq).heap[w.heap.size]? = some (.cells nor 102) := HWN.out
   have z0 : (W.drewN nq).cell? ⟨w.heap.size, 0, none⟩ = some (.int .i64 0) := by rw [cell_of_heap hV]; rfl
   have z1 : (W.drewN nq).cell? ⟨w.heap.size, 1, none⟩ = some (.int .i64 0) := by rw [cell_of_heap hV]; rfl
   have z2 : (W.drewN nq).cell? ⟨w.heap.size, 2, none⟩ = some (.int .i64 0) := by rw [cell_of_heap hV]; rfl
   have z3 : (W.drewN nq).cell? ⟨w.heap.size, 3, none⟩ = some (.bool false) := by rw [cell_of_heap hV]; rfl
   have z4 : (W.drewN nq).cell? ⟨w.heap.size, 4, none⟩ = some (.int .i64 0) := by rw [cell_of_heap hV]; rfl
   have zf : ∀ o, (W.drewN nq).frozen? ⟨w.heap.size, o, none⟩ = false := fun o => frozen_of_heap hV
   have HBV : Hid (Below w.heap.size w (W.drewN nq)) := below_drewN HB.out nq;generalize W.drewN nq = V at *;clear hV HWN HB
   (try simp only [Exit.then])
   go_wp2;refine bodyPost_ret (v := .tuple #[.agg nor, .bool false]) ?_ rfl ⟨(fun e => by cases e), fun _ => rfl, ?_⟩
   ·rw [results_cell_tmp rfl]; go_simp
   ·exact below5 HBV.out (Nat.le_refl _) Fl.no
end Fd
end Go.Proofs.YtinaeifpoljfoaaGreatDoor
