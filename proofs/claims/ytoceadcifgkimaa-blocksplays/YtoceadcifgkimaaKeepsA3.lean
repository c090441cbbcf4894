/- Two deeds in their boxes and a disk of three blocks: the contracts of the disk's calls over them. -/
import Derived.Test.YtoceadcifgkimaaDeed3
import Derived.BigQuiet
import Derived.Deep.QuietTactic
import Derived.Deep.RegionHeld3
import Derived.ProofKit
import Derived.OpenShut
import Derived.ChangeOld
import Derived.Below
namespace Go.Proofs.Ytoceadcifgkimaa
open Go.ChangeShapes Go.WideShapes Go.ChangeAt Go.RowKit
set_option linter.unusedVariables false

theorem make_page (w : World) :
    (Instr.makeSlice 32 (.int .i64 32) (.int .i64 32)).run Try.prog w = .ok (.slice (some ⟨w.heap.size, 0, none⟩) 32 32) (w.alloc (.cells (zrow 32) 27)) :=
  run_make_flat 32 27 (.int .u64 0) (.int .u64 0) 1 8 Try.underlying32 wordInfo rfl (by omega) .i64 .i64 32 (by omega) (by omega) w
theorem page_row (M : Nat) (w : World) (h : M ≤ w.heap.size) : URow M (w.alloc (.cells (zrow 32) 27)) (.slice (some ⟨w.heap.size, 0, none⟩) 32 32) (List.replicate 32 0) := by
  refine ⟨_, 32, by simp, by simp, by unfold maxLen; omega, fun _ => ⟨w.heap.size, zrow 32, rfl, h, heap_alloc_new _ _, fun j x hx => ?_⟩⟩
  have hj : j < 32 := by have := (List.getElem?_eq_some_iff.1 hx).1; simpa using this
  rw [List.getElem?_replicate, if_pos hj] at hx
  simp only [Option.some.injEq] at hx
  subst hx
  simp [zrow, hj]

/-- Two deeds in their boxes, and a disk of three blocks behind them; what was there is as it was. -/
structure KB (w W : World) (p1 : Bool) (b1 n1 v1 : Int) (p2 : Bool) (b2 n2 v2 : Int) (vs : List Int) (gt pt : Nat) : Prop where
  boxA : W.heap[w.heap.size]? = some (.cells (deedRow p1 b1 n1 v1) 29)
  boxB : W.heap[w.heap.size + 1]? = some (.cells (deedRow p2 b2 n2 v2) 29)
  disk : DiskAt W (w.heap.size + 3) (w.heap.size + 2) 3 vs gt pt
  old : Below w.heap.size w W

section
variable {w W W' : World} {p1 : Bool} {b1 n1 v1 : Int} {p2 : Bool} {b2 n2 v2 : Int} {vs : List Int} {gt pt : Nat}
theorem KB.sz (h : KB w W p1 b1 n1 v1 p2 b2 n2 v2 vs gt pt) : w.heap.size + 4 ≤ W.heap.size := by have := lt_of_heap h.disk.head; omega
theorem KB.below (h : KB w W p1 b1 n1 v1 p2 b2 n2 v2 vs gt pt) (k : Below W.heap.size W W') : KB w W' p1 b1 n1 v1 p2 b2 n2 v2 vs gt pt :=
  ⟨(k.block _ (lt_of_heap h.boxA)).trans h.boxA, (k.block _ (lt_of_heap h.boxB)).trans h.boxB, h.disk.below k, h.old.trans (k.mono h.old.size)⟩
theorem KB.upd {vs' : List Int} {gt' pt' : Nat} (h : KB w W p1 b1 n1 v1 p2 b2 n2 v2 vs gt pt) (u : UpdP (fun k => k = w.heap.size + 3 ∨ k = w.heap.size + 2) W W') (d : DiskAt W' (w.heap.size + 3) (w.heap.size + 2) 3 vs' gt' pt') : KB w W' p1 b1 n1 v1 p2 b2 n2 v2 vs' gt' pt' :=
  ⟨(u.block _ (lt_of_heap h.boxA) (by omega)).trans h.boxA, (u.block _ (lt_of_heap h.boxB) (by omega)).trans h.boxB, d, h.old.trans (u.below2 (by omega) (by omega) h.old.size)⟩
theorem KB.ca1 (h : KB w W p1 b1 n1 v1 p2 b2 n2 v2 vs gt pt) : W.cell? ⟨w.heap.size, 1, none⟩ = some (.int .i64 b1) := (deedCells h.boxA).2.1
theorem KB.ca3 (h : KB w W p1 b1 n1 v1 p2 b2 n2 v2 vs gt pt) : W.cell? ⟨w.heap.size, 3, none⟩ = some (.int .u64 v1) := (deedCells h.boxA).2.2.2
theorem KB.cb1 (h : KB w W p1 b1 n1 v1 p2 b2 n2 v2 vs gt pt) : W.cell? ⟨w.heap.size + 1, 1, none⟩ = some (.int .i64 b2) := (deedCells h.boxB).2.1
theorem KB.cb3 (h : KB w W p1 b1 n1 v1 p2 b2 n2 v2 vs gt pt) : W.cell? ⟨w.heap.size + 1, 3, none⟩ = some (.int .u64 v2) := (deedCells h.boxB).2.2.2

theorem kb_block (v : Int) (h : KB w W p1 b1 n1 v1 p2 b2 n2 v2 vs gt pt) :
    Calls Try.prog 10 #[.int .i64 32, .int .u64 v] W fun e w' => ∃ a c, e = .returned (.slice a 32 c) ∧ URow (w.heap.size + 4) w' (.slice a 32 c) (blk v (cnt 32)) ∧ KB w w' p1 b1 n1 v1 p2 b2 n2 v2 vs gt pt ∧ Keeps (w.heap.size + 4) W w' :=
  (block_row 32 v W).mono fun e w' ⟨u, he, hr, hb⟩ => by
    obtain ⟨a, c, rfl⟩ := hr.is
    rw [blk32] at hr he
    exact ⟨a, c, he, hr.mono h.sz, h.below hb, Keeps.of_below hb⟩
theorem kb_put {f v : Int} {u : Value} (h : KB w W p1 b1 n1 v1 p2 b2 n2 v2 vs gt pt) (hu : URow (w.heap.size + 4) W u (blk v (cnt 32))) (h0 : 0 ≤ f) (h1 : f < 3) (hp : pt ≤ 10) :
    Calls Try.prog 9 #[.pointer (some ⟨w.heap.size + 3, 0, none⟩), .int .i64 f, u] W fun e w' => e = .returned (.int .i64 0) ∧ KB w w' p1 b1 n1 v1 p2 b2 n2 v2 (splice vs (f.toNat * 32) (blk v (cnt 32))) gt (pt + 1) :=
  (put_at (w.heap.size + 4) _ _ _ _ _ _ _ f u W h.disk h0 (by simpa using h1) (by omega) hu (blk32 v) (by omega)).mono fun e w' ⟨he, hd, hup⟩ => ⟨he, h.upd hup hd⟩
theorem kb_putno {f : Int} {a : Option Addr} {m c : Nat} (h : KB w W p1 b1 n1 v1 p2 b2 n2 v2 vs gt pt) (hno : ¬ (0 ≤ f ∧ f < 3)) :
    Calls Try.prog 9 #[.pointer (some ⟨w.heap.size + 3, 0, none⟩), .int .i64 f, .slice a m c] W fun e w' => e = .returned (.int .i64 101) ∧ w' = W :=
  putno_at _ _ _ _ _ _ f a m c W h.disk (by intro h; exact hno ⟨h.1, h.2.1⟩)
theorem kb_get {f : Int} (h : KB w W p1 b1 n1 v1 p2 b2 n2 v2 vs gt pt) (h0 : 0 ≤ f) (h1 : f < 3) (hp : gt ≤ 10) :
    Calls Try.prog 12 #[.pointer (some ⟨w.heap.size + 3, 0, none⟩), .int .i64 f] W fun e w' => ∃ gg, e = .returned (.tuple #[.slice (some ⟨gg, 0, none⟩) 32 32, .int .i64 0]) ∧
      URow (w.heap.size + 4) w' (.slice (some ⟨gg, 0, none⟩) 32 32) (frameOf vs f.toNat) ∧ KB w w' p1 b1 n1 v1 p2 b2 n2 v2 vs (gt + 1) pt :=
  (get_at _ _ _ _ _ _ f W h.disk h0 (by simpa using h1) (by omega)).mono fun e w' ⟨gg, he, hr, hd, hup⟩ => ⟨gg, he, hr.mono h.sz, h.upd (hup.p _ (Or.inl rfl)) hd⟩
end

/-- The start of the walk: both boxes, and New. -/
theorem kb_start {w w1 : World} (p1 : Bool) (b1 n1 v1 : Int) (p2 : Bool) (b2 n2 v2 : Int) (vs : List Int)
    (hd : DiskAt w1 (w.heap.size + 1 + 1 + 1) (w.heap.size + 1 + 1) 3 vs 0 0)
    (hb : Below (w.heap.size + 1 + 1) ((w.alloc (.cells (deedRow p1 b1 n1 v1) 29)).alloc (.cells (deedRow p2 b2 n2 v2) 29)) w1) : KB w w1 p1 b1 n1 v1 p2 b2 n2 v2 vs 0 0 := by
  refine ⟨?_, ?_, hd, (((Below.refl _ _).alloc (Nat.le_refl _) _).alloc (by simp) _).trans (hb.mono (by omega))⟩
  · rw [hb.block _ (by omega), Below.heap_alloc _ _ _ (by simp), heap_alloc_new]
  · rw [hb.block _ (by omega)]
    simpa using heap_alloc_new (w.alloc _) _

end Go.Proofs.Ytoceadcifgkimaa
