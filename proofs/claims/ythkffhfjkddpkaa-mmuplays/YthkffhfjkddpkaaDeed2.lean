/- A deed's cells, for the laws of package mmu. -/
import Derived.Test.YthkffhfjkddpkaaMmuI
import Derived.Test.YthkffhfjkddpkaaKinds
namespace Go.Proofs.Ythkffhfjkddpkaa
open Go.RowKit
set_option linter.unusedVariables false

/-- A deed as cells. -/
def deedRow (k pg fr : Int) (wt : Bool) (a : Int) (wr : Bool) : Array Value := #[.int .i64 k, .int .i64 pg, .int .i64 fr, .bool wt, .int .u64 a, .bool wr]

theorem deedCells {w : World} {g : Nat} {k pg fr a : Int} {wt wr : Bool} {t : TypeId} (h : w.heap[g]? = some (.cells (deedRow k pg fr wt a wr) t)) :
    w.cell? ⟨g, 0, none⟩ = some (.int .i64 k) ∧ w.cell? ⟨g, 1, none⟩ = some (.int .i64 pg) ∧ w.cell? ⟨g, 2, none⟩ = some (.int .i64 fr) ∧ w.cell? ⟨g, 3, none⟩ = some (.bool wt) ∧ w.cell? ⟨g, 4, none⟩ = some (.int .u64 a) ∧ w.cell? ⟨g, 5, none⟩ = some (.bool wr) := by
  refine ⟨?_, ?_, ?_, ?_, ?_, ?_⟩ <;> (rw [cell_of_heap h]; rfl)

theorem deedKinds : kindsOf Try.prog 9 40 = some [.i .i64, .i .i64, .i .i64, .b, .i .u64, .b] := by kernel_rfl
theorem deedOf {l : List Value} (h : Fits [.i .i64, .i .i64, .i .i64, .b, .i .u64, .b] l) : ∃ (k pg fr : Int) (wt : Bool) (a : Int) (wr : Bool), l = (deedRow k pg fr wt a wr).toList ∧ 0 ≤ a := by
  obtain ⟨_, _, rfl, ⟨k, rfl, _⟩, _, _, rfl, ⟨pg, rfl, _⟩, _, _, rfl, ⟨fr, rfl, _⟩, _, _, rfl, ⟨wt, rfl⟩, _, _, rfl, ⟨a, rfl, ha⟩, _, _, rfl, ⟨wr, rfl⟩, rfl⟩ := h
  exact ⟨k, pg, fr, wt, a, wr, rfl, (bounds_u64 ha).1⟩

end Go.Proofs.Ythkffhfjkddpkaa
