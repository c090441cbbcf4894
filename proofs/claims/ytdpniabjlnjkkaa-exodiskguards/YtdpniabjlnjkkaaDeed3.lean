/- A deed's cells, for the laws of package blocks. -/
import Derived.Test.YtdpniabjlnjkkaaDiskC
import Derived.Test.YtdpniabjlnjkkaaKinds
namespace Go.Proofs.Ytdpniabjlnjkkaa
open Go.RowKit
namespace Di
set_option linter.unusedVariables false

/-- A deed as cells. -/
def deedRow (p : Bool) (b n v : Int) : Array Value := #[.bool p, .int .i64 b, .int .i64 n, .int .u64 v]

theorem deedCells {w : World} {g : Nat} {p : Bool} {b n v : Int} {t : TypeId} (h : w.heap[g]? = some (.cells (deedRow p b n v) t)) :
    w.cell? ⟨g, 0, none⟩ = some (.bool p) ∧ w.cell? ⟨g, 1, none⟩ = some (.int .i64 b) ∧ w.cell? ⟨g, 2, none⟩ = some (.int .i64 n) ∧ w.cell? ⟨g, 3, none⟩ = some (.int .u64 v) := by
  refine ⟨?_, ?_, ?_, ?_⟩ <;> (rw [cell_of_heap h]; rfl)

theorem deedOf {l : List Value} (h : Fits [.b, .i .i64, .i .i64, .i .u64] l) : ∃ (p : Bool) (b n v : Int), l = (deedRow p b n v).toList := by
  obtain ⟨_, _, rfl, ⟨p, rfl⟩, _, _, rfl, ⟨b, rfl, _⟩, _, _, rfl, ⟨n, rfl, _⟩, _, _, rfl, ⟨v, rfl, _⟩, rfl⟩ := h
  exact ⟨p, b, n, v, rfl⟩

end Di
end Go.Proofs.Ytdpniabjlnjkkaa
