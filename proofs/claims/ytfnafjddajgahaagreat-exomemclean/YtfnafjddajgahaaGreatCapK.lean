/- januslaw08's awake: true in every world. -/
import Derived.Test.YtfnafjddajgahaaGreatCapJ
namespace Go.Proofs.YtfnafjddajgahaaGreat
open Go.RowKit
namespace Ca
set_option linter.unusedVariables false

/-- All that was there but the capabilities' own block is as it was, and they came later. -/
theorem upd_below {b : Nat} {w w1 w2 : World} (h : Below w.heap.size w w1) (hu : Upd b w1 w2) (hb : w.heap.size ≤ b) : Below w.heap.size w w2 :=
  h.trans (hu.below hb h.size)

end Ca
end Go.Proofs.YtfnafjddajgahaaGreat
