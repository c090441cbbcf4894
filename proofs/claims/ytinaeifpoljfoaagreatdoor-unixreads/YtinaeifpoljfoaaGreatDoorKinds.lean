import Derived.Test.YtinaeifpoljfoaaGreatDoorPlain
import Derived.ProofKit
import Derived.OpenShut
import Derived.Lib.SmallJoins
import Derived.Deep.Slices
set_option linter.all false
set_option maxRecDepth 100000
set_option maxHeartbeats 16000000
namespace Go.Proofs.YtinaeifpoljfoaaGreatDoor
open Go.ChangeShapes Go.WideShapes Go.ChangeAt Go.RowKit Go.Joins
abbrev CK := Option (Option IntKind)
def CK.fits : CK → Value → Prop
 | none, v => ∃ x, v = .bool x
 | some (some k), v => ∃ n, v = .int k n ∧ (Lit.int k n).wf = true
 | some none, v => ∃ x, v = .string x ∧ x.size ≤ maxLen
def Fits : List CK → List Value → Prop
 | [], vs => vs = []
 | k :: ks, vs => ∃ v r, vs = v :: r ∧ CK.fits k v ∧ Fits ks r
theorem Fits.length : ∀ {ks : List CK} {vs : List Value}, Fits ks vs → vs.length = ks.length
 | [], vs, h => by cases h; rfl
 | k :: ks, vs, h => by obtain ⟨v, r, rfl, _, hr⟩ := h; simp [hr.length]
section
variable {H : Type} {enc : TypeId × Value → H} {P : Program} {w : World} {base : Nat} {spare : Nat → Bool} {held : Bool}
end
end Go.Proofs.YtinaeifpoljfoaaGreatDoor
