import Derived.Test.YtbhpafgoofkkmaaGreatDoorXoK
import Derived.Test.YtbhpafgoofkkmaaGreatDoorXoSees
set_option linter.all false
namespace Go.Proofs.YtbhpafgoofkkmaaGreatDoor
open Go.RowKit
structure Alike (S S' : XS) : Prop where
 n : S'.n = S.n
 vs : S'.vs = S.vs
 T : S'.T = S.T
 F : ∀ e, e < 12 → S'.F e = S.F e
 E : S'.E = S.E
 Q : S'.Q = S.Q
 d : S'.d = S.d
 ds : S'.ds = S.ds
 l : S'.l = S.l
 C : S'.C = S.C
theorem Alike.mv (S : XS) (m : Nat) : Alike S (S.mv m) := ⟨rfl, rfl, rfl, fun _ _ => rfl, rfl, rfl, rfl, rfl, rfl, rfl⟩
theorem Alike.trans {S S' S'' : XS} (h : Alike S S') (h' : Alike S' S'') : Alike S S'' :=
 ⟨h'.n.trans h.n, h'.vs.trans h.vs, h'.T.trans h.T, fun e he => (h'.F e he).trans (h.F e he), h'.E.trans h.E, h'.Q.trans h.Q, h'.d.trans h.d, h'.ds.trans h.ds, h'.l.trans h.l, h'.C.trans h.C⟩
theorem ans_err {e : Int} (h : e ≠ 0) (ws : List Int) : ansW e ws = [] := by unfold ansW; rw [if_neg h]
end Go.Proofs.YtbhpafgoofkkmaaGreatDoor
