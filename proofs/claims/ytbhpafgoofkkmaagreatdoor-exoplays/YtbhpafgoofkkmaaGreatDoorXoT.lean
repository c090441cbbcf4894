import Derived.Test.YtbhpafgoofkkmaaGreatDoorXoW
import Derived.Test.YtbhpafgoofkkmaaGreatDoorXoR
import Derived.Test.YtbhpafgoofkkmaaGreatDoorArgs13b
set_option linter.all false
namespace Go.Proofs.YtbhpafgoofkkmaaGreatDoor
open Go.RowKit
structure RunAt (w wr : World) (K : Nat) (L : XL) (k : Nat) (S : XS) : Prop where
 ex : ExoAt wr K L S
 xi : XI S
 m : S.m ≤ k
 d : S.d = 16
 bl : Below w.heap.size w wr
section
variable {w wr w' w2 : World} {K k : Nat} {L : XL} {S S' : XS}
structure LookAt (w0 wr : World) (K : Nat) (L : XL) (S : XS) (k : Nat) : Prop where
 e0 : ExoAt w0 K L S
 ee : ∃ m, m ≤ k ∧ ExoAt wr K L (S.mv m)
 u : Upd L.D.b w0 wr
 d : S.d = 16
theorem LookAt.size {w0 : World} (h : LookAt w0 wr K L S k) : w0.heap.size ≤ wr.heap.size := h.u.size
end
theorem OW.shape {w : World} {B : Nat} {v : Value} {xs : List Int} (h : OW w B v xs) : ∃ a n c, v = .slice a n c := by
 obtain ⟨a, c, e, _⟩ := h.form
 exact ⟨a, _, c, e⟩
theorem URow.shape {w : World} {B : Nat} {v : Value} {xs : List Int} (h : URow B w v xs) : ∃ a n c, v = .slice a n c := by
 obtain ⟨a, c, e, _⟩ := h
 exact ⟨a, _, c, e⟩
end Go.Proofs.YtbhpafgoofkkmaaGreatDoor
