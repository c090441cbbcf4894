import Derived.Test.YtbhpafgoofkkmaaGreatDoorRxW
import Derived.Test.YtbhpafgoofkkmaaGreatDoorXoT
set_option linter.all false
namespace Go.Proofs.YtbhpafgoofkkmaaGreatDoor
open Go.RowKit
section
variable {w : World} {X : Nat} {Y : RxL} {k : Nat} {S : XS}
end
end Go.Proofs.YtbhpafgoofkkmaaGreatDoor
namespace Go.Proofs.YtbhpafgoofkkmaaGreatDoor
open Go.RowKit
theorem rawS_new {S : XS} {M : Nat} (h : ∀ j, j < 12 → ∀ m ∈ S.Q j, Ip.NewA M m.a) (e : Int) (ws : List Int) (a' : Option Addr) (c' : Nat) (ha : Ip.NewA M a') : ∀ j, j < 12 → ∀ m ∈ (rawS S e ws a' c').1.Q j, Ip.NewA M m.a := by
 intro j hj
 unfold rawS
 split
 ·cases hr : reqOf ws with
  | none => exact h j hj
  | some r =>
   show ∀ m ∈ (rawO S e r a' c').1.Q j, _
   unfold rawO
   split <;> (try dsimp only) <;> first
    | exact h j hj
    | (split <;> exact h j hj)
    | skip
   ·split
    ·show ∀ m ∈ Ip.sendQ S.Q e r.a a' c' r.vals j, _
     unfold Ip.sendQ
     split
     ·intro m hm
      by_cases e1 : j = r.a.toNat
      ·have hm2 : m ∈ Ip.qat S.Q r.a ++ [(⟨e, a', c', r.vals⟩ : Ip.Mg)] := by
        rw [e1] at hm
        simpa [Ip.QS.set] using hm
       rcases List.mem_append.1 hm2 with h1 | h1
       ·unfold Ip.qat at h1
        split at h1
        ·rw [← e1] at h1
         exact h j hj m h1
        ·cases h1
       ·rw [List.mem_singleton] at h1
        subst h1
        exact ha
      ·have hm2 : m ∈ S.Q j := by simpa [Ip.QS.set, e1] using hm
       exact h j hj m hm2
     ·exact h j hj
    ·exact h j hj
   ·cases hq : Ip.qat S.Q e with
    | nil => exact h j hj
    | cons m0 R =>
     show ∀ m ∈ Ip.recvQ S.Q e j, _
     unfold Ip.recvQ
     split
     ·intro m hm
      by_cases e1 : j = e.toNat
      ·have hm2 : m ∈ (S.Q e.toNat).tail := by
        rw [e1] at hm
        simpa [Ip.QS.set] using hm
       rw [← e1] at hm2
       exact h j hj m (List.mem_of_mem_tail hm2)
      ·have hm2 : m ∈ S.Q j := by simpa [Ip.QS.set, e1] using hm
       exact h j hj m hm2
     ·exact h j hj
 ·exact h j hj
section
variable {W wr w' : World} {K k : Nat} {L : XL} {S : XS} {X : Nat} {Y : RxL}
end
section
variable {w w' : World} {A : Nat} {f : Nat → List Int} {k : Nat}
end
theorem RefX.mv {w : World} {X : Nat} {Y : RxL} {k m : Nat} {S : XS} (h : RefX w X Y k S) : RefX w X Y k (S.mv m) := ⟨h.mem, h.disk, h.ipc, h.env, h.m1, h.d1, h.d2, h.j1, h.MS⟩
section
variable {W w0 wr w' : World} {K kk : Nat} {L : XL} {S : XS} {X : Nat} {Y : RxL} {kr : Nat} {Sr : XS} {FA BA B : Nat} {ff fb : Nat → List Int} {nf nb : Nat} {box : Array Value}
end
end Go.Proofs.YtbhpafgoofkkmaaGreatDoor
