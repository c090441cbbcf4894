import Derived.Test.YtinaeifpoljfoaaGreatDoorFdHTFdP
set_option linter.all false
set_option maxRecDepth 100000
set_option maxHeartbeats 16000000
namespace Go.Proofs.YtinaeifpoljfoaaGreatDoor
open Go.RowKit
namespace Ow
end Ow
namespace Fd
open Ow
theorem Fit.re {x : Fl} (h : Fit x) (n : Int) : Fit (x.re n) := ⟨h.k1, h.k2, h.i1, h.i2, h.o1, h.o2⟩
theorem Fit.at {x : Fl} (h : Fit x) {n : Int} (h1 : 0 ≤ n) (h2 : n ≤ 1048576) : Fit (x.at n) := ⟨h.k1, h.k2, h.i1, h.i2, h1, h2⟩
theorem FitS.zero : FitS FS.zero := fun p _ h => absurd rfl h
theorem FitS.setF {S : FS} (h : FitS S) {p : Nat} {x : Fl} (hx : x.refs ≠ 0 → Fit x) (t : Nat → Nat) : FitS ⟨(S.setF p x).f, t⟩ := by
 intro i hi hr
 by_cases e : i = p
 ·subst e
  have e2 : (FS.mk (S.setF i x).f t).f i = x := FS.setF_same S i x;rw [e2] at hr ⊢;exact hx hr
 ·have e2 : (FS.mk (S.setF p x).f t).f i = S.f i := FS.setF_other S p i x e
  rw [e2] at hr ⊢;exact h i hi hr
theorem FitS.openT {S : FS} (h : FitS S) {n : Int} {x : Fl} (hx : Fit x) : FitS (openT S n x) := by
 unfold Go.Proofs.YtinaeifpoljfoaaGreatDoor.Fd.openT
 cases openOk S n with
 | false => exact h
 | true => exact h.setF (fun _ => hx.re 1) _
theorem FitS.at {S : FS} (h : FitS S) (hI : Inv S) {k : Nat} (hk : k < 48) (hn : S.t k ≠ 0) : Fit (S.f (S.t k - 1)) := by
 have := hI.pos hk hn;exact h _ this.1 (by omega)
end Fd
end Go.Proofs.YtinaeifpoljfoaaGreatDoor
