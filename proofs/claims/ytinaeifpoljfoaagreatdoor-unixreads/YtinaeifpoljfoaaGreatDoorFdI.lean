import Derived.Test.YtinaeifpoljfoaaGreatDoorFdMTFdD
set_option linter.all false
set_option maxRecDepth 100000
set_option maxHeartbeats 16000000
namespace Go.Proofs.YtinaeifpoljfoaaGreatDoor
open Go.RowKit
namespace Ow
end Ow
namespace Fd
open Ow
def cnt (t : Nat → Nat) (r n : Nat) : Nat := ((List.range n).filter (fun k => t k == r)).length
theorem cnt_succ (t : Nat → Nat) (r n : Nat) : cnt t r (n + 1) = cnt t r n + if t n = r then 1 else 0 := by
 unfold cnt;rw [List.range_succ, List.filter_append, List.length_append]
 by_cases h : t n = r
 ·simp [h]
 ·simp [h]
theorem cnt_set (t : Nat → Nat) (k q r : Nat) : ∀ n, cnt (fun i => if i = k then q else t i) r n + (if k < n ∧ t k = r then 1 else 0) = cnt t r n + (if k < n ∧ q = r then 1 else 0)
 | 0 => by simp [cnt]
 | n + 1 => by
  have ih := cnt_set t k q r n;rw [cnt_succ, cnt_succ]
  by_cases hk : n = k
  ·subst hk
   rw [if_neg (by omega), if_neg (by omega)] at ih;simp only [if_true, Nat.lt_succ_self, true_and];omega
  ·rw [if_neg hk]
   have e : (k < n + 1) = (k < n) := by
    apply propext
    omega
   simp only [e];omega
theorem ks_set (S : FS) (k q r : Nat) (hk : k < 48) : (ks (S.setT k q).t r).length + (if S.t k = r then 1 else 0) = (ks S.t r).length + (if q = r then 1 else 0) := by
 have := cnt_set S.t k q r 48;simp only [hk, true_and] at this;exact this
theorem Inv.set {S S' : FS} (h : Inv S) {k q : Nat} (hk : k < 48) (hq : q ≤ 32) (ht : S'.t = (S.setT k q).t) (hf : ∀ p, p < 32 → (S'.f p).refs + (if S.t k = p + 1 then 1 else 0) = (S.f p).refs + (if q = p + 1 then 1 else 0)) : Inv S' := by
 refine ⟨fun i hi => ?_, fun p hp => ?_⟩
 ·rw [ht]
  by_cases e : i = k
  ·rw [e, FS.setT_same]; exact hq
  ·rw [FS.setT_other _ _ _ _ e]; exact h.name i hi
 ·have h1 := hf p hp
  have h2 := h.refs p hp;have h3 := ks_set S k q (p + 1) hk;rw [ht]
  have h4 : ((ks (S.setT k q).t (p + 1)).length : Int) + (if S.t k = p + 1 then 1 else 0) = (ks S.t (p + 1)).length + (if q = p + 1 then 1 else 0) := by
   have := congrArg (Int.ofNat) h3
   split <;> split <;> simp_all <;> omega
  omega
theorem Inv.same {S S' : FS} (h : Inv S) (ht : S'.t = S.t) (hf : ∀ p, p < 32 → (S'.f p).refs = (S.f p).refs) : Inv S' :=
 ⟨fun i hi => by rw [ht]; exact h.name i hi, fun p hp => by rw [hf p hp, ht]; exact h.refs p hp⟩
theorem nat_beq {a b : Nat} (h : (a == b) = true) : a = b := by simpa using h
theorem Inv.openT {S : FS} (h : Inv S) (n : Int) (x : Fl) : Inv (openT S n x) := by
 unfold Go.Proofs.YtinaeifpoljfoaaGreatDoor.Fd.openT
 cases ho : openOk S n with
 | false => exact h
 | true =>
  unfold openOk at ho;simp only [Bool.and_eq_true, decide_eq_true_eq] at ho;obtain ⟨⟨hp, hd⟩, hl⟩ := ho;obtain ⟨m, rfl, hm⟩ := isP_nat hp;rw [show ((m : Int) + 1 - 1).toNat = m by omega] at *
  rcases low_spec (fun i => S.t (m * 6 + i) == 0) 6 with ⟨d, hd6, q1, q2, q3⟩ | ⟨q1, q2⟩
  ·rcases low_spec (fun p => (S.f p).refs == 0) 32 with ⟨p, hp32, r1, r2, r3⟩ | ⟨r1, r2⟩
   ·have q3' : fdOf S m = (d : Int) := q3
    have r3' : plOf S = (p : Int) := r3;rw [q3', r3', key_of];have e1 : S.t (m * 6 + d) = 0 := nat_beq q1
    have e2 : (S.f p).refs = 0 := by simpa using r1
    simp only [if_true, Int.toNat_natCast];refine h.set (k := m * 6 + d) (q := p + 1) (by omega) (by omega) rfl (fun i hi => ?_);rw [e1, if_neg (by omega)]
    show ((S.setF p (x.re 1)).f i).refs + 0 = _
    by_cases e : i = p
    ·subst e
     rw [FS.setF_same, e2, if_pos rfl]
     rfl
    ·rw [FS.setF_other _ _ _ _ e, if_neg (by omega)]
   ·have r3' : plOf S = -1 := r2
    omega
  ·have q3' : fdOf S m = -1 := q2
   omega
theorem Inv.name2 {S : FS} (h : Inv S) {k to q : Nat} (hk : to < 48) (h0 : S.t to = 0) (hq : q ≠ 0) (hq2 : q ≤ 32) : Inv ((S.setT to q).addR (q - 1) 1) := by
 refine h.set (k := to) (q := q) hk hq2 rfl (fun i hi => ?_);rw [h0, if_neg (by omega)];unfold FS.addR
 by_cases e : i = q - 1
 ·subst e
  rw [FS.setF_same, if_pos (by omega)]
  show ((S.f (q - 1)).re ((S.f (q - 1)).refs + 1)).refs + 0 = _
  unfold Fl.re;simp
 ·rw [FS.setF_other _ _ _ _ e, if_neg (by omega)]
  rfl
end Fd
end Go.Proofs.YtinaeifpoljfoaaGreatDoor
