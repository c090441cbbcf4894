/- What holds of open files and descriptors whatever is called. -/
import Derived.Test.YtkdbmfckfbmbiaaFdM
namespace Go.Proofs.Ytkdbmfckfbmbiaa
open Go.RowKit
set_option linter.unusedVariables false

/-- How many of the first n name one. -/
def cnt (t : Nat → Nat) (r n : Nat) : Nat := ((List.range n).filter (fun k => t k == r)).length
theorem cnt_succ (t : Nat → Nat) (r n : Nat) : cnt t r (n + 1) = cnt t r n + if t n = r then 1 else 0 := by
  unfold cnt
  rw [List.range_succ, List.filter_append, List.length_append]
  by_cases h : t n = r
  · simp [h]
  · simp [h]
theorem cnt_set (t : Nat → Nat) (k q r : Nat) : ∀ n, cnt (fun i => if i = k then q else t i) r n + (if k < n ∧ t k = r then 1 else 0) = cnt t r n + (if k < n ∧ q = r then 1 else 0)
  | 0 => by simp [cnt]
  | n + 1 => by
    have ih := cnt_set t k q r n
    rw [cnt_succ, cnt_succ]
    by_cases hk : n = k
    · subst hk
      rw [if_neg (by omega), if_neg (by omega)] at ih
      simp only [if_true, Nat.lt_succ_self, true_and]
      omega
    · rw [if_neg hk]
      have e : (k < n + 1) = (k < n) := by
        apply propext
        omega
      simp only [e]
      omega
theorem ks_set (S : FS) (k q r : Nat) (hk : k < 48) : (ks (S.setT k q).t r).length + (if S.t k = r then 1 else 0) = (ks S.t r).length + (if q = r then 1 else 0) := by
  have := cnt_set S.t k q r 48
  simp only [hk, true_and] at this
  exact this
/-- One descriptor names another, and the counts say so. -/
theorem Inv.set {S S' : FS} (h : Inv S) {k q : Nat} (hk : k < 48) (hq : q ≤ 32) (ht : S'.t = (S.setT k q).t) (hf : ∀ p, p < 32 → (S'.f p).refs + (if S.t k = p + 1 then 1 else 0) = (S.f p).refs + (if q = p + 1 then 1 else 0)) : Inv S' := by
  refine ⟨fun i hi => ?_, fun p hp => ?_⟩
  · rw [ht]
    by_cases e : i = k
    · rw [e, FS.setT_same]; exact hq
    · rw [FS.setT_other _ _ _ _ e]; exact h.name i hi
  · have h1 := hf p hp
    have h2 := h.refs p hp
    have h3 := ks_set S k q (p + 1) hk
    rw [ht]
    have h4 : ((ks (S.setT k q).t (p + 1)).length : Int) + (if S.t k = p + 1 then 1 else 0) = (ks S.t (p + 1)).length + (if q = p + 1 then 1 else 0) := by
      have := congrArg (Int.ofNat) h3
      split <;> split <;> simp_all <;> omega
    omega
/-- Nothing but what a file is changes. -/
theorem Inv.same {S S' : FS} (h : Inv S) (ht : S'.t = S.t) (hf : ∀ p, p < 32 → (S'.f p).refs = (S.f p).refs) : Inv S' :=
  ⟨fun i hi => by rw [ht]; exact h.name i hi, fun p hp => by rw [hf p hp, ht]; exact h.refs p hp⟩
theorem nat_beq {a b : Nat} (h : (a == b) = true) : a = b := by simpa using h
theorem Inv.openT {S : FS} (h : Inv S) (n : Int) (x : Fl) : Inv (openT S n x) := by
  unfold Go.Proofs.Ytkdbmfckfbmbiaa.openT
  cases ho : openOk S n with
  | false => exact h
  | true =>
    unfold openOk at ho
    simp only [Bool.and_eq_true, decide_eq_true_eq] at ho
    obtain ⟨⟨hp, hd⟩, hl⟩ := ho
    obtain ⟨m, rfl, hm⟩ := isP_nat hp
    rw [show ((m : Int) + 1 - 1).toNat = m by omega] at *
    rcases low_spec (fun i => S.t (m * 6 + i) == 0) 6 with ⟨d, hd6, q1, q2, q3⟩ | ⟨q1, q2⟩
    · rcases low_spec (fun p => (S.f p).refs == 0) 32 with ⟨p, hp32, r1, r2, r3⟩ | ⟨r1, r2⟩
      · have q3' : fdOf S m = (d : Int) := q3
        have r3' : plOf S = (p : Int) := r3
        rw [q3', r3', key_of]
        have e1 : S.t (m * 6 + d) = 0 := nat_beq q1
        have e2 : (S.f p).refs = 0 := by simpa using r1
        simp only [if_true, Int.toNat_natCast]
        refine h.set (k := m * 6 + d) (q := p + 1) (by omega) (by omega) rfl (fun i hi => ?_)
        rw [e1, if_neg (by omega)]
        show ((S.setF p (x.re 1)).f i).refs + 0 = _
        by_cases e : i = p
        · subst e
          rw [FS.setF_same, e2, if_pos rfl]
          rfl
        · rw [FS.setF_other _ _ _ _ e, if_neg (by omega)]
      · have r3' : plOf S = -1 := r2
        omega
    · have q3' : fdOf S m = -1 := q2
      omega
theorem Inv.name2 {S : FS} (h : Inv S) {k to q : Nat} (hk : to < 48) (h0 : S.t to = 0) (hq : q ≠ 0) (hq2 : q ≤ 32) : Inv ((S.setT to q).addR (q - 1) 1) := by
  refine h.set (k := to) (q := q) hk hq2 rfl (fun i hi => ?_)
  rw [h0, if_neg (by omega)]
  unfold FS.addR
  by_cases e : i = q - 1
  · subst e
    rw [FS.setF_same, if_pos (by omega)]
    show ((S.f (q - 1)).re ((S.f (q - 1)).refs + 1)).refs + 0 = _
    unfold Fl.re
    simp
  · rw [FS.setF_other _ _ _ _ e, if_neg (by omega)]
    rfl
theorem Inv.dupT {S : FS} (h : Inv S) (n k : Int) : Inv (dupT S n k) := by
  unfold Go.Proofs.Ytkdbmfckfbmbiaa.dupT
  cases ho : dupOk S n k with
  | false => exact h
  | true =>
    unfold dupOk at ho
    simp only [Bool.and_eq_true, decide_eq_true_eq, bne_iff_ne, ne_eq] at ho
    obtain ⟨hn, hd⟩ := ho
    obtain ⟨m, j, rfl, rfl, hm, hj, h2, h3⟩ := nm_yes hn
    rw [show ((m : Int) + 1 - 1).toNat = m by omega] at *
    rcases low_spec (fun i => S.t (m * 6 + i) == 0) 6 with ⟨d, hd6, q1, q2, q3⟩ | ⟨q1, q2⟩
    · have q3' : fdOf S m = (d : Int) := q3
      rw [q3', key_of, h2]
      exact h.name2 (k := 0) (by omega) (nat_beq q1) h3 (h.name _ (by omega))
    · have q3' : fdOf S m = -1 := q2
      omega
theorem Inv.closeT {S : FS} (h : Inv S) (n k : Int) : Inv (closeT S n k) := by
  unfold Go.Proofs.Ytkdbmfckfbmbiaa.closeT
  by_cases hn : nm S n k = 0
  · rw [if_pos hn]; exact h
  · rw [if_neg hn]
    obtain ⟨m, j, rfl, rfl, hm, hj, h2, h3⟩ := nm_yes hn
    rw [h2, key_of]
    have h4 := h.pos (k := m * 6 + j) (by omega) h3
    refine h.set (k := m * 6 + j) (q := 0) (by omega) (by omega) rfl (fun i hi => ?_)
    rw [if_neg (c := 0 = i + 1) (by omega)]
    by_cases e : i = S.t (m * 6 + j) - 1
    · subst e
      rw [FS.setF_same, if_pos (by omega)]
      unfold Fl.less
      split
      · rename_i q
        show (0 : Int) + 1 = _
        omega
      · show (S.f _).refs - 1 + 1 = _
        omega
    · rw [FS.setF_other _ _ _ _ e, if_neg (by omega)]
      rfl
theorem Inv.seekT {S : FS} (h : Inv S) (n k o : Int) : Inv (seekT S n k o) := by
  unfold Go.Proofs.Ytkdbmfckfbmbiaa.seekT
  split
  · exact h
  · refine h.same rfl (fun p hp => ?_)
    by_cases e : p = nm S n k - 1
    · rw [e, FS.setF_same]; rfl
    · rw [FS.setF_other _ _ _ _ e]
theorem Inv.forkStep {S : FS} (h : Inv S) {a b k : Nat} (ha : a < 8) (hb : b < 8) (hk : k < 6) : Inv (forkStep S a b k) := by
  unfold Go.Proofs.Ytkdbmfckfbmbiaa.forkStep
  split
  · rename_i q
    exact h.name2 (k := 0) (by omega) q.1 q.2 (h.name _ (by omega))
  · exact h
theorem Inv.forkTo {S : FS} (h : Inv S) {a b : Nat} (ha : a < 8) (hb : b < 8) : ∀ k, k ≤ 6 → Inv (forkTo S a b k)
  | 0, _ => h
  | k + 1, hk => (Inv.forkTo h ha hb k (by omega)).forkStep ha hb (by omega)
theorem Inv.forkT {S : FS} (h : Inv S) (n c : Int) : Inv (forkT S n c) := by
  unfold Go.Proofs.Ytkdbmfckfbmbiaa.forkT
  cases ho : (isP n && isP c) with
  | false => exact h
  | true =>
    simp only [Bool.and_eq_true] at ho
    obtain ⟨m, rfl, hm⟩ := isP_nat ho.1
    obtain ⟨d, rfl, hd⟩ := isP_nat ho.2
    rw [show ((m : Int) + 1 - 1).toNat = m by omega, show ((d : Int) + 1 - 1).toNat = d by omega]
    exact h.forkTo hm hd 6 (by omega)
theorem Inv.goneTo {S : FS} (h : Inv S) (n : Int) : ∀ k, Inv (goneTo S n k)
  | 0 => h
  | k + 1 => (Inv.goneTo h n k).closeT n k
theorem goneL_succ (S : FS) (n : Int) (k : Nat) : goneL S n (k + 1) = if nm (goneTo S n k) n k = 0 then goneL S n k else goneL S n k ++ [closeX (goneTo S n k) n k] := rfl
theorem goneL_len (S : FS) (n : Int) : ∀ k, (goneL S n k).length ≤ k
  | 0 => Nat.le_refl _
  | k + 1 => by
    have := goneL_len S n k
    unfold goneL
    split
    · omega
    · simp; omega
end Go.Proofs.Ytkdbmfckfbmbiaa
