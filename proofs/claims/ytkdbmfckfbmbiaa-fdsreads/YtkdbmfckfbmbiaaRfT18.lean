/- Names counted anew: plain. -/
import Derived.Test.YtkdbmfckfbmbiaaRfO18
import Derived.Test.YtkdbmfckfbmbiaaFdP
namespace Go.Proofs.Ytkdbmfckfbmbiaa
open Go.RowKit
set_option linter.unusedVariables false

theorem cn_zero (l : List Nat) : cn l 0 = 0 := by unfold cn; rw [if_pos rfl]
theorem cn_mem {l : List Nat} {q : Nat} (h0 : q ≠ 0) (h : q ∈ l) : cn l q = l.idxOf q + 1 := by
  unfold cn
  rw [if_neg h0, if_pos h]
theorem idx_inj {l : List Nat} {p q : Nat} (hp : p ∈ l) (hq : q ∈ l) (h : l.idxOf p = l.idxOf q) : p = q := by
  have h1 := List.idxOf_lt_length_of_mem hp
  have h2 := List.idxOf_lt_length_of_mem hq
  have e1 : l[l.idxOf p]? = some p := by rw [List.getElem?_eq_getElem h1]; simp
  have e2 : l[l.idxOf q]? = some q := by rw [List.getElem?_eq_getElem h2]; simp
  rw [h, e2] at e1
  exact (Option.some.inj e1).symm
theorem mem_ordT {t : Nat → Nat} {k : Nat} (hk : k < 48) (h : t k ≠ 0) : t k ∈ ord t := (mem_ord _ _).2 ⟨h, k, hk, rfl⟩
theorem inO_zero {t : Nat → Nat} {k : Nat} (hk : k < 48) : inO t k = 0 ↔ t k = 0 := by
  unfold inO
  constructor
  · intro h
    rcases Classical.em (t k = 0) with e | e
    · exact e
    · rw [cn_mem e (mem_ordT hk e)] at h
      omega
  · intro h
    rw [h, cn_zero]
theorem inO_eq {t : Nat → Nat} {i j : Nat} (hi : i < 48) (hj : j < 48) : inO t i = inO t j ↔ t i = t j := by
  constructor
  · intro h
    rcases Classical.em (t i = 0) with e | e
    · have := (inO_zero hi).2 e
      rw [h, inO_zero hj] at this
      rw [e, this]
    · rcases Classical.em (t j = 0) with e2 | e2
      · have := (inO_zero hj).2 e2
        rw [← h, inO_zero hi] at this
        exact absurd this e
      · unfold inO at h
        rw [cn_mem e (mem_ordT hi e), cn_mem e2 (mem_ordT hj e2)] at h
        exact idx_inj (mem_ordT hi e) (mem_ordT hj e2) (by omega)
  · intro h
    unfold inO
    rw [h]
theorem ordTo_inO (t : Nat → Nat) : ∀ k, k ≤ 48 → ordTo (inO t) k = (ordTo t k).map (cn (ord t))
  | 0, _ => rfl
  | k + 1, hk => by
    have ih := ordTo_inO t k (by omega)
    rw [ordTo_succ, ordTo_succ, ih]
    have hz := inO_zero (t := t) (k := k) (by omega)
    have hm : inO t k ∈ (ordTo t k).map (cn (ord t)) ↔ t k = 0 ∧ False ∨ t k ∈ ordTo t k := by
      rw [← ih, mem_ordTo, mem_ordTo]
      constructor
      · rintro ⟨h0, i, hi, e⟩
        refine Or.inr ⟨fun e0 => h0 (hz.2 e0), i, hi, ?_⟩
        exact (inO_eq (by omega) (by omega)).1 e
      · rintro (⟨_, h⟩ | ⟨h0, i, hi, e⟩)
        · exact absurd h (by simp)
        · exact ⟨fun e0 => h0 (hz.1 e0), i, hi, (inO_eq (by omega) (by omega)).2 e⟩
    by_cases h : t k ≠ 0 ∧ t k ∉ ordTo t k
    · rw [if_pos h, if_pos ⟨fun e => h.1 (hz.1 e), fun e => by
        rcases hm.1 e with ⟨_, q⟩ | q
        · exact q
        · exact h.2 q⟩, List.map_append]
      rfl
    · rw [if_neg h, if_neg]
      rintro ⟨h1, h2⟩
      exact h ⟨fun e => h1 (hz.2 e), fun e => h2 (hm.2 (Or.inr e))⟩
theorem ord_inO (t : Nat → Nat) : ord (inO t) = (ord t).map (cn (ord t)) := ordTo_inO t 48 (Nat.le_refl _)
theorem ord_inO_get {t : Nat → Nat} {i q : Nat} (h : (ord t)[i]? = some q) : (ord (inO t))[i]? = some (i + 1) ∧ cn (ord t) q = i + 1 := by
  obtain ⟨hl, he⟩ := List.getElem?_eq_some_iff.1 h
  have hq0 := ((mem_ord _ _).1 (List.mem_of_getElem? h)).1
  have hc : cn (ord t) q = i + 1 := by
    rw [cn_mem hq0 (List.mem_of_getElem? h), ← he, List.Nodup.idxOf_getElem (ord_nodup t) i hl]
  refine ⟨?_, hc⟩
  rw [ord_inO, List.getElem?_map, h]
  exact congrArg some hc
theorem inO_inO (t : Nat → Nat) {k : Nat} (hk : k < 48) : inO (inO t) k = inO t k := by
  rcases Classical.em (t k = 0) with e | e
  · have h1 := (inO_zero hk).2 e
    rw [h1]
    exact (inO_zero hk).2 h1
  · have hm := mem_ordT hk e
    have hl := List.idxOf_lt_length_of_mem hm
    have hg : (ord t)[(ord t).idxOf (t k)]? = some (t k) := by rw [List.getElem?_eq_getElem hl]; simp
    obtain ⟨h1, h2⟩ := ord_inO_get hg
    have h3 : inO t k = (ord t).idxOf (t k) + 1 := h2
    have hl2 := (List.getElem?_eq_some_iff.1 h1).1
    have he2 := (List.getElem?_eq_some_iff.1 h1).2
    show cn (ord (inO t)) (inO t k) = inO t k
    rw [h3, cn_mem (by omega) (List.mem_of_getElem? h1)]
    have h4 := List.Nodup.idxOf_getElem (ord_nodup (inO t)) _ hl2
    rw [he2] at h4
    rw [h4]
theorem ks_inO {t : Nat → Nat} {i q : Nat} (h : (ord t)[i]? = some q) : ks (inO t) (i + 1) = ks t q := by
  have hc := (ord_inO_get h).2
  have hm := List.mem_of_getElem? h
  have hq0 := ((mem_ord _ _).1 hm).1
  refine nat_eq (ks_up _ _) (ks_up _ _) (fun k => ?_)
  rw [mem_ks, mem_ks]
  constructor
  · rintro ⟨hk, e⟩
    refine ⟨hk, ?_⟩
    have hn : t k ≠ 0 := fun e0 => by
      have := (inO_zero hk).2 e0
      omega
    unfold inO at e
    rw [cn_mem hn (mem_ordT hk hn)] at e
    rw [cn_mem hq0 hm] at hc
    exact idx_inj (mem_ordT hk hn) hm (by omega)
  · rintro ⟨hk, e⟩
    refine ⟨hk, ?_⟩
    unfold inO
    rw [e]
    exact hc
end Go.Proofs.Ytkdbmfckfbmbiaa
