/- The reference of package fds as plain data: files in the order of their lowest descriptors. -/
import Derived.Test.YtkdbmfckfbmbiaaRfM18
namespace Go.Proofs.Ytkdbmfckfbmbiaa
open Go.RowKit
set_option linter.unusedVariables false

def hlt (p q : Ab) : Prop := hd p < hd q
theorem hlt_eq {l m : List Ab} (h1 : l.Pairwise hlt) (h2 : m.Pairwise hlt) (h : ∀ a, a ∈ l ↔ a ∈ m) : l = m := by
  have n1 : l.Nodup := h1.imp (fun {a b} (hab : hd a < hd b) => by rintro rfl; omega)
  have n2 : m.Nodup := h2.imp (fun {a b} (hab : hd a < hd b) => by rintro rfl; omega)
  have hp := (List.perm_ext_iff_of_nodup n1 n2).2 h
  exact hp.eq_of_pairwise (fun a b _ _ (x : hd a < hd b) (y : hd b < hd a) => by omega) h1 h2
theorem nat_eq {l m : List Nat} (h1 : l.Pairwise (· < ·)) (h2 : m.Pairwise (· < ·)) (h : ∀ a, a ∈ l ↔ a ∈ m) : l = m := by
  have n1 : l.Nodup := h1.imp (fun hab => by omega)
  have n2 : m.Nodup := h2.imp (fun hab => by omega)
  have hp := (List.perm_ext_iff_of_nodup n1 n2).2 h
  exact hp.eq_of_pairwise (fun a b _ _ h1 h2 => by omega) h1 h2
theorem ks_up (t : Nat → Nat) (q : Nat) : (ks t q).Pairwise (· < ·) := by
  unfold ks
  exact List.Pairwise.filter _ List.pairwise_lt_range
/-- How many ahead have a lower head. -/
def posE (h : Nat) : List En → Nat
  | [] => 0
  | e :: l => if e.d.headD 0 < h then posE h l + 1 else 0
def insE (e : En) (l : List En) : List En := l.take (posE (e.d.headD 0) l) ++ e :: l.drop (posE (e.d.headD 0) l)
theorem posE_le (h : Nat) : ∀ l, posE h l ≤ l.length
  | [] => Nat.le_refl _
  | e :: l => by
    have := posE_le h l
    unfold posE
    split
    · simp; omega
    · simp
theorem posE_lt {h : Nat} : ∀ {l : List En} {j : Nat} {e : En}, j < posE h l → l[j]? = some e → e.d.headD 0 < h
  | [], j, e, hj, _ => by simp [posE] at hj
  | c :: l, 0, e, hj, he => by
    simp at he
    subst he
    unfold posE at hj
    split at hj
    · assumption
    · omega
  | c :: l, j + 1, e, hj, he => by
    unfold posE at hj
    split at hj
    · exact posE_lt (l := l) (j := j) (by omega) (by simpa using he)
    · omega
theorem posE_at {h : Nat} : ∀ {l : List En} {e : En}, l[posE h l]? = some e → ¬ e.d.headD 0 < h
  | [], e, he => by simp at he
  | c :: l, e, he => by
    by_cases hc : c.d.headD 0 < h
    · have e1 : posE h (c :: l) = posE h l + 1 := if_pos hc
      rw [e1] at he
      exact posE_at (l := l) (by simpa using he)
    · have e1 : posE h (c :: l) = 0 := if_neg hc
      rw [e1] at he
      simp at he
      subst he
      exact hc
theorem mem_insE (e x : En) (l : List En) : x ∈ insE e l ↔ x = e ∨ x ∈ l := by
  unfold insE
  rw [List.mem_append, List.mem_cons]
  constructor
  · rintro (h | h | h)
    · exact Or.inr (List.mem_of_mem_take h)
    · exact Or.inl h
    · exact Or.inr (List.mem_of_mem_drop h)
  · rintro (h | h)
    · exact Or.inr (Or.inl h)
    · rw [← List.take_append_drop (posE (e.d.headD 0) l) l, List.mem_append] at h
      rcases h with h | h
      · exact Or.inl h
      · exact Or.inr (Or.inr h)
def elt (a b : En) : Prop := a.d.headD 0 < b.d.headD 0
theorem insE_sorted {e : En} {l : List En} (h : l.Pairwise elt) (hne : ∀ x ∈ l, x.d.headD 0 ≠ e.d.headD 0) : (insE e l).Pairwise elt := by
  unfold insE
  have hs := h
  rw [← List.take_append_drop (posE (e.d.headD 0) l) l, List.pairwise_append] at hs
  obtain ⟨h1, h2, h3⟩ := hs
  rw [List.pairwise_append, List.pairwise_cons]
  have hlo : ∀ x ∈ l.take (posE (e.d.headD 0) l), elt x e := by
    intro x hx
    obtain ⟨j, hj⟩ := List.mem_iff_getElem?.1 hx
    have hl := (List.getElem?_eq_some_iff.1 hj).1
    rw [List.length_take] at hl
    rw [List.getElem?_take_of_lt (by omega)] at hj
    exact posE_lt (by omega) hj
  have hhi : ∀ x ∈ l.drop (posE (e.d.headD 0) l), elt e x := by
    intro x hx
    have hpl := posE_le (e.d.headD 0) l
    obtain ⟨y, hy⟩ : ∃ y, l[posE (e.d.headD 0) l]? = some y := by
      have : 0 < (l.drop (posE (e.d.headD 0) l)).length := List.length_pos_of_mem hx
      rw [List.length_drop] at this
      exact ⟨_, List.getElem?_eq_getElem (by omega)⟩
    have hy1 := posE_at hy
    have hy2 : ¬ y.d.headD 0 = e.d.headD 0 := hne y (List.mem_of_getElem? hy)
    have hlt := (List.getElem?_eq_some_iff.1 hy).1
    rw [List.drop_eq_getElem_cons hlt] at hx h2
    rw [List.pairwise_cons] at h2
    have hye : l[posE (e.d.headD 0) l] = y := (List.getElem?_eq_some_iff.1 hy).2
    rw [hye] at hx h2
    rcases List.mem_cons.1 hx with rfl | hx
    · show e.d.headD 0 < _
      omega
    · have := h2.1 x hx
      unfold elt at *
      omega
  exact ⟨h1, ⟨hhi, h2⟩, fun a ha b hb => by
    rcases List.mem_cons.1 hb with rfl | hb
    · exact hlo a ha
    · exact h3 a ha b hb⟩
theorem snoc_ind {α : Type} {P : List α → Prop} (h0 : P []) (h1 : ∀ L e, P L → P (L ++ [e])) (L : List α) : P L := by
  have h : ∀ M : List α, P M.reverse := by
    intro M
    induction M with
    | nil => exact h0
    | cons e M ih =>
      rw [List.reverse_cons]
      exact h1 _ _ ih
  have := h L.reverse
  rwa [List.reverse_reverse] at this
/-- What the sorting has when it is past so many. -/
def sortF (L : List En) : List En := L.foldl (fun out e => if e.d = [] then out else insE e out) []
theorem sortF_snoc (L : List En) (e : En) : sortF (L ++ [e]) = if e.d = [] then sortF L else insE e (sortF L) := by
  unfold sortF
  rw [List.foldl_append]
  rfl
/-- No two have one lowest descriptor. -/
def Apart (L : List En) : Prop := L.Pairwise (fun a b => a.d ≠ [] → b.d ≠ [] → a.d.headD 0 ≠ b.d.headD 0)
theorem sortF_mem (x : En) : ∀ (L : List En), x ∈ sortF L ↔ x ∈ L ∧ x.d ≠ [] := by
  refine snoc_ind ?_ (fun L e ih => ?_)
  · simp [sortF]
  · rw [sortF_snoc]
    split
    · rename_i he
      rw [ih, List.mem_append, List.mem_singleton]
      constructor
      · rintro ⟨h1, h2⟩
        exact ⟨Or.inl h1, h2⟩
      · rintro ⟨h1 | h1, h2⟩
        · exact ⟨h1, h2⟩
        · rw [h1] at h2
          exact absurd he h2
    · rename_i he
      rw [mem_insE, ih, List.mem_append, List.mem_singleton]
      constructor
      · rintro (rfl | ⟨h1, h2⟩)
        · exact ⟨Or.inr rfl, he⟩
        · exact ⟨Or.inl h1, h2⟩
      · rintro ⟨h1 | h1, h2⟩
        · exact Or.inr ⟨h1, h2⟩
        · exact Or.inl h1
theorem sortF_sorted : ∀ (L : List En), Apart L → (sortF L).Pairwise elt := by
  refine snoc_ind ?_ (fun L e ih => ?_)
  · intro _; simp [sortF]
  · intro hA
    unfold Apart at hA
    rw [List.pairwise_append] at hA
    obtain ⟨h1, _, h3⟩ := hA
    rw [sortF_snoc]
    split
    · exact ih h1
    · rename_i he
      refine insE_sorted (ih h1) (fun x hx => ?_)
      rw [sortF_mem] at hx
      exact h3 x hx.1 e (by simp) hx.2 he
theorem sortF_len : ∀ (L : List En), (sortF L).length ≤ L.length := by
  refine snoc_ind ?_ (fun L e ih => ?_)
  · simp [sortF]
  · rw [sortF_snoc]
    split
    · simp; omega
    · unfold insE
      have := posE_le (e.d.headD 0) (sortF L)
      simp
      omega
/-- Counts laid anew. -/
def En.fix (e : En) : En := ⟨e.x.re e.d.length, e.a, e.cap, e.d⟩
def sortE (L : List En) : List En := (sortF L).map En.fix
theorem sortE_len (L : List En) : (sortE L).length ≤ L.length := by
  unfold sortE
  rw [List.length_map]
  exact sortF_len L
/-- The lowest descriptor that names one. -/
theorem hd_ks {t : Nat → Nat} {q k : Nat} (hk : k < 48) (h : t k = q) (hl : ∀ j, j < k → t j ≠ q) : (ks t q).headD 0 = k := by
  have hm : k ∈ ks t q := (mem_ks _ _ _).2 ⟨hk, h⟩
  have hu := ks_up t q
  match hks : ks t q with
  | [] => rw [hks] at hm; simp at hm
  | a :: l =>
    have ha : a ∈ ks t q := by rw [hks]; simp
    rw [mem_ks] at ha
    rw [hks] at hm hu
    rw [List.pairwise_cons] at hu
    show a = k
    rcases List.mem_cons.1 hm with e | e
    · exact e.symm
    · have := hu.1 k e
      exact absurd ha.2 (hl a this)
theorem ordTo_sorted (t : Nat → Nat) : ∀ k, k ≤ 48 → (ordTo t k).Pairwise (fun p q => (ks t p).headD 0 < (ks t q).headD 0) ∧ (∀ q ∈ ordTo t k, (ks t q).headD 0 < k)
  | 0, _ => ⟨List.Pairwise.nil, fun q hq => by simp [ordTo] at hq⟩
  | k + 1, hk => by
    obtain ⟨ih1, ih2⟩ := ordTo_sorted t k (by omega)
    rw [ordTo_succ]
    split
    · rename_i h
      have hh : (ks t (t k)).headD 0 = k := hd_ks (by omega) rfl (fun j hj e => h.2 ((mem_ordTo t (t k) k).2 ⟨h.1, j, hj, e⟩))
      refine ⟨?_, fun q hq => ?_⟩
      · rw [List.pairwise_append]
        refine ⟨ih1, by simp, fun a ha b hb => ?_⟩
        rw [List.mem_singleton] at hb
        rw [hb, hh]
        exact ih2 a ha
      · rcases List.mem_append.1 hq with hq | hq
        · have := ih2 q hq
          omega
        · rw [List.mem_singleton] at hq
          rw [hq, hh]
          omega
    · exact ⟨ih1, fun q hq => by have := ih2 q hq; omega⟩
theorem refL_sorted (S : FS) : (refL S).Pairwise hlt := by
  unfold refL
  rw [List.pairwise_map]
  exact (ordTo_sorted S.t 48 (by omega)).1
theorem mem_refL (S : FS) (p : Ab) : p ∈ refL S ↔ ∃ q, q ∈ ord S.t ∧ (S.f (q - 1), ks S.t q) = p := by
  unfold refL
  rw [List.mem_map]
/-- Sorted so, they are the state's. -/
theorem sort_ref {L : List En} {S : FS} (hA : Apart L) (h : ∀ p : Ab, (∃ e ∈ L, e.d ≠ [] ∧ (e.x.re e.d.length, e.d) = p) ↔ p ∈ refL S) : (sortE L).map En.ab = refL S := by
  refine hlt_eq ?_ (refL_sorted S) (fun p => ?_)
  · unfold sortE
    rw [List.pairwise_map, List.pairwise_map]
    exact (sortF_sorted L hA).imp (fun {a b} hab => hab)
  · rw [← h p]
    unfold sortE
    rw [List.mem_map]
    constructor
    · rintro ⟨x, hx, rfl⟩
      rw [List.mem_map] at hx
      obtain ⟨e, he, rfl⟩ := hx
      rw [sortF_mem] at he
      exact ⟨e, he.1, he.2, rfl⟩
    · rintro ⟨e, h1, h2, rfl⟩
      exact ⟨e.fix, List.mem_map.2 ⟨e, (sortF_mem e L).2 ⟨h1, h2⟩, rfl⟩, rfl⟩
end Go.Proofs.Ytkdbmfckfbmbiaa
