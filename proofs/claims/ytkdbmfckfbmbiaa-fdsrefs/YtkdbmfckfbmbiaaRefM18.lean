/- How many descriptors name the file of an id: plain. -/
import Derived.Test.YtkdbmfckfbmbiaaFdI
namespace Go.Proofs.Ytkdbmfckfbmbiaa
open Go.RowKit
set_option linter.unusedVariables false

/-- Ids of open files are 1 to n, and no two are the same. -/
structure IdsOk (S : FS) (n : Int) : Prop where
  lo : ∀ p, p < 32 → (S.f p).refs ≠ 0 → 1 ≤ (S.f p).id ∧ (S.f p).id ≤ n
  un : ∀ p q, p < 32 → q < 32 → (S.f p).refs ≠ 0 → (S.f q).refs ≠ 0 → (S.f p).id = (S.f q).id → p = q
theorem IdsOk.zero : IdsOk FS.zero 0 := ⟨fun p _ h => absurd rfl h, fun p q _ _ h => absurd rfl h⟩
theorem IdsOk.sub {S S' : FS} {n : Int} (h : IdsOk S n) (hs : ∀ p, p < 32 → (S'.f p).refs ≠ 0 → (S.f p).refs ≠ 0 ∧ (S'.f p).id = (S.f p).id) : IdsOk S' n := by
  refine ⟨fun p hp hr => ?_, fun p q hp hq h1 h2 e => ?_⟩
  · obtain ⟨a, b⟩ := hs p hp hr
    rw [b]
    exact h.lo p hp a
  · obtain ⟨a, b⟩ := hs p hp h1
    obtain ⟨c, d⟩ := hs q hq h2
    rw [b, d] at e
    exact h.un p q hp hq a c e
theorem IdsOk.openT {S : FS} {n : Int} (h : IdsOk S n) (hn : 0 ≤ n) (pid : Int) : IdsOk (openT S pid ⟨2, n + 1, 0, false, 0⟩) (n + 1) := by
  unfold Go.Proofs.Ytkdbmfckfbmbiaa.openT
  cases ho : openOk S pid with
  | false =>
    simp only [Bool.false_eq_true, if_false]
    exact ⟨(fun p hp hr => by have := h.lo p hp hr; omega), h.un⟩
  | true =>
    have hpl : ∀ p, p < 32 → (((S.setF (plOf S).toNat (Fl.re ⟨2, n + 1, 0, false, 0⟩ 1)).setT (key pid (fdOf S (pid - 1).toNat)) ((plOf S).toNat + 1)).f p) = if p = (plOf S).toNat then ⟨2, n + 1, 0, false, 1⟩ else S.f p := fun p hp => rfl
    simp only [if_true]
    refine ⟨fun p hp hr => ?_, fun p q hp hq h1 h2 e => ?_⟩
    · rw [hpl p hp] at hr ⊢
      split
      · show 1 ≤ n + 1 ∧ n + 1 ≤ n + 1
        omega
      · rename_i q
        rw [if_neg q] at hr
        have := h.lo p hp hr
        omega
    · rw [hpl p hp] at h1 e
      rw [hpl q hq] at h2 e
      by_cases ep : p = (plOf S).toNat
      · by_cases eq : q = (plOf S).toNat
        · rw [ep, eq]
        · rw [if_pos ep, if_neg eq] at e
          rw [if_neg eq] at h2
          have := h.lo q hq h2
          have e' : n + 1 = (S.f q).id := e
          omega
      · by_cases eq : q = (plOf S).toNat
        · rw [if_neg ep, if_pos eq] at e
          rw [if_neg ep] at h1
          have := h.lo p hp h1
          have e' : (S.f p).id = n + 1 := e
          omega
        · rw [if_neg ep, if_neg eq] at e
          rw [if_neg ep] at h1
          rw [if_neg eq] at h2
          exact h.un p q hp hq h1 h2 e
theorem IdsOk.name2 {S : FS} {n : Int} (h : IdsOk S n) {to q : Nat} (hr : (S.f (q - 1)).refs ≠ 0) : IdsOk ((S.setT to q).addR (q - 1) 1) n := by
  refine h.sub (fun p hp h1 => ?_)
  by_cases e : p = q - 1
  · subst e
    refine ⟨hr, ?_⟩
    unfold FS.addR
    rw [FS.setF_same]
    rfl
  · have e2 : ((S.setT to q).addR (q - 1) 1).f p = S.f p := by
      unfold FS.addR
      rw [FS.setF_other _ _ _ _ e]
      rfl
    rw [e2] at h1 ⊢
    exact ⟨h1, rfl⟩
theorem IdsOk.dupT {S : FS} {n : Int} (h : IdsOk S n) (hI : Inv S) (pid fd : Int) : IdsOk (dupT S pid fd) n := by
  unfold Go.Proofs.Ytkdbmfckfbmbiaa.dupT
  cases ho : dupOk S pid fd with
  | false => exact h
  | true =>
    unfold dupOk at ho
    simp only [Bool.and_eq_true, decide_eq_true_eq, bne_iff_ne, ne_eq] at ho
    obtain ⟨m, j, rfl, rfl, hm, hj, h2, h3⟩ := nm_yes ho.1
    simp only [if_true]
    refine h.name2 ?_
    rw [h2]
    have := hI.pos (k := m * 6 + j) (by omega) h3
    omega
theorem IdsOk.closeT {S : FS} {n : Int} (h : IdsOk S n) (hI : Inv S) (pid fd : Int) : IdsOk (closeT S pid fd) n := by
  unfold Go.Proofs.Ytkdbmfckfbmbiaa.closeT
  by_cases hn : nm S pid fd = 0
  · rw [if_pos hn]; exact h
  · rw [if_neg hn]
    obtain ⟨m, j, rfl, rfl, hm, hj, h2, h3⟩ := nm_yes hn
    have hp := hI.pos (k := m * 6 + j) (by omega) h3
    rw [← h2] at hp
    refine h.sub (fun p hp2 h1 => ?_)
    by_cases e : p = nm S ((m : Int) + 1) j - 1
    · subst e
      rw [FS.setF_same] at h1 ⊢
      refine ⟨by omega, ?_⟩
      unfold Fl.less at h1 ⊢
      split
      · rename_i q
        rw [if_pos q] at h1
        exact absurd rfl h1
      · rfl
    · rw [FS.setF_other _ _ _ _ e] at h1 ⊢
      exact ⟨h1, rfl⟩
theorem IdsOk.forkTo {S : FS} {n : Int} (h : IdsOk S n) (hI : Inv S) {a b : Nat} (ha : a < 8) (hb : b < 8) : ∀ k, k ≤ 6 → IdsOk (forkTo S a b k) n
  | 0, _ => h
  | k + 1, hk => by
    have ih := IdsOk.forkTo h hI ha hb k (by omega)
    have iI := hI.forkTo ha hb k (by omega)
    show IdsOk (forkStep (Go.Proofs.Ytkdbmfckfbmbiaa.forkTo S a b k) a b k) n
    unfold forkStep
    split
    · rename_i q
      refine ih.name2 ?_
      have := iI.pos (k := a * 6 + k) (by omega) q.2
      omega
    · exact ih
theorem IdsOk.forkT {S : FS} {n : Int} (h : IdsOk S n) (hI : Inv S) (pid c : Int) : IdsOk (forkT S pid c) n := by
  unfold Go.Proofs.Ytkdbmfckfbmbiaa.forkT
  cases ho : (isP pid && isP c) with
  | false => exact h
  | true =>
    simp only [Bool.and_eq_true] at ho
    obtain ⟨m, rfl, hm⟩ := isP_nat ho.1
    obtain ⟨d, rfl, hd⟩ := isP_nat ho.2
    rw [show ((m : Int) + 1 - 1).toNat = m by omega, show ((d : Int) + 1 - 1).toNat = d by omega]
    exact h.forkTo hI hm hd 6 (by omega)
theorem IdsOk.goneTo {S : FS} {n : Int} (h : IdsOk S n) (hI : Inv S) (pid : Int) : ∀ k, IdsOk (goneTo S pid k) n
  | 0 => h
  | k + 1 => (IdsOk.goneTo h hI pid k).closeT (hI.goneTo pid k) pid k

/-- How many of the first K descriptors name a file of this id. -/
def idc (S : FS) (i : Nat) : Nat → Nat
  | 0 => 0
  | K + 1 => if S.t K ≠ 0 ∧ (S.f (S.t K - 1)).id = (i : Int) then idc S i K + 1 else idc S i K
theorem idc_succ (S : FS) (i K : Nat) : idc S i (K + 1) = if S.t K ≠ 0 ∧ (S.f (S.t K - 1)).id = (i : Int) then idc S i K + 1 else idc S i K := rfl
theorem idc_le (S : FS) (i : Nat) : ∀ K, idc S i K ≤ K
  | 0 => Nat.le_refl _
  | K + 1 => by
    have := idc_le S i K
    rw [idc_succ]
    split <;> omega
theorem idc_cnt {S : FS} {n : Int} (hI : Inv S) (h : IdsOk S n) {p i : Nat} (hp : p < 32) (hr : (S.f p).refs ≠ 0) (hi : (S.f p).id = (i : Int)) : ∀ K, K ≤ 48 → idc S i K = cnt S.t (p + 1) K
  | 0, _ => rfl
  | K + 1, hK => by
    have ih := idc_cnt hI h hp hr hi K (by omega)
    rw [idc_succ, cnt_succ, ih]
    by_cases e : S.t K = p + 1
    · rw [if_pos ⟨by omega, by rw [e]; exact hi⟩, if_pos e]
    · rw [if_neg, if_neg e]
      · rfl
      · rintro ⟨h1, h2⟩
        have h3 := hI.pos (k := K) (by omega) h1
        have := h.un p (S.t K - 1) hp h3.1 hr (by omega) (by rw [hi, h2])
        omega
theorem idc_refs {S : FS} {n : Int} (hI : Inv S) (h : IdsOk S n) {p i : Nat} (hp : p < 32) (hr : (S.f p).refs ≠ 0) (hi : (S.f p).id = (i : Int)) : (S.f p).refs = (idc S i 48 : Nat) := by
  rw [idc_cnt hI h hp hr hi 48 (by omega), hI.refs p hp]
  rfl
/-- The counts of all ids. -/
def idL (S : FS) (K : Nat) : List Int := (List.range 101).map (fun i => (idc S i K : Int))
theorem idL_len (S : FS) (K : Nat) : (idL S K).length = 101 := by simp [idL]
theorem idL_get (S : FS) (K : Nat) {i : Nat} (hi : i < 101) : (idL S K)[i]? = some (idc S i K : Int) := by simp [idL, hi]
theorem idL_no {S : FS} {K : Nat} (h : S.t K = 0) : idL S (K + 1) = idL S K := by
  unfold idL
  apply List.map_congr_left
  intro i _
  rw [idc_succ, if_neg (fun q => q.1 h)]
theorem idL_yes {S : FS} {K j : Nat} (h : S.t K ≠ 0) (hj : (S.f (S.t K - 1)).id = (j : Int)) : (idL S K).set j ((idc S j K : Int) + 1) = idL S (K + 1) := by
  apply List.ext_getElem?
  intro i
  rw [List.getElem?_set]
  by_cases hi : i < 101
  · rw [idL_get S (K + 1) hi, idc_succ]
    by_cases e : j = i
    · subst e
      rw [if_pos rfl, if_pos (by rw [idL_len]; omega), if_pos ⟨h, hj⟩]
      rfl
    · rw [if_neg e, if_neg (fun q => e (by have := q.2; omega)), idL_get S K hi]
  · have hr : (idL S (K + 1))[i]? = none := List.getElem?_eq_none (by rw [idL_len]; omega)
    have hl : (idL S K)[i]? = none := List.getElem?_eq_none (by rw [idL_len]; omega)
    rw [hr]
    by_cases e : j = i
    · rw [if_pos e, if_neg (by rw [idL_len]; omega)]
    · rw [if_neg e, hl]
end Go.Proofs.Ytkdbmfckfbmbiaa
