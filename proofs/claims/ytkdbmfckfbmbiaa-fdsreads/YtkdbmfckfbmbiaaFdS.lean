/- All open files fit, whatever is called: plain. -/
import Derived.Test.YtkdbmfckfbmbiaaFdK
namespace Go.Proofs.Ytkdbmfckfbmbiaa
open Go.RowKit
set_option linter.unusedVariables false

theorem Fit.re {x : Fl} (h : Fit x) (n : Int) : Fit (x.re n) := ⟨h.k1, h.k2, h.i1, h.i2, h.o1, h.o2⟩
theorem Fit.at {x : Fl} (h : Fit x) {n : Int} (h1 : 0 ≤ n) (h2 : n ≤ 1048576) : Fit (x.at n) := ⟨h.k1, h.k2, h.i1, h.i2, h1, h2⟩
theorem FitS.zero : FitS FS.zero := fun p _ h => absurd rfl h
theorem FitS.setF {S : FS} (h : FitS S) {p : Nat} {x : Fl} (hx : x.refs ≠ 0 → Fit x) (t : Nat → Nat) : FitS ⟨(S.setF p x).f, t⟩ := by
  intro i hi hr
  by_cases e : i = p
  · subst e
    have e2 : (FS.mk (S.setF i x).f t).f i = x := FS.setF_same S i x
    rw [e2] at hr ⊢
    exact hx hr
  · have e2 : (FS.mk (S.setF p x).f t).f i = S.f i := FS.setF_other S p i x e
    rw [e2] at hr ⊢
    exact h i hi hr
theorem FitS.openT {S : FS} (h : FitS S) {n : Int} {x : Fl} (hx : Fit x) : FitS (openT S n x) := by
  unfold Go.Proofs.Ytkdbmfckfbmbiaa.openT
  cases openOk S n with
  | false => exact h
  | true => exact h.setF (fun _ => hx.re 1) _
theorem FitS.name2 {S : FS} (h : FitS S) {to q : Nat} (hf : Fit (S.f (q - 1))) : FitS ((S.setT to q).addR (q - 1) 1) := h.setF (fun _ => hf.re _) _
theorem FitS.at {S : FS} (h : FitS S) (hI : Inv S) {k : Nat} (hk : k < 48) (hn : S.t k ≠ 0) : Fit (S.f (S.t k - 1)) := by
  have := hI.pos hk hn
  exact h _ this.1 (by omega)
theorem FitS.dupT {S : FS} (h : FitS S) (hI : Inv S) (n k : Int) : FitS (dupT S n k) := by
  unfold Go.Proofs.Ytkdbmfckfbmbiaa.dupT
  cases ho : dupOk S n k with
  | false => exact h
  | true =>
    unfold dupOk at ho
    simp only [Bool.and_eq_true, decide_eq_true_eq, bne_iff_ne, ne_eq] at ho
    obtain ⟨m, j, rfl, rfl, hm, hj, h2, h3⟩ := nm_yes ho.1
    simp only [if_true]
    refine h.name2 ?_
    rw [h2]
    exact h.at hI (by omega) h3
theorem FitS.closeT {S : FS} (h : FitS S) (hI : Inv S) (n k : Int) : FitS (closeT S n k) := by
  unfold Go.Proofs.Ytkdbmfckfbmbiaa.closeT
  by_cases hn : nm S n k = 0
  · rw [if_pos hn]; exact h
  · rw [if_neg hn]
    obtain ⟨m, j, rfl, rfl, hm, hj, h2, h3⟩ := nm_yes hn
    refine h.setF (fun hr => ?_) _
    unfold Fl.less at hr ⊢
    split
    · rename_i q
      rw [if_pos q] at hr
      exact absurd rfl hr
    · rw [h2]
      exact (h.at hI (by omega) h3).re _
theorem FitS.seekT {S : FS} (h : FitS S) (hI : Inv S) (n k o : Int) (ho : o ≤ 1048576) : FitS (seekT S n k o) := by
  unfold Go.Proofs.Ytkdbmfckfbmbiaa.seekT
  split
  · exact h
  · rename_i q
    obtain ⟨m, j, rfl, rfl, hm, hj, h2, h3⟩ := nm_yes (fun e => q (Or.inl e))
    refine h.setF (fun hr => ?_) _
    rw [h2]
    have ho2 : 0 ≤ o := by
      rcases Int.lt_or_le o 0 with e | e
      · exact absurd (Or.inr e) q
      · exact e
    exact (h.at hI (by omega) h3).at ho2 ho
theorem FitS.forkTo {S : FS} (h : FitS S) (hI : Inv S) {a b : Nat} (ha : a < 8) (hb : b < 8) : ∀ k, k ≤ 6 → FitS (forkTo S a b k)
  | 0, _ => h
  | k + 1, hk => by
    have ih := FitS.forkTo h hI ha hb k (by omega)
    have iI := hI.forkTo ha hb k (by omega)
    show FitS (forkStep (Go.Proofs.Ytkdbmfckfbmbiaa.forkTo S a b k) a b k)
    unfold forkStep
    split
    · rename_i q
      exact ih.name2 (ih.at iI (by omega) q.2)
    · exact ih
theorem FitS.forkT {S : FS} (h : FitS S) (hI : Inv S) (n c : Int) : FitS (forkT S n c) := by
  unfold Go.Proofs.Ytkdbmfckfbmbiaa.forkT
  cases ho : (isP n && isP c) with
  | false => exact h
  | true =>
    simp only [Bool.and_eq_true] at ho
    obtain ⟨m, rfl, hm⟩ := isP_nat ho.1
    obtain ⟨d, rfl, hd⟩ := isP_nat ho.2
    rw [show ((m : Int) + 1 - 1).toNat = m by omega, show ((d : Int) + 1 - 1).toNat = d by omega]
    exact h.forkTo hI hm hd 6 (by omega)
theorem FitS.goneTo {S : FS} (h : FitS S) (hI : Inv S) (n : Int) : ∀ k, FitS (goneTo S n k)
  | 0 => h
  | k + 1 => (FitS.goneTo h hI n k).closeT (hI.goneTo n k) n k
end Go.Proofs.Ytkdbmfckfbmbiaa
