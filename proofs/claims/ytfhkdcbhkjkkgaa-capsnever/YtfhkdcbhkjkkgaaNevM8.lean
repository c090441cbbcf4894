/- Nobody has a right that was not given on: what the slots keep. -/
import Derived.Test.YtfhkdcbhkjkkgaaDeed8
namespace Go.Proofs.Ytfhkdcbhkjkkgaa
open Go.RowKit
set_option linter.unusedVariables false

theorem among3 : ((List.range 8).all fun a => (List.range 8).all fun b => (List.range 8).all fun c => !(among (a : Nat) (b : Nat) && among (b : Nat) (c : Nat)) || among (a : Nat) (c : Nat)) = true := by kernel_rfl
theorem among_trans {a b c : Int} (ha : 0 ≤ a ∧ a ≤ 7) (hb : 0 ≤ b ∧ b ≤ 7) (hc : 0 ≤ c ∧ c ≤ 7) (h1 : among a b = true) (h2 : among b c = true) : among a c = true := by
  have h := among3
  simp only [List.all_eq_true, List.mem_range] at h
  have h3 := h a.toNat (by omega) b.toNat (by omega) c.toNat (by omega)
  rw [show ((a.toNat : Nat) : Int) = a from by omega, show ((b.toNat : Nat) : Int) = b from by omega, show ((c.toNat : Nat) : Int) = c from by omega, h1, h2] at h3
  simpa using h3
theorem among_self : ((List.range 8).all fun a => among (a : Nat) (a : Nat)) = true := by kernel_rfl
theorem among_refl {a : Int} (ha : 0 ≤ a ∧ a ≤ 7) : among a a = true := by
  have h := among_self
  simp only [List.all_eq_true, List.mem_range] at h
  have h3 := h a.toNat (by omega)
  rwa [show ((a.toNat : Nat) : Int) = a from by omega] at h3
theorem has3 : ((List.range 8).all fun a => (List.range 8).all fun b => [1, 2, 4].all fun q => !(among (q : Nat) (a : Nat) && among (a : Nat) (b : Nat)) || (bits .and .i64 (b : Nat) (q : Nat) != 0)) = true := by kernel_rfl
theorem has_and {a b : Int} {q : Nat} (ha : 0 ≤ a ∧ a ≤ 7) (hb : 0 ≤ b ∧ b ≤ 7) (hq : q = 1 ∨ q = 2 ∨ q = 4) (h1 : among q a = true) (h2 : among a b = true) : (bits .and .i64 b q == 0) = false := by
  have h := has3
  simp only [List.all_eq_true, List.mem_range] at h
  have h3 := h a.toNat (by omega) b.toNat (by omega) q (by simp; omega)
  rw [show ((a.toNat : Nat) : Int) = a from by omega, show ((b.toNat : Nat) : Int) = b from by omega, h1, h2] at h3
  simpa using h3

/-- All that anybody has is for frame 5, with rights among these. -/
def NevI (R : Int) (T : Tab) : Prop := ∀ j, j < 768 → (T j).x = Cp.no ∨ ∃ r, (T j).x = ⟨1, 5, 1, r⟩ ∧ 1 ≤ r ∧ r ≤ 7 ∧ among r R = true
theorem NevI.sanes {R : Int} {T : Tab} (h : NevI R T) : Sanes T := by
  intro j hj
  rcases h j hj with e | ⟨r, e, h1, h2, _⟩
  · rw [e]; exact Sane.no
  · rw [e]; constructor <;> dsimp only <;> omega
theorem NevI.get {R : Int} {T : Tab} (h : NevI R T) (n s : Int) : getT T n s = Cp.no ∨ ∃ r, getT T n s = ⟨1, 5, 1, r⟩ ∧ 1 ≤ r ∧ r ≤ 7 ∧ among r R = true := by
  cases hp : isP n s with
  | false => exact Or.inl (getT_no T n s hp)
  | true =>
    obtain ⟨a, c, rfl, rfl, ha, hc⟩ := isP_nat hp
    rw [getT_nat T a c ha hc]
    exact h _ (by omega)
theorem NevI.put {R : Int} {T : Tab} (h : NevI R T) (m : Nat) (r e s : Int) (h1 : 1 ≤ r) (h2 : r ≤ 7) (h3 : among r R = true) : NevI R (putT T m ⟨⟨1, 5, 1, r⟩, e, s⟩) := by
  intro j hj
  unfold putT
  split
  · by_cases e : j = m * 64 + freeT T m
    · rw [e, Tab.set_same]
      exact Or.inr ⟨r, rfl, h1, h2, h3⟩
    · rw [Tab.set_other _ _ _ _ e]
      exact h j hj
  · exact h j hj
theorem NevI.start {R : Int} (h1 : 1 ≤ R) (h2 : R ≤ 7) : NevI R (addT a0 1 ⟨1, 5, 1, R⟩) := by
  have h0 : NevI R a0 := fun j hj => Or.inl rfl
  unfold addT
  split
  · exact h0.put _ R 0 0 h1 h2 (among_refl ⟨by omega, h2⟩)
  · exact h0
theorem NevI.give {R : Int} {T : Tab} (h : NevI R T) (hR : 0 ≤ R ∧ R ≤ 7) (n s to r : Int) : NevI R (giveT T n s to r) := by
  unfold giveT
  split
  · rename_i hq
    split
    · simp only [giveOK, mayG, Bool.and_eq_true, areR, decide_eq_true_eq] at hq
      obtain ⟨hi, ⟨_, h1, h2⟩, h3⟩ := hq
      rcases h.get n s with e | ⟨q, e, q1, q2, q3⟩
      · rw [e] at hi
        exact absurd hi (by decide)
      · unfold giveH
        rw [e] at h3 ⊢
        exact h.put _ r n s h1 h2 (among_trans ⟨by omega, h2⟩ ⟨by omega, q2⟩ hR h3 q3)
    · exact h
  · exact h
theorem NevI.drop {R : Int} {T : Tab} (h : NevI R T) (n s : Int) : NevI R (dropT T n s) := by
  intro j hj
  unfold dropT
  split
  · by_cases e : j = dropJ n s
    · rw [e, Tab.set_same]
      exact Or.inl rfl
    · rw [Tab.set_other _ _ _ _ e, hoTo_x]
      exact h j hj
  · exact h j hj
theorem revS_or (T : Tab) (p : Int × Int) (j : Nat) : ∀ i, (revS T p i).1 j = T j ∨ (revS T p i).1 j = Hd.no
  | 0 => Or.inl rfl
  | i + 1 => by
    have ih := revS_or T p j i
    unfold revS
    split
    · exact ih
    · dsimp only [clTo]
      split
      · exact Or.inr rfl
      · exact ih
theorem NevI.rev {R : Int} {T : Tab} (h : NevI R T) (p : Int × Int) (i : Nat) : NevI R (revS T p i).1 := by
  intro j hj
  rcases revS_or T p j i with e | e
  · rw [e]; exact h j hj
  · rw [e]; exact Or.inl rfl
theorem NevI.has {R : Int} {T : Tab} (h : NevI R T) (hR : 0 ≤ R ∧ R ≤ 7) (m : Nat) (hm : m < 12) (q : Nat) (hq : q = 1 ∨ q = 2 ∨ q = 4) (hh : hasN T m 1 5 q = true) : (bits .and .i64 R q == 0) = false := by
  unfold hasN at hh
  rw [List.any_eq_true] at hh
  obtain ⟨s, hs, hit⟩ := hh
  rw [List.mem_range] at hs
  rcases h (m * 64 + s) (by omega) with e | ⟨r, e, r1, r2, r3⟩
  · rw [e] at hit
    simp [hitB, coversB] at hit
  · rw [e] at hit
    simp only [hitB, Bool.and_eq_true] at hit
    exact has_and ⟨by omega, r2⟩ hR hq hit.2 r3
theorem NevI.has6 {R : Int} {T : Tab} (h : NevI R T) (m : Nat) (hm : m < 12) (q : Int) : hasN T m 1 6 q = false := by
  refine hasN_miss (fun s hs => ?_)
  rcases h (m * 64 + s) (by omega) with e | ⟨r, e, r1, r2, r3⟩
  · rw [e]
    simp [hitB, coversB]
  · rw [e]
    simp [hitB, coversB]
end Go.Proofs.Ytfhkdcbhkjkkgaa
