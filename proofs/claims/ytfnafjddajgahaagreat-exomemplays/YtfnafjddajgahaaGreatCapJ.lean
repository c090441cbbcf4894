/- What keeps the numbers small; Ints; frame; januslaw08's awake: true in every world. -/
import Derived.Test.YtfnafjddajgahaaGreatCapI
namespace Go.Proofs.YtfnafjddajgahaaGreat
open Go.RowKit
namespace Ca
set_option linter.unusedVariables false

theorem putT_sanes {T : Tab} (h : Sanes T) (m : Nat) (H : Hd) (hH : Sane H.x) : Sanes (putT T m H) := by
  intro j hj
  unfold putT
  split
  · by_cases e : j = m * 64 + freeT T m
    · rw [e, Tab.set_same]
      exact hH
    · rw [Tab.set_other _ _ _ _ e]
      exact h j hj
  · exact h j hj
theorem addT_sanes {T : Tab} (h : Sanes T) (n : Int) (x : Cp) : Sanes (addT T n x) := by
  unfold addT
  split
  · rename_i hq
    refine putT_sanes h _ _ ?_
    simp [addOK] at hq
    exact mayB_sane hq.2
  · exact h
theorem giveT_sanes {T : Tab} (h : Sanes T) (n s to r : Int) : Sanes (giveT T n s to r) := by
  unfold giveT
  split
  · rename_i hq
    split
    · refine putT_sanes h _ _ ?_
      simp [giveOK, mayG, areR] at hq
      obtain ⟨a, b, c, d, e, f, g, k⟩ := getT_sane h n s
      exact ⟨a, b, c, d, e, f, by show 0 ≤ r; omega, by show r ≤ 7; omega⟩
    · exact h
  · exact h
theorem clTo_sanes {T : Tab} (h : Sanes T) (pe ps : Int) (k : Nat) : Sanes (clTo T pe ps k) := by
  intro j hj
  unfold clTo
  split
  · exact Sane.no
  · exact h j hj
theorem revS_sanes {T : Tab} (h : Sanes T) (p : Int × Int) : ∀ i, Sanes (revS T p i).1
  | 0 => h
  | i + 1 => by
    unfold revS
    split
    · exact revS_sanes h p i
    · exact clTo_sanes (revS_sanes h p i) _ _ _
theorem revS_stay {T : Tab} {p : Int × Int} {i : Nat} (h : (revS T p i).2.length ≤ i) : ∀ k, revS T p (i + k) = revS T p i
  | 0 => rfl
  | k + 1 => by
    have ih := revS_stay h k
    have : (revS T p (i + k)).2[i + k]? = none := by
      rw [ih]
      exact List.getElem?_eq_none (by omega)
    show revS T p ((i + k) + 1) = _
    rw [revS, this]
    exact ih
theorem revS_one {T : Tab} {p : Int × Int} {i k : Nat} (hi : (revS T p i).2.length = i) (hk : (revS T p k).2.length = k) : i = k := by
  rcases Nat.le_total i k with h | h
  · obtain ⟨d, rfl⟩ : ∃ d, k = i + d := ⟨k - i, by omega⟩
    rw [revS_stay (by omega) d] at hk
    omega
  · obtain ⟨d, rfl⟩ : ∃ d, i = k + d := ⟨i - k, by omega⟩
    rw [revS_stay (by omega) d] at hi
    omega

/-- A slice at a0 holds these ints. -/
def IRow (w : World) (a0 : Option Addr) (D : List Int) : Prop := ∀ (j : Nat) (x : Int), D[j]? = some x → ∃ gb off, a0 = some ⟨gb, off, none⟩ ∧ w.cell? ⟨gb, off + j, none⟩ = some (.int .i64 x)
theorem IRow.below {w w' : World} {a0 : Option Addr} {D : List Int} (h : IRow w a0 D) (hb : Below w.heap.size w w') : IRow w' a0 D := by
  intro j x hj
  obtain ⟨gb, off, ha, hc⟩ := h j x hj
  exact ⟨gb, off, ha, by rw [hb.cell (cell_lt hc)]; exact hc⟩
theorem own_irow {w : World} {base : Nat} {e : TypeId} {v : Value} {D : List Int} (h : w.ownsRow base e 1 v D.length (ivs D)) : ∃ a cap, v = .slice a D.length cap ∧ IRow w a D := by
  rcases h.2 with ⟨rfl, e2⟩ | ⟨g, cap, cur, rfl, _, hh, _, _, _, ht⟩
  · have : D = [] := List.eq_nil_of_length_eq_zero e2
    subst this
    exact ⟨none, 0, rfl, fun j x hx => by simp at hx⟩
  · refine ⟨_, cap, rfl, fun j x hx => ⟨g, 0, rfl, ?_⟩⟩
    have hj : j < D.length := (List.getElem?_eq_some_iff.1 hx).1
    have hq : (ivs D)[j]? = some (.int .i64 x) := by simp [ivs, hx]
    rw [Nat.zero_add, cell_of_heap hh]
    rw [← ht, Nat.mul_one, List.getElem?_take_of_lt hj] at hq
    simpa using hq

/-- The document's examples. -/
def a0 : Tab := fun _ => Hd.no
def a1 : Tab := addT a0 1 ⟨1, 5, 1, 7⟩
def a2 : Tab := giveT a1 1 1 2 1
def a3 : Tab := giveT a2 2 1 3 1
def a4 : Tab := (revS a3 (1, 1) 2).1
theorem a0_sanes : Sanes a0 := fun j hj => Sane.no
theorem a3_sanes : Sanes a3 := giveT_sanes (giveT_sanes (addT_sanes a0_sanes _ _) _ _ _ _) _ _ _ _
theorem a4_sanes : Sanes a4 := revS_sanes a3_sanes _ _
theorem w_add : addA a0 1 ⟨1, 5, 1, 7⟩ = 1 ∧ addR a0 1 ⟨1, 5, 1, 7⟩ = 0 := ⟨by kernel_rfl, by kernel_rfl⟩
theorem w_give : giveA a1 1 1 2 1 = 1 ∧ giveR a1 1 1 2 1 = 0 := ⟨by kernel_rfl, by kernel_rfl⟩
theorem w_give2 : giveA a2 2 1 3 1 = 0 ∧ giveR a2 2 1 3 1 = 104 := ⟨by kernel_rfl, by kernel_rfl⟩
theorem w_has : hasB a3 2 1 5 1 = true ∧ hasB a3 2 1 5 2 = false := ⟨by kernel_rfl, by kernel_rfl⟩
theorem w_hold : holdTo a3 1 5 12 = [1, 2] := by kernel_rfl
theorem w_rev : (revS a3 (1, 1) 2).2.length = 2 := by kernel_rfl
theorem w_is : (getT a3 1 1).is = true := by kernel_rfl
theorem w_drop : dropB a4 1 1 = true ∧ dropR a4 1 1 = 0 := ⟨by kernel_rfl, by kernel_rfl⟩
end Ca
end Go.Proofs.YtfnafjddajgahaaGreat
