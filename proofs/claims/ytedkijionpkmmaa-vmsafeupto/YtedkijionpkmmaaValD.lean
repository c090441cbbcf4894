/- The contract of depthsOf: the search that goes over all that can be reached. -/
import Derived.Test.YtedkijionpkmmaaValC
import Derived.OneCell
import Derived.Deep.LoopGhost
namespace Go.Proofs.Ytedkijionpkmmaa
open Go.RowKit
set_option linter.unusedVariables false

/-- A slice at a0 holds these ints. -/
def IRow (w : World) (a0 : Option Addr) (D : List Int) : Prop := ∀ (j : Nat) (x : Int), D[j]? = some x → ∃ gb off, a0 = some ⟨gb, off, none⟩ ∧ w.cell? ⟨gb, off + j, none⟩ = some (.int .i64 x)
theorem IRow.below {w w' : World} {a0 : Option Addr} {D : List Int} (h : IRow w a0 D) (hb : Below w.heap.size w w') : IRow w' a0 D := by
  intro j x hj
  obtain ⟨gb, off, ha, hc⟩ := h j x hj
  exact ⟨gb, off, ha, by rw [hb.cell (cell_lt hc)]; exact hc⟩
theorem irow_get {D : List Int} {j : Nat} {x : Int} (h : D[j]? = some x) : (irow D).toArray[j]? = some (.int .i64 x) := by simp [irow, h]
theorem irow_set (D : List Int) (k : Nat) (d : Int) : (irow D).toArray.setIfInBounds k (.int .i64 d) = (irow (D.set k d)).toArray := by simp [irow, List.map_set]

/-- The cells of places that are left. -/
def pcells (L : List (Int × Int)) : List Value := L.flatMap fun x => [.int .i64 x.1, .int .i64 x.2]
theorem pcells_len : ∀ (L : List (Int × Int)), (pcells L).length = L.length * 2
  | [] => rfl
  | x :: L => by
    have e : pcells (x :: L) = [.int .i64 x.1, .int .i64 x.2] ++ pcells L := rfl
    rw [e, List.length_append, pcells_len L, List.length_cons]
    simp
    omega
theorem pcells_snoc (L : List (Int × Int)) (x : Int × Int) : pcells (L ++ [x]) = pcells L ++ [.int .i64 x.1, .int .i64 x.2] := by simp [pcells]
theorem own_below {w w' : World} {B : Nat} {e : TypeId} {size : Nat} {v : Value} {n : Nat} {xs : List Value} (h : w.ownsRow B e size v n xs) (hb : Below w.heap.size w w') : w'.ownsRow B e size v n xs := by
  rcases h with ⟨h1, h2 | ⟨g, cap, cur, hv, hg, hh, r⟩⟩
  · exact ⟨h1, Or.inl h2⟩
  · exact ⟨h1, Or.inr ⟨g, cap, cur, hv, hg, by rw [hb.block g (lt_of_heap hh)]; exact hh, r⟩⟩
theorem nil_or_snoc {α : Type} (L : List α) : L = [] ∨ ∃ L' x, L = L' ++ [x] := by
  rcases List.eq_nil_or_concat L with h | ⟨L', x, h⟩
  · exact Or.inl h
  · exact Or.inr ⟨L', x, by rw [h, List.concat_eq_append]⟩
/-- What depthsOf answers. -/
def Found (l : List Ins) (e : Ending) (w' : World) : Prop :=
  (∃ D a0 cap, Sol l D ∧ e = .returned (.tuple #[.slice a0 l.length cap, .bool true]) ∧ IRow w' a0 D) ∨ ((∀ D, ¬ Sol l D) ∧ e = .returned (.tuple #[.slice none 0 0, .bool false]))

end Go.Proofs.Ytedkijionpkmmaa
