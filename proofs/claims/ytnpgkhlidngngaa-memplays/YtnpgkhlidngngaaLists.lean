/- Plain facts on lists of words: a frame of a list, a list with a part laid anew, read at a place. -/
import Derived.Test.YtnpgkhlidngngaaMemD
namespace Go.Proofs.Ytnpgkhlidngngaa
set_option linter.unusedVariables false

theorem splice_getD (vs : List Int) (o : Nat) (ws : List Int) (h : o + ws.length ≤ vs.length) (i : Nat) :
    (splice vs o ws).getD i 0 = if o ≤ i ∧ i < o + ws.length then ws.getD (i - o) 0 else vs.getD i 0 := by
  simp only [splice, List.getD_eq_getElem?_getD]
  grind (splits := 30)

theorem frameOf_getD (vs : List Int) (f j : Nat) (h : j < 32) : (frameOf vs f).getD j 0 = vs.getD (f * 32 + j) 0 := by
  simp [frameOf, h]

theorem set_getD (vs : List Int) (o i : Nat) (v : Int) (h : o < vs.length) : (vs.set o v).getD i 0 = if i = o then v else vs.getD i 0 := by
  simp only [List.getD_eq_getElem?_getD, List.getElem?_set]
  by_cases e : i = o
  · subst e; simp [h]
  · rw [if_neg (fun x => e x.symm), if_neg e]

/-- The first k of the words, zeros behind them. -/
def fillTo (z : List Int) (k m : Nat) : List Int := z.take k ++ List.replicate (m - k) 0
theorem fillTo_zero (z : List Int) (m : Nat) : fillTo z 0 m = List.replicate m 0 := by simp [fillTo]
theorem fillTo_length (z : List Int) (k m : Nat) (h : k ≤ z.length) (hm : k ≤ m) : (fillTo z k m).length = m := by
  simp [fillTo]; omega
theorem fillTo_set (z : List Int) (k m : Nat) (h : k < z.length) (hm : k < m) : (fillTo z k m).set k (z.getD k 0) = fillTo z (k + 1) m := by
  apply List.ext_getElem?
  intro i
  simp only [fillTo, List.getD_eq_getElem?_getD]
  grind (splits := 30)
theorem fillTo_getD (z : List Int) (k m i : Nat) (h : k ≤ z.length) : (fillTo z k m).getD i 0 = if i < k then z.getD i 0 else 0 := by
  simp only [fillTo, List.getD_eq_getElem?_getD, List.getElem?_append, List.length_take, List.getElem?_take, List.getElem?_replicate]
  have e1 : min k z.length = k := by omega
  rw [e1]
  by_cases hi : i < k
  · simp [hi]
  · rw [if_neg hi, if_neg hi]
    split <;> simp

theorem list_ext_getD (xs ys : List Int) (h : xs.length = ys.length) (hg : ∀ i, i < xs.length → xs.getD i 0 = ys.getD i 0) : xs = ys := by
  apply List.ext_getElem h
  intro i h1 h2
  have := hg i h1
  simpa [h1, h2] using this

/-- Behind a Copy of frame f into frame t both frames are what frame f was. -/
theorem frame_of_copy (vs : List Int) (n t f : Nat) (hl : vs.length = n * 32) (ht : t < n) (hf : f < n) (j : Nat) (hj : j < 32) :
    (frameOf (splice vs (t * 32) (frameOf vs f)) t).getD j 0 = vs.getD (f * 32 + j) 0 ∧ (frameOf (splice vs (t * 32) (frameOf vs f)) f).getD j 0 = vs.getD (f * 32 + j) 0 := by
  have hfl := frameOf_length vs f n hl hf
  rw [frameOf_getD _ _ _ hj, frameOf_getD _ _ _ hj, splice_getD _ _ _ (by rw [hfl, hl]; omega), splice_getD _ _ _ (by rw [hfl, hl]; omega), hfl]
  constructor
  · rw [if_pos (by omega), show t * 32 + j - t * 32 = j by omega, frameOf_getD _ _ _ hj]
  · by_cases e : f = t
    · subst e
      rw [if_pos (by omega), show f * 32 + j - f * 32 = j by omega, frameOf_getD _ _ _ hj]
    · rw [if_neg (by omega)]

end Go.Proofs.Ytnpgkhlidngngaa
