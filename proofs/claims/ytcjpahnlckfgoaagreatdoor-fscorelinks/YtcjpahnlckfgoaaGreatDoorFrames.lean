/- Plain facts on lists of words, and rows of words in the heap: a frame of a list, a list with a part laid anew, a slice of words that lies in a block of its own. Names no program but its type of words. -/
import Derived.Test.YtcjpahnlckfgoaaGreatDoorRows
import Derived.Test.YtcjpahnlckfgoaaGreatDoorPlain
import Derived.WalkKit
import Derived.WalkSpells
import Derived.WalkLawsBesides
import Derived.Deep.AppendLies
namespace Go.Proofs.YtcjpahnlckfgoaaGreatDoor
open Go.RowKit
set_option linter.unusedVariables false

theorem nat_of (f : Int) (h : 0 ≤ f) : ∃ n : Nat, f = (n : Int) := ⟨f.toNat, by omega⟩

/-- The list with the words from o on set to others. -/
def splice (vs : List Int) (o : Nat) (ws : List Int) : List Int := vs.take o ++ ws ++ vs.drop (o + ws.length)
theorem splice_length (vs : List Int) (o : Nat) (ws : List Int) (h : o + ws.length ≤ vs.length) : (splice vs o ws).length = vs.length := by
  simp [splice]; omega
theorem urow_splice (vs : List Int) (o : Nat) (ws : List Int) (cs : List Value) (hc : cs = ws.map (Value.int .u64)) (h : o + ws.length ≤ vs.length) :
    ((urow vs).toList.take o ++ cs ++ (urow vs).toList.drop (o + cs.length)).toArray = urow (splice vs o ws) := by
  subst hc
  simp [urow, splice, List.map_take, List.map_drop]
theorem splice_getD (vs : List Int) (o : Nat) (ws : List Int) (h : o + ws.length ≤ vs.length) (i : Nat) :
    (splice vs o ws).getD i 0 = if o ≤ i ∧ i < o + ws.length then ws.getD (i - o) 0 else vs.getD i 0 := by
  simp only [splice, List.getD_eq_getElem?_getD]
  grind (splits := 30)

/-- The words of frame f. -/
def frameOf (vs : List Int) (f : Nat) : List Int := (vs.drop (f * 32)).take 32
theorem frameOf_length (vs : List Int) (f n : Nat) (hl : vs.length = n * 32) (hf : f < n) : (frameOf vs f).length = 32 := by
  simp [frameOf, hl]; omega
theorem frameOf_getD (vs : List Int) (f j : Nat) (h : j < 32) : (frameOf vs f).getD j 0 = vs.getD (f * 32 + j) 0 := by
  simp [frameOf, h]
theorem list_ext_getD (xs ys : List Int) (h : xs.length = ys.length) (hg : ∀ i, i < xs.length → xs.getD i 0 = ys.getD i 0) : xs = ys := by
  apply List.ext_getElem h
  intro i h1 h2
  have := hg i h1
  simpa [h1, h2] using this
theorem getD_of_get? {xs : List Int} {j : Nat} {x : Int} (h : xs[j]? = some x) : x = xs.getD j 0 := by simp [h]
theorem frame_splice (vs ws : List Int) (n f i : Nat) (hl : vs.length = n * 32) (hf : f < n) (hi : i < n) (hw : ws.length = 32) :
    frameOf (splice vs (f * 32) ws) i = if i = f then ws else frameOf vs i := by
  have hs := splice_length vs (f * 32) ws (by rw [hl, hw]; omega)
  have h1 := frameOf_length (splice vs (f * 32) ws) i n (by rw [hs, hl]) hi
  have h2 := frameOf_length vs i n hl hi
  by_cases e : i = f
  · subst e
    rw [if_pos rfl]
    refine list_ext_getD _ _ (by rw [h1, hw]) fun j hj => ?_
    rw [h1] at hj
    rw [frameOf_getD _ _ _ hj, splice_getD _ _ _ (by rw [hl, hw]; omega), if_pos (by rw [hw]; omega)]
    congr 1
    omega
  · rw [if_neg e]
    refine list_ext_getD _ _ (by rw [h1, h2]) fun j hj => ?_
    rw [h1] at hj
    rw [frameOf_getD _ _ _ hj, frameOf_getD _ _ _ hj, splice_getD _ _ _ (by rw [hl, hw]; omega), if_neg (by rw [hw]; omega)]
theorem frame_zeros (n i : Nat) (hi : i < n) : frameOf (List.replicate (n * 32) (0 : Int)) i = List.replicate 32 0 := by
  simp only [frameOf, List.drop_replicate, List.take_replicate]
  congr 1
  omega

/-- Words as cells. -/
def uvs (zs : List Int) : List Value := zs.map (Value.int .u64)
theorem uvs_len (zs : List Int) : (uvs zs).length = zs.length := by simp [uvs]
theorem uvs_one (zs : List Int) : ∀ u ∈ uvs zs, u.oneCell' = true := by
  intro u hu
  simp only [uvs, List.mem_map] at hu
  obtain ⟨x, _, rfl⟩ := hu
  rfl
theorem uvs_get {zs : List Int} {j : Nat} {u : Value} (h : (uvs zs)[j]? = some u) : ∃ x, zs[j]? = some x ∧ u = .int .u64 x := by
  simp only [uvs, List.getElem?_map, Option.map_eq_some_iff] at h
  obtain ⟨a, ha, rfl⟩ := h
  exact ⟨a, ha, rfl⟩
theorem add0 (g o j : Nat) : (⟨g, o, none⟩ : Addr).add j = ⟨g, o + j, none⟩ := by unfold Addr.add; split <;> simp_all

/-- From block M on all blocks that were there are as they were. -/
def Keeps (M : Nat) (w w' : World) : Prop := w.heap.size ≤ w'.heap.size ∧ ∀ k, M ≤ k → k < w.heap.size → w'.heap[k]? = w.heap[k]?
theorem Keeps.of_below {M : Nat} {w w' : World} (h : Below w.heap.size w w') : Keeps M w w' := ⟨h.size, fun k _ hk => h.block k hk⟩
theorem Keeps.of_updP {M : Nat} {P : Nat → Prop} {w w' : World} (h : UpdP P w w') (hp : ∀ k, P k → k < M) : Keeps M w w' := ⟨h.size, fun k hk hl => h.block k hl (fun x => by have := hp k x; omega)⟩
theorem Keeps.trans {M : Nat} {a b c : World} (h : Keeps M a b) (k : Keeps M b c) : Keeps M a c :=
  ⟨Nat.le_trans h.1 k.1, fun i hi hl => (k.2 i hi (Nat.lt_of_lt_of_le hl h.1)).trans (h.2 i hi hl)⟩

/-- The value v is a slice of the words xs, in a block from M on. -/
def URow (M : Nat) (w : World) (v : Value) (xs : List Int) : Prop :=
  ∃ a cap, v = .slice a xs.length cap ∧ xs.length ≤ cap ∧ cap ≤ maxLen ∧ (xs ≠ [] → ∃ g cur, a = some ⟨g, 0, none⟩ ∧ M ≤ g ∧ w.heap[g]? = some (.cells cur 103 (0, 0)) ∧ ∀ (j : Nat) (x : Int), xs[j]? = some x → cur[j]? = some (.int .u64 x))

theorem URow.keep {M : Nat} {w w' : World} {v : Value} {xs : List Int} (h : URow M w v xs) (hk : Keeps M w w') : URow M w' v xs := by
  obtain ⟨a, cap, e, h1, h2, hf⟩ := h
  refine ⟨a, cap, e, h1, h2, fun hne => ?_⟩
  obtain ⟨g, cur, ea, hm, hh, hc⟩ := hf hne
  exact ⟨g, cur, ea, hm, (hk.2 g hm (lt_of_heap hh)).trans hh, hc⟩
theorem URow.mono {M M' : Nat} {w : World} {v : Value} {xs : List Int} (h : URow M w v xs) (hm : M' ≤ M) : URow M' w v xs := by
  obtain ⟨a, cap, e, h1, h2, hf⟩ := h
  refine ⟨a, cap, e, h1, h2, fun hne => ?_⟩
  obtain ⟨g, cur, ea, hg, r⟩ := hf hne
  exact ⟨g, cur, ea, by omega, r⟩
/-- The value v is a slice of the words ws, wherever they lie. -/
def RdV (w : World) (v : Value) (ws : List Int) : Prop :=
  ∃ a cap, v = .slice a ws.length cap ∧ ws.length ≤ cap ∧ ∀ (j : Nat) (x : Int), ws[j]? = some x → ∃ g off, a = some ⟨g, off, none⟩ ∧ w.cell? ⟨g, off + j, none⟩ = some (.int .u64 x)
theorem URow.rdv {M : Nat} {w : World} {v : Value} {xs : List Int} (h : URow M w v xs) : RdV w v xs := by
  obtain ⟨a, cap, e, h1, _, hf⟩ := h
  refine ⟨a, cap, e, h1, fun j x hj => ?_⟩
  obtain ⟨g, cur, ea, _, hh, hc⟩ := hf (by intro e; rw [e] at hj; simp at hj)
  exact ⟨g, 0, ea, by rw [cell_of_heap hh, Nat.zero_add]; exact hc j x hj⟩
theorem RdV.below {w w' : World} {v : Value} {xs : List Int} (h : RdV w v xs) (hb : Below w.heap.size w w') : RdV w' v xs := by
  obtain ⟨a, cap, e, h1, hf⟩ := h
  refine ⟨a, cap, e, h1, fun j x hj => ?_⟩
  obtain ⟨g, off, ea, hc⟩ := hf j x hj
  exact ⟨g, off, ea, (hb.cell (cell_lt hc)).trans hc⟩
theorem RdV.nil (w : World) (a : Option Addr) (c : Nat) : RdV w (.slice a 0 c) [] := ⟨a, c, rfl, Nat.zero_le _, fun j x h => by simp at h⟩
/-- One of so many words: where they lie. -/
theorem RdV.has {w : World} {v : Value} {ws : List Int} (h : RdV w v ws) (k : Nat) (hl : ws.length = k + 1) : ∃ g o cap, v = .slice (some ⟨g, o, none⟩) (k + 1) cap ∧ ∀ (j : Nat) (x : Int), ws[j]? = some x → w.cell? ⟨g, o + j, none⟩ = some (.int .u64 x) := by
  obtain ⟨a, cap, e, _, hf⟩ := h
  obtain ⟨y, hy⟩ : ∃ y, ws[0]? = some y := ⟨ws[0], List.getElem?_eq_getElem (by omega)⟩
  obtain ⟨g, o, rfl, _⟩ := hf 0 y hy
  rw [hl] at e
  refine ⟨g, o, cap, e, fun j x hx => ?_⟩
  obtain ⟨g', o', e', hc⟩ := hf j x hx
  simp only [Option.some.injEq, Addr.mk.injEq] at e'
  obtain ⟨rfl, rfl, _⟩ := e'
  exact hc
theorem URow.nil (M : Nat) (w : World) : URow M w (.slice none 0 0) [] := ⟨none, 0, rfl, Nat.le_refl _, by unfold maxLen; omega, fun h => absurd rfl h⟩
theorem urow_of_own {w : World} {base : Nat} {v : Value} {zs : List Int} (h : w.ownsRow base 103 1 v zs.length (uvs zs)) : URow base w v zs := by
  rcases h.2 with ⟨e2, e3⟩ | ⟨g, cap, cur, e2, hb, hh, h1, h2, h3, h4⟩
  · have : zs = [] := List.length_eq_zero_iff.1 e3
    subst this
    rw [e2]
    exact URow.nil _ _
  · refine ⟨_, cap, e2, by omega, by omega, fun _ => ⟨g, cur, rfl, hb, hh, fun j x hx => ?_⟩⟩
    have hi : j < zs.length := (List.getElem?_eq_some_iff.1 hx).1
    have : (uvs zs)[j]? = some (.int .u64 x) := by simp [uvs, hx]
    rw [← h4, List.getElem?_take_of_lt (by omega)] at this
    simpa using this

theorem ownsRow_below {w w' : World} {base : Nat} {e : TypeId} {size : Nat} {v : Value} {n : Nat} {xs : List Value} (h : w.ownsRow base e size v n xs) (hb : Below w.heap.size w w') : w'.ownsRow base e size v n xs := by
  obtain ⟨h1, h2⟩ := h
  refine ⟨h1, ?_⟩
  rcases h2 with h2 | ⟨g, cap, cur, hv, hg, hh, r⟩
  · exact Or.inl h2
  · exact Or.inr ⟨g, cap, cur, hv, hg, (hb.block g (lt_of_heap hh)).trans hh, r⟩
theorem below_grown {B : Nat} {w w' : World} {v : Value} (h : w.grownBy w' v.ownBlock) (hs : B ≤ w.heap.size) (hv : ∀ g, v.ownBlock = some g → B ≤ g) : Below B w w' :=
  ⟨h.os, h.tape, h.output, h.size, fun k hk => h.block k (by omega) (fun e => by have := hv k e.symm; omega)⟩
theorem ownsRow_low {w : World} {base : Nat} {e : TypeId} {size : Nat} {v : Value} {n : Nat} {xs : List Value} (h : w.ownsRow base e size v n xs) : ∀ g, v.ownBlock = some g → base ≤ g := by
  intro g hg
  rcases h.2 with ⟨e2, _⟩ | ⟨g', cap, cur, e2, hb, _⟩
  · rw [e2] at hg; simp [Value.ownBlock] at hg
  · rw [e2] at hg; simp [Value.ownBlock] at hg; omega

end Go.Proofs.YtcjpahnlckfgoaaGreatDoor
