/- Plain: a resize block by block: what is taken, what is given back, which blocks become 0; a file system's words behind it. Names no program. -/
import Derived.Test.YtinjllnoonbjmaaInoD
namespace Go.Proofs.Ytinjllnoonbjmaa
open Go.RowKit
set_option linter.unusedVariables false

/-- Six numbers. -/
def six (f : Nat → Nat) : List Nat := (List.range 6).map f
theorem six_len (f : Nat → Nat) : (six f).length = 6 := by simp [six]
theorem six_get (f : Nat → Nat) {j : Nat} (h : j < 6) : (six f).getD j 0 = f j := by simp [six, h]
theorem nlist_ext (xs ys : List Nat) (h : xs.length = ys.length) (hg : ∀ i, i < xs.length → xs.getD i 0 = ys.getD i 0) : xs = ys := by
  apply List.ext_getElem h
  intro i h1 h2
  have := hg i h1
  simpa [h1, h2] using this
theorem six_congr {f g : Nat → Nat} (h : ∀ j, j < 6 → f j = g j) : six f = six g := by
  refine nlist_ext _ _ (by rw [six_len, six_len]) fun i hi => ?_
  rw [six_len] at hi
  rw [six_get _ hi, six_get _ hi, h i hi]
theorem six_of {l : List Nat} (h : l.length = 6) : l = six (fun j => l.getD j 0) := by
  refine nlist_ext _ _ (by rw [six_len, h]) fun i hi => ?_
  rw [six_get _ (by omega)]
theorem six_set (f : Nat → Nat) {k : Nat} (hk : k < 6) (b : Nat) : (six f).set k b = six (fun j => if j = k then b else f j) := by
  refine nlist_ext _ _ (by rw [List.length_set, six_len, six_len]) fun i hi => ?_
  rw [List.length_set, six_len] at hi
  rw [Bi.getD_set _ _ _ _ (by rw [six_len]; exact hk), six_get _ hi, six_get _ hi]
/-- An inode's words. -/
def rowOf (kd lk sz : Int) (bl : List Nat) : List Int := [kd, lk, sz] ++ bl.map (fun b : Nat => (b : Int))
theorem rowOf_len {bl : List Nat} (h : bl.length = 6) (kd lk sz : Int) : (rowOf kd lk sz bl).length = 9 := by simp [rowOf, h]
theorem row_six {x : Ino} (h : x.blk.length ≤ 6) : x.row = rowOf x.kind x.links x.txt.length (six (fun j => x.blk.getD j 0)) := by
  unfold Ino.row rowOf
  rw [List.append_assoc]
  congr 1
  have e : six (fun j => x.blk.getD j 0) = x.blk ++ List.replicate (6 - x.blk.length) 0 := by
    refine nlist_ext _ _ (by rw [six_len]; simp; omega) fun i hi => ?_
    rw [six_len] at hi
    rw [six_get _ hi]
    simp only [List.getD_eq_getElem?_getD]
    by_cases q : i < x.blk.length
    · rw [List.getElem?_append_left q]
    · rw [List.getElem?_append_right (by omega), List.getElem?_replicate, List.getElem?_eq_none (by omega)]
      split <;> rfl
  rw [e]
  simp

theorem grow_snoc (n : Nat) : ∀ (t : Nat) (bw : List Nat), grow n bw (t + 1) = ((grow n bw t).1 ++ [lowN (Bi.bt (grow n bw t).2) n], Bi.mkW (grow n bw t).2 (lowN (Bi.bt (grow n bw t).2) n) true)
  | 0, bw => rfl
  | t + 1, bw => by
    have ih := grow_snoc n t (Bi.mkW bw (lowN (Bi.bt bw) n) true)
    show (lowN (Bi.bt bw) n :: (grow n (Bi.mkW bw (lowN (Bi.bt bw) n) true) (t + 1)).1, (grow n (Bi.mkW bw (lowN (Bi.bt bw) n) true) (t + 1)).2) = _
    rw [ih]
    rfl
theorem back_snoc : ∀ (l bw : List Nat) (b : Nat), back bw (l ++ [b]) = Bi.mkW (back bw l) b false
  | [], bw, b => rfl
  | c :: l, bw, b => by
    show back (Bi.mkW bw c false) (l ++ [b]) = _
    rw [back_snoc l]
    rfl
/-- The words in which these blocks are 0. -/
structure ZW (n : Nat) (ws : List Int) (Z : List Nat) (us : List Int) : Prop where
  len : us.length = ws.length
  fr : ∀ b, b < n → frameOf us b = if b ∈ Z then List.replicate 32 0 else frameOf ws b
theorem ZW.refl (n : Nat) (ws : List Int) : ZW n ws [] ws := ⟨rfl, fun b _ => by simp⟩
theorem ZW.snoc {n : Nat} {ws us : List Int} {Z : List Nat} (h : ZW n ws Z us) (hl : ws.length = n * 32) {b : Nat} (hb : b < n) : ZW n ws (Z ++ [b]) (splice us (b * 32) (List.replicate 32 0)) := by
  have hul : us.length = n * 32 := h.len.trans hl
  refine ⟨(splice_length _ _ _ (by simp [hul]; omega)).trans h.len, fun c hc => ?_⟩
  rw [frame_splice us _ n b c hul hb hc (by simp), h.fr c hc]
  by_cases e : c = b
  · rw [if_pos e, if_pos (by simp [e])]
  · rw [if_neg e]
    by_cases q : c ∈ Z
    · rw [if_pos q, if_pos (by simp [q])]
    · rw [if_neg q, if_neg (by simp [q, e])]

/-- A resize to nd blocks, of a file that has those of l, up to the k-th. -/
def RS (n : Nat) (l bw : List Nat) (nd k : Nat) (bl bw' Z : List Nat) : Prop :=
  (l.length ≤ nd ∧ bl = six (fun j => (l ++ (grow n bw (min k nd - l.length)).1).getD j 0) ∧ bw' = (grow n bw (min k nd - l.length)).2 ∧ Z = (grow n bw (min k nd - l.length)).1) ∨
  (nd < l.length ∧ bl = six (fun j => if nd ≤ j ∧ j < k then 0 else l.getD j 0) ∧ bw' = back bw ((l.drop nd).take (k - nd)) ∧ Z = (l.drop nd).take (k - nd))
section
variable {n nd k : Nat} {l bw bl bw' Z : List Nat}
theorem RS.start (n : Nat) (l bw : List Nat) (nd : Nat) : RS n l bw nd 0 (six (fun j => l.getD j 0)) bw [] := by
  rcases Nat.lt_or_ge nd l.length with q | q
  · refine Or.inr ⟨q, six_congr fun j _ => ?_, by simp [back], by simp⟩
    rw [if_neg (by omega)]
  · refine Or.inl ⟨q, ?_, ?_, ?_⟩ <;> simp [grow]
theorem RS.len (h : RS n l bw nd k bl bw' Z) : bl.length = 6 := by
  rcases h with ⟨_, rfl, _⟩ | ⟨_, rfl, _⟩ <;> exact six_len _
/-- A block that is there and stays. -/
theorem RS.keep (h : RS n l bw nd k bl bw' Z) (hk : k < nd) (hl : k < l.length) : RS n l bw nd (k + 1) bl bw' Z ∧ bl.getD k 0 = l.getD k 0 ∨ 6 ≤ k := by
  rcases Nat.lt_or_ge k 6 with h6 | h6
  · refine Or.inl ?_
    rcases h with ⟨q, rfl, rfl, rfl⟩ | ⟨q, rfl, rfl, rfl⟩
    · have e1 : min k nd - l.length = 0 := by omega
      have e2 : min (k + 1) nd - l.length = 0 := by omega
      rw [e1]
      refine ⟨Or.inl ⟨q, ?_, ?_, ?_⟩, ?_⟩
      · rw [e2]
      · rw [e2]
      · rw [e2]
      · rw [six_get _ h6]; simp [grow]
    · have e1 : k - nd = 0 := by omega
      have e2 : k + 1 - nd = 0 := by omega
      refine ⟨Or.inr ⟨q, six_congr fun j _ => ?_, by rw [e1, e2], by rw [e1, e2]⟩, ?_⟩
      · rw [if_neg (by omega), if_neg (by omega)]
      · rw [six_get _ h6, if_neg (by omega)]
  · exact Or.inr h6
/-- A block that is wanted and is not there. -/
theorem RS.take (h : RS n l bw nd k bl bw' Z) (hk : k < nd) (hl : l.length ≤ k) (h6 : nd ≤ 6) (hn : (grow n bw (k - l.length)).1.length = k - l.length) :
    bl.getD k 0 = 0 ∧ bw' = (grow n bw (k - l.length)).2 ∧ RS n l bw nd (k + 1) (bl.set k (lowN (Bi.bt bw') n)) (Bi.mkW bw' (lowN (Bi.bt bw') n) true) (Z ++ [lowN (Bi.bt bw') n]) := by
  rcases h with ⟨q, rfl, rfl, rfl⟩ | ⟨q, rfl, rfl, rfl⟩
  · have e1 : min k nd - l.length = k - l.length := by omega
    have e2 : min (k + 1) nd - l.length = k - l.length + 1 := by omega
    rw [e1]
    have hs := grow_snoc n (k - l.length) bw
    refine ⟨?_, rfl, Or.inl ⟨q, ?_, ?_, ?_⟩⟩
    · rw [six_get _ (by omega), List.getD_eq_getElem?_getD, List.getElem?_eq_none (by rw [List.length_append, hn]; omega)]
      rfl
    · rw [e2, hs, six_set _ (by omega)]
      refine six_congr fun j hj => ?_
      dsimp only
      rw [← List.append_assoc]
      by_cases e : j = k
      · subst e
        rw [if_pos rfl, List.getD_eq_getElem?_getD, List.getElem?_append_right (by rw [List.length_append, hn]; omega), List.length_append, hn, show j - (l.length + (j - l.length)) = 0 by omega]
        rfl
      · rw [if_neg e]
        simp only [List.getD_eq_getElem?_getD]
        rcases Nat.lt_or_ge j (l ++ (grow n bw (k - l.length)).1).length with w | w
        · rw [List.getElem?_append_left w]
        · have w' := w
          rw [List.length_append, hn] at w'
          rw [List.getElem?_eq_none w, List.getElem?_eq_none (by rw [List.length_append, List.length_append, hn]; simp; omega)]
    · rw [e2, hs]
    · rw [e2, hs]
  · omega
/-- A block that is there and goes. -/
theorem RS.drop (h : RS n l bw nd k bl bw' Z) (hk : nd ≤ k) (hl : k < l.length) (h6 : l.length ≤ 6) :
    bl.getD k 0 = l.getD k 0 ∧ RS n l bw nd (k + 1) (bl.set k 0) (Bi.mkW bw' (l.getD k 0) false) (Z ++ [l.getD k 0]) := by
  rcases h with ⟨q, rfl, rfl, rfl⟩ | ⟨q, rfl, rfl, rfl⟩
  · omega
  · have e : (l.drop nd).take (k + 1 - nd) = (l.drop nd).take (k - nd) ++ [l.getD k 0] := by
      rw [show k + 1 - nd = k - nd + 1 by omega, List.take_add_one, List.getElem?_drop, show nd + (k - nd) = k by omega, List.getElem?_eq_getElem hl, List.getD_eq_getElem?_getD, List.getElem?_eq_getElem hl]
      rfl
    refine ⟨by rw [six_get _ (by omega), if_neg (by omega)], Or.inr ⟨q, ?_, by rw [e, back_snoc], by rw [e]⟩⟩
    rw [six_set _ (by omega)]
    refine six_congr fun j hj => ?_
    by_cases e : j = k
    · rw [if_pos e, if_pos (by omega)]
    · rw [if_neg e]
      by_cases q1 : nd ≤ j ∧ j < k
      · rw [if_pos q1, if_pos (by omega)]
      · rw [if_neg q1, if_neg (by omega)]
/-- No block is there, and none is wanted. -/
theorem RS.none (h : RS n l bw nd k bl bw' Z) (hk : nd ≤ k) (hl : l.length ≤ k) (h6 : k < 6) (hn : (grow n bw (nd - l.length)).1.length = nd - l.length) :
    bl.getD k 0 = 0 ∧ RS n l bw nd (k + 1) (bl.set k 0) bw' Z := by
  rcases h with ⟨q, rfl, rfl, rfl⟩ | ⟨q, rfl, rfl, rfl⟩
  · have e1 : min k nd - l.length = nd - l.length := by omega
    have e2 : min (k + 1) nd - l.length = nd - l.length := by omega
    rw [e1]
    have e0 : (l ++ (grow n bw (nd - l.length)).1).getD k 0 = 0 := by
      rw [List.getD_eq_getElem?_getD, List.getElem?_eq_none (by rw [List.length_append, hn]; omega)]
      rfl
    refine ⟨by rw [six_get _ h6, e0], Or.inl ⟨q, ?_, by rw [e2], by rw [e2]⟩⟩
    rw [six_set _ h6, e2]
    refine six_congr fun j hj => ?_
    by_cases e : j = k
    · rw [if_pos e, e, e0]
    · rw [if_neg e]
  · have e : (l.drop nd).take (k + 1 - nd) = (l.drop nd).take (k - nd) := by
      rw [List.take_of_length_le (by simp; omega), List.take_of_length_le (by simp; omega)]
    refine ⟨?_, Or.inr ⟨q, ?_, by rw [e], by rw [e]⟩⟩
    · rw [six_get _ h6, if_neg (by omega), List.getD_eq_getElem?_getD, List.getElem?_eq_none hl]
      rfl
    · rw [six_set _ h6]
      refine six_congr fun j hj => ?_
      by_cases e : j = k
      · rw [if_pos e, if_pos (by omega)]
      · rw [if_neg e]
        by_cases q1 : nd ≤ j ∧ j < k
        · rw [if_pos q1, if_pos (by omega)]
        · rw [if_neg q1, if_neg (by omega)]
/-- All six. -/
theorem RS.done (h : RS n l bw nd 6 bl bw' Z) (h6 : nd ≤ 6) (hl : l.length ≤ 6) :
    bl = six (fun j => (l.take nd ++ (grow n bw (nd - l.length)).1).getD j 0) ∧ bw' = back (grow n bw (nd - l.length)).2 (l.drop nd) ∧ ∀ b, b ∈ Z ↔ (b ∈ (grow n bw (nd - l.length)).1 ∨ b ∈ l.drop nd) := by
  rcases h with ⟨q, rfl, rfl, rfl⟩ | ⟨q, rfl, rfl, rfl⟩
  · have e1 : min 6 nd = nd := by omega
    rw [e1, List.take_of_length_le q, List.drop_eq_nil_of_le q]
    exact ⟨rfl, rfl, fun b => by simp⟩
  · have e1 : nd - l.length = 0 := by omega
    have e2 : (l.drop nd).take (6 - nd) = l.drop nd := List.take_of_length_le (by rw [List.length_drop]; omega)
    rw [e1, e2]
    refine ⟨six_congr fun j hj => ?_, rfl, fun b => by simp [grow]⟩
    simp only [grow, List.append_nil, List.getD_eq_getElem?_getD, List.getElem?_take]
    by_cases q1 : j < nd
    · rw [if_neg (by omega), if_pos q1]
    · rw [if_pos (by omega), if_neg q1]
      rfl
end
/-- The words of a block from that one on are 0. -/
def cleared (fr k : Nat) (xs : List Int) : List Int := xs.take (fr - 32 * k) ++ List.replicate (32 - (fr - 32 * k)) 0
theorem cleared_len {fr k : Nat} {xs : List Int} (h : xs.length = 32) : (cleared fr k xs).length = 32 := by
  simp [cleared, h]
  omega
theorem cleared_get {fr k : Nat} {xs : List Int} (h : xs.length = 32) (j : Nat) : (cleared fr k xs).getD j 0 = if 32 * k + j < fr then xs.getD j 0 else 0 := by
  unfold cleared
  rw [app_get]
  simp only [List.length_take, h]
  by_cases q : 32 * k + j < fr
  · rw [if_pos q]
    by_cases q2 : j < min (fr - 32 * k) 32
    · rw [if_pos q2, List.getD_eq_getElem?_getD, List.getD_eq_getElem?_getD, List.getElem?_take, if_pos (by omega)]
    · rw [if_neg q2]
      simp only [List.getD_eq_getElem?_getD, List.getElem?_replicate]
      rw [List.getElem?_eq_none (show xs.length ≤ j by omega)]
      split <;> rfl
  · rw [if_neg q, if_neg (by omega)]
    simp only [List.getD_eq_getElem?_getD, List.getElem?_replicate]
    split <;> rfl
/-- The words behind clearFrom, up to block k. -/
structure CW (n fr : Nat) (nb : List Nat) (ws : List Int) (k : Nat) (us : List Int) : Prop where
  len : us.length = ws.length
  fr : ∀ j b, nb[j]? = some b → b < n → frameOf us b = if j < k then cleared fr j (frameOf ws b) else frameOf ws b
  out : ∀ b, b < n → b ∉ nb → frameOf us b = frameOf ws b
end Go.Proofs.Ytinjllnoonbjmaa
