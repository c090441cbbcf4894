/- InodeFiles: files as texts (plain), and what the law keeps beside the disk. -/
import Derived.Test.YtinjllnoonbjmaaLwK
import Derived.Test.YtinjllnoonbjmaaLwH
namespace Go.Proofs.Ytinjllnoonbjmaa
open Go.ChangeShapes Go.WideShapes Go.ChangeAt Go.RowKit Go.Lib
set_option linter.unusedVariables false

def padB (l : List UInt8) (m : Nat) : List UInt8 := l ++ List.replicate (m - l.length) 0
def laidB (l : List UInt8) (o : Nat) (d : List UInt8) : List UInt8 := l.take o ++ d ++ l.drop (o + d.length)
theorem padB_len (l : List UInt8) (m : Nat) : (padB l m).length = max l.length m := by simp [padB]; omega
theorem laidB_len (l : List UInt8) (o : Nat) (d : List UInt8) (h : o + d.length ≤ l.length) : (laidB l o d).length = l.length := by simp [laidB]; omega
theorem laidB_nil (l : List UInt8) (o : Nat) : laidB l o [] = l := by simp [laidB]
theorem laidB_get (l : List UInt8) (o : Nat) (d : List UInt8) (h : o + d.length ≤ l.length) (x : Nat) : (laidB l o d)[x]? = if o ≤ x ∧ x < o + d.length then d[x - o]? else l[x]? := by
  unfold laidB
  have h1 : (l.take o).length = o := by rw [List.length_take]; omega
  by_cases q : x < o
  · rw [if_neg (by omega), List.append_assoc, List.getElem?_append_left (by omega), List.getElem?_take_of_lt q]
  · by_cases q2 : x < o + d.length
    · rw [if_pos ⟨by omega, q2⟩, List.getElem?_append_left (by rw [List.length_append]; omega), List.getElem?_append_right (by omega), h1]
    · rw [if_neg (by omega), List.getElem?_append_right (by rw [List.length_append]; omega), List.length_append, h1, List.getElem?_drop]
      congr 1
      omega
theorem laidB_set (l : List UInt8) (o : Nat) (s : List UInt8) (h : o + s.length ≤ l.length) (j : Nat) (hj : j < s.length) : (laidB l o (s.take j)).set (o + j) s[j] = laidB l o (s.take (j + 1)) := by
  have e1 : (s.take j).length = j := by rw [List.length_take]; omega
  have e2 : (s.take (j + 1)).length = j + 1 := by rw [List.length_take]; omega
  refine List.ext_getElem? fun x => ?_
  rw [List.getElem?_set, laidB_len _ _ _ (by omega), laidB_get _ _ _ (by omega), laidB_get _ _ _ (by omega), e1, e2]
  by_cases q : o + j = x
  · subst q
    rw [if_pos rfl, if_pos (by omega), if_pos ⟨by omega, by omega⟩, Nat.add_sub_cancel_left, List.getElem?_take_of_lt (by omega), List.getElem?_eq_getElem hj]
  · rw [if_neg q]
    by_cases q2 : o ≤ x ∧ x < o + j
    · rw [if_pos q2, if_pos ⟨q2.1, by omega⟩, List.getElem?_take_of_lt (by omega), List.getElem?_take_of_lt (by omega)]
    · rw [if_neg q2, if_neg (by omega)]
theorem byts_app (a b : List Int) : byts (a ++ b) = byts a ++ byts b := by simp [byts]
theorem byts_take (a : List Int) (n : Nat) : byts (a.take n) = (byts a).take n := by simp [byts]
theorem byts_drop (a : List Int) (n : Nat) : byts (a.drop n) = (byts a).drop n := by simp [byts]
theorem byts_zero (n : Nat) : byts (List.replicate n 0) = List.replicate n 0 := by unfold byts; rw [List.map_replicate]; rfl
theorem wr_want (F : FS) (i o : Nat) (s : List UInt8) : byts ((writeF F i o (nums s)).ino i).txt = laidB (padB (byts (F.ino i).txt) (o + s.length)) o s := by
  rw [write_txt]
  generalize (F.ino i).txt = t
  unfold patch laidB
  rw [byts_app, byts_app, byts_nums, byts_take, byts_drop, nums_len]
  have e : byts (sized t (max t.length (o + s.length))) = padB (byts t) (o + s.length) := by
    unfold sized padB
    rw [List.take_of_length_le (Nat.le_max_left _ _), byts_app, byts_zero, byts_len]
    congr 2
    omega
  rw [e]
theorem rs_want (F : FS) (i n : Nat) : byts ((resizeF F i n).ino i).txt = (padB (byts (F.ino i).txt) n).take n := by
  rw [resize_txt]
  generalize (F.ino i).txt = t
  unfold sized padB
  rw [byts_app, byts_zero, byts_take, List.take_append, byts_len, List.take_replicate, Nat.min_self]
theorem wr_other (F : FS) (i : Nat) (o : Int) (l : List UInt8) {j : Nat} (h : j ≠ i) : (wrF F i o l).ino j = F.ino j := by
  unfold wrF
  split
  · rfl
  · split
    · rfl
    · split
      · rfl
      · split
        · unfold writeF
          show (FS.put _ _ _ _).ino j = _
          rw [FS.put_other _ _ _ _ h]
          unfold resizeF
          rw [FS.put_other _ _ _ _ h]
        · rfl
theorem rs_other (F : FS) (i : Nat) (s : Int) {j : Nat} (h : j ≠ i) : (rsF F i s).ino j = F.ino j := by
  unfold rsF
  split
  · rfl
  · split
    · rfl
    · split
      · unfold resizeF
        rw [FS.put_other _ _ _ _ h]
      · rfl
/-- What Write did to the file's text, by its code. -/
theorem wr_cases (F : FS) (i : Nat) (o : Int) (l : List UInt8) : ((wrR F i o l == 0) = true ∧ l ≠ [] ∧ ∃ n : Nat, o = (n : Int) ∧ n + l.length ≤ 192 ∧ byts ((wrF F i o l).ino i).txt = laidB (padB (byts (F.ino i).txt) (n + l.length)) n l) ∨ ((wrR F i o l == 0) = true ∧ l = [] ∧ wrF F i o l = F) ∨ ((wrR F i o l == 0) = false ∧ wrF F i o l = F) := by
  unfold wrR wrF
  by_cases h1 : o < 0
  · rw [if_pos h1, if_pos h1]; exact Or.inr (Or.inr ⟨rfl, rfl⟩)
  · rw [if_neg h1, if_neg h1]
    by_cases h2 : 192 < o + l.length
    · rw [if_pos h2, if_pos h2]; exact Or.inr (Or.inr ⟨rfl, rfl⟩)
    · rw [if_neg h2, if_neg h2]
      by_cases h3 : l = []
      · rw [if_pos h3, if_pos h3]; exact Or.inr (Or.inl ⟨rfl, h3, rfl⟩)
      · rw [if_neg h3, if_neg h3]
        by_cases h4 : roomB F i (max (F.ino i).txt.length (o.toNat + l.length)) = true
        · rw [if_pos h4, if_pos h4]
          exact Or.inl ⟨rfl, h3, o.toNat, by omega, by omega, wr_want _ _ _ _⟩
        · rw [if_neg h4, if_neg h4]; exact Or.inr (Or.inr ⟨rfl, rfl⟩)
theorem rs_cases (F : FS) (i : Nat) (s : Int) : ((rsR F i s == 0) = true ∧ ∃ n : Nat, s = (n : Int) ∧ n ≤ 192 ∧ byts ((rsF F i s).ino i).txt = (padB (byts (F.ino i).txt) n).take n) ∨ ((rsR F i s == 0) = false ∧ rsF F i s = F) := by
  unfold rsR rsF
  by_cases h1 : s < 0
  · rw [if_pos h1, if_pos h1]; exact Or.inr ⟨rfl, rfl⟩
  · rw [if_neg h1, if_neg h1]
    by_cases h2 : 192 < s
    · rw [if_pos h2, if_pos h2]; exact Or.inr ⟨rfl, rfl⟩
    · rw [if_neg h2, if_neg h2]
      by_cases h4 : roomB F i s.toNat = true
      · rw [if_pos h4, if_pos h4]
        exact Or.inl ⟨rfl, s.toNat, by omega, by omega, rs_want _ _ _⟩
      · rw [if_neg h4, if_neg h4]; exact Or.inr ⟨rfl, rfl⟩
theorem rd_all {F : FS} (h : FInv F) (k : Nat) (hk : k < 32) : rdT F (k : Int) 0 192 = byts (F.ino k).txt ∧ rdR (k : Int) 0 192 = 0 := by
  have hi := isI_nat hk
  unfold rdT rdR
  rw [if_pos ⟨hi, by omega, by omega⟩, if_pos ⟨hi, by omega, by omega⟩]
  refine ⟨?_, rfl⟩
  show cutB (F.ino ((k : Int).toNat)).txt 0 192 = _
  rw [Int.toNat_natCast]
  unfold cutB
  rw [List.drop_zero, List.take_of_length_le (h.max k hk)]
/-- The inodes' numbers so far; the texts that are wanted. -/
def isR (k : Nat) : Array Value := #[.int .i64 (if 0 < k then 1 else 0), .int .i64 (if 1 < k then 2 else 0), .int .i64 (if 2 < k then 3 else 0)]
theorem isR_set (k : Nat) (hk : k < 3) : (isR k).setIfInBounds k (.int .i64 ((k : Int) + 1)) = isR (k + 1) := by
  match k, hk with
  | 0, _ => rfl
  | 1, _ => rfl
  | 2, _ => rfl
theorem isR_get (k : Nat) (hk : k < 3) : (isR 3)[k]? = some (.int .i64 ((k : Int) + 1)) := by
  match k, hk with
  | 0, _ => rfl
  | 1, _ => rfl
  | 2, _ => rfl
theorem isR_some (j k : Nat) (hk : k < 3) : ∃ z, (isR j)[k]? = some (.int .i64 z) := by
  match k, hk with
  | 0, _ => exact ⟨_, rfl⟩
  | 1, _ => exact ⟨_, rfl⟩
  | 2, _ => exact ⟨_, rfl⟩
def wantR (T : Nat → List UInt8) : Array Value := #[tx (T 0), tx (T 1), tx (T 2)]
theorem wantR_get (T : Nat → List UInt8) (k : Nat) (hk : k < 3) : (wantR T)[k]? = some (tx (T k)) := by
  match k, hk with
  | 0, _ => rfl
  | 1, _ => rfl
  | 2, _ => rfl
theorem wantR_set (T : Nat → List UInt8) (k : Nat) (hk : k < 3) (t : List UInt8) : (wantR T).setIfInBounds k (tx t) = wantR (fun j => if j = k then t else T j) := by
  match k, hk with
  | 0, _ => rfl
  | 1, _ => rfl
  | 2, _ => rfl
structure FlsAt (w wr : World) (B G p6 p7 : Nat) (F : FS) (m : Nat) (T : Nat → List UInt8) : Prop where
  fs : Fs wr B G F m
  is : wr.heap[p6]? = some (.cells (isR 3) 57)
  want : wr.heap[p7]? = some (.cells (wantR T) 58)
  old : Below w.heap.size w wr
  lo : w.heap.size ≤ B ∧ w.heap.size ≤ G ∧ B < p6 ∧ G < p6 ∧ p6 < p7
  us : ∀ i, i < 3 → Bi.bt F.iw (i + 1) = true
section
variable {w wr w' : World} {B G p6 p7 m : Nat} {F : FS} {T : Nat → List UInt8}
theorem FlsAt.bg (h : FlsAt w wr B G p6 p7 F m T) {F' : FS} {m' : Nat} (hf : Fs w' B G F' m') (hu : BG B G wr w') (hi : F'.iw = F.iw) : FlsAt w w' B G p6 p7 F' m' T := by
  have hl := h.lo
  refine ⟨hf, (hu.block p6 (lt_of_heap h.is) (by rintro (e | e) <;> omega)).trans h.is, (hu.block p7 (lt_of_heap h.want) (by rintro (e | e) <;> omega)).trans h.want, h.old.trans (bg_below hu hl.1 hl.2.1 h.old.size), hl, ?_⟩
  rw [hi]
  exact h.us
theorem FlsAt.low (h : FlsAt w wr B G p6 p7 F m T) {M : Nat} (hb : Below M wr w') (hM : p7 < M) : FlsAt w w' B G p6 p7 F m T := by
  have hl := h.lo
  have hu : UpdP (fun k => M ≤ k) wr w' := ⟨hb.os, hb.tape, hb.output, hb.size, fun k hk hn => hb.block k (by omega)⟩
  refine ⟨h.fs.keep hu (by omega) (by omega), (hb.block p6 (by omega)).trans h.is, (hb.block p7 hM).trans h.want, h.old.trans (hb.mono (by omega)), hl, h.us⟩
theorem FlsAt.below (h : FlsAt w wr B G p6 p7 F m T) (hb : Below wr.heap.size wr w') : FlsAt w w' B G p6 p7 F m T := h.low hb (lt_of_heap h.want)
theorem FlsAt.mono (h : FlsAt w wr B G p6 p7 F m T) {m' : Nat} (hm : m ≤ m') : FlsAt w wr B G p6 p7 F m' T := ⟨h.fs.mono hm, h.is, h.want, h.old, h.lo, h.us⟩
theorem FlsAt.c6 (h : FlsAt w wr B G p6 p7 F m T) (k : Nat) (hk : k < 3) : wr.cell? ⟨p6, k, none⟩ = some (.int .i64 ((k : Int) + 1)) := by rw [cell_of_heap h.is]; exact isR_get k hk
theorem FlsAt.c7 (h : FlsAt w wr B G p6 p7 F m T) (k : Nat) (hk : k < 3) : wr.cell? ⟨p7, k, none⟩ = some (tx (T k)) := by rw [cell_of_heap h.want]; exact wantR_get T k hk
theorem FlsAt.set (h : FlsAt w wr B G p6 p7 F m T) (k : Nat) (hk : k < 3) (t : List UInt8) : FlsAt w (wr.setCell ⟨p7, k, none⟩ (tx t)) B G p6 p7 F m (fun j => if j = k then t else T j) := by
  have hl := h.lo
  have h0 := Upd.setCell p7 k wr (tx t)
  have hu : UpdP (fun j => j = p7) wr (wr.setCell ⟨p7, k, none⟩ (tx t)) := ⟨h0.os, h0.tape, h0.output, h0.size, h0.block⟩
  refine ⟨h.fs.keep hu (by omega) (by omega), (h0.block p6 (lt_of_heap h.is) (by omega)).trans h.is, ?_, h.old.trans (h0.below (by omega) h.old.size), hl, h.us⟩
  rw [setCell_eq_setRow wr p7 _ _ _ _ _ h.want, setRow_heap wr p7 _ _ _ _ h.want, wantR_set T k hk]
end
/-- A deed in its box, behind all that. -/
def DBox (w : World) (p : Nat) (d : Deed) : Prop := w.heap[p]? = some (.cells (deedRow d) 28)
/-- A slice at a0 holds so many deeds. -/
def DeedsAt (w : World) (a0 : Option Addr) (len : Nat) : Prop := ∀ j, j < len → ∃ gb off d, a0 = some ⟨gb, off, none⟩ ∧ Deed.Fit d ∧ w.rangeAt gb (off + j * 5) (deedRow d).toList
theorem DeedsAt.below {w w' : World} {a0 : Option Addr} {len : Nat} (h : DeedsAt w a0 len) (hb : Below w.heap.size w w') : DeedsAt w' a0 len := by
  intro j hj
  obtain ⟨gb, off, d, e, hf, hc⟩ := h j hj
  exact ⟨gb, off, d, e, hf, fun i u hu => (hb.cell (cell_lt (hc i u hu))).trans (hc i u hu)⟩
theorem mod3 (i : Int) : ∃ k : Nat, (wrap64 (i.tmod 3 + 3)).tmod 3 = (k : Int) ∧ k < 3 := by
  have h1 : -3 < i.tmod 3 ∧ i.tmod 3 < 3 := ⟨by have := Int.lt_tmod_of_pos i (show (0 : Int) < 3 by omega); omega, Int.tmod_lt_of_pos i (by omega)⟩
  generalize i.tmod 3 = y at *
  have h3 : wrap64 (y + 3) = y + 3 := by unfold wrap64; omega
  rw [h3]
  refine ⟨((y + 3).tmod 3).toNat, ?_, ?_⟩
  · rw [Int.tmod_eq_emod_of_nonneg (by omega)]
    omega
  · rw [Int.tmod_eq_emod_of_nonneg (by omega)]
    omega
end Go.Proofs.Ytinjllnoonbjmaa
