/- Plain: a file system as data: which inodes and blocks are in use, of each inode its kind, its links, its text and its blocks; its words as they lie on a disk; alloc, free, resize, write. Names no program. -/
/- Plain: what alloc, free, resize and write make of a file system; what is kept. Names no program. -/
/- Plain: a file system's words on a disk: what each word is; what a put of one block leaves. -/
/- Plain: a resize block by block: what is taken, what is given back, which blocks become 0; a file system's words behind it. Names no program. -/
import Derived.Test.YtcjpahnlckfgoaaGreatDoorBitAll
import Derived.Test.YtcjpahnlckfgoaaGreatDoorFrames
namespace Go.Proofs.YtcjpahnlckfgoaaGreatDoor
open Go.RowKit
set_option linter.unusedVariables false

/-- An inode: its blocks are so many as hold its text. -/
structure Ino where
  kind : Int
  links : Int
  txt : List Int
  blk : List Nat
def Ino.no : Ino := ⟨0, 0, [], []⟩
/-- How many blocks a size needs. -/
def need (s : Nat) : Nat := (s + 31) / 32
/-- The nine words of an inode. -/
def Ino.row (x : Ino) : List Int := [x.kind, x.links, (x.txt.length : Int)] ++ x.blk.map (fun b : Nat => (b : Int)) ++ List.replicate (6 - x.blk.length) 0
theorem Ino.row_len {x : Ino} (h : x.blk.length ≤ 6) : x.row.length = 9 := by
  simp [Ino.row]
  omega
theorem Ino.no_row : Ino.no.row = List.replicate 9 0 := rfl
/-- What lies in block k of a text. -/
def chunk (t : List Int) (k : Nat) : List Int := (t.drop (32 * k)).take 32 ++ List.replicate (32 - (t.length - 32 * k)) 0
theorem chunk_len (t : List Int) (k : Nat) : (chunk t k).length = 32 := by
  simp [chunk]
  omega
theorem chunk_get (t : List Int) (k j : Nat) (hj : j < 32) : (chunk t k).getD j 0 = t.getD (32 * k + j) 0 := by
  unfold chunk
  simp only [List.getD_eq_getElem?_getD]
  by_cases h : 32 * k + j < t.length
  · rw [List.getElem?_append_left (by simp; omega), List.getElem?_take, if_pos hj, List.getElem?_drop]
  · rw [List.getElem?_append_right (by simp; omega), List.getElem?_replicate, List.getElem?_eq_none (by omega)]
    split <;> rfl
/-- A file system of n blocks. -/
structure FS where
  n : Nat
  iw : List Nat
  bw : List Nat
  ino : Nat → Ino
/-- The words of block 0. -/
def FS.head (F : FS) : List Int := [318923232595, (F.n : Int)] ++ F.iw.map (fun x : Nat => (x : Int)) ++ F.bw.map (fun x : Nat => (x : Int)) ++ List.replicate (29 - F.bw.length) 0
/-- The words of block 1 + j: three inodes (there is none from 32 on). -/
def FS.at (F : FS) (i : Nat) : Ino := if i < 32 then F.ino i else Ino.no
def FS.tab (F : FS) (j : Nat) : List Int := (F.at (3 * j)).row ++ (F.at (3 * j + 1)).row ++ (F.at (3 * j + 2)).row ++ List.replicate 5 0
def FS.set (F : FS) (i : Nat) (x : Ino) : FS := { F with ino := fun j => if j = i then x else F.ino j }
theorem FS.set_same (F : FS) (i : Nat) (x : Ino) : (F.set i x).ino i = x := if_pos rfl
theorem FS.set_other (F : FS) (i j : Nat) (x : Ino) (h : j ≠ i) : (F.set i x).ino j = F.ino j := if_neg h
/-- What is kept. -/
structure FInv (F : FS) : Prop where
  n1 : 13 ≤ F.n
  n2 : F.n ≤ 1024
  iw : Bi.Wf 32 F.iw
  bw : Bi.Wf F.n F.bw
  low : ∀ b, b < 12 → Bi.bt F.bw b = true
  root : Bi.bt F.iw 0 = true
  none : ∀ i, i < 32 → Bi.bt F.iw i = false → F.ino i = Ino.no
  max : ∀ i, i < 32 → (F.ino i).txt.length ≤ 192
  byte : ∀ i, i < 32 → ∀ x ∈ (F.ino i).txt, 0 ≤ x ∧ x < 256
  num : ∀ i, i < 32 → 0 ≤ (F.ino i).kind ∧ (F.ino i).kind < 9223372036854775808 ∧ 0 ≤ (F.ino i).links ∧ (F.ino i).links < 9223372036854775808
  len : ∀ i, i < 32 → (F.ino i).blk.length = need (F.ino i).txt.length
  data : ∀ i, i < 32 → ∀ b ∈ (F.ino i).blk, 12 ≤ b ∧ b < F.n ∧ Bi.bt F.bw b = true
  one : ∀ i j, i < 32 → j < 32 → ∀ b, b ∈ (F.ino i).blk → b ∈ (F.ino j).blk → i = j
  nd : ∀ i, i < 32 → (F.ino i).blk.Nodup
  whose : ∀ b, 12 ≤ b → b < F.n → Bi.bt F.bw b = true → ∃ i, i < 32 ∧ b ∈ (F.ino i).blk
theorem FInv.six {F : FS} (h : FInv F) {i : Nat} (hi : i < 32) : (F.ino i).blk.length ≤ 6 := by
  have h1 := h.len i hi
  have h2 := h.max i hi
  unfold need at h1
  omega
theorem FInv.atlen {F : FS} (h : FInv F) (i : Nat) : (F.at i).row.length = 9 := by
  unfold FS.at
  split
  · rename_i hi
    exact Ino.row_len (h.six hi)
  · rfl
theorem FInv.tab_len {F : FS} (h : FInv F) (j : Nat) : (F.tab j).length = 32 := by
  have h1 := h.atlen (3 * j)
  have h2 := h.atlen (3 * j + 1)
  have h3 := h.atlen (3 * j + 2)
  simp [FS.tab, h1, h2, h3]
theorem FInv.head_len {F : FS} (h : FInv F) : F.head.length = 32 := by
  have h1 := h.iw.len
  have h2 := h.bw.len
  have h3 := h.n2
  simp [FS.head]
  omega

/-- So many are taken, the lowest first. -/
def lowN (f : Nat → Bool) (n : Nat) : Nat := (List.range n).findIdx (fun k => !f k)
theorem lowN_le (f : Nat → Bool) (n : Nat) : lowN f n ≤ n := by
  have := List.findIdx_le_length (xs := List.range n) (p := fun k => !f k)
  simpa [lowN] using this
theorem lowN_hit {f : Nat → Bool} {n : Nat} (h : lowN f n < n) : f (lowN f n) = false ∧ ∀ j, j < lowN f n → f j = true := by
  have hl : (List.range n).findIdx (fun k => !f k) < (List.range n).length := by simpa [lowN] using h
  constructor
  · have := List.findIdx_getElem (w := hl)
    simpa [lowN] using this
  · intro j hj
    have h2 : j < n := by omega
    have := List.not_of_lt_findIdx (xs := List.range n) (p := fun k => !f k) hj
    simpa [h2] using this
theorem lowN_none {f : Nat → Bool} {n : Nat} (h : lowN f n = n) : ∀ j, j < n → f j = true := by
  intro j hj
  have := List.not_of_lt_findIdx (xs := List.range n) (p := fun k => !f k) (i := j) (by show j < lowN f n; omega)
  simpa [hj] using this
theorem cntF_one {f g : Nat → Bool} {b : Nat} (hf : f b = false) (hg : g b = true) (ho : ∀ j, j ≠ b → g j = f j) : ∀ n, Bi.cntF f n = Bi.cntF g n + (if b < n then 1 else 0)
  | 0 => by simp [Bi.cntF]
  | n + 1 => by
    have ih := cntF_one hf hg ho n
    show Bi.cntF f n + (if f n = true then 0 else 1) = Bi.cntF g n + (if g n = true then 0 else 1) + (if b < n + 1 then 1 else 0)
    by_cases e : n = b
    · subst e
      rw [hf, hg, if_pos (Nat.lt_succ_self n)]
      rw [if_neg (Nat.lt_irrefl n)] at ih
      rw [ih]
      rfl
    · rw [ho n e, ih]
      by_cases q : b < n
      · rw [if_pos q, if_pos (show b < n + 1 from Nat.lt_succ_of_lt q)]
        omega
      · rw [if_neg q, if_neg (show ¬ b < n + 1 from fun h => by omega)]
        omega
theorem cnt_take {ws : List Nat} {n b : Nat} (hw : Bi.Wf n ws) (hb : b < n) (h : Bi.bt ws b = false) : Bi.cntF (Bi.bt ws) n = Bi.cntF (Bi.bt (Bi.mkW ws b true)) n + 1 := by
  have := cntF_one (f := Bi.bt ws) (g := Bi.bt (Bi.mkW ws b true)) (b := b) h (by rw [Bi.bt_mkW _ _ _ _ (hw.at hb), if_pos rfl]) (fun j hj => by rw [Bi.bt_mkW _ _ _ _ (hw.at hb), if_neg hj]) n
  rwa [if_pos hb] at this
theorem lowN_lt {ws : List Nat} {n : Nat} (h : 0 < Bi.cntF (Bi.bt ws) n) : lowN (Bi.bt ws) n < n := by
  have h1 := lowN_le (Bi.bt ws) n
  rcases Nat.lt_or_ge (lowN (Bi.bt ws) n) n with q | q
  · exact q
  · have := Bi.cntF_none n (lowN_none (f := Bi.bt ws) (n := n) (by omega))
    omega
/-- So many blocks are taken. -/
def grow (n : Nat) : List Nat → Nat → List Nat × List Nat
  | bw, 0 => ([], bw)
  | bw, k + 1 => (lowN (Bi.bt bw) n :: (grow n (Bi.mkW bw (lowN (Bi.bt bw) n) true) k).1, (grow n (Bi.mkW bw (lowN (Bi.bt bw) n) true) k).2)
theorem grow_ok {n : Nat} : ∀ {k : Nat} {bw : List Nat}, Bi.Wf n bw → k ≤ Bi.cntF (Bi.bt bw) n →
    (grow n bw k).1.length = k ∧ Bi.Wf n (grow n bw k).2 ∧ (∀ b ∈ (grow n bw k).1, b < n ∧ Bi.bt bw b = false ∧ Bi.bt (grow n bw k).2 b = true) ∧ (grow n bw k).1.Nodup ∧ (∀ b, b ∉ (grow n bw k).1 → Bi.bt (grow n bw k).2 b = Bi.bt bw b) ∧ Bi.cntF (Bi.bt bw) n = Bi.cntF (Bi.bt (grow n bw k).2) n + k
  | 0, bw, hw, hk => ⟨rfl, hw, (fun b hb => by cases hb), List.nodup_nil, (fun b _ => rfl), rfl⟩
  | k + 1, bw, hw, hk => by
    have hlt := lowN_lt (ws := bw) (n := n) (by omega)
    obtain ⟨hf, _⟩ := lowN_hit hlt
    have hc := cnt_take hw hlt hf
    unfold grow
    generalize lowN (Bi.bt bw) n = b0 at *
    have hbt := fun j => Bi.bt_mkW bw b0 j true (hw.at hlt)
    obtain ⟨g1, g2, g3, g4, g5, g6⟩ := grow_ok (k := k) (hw.mark hlt true) (by omega)
    have hin : b0 ∉ (grow n (Bi.mkW bw b0 true) k).1 := fun hm => by
      have := (g3 b0 hm).2.1
      rw [hbt, if_pos rfl] at this
      cases this
    refine ⟨by simp [g1], g2, fun b hb => ?_, List.nodup_cons.2 ⟨hin, g4⟩, fun b hb => ?_, by rw [hc, g6]; rfl⟩
    · rcases List.mem_cons.1 hb with rfl | hb
      · refine ⟨hlt, hf, ?_⟩
        rw [g5 b hin, hbt, if_pos rfl]
      · obtain ⟨q1, q2, q3⟩ := g3 b hb
        refine ⟨q1, ?_, q3⟩
        rw [hbt] at q2
        split at q2
        · cases q2
        · exact q2
    · rw [List.mem_cons, not_or] at hb
      rw [g5 b hb.2, hbt, if_neg hb.1]
/-- Blocks are given back. -/
def back : List Nat → List Nat → List Nat
  | bw, [] => bw
  | bw, b :: l => back (Bi.mkW bw b false) l
theorem back_ok {n : Nat} : ∀ {l : List Nat} {bw : List Nat}, Bi.Wf n bw → (∀ b ∈ l, b < n) → Bi.Wf n (back bw l) ∧ ∀ b, Bi.bt (back bw l) b = if b ∈ l then false else Bi.bt bw b
  | [], bw, hw, hl => ⟨hw, fun b => by simp [back]⟩
  | b0 :: l, bw, hw, hl => by
    have hb0 := hl b0 List.mem_cons_self
    obtain ⟨g1, g2⟩ := back_ok (hw.mark hb0 false) (fun b hb => hl b (List.mem_cons_of_mem _ hb))
    refine ⟨g1, fun b => ?_⟩
    show Bi.bt (back (Bi.mkW bw b0 false) l) b = _
    rw [g2, Bi.bt_mkW _ _ _ _ (hw.at hb0)]
    by_cases h1 : b ∈ l
    · rw [if_pos h1, if_pos (List.mem_cons_of_mem _ h1)]
    · by_cases h2 : b = b0
      · rw [if_neg h1, if_pos h2, if_pos (by rw [h2]; exact List.mem_cons_self)]
      · rw [if_neg h1, if_neg h2, if_neg (by rw [List.mem_cons, not_or]; exact ⟨h2, h1⟩)]
end Go.Proofs.YtcjpahnlckfgoaaGreatDoor

namespace Go.Proofs.YtcjpahnlckfgoaaGreatDoor
open Go.RowKit
set_option linter.unusedVariables false

/-- One inode and the blocks in use are laid anew. -/
def FS.put (F : FS) (i : Nat) (x : Ino) (bw : List Nat) : FS := ⟨F.n, F.iw, bw, fun j => if j = i then x else F.ino j⟩
theorem FS.put_same (F : FS) (i : Nat) (x : Ino) (bw : List Nat) : (F.put i x bw).ino i = x := if_pos rfl
theorem FS.put_other (F : FS) (i : Nat) (x : Ino) (bw : List Nat) {j : Nat} (h : j ≠ i) : (F.put i x bw).ino j = F.ino j := if_neg h
/-- What is known of an inode alone. -/
structure InoOk (n : Nat) (bw : List Nat) (x : Ino) : Prop where
  max : x.txt.length ≤ 192
  byte : ∀ y ∈ x.txt, 0 ≤ y ∧ y < 256
  num : 0 ≤ x.kind ∧ x.kind < 9223372036854775808 ∧ 0 ≤ x.links ∧ x.links < 9223372036854775808
  len : x.blk.length = need x.txt.length
  data : ∀ b ∈ x.blk, 12 ≤ b ∧ b < n ∧ Bi.bt bw b = true
  nd : x.blk.Nodup
theorem FInv.ok {F : FS} (h : FInv F) {i : Nat} (hi : i < 32) : InoOk F.n F.bw (F.ino i) := ⟨h.max i hi, h.byte i hi, h.num i hi, h.len i hi, h.data i hi, h.nd i hi⟩
theorem FInv.put {F : FS} (h : FInv F) {i : Nat} (hi : i < 32) (hu : Bi.bt F.iw i = true) {x : Ino} {bw : List Nat} (hw : Bi.Wf F.n bw) (ok : InoOk F.n bw x) (hlow : ∀ b, b < 12 → Bi.bt bw b = true)
    (ho : ∀ j, j < 32 → j ≠ i → ∀ b ∈ (F.ino j).blk, Bi.bt bw b = true ∧ b ∉ x.blk) (hwh : ∀ b, 12 ≤ b → b < F.n → Bi.bt bw b = true → b ∈ x.blk ∨ ∃ j, j < 32 ∧ j ≠ i ∧ b ∈ (F.ino j).blk) : FInv (F.put i x bw) := by
  have hj : ∀ j, j < 32 → InoOk F.n bw ((F.put i x bw).ino j) := by
    intro j hj
    by_cases e : j = i
    · rw [e, FS.put_same]; exact ok
    · rw [FS.put_other _ _ _ _ e]
      have := h.ok hj
      exact ⟨this.max, this.byte, this.num, this.len, fun b hb => ⟨(this.data b hb).1, (this.data b hb).2.1, (ho j hj e b hb).1⟩, this.nd⟩
  refine ⟨h.n1, h.n2, h.iw, hw, hlow, h.root, fun j hj0 hn => ?_, fun j h0 => (hj j h0).max, fun j h0 => (hj j h0).byte, fun j h0 => (hj j h0).num, fun j h0 => (hj j h0).len, fun j h0 => (hj j h0).data, fun j k h1 h2 b hb1 hb2 => ?_, fun j h0 => (hj j h0).nd, fun b h1 h2 h3 => ?_⟩
  · have e : j ≠ i := by
      intro e
      have hn' : Bi.bt F.iw j = false := hn
      rw [e, hu] at hn'
      cases hn'
    rw [FS.put_other _ _ _ _ e]
    exact h.none j hj0 hn
  · by_cases e1 : j = i
    · by_cases e2 : k = i
      · rw [e1, e2]
      · rw [e1, FS.put_same] at hb1
        rw [FS.put_other _ _ _ _ e2] at hb2
        exact absurd hb1 (ho k h2 e2 b hb2).2
    · by_cases e2 : k = i
      · rw [e2, FS.put_same] at hb2
        rw [FS.put_other _ _ _ _ e1] at hb1
        exact absurd hb2 (ho j h1 e1 b hb1).2
      · rw [FS.put_other _ _ _ _ e1] at hb1
        rw [FS.put_other _ _ _ _ e2] at hb2
        exact h.one j k h1 h2 b hb1 hb2
  · rcases hwh b h1 h2 h3 with hb | ⟨j, j1, j2, hb⟩
    · exact ⟨i, hi, by rw [FS.put_same]; exact hb⟩
    · exact ⟨j, j1, by rw [FS.put_other _ _ _ _ j2]; exact hb⟩

/-- A text of another length. -/
def sized (t : List Int) (s : Nat) : List Int := t.take s ++ List.replicate (s - t.length) 0
theorem sized_len (t : List Int) (s : Nat) : (sized t s).length = s := by
  simp [sized]
  omega
theorem sized_byte {t : List Int} (h : ∀ y ∈ t, 0 ≤ y ∧ y < 256) (s : Nat) : ∀ y ∈ sized t s, 0 ≤ y ∧ y < 256 := by
  intro y hy
  rcases List.mem_append.1 hy with hy | hy
  · exact h y (List.mem_of_mem_take hy)
  · rw [List.eq_of_mem_replicate hy]
    omega
/-- How many blocks more a size wants than there are left: none. -/
def roomB (F : FS) (i s : Nat) : Bool := decide (need s - (F.ino i).blk.length ≤ Bi.cntF (Bi.bt F.bw) F.n)
/-- The blocks of the new size; the blocks in use then. -/
def newBlk (F : FS) (i s : Nat) : List Nat := (F.ino i).blk.take (need s) ++ (grow F.n F.bw (need s - (F.ino i).blk.length)).1
def newBw (F : FS) (i s : Nat) : List Nat := back (grow F.n F.bw (need s - (F.ino i).blk.length)).2 ((F.ino i).blk.drop (need s))
def resizeF (F : FS) (i s : Nat) : FS := F.put i ⟨(F.ino i).kind, (F.ino i).links, sized (F.ino i).txt s, newBlk F i s⟩ (newBw F i s)
theorem need_le {s : Nat} (h : s ≤ 192) : need s ≤ 6 := by unfold need; omega
theorem FInv.resize {F : FS} (h : FInv F) {i s : Nat} (hi : i < 32) (hu : Bi.bt F.iw i = true) (hs : s ≤ 192) (hr : roomB F i s = true) : FInv (resizeF F i s) := by
  have hr' : need s - (F.ino i).blk.length ≤ Bi.cntF (Bi.bt F.bw) F.n := of_decide_eq_true hr
  obtain ⟨g1, g2, g3, g4, g5, g6⟩ := grow_ok h.bw hr'
  have hd : ∀ b ∈ (F.ino i).blk.drop (need s), b < F.n := fun b hb => (h.data i hi b (List.mem_of_mem_drop hb)).2.1
  obtain ⟨k1, k2⟩ := back_ok (l := (F.ino i).blk.drop (need s)) g2 hd
  have hbt : ∀ b, Bi.bt (newBw F i s) b = if b ∈ (F.ino i).blk.drop (need s) then false else if b ∈ (grow F.n F.bw (need s - (F.ino i).blk.length)).1 then true else Bi.bt F.bw b := by
    intro b
    show Bi.bt (back _ _) b = _
    rw [k2]
    by_cases q : b ∈ (F.ino i).blk.drop (need s)
    · rw [if_pos q, if_pos q]
    · rw [if_neg q, if_neg q]
      by_cases q2 : b ∈ (grow F.n F.bw (need s - (F.ino i).blk.length)).1
      · rw [if_pos q2]; exact (g3 b q2).2.2
      · rw [if_neg q2]; exact g5 b q2
  have hnew : ∀ b ∈ (grow F.n F.bw (need s - (F.ino i).blk.length)).1, 12 ≤ b ∧ b < F.n ∧ ∀ j, j < 32 → b ∉ (F.ino j).blk := by
    intro b hb
    obtain ⟨q1, q2, _⟩ := g3 b hb
    refine ⟨?_, q1, fun j hj hm => ?_⟩
    · rcases Nat.lt_or_ge b 12 with q | q
      · rw [h.low b q] at q2; cases q2
      · exact q
    · rw [(h.data j hj b hm).2.2] at q2
      cases q2
  have hsplit : (F.ino i).blk.take (need s) ++ (F.ino i).blk.drop (need s) = (F.ino i).blk := List.take_append_drop _ _
  have hnd := h.nd i hi
  rw [← hsplit, List.nodup_append] at hnd
  obtain ⟨n1, n2, n3⟩ := hnd
  have hlen : ((F.ino i).blk.take (need s)).length + (grow F.n F.bw (need s - (F.ino i).blk.length)).1.length = need s := by
    rw [g1, List.length_take]
    omega
  refine h.put hi hu k1 ⟨?_, sized_byte (h.byte i hi) s, h.num i hi, ?_, ?_, ?_⟩ ?_ ?_ ?_
  · show (sized _ _).length ≤ 192
    rw [sized_len]; exact hs
  · show (newBlk F i s).length = need (sized _ _).length
    rw [sized_len]
    unfold newBlk
    rw [List.length_append, hlen]
  · intro b hb
    rcases List.mem_append.1 hb with hb | hb
    · obtain ⟨q1, q2, q3⟩ := h.data i hi b (List.mem_of_mem_take hb)
      refine ⟨q1, q2, ?_⟩
      rw [hbt, if_neg (fun hm => n3 b hb b hm rfl)]
      split
      · rfl
      · exact q3
    · obtain ⟨q1, q2, q3⟩ := hnew b hb
      refine ⟨q1, q2, ?_⟩
      rw [hbt, if_neg (fun hm => q3 i hi (List.mem_of_mem_drop hm)), if_pos hb]
  · show (newBlk F i s).Nodup
    unfold newBlk
    rw [List.nodup_append]
    refine ⟨n1, g4, fun a ha b hb e => ?_⟩
    subst e
    exact (hnew a hb).2.2 i hi (List.mem_of_mem_take ha)
  · intro b hb
    rw [hbt, if_neg (fun hm => by have := (h.data i hi b (List.mem_of_mem_drop hm)).1; omega)]
    split
    · rfl
    · exact h.low b hb
  · intro j hj hne b hb
    have hni : b ∉ (F.ino i).blk := fun hm => hne (h.one j i hj hi b hb hm)
    constructor
    · rw [hbt, if_neg (fun hm => hni (List.mem_of_mem_drop hm))]
      split
      · rfl
      · exact (h.data j hj b hb).2.2
    · intro hm
      rcases List.mem_append.1 hm with hm | hm
      · exact hni (List.mem_of_mem_take hm)
      · exact (hnew b hm).2.2 j hj hb
  · intro b h1 h2 h3
    rw [hbt] at h3
    by_cases q : b ∈ (F.ino i).blk.drop (need s)
    · rw [if_pos q] at h3; cases h3
    · rw [if_neg q] at h3
      by_cases q2 : b ∈ (grow F.n F.bw (need s - (F.ino i).blk.length)).1
      · exact Or.inl (List.mem_append_right _ q2)
      · rw [if_neg q2] at h3
        obtain ⟨j, hj, hm⟩ := h.whose b h1 h2 h3
        by_cases e : j = i
        · left
          rw [e, ← hsplit] at hm
          rcases List.mem_append.1 hm with hm | hm
          · exact List.mem_append_left _ hm
          · exact absurd hm q
        · exact Or.inr ⟨j, hj, e, hm⟩
/-- Bytes are laid over a text. -/
def patch (t : List Int) (o : Nat) (d : List Int) : List Int := t.take o ++ d ++ t.drop (o + d.length)
theorem patch_len {t : List Int} {o : Nat} {d : List Int} (h : o + d.length ≤ t.length) : (patch t o d).length = t.length := by
  simp [patch]
  omega
def writeF (F : FS) (i o : Nat) (d : List Int) : FS :=
  let G := resizeF F i (max (F.ino i).txt.length (o + d.length))
  G.put i ⟨(G.ino i).kind, (G.ino i).links, patch (G.ino i).txt o d, (G.ino i).blk⟩ G.bw
/-- An inode's text is laid anew; its length stays. -/
theorem FInv.text {F : FS} (h : FInv F) {i : Nat} (hi : i < 32) (hu : Bi.bt F.iw i = true) {t : List Int} (hl : t.length = (F.ino i).txt.length) (hb : ∀ y ∈ t, 0 ≤ y ∧ y < 256) : FInv (F.put i ⟨(F.ino i).kind, (F.ino i).links, t, (F.ino i).blk⟩ F.bw) := by
  have ok := h.ok hi
  refine h.put hi hu h.bw ⟨by show t.length ≤ 192; rw [hl]; exact ok.max, hb, ok.num, by show _ = need t.length; rw [hl]; exact ok.len, ok.data, ok.nd⟩ h.low (fun j hj hne b hb => ⟨(h.data j hj b hb).2.2, fun hm => hne (h.one j i hj hi b hb hm)⟩) (fun b h1 h2 h3 => ?_)
  obtain ⟨j, hj, hm⟩ := h.whose b h1 h2 h3
  by_cases e : j = i
  · rw [e] at hm; exact Or.inl hm
  · exact Or.inr ⟨j, hj, e, hm⟩
theorem FInv.write {F : FS} (h : FInv F) {i o : Nat} {d : List Int} (hi : i < 32) (hu : Bi.bt F.iw i = true) (hs : o + d.length ≤ 192) (hd : ∀ y ∈ d, 0 ≤ y ∧ y < 256) (hr : roomB F i (Max.max (F.ino i).txt.length (o + d.length)) = true) : FInv (writeF F i o d) := by
  have hG := h.resize hi hu (s := Max.max (F.ino i).txt.length (o + d.length)) (by have := h.max i hi; omega) hr
  have hl : ((resizeF F i (Max.max (F.ino i).txt.length (o + d.length))).ino i).txt.length = Max.max (F.ino i).txt.length (o + d.length) := by
    unfold resizeF
    rw [FS.put_same]
    exact sized_len _ _
  refine hG.text hi hu (patch_len (by rw [hl]; omega)) ?_
  intro y hy
  rcases List.mem_append.1 hy with hy | hy
  · rcases List.mem_append.1 hy with hy | hy
    · exact hG.byte i hi y (List.mem_of_mem_take hy)
    · exact hd y hy
  · exact hG.byte i hi y (List.mem_of_mem_drop hy)
/-- An inode comes into use. -/
def allocF (F : FS) (r : Nat) (kind : Int) : FS := ⟨F.n, Bi.mkW F.iw r true, F.bw, fun j => if j = r then ⟨kind, 0, [], []⟩ else F.ino j⟩
theorem FInv.alloc {F : FS} (h : FInv F) {r : Nat} (hr : r < 32) (hf : Bi.bt F.iw r = false) {kind : Int} (hk : 0 ≤ kind ∧ kind < 9223372036854775808) : FInv (allocF F r kind) := by
  have h0 := h.none r hr hf
  have hbt := fun j => Bi.bt_mkW F.iw r j true (h.iw.at hr)
  have hb : ∀ j, ((allocF F r kind).ino j).blk = (F.ino j).blk := by
    intro j
    show (if j = r then (⟨kind, 0, [], []⟩ : Ino) else F.ino j).blk = _
    split
    · rename_i e
      rw [e, h0]
      rfl
    · rfl
  have ht : ∀ j, ((allocF F r kind).ino j).txt = (F.ino j).txt := by
    intro j
    show (if j = r then (⟨kind, 0, [], []⟩ : Ino) else F.ino j).txt = _
    split
    · rename_i e
      rw [e, h0]
      rfl
    · rfl
  refine ⟨h.n1, h.n2, h.iw.mark hr true, h.bw, h.low, ?_, fun j hj hn => ?_, fun j hj => by rw [ht]; exact h.max j hj, fun j hj => by rw [ht]; exact h.byte j hj, fun j hj => ?_, fun j hj => by rw [hb, ht]; exact h.len j hj, fun j hj => by rw [hb]; exact h.data j hj, fun j k h1 h2 b q1 q2 => ?_, fun j hj => by rw [hb]; exact h.nd j hj, fun b h1 h2 h3 => ?_⟩
  · show Bi.bt (Bi.mkW F.iw r true) 0 = true
    rw [hbt]
    split
    · rfl
    · exact h.root
  · have hn' : Bi.bt (Bi.mkW F.iw r true) j = false := hn
    rw [hbt] at hn'
    split at hn'
    · cases hn'
    · rename_i e
      show (if j = r then _ else F.ino j) = _
      rw [if_neg e]
      exact h.none j hj hn'
  · show 0 ≤ (if j = r then (⟨kind, 0, [], []⟩ : Ino) else F.ino j).kind ∧ _
    by_cases e : j = r
    · have e1 : (allocF F r kind).ino j = ⟨kind, 0, [], []⟩ := if_pos e
      rw [e1]
      exact ⟨by rw [if_pos e]; exact hk.1, hk.2, by show (0 : Int) ≤ 0; omega, by show (0 : Int) < _; omega⟩
    · have e1 : (allocF F r kind).ino j = F.ino j := if_neg e
      rw [e1]
      exact ⟨by rw [if_neg e]; exact (h.num j hj).1, (h.num j hj).2⟩
  · rw [hb] at q1 q2
    exact h.one j k h1 h2 b q1 q2
  · obtain ⟨j, hj, hm⟩ := h.whose b h1 h2 h3
    exact ⟨j, hj, by rw [hb]; exact hm⟩
/-- An inode goes out of use; its blocks do. -/
def freeF (F : FS) (i : Nat) : FS := ⟨F.n, Bi.mkW F.iw i false, (resizeF F i 0).bw, fun j => if j = i then Ino.no else F.ino j⟩
theorem FInv.free {F : FS} (h : FInv F) {i : Nat} (hi : i < 32) (h0 : i ≠ 0) (hu : Bi.bt F.iw i = true) : FInv (freeF F i) := by
  have hG := h.resize hi hu (s := 0) (by omega) (by unfold roomB need; simp)
  have hbt := fun j => Bi.bt_mkW F.iw i j false (h.iw.at hi)
  have hnb : newBlk F i 0 = [] := by
    have : need 0 = 0 := rfl
    unfold newBlk
    rw [this, Nat.zero_sub]
    rfl
  have hb : ∀ j, ((freeF F i).ino j).blk = ((resizeF F i 0).ino j).blk := by
    intro j
    show (if j = i then Ino.no else F.ino j).blk = (if j = i then (⟨_, _, _, newBlk F i 0⟩ : Ino) else F.ino j).blk
    split
    · rw [hnb]; rfl
    · rfl
  have ht : ∀ j, ((freeF F i).ino j).txt = ((resizeF F i 0).ino j).txt := by
    intro j
    show (if j = i then Ino.no else F.ino j).txt = (if j = i then (⟨_, _, sized _ 0, newBlk F i 0⟩ : Ino) else F.ino j).txt
    split
    · simp [Ino.no, sized]
    · rfl
  refine ⟨h.n1, h.n2, h.iw.mark hi false, hG.bw, hG.low, ?_, fun j hj hn => ?_, fun j hj => by rw [ht]; exact hG.max j hj, fun j hj => by rw [ht]; exact hG.byte j hj, fun j hj => ?_, fun j hj => by rw [hb, ht]; exact hG.len j hj, fun j hj => by rw [hb]; exact hG.data j hj, fun j k h1 h2 b q1 q2 => ?_, fun j hj => by rw [hb]; exact hG.nd j hj, fun b h1 h2 h3 => ?_⟩
  · show Bi.bt (Bi.mkW F.iw i false) 0 = true
    rw [hbt, if_neg (fun e => h0 e.symm)]
    exact h.root
  · have hn' : Bi.bt (Bi.mkW F.iw i false) j = false := hn
    show (if j = i then _ else F.ino j) = _
    by_cases e : j = i
    · rw [if_pos e]
    · rw [hbt, if_neg e] at hn'
      rw [if_neg e]
      exact h.none j hj hn'
  · by_cases e : j = i
    · have e1 : (freeF F i).ino j = Ino.no := if_pos e
      rw [e1]
      decide
    · have e1 : (freeF F i).ino j = F.ino j := if_neg e
      rw [e1]
      exact h.num j hj
  · rw [hb] at q1 q2
    exact hG.one j k h1 h2 b q1 q2
  · obtain ⟨j, hj, hm⟩ := hG.whose b h1 h2 h3
    exact ⟨j, hj, by rw [hb]; exact hm⟩
end Go.Proofs.YtcjpahnlckfgoaaGreatDoor

namespace Go.Proofs.YtcjpahnlckfgoaaGreatDoor
open Go.RowKit
set_option linter.unusedVariables false

/-- The words vs are those of the file system F, as far as blocks are in use. -/
structure Holds (vs : List Int) (F : FS) : Prop where
  len : vs.length = F.n * 32
  head : frameOf vs 0 = F.head
  tab : ∀ j, j < 11 → frameOf vs (1 + j) = F.tab j
  data : ∀ i, i < 32 → ∀ k b, (F.ino i).blk[k]? = some b → frameOf vs b = chunk (F.ino i).txt k

theorem app_get (a b : List Int) (j : Nat) : (a ++ b).getD j 0 = if j < a.length then a.getD j 0 else b.getD (j - a.length) 0 := by
  simp only [List.getD_eq_getElem?_getD]
  split
  · rename_i h; rw [List.getElem?_append_left h]
  · rename_i h; rw [List.getElem?_append_right (by omega)]
/-- The words of an inode. -/
theorem row_kind (x : Ino) : x.row.getD 0 0 = x.kind := rfl
theorem row_links (x : Ino) : x.row.getD 1 0 = x.links := rfl
theorem row_size (x : Ino) : x.row.getD 2 0 = (x.txt.length : Int) := rfl
theorem row_blk (x : Ino) (k : Nat) : x.row.getD (3 + k) 0 = ((x.blk.getD k 0 : Nat) : Int) := by
  unfold Ino.row
  rw [List.append_assoc, app_get, if_neg (by simp), app_get]
  simp only [List.length_cons, List.length_nil, List.length_map]
  rw [show 3 + k - (0 + 1 + 1 + 1) = k by omega]
  split
  · rename_i h
    simp [h]
  · rename_i h
    simp only [List.getD_eq_getElem?_getD, List.getElem?_replicate]
    rw [List.getElem?_eq_none (show x.blk.length ≤ k by omega)]
    split <;> rfl
/-- The words of three inodes. -/
theorem tab_word {F : FS} (h : FInv F) {i k : Nat} (hi : i < 32) (hk : k < 9) : (F.tab (i / 3)).getD (i % 3 * 9 + k) 0 = (F.ino i).row.getD k 0 := by
  have h0 := h.atlen (3 * (i / 3))
  have h1 := h.atlen (3 * (i / 3) + 1)
  have h2 := h.atlen (3 * (i / 3) + 2)
  have hat : F.at i = F.ino i := if_pos hi
  unfold FS.tab
  have hm : i % 3 = 0 ∨ i % 3 = 1 ∨ i % 3 = 2 := by omega
  rcases hm with e | e | e
  · have e2 : 3 * (i / 3) = i := by omega
    rw [e2] at h0 h1 h2 ⊢
    rw [e, app_get, if_pos (by simp [h0, h1, h2]; omega), app_get, if_pos (by simp [h0, h1]; omega), app_get, if_pos (by rw [h0]; omega), hat]
    congr 1
    omega
  · have e2 : 3 * (i / 3) + 1 = i := by omega
    rw [e2] at h1 ⊢
    rw [e, app_get, if_pos (by simp [h0, h1, h2]; omega), app_get, if_pos (by simp [h0, h1]; omega), app_get, if_neg (by rw [h0]; omega), h0, hat]
    congr 1
    omega
  · have e2 : 3 * (i / 3) + 2 = i := by omega
    rw [e2] at h2 ⊢
    rw [e, app_get, if_pos (by simp [h0, h1, h2]; omega), app_get, if_neg (by simp [h0, h1]), hat]
    congr 1
    simp [h0, h1]
/-- An inode is laid anew: the words of the three of which it is one. -/
theorem FS.put_at (F : FS) (i : Nat) (x : Ino) (bw : List Nat) (j : Nat) : (F.put i x bw).at j = if j = i ∧ j < 32 then x else F.at j := by
  unfold FS.at
  by_cases h : j < 32
  · rw [if_pos h, if_pos h]
    show (if j = i then x else F.ino j) = _
    by_cases e : j = i
    · rw [if_pos e, if_pos ⟨e, h⟩]
    · rw [if_neg e, if_neg (fun q => e q.1)]
  · rw [if_neg h, if_neg h, if_neg (fun q => h q.2)]
theorem tab_other (F : FS) (i : Nat) (x : Ino) (bw : List Nat) {j : Nat} (h : j ≠ i / 3) : (F.put i x bw).tab j = F.tab j := by
  unfold FS.tab
  rw [FS.put_at, FS.put_at, FS.put_at, if_neg (fun q => by omega), if_neg (fun q => by omega), if_neg (fun q => by omega)]
theorem splice_row (a b c d x : List Int) (h : x.length = b.length) : splice (a ++ b ++ c ++ d) a.length x = a ++ x ++ c ++ d := by
  unfold splice
  rw [h]
  simp [List.append_assoc]
theorem tab_put {F : FS} (h : FInv F) {i : Nat} (hi : i < 32) {x : Ino} (hx : x.blk.length ≤ 6) (bw : List Nat) : (F.put i x bw).tab (i / 3) = splice (F.tab (i / 3)) (i % 3 * 9) x.row := by
  have h0 := h.atlen (3 * (i / 3))
  have h1 := h.atlen (3 * (i / 3) + 1)
  have h2 := h.atlen (3 * (i / 3) + 2)
  have hr := Ino.row_len hx
  unfold FS.tab
  rw [FS.put_at, FS.put_at, FS.put_at]
  have hm : i % 3 = 0 ∨ i % 3 = 1 ∨ i % 3 = 2 := by omega
  rcases hm with e | e | e
  · rw [if_pos ⟨by omega, by omega⟩, if_neg (fun q => by omega), if_neg (fun q => by omega), e]
    have := splice_row [] (F.at (3 * (i / 3))).row (F.at (3 * (i / 3) + 1)).row ((F.at (3 * (i / 3) + 2)).row ++ List.replicate 5 0) x.row (by rw [hr, h0])
    simpa [List.append_assoc] using this.symm
  · rw [if_neg (fun q => by omega), if_pos ⟨by omega, by omega⟩, if_neg (fun q => by omega), e]
    have := splice_row (F.at (3 * (i / 3))).row (F.at (3 * (i / 3) + 1)).row (F.at (3 * (i / 3) + 2)).row (List.replicate 5 0) x.row (by rw [hr, h1])
    rw [h0] at this
    simpa [List.append_assoc] using this.symm
  · rw [if_neg (fun q => by omega), if_neg (fun q => by omega), if_pos ⟨by omega, by omega⟩, e]
    have := splice_row ((F.at (3 * (i / 3))).row ++ (F.at (3 * (i / 3) + 1)).row) (F.at (3 * (i / 3) + 2)).row (List.replicate 5 0) [] x.row (by rw [hr, h2])
    rw [List.length_append, h0, h1] at this
    simpa [List.append_assoc] using this.symm
/-- The words of block 0. -/
theorem head_n (F : FS) : F.head.getD 1 0 = (F.n : Int) := rfl
theorem head_iw {F : FS} (h : FInv F) : F.head.getD 2 0 = ((F.iw.getD 0 0 : Nat) : Int) := by
  have h1 : F.iw.length = 1 := h.iw.len
  obtain ⟨x, hx⟩ : ∃ x, F.iw = [x] := by
    match hq : F.iw, h1 with
    | [x], _ => exact ⟨x, rfl⟩
  unfold FS.head
  rw [hx]
  rfl
theorem head_bw {F : FS} (h : FInv F) {k : Nat} (hk : k < F.bw.length) : F.head.getD (3 + k) 0 = ((F.bw.getD k 0 : Nat) : Int) := by
  have h1 : F.iw.length = 1 := h.iw.len
  unfold FS.head
  rw [app_get, if_pos (by simp [h1]; omega), app_get, if_neg (by simp [h1])]
  simp only [List.length_append, List.length_cons, List.length_nil, List.length_map, h1]
  rw [show 3 + k - (0 + 1 + 1 + 1) = k by omega]
  simp [hk]
/-- A byte of a text lies in its block. -/
theorem Holds.byte {vs : List Int} {F : FS} (h : Holds vs F) (hF : FInv F) {i p : Nat} (hi : i < 32) (hp : p < (F.ino i).txt.length) :
    ∃ b, (F.ino i).blk[p / 32]? = some b ∧ 12 ≤ b ∧ b < F.n ∧ (frameOf vs b).getD (p % 32) 0 = (F.ino i).txt.getD p 0 := by
  have hl := hF.len i hi
  have hk : p / 32 < (F.ino i).blk.length := by
    rw [hl]
    unfold need
    omega
  refine ⟨_, List.getElem?_eq_getElem hk, (hF.data i hi _ (List.getElem_mem hk)).1, (hF.data i hi _ (List.getElem_mem hk)).2.1, ?_⟩
  rw [h.data i hi _ _ (List.getElem?_eq_getElem hk), chunk_get _ _ _ (Nat.mod_lt _ (by omega))]
  congr 1
  omega
/-- What is laid block by block is the new file system's. -/
theorem Holds.put {vs us : List Int} {F : FS} (h : Holds vs F) {i : Nat} {x : Ino} {bw : List Nat} (hl : us.length = vs.length) (h0 : frameOf us 0 = (F.put i x bw).head) (hi : frameOf us (1 + i / 3) = (F.put i x bw).tab (i / 3))
    (hj : ∀ j, j < 11 → j ≠ i / 3 → frameOf us (1 + j) = frameOf vs (1 + j)) (hd : ∀ k b, x.blk[k]? = some b → frameOf us b = chunk x.txt k) (ho : ∀ m, m < 32 → m ≠ i → ∀ b ∈ (F.ino m).blk, frameOf us b = frameOf vs b) : Holds us (F.put i x bw) := by
  refine ⟨hl.trans h.len, h0, fun j hj0 => ?_, fun m hm k b hb => ?_⟩
  · by_cases e : j = i / 3
    · rw [e]; exact hi
    · rw [tab_other F i x bw e, hj j hj0 e]
      exact h.tab j hj0
  · by_cases e : m = i
    · rw [e, FS.put_same] at hb ⊢
      exact hd k b hb
    · rw [FS.put_other _ _ _ _ e] at hb ⊢
      rw [ho m hm e b (List.mem_of_getElem? hb)]
      exact h.data m hm k b hb
end Go.Proofs.YtcjpahnlckfgoaaGreatDoor

namespace Go.Proofs.YtcjpahnlckfgoaaGreatDoor
open Go.RowKit
set_option linter.unusedVariables false

/-- Six numbers. -/
def six (f : Nat → Nat) : List Nat := (List.range 6).map f
theorem six_len (f : Nat → Nat) : (six f).length = 6 := by simp [six]
theorem six_get (f : Nat → Nat) {j : Nat} (h : j < 6) : (six f).getD j 0 = f j := by simp [six, h]
theorem nlist_ext (xs ys : List Nat) (h : xs.length = ys.length) (hg : ∀ i, i < xs.length → xs.getD i 0 = ys.getD i 0) : xs = ys := by
  apply List.ext_getElem h
  intro i h1 h2
  have := hg i h1
  simpa [h1, h2] using this
theorem six_congr {f g : Nat → Nat} (h : ∀ j, j < 6 → f j = g j) : six f = six g := by
  refine nlist_ext _ _ (by rw [six_len, six_len]) fun i hi => ?_
  rw [six_len] at hi
  rw [six_get _ hi, six_get _ hi, h i hi]
theorem six_of {l : List Nat} (h : l.length = 6) : l = six (fun j => l.getD j 0) := by
  refine nlist_ext _ _ (by rw [six_len, h]) fun i hi => ?_
  rw [six_get _ (by omega)]
theorem six_set (f : Nat → Nat) {k : Nat} (hk : k < 6) (b : Nat) : (six f).set k b = six (fun j => if j = k then b else f j) := by
  refine nlist_ext _ _ (by rw [List.length_set, six_len, six_len]) fun i hi => ?_
  rw [List.length_set, six_len] at hi
  rw [Bi.getD_set _ _ _ _ (by rw [six_len]; exact hk), six_get _ hi, six_get _ hi]
/-- An inode's words. -/
def rowOf (kd lk sz : Int) (bl : List Nat) : List Int := [kd, lk, sz] ++ bl.map (fun b : Nat => (b : Int))
theorem rowOf_len {bl : List Nat} (h : bl.length = 6) (kd lk sz : Int) : (rowOf kd lk sz bl).length = 9 := by simp [rowOf, h]
theorem row_six {x : Ino} (h : x.blk.length ≤ 6) : x.row = rowOf x.kind x.links x.txt.length (six (fun j => x.blk.getD j 0)) := by
  unfold Ino.row rowOf
  rw [List.append_assoc]
  congr 1
  have e : six (fun j => x.blk.getD j 0) = x.blk ++ List.replicate (6 - x.blk.length) 0 := by
    refine nlist_ext _ _ (by rw [six_len]; simp; omega) fun i hi => ?_
    rw [six_len] at hi
    rw [six_get _ hi]
    simp only [List.getD_eq_getElem?_getD]
    by_cases q : i < x.blk.length
    · rw [List.getElem?_append_left q]
    · rw [List.getElem?_append_right (by omega), List.getElem?_replicate, List.getElem?_eq_none (by omega)]
      split <;> rfl
  rw [e]
  simp

theorem grow_snoc (n : Nat) : ∀ (t : Nat) (bw : List Nat), grow n bw (t + 1) = ((grow n bw t).1 ++ [lowN (Bi.bt (grow n bw t).2) n], Bi.mkW (grow n bw t).2 (lowN (Bi.bt (grow n bw t).2) n) true)
  | 0, bw => rfl
  | t + 1, bw => by
    have ih := grow_snoc n t (Bi.mkW bw (lowN (Bi.bt bw) n) true)
    show (lowN (Bi.bt bw) n :: (grow n (Bi.mkW bw (lowN (Bi.bt bw) n) true) (t + 1)).1, (grow n (Bi.mkW bw (lowN (Bi.bt bw) n) true) (t + 1)).2) = _
    rw [ih]
    rfl
theorem back_snoc : ∀ (l bw : List Nat) (b : Nat), back bw (l ++ [b]) = Bi.mkW (back bw l) b false
  | [], bw, b => rfl
  | c :: l, bw, b => by
    show back (Bi.mkW bw c false) (l ++ [b]) = _
    rw [back_snoc l]
    rfl
/-- The words in which these blocks are 0. -/
structure ZW (n : Nat) (ws : List Int) (Z : List Nat) (us : List Int) : Prop where
  len : us.length = ws.length
  fr : ∀ b, b < n → frameOf us b = if b ∈ Z then List.replicate 32 0 else frameOf ws b
theorem ZW.refl (n : Nat) (ws : List Int) : ZW n ws [] ws := ⟨rfl, fun b _ => by simp⟩
theorem ZW.snoc {n : Nat} {ws us : List Int} {Z : List Nat} (h : ZW n ws Z us) (hl : ws.length = n * 32) {b : Nat} (hb : b < n) : ZW n ws (Z ++ [b]) (splice us (b * 32) (List.replicate 32 0)) := by
  have hul : us.length = n * 32 := h.len.trans hl
  refine ⟨(splice_length _ _ _ (by simp [hul]; omega)).trans h.len, fun c hc => ?_⟩
  rw [frame_splice us _ n b c hul hb hc (by simp), h.fr c hc]
  by_cases e : c = b
  · rw [if_pos e, if_pos (by simp [e])]
  · rw [if_neg e]
    by_cases q : c ∈ Z
    · rw [if_pos q, if_pos (by simp [q])]
    · rw [if_neg q, if_neg (by simp [q, e])]

/-- A resize to nd blocks, of a file that has those of l, up to the k-th. -/
def RS (n : Nat) (l bw : List Nat) (nd k : Nat) (bl bw' Z : List Nat) : Prop :=
  (l.length ≤ nd ∧ bl = six (fun j => (l ++ (grow n bw (min k nd - l.length)).1).getD j 0) ∧ bw' = (grow n bw (min k nd - l.length)).2 ∧ Z = (grow n bw (min k nd - l.length)).1) ∨
  (nd < l.length ∧ bl = six (fun j => if nd ≤ j ∧ j < k then 0 else l.getD j 0) ∧ bw' = back bw ((l.drop nd).take (k - nd)) ∧ Z = (l.drop nd).take (k - nd))
section
variable {n nd k : Nat} {l bw bl bw' Z : List Nat}
theorem RS.start (n : Nat) (l bw : List Nat) (nd : Nat) : RS n l bw nd 0 (six (fun j => l.getD j 0)) bw [] := by
  rcases Nat.lt_or_ge nd l.length with q | q
  · refine Or.inr ⟨q, six_congr fun j _ => ?_, by simp [back], by simp⟩
    rw [if_neg (by omega)]
  · refine Or.inl ⟨q, ?_, ?_, ?_⟩ <;> simp [grow]
theorem RS.len (h : RS n l bw nd k bl bw' Z) : bl.length = 6 := by
  rcases h with ⟨_, rfl, _⟩ | ⟨_, rfl, _⟩ <;> exact six_len _
/-- A block that is there and stays. -/
theorem RS.keep (h : RS n l bw nd k bl bw' Z) (hk : k < nd) (hl : k < l.length) : RS n l bw nd (k + 1) bl bw' Z ∧ bl.getD k 0 = l.getD k 0 ∨ 6 ≤ k := by
  rcases Nat.lt_or_ge k 6 with h6 | h6
  · refine Or.inl ?_
    rcases h with ⟨q, rfl, rfl, rfl⟩ | ⟨q, rfl, rfl, rfl⟩
    · have e1 : min k nd - l.length = 0 := by omega
      have e2 : min (k + 1) nd - l.length = 0 := by omega
      rw [e1]
      refine ⟨Or.inl ⟨q, ?_, ?_, ?_⟩, ?_⟩
      · rw [e2]
      · rw [e2]
      · rw [e2]
      · rw [six_get _ h6]; simp [grow]
    · have e1 : k - nd = 0 := by omega
      have e2 : k + 1 - nd = 0 := by omega
      refine ⟨Or.inr ⟨q, six_congr fun j _ => ?_, by rw [e1, e2], by rw [e1, e2]⟩, ?_⟩
      · rw [if_neg (by omega), if_neg (by omega)]
      · rw [six_get _ h6, if_neg (by omega)]
  · exact Or.inr h6
/-- A block that is wanted and is not there. -/
theorem RS.take (h : RS n l bw nd k bl bw' Z) (hk : k < nd) (hl : l.length ≤ k) (h6 : nd ≤ 6) (hn : (grow n bw (k - l.length)).1.length = k - l.length) :
    bl.getD k 0 = 0 ∧ bw' = (grow n bw (k - l.length)).2 ∧ RS n l bw nd (k + 1) (bl.set k (lowN (Bi.bt bw') n)) (Bi.mkW bw' (lowN (Bi.bt bw') n) true) (Z ++ [lowN (Bi.bt bw') n]) := by
  rcases h with ⟨q, rfl, rfl, rfl⟩ | ⟨q, rfl, rfl, rfl⟩
  · have e1 : min k nd - l.length = k - l.length := by omega
    have e2 : min (k + 1) nd - l.length = k - l.length + 1 := by omega
    rw [e1]
    have hs := grow_snoc n (k - l.length) bw
    refine ⟨?_, rfl, Or.inl ⟨q, ?_, ?_, ?_⟩⟩
    · rw [six_get _ (by omega), List.getD_eq_getElem?_getD, List.getElem?_eq_none (by rw [List.length_append, hn]; omega)]
      rfl
    · rw [e2, hs, six_set _ (by omega)]
      refine six_congr fun j hj => ?_
      dsimp only
      rw [← List.append_assoc]
      by_cases e : j = k
      · subst e
        rw [if_pos rfl, List.getD_eq_getElem?_getD, List.getElem?_append_right (by rw [List.length_append, hn]; omega), List.length_append, hn, show j - (l.length + (j - l.length)) = 0 by omega]
        rfl
      · rw [if_neg e]
        simp only [List.getD_eq_getElem?_getD]
        rcases Nat.lt_or_ge j (l ++ (grow n bw (k - l.length)).1).length with w | w
        · rw [List.getElem?_append_left w]
        · have w' := w
          rw [List.length_append, hn] at w'
          rw [List.getElem?_eq_none w, List.getElem?_eq_none (by rw [List.length_append, List.length_append, hn]; simp; omega)]
    · rw [e2, hs]
    · rw [e2, hs]
  · omega
/-- A block that is there and goes. -/
theorem RS.drop (h : RS n l bw nd k bl bw' Z) (hk : nd ≤ k) (hl : k < l.length) (h6 : l.length ≤ 6) :
    bl.getD k 0 = l.getD k 0 ∧ RS n l bw nd (k + 1) (bl.set k 0) (Bi.mkW bw' (l.getD k 0) false) (Z ++ [l.getD k 0]) := by
  rcases h with ⟨q, rfl, rfl, rfl⟩ | ⟨q, rfl, rfl, rfl⟩
  · omega
  · have e : (l.drop nd).take (k + 1 - nd) = (l.drop nd).take (k - nd) ++ [l.getD k 0] := by
      rw [show k + 1 - nd = k - nd + 1 by omega, List.take_add_one, List.getElem?_drop, show nd + (k - nd) = k by omega, List.getElem?_eq_getElem hl, List.getD_eq_getElem?_getD, List.getElem?_eq_getElem hl]
      rfl
    refine ⟨by rw [six_get _ (by omega), if_neg (by omega)], Or.inr ⟨q, ?_, by rw [e, back_snoc], by rw [e]⟩⟩
    rw [six_set _ (by omega)]
    refine six_congr fun j hj => ?_
    by_cases e : j = k
    · rw [if_pos e, if_pos (by omega)]
    · rw [if_neg e]
      by_cases q1 : nd ≤ j ∧ j < k
      · rw [if_pos q1, if_pos (by omega)]
      · rw [if_neg q1, if_neg (by omega)]
/-- No block is there, and none is wanted. -/
theorem RS.none (h : RS n l bw nd k bl bw' Z) (hk : nd ≤ k) (hl : l.length ≤ k) (h6 : k < 6) (hn : (grow n bw (nd - l.length)).1.length = nd - l.length) :
    bl.getD k 0 = 0 ∧ RS n l bw nd (k + 1) (bl.set k 0) bw' Z := by
  rcases h with ⟨q, rfl, rfl, rfl⟩ | ⟨q, rfl, rfl, rfl⟩
  · have e1 : min k nd - l.length = nd - l.length := by omega
    have e2 : min (k + 1) nd - l.length = nd - l.length := by omega
    rw [e1]
    have e0 : (l ++ (grow n bw (nd - l.length)).1).getD k 0 = 0 := by
      rw [List.getD_eq_getElem?_getD, List.getElem?_eq_none (by rw [List.length_append, hn]; omega)]
      rfl
    refine ⟨by rw [six_get _ h6, e0], Or.inl ⟨q, ?_, by rw [e2], by rw [e2]⟩⟩
    rw [six_set _ h6, e2]
    refine six_congr fun j hj => ?_
    by_cases e : j = k
    · rw [if_pos e, e, e0]
    · rw [if_neg e]
  · have e : (l.drop nd).take (k + 1 - nd) = (l.drop nd).take (k - nd) := by
      rw [List.take_of_length_le (by simp; omega), List.take_of_length_le (by simp; omega)]
    refine ⟨?_, Or.inr ⟨q, ?_, by rw [e], by rw [e]⟩⟩
    · rw [six_get _ h6, if_neg (by omega), List.getD_eq_getElem?_getD, List.getElem?_eq_none hl]
      rfl
    · rw [six_set _ h6]
      refine six_congr fun j hj => ?_
      by_cases e : j = k
      · rw [if_pos e, if_pos (by omega)]
      · rw [if_neg e]
        by_cases q1 : nd ≤ j ∧ j < k
        · rw [if_pos q1, if_pos (by omega)]
        · rw [if_neg q1, if_neg (by omega)]
/-- All six. -/
theorem RS.done (h : RS n l bw nd 6 bl bw' Z) (h6 : nd ≤ 6) (hl : l.length ≤ 6) :
    bl = six (fun j => (l.take nd ++ (grow n bw (nd - l.length)).1).getD j 0) ∧ bw' = back (grow n bw (nd - l.length)).2 (l.drop nd) ∧ ∀ b, b ∈ Z ↔ (b ∈ (grow n bw (nd - l.length)).1 ∨ b ∈ l.drop nd) := by
  rcases h with ⟨q, rfl, rfl, rfl⟩ | ⟨q, rfl, rfl, rfl⟩
  · have e1 : min 6 nd = nd := by omega
    rw [e1, List.take_of_length_le q, List.drop_eq_nil_of_le q]
    exact ⟨rfl, rfl, fun b => by simp⟩
  · have e1 : nd - l.length = 0 := by omega
    have e2 : (l.drop nd).take (6 - nd) = l.drop nd := List.take_of_length_le (by rw [List.length_drop]; omega)
    rw [e1, e2]
    refine ⟨six_congr fun j hj => ?_, rfl, fun b => by simp [grow]⟩
    simp only [grow, List.append_nil, List.getD_eq_getElem?_getD, List.getElem?_take]
    by_cases q1 : j < nd
    · rw [if_neg (by omega), if_pos q1]
    · rw [if_pos (by omega), if_neg q1]
      rfl
end
/-- The words of a block from that one on are 0. -/
def cleared (fr k : Nat) (xs : List Int) : List Int := xs.take (fr - 32 * k) ++ List.replicate (32 - (fr - 32 * k)) 0
theorem cleared_len {fr k : Nat} {xs : List Int} (h : xs.length = 32) : (cleared fr k xs).length = 32 := by
  simp [cleared, h]
  omega
theorem cleared_get {fr k : Nat} {xs : List Int} (h : xs.length = 32) (j : Nat) : (cleared fr k xs).getD j 0 = if 32 * k + j < fr then xs.getD j 0 else 0 := by
  unfold cleared
  rw [app_get]
  simp only [List.length_take, h]
  by_cases q : 32 * k + j < fr
  · rw [if_pos q]
    by_cases q2 : j < min (fr - 32 * k) 32
    · rw [if_pos q2, List.getD_eq_getElem?_getD, List.getD_eq_getElem?_getD, List.getElem?_take, if_pos (by omega)]
    · rw [if_neg q2]
      simp only [List.getD_eq_getElem?_getD, List.getElem?_replicate]
      rw [List.getElem?_eq_none (show xs.length ≤ j by omega)]
      split <;> rfl
  · rw [if_neg q, if_neg (by omega)]
    simp only [List.getD_eq_getElem?_getD, List.getElem?_replicate]
    split <;> rfl
/-- The words behind clearFrom, up to block k. -/
structure CW (n fr : Nat) (nb : List Nat) (ws : List Int) (k : Nat) (us : List Int) : Prop where
  len : us.length = ws.length
  fr : ∀ j b, nb[j]? = some b → b < n → frameOf us b = if j < k then cleared fr j (frameOf ws b) else frameOf ws b
  out : ∀ b, b < n → b ∉ nb → frameOf us b = frameOf ws b
end Go.Proofs.YtcjpahnlckfgoaaGreatDoor
