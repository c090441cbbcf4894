/- Plain: a file system as data: which inodes and blocks are in use, of each inode its kind, its links, its text and its blocks; its words as they lie on a disk; alloc, free, resize, write. Names no program. -/
import Derived.Test.YtinjllnoonbjmaaBitM
namespace Go.Proofs.Ytinjllnoonbjmaa
open Go.RowKit
set_option linter.unusedVariables false

/-- An inode: its blocks are so many as hold its text. -/
structure Ino where
  kind : Int
  links : Int
  txt : List Int
  blk : List Nat
def Ino.no : Ino := ⟨0, 0, [], []⟩
/-- How many blocks a size needs. -/
def need (s : Nat) : Nat := (s + 31) / 32
/-- The nine words of an inode. -/
def Ino.row (x : Ino) : List Int := [x.kind, x.links, (x.txt.length : Int)] ++ x.blk.map (fun b : Nat => (b : Int)) ++ List.replicate (6 - x.blk.length) 0
theorem Ino.row_len {x : Ino} (h : x.blk.length ≤ 6) : x.row.length = 9 := by
  simp [Ino.row]
  omega
theorem Ino.no_row : Ino.no.row = List.replicate 9 0 := rfl
/-- What lies in block k of a text. -/
def chunk (t : List Int) (k : Nat) : List Int := (t.drop (32 * k)).take 32 ++ List.replicate (32 - (t.length - 32 * k)) 0
theorem chunk_len (t : List Int) (k : Nat) : (chunk t k).length = 32 := by
  simp [chunk]
  omega
theorem chunk_get (t : List Int) (k j : Nat) (hj : j < 32) : (chunk t k).getD j 0 = t.getD (32 * k + j) 0 := by
  unfold chunk
  simp only [List.getD_eq_getElem?_getD]
  by_cases h : 32 * k + j < t.length
  · rw [List.getElem?_append_left (by simp; omega), List.getElem?_take, if_pos hj, List.getElem?_drop]
  · rw [List.getElem?_append_right (by simp; omega), List.getElem?_replicate, List.getElem?_eq_none (by omega)]
    split <;> rfl
/-- A file system of n blocks. -/
structure FS where
  n : Nat
  iw : List Nat
  bw : List Nat
  ino : Nat → Ino
/-- The words of block 0. -/
def FS.head (F : FS) : List Int := [318923232595, (F.n : Int)] ++ F.iw.map (fun x : Nat => (x : Int)) ++ F.bw.map (fun x : Nat => (x : Int)) ++ List.replicate (29 - F.bw.length) 0
/-- The words of block 1 + j: three inodes (there is none from 32 on). -/
def FS.at (F : FS) (i : Nat) : Ino := if i < 32 then F.ino i else Ino.no
def FS.tab (F : FS) (j : Nat) : List Int := (F.at (3 * j)).row ++ (F.at (3 * j + 1)).row ++ (F.at (3 * j + 2)).row ++ List.replicate 5 0
def FS.set (F : FS) (i : Nat) (x : Ino) : FS := { F with ino := fun j => if j = i then x else F.ino j }
theorem FS.set_same (F : FS) (i : Nat) (x : Ino) : (F.set i x).ino i = x := if_pos rfl
theorem FS.set_other (F : FS) (i j : Nat) (x : Ino) (h : j ≠ i) : (F.set i x).ino j = F.ino j := if_neg h
/-- What is kept. -/
structure FInv (F : FS) : Prop where
  n1 : 13 ≤ F.n
  n2 : F.n ≤ 1024
  iw : Bi.Wf 32 F.iw
  bw : Bi.Wf F.n F.bw
  low : ∀ b, b < 12 → Bi.bt F.bw b = true
  root : Bi.bt F.iw 0 = true
  none : ∀ i, i < 32 → Bi.bt F.iw i = false → F.ino i = Ino.no
  max : ∀ i, i < 32 → (F.ino i).txt.length ≤ 192
  byte : ∀ i, i < 32 → ∀ x ∈ (F.ino i).txt, 0 ≤ x ∧ x < 256
  num : ∀ i, i < 32 → 0 ≤ (F.ino i).kind ∧ (F.ino i).kind < 9223372036854775808 ∧ 0 ≤ (F.ino i).links ∧ (F.ino i).links < 9223372036854775808
  len : ∀ i, i < 32 → (F.ino i).blk.length = need (F.ino i).txt.length
  data : ∀ i, i < 32 → ∀ b ∈ (F.ino i).blk, 12 ≤ b ∧ b < F.n ∧ Bi.bt F.bw b = true
  one : ∀ i j, i < 32 → j < 32 → ∀ b, b ∈ (F.ino i).blk → b ∈ (F.ino j).blk → i = j
  nd : ∀ i, i < 32 → (F.ino i).blk.Nodup
  whose : ∀ b, 12 ≤ b → b < F.n → Bi.bt F.bw b = true → ∃ i, i < 32 ∧ b ∈ (F.ino i).blk
theorem FInv.six {F : FS} (h : FInv F) {i : Nat} (hi : i < 32) : (F.ino i).blk.length ≤ 6 := by
  have h1 := h.len i hi
  have h2 := h.max i hi
  unfold need at h1
  omega
theorem FInv.atlen {F : FS} (h : FInv F) (i : Nat) : (F.at i).row.length = 9 := by
  unfold FS.at
  split
  · rename_i hi
    exact Ino.row_len (h.six hi)
  · rfl
theorem FInv.tab_len {F : FS} (h : FInv F) (j : Nat) : (F.tab j).length = 32 := by
  have h1 := h.atlen (3 * j)
  have h2 := h.atlen (3 * j + 1)
  have h3 := h.atlen (3 * j + 2)
  simp [FS.tab, h1, h2, h3]
theorem FInv.head_len {F : FS} (h : FInv F) : F.head.length = 32 := by
  have h1 := h.iw.len
  have h2 := h.bw.len
  have h3 := h.n2
  simp [FS.head]
  omega

/-- So many are taken, the lowest first. -/
def lowN (f : Nat → Bool) (n : Nat) : Nat := (List.range n).findIdx (fun k => !f k)
theorem lowN_le (f : Nat → Bool) (n : Nat) : lowN f n ≤ n := by
  have := List.findIdx_le_length (xs := List.range n) (p := fun k => !f k)
  simpa [lowN] using this
theorem lowN_hit {f : Nat → Bool} {n : Nat} (h : lowN f n < n) : f (lowN f n) = false ∧ ∀ j, j < lowN f n → f j = true := by
  have hl : (List.range n).findIdx (fun k => !f k) < (List.range n).length := by simpa [lowN] using h
  constructor
  · have := List.findIdx_getElem (w := hl)
    simpa [lowN] using this
  · intro j hj
    have h2 : j < n := by omega
    have := List.not_of_lt_findIdx (xs := List.range n) (p := fun k => !f k) hj
    simpa [h2] using this
theorem lowN_none {f : Nat → Bool} {n : Nat} (h : lowN f n = n) : ∀ j, j < n → f j = true := by
  intro j hj
  have := List.not_of_lt_findIdx (xs := List.range n) (p := fun k => !f k) (i := j) (by show j < lowN f n; omega)
  simpa [hj] using this
theorem cntF_one {f g : Nat → Bool} {b : Nat} (hf : f b = false) (hg : g b = true) (ho : ∀ j, j ≠ b → g j = f j) : ∀ n, Bi.cntF f n = Bi.cntF g n + (if b < n then 1 else 0)
  | 0 => by simp [Bi.cntF]
  | n + 1 => by
    have ih := cntF_one hf hg ho n
    show Bi.cntF f n + (if f n = true then 0 else 1) = Bi.cntF g n + (if g n = true then 0 else 1) + (if b < n + 1 then 1 else 0)
    by_cases e : n = b
    · subst e
      rw [hf, hg, if_pos (Nat.lt_succ_self n)]
      rw [if_neg (Nat.lt_irrefl n)] at ih
      rw [ih]
      rfl
    · rw [ho n e, ih]
      by_cases q : b < n
      · rw [if_pos q, if_pos (show b < n + 1 from Nat.lt_succ_of_lt q)]
        omega
      · rw [if_neg q, if_neg (show ¬ b < n + 1 from fun h => by omega)]
        omega
theorem cnt_take {ws : List Nat} {n b : Nat} (hw : Bi.Wf n ws) (hb : b < n) (h : Bi.bt ws b = false) : Bi.cntF (Bi.bt ws) n = Bi.cntF (Bi.bt (Bi.mkW ws b true)) n + 1 := by
  have := cntF_one (f := Bi.bt ws) (g := Bi.bt (Bi.mkW ws b true)) (b := b) h (by rw [Bi.bt_mkW _ _ _ _ (hw.at hb), if_pos rfl]) (fun j hj => by rw [Bi.bt_mkW _ _ _ _ (hw.at hb), if_neg hj]) n
  rwa [if_pos hb] at this
theorem lowN_lt {ws : List Nat} {n : Nat} (h : 0 < Bi.cntF (Bi.bt ws) n) : lowN (Bi.bt ws) n < n := by
  have h1 := lowN_le (Bi.bt ws) n
  rcases Nat.lt_or_ge (lowN (Bi.bt ws) n) n with q | q
  · exact q
  · have := Bi.cntF_none n (lowN_none (f := Bi.bt ws) (n := n) (by omega))
    omega
/-- So many blocks are taken. -/
def grow (n : Nat) : List Nat → Nat → List Nat × List Nat
  | bw, 0 => ([], bw)
  | bw, k + 1 => (lowN (Bi.bt bw) n :: (grow n (Bi.mkW bw (lowN (Bi.bt bw) n) true) k).1, (grow n (Bi.mkW bw (lowN (Bi.bt bw) n) true) k).2)
theorem grow_ok {n : Nat} : ∀ {k : Nat} {bw : List Nat}, Bi.Wf n bw → k ≤ Bi.cntF (Bi.bt bw) n →
    (grow n bw k).1.length = k ∧ Bi.Wf n (grow n bw k).2 ∧ (∀ b ∈ (grow n bw k).1, b < n ∧ Bi.bt bw b = false ∧ Bi.bt (grow n bw k).2 b = true) ∧ (grow n bw k).1.Nodup ∧ (∀ b, b ∉ (grow n bw k).1 → Bi.bt (grow n bw k).2 b = Bi.bt bw b) ∧ Bi.cntF (Bi.bt bw) n = Bi.cntF (Bi.bt (grow n bw k).2) n + k
  | 0, bw, hw, hk => ⟨rfl, hw, (fun b hb => by cases hb), List.nodup_nil, (fun b _ => rfl), rfl⟩
  | k + 1, bw, hw, hk => by
    have hlt := lowN_lt (ws := bw) (n := n) (by omega)
    obtain ⟨hf, _⟩ := lowN_hit hlt
    have hc := cnt_take hw hlt hf
    unfold grow
    generalize lowN (Bi.bt bw) n = b0 at *
    have hbt := fun j => Bi.bt_mkW bw b0 j true (hw.at hlt)
    obtain ⟨g1, g2, g3, g4, g5, g6⟩ := grow_ok (k := k) (hw.mark hlt true) (by omega)
    have hin : b0 ∉ (grow n (Bi.mkW bw b0 true) k).1 := fun hm => by
      have := (g3 b0 hm).2.1
      rw [hbt, if_pos rfl] at this
      cases this
    refine ⟨by simp [g1], g2, fun b hb => ?_, List.nodup_cons.2 ⟨hin, g4⟩, fun b hb => ?_, by rw [hc, g6]; rfl⟩
    · rcases List.mem_cons.1 hb with rfl | hb
      · refine ⟨hlt, hf, ?_⟩
        rw [g5 b hin, hbt, if_pos rfl]
      · obtain ⟨q1, q2, q3⟩ := g3 b hb
        refine ⟨q1, ?_, q3⟩
        rw [hbt] at q2
        split at q2
        · cases q2
        · exact q2
    · rw [List.mem_cons, not_or] at hb
      rw [g5 b hb.2, hbt, if_neg hb.1]
/-- Blocks are given back. -/
def back : List Nat → List Nat → List Nat
  | bw, [] => bw
  | bw, b :: l => back (Bi.mkW bw b false) l
theorem back_ok {n : Nat} : ∀ {l : List Nat} {bw : List Nat}, Bi.Wf n bw → (∀ b ∈ l, b < n) → Bi.Wf n (back bw l) ∧ ∀ b, Bi.bt (back bw l) b = if b ∈ l then false else Bi.bt bw b
  | [], bw, hw, hl => ⟨hw, fun b => by simp [back]⟩
  | b0 :: l, bw, hw, hl => by
    have hb0 := hl b0 List.mem_cons_self
    obtain ⟨g1, g2⟩ := back_ok (hw.mark hb0 false) (fun b hb => hl b (List.mem_cons_of_mem _ hb))
    refine ⟨g1, fun b => ?_⟩
    show Bi.bt (back (Bi.mkW bw b0 false) l) b = _
    rw [g2, Bi.bt_mkW _ _ _ _ (hw.at hb0)]
    by_cases h1 : b ∈ l
    · rw [if_pos h1, if_pos (List.mem_cons_of_mem _ h1)]
    · by_cases h2 : b = b0
      · rw [if_neg h1, if_pos h2, if_pos (by rw [h2]; exact List.mem_cons_self)]
      · rw [if_neg h1, if_neg h2, if_neg (by rw [List.mem_cons, not_or]; exact ⟨h2, h1⟩)]
end Go.Proofs.Ytinjllnoonbjmaa
