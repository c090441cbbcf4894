/- Plain: a file system's words on a disk: what each word is; what a put of one block leaves. -/
import Derived.Test.YtinjllnoonbjmaaInoN
import Derived.Test.YtinjllnoonbjmaaFrames
namespace Go.Proofs.Ytinjllnoonbjmaa
open Go.RowKit
set_option linter.unusedVariables false

/-- The words vs are those of the file system F, as far as blocks are in use. -/
structure Holds (vs : List Int) (F : FS) : Prop where
  len : vs.length = F.n * 32
  head : frameOf vs 0 = F.head
  tab : ∀ j, j < 11 → frameOf vs (1 + j) = F.tab j
  data : ∀ i, i < 32 → ∀ k b, (F.ino i).blk[k]? = some b → frameOf vs b = chunk (F.ino i).txt k

theorem app_get (a b : List Int) (j : Nat) : (a ++ b).getD j 0 = if j < a.length then a.getD j 0 else b.getD (j - a.length) 0 := by
  simp only [List.getD_eq_getElem?_getD]
  split
  · rename_i h; rw [List.getElem?_append_left h]
  · rename_i h; rw [List.getElem?_append_right (by omega)]
/-- The words of an inode. -/
theorem row_kind (x : Ino) : x.row.getD 0 0 = x.kind := rfl
theorem row_links (x : Ino) : x.row.getD 1 0 = x.links := rfl
theorem row_size (x : Ino) : x.row.getD 2 0 = (x.txt.length : Int) := rfl
theorem row_blk (x : Ino) (k : Nat) : x.row.getD (3 + k) 0 = ((x.blk.getD k 0 : Nat) : Int) := by
  unfold Ino.row
  rw [List.append_assoc, app_get, if_neg (by simp), app_get]
  simp only [List.length_cons, List.length_nil, List.length_map]
  rw [show 3 + k - (0 + 1 + 1 + 1) = k by omega]
  split
  · rename_i h
    simp [h]
  · rename_i h
    simp only [List.getD_eq_getElem?_getD, List.getElem?_replicate]
    rw [List.getElem?_eq_none (show x.blk.length ≤ k by omega)]
    split <;> rfl
/-- The words of three inodes. -/
theorem tab_word {F : FS} (h : FInv F) {i k : Nat} (hi : i < 32) (hk : k < 9) : (F.tab (i / 3)).getD (i % 3 * 9 + k) 0 = (F.ino i).row.getD k 0 := by
  have h0 := h.atlen (3 * (i / 3))
  have h1 := h.atlen (3 * (i / 3) + 1)
  have h2 := h.atlen (3 * (i / 3) + 2)
  have hat : F.at i = F.ino i := if_pos hi
  unfold FS.tab
  have hm : i % 3 = 0 ∨ i % 3 = 1 ∨ i % 3 = 2 := by omega
  rcases hm with e | e | e
  · have e2 : 3 * (i / 3) = i := by omega
    rw [e2] at h0 h1 h2 ⊢
    rw [e, app_get, if_pos (by simp [h0, h1, h2]; omega), app_get, if_pos (by simp [h0, h1]; omega), app_get, if_pos (by rw [h0]; omega), hat]
    congr 1
    omega
  · have e2 : 3 * (i / 3) + 1 = i := by omega
    rw [e2] at h1 ⊢
    rw [e, app_get, if_pos (by simp [h0, h1, h2]; omega), app_get, if_pos (by simp [h0, h1]; omega), app_get, if_neg (by rw [h0]; omega), h0, hat]
    congr 1
    omega
  · have e2 : 3 * (i / 3) + 2 = i := by omega
    rw [e2] at h2 ⊢
    rw [e, app_get, if_pos (by simp [h0, h1, h2]; omega), app_get, if_neg (by simp [h0, h1]), hat]
    congr 1
    simp [h0, h1]
/-- An inode is laid anew: the words of the three of which it is one. -/
theorem FS.put_at (F : FS) (i : Nat) (x : Ino) (bw : List Nat) (j : Nat) : (F.put i x bw).at j = if j = i ∧ j < 32 then x else F.at j := by
  unfold FS.at
  by_cases h : j < 32
  · rw [if_pos h, if_pos h]
    show (if j = i then x else F.ino j) = _
    by_cases e : j = i
    · rw [if_pos e, if_pos ⟨e, h⟩]
    · rw [if_neg e, if_neg (fun q => e q.1)]
  · rw [if_neg h, if_neg h, if_neg (fun q => h q.2)]
theorem tab_other (F : FS) (i : Nat) (x : Ino) (bw : List Nat) {j : Nat} (h : j ≠ i / 3) : (F.put i x bw).tab j = F.tab j := by
  unfold FS.tab
  rw [FS.put_at, FS.put_at, FS.put_at, if_neg (fun q => by omega), if_neg (fun q => by omega), if_neg (fun q => by omega)]
theorem splice_row (a b c d x : List Int) (h : x.length = b.length) : splice (a ++ b ++ c ++ d) a.length x = a ++ x ++ c ++ d := by
  unfold splice
  rw [h]
  simp [List.append_assoc]
theorem tab_put {F : FS} (h : FInv F) {i : Nat} (hi : i < 32) {x : Ino} (hx : x.blk.length ≤ 6) (bw : List Nat) : (F.put i x bw).tab (i / 3) = splice (F.tab (i / 3)) (i % 3 * 9) x.row := by
  have h0 := h.atlen (3 * (i / 3))
  have h1 := h.atlen (3 * (i / 3) + 1)
  have h2 := h.atlen (3 * (i / 3) + 2)
  have hr := Ino.row_len hx
  unfold FS.tab
  rw [FS.put_at, FS.put_at, FS.put_at]
  have hm : i % 3 = 0 ∨ i % 3 = 1 ∨ i % 3 = 2 := by omega
  rcases hm with e | e | e
  · rw [if_pos ⟨by omega, by omega⟩, if_neg (fun q => by omega), if_neg (fun q => by omega), e]
    have := splice_row [] (F.at (3 * (i / 3))).row (F.at (3 * (i / 3) + 1)).row ((F.at (3 * (i / 3) + 2)).row ++ List.replicate 5 0) x.row (by rw [hr, h0])
    simpa [List.append_assoc] using this.symm
  · rw [if_neg (fun q => by omega), if_pos ⟨by omega, by omega⟩, if_neg (fun q => by omega), e]
    have := splice_row (F.at (3 * (i / 3))).row (F.at (3 * (i / 3) + 1)).row (F.at (3 * (i / 3) + 2)).row (List.replicate 5 0) x.row (by rw [hr, h1])
    rw [h0] at this
    simpa [List.append_assoc] using this.symm
  · rw [if_neg (fun q => by omega), if_neg (fun q => by omega), if_pos ⟨by omega, by omega⟩, e]
    have := splice_row ((F.at (3 * (i / 3))).row ++ (F.at (3 * (i / 3) + 1)).row) (F.at (3 * (i / 3) + 2)).row (List.replicate 5 0) [] x.row (by rw [hr, h2])
    rw [List.length_append, h0, h1] at this
    simpa [List.append_assoc] using this.symm
/-- The words of block 0. -/
theorem head_n (F : FS) : F.head.getD 1 0 = (F.n : Int) := rfl
theorem head_iw {F : FS} (h : FInv F) : F.head.getD 2 0 = ((F.iw.getD 0 0 : Nat) : Int) := by
  have h1 : F.iw.length = 1 := h.iw.len
  obtain ⟨x, hx⟩ : ∃ x, F.iw = [x] := by
    match hq : F.iw, h1 with
    | [x], _ => exact ⟨x, rfl⟩
  unfold FS.head
  rw [hx]
  rfl
theorem head_bw {F : FS} (h : FInv F) {k : Nat} (hk : k < F.bw.length) : F.head.getD (3 + k) 0 = ((F.bw.getD k 0 : Nat) : Int) := by
  have h1 : F.iw.length = 1 := h.iw.len
  unfold FS.head
  rw [app_get, if_pos (by simp [h1]; omega), app_get, if_neg (by simp [h1])]
  simp only [List.length_append, List.length_cons, List.length_nil, List.length_map, h1]
  rw [show 3 + k - (0 + 1 + 1 + 1) = k by omega]
  simp [hk]
/-- A byte of a text lies in its block. -/
theorem Holds.byte {vs : List Int} {F : FS} (h : Holds vs F) (hF : FInv F) {i p : Nat} (hi : i < 32) (hp : p < (F.ino i).txt.length) :
    ∃ b, (F.ino i).blk[p / 32]? = some b ∧ 12 ≤ b ∧ b < F.n ∧ (frameOf vs b).getD (p % 32) 0 = (F.ino i).txt.getD p 0 := by
  have hl := hF.len i hi
  have hk : p / 32 < (F.ino i).blk.length := by
    rw [hl]
    unfold need
    omega
  refine ⟨_, List.getElem?_eq_getElem hk, (hF.data i hi _ (List.getElem_mem hk)).1, (hF.data i hi _ (List.getElem_mem hk)).2.1, ?_⟩
  rw [h.data i hi _ _ (List.getElem?_eq_getElem hk), chunk_get _ _ _ (Nat.mod_lt _ (by omega))]
  congr 1
  omega
/-- What is laid block by block is the new file system's. -/
theorem Holds.put {vs us : List Int} {F : FS} (h : Holds vs F) {i : Nat} {x : Ino} {bw : List Nat} (hl : us.length = vs.length) (h0 : frameOf us 0 = (F.put i x bw).head) (hi : frameOf us (1 + i / 3) = (F.put i x bw).tab (i / 3))
    (hj : ∀ j, j < 11 → j ≠ i / 3 → frameOf us (1 + j) = frameOf vs (1 + j)) (hd : ∀ k b, x.blk[k]? = some b → frameOf us b = chunk x.txt k) (ho : ∀ m, m < 32 → m ≠ i → ∀ b ∈ (F.ino m).blk, frameOf us b = frameOf vs b) : Holds us (F.put i x bw) := by
  refine ⟨hl.trans h.len, h0, fun j hj0 => ?_, fun m hm k b hb => ?_⟩
  · by_cases e : j = i / 3
    · rw [e]; exact hi
    · rw [tab_other F i x bw e, hj j hj0 e]
      exact h.tab j hj0
  · by_cases e : m = i
    · rw [e, FS.put_same] at hb ⊢
      exact hd k b hb
    · rw [FS.put_other _ _ _ _ e] at hb ⊢
      rw [ho m hm e b (List.mem_of_getElem? hb)]
      exact h.data m hm k b hb
end Go.Proofs.Ytinjllnoonbjmaa
