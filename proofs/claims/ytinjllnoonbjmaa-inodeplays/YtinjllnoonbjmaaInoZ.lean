/- Plain: the words that a closed file leaves are the new file system's. -/
import Derived.Test.YtinjllnoonbjmaaInoU
namespace Go.Proofs.Ytinjllnoonbjmaa
open Go.RowKit
set_option linter.unusedVariables false

/-- One inode and both bitmaps are laid anew. -/
def FS.put2 (F : FS) (i : Nat) (x : Ino) (iw bw : List Nat) : FS := ⟨F.n, iw, bw, fun j => if j = i then x else F.ino j⟩
theorem put2_put (F : FS) (i : Nat) (x : Ino) (bw : List Nat) : F.put i x bw = F.put2 i x F.iw bw := rfl
theorem put2_resize (F : FS) (i s : Nat) : resizeF F i s = F.put2 i ⟨(F.ino i).kind, (F.ino i).links, sized (F.ino i).txt s, newBlk F i s⟩ F.iw (newBw F i s) := rfl
theorem put2_alloc (F : FS) (r : Nat) (kind : Int) : allocF F r kind = F.put2 r ⟨kind, 0, [], []⟩ (Bi.mkW F.iw r true) F.bw := rfl
theorem put2_free (F : FS) (i : Nat) : freeF F i = F.put2 i Ino.no (Bi.mkW F.iw i false) (newBw F i 0) := rfl
theorem holds_close {vs u : List Int} {F : FS} (hH : Holds vs F) (hF : FInv F) {i : Nat} (hi : i < 32) {x : Ino} (hx : x.blk.length ≤ 6) {iw bw : List Nat} (hiw : iw.length = 1) (hbw : bw.length ≤ 29) (hl : u.length = vs.length)
    (hlow : ∀ b, b < 12 → frameOf u b = frameOf vs b) (hd : ∀ k b, x.blk[k]? = some b → 12 ≤ b ∧ b < F.n ∧ frameOf u b = chunk x.txt k) (ho : ∀ m, m < 32 → m ≠ i → ∀ b ∈ (F.ino m).blk, frameOf u b = frameOf vs b) :
    Holds (putW (splice u 0 (hdW F.n iw bw)) i x.row) (F.put2 i x iw bw) := by
  have hn1 := hF.n1
  have hvl := hH.len
  have hul : u.length = F.n * 32 := hl.trans hvl
  have hhl : (hdW F.n iw bw).length = 32 := hdW_len hiw hbw
  have hrl : x.row.length = 9 := Ino.row_len hx
  have h1l : (splice u 0 (hdW F.n iw bw)).length = F.n * 32 := by rw [splice_length _ _ _ (by omega), hul]
  have hfr1 : ∀ b, b < F.n → frameOf (splice u 0 (hdW F.n iw bw)) b = if b = 0 then hdW F.n iw bw else frameOf u b := by
    intro b hb
    have := frame_splice u (hdW F.n iw bw) F.n 0 b hul (by omega) hb hhl
    rwa [Nat.zero_mul] at this
  have hib : 1 + i / 3 < F.n := by omega
  have ht : frameOf (splice u 0 (hdW F.n iw bw)) (1 + i / 3) = F.tab (i / 3) := by
    rw [hfr1 _ hib, if_neg (by omega), hlow _ (by omega)]
    exact hH.tab (i / 3) (by omega)
  have htl : (F.tab (i / 3)).length = 32 := hF.tab_len _
  have hsl : (splice (F.tab (i / 3)) (i % 3 * 9) x.row).length = 32 := by rw [splice_length _ _ _ (by omega), htl]
  have hfr2 : ∀ b, b < F.n → frameOf (putW (splice u 0 (hdW F.n iw bw)) i x.row) b = if b = 1 + i / 3 then splice (F.tab (i / 3)) (i % 3 * 9) x.row else frameOf (splice u 0 (hdW F.n iw bw)) b := by
    intro b hb
    unfold putW
    rw [ht]
    exact frame_splice _ _ F.n _ _ h1l hib hb hsl
  refine ⟨?_, ?_, fun j hj => ?_, fun m hm k b hb => ?_⟩
  · unfold putW
    rw [ht, splice_length _ _ _ (by omega), h1l]
    rfl
  · rw [hfr2 0 (by omega), if_neg (by omega), hfr1 0 (by omega), if_pos rfl]
    rfl
  · rw [hfr2 (1 + j) (by omega)]
    by_cases e : j = i / 3
    · rw [if_pos (by omega), e]
      exact (tab_put hF hi hx bw).symm
    · rw [if_neg (by omega), hfr1 _ (by omega), if_neg (by omega), hlow _ (by omega), hH.tab j hj]
      exact (tab_other F i x bw e).symm
  · have key : ∀ c, 12 ≤ c → c < F.n → frameOf (putW (splice u 0 (hdW F.n iw bw)) i x.row) c = frameOf u c := fun c h1 h2 => by
      rw [hfr2 c h2, if_neg (by omega), hfr1 c h2, if_neg (by omega)]
    by_cases e : m = i
    · have e1 : (F.put2 i x iw bw).ino m = x := if_pos e
      rw [e1] at hb ⊢
      obtain ⟨h1, h2, h3⟩ := hd k b hb
      rw [key b h1 h2]
      exact h3
    · have e1 : (F.put2 i x iw bw).ino m = F.ino m := if_neg e
      rw [e1] at hb ⊢
      have hdat := hF.data m hm b (List.mem_of_getElem? hb)
      rw [key b hdat.1 hdat.2.1, ho m hm e b (List.mem_of_getElem? hb)]
      exact hH.data m hm k b hb
theorem newBw_len {F : FS} (h : FInv F) {i s : Nat} (hi : i < 32) (hu : Bi.bt F.iw i = true) (hs : s ≤ 192) (hr : roomB F i s = true) : (newBw F i s).length ≤ 29 := by
  have := (h.resize hi hu hs hr).bw.len
  have h2 := h.n2
  have e : (resizeF F i s).bw = newBw F i s := rfl
  have e2 : (resizeF F i s).n = F.n := rfl
  rw [e, e2] at this
  omega
/-- Behind a resize no block below 12, and no other inode's, is touched. -/
theorem RZ.low {F : FS} {i s : Nat} {vs us : List Int} (h : RZ F i s vs us) (hF : FInv F) (hi : i < 32) (hu : Bi.bt F.iw i = true) (hs : s ≤ 192) (hr : roomB F i s = true) : ∀ b, b < 12 → frameOf us b = frameOf vs b := by
  intro b hb
  have hn := hF.n1
  have hok := (hF.resize hi hu hs hr).ok hi
  have e0 : (resizeF F i s).ino i = ⟨(F.ino i).kind, (F.ino i).links, sized (F.ino i).txt s, newBlk F i s⟩ := FS.put_same _ _ _ _
  rw [e0] at hok
  refine h.out b (by omega) (fun hm => ?_) (fun hm => ?_)
  · have := (hok.data b hm).1
    omega
  · have := (hF.data i hi b (List.mem_of_mem_drop hm)).1
    omega
theorem RZ.others {F : FS} {i s : Nat} {vs us : List Int} (h : RZ F i s vs us) (hF : FInv F) (hi : i < 32) (hu : Bi.bt F.iw i = true) (hs : s ≤ 192) (hr : roomB F i s = true) : ∀ m, m < 32 → m ≠ i → ∀ b ∈ (F.ino m).blk, frameOf us b = frameOf vs b ∧ b ∉ newBlk F i s := by
  intro m hm hne b hb
  have hG := hF.resize hi hu hs hr
  have e0 : (resizeF F i s).ino i = ⟨(F.ino i).kind, (F.ino i).links, sized (F.ino i).txt s, newBlk F i s⟩ := FS.put_same _ _ _ _
  have e1 : (resizeF F i s).ino m = F.ino m := FS.put_other _ _ _ _ hne
  have hdat := hF.data m hm b hb
  have hnb : b ∉ newBlk F i s := fun hq => hne (hG.one m i hm hi b (by rw [e1]; exact hb) (by rw [e0]; exact hq))
  exact ⟨h.out b hdat.2.1 hnb (fun hq => hne (hF.one m i hm hi b hb (List.mem_of_mem_drop hq))), hnb⟩
theorem resize_holds {F : FS} (hF : FInv F) {vs us : List Int} (hH : Holds vs F) {i s : Nat} (hi : i < 32) (hu : Bi.bt F.iw i = true) (hs : s ≤ 192) (hr : roomB F i s = true) (hz : RZ F i s vs us) :
    Holds (putW (splice us 0 (hdW F.n F.iw (newBw F i s))) i (rowOf (F.ino i).kind (F.ino i).links (s : Int) (six (fun j => (newBlk F i s).getD j 0)))) (resizeF F i s) := by
  have hok := (hF.resize hi hu hs hr).ok hi
  have e0 : (resizeF F i s).ino i = ⟨(F.ino i).kind, (F.ino i).links, sized (F.ino i).txt s, newBlk F i s⟩ := FS.put_same _ _ _ _
  rw [e0] at hok
  have hnl := newBlk_len hF hi hr
  have hnd := need_le hs
  have h6 : (newBlk F i s).length ≤ 6 := by omega
  have hrow := row_six (x := ⟨(F.ino i).kind, (F.ino i).links, sized (F.ino i).txt s, newBlk F i s⟩) h6
  simp only [sized_len] at hrow
  rw [← hrow, put2_resize]
  exact holds_close hH hF hi h6 hF.iw.len (newBw_len hF hi hu hs hr) hz.len (hz.low hF hi hu hs hr) (fun k b hb => ⟨(hok.data b (List.mem_of_getElem? hb)).1, (hok.data b (List.mem_of_getElem? hb)).2.1, hz.data k b hb⟩) (fun m hm hne b hb => (hz.others hF hi hu hs hr m hm hne b hb).1)
theorem write_holds {F : FS} (hF : FInv F) {vs us u2 : List Int} (hH : Holds vs F) {i o : Nat} {d : List Int} (hi : i < 32) (hu : Bi.bt F.iw i = true) (hs : o + d.length ≤ 192) (hr : roomB F i (max (F.ino i).txt.length (o + d.length)) = true) (hz : RZ F i (max (F.ino i).txt.length (o + d.length)) vs us)
    (hw : WZ F.n (newBlk F i (max (F.ino i).txt.length (o + d.length))) (sized (F.ino i).txt (max (F.ino i).txt.length (o + d.length))) o d d.length us u2) :
    Holds (putW (splice u2 0 (hdW F.n F.iw (newBw F i (max (F.ino i).txt.length (o + d.length))))) i (rowOf (F.ino i).kind (F.ino i).links ((max (F.ino i).txt.length (o + d.length) : Nat) : Int) (six (fun j => (newBlk F i (max (F.ino i).txt.length (o + d.length))).getD j 0)))) (writeF F i o d) := by
  obtain ⟨s, hsq⟩ : ∃ s, s = max (F.ino i).txt.length (o + d.length) := ⟨_, rfl⟩
  have hmx := hF.max i hi
  have hs2 : s ≤ 192 := by omega
  rw [← hsq] at hr hz hw ⊢
  have hok := (hF.resize hi hu hs2 hr).ok hi
  have e0 : (resizeF F i s).ino i = ⟨(F.ino i).kind, (F.ino i).links, sized (F.ino i).txt s, newBlk F i s⟩ := FS.put_same _ _ _ _
  rw [e0] at hok
  have hnl := newBlk_len hF hi hr
  have hnd := need_le hs2
  have h6 : (newBlk F i s).length ≤ 6 := by omega
  have hpl : (patch (sized (F.ino i).txt s) o d).length = s := by rw [patch_len (by rw [sized_len]; omega), sized_len]
  have hrow := row_six (x := ⟨(F.ino i).kind, (F.ino i).links, patch (sized (F.ino i).txt s) o d, newBlk F i s⟩) h6
  simp only [hpl] at hrow
  have hwf : writeF F i o d = F.put2 i ⟨(F.ino i).kind, (F.ino i).links, patch (sized (F.ino i).txt s) o d, newBlk F i s⟩ F.iw (newBw F i s) := by
    unfold writeF
    rw [← hsq]
    show (resizeF F i s).put i ⟨((resizeF F i s).ino i).kind, ((resizeF F i s).ino i).links, patch ((resizeF F i s).ino i).txt o d, ((resizeF F i s).ino i).blk⟩ (newBw F i s) = _
    rw [e0]
    unfold FS.put FS.put2 resizeF FS.put
    congr 1
    funext j
    by_cases e : j = i
    · rw [if_pos e, if_pos e]
    · rw [if_neg e, if_neg e]
      exact if_neg e
  rw [← hrow, hwf]
  refine holds_close hH hF hi h6 hF.iw.len (newBw_len hF hi hu hs2 hr) (hw.len.trans hz.len) (fun b hb => ?_) (fun k b hb => ⟨(hok.data b (List.mem_of_getElem? hb)).1, (hok.data b (List.mem_of_getElem? hb)).2.1, ?_⟩) (fun m hm hne b hb => ?_)
  · have hn := hF.n1
    rw [hw.out b (by omega) (fun hq => by have := (hok.data b hq).1; omega)]
    exact hz.low hF hi hu hs2 hr b hb
  · have := hw.data k b hb
    rw [List.take_length] at this
    exact this
  · obtain ⟨h1, h2⟩ := hz.others hF hi hu hs2 hr m hm hne b hb
    rw [hw.out b (hF.data m hm b hb).2.1 h2]
    exact h1
end Go.Proofs.Ytinjllnoonbjmaa
