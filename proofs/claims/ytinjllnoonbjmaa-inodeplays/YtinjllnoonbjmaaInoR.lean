/- Plain: the words behind a resize are the new file system's; behind a write; behind alloc and free. Names no program. -/
import Derived.Test.YtinjllnoonbjmaaInoP
namespace Go.Proofs.Ytinjllnoonbjmaa
open Go.RowKit
set_option linter.unusedVariables false

theorem sized_get (t : List Int) (s p : Nat) : (sized t s).getD p 0 = if p < min s t.length then t.getD p 0 else 0 := by
  unfold sized
  rw [app_get, List.length_take]
  split
  · rename_i h
    simp only [List.getD_eq_getElem?_getD, List.getElem?_take]
    rw [if_pos (by omega)]
  · simp only [List.getD_eq_getElem?_getD, List.getElem?_replicate]
    split <;> rfl
/-- The words behind clearFrom. -/
structure CL (n f nd : Nat) (bl : List Nat) (ws us : List Int) : Prop where
  len : us.length = ws.length
  fr : ∀ j, j < nd → f / 32 ≤ j → frameOf us (bl.getD j 0) = cleared f j (frameOf ws (bl.getD j 0))
  out : ∀ b, b < n → (∀ j, j < nd → f / 32 ≤ j → bl.getD j 0 ≠ b) → frameOf us b = frameOf ws b
/-- The words behind a resize. -/
structure RZ (F : FS) (i s : Nat) (vs us : List Int) : Prop where
  len : us.length = vs.length
  data : ∀ k b, (newBlk F i s)[k]? = some b → frameOf us b = chunk (sized (F.ino i).txt s) k
  out : ∀ b, b < F.n → b ∉ newBlk F i s → b ∉ (F.ino i).blk.drop (need s) → frameOf us b = frameOf vs b
theorem zero_get (j : Nat) : (List.replicate 32 (0 : Int)).getD j 0 = 0 := by
  simp only [List.getD_eq_getElem?_getD, List.getElem?_replicate]
  split <;> rfl
theorem newBlk_len {F : FS} (h : FInv F) {i s : Nat} (hi : i < 32) (hr : roomB F i s = true) : (newBlk F i s).length = need s := by
  obtain ⟨g1, _⟩ := grow_ok h.bw (of_decide_eq_true hr)
  unfold newBlk
  rw [List.length_append, g1, List.length_take]
  omega
theorem rz_of {F : FS} (hF : FInv F) {vs u1 us : List Int} (hH : Holds vs F) {i s : Nat} (hi : i < 32) (hu : Bi.bt F.iw i = true) (hs : s ≤ 192) (hr : roomB F i s = true) {Z : List Nat}
    (hZ : ∀ b, b ∈ Z ↔ (b ∈ (grow F.n F.bw (need s - (F.ino i).blk.length)).1 ∨ b ∈ (F.ino i).blk.drop (need s))) (h1 : ZW F.n vs Z u1)
    (h2 : CL F.n (min s (F.ino i).txt.length) (need s) (six (fun j => (newBlk F i s).getD j 0)) u1 us) : RZ F i s vs us := by
  have hG := hF.resize hi hu hs hr
  have hok := hG.ok hi
  have e0 : (resizeF F i s).ino i = ⟨(F.ino i).kind, (F.ino i).links, sized (F.ino i).txt s, newBlk F i s⟩ := FS.put_same _ _ _ _
  rw [e0] at hok
  have hnl := newBlk_len hF hi hr
  have hnd6 := need_le hs
  have hlen := hF.len i hi
  have hmax := hF.max i hi
  obtain ⟨g1, g2, g3, g4, g5, g6⟩ := grow_ok hF.bw (of_decide_eq_true hr)
  have hget : ∀ j, j < need s → (six (fun j => (newBlk F i s).getD j 0)).getD j 0 = (newBlk F i s).getD j 0 := fun j hj => six_get _ (by omega)
  have hinj : ∀ j k b, (newBlk F i s)[j]? = some b → (newBlk F i s)[k]? = some b → j = k := fun j k b h1 h2 => by
    have hj := (List.getElem?_eq_some_iff.1 h1).1
    exact (List.getElem?_inj hj hok.nd).1 (h1.trans h2.symm)
  refine ⟨h2.len.trans h1.len, fun k b hkb => ?_, fun b hb hn hd => ?_⟩
  · have hk : k < need s := by have := (List.getElem?_eq_some_iff.1 hkb).1; omega
    have hbd := hok.data b (List.mem_of_getElem? hkb)
    have hbk : (newBlk F i s).getD k 0 = b := by rw [List.getD_eq_getElem?_getD, hkb]; rfl
    have hf1 : frameOf us b = if min s (F.ino i).txt.length / 32 ≤ k then cleared (min s (F.ino i).txt.length) k (frameOf u1 b) else frameOf u1 b := by
      split
      · rename_i q
        have := h2.fr k hk q
        rwa [hget k hk, hbk] at this
      · rename_i q
        refine h2.out b hbd.2.1 (fun j hj q1 e => ?_)
        rw [hget j hj] at e
        have hjn : j < (newBlk F i s).length := by omega
        have e1 : (newBlk F i s)[j]? = some b := by
          rw [List.getD_eq_getElem?_getD, List.getElem?_eq_getElem hjn] at e
          rw [List.getElem?_eq_getElem hjn]
          simpa using e
        have := hinj j k b e1 hkb
        omega
    have hvl : vs.length = F.n * 32 := hH.len
    have hfl1 : (frameOf u1 b).length = 32 := frameOf_length u1 b F.n (h1.len.trans hvl) hbd.2.1
    have hfl : (frameOf us b).length = 32 := frameOf_length us b F.n ((h2.len.trans h1.len).trans hvl) hbd.2.1
    have hfu : ∀ j, j < 32 → (frameOf us b).getD j 0 = if 32 * k + j < min s (F.ino i).txt.length then (frameOf u1 b).getD j 0 else (if min s (F.ino i).txt.length / 32 ≤ k then 0 else (frameOf u1 b).getD j 0) := by
      intro j hj
      rw [hf1]
      by_cases q : min s (F.ino i).txt.length / 32 ≤ k
      · rw [if_pos q, cleared_get hfl1, if_pos q]
      · rw [if_neg q, if_neg q]
        split <;> rfl
    refine list_ext_getD _ _ (by rw [hfl, chunk_len]) fun j hj => ?_
    rw [hfl] at hj
    rw [hfu j hj, chunk_get _ _ _ hj, sized_get]
    by_cases q : 32 * k + j < min s (F.ino i).txt.length
    · rw [if_pos q, if_pos q, h1.fr b hbd.2.1]
      have hkl : k < (F.ino i).blk.length := by rw [hlen]; unfold need; omega
      have hb2 : (F.ino i).blk[k]? = some b := by
        have : (newBlk F i s)[k]? = (F.ino i).blk[k]? := by
          unfold newBlk
          rw [List.getElem?_append_left (by rw [List.length_take]; omega), List.getElem?_take, if_pos hk]
        rw [← this]
        exact hkb
      have hnz : b ∉ Z := by
        rw [hZ]
        rintro (hz | hz)
        · have := (g3 b hz).2.1
          rw [(hF.data i hi b (List.mem_of_getElem? hb2)).2.2] at this
          cases this
        · have hnd := hF.nd i hi
          rw [← List.take_append_drop (need s) (F.ino i).blk, List.nodup_append] at hnd
          refine hnd.2.2 b (List.mem_of_getElem? (i := k) ?_) b hz rfl
          rw [List.getElem?_take, if_pos hk]
          exact hb2
      rw [if_neg hnz, hH.data i hi k b hb2, chunk_get _ _ _ hj]
    · rw [if_neg q, if_neg q]
      by_cases q1 : min s (F.ino i).txt.length / 32 ≤ k
      · rw [if_pos q1]
      · omega
  · rw [h2.out b hb (fun j hj q1 e => ?_), h1.fr b hb, if_neg (fun hz => ?_)]
    · rcases (hZ b).1 hz with hz | hz
      · exact hn (List.mem_append_right _ hz)
      · exact hd hz
    · rw [hget j hj] at e
      have hjn : j < (newBlk F i s).length := by omega
      rw [List.getD_eq_getElem?_getD, List.getElem?_eq_getElem hjn] at e
      exact hn (by rw [← e]; exact List.getElem_mem hjn)
end Go.Proofs.Ytinjllnoonbjmaa
