/- Plain: the words that a closed file leaves are the new file system's. -/
/- Package inode: Get, Put, Left. -/
import Derived.Test.YtcjpahnlckfgoaaGreatDoorInoUV
import Derived.Test.YtcjpahnlckfgoaaGreatDoorInoX
namespace Go.Proofs.YtcjpahnlckfgoaaGreatDoor
open Go.RowKit
set_option linter.unusedVariables false

/-- One inode and both bitmaps are laid anew. -/
def FS.put2 (F : FS) (i : Nat) (x : Ino) (iw bw : List Nat) : FS := ⟨F.n, iw, bw, fun j => if j = i then x else F.ino j⟩
theorem put2_put (F : FS) (i : Nat) (x : Ino) (bw : List Nat) : F.put i x bw = F.put2 i x F.iw bw := rfl
theorem put2_resize (F : FS) (i s : Nat) : resizeF F i s = F.put2 i ⟨(F.ino i).kind, (F.ino i).links, sized (F.ino i).txt s, newBlk F i s⟩ F.iw (newBw F i s) := rfl
theorem put2_alloc (F : FS) (r : Nat) (kind : Int) : allocF F r kind = F.put2 r ⟨kind, 0, [], []⟩ (Bi.mkW F.iw r true) F.bw := rfl
theorem put2_free (F : FS) (i : Nat) : freeF F i = F.put2 i Ino.no (Bi.mkW F.iw i false) (newBw F i 0) := rfl
theorem holds_close {vs u : List Int} {F : FS} (hH : Holds vs F) (hF : FInv F) {i : Nat} (hi : i < 32) {x : Ino} (hx : x.blk.length ≤ 6) {iw bw : List Nat} (hiw : iw.length = 1) (hbw : bw.length ≤ 29) (hl : u.length = vs.length)
    (hlow : ∀ b, b < 12 → frameOf u b = frameOf vs b) (hd : ∀ k b, x.blk[k]? = some b → 12 ≤ b ∧ b < F.n ∧ frameOf u b = chunk x.txt k) (ho : ∀ m, m < 32 → m ≠ i → ∀ b ∈ (F.ino m).blk, frameOf u b = frameOf vs b) :
    Holds (putW (splice u 0 (hdW F.n iw bw)) i x.row) (F.put2 i x iw bw) := by
  have hn1 := hF.n1
  have hvl := hH.len
  have hul : u.length = F.n * 32 := hl.trans hvl
  have hhl : (hdW F.n iw bw).length = 32 := hdW_len hiw hbw
  have hrl : x.row.length = 9 := Ino.row_len hx
  have h1l : (splice u 0 (hdW F.n iw bw)).length = F.n * 32 := by rw [splice_length _ _ _ (by omega), hul]
  have hfr1 : ∀ b, b < F.n → frameOf (splice u 0 (hdW F.n iw bw)) b = if b = 0 then hdW F.n iw bw else frameOf u b := by
    intro b hb
    have := frame_splice u (hdW F.n iw bw) F.n 0 b hul (by omega) hb hhl
    rwa [Nat.zero_mul] at this
  have hib : 1 + i / 3 < F.n := by omega
  have ht : frameOf (splice u 0 (hdW F.n iw bw)) (1 + i / 3) = F.tab (i / 3) := by
    rw [hfr1 _ hib, if_neg (by omega), hlow _ (by omega)]
    exact hH.tab (i / 3) (by omega)
  have htl : (F.tab (i / 3)).length = 32 := hF.tab_len _
  have hsl : (splice (F.tab (i / 3)) (i % 3 * 9) x.row).length = 32 := by rw [splice_length _ _ _ (by omega), htl]
  have hfr2 : ∀ b, b < F.n → frameOf (putW (splice u 0 (hdW F.n iw bw)) i x.row) b = if b = 1 + i / 3 then splice (F.tab (i / 3)) (i % 3 * 9) x.row else frameOf (splice u 0 (hdW F.n iw bw)) b := by
    intro b hb
    unfold putW
    rw [ht]
    exact frame_splice _ _ F.n _ _ h1l hib hb hsl
  refine ⟨?_, ?_, fun j hj => ?_, fun m hm k b hb => ?_⟩
  · unfold putW
    rw [ht, splice_length _ _ _ (by omega), h1l]
    rfl
  · rw [hfr2 0 (by omega), if_neg (by omega), hfr1 0 (by omega), if_pos rfl]
    rfl
  · rw [hfr2 (1 + j) (by omega)]
    by_cases e : j = i / 3
    · rw [if_pos (by omega), e]
      exact (tab_put hF hi hx bw).symm
    · rw [if_neg (by omega), hfr1 _ (by omega), if_neg (by omega), hlow _ (by omega), hH.tab j hj]
      exact (tab_other F i x bw e).symm
  · have key : ∀ c, 12 ≤ c → c < F.n → frameOf (putW (splice u 0 (hdW F.n iw bw)) i x.row) c = frameOf u c := fun c h1 h2 => by
      rw [hfr2 c h2, if_neg (by omega), hfr1 c h2, if_neg (by omega)]
    by_cases e : m = i
    · have e1 : (F.put2 i x iw bw).ino m = x := if_pos e
      rw [e1] at hb ⊢
      obtain ⟨h1, h2, h3⟩ := hd k b hb
      rw [key b h1 h2]
      exact h3
    · have e1 : (F.put2 i x iw bw).ino m = F.ino m := if_neg e
      rw [e1] at hb ⊢
      have hdat := hF.data m hm b (List.mem_of_getElem? hb)
      rw [key b hdat.1 hdat.2.1, ho m hm e b (List.mem_of_getElem? hb)]
      exact hH.data m hm k b hb
theorem newBw_len {F : FS} (h : FInv F) {i s : Nat} (hi : i < 32) (hu : Bi.bt F.iw i = true) (hs : s ≤ 192) (hr : roomB F i s = true) : (newBw F i s).length ≤ 29 := by
  have := (h.resize hi hu hs hr).bw.len
  have h2 := h.n2
  have e : (resizeF F i s).bw = newBw F i s := rfl
  have e2 : (resizeF F i s).n = F.n := rfl
  rw [e, e2] at this
  omega
/-- Behind a resize no block below 12, and no other inode's, is touched. -/
theorem RZ.low {F : FS} {i s : Nat} {vs us : List Int} (h : RZ F i s vs us) (hF : FInv F) (hi : i < 32) (hu : Bi.bt F.iw i = true) (hs : s ≤ 192) (hr : roomB F i s = true) : ∀ b, b < 12 → frameOf us b = frameOf vs b := by
  intro b hb
  have hn := hF.n1
  have hok := (hF.resize hi hu hs hr).ok hi
  have e0 : (resizeF F i s).ino i = ⟨(F.ino i).kind, (F.ino i).links, sized (F.ino i).txt s, newBlk F i s⟩ := FS.put_same _ _ _ _
  rw [e0] at hok
  refine h.out b (by omega) (fun hm => ?_) (fun hm => ?_)
  · have := (hok.data b hm).1
    omega
  · have := (hF.data i hi b (List.mem_of_mem_drop hm)).1
    omega
theorem RZ.others {F : FS} {i s : Nat} {vs us : List Int} (h : RZ F i s vs us) (hF : FInv F) (hi : i < 32) (hu : Bi.bt F.iw i = true) (hs : s ≤ 192) (hr : roomB F i s = true) : ∀ m, m < 32 → m ≠ i → ∀ b ∈ (F.ino m).blk, frameOf us b = frameOf vs b ∧ b ∉ newBlk F i s := by
  intro m hm hne b hb
  have hG := hF.resize hi hu hs hr
  have e0 : (resizeF F i s).ino i = ⟨(F.ino i).kind, (F.ino i).links, sized (F.ino i).txt s, newBlk F i s⟩ := FS.put_same _ _ _ _
  have e1 : (resizeF F i s).ino m = F.ino m := FS.put_other _ _ _ _ hne
  have hdat := hF.data m hm b hb
  have hnb : b ∉ newBlk F i s := fun hq => hne (hG.one m i hm hi b (by rw [e1]; exact hb) (by rw [e0]; exact hq))
  exact ⟨h.out b hdat.2.1 hnb (fun hq => hne (hF.one m i hm hi b hb (List.mem_of_mem_drop hq))), hnb⟩
theorem resize_holds {F : FS} (hF : FInv F) {vs us : List Int} (hH : Holds vs F) {i s : Nat} (hi : i < 32) (hu : Bi.bt F.iw i = true) (hs : s ≤ 192) (hr : roomB F i s = true) (hz : RZ F i s vs us) :
    Holds (putW (splice us 0 (hdW F.n F.iw (newBw F i s))) i (rowOf (F.ino i).kind (F.ino i).links (s : Int) (six (fun j => (newBlk F i s).getD j 0)))) (resizeF F i s) := by
  have hok := (hF.resize hi hu hs hr).ok hi
  have e0 : (resizeF F i s).ino i = ⟨(F.ino i).kind, (F.ino i).links, sized (F.ino i).txt s, newBlk F i s⟩ := FS.put_same _ _ _ _
  rw [e0] at hok
  have hnl := newBlk_len hF hi hr
  have hnd := need_le hs
  have h6 : (newBlk F i s).length ≤ 6 := by omega
  have hrow := row_six (x := ⟨(F.ino i).kind, (F.ino i).links, sized (F.ino i).txt s, newBlk F i s⟩) h6
  simp only [sized_len] at hrow
  rw [← hrow, put2_resize]
  exact holds_close hH hF hi h6 hF.iw.len (newBw_len hF hi hu hs hr) hz.len (hz.low hF hi hu hs hr) (fun k b hb => ⟨(hok.data b (List.mem_of_getElem? hb)).1, (hok.data b (List.mem_of_getElem? hb)).2.1, hz.data k b hb⟩) (fun m hm hne b hb => (hz.others hF hi hu hs hr m hm hne b hb).1)
theorem write_holds {F : FS} (hF : FInv F) {vs us u2 : List Int} (hH : Holds vs F) {i o : Nat} {d : List Int} (hi : i < 32) (hu : Bi.bt F.iw i = true) (hs : o + d.length ≤ 192) (hr : roomB F i (max (F.ino i).txt.length (o + d.length)) = true) (hz : RZ F i (max (F.ino i).txt.length (o + d.length)) vs us)
    (hw : WZ F.n (newBlk F i (max (F.ino i).txt.length (o + d.length))) (sized (F.ino i).txt (max (F.ino i).txt.length (o + d.length))) o d d.length us u2) :
    Holds (putW (splice u2 0 (hdW F.n F.iw (newBw F i (max (F.ino i).txt.length (o + d.length))))) i (rowOf (F.ino i).kind (F.ino i).links ((max (F.ino i).txt.length (o + d.length) : Nat) : Int) (six (fun j => (newBlk F i (max (F.ino i).txt.length (o + d.length))).getD j 0)))) (writeF F i o d) := by
  obtain ⟨s, hsq⟩ : ∃ s, s = max (F.ino i).txt.length (o + d.length) := ⟨_, rfl⟩
  have hmx := hF.max i hi
  have hs2 : s ≤ 192 := by omega
  rw [← hsq] at hr hz hw ⊢
  have hok := (hF.resize hi hu hs2 hr).ok hi
  have e0 : (resizeF F i s).ino i = ⟨(F.ino i).kind, (F.ino i).links, sized (F.ino i).txt s, newBlk F i s⟩ := FS.put_same _ _ _ _
  rw [e0] at hok
  have hnl := newBlk_len hF hi hr
  have hnd := need_le hs2
  have h6 : (newBlk F i s).length ≤ 6 := by omega
  have hpl : (patch (sized (F.ino i).txt s) o d).length = s := by rw [patch_len (by rw [sized_len]; omega), sized_len]
  have hrow := row_six (x := ⟨(F.ino i).kind, (F.ino i).links, patch (sized (F.ino i).txt s) o d, newBlk F i s⟩) h6
  simp only [hpl] at hrow
  have hwf : writeF F i o d = F.put2 i ⟨(F.ino i).kind, (F.ino i).links, patch (sized (F.ino i).txt s) o d, newBlk F i s⟩ F.iw (newBw F i s) := by
    unfold writeF
    rw [← hsq]
    show (resizeF F i s).put i ⟨((resizeF F i s).ino i).kind, ((resizeF F i s).ino i).links, patch ((resizeF F i s).ino i).txt o d, ((resizeF F i s).ino i).blk⟩ (newBw F i s) = _
    rw [e0]
    unfold FS.put FS.put2 resizeF FS.put
    congr 1
    funext j
    by_cases e : j = i
    · rw [if_pos e, if_pos e]
    · rw [if_neg e, if_neg e]
      exact if_neg e
  rw [← hrow, hwf]
  refine holds_close hH hF hi h6 hF.iw.len (newBw_len hF hi hu hs2 hr) (hw.len.trans hz.len) (fun b hb => ?_) (fun k b hb => ⟨(hok.data b (List.mem_of_getElem? hb)).1, (hok.data b (List.mem_of_getElem? hb)).2.1, ?_⟩) (fun m hm hne b hb => ?_)
  · have hn := hF.n1
    rw [hw.out b (by omega) (fun hq => by have := (hok.data b hq).1; omega)]
    exact hz.low hF hi hu hs2 hr b hb
  · have := hw.data k b hb
    rw [List.take_length] at this
    exact this
  · obtain ⟨h1, h2⟩ := hz.others hF hi hu hs2 hr m hm hne b hb
    rw [hw.out b (hF.data m hm b hb).2.1 h2]
    exact h1
end Go.Proofs.YtcjpahnlckfgoaaGreatDoor

namespace Go.Proofs.YtcjpahnlckfgoaaGreatDoor
open Go.RowKit
set_option linter.all false

section
variable {w w' : World} {n m : Nat} {B : Sto} {vs : List Int} {F : FS}
theorem bg_dt {base : Nat} {w1 : World} (h : DT base B w w1) (hb : w.heap.size ≤ base) : BG B w w1 := ⟨h.os, h.tape, h.output, h.size, fun k hk hs _ => h.block k hk hs (Or.inl (by omega))⟩
theorem bg_start {base : Nat} {W1 w2 : World} (h1 : Below w.heap.size w W1) (hT : DT base B W1 w2) (hb : w.heap.size ≤ base) : BG B w w2 :=
  ⟨hT.os.trans h1.os, hT.tape.trans h1.tape, hT.output.trans h1.output, Nat.le_trans h1.size hT.size, fun k hk hs _ => (hT.block k (Nat.lt_of_lt_of_le hk h1.size) (hs.elim Or.inl (fun x => Or.inr (fun y => x ((isSt_same (h1.block k hk)).1 y)))) (Or.inl (by omega))).trans (h1.block k hk)⟩
theorem bg_fr {X : FX} {w1 : World} (h : Fr X w w1) (hb : w.heap.size ≤ X.base) (hB : X.B = B) : BG B w w1 := ⟨h.os, h.tape, h.output, h.size, fun k hk hs _ => h.block k hk (by rw [hB]; exact hs) (by omega)⟩
theorem bg_new {p : Nat} {w1 w2 : World} (h : BG B w w1) (hu : Upd p w1 w2) (hp : w.heap.size ≤ p) : BG B w w2 := ⟨hu.os.trans h.os, hu.tape.trans h.tape, hu.output.trans h.output, Nat.le_trans h.size hu.size, fun k hk hs hn => (hu.block k (Nat.lt_of_lt_of_le hk h.size) (by omega)).trans (h.block k hk hs hn)⟩
set_option maxHeartbeats 1000000 in
theorem get_out {B : Sto} (hS : SOk B) (i : Int) (hi : isI i = false) (w : World) :
    Calls Tryz.prog 29 #[sto B, .int .i64 i] w fun e w' => e = .returned (.tuple #[.agg zi, .int .i64 101]) ∧ Below w.heap.size w w' := by
  have hI := fun W => isInode_at i W
  rw [hi] at hI
  have hni := sto_nil hS
  clear hi
  go_enter Tryz.func29, Tryz.ntmps29
  go_wp2_with fail
  refine (hI _).mono ?_
  rintro e w1 ⟨rfl, hw⟩
  rw [hw]
  clear hw w1 hI
  go_wp2
  refine bodyPost_ret (v := .tuple #[.agg zi, .int .i64 101]) ?_ rfl ⟨rfl, ?_⟩
  · rw [results_cell_tmp rfl, ← lit_zi]
    go_simp
  · exact below_alloc _ _
set_option maxHeartbeats 2000000 in
set_option maxRecDepth 100000 in
theorem get_in (h : Dk w B n vs m) (hm : m ≤ 900000000000) (hn : 13 ≤ n) (hn2 : n ≤ 1024) (i : Nat) (hi : i < 32) (hf : ∀ x ∈ rowW vs i, Fit x) :
    Calls Tryz.prog 29 #[sto B, .int .i64 (i : Int)] w fun e w' => e = .returned (.tuple #[.agg (irow (rowW vs i)), .int .i64 0]) ∧ Dk w' B n vs (m + 3000) ∧ BG B w w' := by
  have hI := fun W => isInode_at (i : Int) W
  rw [isI_nat hi] at hI
  have hni := sto_nil h.ok
  have hlen := h.len
  obtain ⟨W0, hW0⟩ : ∃ W, W = w.alloc (.cells zi 63) := ⟨_, rfl⟩
  have hb0 : Below w.heap.size w W0 := by rw [hW0]; exact below_alloc _ _
  have hs0 : W0.heap.size = w.heap.size + 1 := by rw [hW0]; simp
  have hr0 : W0.heap[w.heap.size]? = some (.cells zi 63) := by rw [hW0]; exact heap_alloc_new _ _
  have hst := Dr.start (h.below hb0) hn2
  obtain ⟨W1, hW1⟩ : ∃ W, W = W0.alloc (.cells #[sto B, .slice none 0 0, .int .i64 0] 102) := ⟨_, rfl⟩
  have hb1 : Below W0.heap.size W0 W1 := by rw [hW1]; exact below_alloc _ _
  rw [← hW1] at hst
  have hG := dinode_at hst hm hn hb1.size i hi hf
  have HR0 : Hid (W1.heap[w.heap.size]? = some (.cells zi 63)) := (hb1.block _ (lt_of_heap hr0)).trans hr0
  have HW0 : Hid _ := hW0
  have HW1 : Hid _ := hW1
  have HB1 : Hid (Below w.heap.size w W1) := hb0.trans (hb1.mono hb0.size)
  have HS0 : Hid (W0.heap.size = w.heap.size + 1) := hs0
  have HS1 : Hid (W1.heap.size = w.heap.size + 2) := by rw [hW1]; show _ = _; simp; omega
  have HRl : Hid ((rowW vs i).length = 9) := rowW_len hlen (by omega)
  have hz := lit_zi
  clear h hb0 hs0 hr0 hst hb1 hW0 hW1 hf hlen
  go_enter Tryz.func29, Tryz.ntmps29
  go_wp2_with fail
  rw [← HW0.out]
  refine (hI _).mono ?_
  rintro e w1 ⟨rfl, hw⟩
  rw [hw]
  clear hw w1 hI
  go_wp2_with fail
  rw [← HW1.out]
  refine hG.mono ?_
  rintro e w2 ⟨rfl, hdr, hdt⟩
  obtain ⟨sv, e0, e1, e2⟩ := hdr.cells
  have HD : Hid (Dr w2 W0.heap.size W0.heap.size B n vs vs m) := hdr
  have HT : Hid (DT W0.heap.size B W1 w2) := hdt
  obtain ⟨R, hR⟩ : ∃ R, R = irow (rowW vs i) := ⟨_, rfl⟩
  have HRs : Hid (R.size = 9) := by rw [hR]; show _ = _; rw [irow_size]; exact HRl.out
  have HRo : Hid (R.all (·.oneCell') = true) := by rw [hR]; exact irow_one _
  have HRq : Hid (R = irow (rowW vs i)) := hR
  have HR2 : Hid (w2.heap[w.heap.size]? = some (.cells zi 63)) := hdt.other HR0.out (by decide) (by decide)
  rw [← hR]
  obtain ⟨W3, hW3⟩ : ∃ W, W = w2.alloc (.cells R 63) := ⟨_, rfl⟩
  have hb3 : Below w2.heap.size w2 W3 := by rw [hW3]; exact below_alloc _ _
  have hbl : W0.heap.size < w2.heap.size := by have := hdt.size; have := HS1.out; have := HS0.out; omega
  have HW3 : Hid _ := hW3
  have HB3 : Hid (Below w2.heap.size w2 W3) := hb3
  have HP3 : Hid (W3.heap[w2.heap.size]? = some (.cells R 63)) := by rw [hW3]; exact heap_alloc_new _ _
  have e23 : W3.cell? ⟨W0.heap.size, 2, none⟩ = some (.int .i64 0) := (hb3.cell hbl).trans e2
  have HR3 : Hid (W3.heap[w.heap.size]? = some (.cells zi 63)) := (hb3.block _ (lt_of_heap HR2.out)).trans HR2.out
  clear hG hdr hdt e0 e1 e2 hR hW3 hb3
  go_wp2_with (first
    | (refine wpList_store_row rfl 63 _ _ rfl w2.heap.size R rfl rfl 63 zi (heap_alloc_new _ _) (by rw [HRs.out]; exact inoSize) (by rw [HRs.out]; rfl) HRo.out ?_; rw [setRow_alloc_new])
    | go_in)
  rw [← HW3.out]
  clear HW3
  obtain ⟨p, hp⟩ : ∃ p, p = w2.heap.size := ⟨_, rfl⟩
  have Hp : Hid (p = w2.heap.size) := hp
  obtain ⟨r0, hr0⟩ : ∃ r, r = w.heap.size := ⟨_, rfl⟩
  have Hr0 : Hid (r0 = w.heap.size) := hr0
  obtain ⟨bd, hbd⟩ : ∃ r, r = W0.heap.size := ⟨_, rfl⟩
  have Hbd : Hid (bd = W0.heap.size) := hbd
  rw [← hbd] at e23
  rw [← hp] at HP3
  rw [← hr0] at HR3
  rw [← hp, ← hr0, ← hbd]
  obtain ⟨Rl, hRl⟩ : ∃ l, l = R.toList := ⟨_, rfl⟩
  have hRr : W3.rangeAt p 0 Rl := fun j v hv => by rw [Nat.zero_add, cell_of_heap HP3.out]; rw [hRl] at hv; simpa using hv
  have HRls : Hid (Rl.length = 9) := by rw [hRl]; show _ = _; rw [Array.length_toList]; exact HRs.out
  have HRlq : Hid (Rl.toArray = R) := by rw [hRl]; rfl
  have hs : W3.cell? ⟨bd, 2, none⟩ = some (.int .i64 0) ∧ W3.rangeAt p 0 Rl := ⟨e23, hRr⟩
  have HNe : Hid (r0 ≠ p ∧ r0 ≠ bd) := by have := Hp.out; have := Hr0.out; have := HS0.out; have := Hbd.out; show _ ∧ _; omega
  have HN4 : Hid ((W3.setRow r0 R).heap[r0]? = some (.cells R 63)) := setRow_heap W3 r0 _ _ _ _ HR3.out
  have hs4 : (W3.setRow r0 R).cell? ⟨bd, 2, none⟩ = some (.int .i64 0) ∧ (W3.setRow r0 R).rangeAt p 0 Rl := ⟨(World.cell?_of_block (setRow_other _ _ _ _ (Ne.symm HNe.out.2))).trans e23, fun j v hv => (World.cell?_of_block (setRow_other _ _ _ _ (Ne.symm HNe.out.1))).trans (hRr j v hv)⟩
  clear hp hr0 hbd hRl hRr e23 hz
  refine wp_region_held_drew (S := fun w' => w'.cell? ⟨bd, 2, none⟩ = some (.int .i64 0) ∧ w'.rangeAt p 0 Rl) (by kernel_rfl) hs (fun hHeld => ?_)
  refine wpAnyH_take (i := 0) (v := .agg (Rl).toArray) rfl (by kernel_rfl) (by kernel_rfl) (by kernel_rfl) (fun _ _ _ h => h) (yieldsIf_load_mid (by kernel_rfl) 63 _ rfl p 0 rfl (Rl) _ (fun w h => h.2) Tryz.underlying63 rfl (by rw [HRls.out]; exact inoSize)) (by assumption) ?_
  (try simp only [Act.put, List.getElem_toArray, List.getElem_cons_zero, List.setIfInBounds_toArray, List.set_cons_zero, List.set_cons_succ])
  refine wpAnyH_take (i := 1) (v := ?_) rfl (by kernel_rfl) (by kernel_rfl) (by kernel_rfl) (fun _ _ _ h => h) (Or.inl ⟨by kernel_rfl, ?_⟩) (by assumption) ?_
  rotate_left
  · (intro w hSw; (try dsimp only at hSw); go_simp) <;> with_reducible rfl
  (try simp only [Act.put, List.getElem_toArray, List.getElem_cons_zero, List.getElem_cons_succ, List.setIfInBounds_toArray, List.set_cons_zero, List.set_cons_succ])
  refine wpAnyH_take (i := 2) (v := ?_) rfl (by kernel_rfl) (by kernel_rfl) (by kernel_rfl) (fun _ _ _ h => h) (Or.inl ⟨by kernel_rfl, ?_⟩) (by assumption) ?_
  rotate_left
  · (intro w hSw; (try dsimp only at hSw); go_simp) <;> with_reducible rfl
  (try simp only [Act.put, List.getElem_toArray, List.getElem_cons_zero, List.getElem_cons_succ, List.setIfInBounds_toArray, List.set_cons_zero, List.set_cons_succ])
  refine wpAnyH_take (i := 3) (v := ?_) rfl (by kernel_rfl) (by kernel_rfl) (by kernel_rfl) (fun _ _ _ h => h) (Or.inl ⟨by kernel_rfl, ?_⟩) (by assumption) ?_
  rotate_left
  · (intro w hSw; (try dsimp only at hSw); go_simp) <;> with_reducible rfl
  (try simp only [Act.put, List.getElem_toArray, List.getElem_cons_zero, List.getElem_cons_succ, List.setIfInBounds_toArray, List.set_cons_zero, List.set_cons_succ])
  refine wpAnyH_take (i := 4) (v := ?_) rfl (by kernel_rfl) (by kernel_rfl) (by kernel_rfl) (fun _ _ _ h => h) (Or.inl ⟨by kernel_rfl, ?_⟩) (by assumption) ?_
  rotate_left
  · (intro w hSw; (try dsimp only at hSw); go_simp) <;> with_reducible rfl
  (try simp only [Act.put, List.getElem_toArray, List.getElem_cons_zero, List.getElem_cons_succ, List.setIfInBounds_toArray, List.set_cons_zero, List.set_cons_succ])
  refine wpAnyH_ready (rs := [5]) (by kernel_rfl) (by simp) ?_
  refine AllReadyH.cons rfl (fun K hK => ?_) AllReadyH.nil
  rw [HRlq.out]
  refine step_store_row rfl 63 _ _ rfl r0 R rfl rfl 63 zi HR3.out (by rw [HRs.out]; exact inoSize) (by rw [HRs.out]; rfl) HRo.out ?_
  refine hK.out _ _ hs4 (fun hHeld => ?_)
  clear hK K
  (try simp only [Act.put, List.getElem_toArray, List.getElem_cons_zero, List.getElem_cons_succ, List.setIfInBounds_toArray, List.set_cons_zero, List.set_cons_succ])
  refine wpAnyH_take (i := 6) (v := ?_) rfl (by kernel_rfl) (by kernel_rfl) (by kernel_rfl) (fun _ _ _ h => h) (Or.inl ⟨by kernel_rfl, ?_⟩) (by assumption) ?_
  rotate_left
  · (intro w hSw; (try dsimp only at hSw); go_simp) <;> with_reducible rfl
  (try simp only [Act.put, List.getElem_toArray, List.getElem_cons_zero, List.getElem_cons_succ, List.setIfInBounds_toArray, List.set_cons_zero, List.set_cons_succ])
  refine wpAnyH_done (by kernel_rfl) ?_ _
  clear hs hs4
  go_wp2
  obtain ⟨W5, hW5⟩ : ∃ W, W = (W3.setRow r0 R).drew := ⟨_, rfl⟩
  have hD3 := HD.out.below HB3.out
  have hD4 : Dr (W3.setRow r0 R) W0.heap.size W0.heap.size B n vs vs m := by
    obtain ⟨sv, S, hd⟩ := hD3
    have hr := Hr0.out
    have h0 := HS0.out
    exact ⟨sv, S, hd.keep (fun k hk hi => setRow_other _ _ _ _ (by omega)) (fun k hk => setRow_other _ _ _ _ (fun e => not_isSt HR3.out (by decide) (by rw [← e]; exact hk)))⟩
  have hk := hD4.disk
  refine bodyPost_ret (v := .tuple #[.agg R, .int .i64 0]) ?_ rfl ⟨by rw [HRq.out], (Dk.keep (w' := W3.drew.setRow r0 R) hk (fun _ _ => rfl)).mono (by omega), ?_⟩
  · rw [results_cell_tmp rfl]
    show ((asAddr (.pointer (some ⟨r0, 0, none⟩))).run _ _).andThen _ = _
    simp only [asAddr, Sem.run_pure, Result.andThen_ok]
    rw [run_loadVar_row _ r0 _ _ R (0, 0) _ (show (W3.drew.setRow r0 R).heap[r0]? = _ from HN4.out) Tryz.underlying63 rfl (by rw [HRs.out]; exact inoSize)]
    rfl
  · have hT := HT.out
    have a1 : BG B w w2 := bg_start HB1.out hT (by rw [HS0.out]; omega)
    have a2 := bg_new (SU.trans a1 (SU.of_below HB3.out)) (Upd.setRow r0 W3 R) (by rw [Hr0.out]; exact Nat.le_refl _)
    exact ⟨a2.os, a2.tape, a2.output, a2.size, a2.block⟩
end
end Go.Proofs.YtcjpahnlckfgoaaGreatDoor
