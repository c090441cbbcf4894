/- Package inode: Alloc. -/
/- Package inode: Resize. -/
/- Package inode: Read. -/
/- Package inode: Write. -/
import Derived.Test.YtcjpahnlckfgoaaGreatDoorApAF
namespace Go.Proofs.YtcjpahnlckfgoaaGreatDoor
open Go.RowKit
set_option linter.unusedVariables false

section
variable {w w' : World} {m : Nat} {B : Sto} {F : FS}
theorem bg_then {base : Nat} {w1 w2 : World} (h : BG B w w1) (hT : DT base B w1 w2) (hb : w.heap.size ≤ base) : BG B w w2 :=
  ⟨hT.os.trans h.os, hT.tape.trans h.tape, hT.output.trans h.output, Nat.le_trans h.size hT.size, fun k hk hs hn => (hT.block k (Nat.lt_of_lt_of_le hk h.size) (hs.elim Or.inl (fun x => Or.inr (fun y => x ((isSt_same (h.block k hk hs hn)).1 y)))) (Or.inl (by omega))).trans (h.block k hk hs hn)⟩
set_option maxHeartbeats 4000000 in
set_option maxRecDepth 100000 in
theorem alloc_yes (h : Fs w B F m) (hm : m ≤ 900000000000) (kind : Int) (hk : Fit kind) (r : Nat) (hr32 : r < 32) (hr : Bi.Low (Bi.bt F.iw) 32 (r : Int)) (hfree : Bi.bt F.iw r = false) :
    Calls Tryz.prog 165 #[sto B, .int .i64 kind] w fun e w' => e = .returned (.tuple #[.int .i64 (r : Int), .int .i64 0]) ∧ Fs w' B (allocF F r kind) (m + 3000) ∧ BG B w w' := by
  obtain ⟨vs, h⟩ := h
  have HI : Hid (Holds vs F ∧ FInv F) := ⟨h.hold, h.inv⟩
  have hni := sto_nil h.ok
  have hn1 := h.inv.n1
  have hn2 := h.inv.n2
  have hd := h.disk
  have hst := Dr.start hd hn2
  obtain ⟨W1, hW1⟩ : ∃ W, W = w.alloc (.cells #[sto B, .slice none 0 0, .int .i64 0] 102) := ⟨_, rfl⟩
  have hb1 : Below w.heap.size w W1 := by rw [hW1]; exact below_alloc _ _
  rw [← hW1] at hst
  have hH := dhead_at hst hm hb1.size hn1 hn2 h.inv.iw h.inv.bw h.inv.low (by rw [h.hold.head]; rfl)
  have HW1 : Hid _ := hW1
  have HB1 : Hid (Below w.heap.size w W1) := hb1
  have HLow : Hid (Bi.Low (Bi.bt F.iw) 32 (r : Int)) := hr
  have HK : Hid (Fit kind) := hk
  have HFr : Hid (Bi.bt F.iw r = false) := hfree
  clear h hd hst hW1 hb1 hr hk hfree
  go_enter Tryz.func165, Tryz.ntmps165
  go_wp2_with fail
  rw [← HW1.out]
  refine hH.mono ?_
  rintro e w1 ⟨hi, hb, rfl, ⟨gi, gb, hbm⟩, hdr, hdt⟩
  obtain ⟨W2, hW2⟩ : ∃ W, W = w1.alloc (.cells #[ptr hi, ptr hb] 111) := ⟨_, rfl⟩
  have hb2 : Below w1.heap.size w1 W2 := by rw [hW2]; exact below_alloc _ _
  have HW2 : Hid _ := hW2
  have hp2 : W2.heap[w1.heap.size]? = some (.cells #[ptr hi, ptr hb] 111) := by rw [hW2]; exact heap_alloc_new _ _
  have hbm2 := hbm.below hb2
  have HBm : Hid (Bms W2 W1.heap.size hi gi hb gb F.n F.iw F.bw) := hbm2
  have hT := Bi.take_at hi gi 32 F.iw r W2 hbm2.bi HLow.out
  have htk : Bi.takeW F.iw (r : Int) = Bi.mkW F.iw r true := by simp [Bi.takeW]
  rw [htk] at hT
  have HD2 : Hid (Dr W2 w.heap.size w.heap.size B F.n vs vs m) := hdr.below hb2
  have HT2 : Hid (DT w.heap.size B W1 W2) := hdt.trans (DT.of_below hb2)
  have HP2 : Hid (W2.heap[w1.heap.size]? = some (.cells #[ptr hi, ptr hb] 111)) := hp2
  have Hs1 : Hid (w.heap.size < W1.heap.size) := by rw [HW1.out]; show _ < _; simp
  have HSz : Hid (W1.heap.size ≤ w1.heap.size) := hdt.size
  clear hH hbm hdr hdt hW2 hb2 hp2 htk hbm2
  go_wp2_with fail
  rw [← HW2.out]
  refine hT.mono ?_
  rintro e w3 ⟨rfl, hB3, hu3⟩
  have hgi := HBm.out.lo
  have hbm3 : Bms w3 W1.heap.size hi gi hb gb F.n (Bi.mkW F.iw r true) F.bw := by
    have a := HBm.out
    have hne : hb ≠ gi := by
      intro e
      have h1 := a.bb.head
      rw [e, a.bi.row] at h1
      simp only [Option.some.injEq, Obj.cells.injEq] at h1
      exact absurd h1.2.1 (by decide)
    exact ⟨hB3, a.bb.keep (hu3.block _ a.bb.ltb hne) (hu3.block _ a.bb.ltg (Ne.symm a.ne)), a.lo, a.ne⟩
  have hd3 : Dr w3 w.heap.size w.heap.size B F.n vs vs m := HD2.out.other hu3 (by have := Hs1.out; omega) (not_isD HBm.out.bi.row (by decide))
  have hp3 : w3.heap[w1.heap.size]? = some (.cells #[ptr hi, ptr hb] 111) := by
    rw [hu3.block _ (lt_of_heap HP2.out) (fun e => by
      have h1 := HP2.out
      rw [e, HBm.out.bi.row] at h1
      simp only [Option.some.injEq, Obj.cells.injEq] at h1
      exact absurd h1.2.1 (by decide))]
    exact HP2.out
  have HU3 : Hid (BG B w w3) := by
    refine bg_new (bg_start HB1.out HT2.out (Nat.le_refl _)) hu3 (by have := Hs1.out; omega)
  have hS := dsetHead_at hd3 hm (by omega) ⟨gi, gb, hbm3⟩
  have c0 : w3.cell? ⟨w1.heap.size, 0, none⟩ = some (ptr hi) := by rw [cell_of_heap hp3]; rfl
  have c1 : w3.cell? ⟨w1.heap.size, 1, none⟩ = some (ptr hb) := by rw [cell_of_heap hp3]; rfl
  have hri : ¬ (r : Int) < 0 := by omega
  have Hs3 : Hid (w.heap.size ≤ w3.heap.size) := HU3.out.size
  clear hT hB3 hu3 hgi hbm3 hd3 hp3
  go_wp2_with fail
  refine hS.mono ?_
  rintro e w4 ⟨rfl, hd4, ht4⟩
  have hxs : ∀ x ∈ [kind, 0, 0, 0, 0, 0, 0, 0, 0], Fit x := by
    intro x hx
    simp only [List.mem_cons, List.not_mem_nil, or_false] at hx
    rcases hx with rfl | rfl | rfl | rfl | rfl | rfl | rfl | rfl | rfl
    · exact HK.out
    all_goals exact ⟨by omega, by omega⟩
  have hI := dsetInode_at hd4 hm hn1 (by have := ht4.size; have := Hs3.out; omega) r hr32 [kind, 0, 0, 0, 0, 0, 0, 0, 0] rfl hxs
  have hirow : irow [kind, 0, 0, 0, 0, 0, 0, 0, 0] = #[.int .i64 kind, .int .i64 0, .int .i64 0, .int .i64 0, .int .i64 0, .int .i64 0, .int .i64 0, .int .i64 0, .int .i64 0] := rfl
  rw [hirow] at hI
  have HU4 : Hid (BG B w w4) := bg_then HU3.out ht4 (Nat.le_refl _)
  clear hS hd4 ht4 hxs hirow c0 c1
  go_wp2_with fail
  refine hI.mono ?_
  rintro e w5 ⟨rfl, hd5, ht5⟩
  have hL := dlay_at hd5 hm
  have HU5 : Hid (BG B w w5) := bg_then HU4.out ht5 (Nat.le_refl _)
  clear hI hd5 ht5
  go_wp2_with fail
  refine hL.mono ?_
  rintro e w6 ⟨rfl, hd6, hu6⟩
  have HE : Hid (Fs w6 B (allocF F r kind) (m + 3000) ∧ BG B w w6) := by
    have hk := hd6
    obtain ⟨hH, hF⟩ := HI.out
    have hF' := hF.alloc hr32 HFr.out HK.out
    refine ⟨⟨_, hk.mono (by omega), ?_, hF'⟩, HU5.out.trans hu6⟩
    rw [put2_alloc]
    exact holds_close hH hF hr32 (x := ⟨kind, 0, [], []⟩) (by simp) hF'.iw.len (by have := hF.bw.len; omega) rfl (fun b _ => rfl) (fun k b hb => by simp at hb) (fun m _ _ b _ => rfl)
  clear hL hd6 hu6
  go_wp2
  go_ret2
  exact ⟨rfl, HE.out.1, HE.out.2⟩
set_option maxHeartbeats 4000000 in
set_option maxRecDepth 100000 in
theorem alloc_no (h : Fs w B F m) (hm : m ≤ 900000000000) (kind : Int) (hr : ∀ j, j < 32 → Bi.bt F.iw j = true) :
    Calls Tryz.prog 165 #[sto B, .int .i64 kind] w fun e w' => e = .returned (.tuple #[.int .i64 0, .int .i64 28]) ∧ Fs w' B F (m + 3000) ∧ BG B w w' := by
  obtain ⟨vs, h⟩ := h
  have HI : Hid (Holds vs F ∧ FInv F) := ⟨h.hold, h.inv⟩
  have hni := sto_nil h.ok
  have hn1 := h.inv.n1
  have hn2 := h.inv.n2
  have hd := h.disk
  have hst := Dr.start hd hn2
  obtain ⟨W1, hW1⟩ : ∃ W, W = w.alloc (.cells #[sto B, .slice none 0 0, .int .i64 0] 102) := ⟨_, rfl⟩
  have hb1 : Below w.heap.size w W1 := by rw [hW1]; exact below_alloc _ _
  rw [← hW1] at hst
  have hH := dhead_at hst hm hb1.size hn1 hn2 h.inv.iw h.inv.bw h.inv.low (by rw [h.hold.head]; rfl)
  have HW1 : Hid _ := hW1
  have HB1 : Hid (Below w.heap.size w W1) := hb1
  have HLow : Hid (Bi.Low (Bi.bt F.iw) 32 (-1)) := Or.inr ⟨rfl, hr⟩
  clear h hd hst hW1 hb1 hr
  go_enter Tryz.func165, Tryz.ntmps165
  go_wp2_with fail
  rw [← HW1.out]
  refine hH.mono ?_
  rintro e w1 ⟨hi, hb, rfl, ⟨gi, gb, hbm⟩, hdr, hdt⟩
  obtain ⟨W2, hW2⟩ : ∃ W, W = w1.alloc (.cells #[ptr hi, ptr hb] 111) := ⟨_, rfl⟩
  have hb2 : Below w1.heap.size w1 W2 := by rw [hW2]; exact below_alloc _ _
  have HW2 : Hid _ := hW2
  have hbm2 := hbm.below hb2
  have HBm : Hid (Bms W2 W1.heap.size hi gi hb gb F.n F.iw F.bw) := hbm2
  have hT := Bi.take_at hi gi 32 F.iw (-1) W2 hbm2.bi HLow.out
  have HD2 : Hid (Dr W2 w.heap.size w.heap.size B F.n vs vs m) := hdr.below hb2
  have HT2 : Hid (DT w.heap.size B W1 W2) := hdt.trans (DT.of_below hb2)
  have Hs1 : Hid (w.heap.size < W1.heap.size) := by rw [HW1.out]; show _ < _; simp
  clear hH hbm hdr hdt hW2 hb2 hbm2
  go_wp2_with fail
  rw [← HW2.out]
  refine hT.mono ?_
  rintro e w3 ⟨rfl, hB3, hu3⟩
  have HE : Hid (Fs w3 B F (m + 3000) ∧ BG B w w3) := by
    have hgi := HBm.out.lo
    have hd3 : Dr w3 w.heap.size w.heap.size B F.n vs vs m := HD2.out.other hu3 (by have := Hs1.out; omega) (not_isD HBm.out.bi.row (by decide))
    have hk := hd3.disk
    exact ⟨⟨vs, hk.mono (by omega), HI.out.1, HI.out.2⟩, bg_new (bg_start HB1.out HT2.out (Nat.le_refl _)) hu3 (by have := Hs1.out; omega)⟩
  clear hT hB3 hu3
  go_wp2
  go_ret2
  exact ⟨rfl, HE.out.1, HE.out.2⟩
end
end Go.Proofs.YtcjpahnlckfgoaaGreatDoor

namespace Go.Proofs.YtcjpahnlckfgoaaGreatDoor
open Go.RowKit
set_option linter.unusedVariables false

section
variable {w w' : World} {m : Nat} {B : Sto} {F : FS}
set_option maxHeartbeats 1000000 in
theorem resize_arg {B : Sto} (hS : SOk B) (i s : Int) (h : isI i = false ∨ s < 0) (w : World) :
    Calls Tryz.prog 155 #[sto B, .int .i64 i, .int .i64 s] w fun e w' => e = .returned (.int .i64 101) ∧ w' = w := by
  have hI := isInode_at i w
  have hni := sto_nil hS
  cases hi : isI i with
  | false =>
    rw [hi] at hI
    clear h hi
    go_enter Tryz.func155, Tryz.ntmps155
    go_wp2_with fail
    refine hI.mono ?_
    rintro e w1 ⟨rfl, hw⟩
    rw [hw]
    clear hw w1 hI
    go_wp2
    go_ret
    exact ⟨rfl, rfl⟩
  | true =>
    rw [hi] at hI h
    have hs : s < 0 := by rcases h with h | h; cases h; exact h
    clear h hi
    go_enter Tryz.func155, Tryz.ntmps155
    go_wp2_with fail
    refine hI.mono ?_
    rintro e w1 ⟨rfl, hw⟩
    rw [hw]
    clear hw w1 hI
    go_wp2
    go_ret
    exact ⟨rfl, rfl⟩
set_option maxHeartbeats 1000000 in
theorem resize_big {B : Sto} (hS : SOk B) (i : Nat) (hi : i < 32) (s : Int) (h : 192 < s) (w : World) :
    Calls Tryz.prog 155 #[sto B, .int .i64 (i : Int), .int .i64 s] w fun e w' => e = .returned (.int .i64 27) ∧ w' = w := by
  have hI := isInode_at (i : Int) w
  rw [isI_nat hi] at hI
  have hni := sto_nil hS
  have hs0 : ¬ s < 0 := by omega
  go_enter Tryz.func155, Tryz.ntmps155
  go_wp2_with fail
  refine hI.mono ?_
  rintro e w1 ⟨rfl, hw⟩
  rw [hw]
  clear hw w1 hI
  go_wp2
  go_ret
  exact ⟨rfl, rfl⟩
theorem Opened.op {vs : List Int} {i bf : Nat} (h : Opened w w' B i bf F vs m) (hi : i < 32) (hH : Holds vs F) (hF : FInv F) : ∃ X : FX, X.bf = bf ∧ X.base = w.heap.size ∧ X.B = B ∧ OpF w' X F vs m i ∧ Fr X w w' := by
  obtain ⟨X, h1, h2, h3, h5, h6, h7, h8⟩ := h
  exact ⟨X, h1, h2, h3, ⟨h7, h5, h6, hi, hH, hF⟩, h8⟩
set_option maxHeartbeats 2000000 in
theorem resize_no (h : Fs w B F m) (hm : m ≤ 900000000000) (i s : Nat) (hi : i < 32) (hs : s ≤ 192) (hr : roomB F i s = false) :
    Calls Tryz.prog 155 #[sto B, .int .i64 (i : Int), .int .i64 (s : Int)] w fun e w' => e = .returned (.int .i64 28) ∧ Fs w' B F (m + 3000) ∧ BG B w w' := by
  obtain ⟨vs, h⟩ := h
  have HI : Hid (Holds vs F ∧ FInv F) := ⟨h.hold, h.inv⟩
  have hI := isInode_at (i : Int) w
  rw [isI_nat hi] at hI
  have hni := sto_nil h.ok
  have hO := open_at h hm i hi
  have hs0 : ¬ (s : Int) < 0 := by omega
  have hs1 : ¬ (192 : Int) < (s : Int) := by omega
  clear h
  go_enter Tryz.func155, Tryz.ntmps155
  go_wp2_with fail
  refine hI.mono ?_
  rintro e w1 ⟨rfl, hw⟩
  rw [hw]
  clear hw w1 hI
  go_wp2_with fail
  refine hO.mono ?_
  rintro e w1 ⟨bf, rfl, hop⟩
  obtain ⟨X, hbf, hbase, hXB, hopf, hfr⟩ := hop.op hi HI.out.1 HI.out.2
  subst hbf
  have HX : Hid (X.base = w.heap.size ∧ X.B = B) := ⟨hbase, hXB⟩
  have hR := fresize_no hopf s hs hr
  have HFr : Hid (Fr X w w1) := hfr
  have HOp : Hid (OpF w1 X F vs m i) := hopf
  clear hO hop hbase hXB hopf hfr
  go_wp2_with fail
  refine hR.mono ?_
  rintro e w2 ⟨rfl, hb2⟩
  have HB2 : Hid (Below w1.heap.size w1 w2) := hb2
  clear hR hb2
  go_wp2
  go_ret
  obtain ⟨h1, h2⟩ := HX.out
  have hk := HOp.out.fl.dr.disk
  rw [h2, HOp.out.n] at hk
  exact ⟨rfl, ⟨vs, (hk.below HB2.out).mono (by omega), HI.out.1, HI.out.2⟩, SU.trans (bg_fr HFr.out (by omega) h2) (SU.of_below HB2.out)⟩
theorem fit_new {i s : Nat} (hF : FInv F) (hi : i < 32) (hu : Bi.bt F.iw i = true) (hs : s ≤ 192) (hr : roomB F i s = true) : ∀ x ∈ rowOf (F.ino i).kind (F.ino i).links (s : Int) (six (fun j => (newBlk F i s).getD j 0)), Fit x := by
  have hG := hF.resize hi hu hs hr
  have e0 : (resizeF F i s).ino i = ⟨(F.ino i).kind, (F.ino i).links, sized (F.ino i).txt s, newBlk F i s⟩ := FS.put_same _ _ _ _
  have h1 := hG.fit hi
  have h2 := row_six (hG.six hi)
  rw [e0] at h1 h2
  simp only [sized_len] at h2
  rw [h2] at h1
  exact h1
/-- What close leaves is a file system. -/
theorem closed_fs {X : FX} {w1 w2 : World} {us : List Int} {F' : FS} {m' : Nat} (hX : X.base = w.heap.size ∧ X.B = B) (hd : Dk w2 X.B X.n us (m' + 2048)) (hn : X.n = F'.n) (hH : Holds us F') (hF : FInv F') (hu : Fr X w1 w2) (h1 : Fr X w w1) (hm : m' + 2048 ≤ m + 3000) : Fs w2 B F' (m + 3000) ∧ BG B w w2 := by
  obtain ⟨h1', h2'⟩ := hX
  have hk := hd
  rw [h2', hn] at hk
  refine ⟨⟨us, hk.mono (by omega), hH, hF⟩, ?_⟩
  have a1 : BG B w w1 := bg_fr h1 (by omega) h2'
  refine ⟨hu.os.trans a1.os, hu.tape.trans a1.tape, hu.output.trans a1.output, Nat.le_trans a1.size hu.size, fun k hk hs hn => ?_⟩
  have e := a1.block k hk hs hn
  refine (hu.block k (Nat.lt_of_lt_of_le hk a1.size) ?_ (by omega)).trans e
  rw [h2']
  rcases hs with hs | hs
  · exact Or.inl hs
  · exact Or.inr (fun x => hs ((isSt_same e).1 x))
set_option maxHeartbeats 2000000 in
theorem resize_yes (h : Fs w B F m) (hm : m ≤ 900000000000) (i s : Nat) (hi : i < 32) (hu : Bi.bt F.iw i = true) (hs : s ≤ 192) (hr : roomB F i s = true) :
    Calls Tryz.prog 155 #[sto B, .int .i64 (i : Int), .int .i64 (s : Int)] w fun e w' => e = .returned (.int .i64 0) ∧ Fs w' B (resizeF F i s) (m + 3000) ∧ BG B w w' := by
  obtain ⟨vs, h⟩ := h
  have HI : Hid (Holds vs F ∧ FInv F) := ⟨h.hold, h.inv⟩
  have hI := isInode_at (i : Int) w
  rw [isI_nat hi] at hI
  have hni := sto_nil h.ok
  have hO := open_at h hm i hi
  have hs0 : ¬ (s : Int) < 0 := by omega
  have hs1 : ¬ (192 : Int) < (s : Int) := by omega
  have HU : Hid (Bi.bt F.iw i = true) := hu
  have HR : Hid (roomB F i s = true) := hr
  clear h hu hr
  go_enter Tryz.func155, Tryz.ntmps155
  go_wp2_with fail
  refine hI.mono ?_
  rintro e w1 ⟨rfl, hw⟩
  rw [hw]
  clear hw w1 hI
  go_wp2_with fail
  refine hO.mono ?_
  rintro e w1 ⟨bf, rfl, hop⟩
  obtain ⟨X, hbf, hbase, hXB, hopf, hfr⟩ := hop.op hi HI.out.1 HI.out.2
  subst hbf
  have HX : Hid (X.base = w.heap.size ∧ X.B = B) := ⟨hbase, hXB⟩
  have hR := fresize_yes hopf hm HU.out s hs HR.out
  have HFr : Hid (Fr X w w1) := hfr
  have HOp : Hid (OpF w1 X F vs m i) := hopf
  clear hO hop hbase hXB hopf hfr
  go_wp2_with fail
  refine hR.mono ?_
  rintro e w2 ⟨rfl, ⟨us, hfl, hrz⟩, hfr2⟩
  have HFr2 : Hid (Fr X w w2) := HFr.out.trans hfr2
  have HRz : Hid (RZ F i s vs us) := hrz
  have hC := fclose_at hfl hm (by have := HX.out; have := HFr2.out.size; omega) (by rw [HOp.out.n]; exact HI.out.2.n1) (by rw [HOp.out.xi]; exact hi) (fit_new HI.out.2 hi HU.out hs HR.out)
  clear hR hfl hrz hfr2
  go_wp2_with fail
  refine hC.mono ?_
  rintro e w3 ⟨rfl, hd3, hu3⟩
  have HE : Hid (Fs w3 B (resizeF F i s) (m + 3000) ∧ BG B w w3) := by
    refine closed_fs HX.out hd3 HOp.out.n ?_ (HI.out.2.resize hi HU.out hs HR.out) hu3 HFr2.out (by omega)
    rw [HOp.out.n, HOp.out.xi]
    exact resize_holds HI.out.2 HI.out.1 hi HU.out hs HR.out HRz.out
  clear hC hd3 hu3
  go_wp2
  go_ret
  exact ⟨rfl, HE.out.1, HE.out.2⟩
end
end Go.Proofs.YtcjpahnlckfgoaaGreatDoor

namespace Go.Proofs.YtcjpahnlckfgoaaGreatDoor
open Go.RowKit
set_option linter.unusedVariables false

section
variable {w w' : World} {m : Nat} {B : Sto} {F : FS}
set_option maxHeartbeats 1000000 in
theorem read_arg {B : Sto} (hS : SOk B) (i o n : Int) (h : isI i = false ∨ o < 0 ∨ n < 0) (w : World) :
    Calls Tryz.prog 26 #[sto B, .int .i64 i, .int .i64 o, .int .i64 n] w fun e w' => e = .returned (.tuple #[tx [], .int .i64 101]) ∧ w' = w := by
  have hI := isInode_at i w
  have hni := sto_nil hS
  cases hi : isI i with
  | false =>
    rw [hi] at hI
    clear h hi
    go_enter Tryz.func26, Tryz.ntmps26
    go_wp2_with fail
    refine hI.mono ?_
    rintro e w1 ⟨rfl, hw⟩
    rw [hw]
    clear hw w1 hI
    go_wp2
    go_ret2
    exact ⟨rfl, rfl⟩
  | true =>
    rw [hi] at hI h
    have hs : o < 0 ∨ (¬ o < 0 ∧ n < 0) := by rcases h with h | h | h; cases h; exact Or.inl h; exact (Decidable.em (o < 0)).imp id (fun q => ⟨q, h⟩)
    clear h hi
    rcases hs with h1 | ⟨h1, h2⟩
    all_goals
      go_enter Tryz.func26, Tryz.ntmps26
      go_wp2_with fail
      refine hI.mono ?_
      rintro e w1 ⟨rfl, hw⟩
      rw [hw]
      clear hw w1 hI
      go_wp2
      go_ret2
      exact ⟨rfl, rfl⟩
/-- What Read answers. -/
def readT (F : FS) (i o n : Nat) : List UInt8 := cutB (F.ino i).txt o n
theorem cutB_min (t : List Int) (o n : Nat) : cutB t o (min n (t.length - o)) = cutB t o n := by
  unfold cutB
  congr 1
  by_cases h : n ≤ t.length - o
  · rw [Nat.min_eq_left h]
  · rw [Nat.min_eq_right (by omega), List.take_of_length_le (by rw [List.length_drop]; omega), List.take_of_length_le (by rw [List.length_drop]; omega)]
theorem cutB_zero (t : List Int) (o n : Nat) (h : n = 0 ∨ t.length ≤ o) : cutB t o n = [] := by
  unfold cutB byts
  rcases h with h | h
  · rw [h]; rfl
  · rw [List.drop_eq_nil_of_le h]
    simp
set_option maxHeartbeats 2000000 in
theorem read_in (h : Fs w B F m) (hm : m ≤ 890000000000) (i o n : Nat) (hi : i < 32) (ho : o < 9223372036854775808) (hn : n < 9223372036854775808) :
    Calls Tryz.prog 26 #[sto B, .int .i64 (i : Int), .int .i64 (o : Int), .int .i64 (n : Int)] w fun e w' => e = .returned (.tuple #[tx (readT F i o n), .int .i64 0]) ∧ Fs w' B F (m + 3000) ∧ BG B w w' := by
  obtain ⟨vs, h⟩ := h
  have HI : Hid (Holds vs F ∧ FInv F) := ⟨h.hold, h.inv⟩
  have hI := isInode_at (i : Int) w
  rw [isI_nat hi] at hI
  have hni := sto_nil h.ok
  have hO := open_at h (by omega) i hi
  have ho0 : ¬ (o : Int) < 0 := by omega
  have hn0 : ¬ (n : Int) < 0 := by omega
  have HLn : Hid ((F.ino i).txt.length ≤ 192) := h.inv.max i hi
  clear h
  go_enter Tryz.func26, Tryz.ntmps26
  go_wp2_with fail
  refine hI.mono ?_
  rintro e w1 ⟨rfl, hw⟩
  rw [hw]
  clear hw w1 hI
  go_wp2_with fail
  refine hO.mono ?_
  rintro e w1 ⟨bf, rfl, hop⟩
  obtain ⟨X, hbf, hbase, hXB, hopf, hfr⟩ := hop.op hi HI.out.1 HI.out.2
  subst hbf
  have HX : Hid (X.base = w.heap.size ∧ X.B = B) := ⟨hbase, hXB⟩
  have HFr : Hid (Fr X w w1) := hfr
  have HOp : Hid (OpF w1 X F vs m i) := hopf
  obtain ⟨c0, c1, c2, c3, c4, c5, c6⟩ := hopf.fl.c
  have hbs : X.base ≤ w1.heap.size := by have := hfr.size; omega
  obtain ⟨L, hL⟩ : ∃ L, L = (F.ino i).txt.length := ⟨_, rfl⟩
  have HL : Hid (L = (F.ino i).txt.length) := hL
  have hL192 : L ≤ 192 := by rw [hL]; exact HLn.out
  rw [← hL] at c6
  have hws : IntKind.i64.wrap ((L : Int) - (o : Int)) = (L : Int) - (o : Int) := by
    simp [IntKind.wrap, IntKind.bits, IntKind.signed]
    omega
  by_cases hz : min (n : Int) ((L : Int) - (o : Int)) ≤ 0
  · have hR := fread_no X (o : Int) (min (n : Int) ((L : Int) - (o : Int))) hz w1
    have HT : Hid (readT F i o n = []) := cutB_zero _ _ _ (by rw [← hL]; omega)
    obtain ⟨q, hq⟩ : ∃ q, q = min (n : Int) ((L : Int) - (o : Int)) := ⟨_, rfl⟩
    rw [← hq] at hR
    have hq' : min (n : Int) ((L : Int) - (o : Int)) = q := hq.symm
    clear hO hop hbase hXB hopf hfr c0 c1 c2 c3 c4 c5 hL hz hq
    go_wp2_with fail
    refine hR.mono ?_
    rintro e w2 ⟨rfl, hw⟩
    rw [hw]
    clear hw w2 hR
    go_wp2
    go_ret2
    obtain ⟨h1, h2⟩ := HX.out
    have hk := HOp.out.fl.dr.disk
    rw [h2, HOp.out.n] at hk
    exact ⟨by rw [HT.out]; rfl, ⟨vs, hk.mono (by omega), HI.out.1, HI.out.2⟩, bg_fr HFr.out (by omega) h2⟩
  · obtain ⟨k, hk⟩ : ∃ k : Nat, (k : Int) = min (n : Int) ((L : Int) - (o : Int)) := ⟨(min (n : Int) ((L : Int) - (o : Int))).toNat, by omega⟩
    have hkn : k = min n (L - o) := by omega
    have hR := fread_at hopf hbs hm o k (by omega) (by rw [← hL]; omega)
    have HT : Hid (cutB (F.ino i).txt o k = readT F i o n) := by
      show _ = _
      unfold readT
      rw [hkn, hL]
      exact cutB_min _ _ _
    rw [HT.out] at hR
    have hk' : min (n : Int) ((L : Int) - (o : Int)) = (k : Int) := hk.symm
    clear hO hop hbase hXB hopf hfr c0 c1 c2 c3 c4 c5 hL hz hk hkn
    go_wp2_with fail
    refine hR.mono ?_
    rintro e w2 ⟨rfl, hd2, hfr2⟩
    have HE : Hid (Fs w2 B F (m + 3000) ∧ BG B w w2) := by
      obtain ⟨h1, h2⟩ := HX.out
      have hk := hd2
      rw [h2, HOp.out.n] at hk
      exact ⟨⟨vs, hk.mono (by omega), HI.out.1, HI.out.2⟩, bg_fr (HFr.out.trans hfr2) (by omega) h2⟩
    clear hR hd2 hfr2
    go_wp2
    go_ret2
    exact ⟨rfl, HE.out.1, HE.out.2⟩
end
end Go.Proofs.YtcjpahnlckfgoaaGreatDoor

namespace Go.Proofs.YtcjpahnlckfgoaaGreatDoor
open Go.RowKit
set_option linter.unusedVariables false

section
variable {w w' : World} {m : Nat} {B : Sto} {F : FS}
set_option maxHeartbeats 1000000 in
theorem write_arg {B : Sto} (hS : SOk B) (i o : Int) (l : List UInt8) (h : isI i = false ∨ o < 0) (w : World) :
    Calls Tryz.prog 23 #[sto B, .int .i64 i, .int .i64 o, tx l] w fun e w' => e = .returned (.int .i64 101) ∧ w' = w := by
  have hI := isInode_at i w
  have hni := sto_nil hS
  cases hi : isI i with
  | false =>
    rw [hi] at hI
    clear h hi
    go_enter Tryz.func23, Tryz.ntmps23
    go_wp2_with fail
    refine hI.mono ?_
    rintro e w1 ⟨rfl, hw⟩
    rw [hw]
    clear hw w1 hI
    go_wp2
    go_ret
    exact ⟨rfl, rfl⟩
  | true =>
    rw [hi] at hI h
    have hs : o < 0 := by rcases h with h | h; cases h; exact h
    clear h hi
    go_enter Tryz.func23, Tryz.ntmps23
    go_wp2_with fail
    refine hI.mono ?_
    rintro e w1 ⟨rfl, hw⟩
    rw [hw]
    clear hw w1 hI
    go_wp2
    go_ret
    exact ⟨rfl, rfl⟩
set_option maxHeartbeats 1000000 in
theorem write_big {B : Sto} (hS : SOk B) (i : Nat) (hi : i < 32) (o : Nat) (l : List UInt8) (hl : l.length ≤ 9223372036854775807) (h : 192 < (o : Int) + l.length) (w : World) :
    Calls Tryz.prog 23 #[sto B, .int .i64 (i : Int), .int .i64 (o : Int), tx l] w fun e w' => e = .returned (.int .i64 27) ∧ w' = w := by
  have hI := isInode_at (i : Int) w
  rw [isI_nat hi] at hI
  have hni := sto_nil hS
  have ho0 : ¬ (o : Int) < 0 := by omega
  have hln := run_len_text l
  obtain ⟨N, hN⟩ : ∃ N, N = l.length := ⟨_, rfl⟩
  obtain ⟨sv, hsv⟩ : ∃ v, v = tx l := ⟨_, rfl⟩
  rw [← hN] at hln hl h
  rw [← hsv] at hln ⊢
  have hgt : (192 : Int) - (N : Int) < (o : Int) := by omega
  have hws : IntKind.i64.wrap ((192 : Int) - (N : Int)) = (192 : Int) - (N : Int) := by
    simp [IntKind.wrap, IntKind.bits, IntKind.signed]
    omega
  clear hN hsv
  go_enter Tryz.func23, Tryz.ntmps23
  go_wp2_with fail
  refine hI.mono ?_
  rintro e w1 ⟨rfl, hw⟩
  rw [hw]
  clear hw w1 hI
  go_wp2
  go_ret
  exact ⟨rfl, rfl⟩
set_option maxHeartbeats 1000000 in
theorem write_none {B : Sto} (hS : SOk B) (i : Nat) (hi : i < 32) (o : Nat) (ho : o ≤ 192) (w : World) :
    Calls Tryz.prog 23 #[sto B, .int .i64 (i : Int), .int .i64 (o : Int), tx []] w fun e w' => e = .returned (.int .i64 0) ∧ w' = w := by
  have hI := isInode_at (i : Int) w
  rw [isI_nat hi] at hI
  have hni := sto_nil hS
  have ho0 : ¬ (o : Int) < 0 := by omega
  have ho1 : ¬ (192 : Int) < (o : Int) := by omega
  go_enter Tryz.func23, Tryz.ntmps23
  go_wp2_with fail
  refine hI.mono ?_
  rintro e w1 ⟨rfl, hw⟩
  rw [hw]
  clear hw w1 hI
  go_wp2
  go_ret
  exact ⟨rfl, rfl⟩
set_option maxHeartbeats 2000000 in
theorem write_no (h : Fs w B F m) (hm : m ≤ 900000000000) (i o : Nat) (l : List UInt8) (hi : i < 32) (hl : l ≠ []) (hs : o + l.length ≤ 192) (hr : roomB F i (max (F.ino i).txt.length (o + l.length)) = false) :
    Calls Tryz.prog 23 #[sto B, .int .i64 (i : Int), .int .i64 (o : Int), tx l] w fun e w' => e = .returned (.int .i64 28) ∧ Fs w' B F (m + 3000) ∧ BG B w w' := by
  obtain ⟨vs, h⟩ := h
  have HI : Hid (Holds vs F ∧ FInv F) := ⟨h.hold, h.inv⟩
  have hI := isInode_at (i : Int) w
  rw [isI_nat hi] at hI
  have hni := sto_nil h.ok
  have hO := open_at h hm i hi
  have ho0 : ¬ (o : Int) < 0 := by omega
  have hl0 : l.isEmpty = false := by simpa using hl
  have hmx := h.inv.max i hi
  obtain ⟨N, hN⟩ : ∃ N, N = l.length := ⟨_, rfl⟩
  obtain ⟨sb, hsv⟩ : ∃ v : ByteArray, v = ⟨l.toArray⟩ := ⟨_, rfl⟩
  have hsz : sb.size = N := by rw [hsv, hN]; simp [ByteArray.size]
  have hst : sb.toList = l := by rw [hsv]; exact ByteArray.toList_mk l
  rw [← hN] at hs hr
  have htx : tx l = .string sb := by rw [hsv]
  rw [htx]
  clear htx
  have hgt : ¬ (192 : Int) - (N : Int) < (o : Int) := by omega
  clear h hN hsv hl
  go_enter Tryz.func23, Tryz.ntmps23
  go_wp2_with fail
  refine hI.mono ?_
  rintro e w1 ⟨rfl, hw⟩
  rw [hw]
  clear hw w1 hI
  go_wp2_with fail
  refine hO.mono ?_
  rintro e w1 ⟨bf, rfl, hop⟩
  obtain ⟨X, hbf, hbase, hXB, hopf, hfr⟩ := hop.op hi HI.out.1 HI.out.2
  subst hbf
  have HX : Hid (X.base = w.heap.size ∧ X.B = B) := ⟨hbase, hXB⟩
  have hR := fresize_no hopf (max (F.ino i).txt.length (o + N)) (by omega) hr
  have HFr : Hid (Fr X w w1) := hfr
  have HOp : Hid (OpF w1 X F vs m i) := hopf
  obtain ⟨c0, c1, c2, c3, c4, c5, c6⟩ := hopf.fl.c
  obtain ⟨L, hL⟩ : ∃ L, L = (F.ino i).txt.length := ⟨_, rfl⟩
  rw [← hL] at c6 hR
  obtain ⟨s, hsq⟩ : ∃ s, s = max L (o + N) := ⟨_, rfl⟩
  rw [← hsq] at hR
  have hmxx : max (L : Int) ((o : Int) + (N : Int)) = (s : Int) := by omega
  clear hO hop hbase hXB hopf hfr c0 c1 c2 c3 c4 c5 hL hsq hr
  go_wp2_with fail
  refine hR.mono ?_
  rintro e w2 ⟨rfl, hb2⟩
  have HB2 : Hid (Below w1.heap.size w1 w2) := hb2
  clear hR hb2
  go_wp2
  go_ret
  obtain ⟨h1, h2⟩ := HX.out
  have hk := HOp.out.fl.dr.disk
  rw [h2, HOp.out.n] at hk
  exact ⟨rfl, ⟨vs, (hk.below HB2.out).mono (by omega), HI.out.1, HI.out.2⟩, (bg_fr HFr.out (by omega) h2).trans (SU.of_below HB2.out)⟩
set_option maxHeartbeats 2000000 in
theorem write_yes (h : Fs w B F m) (hm : m ≤ 900000000000) (i o : Nat) (l : List UInt8) (hi : i < 32) (hu : Bi.bt F.iw i = true) (hl : l ≠ []) (hs : o + l.length ≤ 192) (hr : roomB F i (max (F.ino i).txt.length (o + l.length)) = true) :
    Calls Tryz.prog 23 #[sto B, .int .i64 (i : Int), .int .i64 (o : Int), tx l] w fun e w' => e = .returned (.int .i64 0) ∧ Fs w' B (writeF F i o (nums l)) (m + 3000) ∧ BG B w w' := by
  obtain ⟨vs, h⟩ := h
  have HI : Hid (Holds vs F ∧ FInv F) := ⟨h.hold, h.inv⟩
  have hI := isInode_at (i : Int) w
  rw [isI_nat hi] at hI
  have hni := sto_nil h.ok
  have hO := open_at h hm i hi
  have ho0 : ¬ (o : Int) < 0 := by omega
  have hl0 : l.isEmpty = false := by simpa using hl
  have hmx := h.inv.max i hi
  obtain ⟨N, hN⟩ : ∃ N, N = l.length := ⟨_, rfl⟩
  obtain ⟨sb, hsv⟩ : ∃ v : ByteArray, v = ⟨l.toArray⟩ := ⟨_, rfl⟩
  have hsz : sb.size = N := by rw [hsv, hN]; simp [ByteArray.size]
  have hst : sb.toList = l := by rw [hsv]; exact ByteArray.toList_mk l
  rw [← hN] at hs hr
  have htx : tx l = .string sb := by rw [hsv]
  rw [htx]
  clear htx
  have hgt : ¬ (192 : Int) - (N : Int) < (o : Int) := by omega
  have HU : Hid (Bi.bt F.iw i = true) := hu
  have HR : Hid (roomB F i (max (F.ino i).txt.length (o + N)) = true) := hr
  have HN : Hid (N = l.length ∧ sb = ⟨l.toArray⟩) := ⟨hN, hsv⟩
  clear h hN hsv hl hu hr
  go_enter Tryz.func23, Tryz.ntmps23
  go_wp2_with fail
  refine hI.mono ?_
  rintro e w1 ⟨rfl, hw⟩
  rw [hw]
  clear hw w1 hI
  go_wp2_with fail
  refine hO.mono ?_
  rintro e w1 ⟨bf, rfl, hop⟩
  obtain ⟨X, hbf, hbase, hXB, hopf, hfr⟩ := hop.op hi HI.out.1 HI.out.2
  subst hbf
  have HX : Hid (X.base = w.heap.size ∧ X.B = B) := ⟨hbase, hXB⟩
  have hR := fresize_yes hopf hm HU.out (max (F.ino i).txt.length (o + N)) (by omega) HR.out
  have HFr : Hid (Fr X w w1) := hfr
  have HOp : Hid (OpF w1 X F vs m i) := hopf
  obtain ⟨c0, c1, c2, c3, c4, c5, c6⟩ := hopf.fl.c
  obtain ⟨L, hL⟩ : ∃ L, L = (F.ino i).txt.length := ⟨_, rfl⟩
  have HL : Hid (L = (F.ino i).txt.length) := hL
  rw [← hL] at c6 hR HR hmx
  obtain ⟨s, hsq⟩ : ∃ s, s = max L (o + N) := ⟨_, rfl⟩
  have Hsq : Hid (s = max L (o + N)) := hsq
  have hs192 : s ≤ 192 := by omega
  rw [← hsq] at hR HR
  have hmxx : max (L : Int) ((o : Int) + (N : Int)) = (s : Int) := by omega
  clear hO hop hbase hXB hopf hfr c0 c1 c2 c3 c4 c5 hL hsq
  go_wp2_with fail
  refine hR.mono ?_
  rintro e w2 ⟨rfl, ⟨us, hfl, hrz⟩, hfr2⟩
  have HFr2 : Hid (Fr X w w2) := HFr.out.trans hfr2
  have HRz : Hid (RZ F i s vs us) := hrz
  have hG := HI.out.2.resize hi HU.out hs192 HR.out
  have hok := hG.ok hi
  have e0 : (resizeF F i s).ino i = ⟨(F.ino i).kind, (F.ino i).links, sized (F.ino i).txt s, newBlk F i s⟩ := FS.put_same _ _ _ _
  rw [e0] at hok
  have hnl := newBlk_len HI.out.2 hi HR.out
  have hW := fwrite_at hfl hm (sized (F.ino i).txt s) o l hok.nd (fun b hb => by rw [HOp.out.n]; exact (hok.data b hb).2.1) (by rw [hnl, sized_len]) (by rw [sized_len]; exact hs192) (by rw [sized_len]; have := Hsq.out; have := HN.out.1; omega) hrz.data
  have htx : tx l = .string sb := by rw [HN.out.2]
  rw [htx] at hW
  clear htx
  clear hR hfl hrz hfr2 hG hok e0 hnl
  go_wp2_with fail
  refine hW.mono ?_
  rintro e w3 ⟨rfl, ⟨u3, hfl3, hwz⟩, hfr3⟩
  have HFr3 : Hid (Fr X w w3) := HFr2.out.trans hfr3
  have HWz : Hid (WZ X.n (newBlk F i s) (sized (F.ino i).txt s) o (nums l) l.length us u3) := hwz
  have hC := fclose_at hfl3 hm (by have := HX.out; have := HFr3.out.size; omega) (by rw [HOp.out.n]; exact HI.out.2.n1) (by rw [HOp.out.xi]; exact hi) (fit_new HI.out.2 hi HU.out hs192 HR.out)
  clear hW hfl3 hwz hfr3
  go_wp2_with fail
  refine hC.mono ?_
  rintro e w4 ⟨rfl, hd4, hu4⟩
  have HE : Hid (Fs w4 B (writeF F i o (nums l)) (m + 3000) ∧ BG B w w4) := by
    have hsl : s = max (F.ino i).txt.length (o + (nums l).length) := by rw [nums_len, ← HN.out.1, ← HL.out]; exact Hsq.out
    have hnl : o + (nums l).length ≤ 192 := by rw [nums_len, ← HN.out.1]; exact hs
    have hR' := HR.out
    have hz' := HRz.out
    have hw' := HWz.out
    rw [HOp.out.n, ← nums_len l] at hw'
    refine closed_fs HX.out hd4 HOp.out.n ?_ (HI.out.2.write hi HU.out hnl (nums_byte l) (by rw [← hsl]; exact hR')) hu4 HFr3.out (by omega)
    rw [HOp.out.n, HOp.out.xi]
    rw [hsl] at hR' hz' hw' ⊢
    exact write_holds HI.out.2 HI.out.1 hi HU.out hnl hR' hz' hw'
  clear hC hd4 hu4
  go_wp2
  go_ret
  exact ⟨rfl, HE.out.1, HE.out.2⟩
end
end Go.Proofs.YtcjpahnlckfgoaaGreatDoor
