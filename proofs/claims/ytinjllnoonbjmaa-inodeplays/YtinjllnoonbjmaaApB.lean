/- Package inode: Alloc. -/
import Derived.Test.YtinjllnoonbjmaaApA
namespace Go.Proofs.Ytinjllnoonbjmaa
open Go.RowKit
set_option linter.unusedVariables false

section
variable {w w' : World} {B G m : Nat} {F : FS}
theorem bg_then {base : Nat} {w1 w2 : World} (h : BG B G w w1) (hT : DT base B w1 w2) (hb : w.heap.size ≤ base) : BG B G w w2 :=
  ⟨hT.os.trans h.os, hT.tape.trans h.tape, hT.output.trans h.output, Nat.le_trans h.size hT.size, fun k hk hn => (hT.block k (Nat.lt_of_lt_of_le hk h.size) (fun e => hn (Or.inl e)) (Or.inl (by omega))).trans (h.block k hk hn)⟩
set_option maxHeartbeats 4000000 in
set_option maxRecDepth 100000 in
theorem alloc_yes (h : Fs w B G F m) (hm : m ≤ 900000) (kind : Int) (hk : Fit kind) (r : Nat) (hr32 : r < 32) (hr : Bi.Low (Bi.bt F.iw) 32 (r : Int)) (hfree : Bi.bt F.iw r = false) :
    Calls Try.prog 11 #[sto B, .int .i64 kind] w fun e w' => e = .returned (.tuple #[.int .i64 (r : Int), .int .i64 0]) ∧ Fs w' B G (allocF F r kind) (m + 2000) ∧ BG B G w w' := by
  obtain ⟨vs, h⟩ := h
  have HI : Hid (Holds vs F ∧ FInv F) := ⟨h.hold, h.inv⟩
  have hni := sto_nil B
  have hn1 := h.inv.n1
  have hn2 := h.inv.n2
  have HBl : Hid (B < w.heap.size) := h.dk.lt.1
  obtain ⟨gt, pt, hd, h1, h2⟩ := h.disk
  have hst := Dr.start hd h1 h2 hn2
  obtain ⟨W1, hW1⟩ : ∃ W, W = w.alloc (.cells #[sto B, .slice none 0 0, .int .i64 0] 78) := ⟨_, rfl⟩
  have hb1 : Below w.heap.size w W1 := by rw [hW1]; exact below_alloc _ _
  rw [← hW1] at hst
  have hH := dhead_at hst hm hb1.size hn1 hn2 h.inv.iw h.inv.bw h.inv.low (by rw [h.hold.head]; rfl)
  have HW1 : Hid _ := hW1
  have HB1 : Hid (Below w.heap.size w W1) := hb1
  have HLow : Hid (Bi.Low (Bi.bt F.iw) 32 (r : Int)) := hr
  have HK : Hid (Fit kind) := hk
  have HFr : Hid (Bi.bt F.iw r = false) := hfree
  clear h hd h1 h2 hst hW1 hb1 hr hk hfree
  go_enter Try.func11, Try.ntmps11
  go_wp2_with fail
  rw [← HW1.out]
  refine hH.mono ?_
  rintro e w1 ⟨hi, hb, rfl, ⟨gi, gb, hbm⟩, hdr, hdt⟩
  obtain ⟨W2, hW2⟩ : ∃ W, W = w1.alloc (.cells #[ptr hi, ptr hb] 81) := ⟨_, rfl⟩
  have hb2 : Below w1.heap.size w1 W2 := by rw [hW2]; exact below_alloc _ _
  have HW2 : Hid _ := hW2
  have hp2 : W2.heap[w1.heap.size]? = some (.cells #[ptr hi, ptr hb] 81) := by rw [hW2]; exact heap_alloc_new _ _
  have hbm2 := hbm.below hb2
  have HBm : Hid (Bms W2 W1.heap.size hi gi hb gb F.n F.iw F.bw) := hbm2
  have hT := Bi.take_at hi gi 32 F.iw r W2 hbm2.bi HLow.out
  have htk : Bi.takeW F.iw (r : Int) = Bi.mkW F.iw r true := by simp [Bi.takeW]
  rw [htk] at hT
  have HD2 : Hid (Dr W2 w.heap.size w.heap.size B G F.n vs vs m) := hdr.below hb2
  have HT2 : Hid (DT w.heap.size B W1 W2) := hdt.trans (DT.of_below hb2)
  have HP2 : Hid (W2.heap[w1.heap.size]? = some (.cells #[ptr hi, ptr hb] 81)) := hp2
  have Hs1 : Hid (w.heap.size < W1.heap.size) := by rw [HW1.out]; show _ < _; simp
  have HSz : Hid (W1.heap.size ≤ w1.heap.size) := hdt.size
  clear hH hbm hdr hdt hW2 hb2 hp2 htk hbm2
  go_wp2_with fail
  rw [← HW2.out]
  refine hT.mono ?_
  rintro e w3 ⟨rfl, hB3, hu3⟩
  have hgi := HBm.out.lo
  have hbm3 : Bms w3 W1.heap.size hi gi hb gb F.n (Bi.mkW F.iw r true) F.bw := by
    have a := HBm.out
    have hne : hb ≠ gi := by
      intro e
      have h1 := a.bb.head
      rw [e, a.bi.row] at h1
      simp only [Option.some.injEq, Obj.cells.injEq] at h1
      exact absurd h1.2.1 (by decide)
    exact ⟨hB3, a.bb.keep (hu3.block _ a.bb.ltb hne) (hu3.block _ a.bb.ltg (Ne.symm a.ne)), a.lo, a.ne⟩
  have hd3 : Dr w3 w.heap.size w.heap.size B G F.n vs vs m := HD2.out.other hu3 (by have := Hs1.out; omega) (not_isD HBm.out.bi.row (by decide))
  have hp3 : w3.heap[w1.heap.size]? = some (.cells #[ptr hi, ptr hb] 81) := by
    rw [hu3.block _ (lt_of_heap HP2.out) (fun e => by
      have h1 := HP2.out
      rw [e, HBm.out.bi.row] at h1
      simp only [Option.some.injEq, Obj.cells.injEq] at h1
      exact absurd h1.2.1 (by decide))]
    exact HP2.out
  have HU3 : Hid (BG B G w w3) := by
    refine bg_new (bg_start HB1.out HT2.out (Nat.le_refl _)) hu3 (by have := Hs1.out; omega)
  have hS := dsetHead_at hd3 hm (by omega) ⟨gi, gb, hbm3⟩ (by have := HBl.out; have := Hs1.out; omega)
  have c0 : w3.cell? ⟨w1.heap.size, 0, none⟩ = some (ptr hi) := by rw [cell_of_heap hp3]; rfl
  have c1 : w3.cell? ⟨w1.heap.size, 1, none⟩ = some (ptr hb) := by rw [cell_of_heap hp3]; rfl
  have hri : ¬ (r : Int) < 0 := by omega
  have Hs3 : Hid (w.heap.size ≤ w3.heap.size) := HU3.out.size
  clear hT hB3 hu3 hgi hbm3 hd3 hp3
  go_wp2_with fail
  refine hS.mono ?_
  rintro e w4 ⟨rfl, hd4, ht4⟩
  have hxs : ∀ x ∈ [kind, 0, 0, 0, 0, 0, 0, 0, 0], Fit x := by
    intro x hx
    simp only [List.mem_cons, List.not_mem_nil, or_false] at hx
    rcases hx with rfl | rfl | rfl | rfl | rfl | rfl | rfl | rfl | rfl
    · exact HK.out
    all_goals exact ⟨by omega, by omega⟩
  have hI := dsetInode_at hd4 hm hn1 (by have := ht4.size; have := Hs3.out; omega) r hr32 [kind, 0, 0, 0, 0, 0, 0, 0, 0] rfl hxs
  have hirow : irow [kind, 0, 0, 0, 0, 0, 0, 0, 0] = #[.int .i64 kind, .int .i64 0, .int .i64 0, .int .i64 0, .int .i64 0, .int .i64 0, .int .i64 0, .int .i64 0, .int .i64 0] := rfl
  rw [hirow] at hI
  have HU4 : Hid (BG B G w w4) := bg_then HU3.out ht4 (Nat.le_refl _)
  clear hS hd4 ht4 hxs hirow c0 c1
  go_wp2_with fail
  refine hI.mono ?_
  rintro e w5 ⟨rfl, hd5, ht5⟩
  have hL := dlay_at hd5 hm
  have HU5 : Hid (BG B G w w5) := bg_then HU4.out ht5 (Nat.le_refl _)
  clear hI hd5 ht5
  go_wp2_with fail
  refine hL.mono ?_
  rintro e w6 ⟨rfl, hd6, hu6⟩
  have HE : Hid (Fs w6 B G (allocF F r kind) (m + 2000) ∧ BG B G w w6) := by
    obtain ⟨gt, pt, hk, q1, q2⟩ := hd6
    obtain ⟨hH, hF⟩ := HI.out
    have hF' := hF.alloc hr32 HFr.out HK.out
    refine ⟨⟨_, ⟨gt, pt, hk, by omega, by omega⟩, ?_, hF'⟩, HU5.out.trans hu6⟩
    rw [put2_alloc]
    exact holds_close hH hF hr32 (x := ⟨kind, 0, [], []⟩) (by simp) hF'.iw.len (by have := hF.bw.len; omega) rfl (fun b _ => rfl) (fun k b hb => by simp at hb) (fun m _ _ b _ => rfl)
  clear hL hd6 hu6
  go_wp2
  go_ret2
  exact ⟨rfl, HE.out.1, HE.out.2⟩
set_option maxHeartbeats 4000000 in
set_option maxRecDepth 100000 in
theorem alloc_no (h : Fs w B G F m) (hm : m ≤ 900000) (kind : Int) (hr : ∀ j, j < 32 → Bi.bt F.iw j = true) :
    Calls Try.prog 11 #[sto B, .int .i64 kind] w fun e w' => e = .returned (.tuple #[.int .i64 0, .int .i64 28]) ∧ Fs w' B G F (m + 2000) ∧ BG B G w w' := by
  obtain ⟨vs, h⟩ := h
  have HI : Hid (Holds vs F ∧ FInv F) := ⟨h.hold, h.inv⟩
  have hni := sto_nil B
  have hn1 := h.inv.n1
  have hn2 := h.inv.n2
  obtain ⟨gt, pt, hd, h1, h2⟩ := h.disk
  have hst := Dr.start hd h1 h2 hn2
  obtain ⟨W1, hW1⟩ : ∃ W, W = w.alloc (.cells #[sto B, .slice none 0 0, .int .i64 0] 78) := ⟨_, rfl⟩
  have hb1 : Below w.heap.size w W1 := by rw [hW1]; exact below_alloc _ _
  rw [← hW1] at hst
  have hH := dhead_at hst hm hb1.size hn1 hn2 h.inv.iw h.inv.bw h.inv.low (by rw [h.hold.head]; rfl)
  have HW1 : Hid _ := hW1
  have HB1 : Hid (Below w.heap.size w W1) := hb1
  have HLow : Hid (Bi.Low (Bi.bt F.iw) 32 (-1)) := Or.inr ⟨rfl, hr⟩
  clear h hd h1 h2 hst hW1 hb1 hr
  go_enter Try.func11, Try.ntmps11
  go_wp2_with fail
  rw [← HW1.out]
  refine hH.mono ?_
  rintro e w1 ⟨hi, hb, rfl, ⟨gi, gb, hbm⟩, hdr, hdt⟩
  obtain ⟨W2, hW2⟩ : ∃ W, W = w1.alloc (.cells #[ptr hi, ptr hb] 81) := ⟨_, rfl⟩
  have hb2 : Below w1.heap.size w1 W2 := by rw [hW2]; exact below_alloc _ _
  have HW2 : Hid _ := hW2
  have hbm2 := hbm.below hb2
  have HBm : Hid (Bms W2 W1.heap.size hi gi hb gb F.n F.iw F.bw) := hbm2
  have hT := Bi.take_at hi gi 32 F.iw (-1) W2 hbm2.bi HLow.out
  have HD2 : Hid (Dr W2 w.heap.size w.heap.size B G F.n vs vs m) := hdr.below hb2
  have HT2 : Hid (DT w.heap.size B W1 W2) := hdt.trans (DT.of_below hb2)
  have Hs1 : Hid (w.heap.size < W1.heap.size) := by rw [HW1.out]; show _ < _; simp
  clear hH hbm hdr hdt hW2 hb2 hbm2
  go_wp2_with fail
  rw [← HW2.out]
  refine hT.mono ?_
  rintro e w3 ⟨rfl, hB3, hu3⟩
  have HE : Hid (Fs w3 B G F (m + 2000) ∧ BG B G w w3) := by
    have hgi := HBm.out.lo
    have hd3 : Dr w3 w.heap.size w.heap.size B G F.n vs vs m := HD2.out.other hu3 (by have := Hs1.out; omega) (not_isD HBm.out.bi.row (by decide))
    obtain ⟨gt, pt, hk, q1, q2⟩ := hd3.disk
    exact ⟨⟨vs, ⟨gt, pt, hk, by omega, by omega⟩, HI.out.1, HI.out.2⟩, bg_new (bg_start HB1.out HT2.out (Nat.le_refl _)) hu3 (by have := Hs1.out; omega)⟩
  clear hT hB3 hu3
  go_wp2
  go_ret2
  exact ⟨rfl, HE.out.1, HE.out.2⟩
end
end Go.Proofs.Ytinjllnoonbjmaa
