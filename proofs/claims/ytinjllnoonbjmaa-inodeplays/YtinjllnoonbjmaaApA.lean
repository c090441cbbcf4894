/- Package inode: Put, Left. -/
import Derived.Test.YtinjllnoonbjmaaInoY
namespace Go.Proofs.Ytinjllnoonbjmaa
open Go.RowKit
set_option linter.unusedVariables false

section
variable {w w' : World} {B G n m : Nat} {vs : List Int} {F : FS}
set_option maxHeartbeats 1000000 in
theorem put_out (b : Nat) (i : Int) (hi : isI i = false) (R : Array Value) (w : World) :
    Calls Try.prog 27 #[sto b, .int .i64 i, .agg R] w fun e w' => e = .returned (.int .i64 101) ∧ Below w.heap.size w w' := by
  have hI := fun W => isInode_at i W
  rw [hi] at hI
  have hni := sto_nil b
  clear hi
  go_enter Try.func27, Try.ntmps27
  go_wp2_with fail
  refine (hI _).mono ?_
  rintro e w1 ⟨rfl, hw⟩
  rw [hw]
  clear hw w1 hI
  go_wp2
  go_ret
  exact ⟨rfl, below_alloc _ _⟩
set_option maxHeartbeats 2000000 in
set_option maxRecDepth 100000 in
theorem put_in (h : Dk w B G n vs m) (hm : m ≤ 900000) (hn : 13 ≤ n) (hn2 : n ≤ 1024) (i : Nat) (hi : i < 32) (xs : List Int) (hx : xs.length = 9) (hf : ∀ x ∈ xs, Fit x) :
    Calls Try.prog 27 #[sto B, .int .i64 (i : Int), .agg (irow xs)] w fun e w' => e = .returned (.int .i64 0) ∧ Dk w' B G n (putW vs i xs) (m + 2000) ∧ BG B G w w' := by
  have hI := fun W => isInode_at (i : Int) W
  rw [isI_nat hi] at hI
  have hni := sto_nil B
  obtain ⟨R, hR⟩ : ∃ R, R = irow xs := ⟨_, rfl⟩
  have HRs : Hid (R.size = 9) := by rw [hR]; show _ = _; rw [irow_size]; exact hx
  obtain ⟨W0, hW0⟩ : ∃ W, W = w.alloc (.cells R 47) := ⟨_, rfl⟩
  have hb0 : Below w.heap.size w W0 := by rw [hW0]; exact below_alloc _ _
  have hs0 : W0.heap.size = w.heap.size + 1 := by rw [hW0]; simp
  have hr0 : W0.heap[w.heap.size]? = some (.cells R 47) := by rw [hW0]; exact heap_alloc_new _ _
  obtain ⟨gt, pt, hd, h1, h2⟩ := h.below hb0
  have hst := Dr.start hd h1 h2 hn2
  obtain ⟨W1, hW1⟩ : ∃ W, W = W0.alloc (.cells #[sto B, .slice none 0 0, .int .i64 0] 78) := ⟨_, rfl⟩
  have hb1 : Below W0.heap.size W0 W1 := by rw [hW1]; exact below_alloc _ _
  rw [← hW1] at hst
  have hG := dsetInode_at hst hm hn hb1.size i hi xs hx hf
  rw [← hR] at hG ⊢
  have HR0 : Hid (W1.heap[w.heap.size]? = some (.cells R 47)) := (hb1.block _ (lt_of_heap hr0)).trans hr0
  have HW0 : Hid _ := hW0
  have HW1 : Hid _ := hW1
  have HB1 : Hid (Below w.heap.size w W1) := hb0.trans (hb1.mono hb0.size)
  have HS0 : Hid (W0.heap.size = w.heap.size + 1) := hs0
  have HS1 : Hid (W1.heap.size = w.heap.size + 2) := by rw [hW1]; show _ = _; simp; omega
  clear h hb0 hs0 hr0 hd h1 h2 hst hb1 hW0 hW1 hf hx hR
  go_enter Try.func27, Try.ntmps27
  go_wp2_with fail
  rw [← HW0.out]
  refine (hI _).mono ?_
  rintro e w1 ⟨rfl, hw⟩
  rw [hw]
  clear hw w1 hI
  go_wp2_with (first
    | (refine wpList_load_row rfl 47 _ rfl w.heap.size rfl 47 R (0, 0) _ (by rw [← HW1.out]; exact HR0.out) Try.underlying47 rfl (by rw [HRs.out]; exact inoSize) ?_)
    | fail)
  rw [← HW1.out]
  refine hG.mono ?_
  rintro e w2 ⟨rfl, hdr, hdt⟩
  have hL := dlay_at hdr hm
  have HT : Hid (DT W0.heap.size B W1 w2) := hdt
  clear hG hdr hdt
  go_wp2_with fail
  refine hL.mono ?_
  rintro e w3 ⟨rfl, hd3, hu3⟩
  have HD3 : Hid (Dk w3 B G n (putW vs i xs) (m + 2000)) := by
    obtain ⟨gt, pt, q1, q2, q3⟩ := hd3
    exact ⟨gt, pt, q1, by omega, by omega⟩
  have HU3 : Hid (BG B G w3 w3) := UpdP.refl _ _
  have HU : Hid (BG B G w w3) := by
    have a1 : BG B G w w2 := bg_start HB1.out HT.out (by rw [HS0.out]; omega)
    exact a1.trans hu3
  clear hL hd3 hu3
  go_wp2
  go_ret
  exact ⟨rfl, HD3.out, HU.out⟩
theorem FsAt.dk (h : FsAt w B G F vs m) : Dk w B G F.n vs m := h.disk
/-- A file system on a disk. -/
def Fs (w : World) (B G : Nat) (F : FS) (m : Nat) : Prop := ∃ vs, FsAt w B G F vs m
theorem Fs.below (h : Fs w B G F m) (hb : Below w.heap.size w w') : Fs w' B G F m := by
  obtain ⟨vs, h⟩ := h
  exact ⟨vs, h.dk.below hb, h.hold, h.inv⟩
theorem Fs.mono {m' : Nat} (h : Fs w B G F m) (hm : m ≤ m') : Fs w B G F m' := by
  obtain ⟨vs, h⟩ := h
  exact ⟨vs, h.dk.mono hm, h.hold, h.inv⟩
theorem Fs.inv (h : Fs w B G F m) : FInv F := by
  obtain ⟨vs, h⟩ := h
  exact h.inv
theorem Fs.lt (h : Fs w B G F m) : B < w.heap.size ∧ G < w.heap.size := by
  obtain ⟨vs, h⟩ := h
  exact h.dk.lt
set_option maxHeartbeats 2000000 in
set_option maxRecDepth 100000 in
theorem left_at (h : Fs w B G F m) (hm : m ≤ 900000) :
    Calls Try.prog 23 #[sto B] w fun e w' => e = .returned (.tuple #[.int .i64 ((Bi.cntF (Bi.bt F.iw) 32 : Nat) : Int), .int .i64 ((Bi.cntF (Bi.bt F.bw) F.n : Nat) : Int)]) ∧ Fs w' B G F (m + 2000) ∧ BG B G w w' := by
  obtain ⟨vs, h⟩ := h
  have HI : Hid (Holds vs F ∧ FInv F) := ⟨h.hold, h.inv⟩
  have hni := sto_nil B
  have hn1 := h.inv.n1
  have hn2 := h.inv.n2
  obtain ⟨gt, pt, hd, h1, h2⟩ := h.disk
  have hst := Dr.start hd h1 h2 hn2
  obtain ⟨W1, hW1⟩ : ∃ W, W = w.alloc (.cells #[sto B, .slice none 0 0, .int .i64 0] 78) := ⟨_, rfl⟩
  have hb1 : Below w.heap.size w W1 := by rw [hW1]; exact below_alloc _ _
  rw [← hW1] at hst
  have hH := dhead_at hst hm hb1.size hn1 hn2 h.inv.iw h.inv.bw h.inv.low (by rw [h.hold.head]; rfl)
  have HW1 : Hid _ := hW1
  have HB1 : Hid (Below w.heap.size w W1) := hb1
  clear h hd h1 h2 hst hW1 hb1
  go_enter Try.func23, Try.ntmps23
  go_wp2_with fail
  rw [← HW1.out]
  refine hH.mono ?_
  rintro e w1 ⟨hi, hb, rfl, ⟨gi, gb, hbm⟩, hdr, hdt⟩
  obtain ⟨W2, hW2⟩ : ∃ W, W = w1.alloc (.cells #[ptr hi, ptr hb] 81) := ⟨_, rfl⟩
  have hb2 : Below w1.heap.size w1 W2 := by rw [hW2]; exact below_alloc _ _
  have HW2 : Hid _ := hW2
  have hp2 : W2.heap[w1.heap.size]? = some (.cells #[ptr hi, ptr hb] 81) := by rw [hW2]; exact heap_alloc_new _ _
  have HBm : Hid (Bms W2 W1.heap.size hi gi hb gb F.n F.iw F.bw) := hbm.below hb2
  have hL1 := fun q => Bi.left_at hi gi 32 F.iw (W2.drewN q) (HBm.out.bi.drew q)
  have hL2 := fun q => Bi.left_at hb gb F.n F.bw (W2.drewN q) (HBm.out.bb.drew q)
  have HD2 : Hid (Dr W2 w.heap.size w.heap.size B G F.n vs vs m) := hdr.below hb2
  have HU2 : Hid (BG B G w W2) := by
    exact (bg_start HB1.out hdt (Nat.le_refl _)).trans (UpdP.of_below hb2)
  obtain ⟨p, hp⟩ : ∃ p, p = w1.heap.size := ⟨_, rfl⟩
  have Hp : Hid (p = w1.heap.size) := hp
  rw [← hp] at hp2
  have c0 : W2.cell? ⟨p, 0, none⟩ = some (ptr hi) := by rw [cell_of_heap hp2]; rfl
  have c1 : W2.cell? ⟨p, 1, none⟩ = some (ptr hb) := by rw [cell_of_heap hp2]; rfl
  obtain ⟨n1, hn1q⟩ : ∃ k, k = Bi.cntF (Bi.bt F.iw) 32 := ⟨_, rfl⟩
  obtain ⟨n2, hn2q⟩ : ∃ k, k = Bi.cntF (Bi.bt F.bw) F.n := ⟨_, rfl⟩
  have HN : Hid (n1 = Bi.cntF (Bi.bt F.iw) 32 ∧ n2 = Bi.cntF (Bi.bt F.bw) F.n) := ⟨hn1q, hn2q⟩
  rw [← hn1q] at hL1
  rw [← hn2q] at hL2
  clear hH hbm hdr hdt hW2 hb2 hp2 hp hn1q hn2q
  go_wp2_with fail
  rw [← HW2.out, ← Hp.out]
  go_quiet (first | (go_at_call 57; first | refine Calls.quiet_of (hL1 _) | refine Calls.quiet_of (hL2 _)))
  go_wp2
  go_ret2
  obtain ⟨gt, pt, hk, q1, q2⟩ := HD2.out.disk
  have hbq := Di.drewN_below (w := W2) ⟨nq, rfl⟩
  exact ⟨by rw [← HN.out.1, ← HN.out.2]; rfl, ⟨vs, ⟨gt, pt, hk.below hbq, by omega, by omega⟩, HI.out.1, HI.out.2⟩, HU2.out.trans (UpdP.of_below hbq)⟩
end
end Go.Proofs.Ytinjllnoonbjmaa
