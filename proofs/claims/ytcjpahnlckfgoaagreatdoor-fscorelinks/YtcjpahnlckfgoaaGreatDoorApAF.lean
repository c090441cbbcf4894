/- Package inode: Put, Left. -/
/- Package inode: Format. -/
import Derived.Test.YtcjpahnlckfgoaaGreatDoorInoYZ
namespace Go.Proofs.YtcjpahnlckfgoaaGreatDoor
open Go.RowKit
set_option linter.unusedVariables false

section
variable {w w' : World} {n m : Nat} {B : Sto} {vs : List Int} {F : FS}
set_option maxHeartbeats 1000000 in
theorem put_out {B : Sto} (hS : SOk B) (i : Int) (hi : isI i = false) (R : Array Value) (w : World) :
    Calls Tryz.prog 170 #[sto B, .int .i64 i, .agg R] w fun e w' => e = .returned (.int .i64 101) ∧ Below w.heap.size w w' := by
  have hI := fun W => isInode_at i W
  rw [hi] at hI
  have hni := sto_nil hS
  clear hi
  go_enter Tryz.func170, Tryz.ntmps170
  go_wp2_with fail
  refine (hI _).mono ?_
  rintro e w1 ⟨rfl, hw⟩
  rw [hw]
  clear hw w1 hI
  go_wp2
  go_ret
  exact ⟨rfl, below_alloc _ _⟩
set_option maxHeartbeats 2000000 in
set_option maxRecDepth 100000 in
theorem put_in (h : Dk w B n vs m) (hm : m ≤ 900000000000) (hn : 13 ≤ n) (hn2 : n ≤ 1024) (i : Nat) (hi : i < 32) (xs : List Int) (hx : xs.length = 9) (hf : ∀ x ∈ xs, Fit x) :
    Calls Tryz.prog 170 #[sto B, .int .i64 (i : Int), .agg (irow xs)] w fun e w' => e = .returned (.int .i64 0) ∧ Dk w' B n (putW vs i xs) (m + 3000) ∧ BG B w w' := by
  have hI := fun W => isInode_at (i : Int) W
  rw [isI_nat hi] at hI
  have hni := sto_nil h.ok
  obtain ⟨R, hR⟩ : ∃ R, R = irow xs := ⟨_, rfl⟩
  have HRs : Hid (R.size = 9) := by rw [hR]; show _ = _; rw [irow_size]; exact hx
  obtain ⟨W0, hW0⟩ : ∃ W, W = w.alloc (.cells R 63) := ⟨_, rfl⟩
  have hb0 : Below w.heap.size w W0 := by rw [hW0]; exact below_alloc _ _
  have hs0 : W0.heap.size = w.heap.size + 1 := by rw [hW0]; simp
  have hr0 : W0.heap[w.heap.size]? = some (.cells R 63) := by rw [hW0]; exact heap_alloc_new _ _
  have hst := Dr.start (h.below hb0) hn2
  obtain ⟨W1, hW1⟩ : ∃ W, W = W0.alloc (.cells #[sto B, .slice none 0 0, .int .i64 0] 102) := ⟨_, rfl⟩
  have hb1 : Below W0.heap.size W0 W1 := by rw [hW1]; exact below_alloc _ _
  rw [← hW1] at hst
  have hG := dsetInode_at hst hm hn hb1.size i hi xs hx hf
  rw [← hR] at hG ⊢
  have HR0 : Hid (W1.heap[w.heap.size]? = some (.cells R 63)) := (hb1.block _ (lt_of_heap hr0)).trans hr0
  have HW0 : Hid _ := hW0
  have HW1 : Hid _ := hW1
  have HB1 : Hid (Below w.heap.size w W1) := hb0.trans (hb1.mono hb0.size)
  have HS0 : Hid (W0.heap.size = w.heap.size + 1) := hs0
  have HS1 : Hid (W1.heap.size = w.heap.size + 2) := by rw [hW1]; show _ = _; simp; omega
  clear h hb0 hs0 hr0 hst hb1 hW0 hW1 hf hx hR
  go_enter Tryz.func170, Tryz.ntmps170
  go_wp2_with fail
  rw [← HW0.out]
  refine (hI _).mono ?_
  rintro e w1 ⟨rfl, hw⟩
  rw [hw]
  clear hw w1 hI
  go_wp2_with (first
    | (refine wpList_load_row rfl 63 _ rfl w.heap.size rfl 63 R (0, 0) _ (by rw [← HW1.out]; exact HR0.out) Tryz.underlying63 rfl (by rw [HRs.out]; exact inoSize) ?_)
    | fail)
  rw [← HW1.out]
  refine hG.mono ?_
  rintro e w2 ⟨rfl, hdr, hdt⟩
  have hL := dlay_at hdr hm
  have HT : Hid (DT W0.heap.size B W1 w2) := hdt
  clear hG hdr hdt
  go_wp2_with fail
  refine hL.mono ?_
  rintro e w3 ⟨rfl, hd3, hu3⟩
  have HD3 : Hid (Dk w3 B n (putW vs i xs) (m + 3000)) := hd3.mono (by omega)
  have HU3 : Hid (BG B w3 w3) := SU.refl _ _ _
  have HU : Hid (BG B w w3) := by
    have a1 : BG B w w2 := bg_start HB1.out HT.out (by rw [HS0.out]; omega)
    exact a1.trans hu3
  clear hL hd3 hu3
  go_wp2
  go_ret
  exact ⟨rfl, HD3.out, HU.out⟩
theorem FsAt.dk (h : FsAt w B F vs m) : Dk w B F.n vs m := h.disk
/-- A file system on a disk. -/
def Fs (w : World) (B : Sto) (F : FS) (m : Nat) : Prop := ∃ vs, FsAt w B F vs m
theorem Fs.below (h : Fs w B F m) (hb : Below w.heap.size w w') : Fs w' B F m := by
  obtain ⟨vs, h⟩ := h
  exact ⟨vs, h.dk.below hb, h.hold, h.inv⟩
theorem Fs.mono {m' : Nat} (h : Fs w B F m) (hm : m ≤ m') : Fs w B F m' := by
  obtain ⟨vs, h⟩ := h
  exact ⟨vs, h.dk.mono hm, h.hold, h.inv⟩
theorem Fs.inv (h : Fs w B F m) : FInv F := by
  obtain ⟨vs, h⟩ := h
  exact h.inv
theorem Fs.ok (h : Fs w B F m) : SOk B := by
  obtain ⟨vs, h⟩ := h
  exact h.dk.ok
theorem Fs.low (h : Fs w B F m) : B.lo ≤ w.heap.size := by
  obtain ⟨vs, h⟩ := h
  exact h.dk.low
theorem FsAt.ok (h : FsAt w B F vs m) : SOk B := h.dk.ok
set_option maxHeartbeats 2000000 in
set_option maxRecDepth 100000 in
theorem left_at (h : Fs w B F m) (hm : m ≤ 900000000000) :
    Calls Tryz.prog 25 #[sto B] w fun e w' => e = .returned (.tuple #[.int .i64 ((Bi.cntF (Bi.bt F.iw) 32 : Nat) : Int), .int .i64 ((Bi.cntF (Bi.bt F.bw) F.n : Nat) : Int)]) ∧ Fs w' B F (m + 3000) ∧ BG B w w' := by
  obtain ⟨vs, h⟩ := h
  have HI : Hid (Holds vs F ∧ FInv F) := ⟨h.hold, h.inv⟩
  have hni := sto_nil h.ok
  have hn1 := h.inv.n1
  have hn2 := h.inv.n2
  have hst := Dr.start h.disk hn2
  obtain ⟨W1, hW1⟩ : ∃ W, W = w.alloc (.cells #[sto B, .slice none 0 0, .int .i64 0] 102) := ⟨_, rfl⟩
  have hb1 : Below w.heap.size w W1 := by rw [hW1]; exact below_alloc _ _
  rw [← hW1] at hst
  have hH := dhead_at hst hm hb1.size hn1 hn2 h.inv.iw h.inv.bw h.inv.low (by rw [h.hold.head]; rfl)
  have HW1 : Hid _ := hW1
  have HB1 : Hid (Below w.heap.size w W1) := hb1
  clear h hst hW1 hb1
  go_enter Tryz.func25, Tryz.ntmps25
  go_wp2_with fail
  rw [← HW1.out]
  refine hH.mono ?_
  rintro e w1 ⟨hi, hb, rfl, ⟨gi, gb, hbm⟩, hdr, hdt⟩
  obtain ⟨W2, hW2⟩ : ∃ W, W = w1.alloc (.cells #[ptr hi, ptr hb] 111) := ⟨_, rfl⟩
  have hb2 : Below w1.heap.size w1 W2 := by rw [hW2]; exact below_alloc _ _
  have HW2 : Hid _ := hW2
  have hp2 : W2.heap[w1.heap.size]? = some (.cells #[ptr hi, ptr hb] 111) := by rw [hW2]; exact heap_alloc_new _ _
  have HBm : Hid (Bms W2 W1.heap.size hi gi hb gb F.n F.iw F.bw) := hbm.below hb2
  have hL1 := fun q => Bi.left_at hi gi 32 F.iw (W2.drewN q) (HBm.out.bi.drew q)
  have hL2 := fun q => Bi.left_at hb gb F.n F.bw (W2.drewN q) (HBm.out.bb.drew q)
  have HD2 : Hid (Dr W2 w.heap.size w.heap.size B F.n vs vs m) := hdr.below hb2
  have HU2 : Hid (BG B w W2) := by
    exact (bg_start HB1.out hdt (Nat.le_refl _)).trans (SU.of_below hb2)
  obtain ⟨p, hp⟩ : ∃ p, p = w1.heap.size := ⟨_, rfl⟩
  have Hp : Hid (p = w1.heap.size) := hp
  rw [← hp] at hp2
  have c0 : W2.cell? ⟨p, 0, none⟩ = some (ptr hi) := by rw [cell_of_heap hp2]; rfl
  have c1 : W2.cell? ⟨p, 1, none⟩ = some (ptr hb) := by rw [cell_of_heap hp2]; rfl
  obtain ⟨n1, hn1q⟩ : ∃ k, k = Bi.cntF (Bi.bt F.iw) 32 := ⟨_, rfl⟩
  obtain ⟨n2, hn2q⟩ : ∃ k, k = Bi.cntF (Bi.bt F.bw) F.n := ⟨_, rfl⟩
  have HN : Hid (n1 = Bi.cntF (Bi.bt F.iw) 32 ∧ n2 = Bi.cntF (Bi.bt F.bw) F.n) := ⟨hn1q, hn2q⟩
  rw [← hn1q] at hL1
  rw [← hn2q] at hL2
  clear hH hbm hdr hdt hW2 hb2 hp2 hp hn1q hn2q
  go_wp2_with fail
  rw [← HW2.out, ← Hp.out]
  go_quiet (first | (go_at_call 67; first | refine Calls.quiet_of (hL1 _) | refine Calls.quiet_of (hL2 _)))
  go_wp2
  go_ret2
  have hk := HD2.out.disk
  have hbq := Di.drewN_below (w := W2) ⟨nq, rfl⟩
  exact ⟨by rw [← HN.out.1, ← HN.out.2]; rfl, ⟨vs, (hk.below hbq).mono (by omega), HI.out.1, HI.out.2⟩, HU2.out.trans (SU.of_below hbq)⟩
end
end Go.Proofs.YtcjpahnlckfgoaaGreatDoor

namespace Go.Proofs.YtcjpahnlckfgoaaGreatDoor
open Go.RowKit
set_option linter.unusedVariables false

/-- A new file system. -/
def F0 (n : Nat) : FS := ⟨n, [1], [4095], fun j => if j = 0 then ⟨2, 1, [], []⟩ else Ino.no⟩
theorem k_low12 : ∀ b, b < 12 → Bi.bt [4095] b = true := by decide +kernel
theorem bt_one {w i : Nat} (h : w < 2 ^ i) : Bi.bt [w] i = false ∨ i < 64 := by
  rcases Nat.lt_or_ge i 64 with q | q
  · exact Or.inr q
  · exact Or.inl (Bi.bt_far _ _ (by simp; omega))
theorem wf_one {n w : Nat} (h1 : 1 ≤ n) (h2 : n ≤ 64) (hw : w < 2 ^ n) (hw2 : w < 18446744073709551616) : Bi.Wf n [w] := by
  refine ⟨by simp; omega, fun x hx => by simp at hx; omega, fun i hi => ?_⟩
  rcases Nat.lt_or_ge i 64 with q | q
  · unfold Bi.bt
    have e1 : i / 64 = 0 := by omega
    have e2 : i % 64 = i := by omega
    rw [e1, e2]
    exact Nat.testBit_lt_two_pow (Nat.lt_of_lt_of_le hw (Nat.pow_le_pow_right (by omega) hi))
  · exact Bi.bt_far _ _ (by simp; omega)
theorem f0_inv {n : Nat} (h1 : 13 ≤ n) (h2 : n ≤ 64) : FInv (F0 n) := by
  have hb : ∀ j, ((F0 n).ino j).blk = [] := fun j => by
    show (if j = 0 then (⟨2, 1, [], []⟩ : Ino) else Ino.no).blk = []
    split <;> rfl
  have ht : ∀ j, ((F0 n).ino j).txt = [] := fun j => by
    show (if j = 0 then (⟨2, 1, [], []⟩ : Ino) else Ino.no).txt = []
    split <;> rfl
  have hbt : ∀ b, 12 ≤ b → Bi.bt [4095] b = false := fun b hb => by
    rcases Nat.lt_or_ge b 64 with q | q
    · unfold Bi.bt
      have e1 : b / 64 = 0 := by omega
      have e2 : b % 64 = b := by omega
      rw [e1, e2]
      exact Nat.testBit_lt_two_pow (Nat.lt_of_lt_of_le (show (4095 : Nat) < 2 ^ 12 by decide) (Nat.pow_le_pow_right (by omega) hb))
    · exact Bi.bt_far _ _ (by simp; omega)
  have hno : ∀ i, i < 32 → Bi.bt (F0 n).iw i = false → (F0 n).ino i = Ino.no := fun i hi hn => by
    have : i ≠ 0 := by
      rintro rfl
      revert hn
      show ¬ Bi.bt [1] 0 = false
      decide +kernel
    exact if_neg this
  have hnum : ∀ i, i < 32 → 0 ≤ ((F0 n).ino i).kind ∧ ((F0 n).ino i).kind < 9223372036854775808 ∧ 0 ≤ ((F0 n).ino i).links ∧ ((F0 n).ino i).links < 9223372036854775808 := fun i _ => by
    by_cases e : i = 0
    · have e1 : (F0 n).ino i = ⟨2, 1, [], []⟩ := if_pos e
      rw [e1]
      decide
    · have e1 : (F0 n).ino i = Ino.no := if_neg e
      rw [e1]
      decide
  exact {
    n1 := h1
    n2 := (by show n ≤ 1024; omega)
    iw := wf_one (n := 32) (by omega) (by omega) (by decide) (by decide)
    bw := wf_one (n := n) (by omega) h2 (Nat.lt_of_lt_of_le (show (4095 : Nat) < 2 ^ 12 by decide) (Nat.pow_le_pow_right (by omega) (by omega))) (by decide)
    low := k_low12
    root := (by show Bi.bt [1] 0 = true; decide +kernel)
    none := hno
    max := fun i _ => by rw [ht]; simp
    byte := fun i _ => by rw [ht]; simp
    num := hnum
    len := fun i _ => by rw [hb, ht]; rfl
    data := fun i _ b hq => by rw [hb] at hq; cases hq
    one := fun i j _ _ b hq => by rw [hb] at hq; cases hq
    nd := fun i _ => by rw [hb]; exact List.nodup_nil
    whose := fun b q1 q2 q3 => by
      have q3' : Bi.bt [4095] b = true := q3
      rw [hbt b q1] at q3'
      cases q3' }
theorem tab_zero {n : Nat} {j : Nat} (hj : 0 < j) : (F0 n).tab j = List.replicate 32 0 := by
  have h : ∀ i, 0 < i → (F0 n).at i = Ino.no := fun i hi => by
    unfold FS.at
    split
    · show (if i = 0 then (⟨2, 1, [], []⟩ : Ino) else Ino.no) = Ino.no
      rw [if_neg (by omega)]
    · rfl
  unfold FS.tab
  rw [h _ (by omega), h _ (by omega), h _ (by omega)]
  rfl
theorem tab_first {n : Nat} : (F0 n).tab 0 = splice (List.replicate 32 0) 0 [2, 1, 0, 0, 0, 0, 0, 0, 0] := rfl
/-- The words of a new file system. -/
theorem f0_holds {n : Nat} (h1 : 13 ≤ n) (h2 : n ≤ 64) {u : List Int} (hl : u.length = n * 32) (hz : ∀ b, b < n → frameOf u b = List.replicate 32 0) : Holds (putW (splice u 0 (hdW n [1] [4095])) 0 [2, 1, 0, 0, 0, 0, 0, 0, 0]) (F0 n) := by
  have hhl : (hdW n [1] [4095]).length = 32 := hdW_len rfl (by simp)
  have h1l : (splice u 0 (hdW n [1] [4095])).length = n * 32 := by rw [splice_length _ _ _ (by omega), hl]
  have hfr1 : ∀ b, b < n → frameOf (splice u 0 (hdW n [1] [4095])) b = if b = 0 then hdW n [1] [4095] else frameOf u b := by
    intro b hb
    have := frame_splice u (hdW n [1] [4095]) n 0 b hl (by omega) hb hhl
    rwa [Nat.zero_mul] at this
  have ht : frameOf (splice u 0 (hdW n [1] [4095])) 1 = List.replicate 32 0 := by rw [hfr1 1 (by omega), if_neg (by omega), hz 1 (by omega)]
  have hsl : (splice (List.replicate 32 (0 : Int)) 0 [2, 1, 0, 0, 0, 0, 0, 0, 0]).length = 32 := rfl
  have hpw : putW (splice u 0 (hdW n [1] [4095])) 0 [2, 1, 0, 0, 0, 0, 0, 0, 0] = splice (splice u 0 (hdW n [1] [4095])) (1 * 32) (splice (List.replicate 32 0) 0 [2, 1, 0, 0, 0, 0, 0, 0, 0]) := by
    unfold putW
    show splice _ (1 * 32) (splice (frameOf _ 1) 0 _) = _
    rw [ht]
  have hfr2 : ∀ b, b < n → frameOf (putW (splice u 0 (hdW n [1] [4095])) 0 [2, 1, 0, 0, 0, 0, 0, 0, 0]) b = if b = 1 then splice (List.replicate 32 0) 0 [2, 1, 0, 0, 0, 0, 0, 0, 0] else frameOf (splice u 0 (hdW n [1] [4095])) b := by
    intro b hb
    rw [hpw]
    exact frame_splice _ _ n 1 b h1l (by omega) hb hsl
  refine ⟨?_, ?_, fun j hj => ?_, fun m hm k b hb => ?_⟩
  · rw [hpw, splice_length _ _ _ (by rw [h1l, hsl]; omega), h1l]
    rfl
  · rw [hfr2 0 (by omega), if_neg (by omega), hfr1 0 (by omega), if_pos rfl]
    rfl
  · rw [hfr2 (1 + j) (by omega)]
    by_cases e : j = 0
    · subst e
      rw [if_pos rfl]
      rfl
    · rw [if_neg (by omega), hfr1 _ (by omega), if_neg (by omega), hz _ (by omega), tab_zero (by omega)]
  · have : ((F0 n).ino m).blk = [] := by
      show (if m = 0 then (⟨2, 1, [], []⟩ : Ino) else Ino.no).blk = []
      split <;> rfl
    rw [this] at hb
    simp at hb
section
variable {w w' : World} {n m : Nat} {B : Sto}
set_option maxHeartbeats 1000000 in
theorem format_nil (n : Int) (w : World) :
    Calls Tryz.prog 20 #[.nilIface, .int .i64 n] w fun e w' => e = .returned (.int .i64 101) ∧ w' = w := by
  go_enter Tryz.func20, Tryz.ntmps20
  go_wp2
  go_ret
  exact ⟨rfl, rfl⟩
set_option maxHeartbeats 4000000 in
set_option maxRecDepth 100000 in
theorem format_at (h : Dk w B n (List.replicate (n * 32) 0) m) (hm : m ≤ 900000000000) (h1 : 13 ≤ n) (h2 : n ≤ 64) :
    Calls Tryz.prog 20 #[sto B, .int .i64 (n : Int)] w fun e w' => e = .returned (.int .i64 0) ∧ Fs w' B (F0 n) (m + 3000) ∧ BG B w w' := by
  have hni := sto_nil h.ok
  have t1 : decide ((n : Int) < 13) = false := by simp; omega
  have t2 : decide (1024 < (n : Int)) = false := by simp; omega
  have hst := Dr.start h (by omega)
  obtain ⟨W1, hW1⟩ : ∃ W, W = w.alloc (.cells #[sto B, .slice none 0 0, .int .i64 0] 102) := ⟨_, rfl⟩
  have hb1 : Below w.heap.size w W1 := by rw [hW1]; exact below_alloc _ _
  rw [← hW1] at hst
  have HW1 : Hid _ := hW1
  have HB1 : Hid (Below w.heap.size w W1) := hb1
  have HD1 : Hid (Dr W1 w.heap.size w.heap.size B n (List.replicate (n * 32) 0) (List.replicate (n * 32) 0) m) := hst
  obtain ⟨zs, hzs⟩ : ∃ z, z = List.replicate (n * 32) (0 : Int) := ⟨_, rfl⟩
  have HZ0 : Hid (∀ b, b < n → frameOf zs b = List.replicate 32 0) := by rw [hzs]; exact fun b hb => frame_zeros n b hb
  rw [← hzs] at HD1
  clear h hst hW1 hb1 hzs
  go_enter Tryz.func20, Tryz.ntmps20
  go_wp2
  rw [← HW1.out]
  clear HW1
  obtain ⟨bd, hbd⟩ : ∃ b, b = w.heap.size := ⟨_, rfl⟩
  have Hbd : Hid (bd = w.heap.size) := hbd
  rw [← hbd] at HD1 ⊢
  clear hbd
  go_loopw [20] (fun z wr => ∃ (k : Nat) (us : List Int), k ≤ 12 ∧ z = .int .i64 k ∧ Dr wr bd bd B n zs us m ∧ DT bd B W1 wr ∧ Hid (∀ b, b < n → frameOf us b = List.replicate 32 0)) (fun z _ => 12 - (intOf z).toNat)
  case atStart => exact ⟨0, _, by omega, rfl, HD1.out, DT.refl _ _ _, HZ0.out⟩
  case round =>
    clear HD1
    obtain ⟨k, us, hk, rfl, hdr, hdt, HZ⟩ := hrel
    have HT : Hid (DT bd B W1 wr) := hdt
    have HUl : Hid (us.length = n * 32) := hdr.len
    by_cases hlt : k < 12
    · have hki : decide ((k : Int) < 12) = true := by simp; omega
      have hA := dat_at hdr k (by omega) hm
      clear hdr hdt
      go_wp2_with fail
      refine hA.mono ?_
      rintro e w3 ⟨q, rfl, hq, hdt3⟩
      have HQ : Hid (DrQ w3 bd bd B n zs us m k q) := hq
      have HZs : Hid (zc.size = 32) := by unfold zc; rw [urow_size]; simp [Hid]
      have hz := lit_zc
      obtain ⟨r1, r2⟩ := hq.cells (us := List.replicate 32 0) (R := zc) (by simp) rfl
      have HR1 : Hid (Dr (w3.setCells q 33 zc.toList) bd bd B n zs (splice us (k * 32) (List.replicate 32 0)) m) := r1.dr
      have HR2 : Hid (DT bd B W1 (w3.setCells q 33 zc.toList)) := (HT.out.trans hdt3).trans r2
      obtain ⟨W4, hW4⟩ : ∃ W, W = w3.setCells q 33 zc.toList := ⟨_, rfl⟩
      have HW4 : Hid _ := hW4
      rw [← hW4] at HR1 HR2
      clear hA hq hdt3 r1 r2 hW4
      go_wp2_with (first
        | (refine wpList_store_midQ HQ.out rfl _ _ rfl zc rfl rfl HZs.out (urow_one _) ?_; rw [← HW4.out])
        | go_in)
      go_roundw
      case rel =>
        refine ⟨k + 1, _, by omega, by go_num, HR1.out, HR2.out, fun b hb => ?_⟩
        rw [frame_splice us _ n k b HUl.out (by omega) hb (by simp)]
        split
        · rfl
        · exact HZ.out b hb
      case measure => simp [intOf]; omega
    · have hki : decide ((k : Int) < 12) = false := by simp; omega
      have hk12 : ¬ (k : Int) < 12 := by omega
      have hN := newHead_at n wr h1 h2
      have HD : Hid (Dr wr bd bd B n zs us m) := hdr
      clear hdr hdt
      go_wp2_with fail
      refine hN.mono ?_
      rintro e w2 ⟨hi, hb, rfl, hbm, hb2⟩
      have hS := dsetHead_at (HD.out.below hb2) hm (by omega) hbm
      have HT2 : Hid (DT bd B W1 w2) := HT.out.trans (DT.of_below hb2)
      clear hN hbm hb2
      go_wp2_with fail
      refine hS.mono ?_
      rintro e w3 ⟨rfl, hd3, ht3⟩
      have HT3 : Hid (DT bd B W1 w3) := HT2.out.trans ht3
      have hI := dsetInode_at hd3 hm h1 (by have a1 := HT3.out.size; have a2 := HB1.out.size; have a3 := Hbd.out; omega) 0 (by omega) [2, 1, 0, 0, 0, 0, 0, 0, 0] rfl (by
        intro x hx
        simp only [List.mem_cons, List.not_mem_nil, or_false] at hx
        rcases hx with rfl | rfl | rfl | rfl | rfl | rfl | rfl | rfl | rfl <;> exact ⟨by omega, by omega⟩)
      have hirow : irow [2, 1, 0, 0, 0, 0, 0, 0, 0] = #[.int .i64 2, .int .i64 1, .int .i64 0, .int .i64 0, .int .i64 0, .int .i64 0, .int .i64 0, .int .i64 0, .int .i64 0] := rfl
      rw [hirow] at hI
      clear hS hd3 ht3 hirow
      go_wp2_with fail
      refine hI.mono ?_
      rintro e w4 ⟨rfl, hd4, ht4⟩
      have hL := dlay_at hd4 hm
      have HT4 : Hid (DT bd B W1 w4) := HT3.out.trans ht4
      clear hI hd4 ht4
      go_wp2_with fail
      refine hL.mono ?_
      rintro e w5 ⟨rfl, hd5, hu5⟩
      have HE : Hid (Fs w5 B (F0 n) (m + 3000) ∧ BG B w w5) := by
        have hk := hd5
        refine ⟨⟨_, hk.mono (by omega), f0_holds h1 h2 HUl.out HZ.out, f0_inv h1 h2⟩, ?_⟩
        exact (bg_start HB1.out HT4.out (by have := Hbd.out; omega)).trans hu5
      clear hL hd5 hu5
      go_wp2
      go_ret
      exact ⟨rfl, HE.out.1, HE.out.2⟩
end
end Go.Proofs.YtcjpahnlckfgoaaGreatDoor
