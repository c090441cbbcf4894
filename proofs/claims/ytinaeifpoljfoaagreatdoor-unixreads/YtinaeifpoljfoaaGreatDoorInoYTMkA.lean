import Derived.Test.YtinaeifpoljfoaaGreatDoorInoITInoO
import Derived.Test.YtinaeifpoljfoaaGreatDoorDfBTFsA
import Derived.Laws.IdiomStrings
import Derived.WalkMore
import Derived.ScopeJumps
import Derived.Lib.AppendStr
set_option linter.all false
set_option maxRecDepth 100000
set_option maxHeartbeats 16000000
namespace Go.Proofs.YtinaeifpoljfoaaGreatDoor
open Go.RowKit
section
variable {w w' : World} {n m : Nat} {B : Sto} {vs : List Int} {F : FS}
theorem bg_start {base : Nat} {W1 w2 : World} (h1 : Below w.heap.size w W1) (hT : DT base B W1 w2) (hb : w.heap.size ≤ base) : BG B w w2 :=
 ⟨hT.os.trans h1.os, hT.tape.trans h1.tape, hT.output.trans h1.output, Nat.le_trans h1.size hT.size, fun k hk hs _ => (hT.block k (Nat.lt_of_lt_of_le hk h1.size) (hs.elim Or.inl (fun x => Or.inr (fun y => x ((isSt_same (h1.block k hk)).1 y)))) (Or.inl (by omega))).trans (h1.block k hk)⟩
end
section
variable {w w' : World} {n m : Nat} {B : Sto} {vs : List Int} {F : FS}
theorem FsAt.dk (h : FsAt w B F vs m) : Dk w B F.n vs m := h.disk
def Fs (w : World) (B : Sto) (F : FS) (m : Nat) : Prop := ∃ vs, FsAt w B F vs m
theorem Fs.mono {m' : Nat} (h : Fs w B F m) (hm : m ≤ m') : Fs w B F m' := by
 obtain ⟨vs, h⟩ := h;exact ⟨vs, h.dk.mono hm, h.hold, h.inv⟩
theorem Fs.inv (h : Fs w B F m) : FInv F := by
 obtain ⟨vs, h⟩ := h;exact h.inv
theorem Fs.ok (h : Fs w B F m) : SOk B := by
 obtain ⟨vs, h⟩ := h;exact h.dk.ok
theorem Fs.low (h : Fs w B F m) : B.lo ≤ w.heap.size := by
 obtain ⟨vs, h⟩ := h;exact h.dk.low
theorem FsAt.ok (h : FsAt w B F vs m) : SOk B := h.dk.ok
end
def F0 (n : Nat) : FS := ⟨n, [1], [4095], fun j => if j = 0 then ⟨2, 1, [], []⟩ else Ino.no⟩
theorem k_low12 : ∀ b, b < 12 → Bi.bt [4095] b = true := by decide +kernel
theorem wf_one {n w : Nat} (h1 : 1 ≤ n) (h2 : n ≤ 64) (hw : w < 2 ^ n) (hw2 : w < 18446744073709551616) : Bi.Wf n [w] := by
 refine ⟨by simp; omega, fun x hx => by simp at hx; omega, fun i hi => ?_⟩
 rcases Nat.lt_or_ge i 64 with q | q
 ·unfold Bi.bt
  have e1 : i / 64 = 0 := by omega
  have e2 : i % 64 = i := by omega
  rw [e1, e2];exact Nat.testBit_lt_two_pow (Nat.lt_of_lt_of_le hw (Nat.pow_le_pow_right (by omega) hi))
 ·exact Bi.bt_far _ _ (by simp; omega)
theorem f0_inv {n : Nat} (h1 : 13 ≤ n) (h2 : n ≤ 64) : FInv (F0 n) := by
 have hb : ∀ j, ((F0 n).ino j).blk = [] := fun j => by
  show (if j = 0 then (⟨2, 1, [], []⟩ : Ino) else Ino.no).blk = []
  split <;> rfl
 have ht : ∀ j, ((F0 n).ino j).txt = [] := fun j => by
  show (if j = 0 then (⟨2, 1, [], []⟩ : Ino) else Ino.no).txt = []
  split <;> rfl
 have hbt : ∀ b, 12 ≤ b → Bi.bt [4095] b = false := fun b hb => by
  rcases Nat.lt_or_ge b 64 with q | q
  ·unfold Bi.bt
   have e1 : b / 64 = 0 := by omega
   have e2 : b % 64 = b := by omega
   rw [e1, e2];exact Nat.testBit_lt_two_pow (Nat.lt_of_lt_of_le (show (4095 : Nat) < 2 ^ 12 by decide) (Nat.pow_le_pow_right (by omega) hb))
  ·exact Bi.bt_far _ _ (by simp; omega)
 have hno : ∀ i, i < 32 → Bi.bt (F0 n).iw i = false → (F0 n).ino i = Ino.no := fun i hi hn => by
  have : i ≠ 0 := by
   rintro rfl
   revert hn
   show ¬ Bi.bt [1] 0 = false
   decide +kernel
  exact if_neg this
 have hnum : ∀ i, i < 32 → 0 ≤ ((F0 n).ino i).kind ∧ ((F0 n).ino i).kind < 9223372036854775808 ∧ 0 ≤ ((F0 n).ino i).links ∧ ((F0 n).ino i).links < 9223372036854775808 := fun i _ => by
  by_cases e : i = 0
  ·have e1 : (F0 n).ino i = ⟨2, 1, [], []⟩ := if_pos e
   rw [e1]
   decide
  ·have e1 : (F0 n).ino i = Ino.no := if_neg e
   rw [e1]
   decide
 exact {
   n1 := h1
   n2 := (by show n ≤ 1024; omega)
   iw := wf_one (n := 32) (by omega) (by omega) (by decide) (by decide)
   bw := wf_one (n := n) (by omega) h2 (Nat.lt_of_lt_of_le (show (4095 : Nat) < 2 ^ 12 by decide) (Nat.pow_le_pow_right (by omega) (by omega))) (by decide)
   low := k_low12
   root := (by show Bi.bt [1] 0 = true; decide +kernel)
   none := hno
   max := fun i _ => by rw [ht]; simp
   byte := fun i _ => by rw [ht]; simp
   num := hnum
   len := fun i _ => by rw [hb, ht]; rfl
   data := fun i _ b hq => by rw [hb] at hq; cases hq
   one := fun i j _ _ b hq => by rw [hb] at hq; cases hq
   nd := fun i _ => by rw [hb]; exact List.nodup_nil
   whose := fun b q1 q2 q3 => by
     have q3' : Bi.bt [4095] b = true := q3;rw [hbt b q1] at q3'
     cases q3' }
theorem tab_zero {n : Nat} {j : Nat} (hj : 0 < j) : (F0 n).tab j = List.replicate 32 0 := by
 have h : ∀ i, 0 < i → (F0 n).at i = Ino.no := fun i hi => by
  unfold FS.at
  split
  ·show (if i = 0 then (⟨2, 1, [], []⟩ : Ino) else Ino.no) = Ino.no
   rw [if_neg (by omega)]
  ·rfl
 unfold FS.tab;rw [h _ (by omega), h _ (by omega), h _ (by omega)]
 rfl
theorem f0_holds {n : Nat} (h1 : 13 ≤ n) (h2 : n ≤ 64) {u : List Int} (hl : u.length = n * 32) (hz : ∀ b, b < n → frameOf u b = List.replicate 32 0) : Holds (putW (splice u 0 (hdW n [1] [4095])) 0 [2, 1, 0, 0, 0, 0, 0, 0, 0]) (F0 n) := by
 have hhl : (hdW n [1] [4095]).length = 32 := hdW_len rfl (by simp)
 have h1l : (splice u 0 (hdW n [1] [4095])).length = n * 32 := by rw [splice_length _ _ _ (by omega), hl]
 have hfr1 : ∀ b, b < n → frameOf (splice u 0 (hdW n [1] [4095])) b = if b = 0 then hdW n [1] [4095] else frameOf u b := by
  intro b hb;have := frame_splice u (hdW n [1] [4095]) n 0 b hl (by omega) hb hhl
  rwa [Nat.zero_mul] at this
 have ht : frameOf (splice u 0 (hdW n [1] [4095])) 1 = List.replicate 32 0 := by rw [hfr1 1 (by omega), if_neg (by omega), hz 1 (by omega)]
 have hsl : (splice (List.replicate 32 (0 : Int)) 0 [2, 1, 0, 0, 0, 0, 0, 0, 0]).length = 32 := rfl
 have hpw : putW (splice u 0 (hdW n [1] [4095])) 0 [2, 1, 0, 0, 0, 0, 0, 0, 0] = splice (splice u 0 (hdW n [1] [4095])) (1 * 32) (splice (List.replicate 32 0) 0 [2, 1, 0, 0, 0, 0, 0, 0, 0]) := by
  unfold putW
  show splice _ (1 * 32) (splice (frameOf _ 1) 0 _) = _
  rw [ht]
 have hfr2 : ∀ b, b < n → frameOf (putW (splice u 0 (hdW n [1] [4095])) 0 [2, 1, 0, 0, 0, 0, 0, 0, 0]) b = if b = 1 then splice (List.replicate 32 0) 0 [2, 1, 0, 0, 0, 0, 0, 0, 0] else frameOf (splice u 0 (hdW n [1] [4095])) b := by
  intro b hb;rw [hpw];exact frame_splice _ _ n 1 b h1l (by omega) hb hsl
 refine ⟨?_, ?_, fun j hj => ?_, fun m hm k b hb => ?_⟩
 ·rw [hpw, splice_length _ _ _ (by rw [h1l, hsl]; omega), h1l]
  rfl
 ·rw [hfr2 0 (by omega), if_neg (by omega), hfr1 0 (by omega), if_pos rfl]
  rfl
 ·rw [hfr2 (1 + j) (by omega)]
  by_cases e : j = 0
  ·subst e
   rw [if_pos rfl]
   rfl
  ·rw [if_neg (by omega), hfr1 _ (by omega), if_neg (by omega), hz _ (by omega), tab_zero (by omega)]
 ·have : ((F0 n).ino m).blk = [] := by
   show (if m = 0 then (⟨2, 1, [], []⟩ : Ino) else Ino.no).blk = []
   split <;> rfl
  rw [this] at hb;simp at hb
section
variable {w w' : World} {n m : Nat} {B : Sto}
theorem format_at (h : Dk w B n (List.replicate (n * 32) 0) m) (hm : m ≤ 900000000000) (h1 : 13 ≤ n) (h2 : n ≤ 64) :
  Calls Tryz.prog 114 #[sto B, .int .i64 (n : Int)] w fun e w' => e = .returned (.int .i64 0) ∧ Fs w' B (F0 n) (m + 3000) ∧ BG B w w' := by
 have hni := sto_nil h.ok
 have t1 : decide ((n : Int) < 13) = false := by simp; omega
 have t2 : decide (1024 < (n : Int)) = false := by simp; omega
 have hst := Dr.start h (by omega);obtain ⟨W1, hW1⟩ : ∃ W, W = w.alloc (.cells #[sto B, .slice none 0 0, .int .i64 0] 295) := ⟨_, rfl⟩
 have hb1 : Below w.heap.size w W1 := by rw [hW1]; exact below_alloc _ _
 rw [← hW1] at hst;have HW1 : Hid _ := hW1;have HB1 := hid hb1;have HD1 := hid hst;obtain ⟨zs, hzs⟩ : ∃ z, z = List.replicate (n * 32) (0 : Int) := ⟨_, rfl⟩
 have HZ0 : Hid (∀ b, b < n → frameOf zs b = List.replicate 32 0) := by rw [hzs]; exact fun b hb => frame_zeros n b hb
 rw [← hzs] at HD1;clear h hst hW1 hb1 hzs
 go_enter Tryz.func114, Tryz.ntmps114
 go_wp2;rw [← HW1.out];clear HW1;obtain ⟨bd, hbd⟩ : ∃ b, b = w.heap.size := ⟨_, rfl⟩;have Hbd := hid hbd;rw [← hbd] at HD1 ⊢;clear hbd
 go_loopw [20] (fun z wr => ∃ (k : Nat) (us : List Int), k ≤ 12 ∧ z = .int .i64 k ∧ Dr wr bd bd B n zs us m ∧ DT bd B W1 wr ∧ Hid (∀ b, b < n → frameOf us b = List.replicate 32 0)) (fun z _ => 12 - (intOf z).toNat)
 case atStart => exact ⟨0, _, by omega, rfl, HD1.out, DT.refl _ _ _, HZ0.out⟩
 case round =>
  clear HD1;obtain ⟨k, us, hk, rfl, hdr, hdt, HZ⟩ := hrel;have HT := hid hdt;have HUl : Hid (us.length = n * 32) := hdr.len
  by_cases hlt : k < 12
  ·have hki : decide ((k : Int) < 12) = true := by simp; omega
   have hA := dat_at hdr k (by omega) hm;clear hdr hdt
   go_wp2_with fail
   refine hA.mono ?_;rintro e w3 ⟨q, rfl, hq, hdt3⟩;have HQ := hid hq
   have HZs : Hid (zc.size = 32) := by unfold zc; rw [urow_size]; simp [Hid]
   have hz := lit_zc;obtain ⟨r1, r2⟩ := hq.cells (us := List.replicate 32 0) (R := zc) (by simp) rfl;have HR1 : Hid (Dr (w3.setCells q 33 zc.toList) bd bd B n zs (splice us (k * 32) (List.replicate 32 0)) m) := r1.dr;have HR2 : Hid (DT bd B W1 (w3.setCells q 33 zc.toList)) := (HT.out.trans hdt3).trans r2;obtain ⟨W4, hW4⟩ : ∃ W, W = w3.setCells q 33 zc.toList := ⟨_, rfl⟩;have HW4 : Hid _ := hW4;rw [← hW4] at HR1 HR2;clear hA hq hdt3 r1 r2 hW4
   go_wp2_with (first
     | (refine wpList_store_midQ HQ.out rfl _ _ rfl zc rfl rfl HZs.out (urow_one _) ?_; rw [← HW4.out])
     | go_in)
   go_roundw
   case rel =>
    refine ⟨k + 1, _, by omega, by go_num, HR1.out, HR2.out, fun b hb => ?_⟩;rw [frame_splice us _ n k b HUl.out (by omega) hb (by simp)]
    split
    ·rfl
    ·exact HZ.out b hb
   case measure => simp [intOf]; omega
  ·have hki : decide ((k : Int) < 12) = false := by simp; omega
   have hk12 : ¬ (k : Int) < 12 := by omega
   have hN := newHead_at n wr h1 h2;have HD := hid hdr;clear hdr hdt
   go_wp2_with fail
   refine hN.mono ?_;rintro e w2 ⟨hi, hb, rfl, hbm, hb2⟩;have hS := dsetHead_at (HD.out.below hb2) hm (by omega) hbm;have HT2 : Hid (DT bd B W1 w2) := HT.out.trans (DT.of_below hb2);clear hN hbm hb2
   go_wp2_with fail
   refine hS.mono ?_;rintro e w3 ⟨rfl, hd3, ht3⟩;have HT3 : Hid (DT bd B W1 w3) := HT2.out.trans ht3
   have hI := dsetInode_at hd3 hm h1 (by have a1 := HT3.out.size; have a2 := HB1.out.size; have a3 := Hbd.out; omega) 0 (by omega) [2, 1, 0, 0, 0, 0, 0, 0, 0] rfl (by
     intro x hx;simp only [List.mem_cons, List.not_mem_nil, or_false] at hx
     rcases hx with rfl | rfl | rfl | rfl | rfl | rfl | rfl | rfl | rfl <;> exact ⟨by omega, by omega⟩)
   have hirow : irow [2, 1, 0, 0, 0, 0, 0, 0, 0] = #[.int .i64 2, .int .i64 1, .int .i64 0, .int .i64 0, .int .i64 0, .int .i64 0, .int .i64 0, .int .i64 0, .int .i64 0] := rfl;rw [hirow] at hI;clear hS hd3 ht3 hirow
   go_wp2_with fail
   refine hI.mono ?_;rintro e w4 ⟨rfl, hd4, ht4⟩;have hL := dlay_at hd4 hm;have HT4 : Hid (DT bd B W1 w4) := HT3.out.trans ht4;clear hI hd4 ht4
   go_wp2_with fail
   refine hL.mono ?_;rintro e w5 ⟨rfl, hd5, hu5⟩
   have HE : Hid (Fs w5 B (F0 n) (m + 3000) ∧ BG B w w5) := by
    have hk := hd5;refine ⟨⟨_, hk.mono (by omega), f0_holds h1 h2 HUl.out HZ.out, f0_inv h1 h2⟩, ?_⟩;exact (bg_start HB1.out HT4.out (by have := Hbd.out; omega)).trans hu5
   clear hL hd5 hu5;go_wp2;go_ret;exact ⟨rfl, HE.out.1, HE.out.2⟩
end
section
variable {w : World} {n m : Nat}
theorem plant0_at {B : Sto} (h : Dk w B n (List.replicate (n * 32) 0) m) (hm : m ≤ 400000000000) (h1 : 13 ≤ n) (h2 : n ≤ 64) :
  Calls Tryz.prog 65 #[sto B, .int .i64 (n : Int), .slice none 0 0] w fun e w' => e = .returned (.tuple #[]) ∧ Fs w' B (F0 n) (m + 3000) ∧ BG B w w' := by
 have hF := format_at h (by omega) h1 h2;clear h
 go_enter Tryz.func65, Tryz.ntmps65
 go_wp2_with fail
 refine hF.mono ?_;rintro e w1 ⟨rfl, hf1, hbg1⟩;have HF1 : Hid (Fs w1 B (F0 n) (m + 3000) ∧ BG B w w1) := ⟨hf1, hbg1⟩;clear hF hf1 hbg1
 go_wp2_with (first
   | (go_at_call 113; refine (must_ok _).mono ?_; rintro e wz ⟨rfl, hw⟩; rw [hw]; clear hw wz)
   | go_in)
 go_loopw [14] (fun s wr => s = .int .i64 0 ∧ Hid (Fs wr B (F0 n) (m + 3000) ∧ BG B w wr)) (fun s _ => 0)
 case atStart => exact ⟨rfl, HF1⟩
 case round =>
  obtain ⟨rfl, HE⟩ := hrel;clear HF1;go_wp2
  go_end0
  exact ⟨rfl, HE.out⟩
theorem make01_at {B : Sto} (h : Dk w B n (List.replicate (n * 32) 0) m) (hm : m ≤ 400000000000) (h1 : 13 ≤ n) (h2 : n ≤ 64) {b1 b2 : Nat} (x1 : w.heap[b1]? = some (.cells #[.int .i64 (n : Int)] 3)) (x2 : w.heap[b2]? = some (.cells #[.slice none 0 0] 84)) :
  Calls Tryz.prog 64 #[sto B, ptr b1, ptr b2] w fun e w' => e = .returned (.tuple #[]) ∧ Fs w' B (F0 n) (m + 3000) ∧ BG B w w' := by
 have hC := plant0_at h hm h1 h2
 have c1 : w.cell? ⟨b1, 0, none⟩ = some (.int .i64 (n : Int)) := by rw [cell_of_heap x1]; rfl
 have c2 : w.cell? ⟨b2, 0, none⟩ = some (.slice none 0 0) := by rw [cell_of_heap x2]; rfl
 clear h x1 x2
 go_enter Tryz.func64, Tryz.ntmps64
 go_wp2_with fail
 refine hC.mono ?_;rintro e w2 ⟨rfl, hE⟩;have HE := hid hE;clear hC hE;go_wp2
 go_end0
 exact ⟨rfl, HE.out⟩
theorem make0n_call (args : Array Value) (W : World) : (callFunc 64 args).run Tryz.prog W = .ok (.enter 64 args) W := by kernel_rfl
theorem Make0_at {lo B G : Nat} (h : Dk w (dsk lo B G) n (List.replicate (n * 32) 0) m) (hm : m ≤ 400000000000) (h1 : 13 ≤ n) (h2 : n ≤ 64) :
  Calls Tryz.prog 31 #[sto (dsk lo B G), .int .i64 (n : Int), .slice none 0 0] w fun e w' => e = .returned (.int .i64 0) ∧ ST lo w w' ∧ Fs w' (dsk lo B G) (F0 n) (m + 5000) := by
 have hmf : ∀ (fn : Fn) (first cap : Array Value) (w : World), (Instr.makeFunc fn first cap).run Tryz.prog w = .ok (.func fn first cap) w := fun _ _ _ _ => rfl
 obtain ⟨W1, hW1⟩ : ∃ W, W = w.alloc (.cells #[.int .i64 (n : Int)] 3) := ⟨_, rfl⟩
 have hb1 : Below w.heap.size w W1 := by rw [hW1]; exact below_alloc _ _
 have hx1 : W1.heap[w.heap.size]? = some (.cells #[.int .i64 (n : Int)] 3) := by rw [hW1]; exact heap_alloc_new _ _
 have hs1 : W1.heap.size = w.heap.size + 1 := by rw [hW1]; simp
 obtain ⟨W2, hW2⟩ : ∃ W, W = W1.alloc (.cells #[.slice none 0 0] 84) := ⟨_, rfl⟩
 have hb2 : Below W1.heap.size W1 W2 := by rw [hW2]; exact below_alloc _ _
 have hy2 : W2.heap[w.heap.size + 1]? = some (.cells #[.slice none 0 0] 84) := by rw [hW2, ← hs1]; exact heap_alloc_new _ _
 have hs2 : W2.heap.size = w.heap.size + 2 := by rw [hW2]; simp [hs1]
 have hB : Below w.heap.size w W2 := hb1.trans (hb2.mono hb1.size);have hy1 : W2.heap[w.heap.size]? = some (.cells #[.int .i64 (n : Int)] 3) := (hb2.block _ (by omega)).trans hx1;obtain ⟨b1, hb1'⟩ : ∃ b, b = w.heap.size := ⟨_, rfl⟩;obtain ⟨b2, hb2'⟩ : ∃ b, b = w.heap.size + 1 := ⟨_, rfl⟩;rw [← hb1'] at hy1;rw [← hb2'] at hy2
 have hC := attempt_at (caps := #[ptr b1, ptr b2]) (Q := fun _ => False) (Rok := fun ws w1 => Holds ws (F0 n) ∧ FInv (F0 n)) (Re := fun e => False) (h.below hB) (by omega) (m' := m + 3000) (by omega) (by omega) (fun k hk => hk.elim) make0n_call (fun _ _ _ _ x => x) (fun _ _ _ _ _ _ _ x => x) (fun W d hb hd hk => by
   refine (make01_at hk hm h1 h2 ((hb.block _ (by omega)).trans hy1) ((hb.block _ (by omega)).trans hy2)).mono ?_;rintro e w' ⟨rfl, ⟨ws, hd2, hh, hi⟩, hbg⟩
   exact Or.inl ⟨rfl, hbg, ws, hd2, hh, hi⟩)
 have HC : Hid (Calls Tryz.prog 63 #[sto (dsk lo B G), .func (.func 64) #[] #[ptr b1, ptr b2]] W2 fun e w' => e = .returned (.int .i64 0) ∧ SU lo (fun _ => False) W2 w' ∧ Fs w' (dsk lo B G) (F0 n) (m + 5000)) := hC.mono (by
   rintro e w' (⟨rfl, hsu, ws, hd, hH, hI⟩ | ⟨er', rfl, hsu, hd, x⟩)
   · exact ⟨rfl, hsu, ws, hd.mono (by omega), hH, hI⟩
   · exact x.elim)
 have hC := HC.out;clear HC;have HW1 : Hid _ := hW1;have HW2 : Hid _ := hW2;have H1' := hid hb1';have H2' := hid hb2';have HB := hid hB;clear h hb1 hx1 hs1 hy1 hb1' hW1 hb2 hs2 hy2 hb2' hW2 hB
 go_enter Tryz.func31, Tryz.ntmps31
 go_wp2_with fail
 rw [← HW1.out, ← HW2.out, ← H2'.out, ← H1'.out];refine hC.mono ?_;rintro e w3 ⟨rfl, hsu, hf⟩;have HE : Hid (ST lo w w3 ∧ Fs w3 (dsk lo B G) (F0 n) (m + 5000)) := ⟨(SU.of_below HB.out).trans hsu, hf⟩;clear hC hsu hf;go_wp2;go_ret;exact ⟨rfl, HE.out⟩
end
end Go.Proofs.YtinaeifpoljfoaaGreatDoor
