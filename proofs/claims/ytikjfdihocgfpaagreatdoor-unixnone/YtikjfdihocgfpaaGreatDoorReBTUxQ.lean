/- The reference of layer 15: Put, Format. -/
/- januslaw22: begin of an empty tree: a core, a disk, and the reference's. -/
import Derived.Test.YtikjfdihocgfpaaGreatDoorRefDiskTReA
import Derived.Test.YtikjfdihocgfpaaGreatDoorRsBTInoA
import Derived.Test.YtikjfdihocgfpaaGreatDoorInoLTMkA
set_option linter.all false
namespace Go.Proofs.YtikjfdihocgfpaaGreatDoor
open Go.RowKit
theorem words_arr : Tryz.prog.underlying 22 = some (.slice (Tryz.prog.elem 22)) := by kernel_rfl
theorem words_e (W : World) : (sizeOf (Tryz.prog.elem 22)).run Tryz.prog W = .ok 1 W := by kernel_rfl
theorem words_l (g c l : Nat) (hl : l < 32) (hc : 32 ≤ c) (W : World) : (Instr.slice 22 (.slice (some ⟨g, 0, none⟩) 32 c) (some (.int .i64 (l : Int))) none none).run Tryz.prog W = .ok (.slice (some ⟨g, l, none⟩) (32 - l) (c - l)) W := by
  rw [run_slice_l W _ _ _ _ words_arr .i64 l (by omega) (by omega), words_e]
  show Result.ok (sliced _ _ _ _ _) W = _
  unfold sliced
  simp only [Int.toNat_natCast, Nat.mul_one]
  rw [if_neg (by omega)]
  simp [add0]
section
variable {w w' : World} {bx gx cap n m : Nat} {vs : List Int}
/-- The row with so many words of an inode laid. -/
theorem Rw.putw {g c i k : Nat} {F xs : List Int} (h : Rw w g c (splice F (i % 3 * 9) (xs.take k))) (hF : F.length = 32) (hx : xs.length = 9) (hk : k < 9) : Rw (w.setCell ⟨g, i % 3 * 9 + k, none⟩ (.int .u64 (xs.getD k 0))) g c (splice F (i % 3 * 9) (xs.take (k + 1))) := by
  have := h.set (j := i % 3 * 9 + k) (x := xs.getD k 0)
  rwa [splice_set (by omega) (by omega)] at this
set_option maxHeartbeats 4000000 in
set_option maxRecDepth 100000 in
theorem ePut_at (h : Rk w bx gx cap n vs m) (hm : m ≤ 940000000000) (hn : 13 ≤ n) (i : Nat) (hi : i < 32) (xs : List Int) (hx : xs.length = 9) (hf : ∀ x ∈ xs, Fit x) :
    Calls Tryz.prog 140 #[ptr bx, .int .i64 (i : Int), .agg (irow xs)] w fun e w' => e = .returned (.int .i64 0) ∧ Rk w' bx gx cap n (putW vs i xs) (m + 2) ∧ UpdP (fun k => k = bx ∨ k = gx) w w' := by
  have HLn : Hid (vs.length = n * 32) := h.len
  have HF : Hid (∀ j, j < 9 → Fit (xs.getD j 0)) := fun j hj => hf _ (by
    rw [List.getD_eq_getElem?_getD, List.getElem?_eq_getElem (by omega)]
    exact List.getElem_mem _)
  obtain ⟨X, hX⟩ : ∃ X, X = irow xs := ⟨_, rfl⟩
  obtain ⟨W0, hW0⟩ : ∃ W, W = w.alloc (.cells X 256) := ⟨_, rfl⟩
  have hb0 : Below w.heap.size w W0 := by rw [hW0]; exact below_alloc _ _
  have hr0 : W0.heap[w.heap.size]? = some (.cells X 256) := by rw [hW0]; exact heap_alloc_new _ _
  have hA := eget_at (h.below hb0) (by omega) (1 + i / 3) (by omega)
  have HB0 : Hid (Below w.heap.size w W0) := hb0
  have HR0 : Hid _ := hr0
  have HW0 : Hid _ := hW0
  have HXq : Hid (X = irow xs) := hX
  have HXl : Hid (xs.length = 9) := hx
  have HBl : Hid (bx < w.heap.size) := by obtain ⟨_, _, h, _⟩ := h; exact lt_of_heap h.head
  obtain ⟨r, hr⟩ : ∃ r, r = i % 3 := ⟨_, rfl⟩
  obtain ⟨d, hd⟩ : ∃ d, d = i / 3 := ⟨_, rfl⟩
  have Hrd : Hid (r = i % 3 ∧ d = i / 3) := ⟨hr, hd⟩
  have ht : (i : Int).tmod 3 = (r : Int) := by rw [Int.tmod_eq_emod_of_nonneg (by omega)]; omega
  have hq : (i : Int).tdiv 3 = (d : Int) := by rw [Int.tdiv_eq_ediv_of_nonneg (by omega)]; omega
  have hr3 : r < 3 := by omega
  have hd11 : d < 11 := by omega
  have hw1 : IntKind.i64.wrap ((d : Nat) : Int) = (d : Int) := Bi.wrap_small d (by omega)
  have hw2 : IntKind.i64.wrap ((r : Nat) : Int) = (r : Int) := Bi.wrap_small r (by omega)
  rw [← hd, show ((1 + d : Nat) : Int) = 1 + (d : Int) by omega] at hA
  have hi0 : ¬ (i : Int) < 0 := by omega
  have hi1 : ¬ (32 : Int) ≤ (i : Int) := by omega
  have HFl : Hid ((frameOf vs (1 + d)).length = 32) := frameOf_length vs (1 + d) n HLn.out (by omega)
  rw [← hX]
  clear h hf hb0 hr0 hW0 hX hx hr hd
  go_enter Tryz.func140, Tryz.ntmps140
  go_wp2_with fail
  rw [← HW0.out]
  refine hA.mono ?_
  rintro e w1 ⟨g, c, rfl, ⟨hg, hrw, gt, pt, hru, hg1, hg2⟩, hu1⟩
  have hc32 : 32 ≤ c := hrw.2.1
  have hsl : ∀ W, (Instr.slice 22 (.slice (some ⟨g, 0, none⟩) 32 c) (some (.int .i64 ((r : Int) * 9))) none none).run Tryz.prog W = .ok (.slice (some ⟨g, r * 9, none⟩) (32 - r * 9) (c - r * 9)) W := fun W => by
    have := words_l g c (r * 9) (by omega) hc32 W
    rw [Int.natCast_mul] at this
    exact this
  obtain ⟨c1, hc1⟩ : ∃ k, k = 32 - r * 9 := ⟨_, rfl⟩
  obtain ⟨c2, hc2⟩ : ∃ k, k = c - r * 9 := ⟨_, rfl⟩
  rw [← hc1, ← hc2] at hsl
  have hc9 : 9 ≤ c1 := by omega
  obtain ⟨p, hp⟩ : ∃ p, p = w.heap.size := ⟨_, rfl⟩
  have Hp : Hid (p = w.heap.size) := hp
  have hr1 : w1.heap[p]? = some (.cells X 256) := by rw [hp]; exact (hu1.block _ (lt_of_heap HR0.out) (by have := HBl.out; omega)).trans HR0.out
  have hpg : p ≠ g := by have := lt_of_heap HR0.out; omega
  have HR1 : Hid (w1.heap[p]? = some (.cells X 256)) := hr1
  have HM : Hid (W0.heap.size ≤ g ∧ W0.heap.size ≤ w1.heap.size) := ⟨hg, hu1.size⟩
  have HRu : Hid (RefU W0.heap.size w1 bx gx cap n vs gt pt) := hru
  have HGt : Hid (gt ≤ m + 1 ∧ pt ≤ m + 1) := ⟨hg1, hg2⟩
  have HU1 : Hid (UpdP (fun k => k = bx ∨ k = gx) w w1) := (UpdP.of_below HB0.out).trans (hu1.p _ (Or.inl rfl))
  obtain ⟨F, hFq⟩ : ∃ F, F = frameOf vs (1 + d) := ⟨_, rfl⟩
  have HFq : Hid (F = frameOf vs (1 + d)) := hFq
  rw [← hFq] at HFl hrw
  have hI : ∀ j, j < 9 → w1.cell? ⟨p, j, none⟩ = some (.int .i64 (xs.getD j 0)) := fun j hj => by rw [cell_of_heap hr1, HXq.out]; exact irow_get _ _ (by rw [HXl.out]; exact hj)
  have HRw : Hid (Rw w1 g c (splice F (i % 3 * 9) (xs.take 0))) := by rw [List.take_zero, splice_nil]; exact hrw
  have s0 := hrw.cell (j := r * 9) (by omega)
  have s1 := hrw.cell (j := r * 9 + 1) (by omega)
  have s2 := hrw.cell (j := r * 9 + 2) (by omega)
  have hz := fun j => hrw.free (j := j)
  have i0 := hI 0 (by omega)
  have i1 := hI 1 (by omega)
  have i2 := hI 2 (by omega)
  have f0 := (HF.out 0 (by omega)).su
  have f1 := (HF.out 1 (by omega)).su
  have f2 := (HF.out 2 (by omega)).su
  have k1 := HRw.out.putw HFl.out HXl.out (by omega)
  have k2 := k1.putw HFl.out HXl.out (by omega)
  have k3 := k2.putw HFl.out HXl.out (by omega)
  rw [← Hrd.out.1, Nat.add_zero] at k3
  generalize xs.getD 0 0 = x0 at *
  generalize xs.getD 1 0 = x1 at *
  generalize xs.getD 2 0 = x2 at *
  obtain ⟨W3, hW3⟩ : ∃ W, W = ((w1.setCell ⟨g, r * 9, none⟩ (.int .u64 x0)).setCell ⟨g, r * 9 + 1, none⟩ (.int .u64 x1)).setCell ⟨g, r * 9 + 2, none⟩ (.int .u64 x2) := ⟨_, rfl⟩
  have HW3 : Hid _ := hW3
  have HK3 : Hid (Rw W3 g c (splice F (r * 9) (xs.take 3))) := by rw [hW3]; exact k3
  have HU3 : Hid (Upd g w1 W3) := by rw [hW3]; exact ((Upd.setCell _ _ _ _).trans (Upd.setCell _ _ _ _)).trans (Upd.setCell _ _ _ _)
  generalize F.getD (r * 9) 0 = y0 at *
  generalize F.getD (r * 9 + 1) 0 = y1 at *
  generalize F.getD (r * 9 + 2) 0 = y2 at *
  clear hA hg hrw hru hg1 hg2 hu1 hc1 hc2 hp hr1 hFq hI k1 k2 k3 hW3 HRw
  go_wp2_with fail
  rw [← Hp.out]
  go_region
  rw [← HW3.out]
  clear HW3 i0 i1 i2 f0 f1 f2 s0 s1 s2 hz hsl
  obtain ⟨W4, hW4⟩ : ∃ W, W = W3.drew := ⟨_, rfl⟩
  have HK4 : Hid (Rw W4 g c (splice F (r * 9) (xs.take (3 + 0)))) := by rw [hW4]; exact HK3.out.below (Di.drewN_below ⟨1, rfl⟩)
  have HU4 : Hid (Upd g w1 W4) := by rw [hW4]; exact HU3.out.trans (Upd.of_below (Di.drewN_below ⟨1, rfl⟩))
  rw [← hW4]
  clear hW4 HK3 HU3
  go_wp2
  go_loopw [9] (fun z wr => ∃ (k : Nat), k ≤ 6 ∧ z = .int .i64 k ∧ Rw wr g c (splice F (r * 9) (xs.take (3 + k))) ∧ Upd g w1 wr) (fun z _ => 6 - (intOf z).toNat)
  case atStart => exact ⟨0, by omega, rfl, HK4.out, HU4.out⟩
  case round =>
    clear HK4 HU4
    obtain ⟨k, hk, rfl, hrw, hu⟩ := hrel
    have HU : Hid (Upd g w1 wr) := hu
    by_cases hlt : k < 6
    · have hki : decide ((k : Int) < 6) = true := by simp; omega
      have hk6 : (k : Int) < 6 := by omega
      have hkc : 3 + (k : Int) < (c1 : Int) := by omega
      have hcp : wr.cell? ⟨p, 3 + k, none⟩ = some (.int .i64 (xs.getD (3 + k) 0)) := by
        rw [cell_of_heap ((hu.block p (lt_of_heap HR1.out) hpg).trans HR1.out), HXq.out]
        exact irow_get _ _ (by rw [HXl.out]; omega)
      have hcq := hrw.cell (j := r * 9 + (3 + k)) (by omega)
      have hfz := hrw.free (j := r * 9 + (3 + k))
      have hfu := (HF.out (3 + k) (by omega)).su
      have hn := (show Rw wr g c (splice F (i % 3 * 9) (xs.take (3 + k))) by rw [← Hrd.out.1]; exact hrw).putw HFl.out HXl.out (by omega)
      rw [← Hrd.out.1] at hn
      generalize xs.getD (3 + k) 0 = y at *
      generalize (splice F (r * 9) (xs.take (3 + k))).getD (r * 9 + (3 + k)) 0 = y' at *
      have HN : Hid (Rw (wr.setCell ⟨g, r * 9 + (3 + k), none⟩ (.int .u64 y)) g c (splice F (r * 9) (xs.take (3 + (k + 1))))) := hn
      clear hrw hu hn
      go_wp2
      go_roundw
      case rel => exact ⟨k + 1, by omega, by go_num, HN.out, HU.out.trans (Upd.setCell _ _ _ _)⟩
      case measure => simp [intOf]; omega
    · have hki : decide ((k : Int) < 6) = false := by simp; omega
      have hk6 : ¬ (k : Int) < 6 := by omega
      have hk0 : k = 6 := by omega
      rw [hk0, List.take_of_length_le (by rw [HXl.out]; omega)] at hrw
      have hru5 := (HRu.out.upd hu HM.out.1 HM.out.2).ref
      have hP := eput_at (m := m + 1) ⟨gt, pt, hru5, HGt.out.1, HGt.out.2⟩ (by omega) (1 + d) (by omega) hrw
      have HE : Hid (splice vs ((1 + d) * 32) (splice F (r * 9) xs) = putW vs i xs) := by
        unfold putW
        rw [HFq.out, Hrd.out.1, Hrd.out.2]
        rfl
      rw [HE.out, show ((1 + d : Nat) : Int) = 1 + (d : Int) by omega] at hP
      have HUa : Hid (UpdP (fun k => k = bx ∨ k = gx) w wr) := by
        have h1 := HU1.out
        refine ⟨hu.os.trans h1.os, hu.tape.trans h1.tape, hu.output.trans h1.output, Nat.le_trans h1.size hu.size, fun k hk hn => (hu.block k (Nat.lt_of_lt_of_le hk h1.size) (by have := HM.out.1; have := HB0.out.size; omega)).trans (h1.block k hk hn)⟩
      clear hk0 hrw hru5 hu
      go_wp2_with fail
      refine hP.mono ?_
      rintro e w6 ⟨rfl, hk6', hu6⟩
      have HK6 : Hid (Rk w6 bx gx cap n (putW vs i xs) (m + 2)) := hk6'
      have HU6 : Hid (UpdP (fun k => k = bx ∨ k = gx) w w6) := HUa.out.trans hu6
      clear hP hk6' hu6
      go_wp2
      go_ret
      exact ⟨rfl, HK6.out, HU6.out⟩
set_option maxHeartbeats 4000000 in
set_option maxRecDepth 100000 in
theorem eFormat_at (h : Rk w bx gx cap n (List.replicate (n * 32) 0) m) (hm : m ≤ 900000000000) (h1 : 13 ≤ n) (h2 : n ≤ 64) :
    Calls Tryz.prog 79 #[ptr bx, .int .i64 (n : Int)] w fun e w' => e = .returned (.int .i64 0) ∧ (∃ vs, Rk w' bx gx cap n vs (m + 20) ∧ Holds vs (F0 n)) ∧ UpdP (fun k => k = bx ∨ k = gx) w w' := by
  have t1 : decide ((n : Int) < 13) = false := by simp; omega
  have t2 : decide (1024 < (n : Int)) = false := by simp; omega
  have hnn : ¬ (n : Int) < (n : Int) := by omega
  have c0 : w.cell? ⟨bx, 0, none⟩ = some (.slice (some ⟨gx, 0, none⟩) n cap) := by obtain ⟨_, _, h, _⟩ := h; exact h.c0
  have hmk := make_row
  obtain ⟨zs, hzs⟩ : ∃ z, z = List.replicate (n * 32) (0 : Int) := ⟨_, rfl⟩
  have HZ0 : Hid (∀ b, b < n → frameOf zs b = List.replicate 32 0) := by rw [hzs]; exact fun b hb => frame_zeros n b hb
  rw [← hzs] at h
  have HR : Hid (Rk w bx gx cap n zs m) := h
  clear h hzs
  go_enter Tryz.func79, Tryz.ntmps79
  go_wp2
  go_loopw [5] (fun z wr => ∃ (k : Nat) (us : List Int), k ≤ 12 ∧ z = .int .i64 k ∧ Rk wr bx gx cap n us (m + k) ∧ UpdP (fun k => k = bx ∨ k = gx) w wr ∧ Hid (∀ b, b < n → frameOf us b = List.replicate 32 0)) (fun z _ => 12 - (intOf z).toNat)
  case atStart => exact ⟨0, zs, by omega, rfl, HR.out, UpdP.refl _ _, HZ0.out⟩
  case round =>
    clear HR
    obtain ⟨k, us, hk, rfl, hrk, hu, HZ⟩ := hrel
    have HRk : Hid (Rk wr bx gx cap n us (m + k)) := hrk
    have HU : Hid (UpdP (fun k => k = bx ∨ k = gx) w wr) := hu
    have HUl : Hid (us.length = n * 32) := hrk.len
    by_cases hlt : k < 12
    · have hki : decide ((k : Int) < 12) = true := by simp; omega
      obtain ⟨W1, hW1⟩ : ∃ W, W = wr.alloc (.cells zc 46) := ⟨_, rfl⟩
      have hb1 : Below wr.heap.size wr W1 := by rw [hW1]; exact below_alloc _ _
      have hP := eput_at (hrk.below hb1) (by omega) k (by omega) (by rw [hW1]; exact rw_new wr)
      have HW1 : Hid _ := hW1
      have HB1 : Hid (Below wr.heap.size wr W1) := hb1
      clear hrk hu hW1 hb1
      go_wp2_with fail
      rw [← HW1.out]
      refine hP.mono ?_
      rintro e w3 ⟨rfl, hk3, hu3⟩
      have HK3 : Hid (Rk w3 bx gx cap n (splice us (k * 32) (List.replicate 32 0)) (m + k + 1)) := hk3
      have HU3 : Hid (UpdP (fun k => k = bx ∨ k = gx) w w3) := (HU.out.trans (UpdP.of_below HB1.out)).trans hu3
      clear hP hk3 hu3
      go_wp2
      go_roundw
      case rel =>
        refine ⟨k + 1, _, by omega, by go_num, HK3.out, HU3.out, fun b hb => ?_⟩
        rw [frame_splice us _ n k b HUl.out (by omega) hb (by simp)]
        split
        · rfl
        · exact HZ.out b hb
      case measure => simp [intOf]; omega
    · have hki : decide ((k : Int) < 12) = false := by simp; omega
      have hk12 : ¬ (k : Int) < 12 := by omega
      have hw1 : IntKind.u64.wrap ((n : Nat) : Int) = (n : Int) := Fit.su ⟨by omega, by omega⟩
      obtain ⟨W1, hW1⟩ : ∃ W, W = wr.alloc (.cells zc 46) := ⟨_, rfl⟩
      have hb1 : Below wr.heap.size wr W1 := by rw [hW1]; exact below_alloc _ _
      have hz0 : zc[0]? = some (.int .u64 0) := rfl
      have hz1 : zc[1]? = some (.int .u64 0) := rfl
      have hz2 : zc[2]? = some (.int .u64 0) := rfl
      have hz3 : zc[3]? = some (.int .u64 0) := rfl
      have hU4 : (((zc.setIfInBounds 0 (.int .u64 318923232595)).setIfInBounds 1 (.int .u64 (n : Int))).setIfInBounds 2 (.int .u64 1)).setIfInBounds 3 (.int .u64 4095) = urow (hdW n [1] [4095]) := rfl
      obtain ⟨W2, hW2⟩ : ∃ W, W = wr.alloc (.cells ((((zc.setIfInBounds 0 (.int .u64 318923232595)).setIfInBounds 1 (.int .u64 (n : Int))).setIfInBounds 2 (.int .u64 1)).setIfInBounds 3 (.int .u64 4095)) 46) := ⟨_, rfl⟩
      have hhl : (hdW n [1] [4095]).length = 32 := hdW_len rfl (by simp)
      have hr2 : Rw W2 wr.heap.size 32 (hdW n [1] [4095]) := by rw [hW2, hU4]; exact rw_row wr _ hhl
      have hb2 : Below wr.heap.size wr W2 := by rw [hW2]; exact below_alloc _ _
      have hP := eput_at (hrk.below hb2) (by omega) 0 (by omega) hr2
      have HW2 : Hid _ := hW2
      have HB2 : Hid (Below wr.heap.size wr W2) := hb2
      clear hrk hu hW1 hW2 hb1 hb2 hr2 hhl hU4
      go_wp2_with fail
      rw [← HW2.out]
      refine hP.mono ?_
      rintro e w3 ⟨rfl, hk3, hu3⟩
      rw [Nat.zero_mul] at hk3
      have hI := ePut_at hk3 (by omega) h1 0 (by omega) [2, 1, 0, 0, 0, 0, 0, 0, 0] rfl (by
        intro x hx
        simp only [List.mem_cons, List.not_mem_nil, or_false] at hx
        rcases hx with rfl | rfl | rfl | rfl | rfl | rfl | rfl | rfl | rfl <;> exact ⟨by omega, by omega⟩)
      have hirow : irow [2, 1, 0, 0, 0, 0, 0, 0, 0] = #[.int .i64 2, .int .i64 1, .int .i64 0, .int .i64 0, .int .i64 0, .int .i64 0, .int .i64 0, .int .i64 0, .int .i64 0] := rfl
      rw [hirow] at hI
      have HU3 : Hid (UpdP (fun k => k = bx ∨ k = gx) w w3) := (HU.out.trans (UpdP.of_below HB2.out)).trans hu3
      clear hP hk3 hu3 hirow hz0 hz1 hz2 hz3
      go_wp2_with fail
      refine hI.mono ?_
      rintro e w4 ⟨rfl, hk4, hu4⟩
      have HE : Hid ((∃ vs, Rk w4 bx gx cap n vs (m + 20) ∧ Holds vs (F0 n)) ∧ UpdP (fun k => k = bx ∨ k = gx) w w4) := ⟨⟨_, hk4.mono (by omega), f0_holds h1 h2 HUl.out HZ.out⟩, HU3.out.trans hu4⟩
      clear hI hk4 hu4
      go_wp2
      go_ret
      exact ⟨rfl, HE.out.1, HE.out.2⟩
end
end Go.Proofs.YtikjfdihocgfpaaGreatDoor
namespace Go.Proofs.YtikjfdihocgfpaaGreatDoor
open Go.RowKit
theorem disk_eq (b : Nat) (W : World) : (binOp .eql 41 (ptr b) (.pointer none)).run Tryz.prog W = .ok (.bool false) W := by kernel_rfl
theorem rdisk_eq (b : Nat) (W : World) : (binOp .eql 42 (ptr b) (.pointer none)).run Tryz.prog W = .ok (.bool false) W := by kernel_rfl
theorem both_eq (b : Nat) (W : World) : (binOp .eql 35 (ptr b) (.pointer none)).run Tryz.prog W = .ok (.bool false) W := by kernel_rfl
set_option maxHeartbeats 1000000 in
set_option maxRecDepth 100000 in
theorem rmake0_at {w : World} {bx gx cap n m : Nat} (h : Rk w bx gx cap n (List.replicate (n * 32) 0) m) (hm : m ≤ 900000000000) (h1 : 13 ≤ n) (h2 : n ≤ 64) :
    Calls Tryz.prog 39 #[ptr bx, .int .i64 (n : Int), .slice none 0 0] w fun e w' => e = .returned (.int .i64 0) ∧ (∃ vs, Rk w' bx gx cap n vs (m + 20) ∧ Holds vs (F0 n)) ∧ UpdP (fun k => k = bx ∨ k = gx) w w' := by
  have hF := eFormat_at h hm h1 h2
  clear h
  go_enter Tryz.func39, Tryz.ntmps39
  go_wp2_with fail
  refine hF.mono ?_
  rintro e w1 ⟨rfl, hR, hU⟩
  have HE : Hid ((∃ vs, Rk w1 bx gx cap n vs (m + 20) ∧ Holds vs (F0 n)) ∧ UpdP (fun k => k = bx ∨ k = gx) w w1) := ⟨hR, hU⟩
  clear hF hR hU
  go_wp2_with fail
  go_loopw [8] (fun s wr => s = .int .i64 0 ∧ Hid ((∃ vs, Rk wr bx gx cap n vs (m + 20) ∧ Holds vs (F0 n)) ∧ UpdP (fun k => k = bx ∨ k = gx) w wr)) (fun s _ => 0)
  case atStart => exact ⟨rfl, HE⟩
  case round =>
    obtain ⟨rfl, HR⟩ := hrel
    clear HE
    go_wp2
    go_ret
    exact ⟨rfl, HR.out⟩
def rkT : List TypeId := [98, 150, 153, 37, 171]
theorem RXA.keep {w w' : World} {B x f p s t : Nat} {L : List Fd.En} {F : Fd.FS} (h : RXA w B x f p s t L F) (hk : ∀ (k : Nat) (cs : Array Value) (ty : TypeId) (fr : Nat × Nat), w.heap[k]? = some (.cells cs ty fr) → rkT.contains ty = true → w'.heap[k]? = some (.cells cs ty fr)) (hs : w.heap.size ≤ w'.heap.size) : RXA w' B x f p s t L F := by
  obtain ⟨v, hv⟩ := h.fds
  exact ⟨hk _ _ _ _ h.head (by decide), ⟨v, hv.keep (fun k cs ty fr hh hty => hk _ _ _ _ hh (by rcases hty with rfl | rfl | rfl <;> decide))⟩, h.rl, h.inv, h.tB, Nat.le_trans h.Bw hs⟩
theorem rk_st {t : TypeId} (h : rkT.contains t = true) : stB t = false := by
  have h3 : t ∈ rkT := List.contains_iff_mem.1 h
  simp only [rkT, List.mem_cons, List.not_mem_nil, or_false] at h3
  rcases h3 with rfl | rfl | rfl | rfl | rfl <;> decide
theorem rk_un {t : TypeId} (h : rkT.contains t = true) : unB t = false := by
  have h3 : t ∈ rkT := List.contains_iff_mem.1 h
  simp only [rkT, List.mem_cons, List.not_mem_nil, or_false] at h3
  rcases h3 with rfl | rfl | rfl | rfl | rfl <;> decide
/-- The reference's disk's own blocks may change. -/
structure YU (w w' : World) : Prop where
  cells : ∀ (k : Nat) (cs : Array Value) (t : TypeId) (fr : Nat × Nat), w.heap[k]? = some (.cells cs t fr) → t ≠ 195 → t ≠ 22 → w'.heap[k]? = some (.cells cs t fr)
  mp : ∀ (k : Nat) es cl, w.heap[k]? = some (.map es cl) → w'.heap[k]? = some (.map es cl)
  size : w.heap.size ≤ w'.heap.size
theorem YU.of {w w' : World} {bx gx cap n : Nat} {vs : List Int} {m : Nat} (h : Rk w bx gx cap n vs m) (hu : UpdP (fun k => k = bx ∨ k = gx) w w') : YU w w' := by
  obtain ⟨gt, pt, hr, q1, q2⟩ := h
  obtain ⟨cur, hh, -⟩ := hr.tab
  refine ⟨fun k cs t fr hk h1 h2 => (hu.block k (lt_of_heap hk) ?_).trans hk, fun k es cl hk => (hu.block k (lt_of_heap hk) ?_).trans hk, hu.size⟩
  · rintro (rfl | rfl)
    · rw [hr.head] at hk
      simp only [Option.some.injEq, Obj.cells.injEq] at hk
      exact h1 hk.2.1.symm
    · rw [hh] at hk
      simp only [Option.some.injEq, Obj.cells.injEq] at hk
      exact h2 hk.2.1.symm
  · rintro (rfl | rfl)
    · rw [hr.head] at hk
      cases hk
    · rw [hh] at hk
      cases hk
theorem UnAt.yu {w w' : World} {L : Pl} {U : Un} (h : UnAt w L U) (hu : YU w w') : UnAt w' L U := h.keep
  (fun k hk => by
    rcases hk with ⟨es, cl, e⟩ | ⟨cs, t, fr, e, ht⟩
    · exact (hu.mp _ _ _ e).trans e.symm
    · refine (hu.cells _ _ _ _ e ?_ ?_).trans e.symm
      · rintro rfl
        revert ht
        decide
      · rintro rfl
        revert ht
        decide)
  (fun g cs fr hg => (hu.cells _ _ _ _ hg (by decide) (by decide)).trans hg.symm)
  ((hu.cells _ _ _ _ h.head (by decide) (by decide)).trans h.head.symm)
theorem YU.isSt {w w' : World} {k : Nat} (hu : YU w w') (hk : IsSt w k) : w'.heap[k]? = w.heap[k]? := by
  obtain ⟨cs, t, fr, e, ht⟩ := hk
  refine (hu.cells _ _ _ _ e ?_ ?_).trans e.symm
  · rintro rfl
    revert ht
    decide
  · rintro rfl
    revert ht
    decide
theorem UT.isSt {lo : Nat} {w w' : World} {k : Nat} (hu : UT lo w w') (hk : IsSt w k) : w'.heap[k]? = w.heap[k]? := by
  refine hu.block k hk.lt (Or.inr ?_)
  obtain ⟨cs, t, fr, e, ht⟩ := hk
  rintro (⟨_, _, e2⟩ | ⟨_, t2, _, e2, ht2⟩)
  · rw [e] at e2; cases e2
  · rw [e] at e2
    simp only [Option.some.injEq, Obj.cells.injEq] at e2
    obtain ⟨_, rfl, _⟩ := e2
    exact st_un ht ht2
theorem Rk.kept {w w' : World} {bx gx cap n m : Nat} {vs : List Int} (h : Rk w bx gx cap n vs m) (hk : ∀ (g : Nat) (cs : Array Value) (t : TypeId) (fz : Nat × Nat), w.heap[g]? = some (.cells cs t fz) → (t = 195 ∨ t = 22 ∨ t = 46) → w'.heap[g]? = w.heap[g]?) : Rk w' bx gx cap n vs m := by
  obtain ⟨gt, pt, h, h1, h2⟩ := h
  obtain ⟨cur, hh, ht⟩ := h.tab
  refine ⟨gt, pt, ⟨(hk _ _ _ _ h.head (Or.inl rfl)).trans h.head, ⟨cur, (hk _ _ _ _ hh (Or.inr (Or.inl rfl))).trans hh, fun i hi => ?_⟩, h.len, h.low⟩, h1, h2⟩
  obtain ⟨r, c, row, q1, q2, q3, q4⟩ := ht i hi
  exact ⟨r, c, row, q1, (hk _ _ _ _ q2 (Or.inr (Or.inr rfl))).trans q2, q3, q4⟩
theorem Fs.kept {w w' : World} {B : Sto} {F : FS} {m : Nat} (h : Fs w B F m) (hs : ∀ k, IsSt w k → w'.heap[k]? = w.heap[k]?) : Fs w' B F m := by
  obtain ⟨vs, h⟩ := h
  exact ⟨vs, h.disk.keep hs, h.hold, h.inv⟩
theorem udsk_new {w : World} {B G n : Nat} {vs : List Int} {lo : Nat} (h : Di.DiskAt w B G n vs 0 0) (h1 : lo ≤ B) (h2 : lo ≤ G) : Dk w (dsk lo B G) n vs 0 := ⟨dsk_ok _ _ _, _, rfl, h1, h2, 0, 0, h, Nat.le_refl _, Nat.le_refl _⟩
/-- What begin leaves. -/
structure BegAt (w w' : World) (bb : Nat) (L : Pl) (B G x y n : Nat) : Prop where
  box : w'.heap[bb]? = some (.cells #[ptr L.c, ptr B, ptr x, ptr y] 44)
  un : UnAt w' L Un1
  fs : Fs w' (dsk w.heap.size B G) (F0 n) 5000
  lo : w.heap.size ≤ L.lo
  old : Below w.heap.size w w'
set_option maxHeartbeats 4000000 in
set_option maxRecDepth 100000 in
theorem lbegin_at (n : Nat) (w : World) (h1 : 13 ≤ n) (h2 : n ≤ 64) :
    Calls Tryz.prog 11 #[.int .i64 (n : Int), .slice none 0 0] w fun e w' => ∃ bb L B G x y, e = .returned (ptr bb) ∧ BegAt w w' bb L B G x y n := by
  have hC := unew_at w
  go_enter Tryz.func11, Tryz.ntmps11
  go_wp2_with fail
  refine hC.mono ?_
  rintro e w1 ⟨L, rfl, hl, hu1, hb1⟩
  have HU1 : Hid (UnAt w1 L Un0) := hu1
  have HL : Hid (L.lo = w.heap.size) := hl
  have HB1 : Hid (Below w.heap.size w w1) := hb1
  have hD := Di.new_at (n : Int) w1 (by omega) (by omega)
  simp only [Int.toNat_natCast] at hD
  obtain ⟨B, hB⟩ : ∃ B, B = w1.heap.size + 1 := ⟨_, rfl⟩
  obtain ⟨G, hG⟩ : ∃ G, G = w1.heap.size := ⟨_, rfl⟩
  rw [← hB, ← hG] at hD
  have HBq : Hid (B = w1.heap.size + 1) := hB
  have HGq : Hid (G = w1.heap.size) := hG
  clear hC hu1 hl hb1 hB hG
  obtain ⟨cc, hcc⟩ : ∃ c, c = L.c := ⟨_, rfl⟩
  have Hcc : Hid (cc = L.c) := hcc
  rw [← hcc]
  clear hcc
  go_wp2_with fail
  refine hD.mono ?_
  rintro e w2 ⟨rfl, hd2, hb2, -⟩
  have HD2 : Hid (Di.DiskAt w2 B G n (List.replicate (n * 32) 0) 0 0) := hd2
  have HB2 : Hid (Below w1.heap.size w1 w2) := by rw [← HGq.out]; exact hb2
  have hX := xnew_at w2
  clear hD hd2 hb2
  go_wp2_with fail
  refine hX.mono ?_
  rintro e w3 ⟨x, f, p, s, t, rfl, hx3, ht3, hb3⟩
  have HX3 : Hid (RXA w3 w2.heap.size x f p s t [] Fd.FS.zero ∧ Pc.RT w3 t (Pc.trS Pc.St0)) := ⟨hx3, ht3⟩
  have HB3 : Hid (Below w2.heap.size w2 w3) := hb3
  have hY := Di.rnew_ref (n : Int) w3 (by omega) (by omega)
  simp only [Int.toNat_natCast] at hY
  clear hX hx3 ht3 hb3
  go_wp2_with fail
  refine hY.mono ?_
  rintro e w4 ⟨rfl, ⟨gx, cap, hr4⟩, hb4⟩
  obtain ⟨y, hy⟩ : ∃ y, y = w3.heap.size := ⟨_, rfl⟩
  rw [← hy] at hr4 ⊢
  have HYq : Hid (y = w3.heap.size) := hy
  have HR4 : Hid (Di.RefAt w4 y gx cap n (List.replicate (n * 32) 0) 0 0) := hr4
  have HB4 : Hid (Below w3.heap.size w3 w4) := hb4
  clear hY hr4 hb4 hy
  have e1 := core_eq cc
  have e2 := disk_eq B
  have e3 := rdisk_eq y
  obtain ⟨bb, hbb⟩ : ∃ b, b = w4.heap.size := ⟨_, rfl⟩
  have Hbb : Hid (bb = w4.heap.size) := hbb
  obtain ⟨w5, hw5⟩ : ∃ V, V = w4.alloc (.cells #[ptr cc, ptr B, ptr x, ptr y] 44) := ⟨_, rfl⟩
  have hb5 : Below w4.heap.size w4 w5 := by rw [hw5]; exact below_alloc _ _
  have HW5 : Hid (w5 = w4.alloc (.cells #[ptr cc, ptr B, ptr x, ptr y] 44)) := hw5
  have hx5 : w5.heap[bb]? = some (.cells #[ptr cc, ptr B, ptr x, ptr y] 44) := by rw [hw5, hbb]; exact heap_alloc_new _ _
  have HX5 : Hid (w5.heap[bb]? = some (.cells #[ptr cc, ptr B, ptr x, ptr y] 44)) := hx5
  have hS : ∀ W : World, W.heap[bb]? = some (.cells #[ptr cc, ptr B, ptr x, ptr y] 44) → W.cell? ⟨bb, 0, none⟩ = some (ptr cc) ∧ W.cell? ⟨bb, 1, none⟩ = some (ptr B) ∧ W.cell? ⟨bb, 2, none⟩ = some (ptr x) ∧ W.cell? ⟨bb, 3, none⟩ = some (ptr y) := fun W hb => ⟨by rw [cell_of_heap hb]; rfl, by rw [cell_of_heap hb]; rfl, by rw [cell_of_heap hb]; rfl, by rw [cell_of_heap hb]; rfl⟩
  obtain ⟨c0, c1, c2, c3⟩ := hS w5 hx5
  obtain ⟨v0, hv0⟩ : ∃ V, V = w5.drew := ⟨_, rfl⟩
  have hbv : Below w5.heap.size w5 v0 := by rw [hv0]; exact Di.drewN_below (w := w5) ⟨1, rfl⟩
  have HV0 : Hid (v0 = w5.drew) := hv0
  have HB25 : Hid (Below w2.heap.size w2 v0) := ((HB3.out.trans (HB4.out.mono HB3.out.size)).trans (hb5.mono (by have := HB3.out.size; have := HB4.out.size; omega))).trans (hbv.mono (by have := HB3.out.size; have := HB4.out.size; have := hb5.size; omega))
  have HB15 : Hid (Below w1.heap.size w1 v0) := HB2.out.trans (HB25.out.mono HB2.out.size)
  have HB45 : Hid (Below w4.heap.size w4 v0) := hb5.trans (hbv.mono hb5.size)
  have HB35 : Hid (Below w3.heap.size w3 v0) := HB4.out.trans (HB45.out.mono HB4.out.size)
  have HA0 : Hid (UnAt v0 L Un0) := HU1.out.below HB15.out
  have HK0 : Hid (Dk v0 (dsk w.heap.size B G) n (List.replicate (n * 32) 0) 0) := udsk_new (HD2.out.below HB25.out) (by have := HBq.out; have := HB1.out.size; omega) (by have := HGq.out; have := HB1.out.size; omega)
  have HR0 : Hid (Rk v0 y gx cap n (List.replicate (n * 32) 0) 0) := ⟨0, 0, HR4.out.below HB45.out, by omega, by omega⟩
  have HX0 : Hid (RXA v0 w2.heap.size x f p s t [] Fd.FS.zero ∧ Pc.RT v0 t (Pc.trS Pc.St0)) := ⟨HX3.out.1.keep (fun k cs ty fr hk _ => (HB35.out.block k (lt_of_heap hk)).trans hk) HB35.out.size, HX3.out.2.below HB35.out⟩
  have HO0 : Hid (Below w.heap.size w v0) := HB1.out.trans (HB15.out.mono HB1.out.size)
  have HBx0 : Hid (v0.heap[bb]? = some (.cells #[ptr cc, ptr B, ptr x, ptr y] 44)) := (hbv.block _ (lt_of_heap hx5)).trans hx5
  clear hw5 hb5 hx5 hbv hv0 hbb
  go_upto_region 2 with fail
  rw [← Hbb.out, ← HW5.out]
  go_upto_region 4 with fail
  have hM := Make0_at HK0.out (by omega) h1 h2
  clear c0 c1 c2 c3 e1 e2 e3
  refine wp_region_held_drew (S := fun w' => w'.cell? ⟨bb, 0, none⟩ = some (ptr cc) ∧ w'.cell? ⟨bb, 1, none⟩ = some (ptr B) ∧ w'.cell? ⟨bb, 2, none⟩ = some (ptr x) ∧ w'.cell? ⟨bb, 3, none⟩ = some (ptr y)) (by kernel_rfl) (by rw [← HV0.out]; exact hS _ HBx0.out) (fun hHeld => ?_)
  refine wpAnyH_take (i := 0) (v := ?_) rfl (by kernel_rfl) (by kernel_rfl) (by kernel_rfl) (fun _ _ _ h => h) (Or.inl ⟨by kernel_rfl, ?_⟩) (by assumption) ?_
  rotate_left
  · (intro w hSw; (try dsimp only at hSw); go_simp) <;> with_reducible rfl
  (try simp only [Act.put, List.getElem_toArray, List.getElem_cons_zero, List.setIfInBounds_toArray, List.set_cons_zero, List.set_cons_succ])
  refine wpAnyH_take (i := 1) (v := ?_) rfl (by kernel_rfl) (by kernel_rfl) (by kernel_rfl) (fun _ _ _ h => h) (Or.inl ⟨by kernel_rfl, ?_⟩) (by assumption) ?_
  rotate_left
  · (intro w hSw; (try dsimp only at hSw); go_simp) <;> with_reducible rfl
  (try simp only [Act.put, List.getElem_toArray, List.getElem_cons_zero, List.getElem_cons_succ, List.setIfInBounds_toArray, List.set_cons_zero, List.set_cons_succ])
  refine wpAnyH_take (i := 2) (v := ?_) rfl (by kernel_rfl) (by kernel_rfl) (by kernel_rfl) (fun _ _ _ h => h) (Or.inl ⟨by kernel_rfl, ?_⟩) (by assumption) ?_
  rotate_left
  · (intro w hSw; (try dsimp only at hSw); go_simp) <;> with_reducible rfl
  (try simp only [Act.put, List.getElem_toArray, List.getElem_cons_zero, List.getElem_cons_succ, List.setIfInBounds_toArray, List.set_cons_zero, List.set_cons_succ])
  refine wpAnyH_take (i := 3) (v := ?_) rfl (by kernel_rfl) (by kernel_rfl) (by kernel_rfl) (fun _ _ _ h => h) (Or.inl ⟨by kernel_rfl, ?_⟩) (by assumption) ?_
  rotate_left
  · (intro w hSw; (try dsimp only at hSw); go_simp) <;> with_reducible rfl
  (try simp only [Act.put, List.getElem_toArray, List.getElem_cons_zero, List.getElem_cons_succ, List.setIfInBounds_toArray, List.set_cons_zero, List.set_cons_succ])
  refine wpAnyH_take (i := 4) (v := ?_) rfl (by kernel_rfl) (by kernel_rfl) (by kernel_rfl) (fun _ _ _ h => h) (Or.inl ⟨by kernel_rfl, ?_⟩) (by assumption) ?_
  rotate_left
  · (intro w hSw; (try dsimp only at hSw); go_simp) <;> with_reducible rfl
  (try simp only [Act.put, List.getElem_toArray, List.getElem_cons_zero, List.getElem_cons_succ, List.setIfInBounds_toArray, List.set_cons_zero, List.set_cons_succ])
  refine wpAnyH_take (i := 5) (v := ?_) rfl (by kernel_rfl) (by kernel_rfl) (by kernel_rfl) (fun _ _ _ h => h) (Or.inl ⟨by kernel_rfl, ?_⟩) (by assumption) ?_
  rotate_left
  · (intro w hSw; (try dsimp only at hSw); go_simp) <;> with_reducible rfl
  (try simp only [Act.put, List.getElem_toArray, List.getElem_cons_zero, List.getElem_cons_succ, List.setIfInBounds_toArray, List.set_cons_zero, List.set_cons_succ])
  refine wpAnyH_take (i := 6) (v := ?_) rfl (by kernel_rfl) (by kernel_rfl) (by kernel_rfl) (fun _ _ _ h => h) (Or.inl ⟨by kernel_rfl, ?_⟩) (by assumption) ?_
  rotate_left
  · (intro w hSw; (try dsimp only at hSw); go_simp) <;> with_reducible rfl
  (try simp only [Act.put, List.getElem_toArray, List.getElem_cons_zero, List.getElem_cons_succ, List.setIfInBounds_toArray, List.set_cons_zero, List.set_cons_succ])
  refine wpAnyH_take (i := 8) (v := ?_) rfl (by kernel_rfl) (by kernel_rfl) (by kernel_rfl) (fun _ _ _ h => h) (Or.inl ⟨by kernel_rfl, ?_⟩) (by assumption) ?_
  rotate_left
  · (intro w hSw; (try dsimp only at hSw); go_simp) <;> with_reducible rfl
  (try simp only [Act.put, List.getElem_toArray, List.getElem_cons_zero, List.getElem_cons_succ, List.setIfInBounds_toArray, List.set_cons_zero, List.set_cons_succ])
  refine wpAnyH_take (i := 9) (v := ?_) rfl (by kernel_rfl) (by kernel_rfl) (by kernel_rfl) (fun _ _ _ h => h) (Or.inl ⟨by kernel_rfl, ?_⟩) (by assumption) ?_
  rotate_left
  · (intro w hSw; (try dsimp only at hSw); go_simp) <;> with_reducible rfl
  (try simp only [Act.put, List.getElem_toArray, List.getElem_cons_zero, List.getElem_cons_succ, List.setIfInBounds_toArray, List.set_cons_zero, List.set_cons_succ])
  refine wpAnyH_take (i := 10) (v := ?_) rfl (by kernel_rfl) (by kernel_rfl) (by kernel_rfl) (fun _ _ _ h => h) (Or.inl ⟨by kernel_rfl, ?_⟩) (by assumption) ?_
  rotate_left
  · (intro w hSw; (try dsimp only at hSw); go_simp) <;> with_reducible rfl
  (try simp only [Act.put, List.getElem_toArray, List.getElem_cons_zero, List.getElem_cons_succ, List.setIfInBounds_toArray, List.set_cons_zero, List.set_cons_succ])
  refine wpAnyH_take (i := 11) (v := ?_) rfl (by kernel_rfl) (by kernel_rfl) (by kernel_rfl) (fun _ _ _ h => h) (Or.inl ⟨by kernel_rfl, ?_⟩) (by assumption) ?_
  rotate_left
  · (intro w hSw; (try dsimp only at hSw); go_simp) <;> with_reducible rfl
  (try simp only [Act.put, List.getElem_toArray, List.getElem_cons_zero, List.getElem_cons_succ, List.setIfInBounds_toArray, List.set_cons_zero, List.set_cons_succ])
  refine wpAnyH_take (i := 12) (v := ?_) rfl (by kernel_rfl) (by kernel_rfl) (by kernel_rfl) (fun _ _ _ h => h) (Or.inl ⟨by kernel_rfl, ?_⟩) (by assumption) ?_
  rotate_left
  · (intro w hSw; (try dsimp only at hSw); go_simp) <;> with_reducible rfl
  (try simp only [Act.put, List.getElem_toArray, List.getElem_cons_zero, List.getElem_cons_succ, List.setIfInBounds_toArray, List.set_cons_zero, List.set_cons_succ])
  refine wpAnyH_take (i := 13) (v := ?_) rfl (by kernel_rfl) (by kernel_rfl) (by kernel_rfl) (fun _ _ _ h => h) (Or.inl ⟨by kernel_rfl, ?_⟩) (by assumption) ?_
  rotate_left
  · (intro w hSw; (try dsimp only at hSw); go_simp) <;> with_reducible rfl
  (try simp only [Act.put, List.getElem_toArray, List.getElem_cons_zero, List.getElem_cons_succ, List.setIfInBounds_toArray, List.set_cons_zero, List.set_cons_succ])
  rw [← HV0.out]
  refine wpAnyH_ready (rs := [7]) (by kernel_rfl) (by simp) ?_
  refine AllReadyH.cons rfl (fun K hK => ?_) AllReadyH.nil
  go_simp
  refine hM.mono ?_
  rintro e v1 ⟨rfl, hst, hfs⟩
  have HK1 : Hid (Fs v1 (dsk w.heap.size B G) (F0 n) 5000) := hfs
  have HBx1 : Hid (v1.heap[bb]? = some (.cells #[ptr cc, ptr B, ptr x, ptr y] 44)) := (hst.same HBx0.out (by decide)).trans HBx0.out
  have HA1 : Hid (UnAt v1 L Un0) := HA0.out.st hst
  have HR1 : Hid (Rk v1 y gx cap n (List.replicate (n * 32) 0) 0) := Rk.kept HR0.out (fun g cs t fz hg ht => hst.same hg (by rcases ht with rfl | rfl | rfl <;> decide))
  have HX1 : Hid (RXA v1 w2.heap.size x f p s t [] Fd.FS.zero ∧ Pc.RT v1 t (Pc.trS Pc.St0)) := ⟨HX0.out.1.keep (fun k cs ty fr hk ht => (hst.same hk (rk_st ht)).trans hk) hst.size, HX0.out.2.keep (hst.same HX0.out.2 (by decide))⟩
  have HO1 : Hid (Below w.heap.size w v1) := HO0.out.trans (hst.below (Nat.le_refl _) HO0.out.size)
  have hR := rmake0_at HR1.out (by omega) h1 h2
  clear hM hst hfs
  refine hK.out _ _ (hS _ HBx1.out) (fun hHeld => ?_)
  clear hK K
  (try simp only [Act.put, List.getElem_toArray, List.getElem_cons_zero, List.getElem_cons_succ, List.setIfInBounds_toArray, List.set_cons_zero, List.set_cons_succ])
  refine wpAnyH_ready (rs := [14]) (by kernel_rfl) (by simp) ?_
  refine AllReadyH.cons rfl (fun K hK => ?_) AllReadyH.nil
  go_simp
  refine hR.mono ?_
  rintro e v2 ⟨rfl, -, hup⟩
  have hyu := YU.of HR1.out hup
  have HK2 : Hid (Fs v2 (dsk w.heap.size B G) (F0 n) 5000) := HK1.out.kept (fun k hk => hyu.isSt hk)
  have HBx2 : Hid (v2.heap[bb]? = some (.cells #[ptr cc, ptr B, ptr x, ptr y] 44)) := hyu.cells _ _ _ _ HBx1.out (by decide) (by decide)
  have HA2 : Hid (UnAt v2 L Un0) := HA1.out.yu hyu
  have HX2 : Hid (RXA v2 w2.heap.size x f p s t [] Fd.FS.zero ∧ Pc.RT v2 t (Pc.trS Pc.St0)) := ⟨HX1.out.1.keep (fun k cs ty fr hk ht => hyu.cells _ _ _ _ hk (by rintro rfl; revert ht; decide) (by rintro rfl; revert ht; decide)) hyu.size, hyu.cells _ _ _ _ HX1.out.2 (by decide) (by decide)⟩
  have HO2 : Hid (Below w.heap.size w v2) := HO1.out.trans (hup.below (fun k hk => by have := HYq.out; have := HB3.out.size; have := HB2.out.size; have := HB1.out.size; have := HR4.out.low; rcases hk with e | e <;> omega) HO1.out.size)
  have hC := ubegin_at HA2.out
  rw [← Hcc.out] at hC
  clear hR hup hyu
  refine hK.out _ _ (hS _ HBx2.out) (fun hHeld => ?_)
  clear hK K
  (try simp only [Act.put, List.getElem_toArray, List.getElem_cons_zero, List.getElem_cons_succ, List.setIfInBounds_toArray, List.set_cons_zero, List.set_cons_succ])
  refine wpAnyH_take (i := 15) (v := ?_) rfl (by kernel_rfl) (by kernel_rfl) (by kernel_rfl) (fun _ _ _ h => h) (Or.inl ⟨by kernel_rfl, ?_⟩) (by assumption) ?_
  rotate_left
  · (intro w hSw; (try dsimp only at hSw); go_simp) <;> with_reducible rfl
  (try simp only [Act.put, List.getElem_toArray, List.getElem_cons_zero, List.getElem_cons_succ, List.setIfInBounds_toArray, List.set_cons_zero, List.set_cons_succ])
  refine wpAnyH_take (i := 16) (v := ?_) rfl (by kernel_rfl) (by kernel_rfl) (by kernel_rfl) (fun _ _ _ h => h) (Or.inl ⟨by kernel_rfl, ?_⟩) (by assumption) ?_
  rotate_left
  · (intro w hSw; (try dsimp only at hSw); go_simp) <;> with_reducible rfl
  (try simp only [Act.put, List.getElem_toArray, List.getElem_cons_zero, List.getElem_cons_succ, List.setIfInBounds_toArray, List.set_cons_zero, List.set_cons_succ])
  refine wpAnyH_take (i := 17) (v := ?_) rfl (by kernel_rfl) (by kernel_rfl) (by kernel_rfl) (fun _ _ _ h => h) (Or.inl ⟨by kernel_rfl, ?_⟩) (by assumption) ?_
  rotate_left
  · (intro w hSw; (try dsimp only at hSw); go_simp) <;> with_reducible rfl
  (try simp only [Act.put, List.getElem_toArray, List.getElem_cons_zero, List.getElem_cons_succ, List.setIfInBounds_toArray, List.set_cons_zero, List.set_cons_succ])
  refine wpAnyH_take (i := 18) (v := ?_) rfl (by kernel_rfl) (by kernel_rfl) (by kernel_rfl) (fun _ _ _ h => h) (Or.inl ⟨by kernel_rfl, ?_⟩) (by assumption) ?_
  rotate_left
  · (intro w hSw; (try dsimp only at hSw); go_simp) <;> with_reducible rfl
  (try simp only [Act.put, List.getElem_toArray, List.getElem_cons_zero, List.getElem_cons_succ, List.setIfInBounds_toArray, List.set_cons_zero, List.set_cons_succ])
  refine wpAnyH_take (i := 19) (v := ?_) rfl (by kernel_rfl) (by kernel_rfl) (by kernel_rfl) (fun _ _ _ h => h) (Or.inl ⟨by kernel_rfl, ?_⟩) (by assumption) ?_
  rotate_left
  · (intro w hSw; (try dsimp only at hSw); go_simp) <;> with_reducible rfl
  (try simp only [Act.put, List.getElem_toArray, List.getElem_cons_zero, List.getElem_cons_succ, List.setIfInBounds_toArray, List.set_cons_zero, List.set_cons_succ])
  refine wpAnyH_take (i := 20) (v := ?_) rfl (by kernel_rfl) (by kernel_rfl) (by kernel_rfl) (fun _ _ _ h => h) (Or.inl ⟨by kernel_rfl, ?_⟩) (by assumption) ?_
  rotate_left
  · (intro w hSw; (try dsimp only at hSw); go_simp) <;> with_reducible rfl
  (try simp only [Act.put, List.getElem_toArray, List.getElem_cons_zero, List.getElem_cons_succ, List.setIfInBounds_toArray, List.set_cons_zero, List.set_cons_succ])
  refine wpAnyH_take (i := 22) (v := ?_) rfl (by kernel_rfl) (by kernel_rfl) (by kernel_rfl) (fun _ _ _ h => h) (Or.inl ⟨by kernel_rfl, ?_⟩) (by assumption) ?_
  rotate_left
  · (intro w hSw; (try dsimp only at hSw); go_simp) <;> with_reducible rfl
  (try simp only [Act.put, List.getElem_toArray, List.getElem_cons_zero, List.getElem_cons_succ, List.setIfInBounds_toArray, List.set_cons_zero, List.set_cons_succ])
  refine wpAnyH_take (i := 23) (v := ?_) rfl (by kernel_rfl) (by kernel_rfl) (by kernel_rfl) (fun _ _ _ h => h) (Or.inl ⟨by kernel_rfl, ?_⟩) (by assumption) ?_
  rotate_left
  · (intro w hSw; (try dsimp only at hSw); go_simp) <;> with_reducible rfl
  (try simp only [Act.put, List.getElem_toArray, List.getElem_cons_zero, List.getElem_cons_succ, List.setIfInBounds_toArray, List.set_cons_zero, List.set_cons_succ])
  refine wpAnyH_take (i := 24) (v := ?_) rfl (by kernel_rfl) (by kernel_rfl) (by kernel_rfl) (fun _ _ _ h => h) (Or.inl ⟨by kernel_rfl, ?_⟩) (by assumption) ?_
  rotate_left
  · (intro w hSw; (try dsimp only at hSw); go_simp) <;> with_reducible rfl
  (try simp only [Act.put, List.getElem_toArray, List.getElem_cons_zero, List.getElem_cons_succ, List.setIfInBounds_toArray, List.set_cons_zero, List.set_cons_succ])
  refine wpAnyH_take (i := 25) (v := ?_) rfl (by kernel_rfl) (by kernel_rfl) (by kernel_rfl) (fun _ _ _ h => h) (Or.inl ⟨by kernel_rfl, ?_⟩) (by assumption) ?_
  rotate_left
  · (intro w hSw; (try dsimp only at hSw); go_simp) <;> with_reducible rfl
  (try simp only [Act.put, List.getElem_toArray, List.getElem_cons_zero, List.getElem_cons_succ, List.setIfInBounds_toArray, List.set_cons_zero, List.set_cons_succ])
  refine wpAnyH_ready (rs := [21]) (by kernel_rfl) (by simp) ?_
  refine AllReadyH.cons rfl (fun K hK => ?_) AllReadyH.nil
  go_simp
  refine hC.mono ?_
  rintro e v3 ⟨rfl, ha3, hu3⟩
  have HK3 : Hid (Fs v3 (dsk w.heap.size B G) (F0 n) 5000) := HK2.out.kept (fun k hk => hu3.isSt hk)
  have HBx3 : Hid (v3.heap[bb]? = some (.cells #[ptr cc, ptr B, ptr x, ptr y] 44)) := hu3.other HBx2.out rfl
  have HA3 : Hid (UnAt v3 L Un1) := ha3
  have HX3' : Hid (RXA v3 w2.heap.size x f p s t [] Fd.FS.zero ∧ Pc.RT v3 t (Pc.trS Pc.St0)) := ⟨HX2.out.1.keep (fun k cs ty fr hk ht => hu3.other hk (rk_un ht)) hu3.size, hu3.other HX2.out.2 rfl⟩
  have HO3 : Hid (Below w.heap.size w v3) := HO2.out.trans (hu3.below (by rw [HL.out]; exact Nat.le_refl _) HO2.out.size)
  have hXb := xbegin_at HX3'.out.1 HX3'.out.2
  clear hC ha3 hu3
  refine hK.out _ _ (hS _ HBx3.out) (fun hHeld => ?_)
  clear hK K
  (try simp only [Act.put, List.getElem_toArray, List.getElem_cons_zero, List.getElem_cons_succ, List.setIfInBounds_toArray, List.set_cons_zero, List.set_cons_succ])
  refine wpAnyH_ready (rs := [26]) (by kernel_rfl) (by simp) ?_
  refine AllReadyH.cons rfl (fun K hK => ?_) AllReadyH.nil
  go_simp
  refine hXb.mono ?_
  rintro e v4 ⟨rfl, hg4⟩
  have HK4 : Hid (Fs v4 (dsk w.heap.size B G) (F0 n) 5000) := HK3.out.kept (fun k hk => hg4.isSt hk)
  have HBx4 : Hid (v4.heap[bb]? = some (.cells #[ptr cc, ptr B, ptr x, ptr y] 44)) := hg4.other _ _ _ _ HBx3.out (by decide)
  have HA4 : Hid (UnAt v4 L Un1) := HA3.out.rg hg4
  have HO4 : Hid (Below w.heap.size w v4) := HO3.out.trans (hg4.below (by have := HB2.out.size; have := HB1.out.size; omega))
  clear hXb hg4
  refine hK.out _ _ (hS _ HBx4.out) (fun hHeld => ?_)
  clear hK K
  (try simp only [Act.put, List.getElem_toArray, List.getElem_cons_zero, List.getElem_cons_succ, List.setIfInBounds_toArray, List.set_cons_zero, List.set_cons_succ])
  refine wpAnyH_take (i := 27) (v := ?_) rfl (by kernel_rfl) (by kernel_rfl) (by kernel_rfl) (fun _ _ _ h => h) (Or.inl ⟨by kernel_rfl, ?_⟩) (by assumption) ?_
  rotate_left
  · (intro w hSw; (try dsimp only at hSw); go_simp) <;> with_reducible rfl
  (try simp only [Act.put, List.getElem_toArray, List.getElem_cons_zero, List.getElem_cons_succ, List.setIfInBounds_toArray, List.set_cons_zero, List.set_cons_succ])
  refine wpAnyH_take (i := 28) (v := ?_) rfl (by kernel_rfl) (by kernel_rfl) (by kernel_rfl) (fun _ _ _ h => h) (Or.inl ⟨by kernel_rfl, ?_⟩) (by assumption) ?_
  rotate_left
  · (intro w hSw; (try dsimp only at hSw); go_simp) <;> with_reducible rfl
  (try simp only [Act.put, List.getElem_toArray, List.getElem_cons_zero, List.getElem_cons_succ, List.setIfInBounds_toArray, List.set_cons_zero, List.set_cons_succ])
  refine wpAnyH_done (by kernel_rfl) ?_ _
  clear hS
  go_wp2
  go_ret
  exact ⟨bb, L, B, G, x, y, rfl, by rw [← Hcc.out]; exact HBx4.out, HA4.out, HK4.out, by rw [HL.out]; exact Nat.le_refl _, HO4.out⟩
end Go.Proofs.YtikjfdihocgfpaaGreatDoor
