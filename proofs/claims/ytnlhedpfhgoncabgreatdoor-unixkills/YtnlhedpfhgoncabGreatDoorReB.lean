/- The reference of layer 15: Put, Format. -/
import Derived.Test.YtnlhedpfhgoncabGreatDoorRefDiskTReA
set_option linter.all false
namespace Go.Proofs.YtnlhedpfhgoncabGreatDoor
open Go.RowKit
theorem words_arr : Tryz.prog.underlying 46 = some (.slice (Tryz.prog.elem 46)) := by kernel_rfl
theorem words_e (W : World) : (sizeOf (Tryz.prog.elem 46)).run Tryz.prog W = .ok 1 W := by kernel_rfl
theorem words_l (g c l : Nat) (hl : l < 32) (hc : 32 ≤ c) (W : World) : (Instr.slice 46 (.slice (some ⟨g, 0, none⟩) 32 c) (some (.int .i64 (l : Int))) none none).run Tryz.prog W = .ok (.slice (some ⟨g, l, none⟩) (32 - l) (c - l)) W := by
  rw [run_slice_l W _ _ _ _ words_arr .i64 l (by omega) (by omega), words_e]
  show Result.ok (sliced _ _ _ _ _) W = _
  unfold sliced
  simp only [Int.toNat_natCast, Nat.mul_one]
  rw [if_neg (by omega)]
  simp [add0]
section
variable {w w' : World} {bx gx cap n m : Nat} {vs : List Int}
/-- The row with so many words of an inode laid. -/
theorem Rw.putw {g c i k : Nat} {F xs : List Int} (h : Rw w g c (splice F (i % 3 * 9) (xs.take k))) (hF : F.length = 32) (hx : xs.length = 9) (hk : k < 9) : Rw (w.setCell ⟨g, i % 3 * 9 + k, none⟩ (.int .u64 (xs.getD k 0))) g c (splice F (i % 3 * 9) (xs.take (k + 1))) := by
  have := h.set (j := i % 3 * 9 + k) (x := xs.getD k 0)
  rwa [splice_set (by omega) (by omega)] at this
set_option maxHeartbeats 4000000 in
set_option maxRecDepth 100000 in
theorem ePut_at (h : Rk w bx gx cap n vs m) (hm : m ≤ 940000000000) (hn : 13 ≤ n) (i : Nat) (hi : i < 32) (xs : List Int) (hx : xs.length = 9) (hf : ∀ x ∈ xs, Fit x) :
    Calls Tryz.prog 79 #[ptr bx, .int .i64 (i : Int), .agg (irow xs)] w fun e w' => e = .returned (.int .i64 0) ∧ Rk w' bx gx cap n (putW vs i xs) (m + 2) ∧ UpdP (fun k => k = bx ∨ k = gx) w w' := by
  have HLn : Hid (vs.length = n * 32) := h.len
  have HF : Hid (∀ j, j < 9 → Fit (xs.getD j 0)) := fun j hj => hf _ (by
    rw [List.getD_eq_getElem?_getD, List.getElem?_eq_getElem (by omega)]
    exact List.getElem_mem _)
  obtain ⟨X, hX⟩ : ∃ X, X = irow xs := ⟨_, rfl⟩
  obtain ⟨W0, hW0⟩ : ∃ W, W = w.alloc (.cells X 182) := ⟨_, rfl⟩
  have hb0 : Below w.heap.size w W0 := by rw [hW0]; exact below_alloc _ _
  have hr0 : W0.heap[w.heap.size]? = some (.cells X 182) := by rw [hW0]; exact heap_alloc_new _ _
  have hA := eget_at (h.below hb0) (by omega) (1 + i / 3) (by omega)
  have HB0 : Hid (Below w.heap.size w W0) := hb0
  have HR0 : Hid _ := hr0
  have HW0 : Hid _ := hW0
  have HXq : Hid (X = irow xs) := hX
  have HXl : Hid (xs.length = 9) := hx
  have HBl : Hid (bx < w.heap.size) := by obtain ⟨_, _, h, _⟩ := h; exact lt_of_heap h.head
  obtain ⟨r, hr⟩ : ∃ r, r = i % 3 := ⟨_, rfl⟩
  obtain ⟨d, hd⟩ : ∃ d, d = i / 3 := ⟨_, rfl⟩
  have Hrd : Hid (r = i % 3 ∧ d = i / 3) := ⟨hr, hd⟩
  have ht : (i : Int).tmod 3 = (r : Int) := by rw [Int.tmod_eq_emod_of_nonneg (by omega)]; omega
  have hq : (i : Int).tdiv 3 = (d : Int) := by rw [Int.tdiv_eq_ediv_of_nonneg (by omega)]; omega
  have hr3 : r < 3 := by omega
  have hd11 : d < 11 := by omega
  have hw1 : IntKind.i64.wrap ((d : Nat) : Int) = (d : Int) := Bi.wrap_small d (by omega)
  have hw2 : IntKind.i64.wrap ((r : Nat) : Int) = (r : Int) := Bi.wrap_small r (by omega)
  rw [← hd, show ((1 + d : Nat) : Int) = 1 + (d : Int) by omega] at hA
  have hi0 : ¬ (i : Int) < 0 := by omega
  have hi1 : ¬ (32 : Int) ≤ (i : Int) := by omega
  have HFl : Hid ((frameOf vs (1 + d)).length = 32) := frameOf_length vs (1 + d) n HLn.out (by omega)
  rw [← hX]
  clear h hf hb0 hr0 hW0 hX hx hr hd
  go_enter Tryz.func79, Tryz.ntmps79
  go_wp2_with fail
  rw [← HW0.out]
  refine hA.mono ?_
  rintro e w1 ⟨g, c, rfl, ⟨hg, hrw, gt, pt, hru, hg1, hg2⟩, hu1⟩
  have hc32 : 32 ≤ c := hrw.2.1
  have hsl : ∀ W, (Instr.slice 46 (.slice (some ⟨g, 0, none⟩) 32 c) (some (.int .i64 ((r : Int) * 9))) none none).run Tryz.prog W = .ok (.slice (some ⟨g, r * 9, none⟩) (32 - r * 9) (c - r * 9)) W := fun W => by
    have := words_l g c (r * 9) (by omega) hc32 W
    rw [Int.natCast_mul] at this
    exact this
  obtain ⟨c1, hc1⟩ : ∃ k, k = 32 - r * 9 := ⟨_, rfl⟩
  obtain ⟨c2, hc2⟩ : ∃ k, k = c - r * 9 := ⟨_, rfl⟩
  rw [← hc1, ← hc2] at hsl
  have hc9 : 9 ≤ c1 := by omega
  obtain ⟨p, hp⟩ : ∃ p, p = w.heap.size := ⟨_, rfl⟩
  have Hp : Hid (p = w.heap.size) := hp
  have hr1 : w1.heap[p]? = some (.cells X 182) := by rw [hp]; exact (hu1.block _ (lt_of_heap HR0.out) (by have := HBl.out; omega)).trans HR0.out
  have hpg : p ≠ g := by have := lt_of_heap HR0.out; omega
  have HR1 : Hid (w1.heap[p]? = some (.cells X 182)) := hr1
  have HM : Hid (W0.heap.size ≤ g ∧ W0.heap.size ≤ w1.heap.size) := ⟨hg, hu1.size⟩
  have HRu : Hid (RefU W0.heap.size w1 bx gx cap n vs gt pt) := hru
  have HGt : Hid (gt ≤ m + 1 ∧ pt ≤ m + 1) := ⟨hg1, hg2⟩
  have HU1 : Hid (UpdP (fun k => k = bx ∨ k = gx) w w1) := (UpdP.of_below HB0.out).trans (hu1.p _ (Or.inl rfl))
  obtain ⟨F, hFq⟩ : ∃ F, F = frameOf vs (1 + d) := ⟨_, rfl⟩
  have HFq : Hid (F = frameOf vs (1 + d)) := hFq
  rw [← hFq] at HFl hrw
  have hI : ∀ j, j < 9 → w1.cell? ⟨p, j, none⟩ = some (.int .i64 (xs.getD j 0)) := fun j hj => by rw [cell_of_heap hr1, HXq.out]; exact irow_get _ _ (by rw [HXl.out]; exact hj)
  have HRw : Hid (Rw w1 g c (splice F (i % 3 * 9) (xs.take 0))) := by rw [List.take_zero, splice_nil]; exact hrw
  have s0 := hrw.cell (j := r * 9) (by omega)
  have s1 := hrw.cell (j := r * 9 + 1) (by omega)
  have s2 := hrw.cell (j := r * 9 + 2) (by omega)
  have hz := fun j => hrw.free (j := j)
  have i0 := hI 0 (by omega)
  have i1 := hI 1 (by omega)
  have i2 := hI 2 (by omega)
  have f0 := (HF.out 0 (by omega)).su
  have f1 := (HF.out 1 (by omega)).su
  have f2 := (HF.out 2 (by omega)).su
  have k1 := HRw.out.putw HFl.out HXl.out (by omega)
  have k2 := k1.putw HFl.out HXl.out (by omega)
  have k3 := k2.putw HFl.out HXl.out (by omega)
  rw [← Hrd.out.1, Nat.add_zero] at k3
  generalize xs.getD 0 0 = x0 at *
  generalize xs.getD 1 0 = x1 at *
  generalize xs.getD 2 0 = x2 at *
  obtain ⟨W3, hW3⟩ : ∃ W, W = ((w1.setCell ⟨g, r * 9, none⟩ (.int .u64 x0)).setCell ⟨g, r * 9 + 1, none⟩ (.int .u64 x1)).setCell ⟨g, r * 9 + 2, none⟩ (.int .u64 x2) := ⟨_, rfl⟩
  have HW3 : Hid _ := hW3
  have HK3 : Hid (Rw W3 g c (splice F (r * 9) (xs.take 3))) := by rw [hW3]; exact k3
  have HU3 : Hid (Upd g w1 W3) := by rw [hW3]; exact ((Upd.setCell _ _ _ _).trans (Upd.setCell _ _ _ _)).trans (Upd.setCell _ _ _ _)
  generalize F.getD (r * 9) 0 = y0 at *
  generalize F.getD (r * 9 + 1) 0 = y1 at *
  generalize F.getD (r * 9 + 2) 0 = y2 at *
  clear hA hg hrw hru hg1 hg2 hu1 hc1 hc2 hp hr1 hFq hI k1 k2 k3 hW3 HRw
  go_wp2_with fail
  rw [← Hp.out]
  go_region
  rw [← HW3.out]
  clear HW3 i0 i1 i2 f0 f1 f2 s0 s1 s2 hz hsl
  obtain ⟨W4, hW4⟩ : ∃ W, W = W3.drew := ⟨_, rfl⟩
  have HK4 : Hid (Rw W4 g c (splice F (r * 9) (xs.take (3 + 0)))) := by rw [hW4]; exact HK3.out.below (Di.drewN_below ⟨1, rfl⟩)
  have HU4 : Hid (Upd g w1 W4) := by rw [hW4]; exact HU3.out.trans (Upd.of_below (Di.drewN_below ⟨1, rfl⟩))
  rw [← hW4]
  clear hW4 HK3 HU3
  go_wp2
  go_loopw [9] (fun z wr => ∃ (k : Nat), k ≤ 6 ∧ z = .int .i64 k ∧ Rw wr g c (splice F (r * 9) (xs.take (3 + k))) ∧ Upd g w1 wr) (fun z _ => 6 - (intOf z).toNat)
  case atStart => exact ⟨0, by omega, rfl, HK4.out, HU4.out⟩
  case round =>
    clear HK4 HU4
    obtain ⟨k, hk, rfl, hrw, hu⟩ := hrel
    have HU : Hid (Upd g w1 wr) := hu
    by_cases hlt : k < 6
    · have hki : decide ((k : Int) < 6) = true := by simp; omega
      have hk6 : (k : Int) < 6 := by omega
      have hkc : 3 + (k : Int) < (c1 : Int) := by omega
      have hcp : wr.cell? ⟨p, 3 + k, none⟩ = some (.int .i64 (xs.getD (3 + k) 0)) := by
        rw [cell_of_heap ((hu.block p (lt_of_heap HR1.out) hpg).trans HR1.out), HXq.out]
        exact irow_get _ _ (by rw [HXl.out]; omega)
      have hcq := hrw.cell (j := r * 9 + (3 + k)) (by omega)
      have hfz := hrw.free (j := r * 9 + (3 + k))
      have hfu := (HF.out (3 + k) (by omega)).su
      have hn := (show Rw wr g c (splice F (i % 3 * 9) (xs.take (3 + k))) by rw [← Hrd.out.1]; exact hrw).putw HFl.out HXl.out (by omega)
      rw [← Hrd.out.1] at hn
      generalize xs.getD (3 + k) 0 = y at *
      generalize (splice F (r * 9) (xs.take (3 + k))).getD (r * 9 + (3 + k)) 0 = y' at *
      have HN : Hid (Rw (wr.setCell ⟨g, r * 9 + (3 + k), none⟩ (.int .u64 y)) g c (splice F (r * 9) (xs.take (3 + (k + 1))))) := hn
      clear hrw hu hn
      go_wp2
      go_roundw
      case rel => exact ⟨k + 1, by omega, by go_num, HN.out, HU.out.trans (Upd.setCell _ _ _ _)⟩
      case measure => simp [intOf]; omega
    · have hki : decide ((k : Int) < 6) = false := by simp; omega
      have hk6 : ¬ (k : Int) < 6 := by omega
      have hk0 : k = 6 := by omega
      rw [hk0, List.take_of_length_le (by rw [HXl.out]; omega)] at hrw
      have hru5 := (HRu.out.upd hu HM.out.1 HM.out.2).ref
      have hP := eput_at (m := m + 1) ⟨gt, pt, hru5, HGt.out.1, HGt.out.2⟩ (by omega) (1 + d) (by omega) hrw
      have HE : Hid (splice vs ((1 + d) * 32) (splice F (r * 9) xs) = putW vs i xs) := by
        unfold putW
        rw [HFq.out, Hrd.out.1, Hrd.out.2]
        rfl
      rw [HE.out, show ((1 + d : Nat) : Int) = 1 + (d : Int) by omega] at hP
      have HUa : Hid (UpdP (fun k => k = bx ∨ k = gx) w wr) := by
        have h1 := HU1.out
        refine ⟨hu.os.trans h1.os, hu.tape.trans h1.tape, hu.output.trans h1.output, Nat.le_trans h1.size hu.size, fun k hk hn => (hu.block k (Nat.lt_of_lt_of_le hk h1.size) (by have := HM.out.1; have := HB0.out.size; omega)).trans (h1.block k hk hn)⟩
      clear hk0 hrw hru5 hu
      go_wp2_with fail
      refine hP.mono ?_
      rintro e w6 ⟨rfl, hk6', hu6⟩
      have HK6 : Hid (Rk w6 bx gx cap n (putW vs i xs) (m + 2)) := hk6'
      have HU6 : Hid (UpdP (fun k => k = bx ∨ k = gx) w w6) := HUa.out.trans hu6
      clear hP hk6' hu6
      go_wp2
      go_ret
      exact ⟨rfl, HK6.out, HU6.out⟩
set_option maxHeartbeats 4000000 in
set_option maxRecDepth 100000 in
theorem eFormat_at (h : Rk w bx gx cap n (List.replicate (n * 32) 0) m) (hm : m ≤ 900000000000) (h1 : 13 ≤ n) (h2 : n ≤ 64) :
    Calls Tryz.prog 35 #[ptr bx, .int .i64 (n : Int)] w fun e w' => e = .returned (.int .i64 0) ∧ (∃ vs, Rk w' bx gx cap n vs (m + 20) ∧ Holds vs (F0 n)) ∧ UpdP (fun k => k = bx ∨ k = gx) w w' := by
  have t1 : decide ((n : Int) < 13) = false := by simp; omega
  have t2 : decide (1024 < (n : Int)) = false := by simp; omega
  have hnn : ¬ (n : Int) < (n : Int) := by omega
  have c0 : w.cell? ⟨bx, 0, none⟩ = some (.slice (some ⟨gx, 0, none⟩) n cap) := by obtain ⟨_, _, h, _⟩ := h; exact h.c0
  have hmk := make_row
  obtain ⟨zs, hzs⟩ : ∃ z, z = List.replicate (n * 32) (0 : Int) := ⟨_, rfl⟩
  have HZ0 : Hid (∀ b, b < n → frameOf zs b = List.replicate 32 0) := by rw [hzs]; exact fun b hb => frame_zeros n b hb
  rw [← hzs] at h
  have HR : Hid (Rk w bx gx cap n zs m) := h
  clear h hzs
  go_enter Tryz.func35, Tryz.ntmps35
  go_wp2
  go_loopw [5] (fun z wr => ∃ (k : Nat) (us : List Int), k ≤ 12 ∧ z = .int .i64 k ∧ Rk wr bx gx cap n us (m + k) ∧ UpdP (fun k => k = bx ∨ k = gx) w wr ∧ Hid (∀ b, b < n → frameOf us b = List.replicate 32 0)) (fun z _ => 12 - (intOf z).toNat)
  case atStart => exact ⟨0, zs, by omega, rfl, HR.out, UpdP.refl _ _, HZ0.out⟩
  case round =>
    clear HR
    obtain ⟨k, us, hk, rfl, hrk, hu, HZ⟩ := hrel
    have HRk : Hid (Rk wr bx gx cap n us (m + k)) := hrk
    have HU : Hid (UpdP (fun k => k = bx ∨ k = gx) w wr) := hu
    have HUl : Hid (us.length = n * 32) := hrk.len
    by_cases hlt : k < 12
    · have hki : decide ((k : Int) < 12) = true := by simp; omega
      obtain ⟨W1, hW1⟩ : ∃ W, W = wr.alloc (.cells zc 40) := ⟨_, rfl⟩
      have hb1 : Below wr.heap.size wr W1 := by rw [hW1]; exact below_alloc _ _
      have hP := eput_at (hrk.below hb1) (by omega) k (by omega) (by rw [hW1]; exact rw_new wr)
      have HW1 : Hid _ := hW1
      have HB1 : Hid (Below wr.heap.size wr W1) := hb1
      clear hrk hu hW1 hb1
      go_wp2_with fail
      rw [← HW1.out]
      refine hP.mono ?_
      rintro e w3 ⟨rfl, hk3, hu3⟩
      have HK3 : Hid (Rk w3 bx gx cap n (splice us (k * 32) (List.replicate 32 0)) (m + k + 1)) := hk3
      have HU3 : Hid (UpdP (fun k => k = bx ∨ k = gx) w w3) := (HU.out.trans (UpdP.of_below HB1.out)).trans hu3
      clear hP hk3 hu3
      go_wp2
      go_roundw
      case rel =>
        refine ⟨k + 1, _, by omega, by go_num, HK3.out, HU3.out, fun b hb => ?_⟩
        rw [frame_splice us _ n k b HUl.out (by omega) hb (by simp)]
        split
        · rfl
        · exact HZ.out b hb
      case measure => simp [intOf]; omega
    · have hki : decide ((k : Int) < 12) = false := by simp; omega
      have hk12 : ¬ (k : Int) < 12 := by omega
      have hw1 : IntKind.u64.wrap ((n : Nat) : Int) = (n : Int) := Fit.su ⟨by omega, by omega⟩
      obtain ⟨W1, hW1⟩ : ∃ W, W = wr.alloc (.cells zc 40) := ⟨_, rfl⟩
      have hb1 : Below wr.heap.size wr W1 := by rw [hW1]; exact below_alloc _ _
      have hz0 : zc[0]? = some (.int .u64 0) := rfl
      have hz1 : zc[1]? = some (.int .u64 0) := rfl
      have hz2 : zc[2]? = some (.int .u64 0) := rfl
      have hz3 : zc[3]? = some (.int .u64 0) := rfl
      have hU4 : (((zc.setIfInBounds 0 (.int .u64 318923232595)).setIfInBounds 1 (.int .u64 (n : Int))).setIfInBounds 2 (.int .u64 1)).setIfInBounds 3 (.int .u64 4095) = urow (hdW n [1] [4095]) := rfl
      obtain ⟨W2, hW2⟩ : ∃ W, W = wr.alloc (.cells ((((zc.setIfInBounds 0 (.int .u64 318923232595)).setIfInBounds 1 (.int .u64 (n : Int))).setIfInBounds 2 (.int .u64 1)).setIfInBounds 3 (.int .u64 4095)) 40) := ⟨_, rfl⟩
      have hhl : (hdW n [1] [4095]).length = 32 := hdW_len rfl (by simp)
      have hr2 : Rw W2 wr.heap.size 32 (hdW n [1] [4095]) := by rw [hW2, hU4]; exact rw_row wr _ hhl
      have hb2 : Below wr.heap.size wr W2 := by rw [hW2]; exact below_alloc _ _
      have hP := eput_at (hrk.below hb2) (by omega) 0 (by omega) hr2
      have HW2 : Hid _ := hW2
      have HB2 : Hid (Below wr.heap.size wr W2) := hb2
      clear hrk hu hW1 hW2 hb1 hb2 hr2 hhl hU4
      go_wp2_with fail
      rw [← HW2.out]
      refine hP.mono ?_
      rintro e w3 ⟨rfl, hk3, hu3⟩
      rw [Nat.zero_mul] at hk3
      have hI := ePut_at hk3 (by omega) h1 0 (by omega) [2, 1, 0, 0, 0, 0, 0, 0, 0] rfl (by
        intro x hx
        simp only [List.mem_cons, List.not_mem_nil, or_false] at hx
        rcases hx with rfl | rfl | rfl | rfl | rfl | rfl | rfl | rfl | rfl <;> exact ⟨by omega, by omega⟩)
      have hirow : irow [2, 1, 0, 0, 0, 0, 0, 0, 0] = #[.int .i64 2, .int .i64 1, .int .i64 0, .int .i64 0, .int .i64 0, .int .i64 0, .int .i64 0, .int .i64 0, .int .i64 0] := rfl
      rw [hirow] at hI
      have HU3 : Hid (UpdP (fun k => k = bx ∨ k = gx) w w3) := (HU.out.trans (UpdP.of_below HB2.out)).trans hu3
      clear hP hk3 hu3 hirow hz0 hz1 hz2 hz3
      go_wp2_with fail
      refine hI.mono ?_
      rintro e w4 ⟨rfl, hk4, hu4⟩
      have HE : Hid ((∃ vs, Rk w4 bx gx cap n vs (m + 20) ∧ Holds vs (F0 n)) ∧ UpdP (fun k => k = bx ∨ k = gx) w w4) := ⟨⟨_, hk4.mono (by omega), f0_holds h1 h2 HUl.out HZ.out⟩, HU3.out.trans hu4⟩
      clear hI hk4 hu4
      go_wp2
      go_ret
      exact ⟨rfl, HE.out.1, HE.out.2⟩
end
end Go.Proofs.YtnlhedpfhgoncabGreatDoor
