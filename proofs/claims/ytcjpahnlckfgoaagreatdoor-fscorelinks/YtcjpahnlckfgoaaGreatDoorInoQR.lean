/- Package inode: a file's drop, lacks, close. -/
/- Plain: the words behind a resize are the new file system's; behind a write; behind alloc and free. Names no program. -/
import Derived.Test.YtcjpahnlckfgoaaGreatDoorInoKL
import Derived.Test.YtcjpahnlckfgoaaGreatDoorInoPl
namespace Go.Proofs.YtcjpahnlckfgoaaGreatDoor
open Go.RowKit
set_option linter.unusedVariables false

section
variable {w w' : World} {X : FX} {vs ws : List Int} {m : Nat} {iw bw : List Nat} {kd lk sz : Int} {bl : List Nat}
set_option maxHeartbeats 1000000 in
set_option maxRecDepth 100000 in
theorem fdrop_no (h : FlAt w X vs ws m iw bw kd lk sz bl) (k : Nat) (hk : k < 6) (hd : isDat X.n (bl.getD k 0) = false) :
    Calls Tryz.prog 125 #[ptr X.bf, .int .i64 (k : Int)] w fun e w' => e = .returned (.tuple #[]) ∧ FlAt w' X vs ws m iw bw kd lk sz (bl.set k 0) ∧ Fr X w w' := by
  have hh := fhas_at h k hk
  rw [hd] at hh
  have HH : Hid (FlAt w X vs ws m iw bw kd lk sz bl) := h
  have hki : (k : Int) < 6 := by omega
  clear h hd
  go_enter Tryz.func125, Tryz.ntmps125
  go_wp2_with fail
  refine hh.mono ?_
  rintro e w1 ⟨rfl, hb1⟩
  have h1 := HH.out.below hb1
  have cb := h1.blk hk
  have fz := h1.free (7 + k)
  obtain ⟨h2, f2⟩ := h1.setb (b := 0) hk
  have H2 : Hid (FlAt (w1.setCell ⟨X.bf, 7 + k, none⟩ (.int .i64 0)) X vs ws m iw bw kd lk sz (bl.set k 0)) := h2
  have HF : Hid (Fr X w (w1.setCell ⟨X.bf, 7 + k, none⟩ (.int .i64 0))) := (SU.of_below hb1).trans f2
  clear hh h1 h2 f2 hb1
  generalize bl.getD k 0 = b' at *
  go_wp2
  go_end0
  exact ⟨rfl, H2.out, HF.out⟩
set_option maxHeartbeats 1000000 in
set_option maxRecDepth 100000 in
theorem fdrop_yes (h : FlAt w X vs ws m iw bw kd lk sz bl) (hm : m ≤ 900000000000) (k b : Nat) (hk : k < 6) (hb : bl.getD k 0 = b) (hd : isDat X.n b = true) :
    Calls Tryz.prog 125 #[ptr X.bf, .int .i64 (k : Int)] w fun e w' => e = .returned (.tuple #[]) ∧ FlAt w' X vs (splice ws (b * 32) (List.replicate 32 0)) m iw (Bi.mkW bw b false) kd lk sz (bl.set k 0) ∧ Fr X w w' := by
  have hh := fhas_at h k hk
  rw [hb, hd] at hh
  have hbn : b < X.n := by simp only [isDat, Bool.and_eq_true, decide_eq_true_eq] at hd; exact hd.2
  have HH : Hid (FlAt w X vs ws m iw bw kd lk sz bl) := h
  have Hb : Hid (bl.getD k 0 = b) := hb
  have hki : (k : Int) < 6 := by omega
  clear h hd hb
  go_enter Tryz.func125, Tryz.ntmps125
  go_wp2_with fail
  refine hh.mono ?_
  rintro e w1 ⟨rfl, hb1⟩
  have h1 := HH.out.below hb1
  have cb := h1.blk hk
  rw [Hb.out] at cb
  obtain ⟨c0, c1, c2, c3, c4, c5, c6⟩ := h1.c
  have hM := Bi.mark_yes X.hb X.gb X.n bw b false w1 h1.bm.bb hbn
  have H1 : Hid (FlAt w1 X vs ws m iw bw kd lk sz bl) := h1
  have HF1 : Hid (Fr X w w1) := SU.of_below hb1
  clear hh h1 hb1 c1 c3 c4 c5 c6
  go_wp2_with fail
  refine hM.mono ?_
  rintro e w2 ⟨rfl, hB2, hu2⟩
  obtain ⟨h2, f2⟩ := H1.out.setbw hB2 hu2
  obtain ⟨d0, d1, d2, d3, d4, d5, d6⟩ := h2.c
  have hA := dat_at h2.dr b hbn hm
  have H2 : Hid (FlAt w2 X vs ws m iw (Bi.mkW bw b false) kd lk sz bl) := h2
  have HF2 : Hid (Fr X w w2) := HF1.out.trans f2
  clear hM hB2 hu2 h2 f2 c0 c2 cb d1 d2 d3 d4 d5 d6
  go_wp2_with fail
  refine hA.mono ?_
  rintro e w3 ⟨q, rfl, hq, hdt⟩
  have HQ : Hid (DrQ w3 X.base X.bd X.B X.n vs ws m b q) := hq
  have HZs : Hid (zc.size = 32) := by unfold zc; rw [urow_size]; simp [Hid]
  have hz := lit_zc
  obtain ⟨r1, r2⟩ := hq.cells (us := List.replicate 32 0) (R := zc) (by simp) rfl
  have t := hdt.trans r2
  have h4 := H2.out.dt r1.dr t
  obtain ⟨W4, hW4⟩ : ∃ W, W = w3.setCells q 33 zc.toList := ⟨_, rfl⟩
  have HW4 : Hid _ := hW4
  rw [← hW4] at h4 t
  have cb := h4.blk hk
  have fz := h4.free (7 + k)
  obtain ⟨h5, f5⟩ := h4.setb (b := 0) hk
  have H5 : Hid (FlAt (W4.setCell ⟨X.bf, 7 + k, none⟩ (.int .i64 0)) X vs (splice ws (b * 32) (List.replicate 32 0)) m iw (Bi.mkW bw b false) kd lk sz (bl.set k 0)) := h5
  have HF5 : Hid (Fr X w (W4.setCell ⟨X.bf, 7 + k, none⟩ (.int .i64 0))) := (HF2.out.trans t.fr).trans f5
  generalize bl.getD k 0 = b' at *
  clear hA hq hdt d0 r1 r2 t h4 h5 f5 hW4
  go_wp2_with (first
    | (refine wpList_store_midQ HQ.out rfl _ _ rfl zc rfl rfl HZs.out (urow_one _) ?_; rw [← HW4.out])
    | go_in)
  go_end0
  exact ⟨rfl, H5.out, HF5.out⟩

set_option maxHeartbeats 1000000 in
theorem flacks_at (h : FlAt w X vs ws m iw bw kd lk sz bl) (nd L : Nat) (hn : nd ≤ 6) (hb : ∀ k, k < nd → isDat X.n (bl.getD k 0) = decide (k < L)) :
    Calls Tryz.prog 124 #[ptr X.bf, .int .i64 (nd : Int)] w fun e w' => e = .returned (.int .i64 ((nd - L : Nat) : Int)) ∧ Below w.heap.size w w' := by
  have HH : Hid (FlAt w X vs ws m iw bw kd lk sz bl) := h
  have HB : Hid (∀ k, k < nd → isDat X.n (bl.getD k 0) = decide (k < L)) := hb
  clear h hb
  go_enter Tryz.func124, Tryz.ntmps124
  go_wp2
  go_loopw [5, 8] (fun c s wr => ∃ (k z : Nat), k ≤ nd ∧ s = .int .i64 k ∧ c = .int .i64 z ∧ Hid (z = k - L) ∧ z ≤ k ∧ Below w.heap.size w wr) (fun _ s _ => nd - (intOf s).toNat)
  case atStart => exact ⟨0, 0, by omega, rfl, rfl, by show _ = _; omega, by omega, Below.refl _ _⟩
  case round =>
    obtain ⟨k, z, hk, rfl, rfl, Hz, hz, hbw⟩ := hrel
    have HBw : Hid (Below w.heap.size w wr) := hbw
    by_cases hlt : k < nd
    · have hki : (k : Int) < (nd : Int) := by omega
      have hh := fhas_at (HH.out.below hbw) k (by omega)
      rw [HB.out k hlt] at hh
      clear hbw
      by_cases hkl : k < L
      · rw [decide_eq_true hkl] at hh
        have Hkl : Hid (k < L) := hkl
        clear hkl
        go_wp2_with fail
        refine hh.mono ?_
        rintro e w1 ⟨rfl, hb1⟩
        have HB1 : Hid (Below w.heap.size w w1) := HBw.out.trans (hb1.mono HBw.out.size)
        clear hh hb1
        go_wp2
        go_roundw
        case rel => exact ⟨k + 1, z, by omega, by go_num, rfl, by have := Hz.out; have := Hkl.out; show _ = _; omega, by omega, HB1.out⟩
        case measure => simp [intOf]; omega
      · rw [decide_eq_false hkl] at hh
        have Hkl : Hid (¬ k < L) := hkl
        clear hkl
        go_wp2_with fail
        refine hh.mono ?_
        rintro e w1 ⟨rfl, hb1⟩
        have HB1 : Hid (Below w.heap.size w w1) := HBw.out.trans (hb1.mono HBw.out.size)
        clear hh hb1
        go_wp2
        go_roundw
        case rel => exact ⟨k + 1, z + 1, by omega, by go_num, by go_num, by have := Hz.out; have := Hkl.out; show _ = _; omega, by omega, HB1.out⟩
        case measure => simp [intOf]; omega
    · obtain rfl : k = nd := by omega
      clear hbw
      go_wp2
      go_ret
      exact ⟨by rw [← Hz.out]; rfl, HBw.out⟩

theorem FlAt.range (h : FlAt w X vs ws m iw bw kd lk sz bl) : w.rangeAt X.bf 4 ((rowOf kd lk sz bl).map (Value.int .i64)) := by
  intro j v hv
  obtain ⟨c0, c1, c2, c3, c4, c5, c6⟩ := h.c
  have hj : j < 9 := by
    have := (List.getElem?_eq_some_iff.1 hv).1
    rw [List.length_map, rowOf_len h.bl6] at this
    exact this
  rcases Nat.lt_or_ge j 3 with q | q
  · obtain rfl | rfl | rfl : j = 0 ∨ j = 1 ∨ j = 2 := by omega
    · rw [c4]; simpa [rowOf] using hv
    · rw [c5]; simpa [rowOf] using hv
    · rw [c6]; simpa [rowOf] using hv
  · obtain ⟨k, rfl⟩ : ∃ k, j = 3 + k := ⟨j - 3, by omega⟩
    have hb := h.blk (k := k) (by omega)
    rw [show 4 + (3 + k) = 7 + k by omega, hb]
    have h6 := h.bl6
    rw [List.getElem?_map] at hv
    unfold rowOf at hv
    rw [List.getElem?_append_right (by simp)] at hv
    simp only [List.length_cons, List.length_nil] at hv
    rw [show 3 + k - (0 + 1 + 1 + 1) = k by omega] at hv
    have hk : k < bl.length := by omega
    simpa [hk] using hv
set_option maxHeartbeats 2000000 in
set_option maxRecDepth 100000 in
theorem fclose_at (h : FlAt w X vs ws m iw bw kd lk sz bl) (hm : m ≤ 900000000000) (hbs : X.base ≤ w.heap.size) (hn : 13 ≤ X.n) (hi : X.i < 32) (hf : ∀ x ∈ rowOf kd lk sz bl, Fit x) :
    Calls Tryz.prog 63 #[ptr X.bf] w fun e w' => e = .returned (.int .i64 0) ∧ (Dk w' X.B X.n (putW (splice ws 0 (hdW X.n iw bw)) X.i (rowOf kd lk sz bl)) (m + 2048)) ∧ Fr X w w' := by
  obtain ⟨c0, c1, c2, c3, c4, c5, c6⟩ := h.c
  have hb := Di.drewN_below (w := w) ⟨1, rfl⟩
  have hS := dsetHead_at (w := w.drew) (h.dr.below hb) hm (by omega) ⟨X.gi, X.gb, h.bm.below hb⟩
  have HH : Hid (FlAt w X vs ws m iw bw kd lk sz bl) := h
  have hs : w.cell? ⟨X.bf, 0, none⟩ = some (ptr X.bd) ∧ w.cell? ⟨X.bf, 1, none⟩ = some (ptr X.hi) ∧ w.cell? ⟨X.bf, 2, none⟩ = some (ptr X.hb) := ⟨c0, c1, c2⟩
  have HFit : Hid (∀ x ∈ rowOf kd lk sz bl, Fit x) := hf
  have HL9 : Hid ((rowOf kd lk sz bl).length = 9) := rowOf_len h.bl6 _ _ _
  clear h c0 c1 c2 c3 c4 c5 c6 hb hf
  go_enter Tryz.func63, Tryz.ntmps63
  go_wp2_with fail
  refine wp_region_held_drew (S := fun w' => w'.cell? ⟨X.bf, 0, none⟩ = some (ptr X.bd) ∧ w'.cell? ⟨X.bf, 1, none⟩ = some (ptr X.hi) ∧ w'.cell? ⟨X.bf, 2, none⟩ = some (ptr X.hb)) (by kernel_rfl) hs (fun hHeld => ?_)
  refine wpAnyH_take (i := 0) (v := ?_) rfl (by kernel_rfl) (by kernel_rfl) (by kernel_rfl) (fun _ _ _ h => h) (Or.inl ⟨by kernel_rfl, ?_⟩) (by assumption) ?_
  rotate_left
  · (intro w hSw; (try dsimp only at hSw); go_simp) <;> with_reducible rfl
  (try simp only [Act.put, List.getElem_toArray, List.getElem_cons_zero, List.setIfInBounds_toArray, List.set_cons_zero, List.set_cons_succ])
  refine wpAnyH_take (i := 1) (v := ?_) rfl (by kernel_rfl) (by kernel_rfl) (by kernel_rfl) (fun _ _ _ h => h) (Or.inl ⟨by kernel_rfl, ?_⟩) (by assumption) ?_
  rotate_left
  · (intro w hSw; (try dsimp only at hSw); go_simp) <;> with_reducible rfl
  (try simp only [Act.put, List.getElem_toArray, List.getElem_cons_zero, List.getElem_cons_succ, List.setIfInBounds_toArray, List.set_cons_zero, List.set_cons_succ])
  refine wpAnyH_take (i := 2) (v := ?_) rfl (by kernel_rfl) (by kernel_rfl) (by kernel_rfl) (fun _ _ _ h => h) (Or.inl ⟨by kernel_rfl, ?_⟩) (by assumption) ?_
  rotate_left
  · (intro w hSw; (try dsimp only at hSw); go_simp) <;> with_reducible rfl
  (try simp only [Act.put, List.getElem_toArray, List.getElem_cons_zero, List.getElem_cons_succ, List.setIfInBounds_toArray, List.set_cons_zero, List.set_cons_succ])
  refine wpAnyH_take (i := 3) (v := ?_) rfl (by kernel_rfl) (by kernel_rfl) (by kernel_rfl) (fun _ _ _ h => h) (Or.inl ⟨by kernel_rfl, ?_⟩) (by assumption) ?_
  rotate_left
  · (intro w hSw; (try dsimp only at hSw); go_simp) <;> with_reducible rfl
  (try simp only [Act.put, List.getElem_toArray, List.getElem_cons_zero, List.getElem_cons_succ, List.setIfInBounds_toArray, List.set_cons_zero, List.set_cons_succ])
  refine wpAnyH_take (i := 4) (v := ?_) rfl (by kernel_rfl) (by kernel_rfl) (by kernel_rfl) (fun _ _ _ h => h) (Or.inl ⟨by kernel_rfl, ?_⟩) (by assumption) ?_
  rotate_left
  · (intro w hSw; (try dsimp only at hSw); go_simp) <;> with_reducible rfl
  (try simp only [Act.put, List.getElem_toArray, List.getElem_cons_zero, List.getElem_cons_succ, List.setIfInBounds_toArray, List.set_cons_zero, List.set_cons_succ])
  refine wpAnyH_take (i := 5) (v := ?_) rfl (by kernel_rfl) (by kernel_rfl) (by kernel_rfl) (fun _ _ _ h => h) (Or.inl ⟨by kernel_rfl, ?_⟩) (by assumption) ?_
  rotate_left
  · (intro w hSw; (try dsimp only at hSw); go_simp) <;> with_reducible rfl
  (try simp only [Act.put, List.getElem_toArray, List.getElem_cons_zero, List.getElem_cons_succ, List.setIfInBounds_toArray, List.set_cons_zero, List.set_cons_succ])
  refine wpAnyH_take (i := 6) (v := ?_) rfl (by kernel_rfl) (by kernel_rfl) (by kernel_rfl) (fun _ _ _ h => h) (Or.inl ⟨by kernel_rfl, ?_⟩) (by assumption) ?_
  rotate_left
  · (intro w hSw; (try dsimp only at hSw); go_simp) <;> with_reducible rfl
  (try simp only [Act.put, List.getElem_toArray, List.getElem_cons_zero, List.getElem_cons_succ, List.setIfInBounds_toArray, List.set_cons_zero, List.set_cons_succ])
  refine wpAnyH_take (i := 7) (v := ?_) rfl (by kernel_rfl) (by kernel_rfl) (by kernel_rfl) (fun _ _ _ h => h) (Or.inl ⟨by kernel_rfl, ?_⟩) (by assumption) ?_
  rotate_left
  · (intro w hSw; (try dsimp only at hSw); go_simp) <;> with_reducible rfl
  (try simp only [Act.put, List.getElem_toArray, List.getElem_cons_zero, List.getElem_cons_succ, List.setIfInBounds_toArray, List.set_cons_zero, List.set_cons_succ])
  refine wpAnyH_ready (rs := [8]) (by kernel_rfl) (by simp) ?_
  refine AllReadyH.cons rfl (fun K hK => ?_) AllReadyH.nil
  go_simp
  refine hS.mono ?_
  rintro e w1 ⟨rfl, hd1, ht1⟩
  have ht1' : DT X.base X.B w w1 := (DT.of_below (Di.drewN_below ⟨1, rfl⟩)).trans ht1
  have h1 := HH.out.dt hd1 ht1'
  obtain ⟨d0, d1, d2, d3, d4, d5, d6⟩ := h1.c
  have hs1 : w1.cell? ⟨X.bf, 0, none⟩ = some (ptr X.bd) ∧ w1.cell? ⟨X.bf, 1, none⟩ = some (ptr X.hi) ∧ w1.cell? ⟨X.bf, 2, none⟩ = some (ptr X.hb) := ⟨d0, d1, d2⟩
  have H1 : Hid (FlAt w1 X vs (splice ws 0 (hdW X.n iw bw)) m iw bw kd lk sz bl) := h1
  have HT1 : Hid (DT X.base X.B w w1) := ht1'
  have hb1 := Di.drewN_below (w := w1) ⟨1, rfl⟩
  have hI := dsetInode_at (w := w1.drew) (h1.dr.below hb1) hm hn (by have := ht1'.size; show X.base ≤ w1.heap.size; omega) X.i hi (rowOf kd lk sz bl) HL9.out HFit.out
  obtain ⟨Yl, hYl⟩ : ∃ Yl, Yl = (rowOf kd lk sz bl).map (Value.int .i64) := ⟨_, rfl⟩
  have HYs : Hid (Yl.length = 9) := by rw [hYl]; show _ = _; rw [List.length_map]; exact HL9.out
  have HYr := h1.range
  rw [← hYl] at HYr
  have hI2 : Calls Tryz.prog 53 #[ptr X.bd, .int .i64 (X.i : Int), .agg Yl.toArray] w1.drew fun e w' => e = .returned (.tuple #[]) ∧ Dr w' X.base X.bd X.B X.n vs (putW (splice ws 0 (hdW X.n iw bw)) X.i (rowOf kd lk sz bl)) m ∧ DT X.base X.B w1.drew w' := by
    rw [hYl]
    exact hI
  have hs2 : w1.cell? ⟨X.bf, 0, none⟩ = some (ptr X.bd) ∧ w1.cell? ⟨X.bf, 3, none⟩ = some (.int .i64 (X.i : Int)) ∧ w1.rangeAt X.bf 4 Yl := ⟨d0, d3, HYr⟩
  clear hS hd1 ht1 ht1' h1 d0 d1 d2 d3 d4 d5 d6 hb1 hI hYl HYr
  refine hK.out _ _ hs1 (fun hHeld => ?_)
  clear hK K
  (try simp only [Act.put, List.getElem_toArray, List.getElem_cons_zero, List.getElem_cons_succ, List.setIfInBounds_toArray, List.set_cons_zero, List.set_cons_succ])
  refine wpAnyH_done (by kernel_rfl) ?_ _
  clear hs hs1
  go_wp2_with fail
  refine wp_region_held_drew (S := fun w' => w'.cell? ⟨X.bf, 0, none⟩ = some (ptr X.bd) ∧ w'.cell? ⟨X.bf, 3, none⟩ = some (.int .i64 (X.i : Int)) ∧ w'.rangeAt X.bf 4 Yl) (by kernel_rfl) hs2 (fun hHeld => ?_)
  refine wpAnyH_take (i := 0) (v := ?_) rfl (by kernel_rfl) (by kernel_rfl) (by kernel_rfl) (fun _ _ _ h => h) (Or.inl ⟨by kernel_rfl, ?_⟩) (by assumption) ?_
  rotate_left
  · (intro w hSw; (try dsimp only at hSw); go_simp) <;> with_reducible rfl
  (try simp only [Act.put, List.getElem_toArray, List.getElem_cons_zero, List.setIfInBounds_toArray, List.set_cons_zero, List.set_cons_succ])
  refine wpAnyH_take (i := 1) (v := ?_) rfl (by kernel_rfl) (by kernel_rfl) (by kernel_rfl) (fun _ _ _ h => h) (Or.inl ⟨by kernel_rfl, ?_⟩) (by assumption) ?_
  rotate_left
  · (intro w hSw; (try dsimp only at hSw); go_simp) <;> with_reducible rfl
  (try simp only [Act.put, List.getElem_toArray, List.getElem_cons_zero, List.getElem_cons_succ, List.setIfInBounds_toArray, List.set_cons_zero, List.set_cons_succ])
  refine wpAnyH_take (i := 2) (v := ?_) rfl (by kernel_rfl) (by kernel_rfl) (by kernel_rfl) (fun _ _ _ h => h) (Or.inl ⟨by kernel_rfl, ?_⟩) (by assumption) ?_
  rotate_left
  · (intro w hSw; (try dsimp only at hSw); go_simp) <;> with_reducible rfl
  (try simp only [Act.put, List.getElem_toArray, List.getElem_cons_zero, List.getElem_cons_succ, List.setIfInBounds_toArray, List.set_cons_zero, List.set_cons_succ])
  refine wpAnyH_take (i := 3) (v := ?_) rfl (by kernel_rfl) (by kernel_rfl) (by kernel_rfl) (fun _ _ _ h => h) (Or.inl ⟨by kernel_rfl, ?_⟩) (by assumption) ?_
  rotate_left
  · (intro w hSw; (try dsimp only at hSw); go_simp) <;> with_reducible rfl
  (try simp only [Act.put, List.getElem_toArray, List.getElem_cons_zero, List.getElem_cons_succ, List.setIfInBounds_toArray, List.set_cons_zero, List.set_cons_succ])
  refine wpAnyH_take (i := 4) (v := ?_) rfl (by kernel_rfl) (by kernel_rfl) (by kernel_rfl) (fun _ _ _ h => h) (Or.inl ⟨by kernel_rfl, ?_⟩) (by assumption) ?_
  rotate_left
  · (intro w hSw; (try dsimp only at hSw); go_simp) <;> with_reducible rfl
  (try simp only [Act.put, List.getElem_toArray, List.getElem_cons_zero, List.getElem_cons_succ, List.setIfInBounds_toArray, List.set_cons_zero, List.set_cons_succ])
  refine wpAnyH_take (i := 5) (v := ?_) rfl (by kernel_rfl) (by kernel_rfl) (by kernel_rfl) (fun _ _ _ h => h) (Or.inl ⟨by kernel_rfl, ?_⟩) (by assumption) ?_
  rotate_left
  · (intro w hSw; (try dsimp only at hSw); go_simp) <;> with_reducible rfl
  (try simp only [Act.put, List.getElem_toArray, List.getElem_cons_zero, List.getElem_cons_succ, List.setIfInBounds_toArray, List.set_cons_zero, List.set_cons_succ])
  refine wpAnyH_take (i := 6) (v := ?_) rfl (by kernel_rfl) (by kernel_rfl) (by kernel_rfl) (fun _ _ _ h => h) (Or.inl ⟨by kernel_rfl, ?_⟩) (by assumption) ?_
  rotate_left
  · (intro w hSw; (try dsimp only at hSw); go_simp) <;> with_reducible rfl
  (try simp only [Act.put, List.getElem_toArray, List.getElem_cons_zero, List.getElem_cons_succ, List.setIfInBounds_toArray, List.set_cons_zero, List.set_cons_succ])
  refine wpAnyH_take (i := 7) (v := ?_) rfl (by kernel_rfl) (by kernel_rfl) (by kernel_rfl) (fun _ _ _ h => h) (Or.inl ⟨by kernel_rfl, ?_⟩) (by assumption) ?_
  rotate_left
  · (intro w hSw; (try dsimp only at hSw); go_simp) <;> with_reducible rfl
  (try simp only [Act.put, List.getElem_toArray, List.getElem_cons_zero, List.getElem_cons_succ, List.setIfInBounds_toArray, List.set_cons_zero, List.set_cons_succ])
  refine wpAnyH_take (i := 8) (v := ?_) rfl (by kernel_rfl) (by kernel_rfl) (by kernel_rfl) (fun _ _ _ h => h) (Or.inl ⟨by kernel_rfl, ?_⟩) (by assumption) ?_
  rotate_left
  · (intro w hSw; (try dsimp only at hSw); go_simp) <;> with_reducible rfl
  (try simp only [Act.put, List.getElem_toArray, List.getElem_cons_zero, List.getElem_cons_succ, List.setIfInBounds_toArray, List.set_cons_zero, List.set_cons_succ])
  refine wpAnyH_take (i := 9) (v := ?_) rfl (by kernel_rfl) (by kernel_rfl) (by kernel_rfl) (fun _ _ _ h => h) (Or.inl ⟨by kernel_rfl, ?_⟩) (by assumption) ?_
  rotate_left
  · (intro w hSw; (try dsimp only at hSw); go_simp) <;> with_reducible rfl
  (try simp only [Act.put, List.getElem_toArray, List.getElem_cons_zero, List.getElem_cons_succ, List.setIfInBounds_toArray, List.set_cons_zero, List.set_cons_succ])
  refine wpAnyH_take (i := 10) (v := ?_) rfl (by kernel_rfl) (by kernel_rfl) (by kernel_rfl) (fun _ _ _ h => h) (Or.inl ⟨by kernel_rfl, ?_⟩) (by assumption) ?_
  rotate_left
  · (intro w hSw; (try dsimp only at hSw); go_simp) <;> with_reducible rfl
  (try simp only [Act.put, List.getElem_toArray, List.getElem_cons_zero, List.getElem_cons_succ, List.setIfInBounds_toArray, List.set_cons_zero, List.set_cons_succ])
  refine wpAnyH_take (i := 11) (v := .agg (Yl).toArray) rfl (by kernel_rfl) (by kernel_rfl) (by kernel_rfl) (fun _ _ _ h => h) (yieldsIf_load_mid (by kernel_rfl) 63 _ rfl X.bf 4 rfl (Yl) _ (fun w h => h.2.2) Tryz.underlying63 rfl (by rw [HYs.out]; exact inoSize)) (by assumption) ?_
  (try simp only [Act.put, List.getElem_toArray, List.getElem_cons_zero, List.getElem_cons_succ, List.setIfInBounds_toArray, List.set_cons_zero, List.set_cons_succ])
  refine wpAnyH_ready (rs := [12]) (by kernel_rfl) (by simp) ?_
  refine AllReadyH.cons rfl (fun K hK => ?_) AllReadyH.nil
  go_simp
  refine hI2.mono ?_
  rintro e w2 ⟨rfl, hd2, ht2⟩
  have ht2' : DT X.base X.B w1 w2 := (DT.of_below (Di.drewN_below ⟨1, rfl⟩)).trans ht2
  have h2 := H1.out.dt hd2 ht2'
  obtain ⟨d0, d1, d2, d3, d4, d5, d6⟩ := h2.c
  have hbk : w2.heap[X.bf]? = w1.heap[X.bf]? := h2.head.trans H1.out.head.symm
  have hs3 : w2.cell? ⟨X.bf, 0, none⟩ = some (ptr X.bd) ∧ w2.cell? ⟨X.bf, 3, none⟩ = some (.int .i64 (X.i : Int)) ∧ w2.rangeAt X.bf 4 Yl := ⟨d0, d3, fun j v hv => (World.cell?_of_block hbk).trans (hs2.2.2 j v hv)⟩
  have hLy := dlay_at hd2 hm
  have HT2 : Hid (DT X.base X.B w w2) := HT1.out.trans ht2'
  clear hI2 hd2 ht2 ht2' h2 d1 d2 d3 d4 d5 d6 hbk
  refine hK.out _ _ hs3 (fun hHeld => ?_)
  clear hK K
  (try simp only [Act.put, List.getElem_toArray, List.getElem_cons_zero, List.getElem_cons_succ, List.setIfInBounds_toArray, List.set_cons_zero, List.set_cons_succ])
  refine wpAnyH_done (by kernel_rfl) ?_ _
  clear hs2 hs3
  go_wp2_with fail
  refine hLy.mono ?_
  rintro e w3 ⟨rfl, hd3, hu3⟩
  have HD3 : Hid (Dk w3 X.B X.n (putW (splice ws 0 (hdW X.n iw bw)) X.i (rowOf kd lk sz bl)) (m + 2048)) := hd3
  have HU3 : Hid (Fr X w w3) := HT2.out.fr.trans (SU.any hu3)
  clear hLy hd3 hu3 d0
  go_wp2
  go_ret
  exact ⟨rfl, HD3.out, HU3.out⟩
end
end Go.Proofs.YtcjpahnlckfgoaaGreatDoor

namespace Go.Proofs.YtcjpahnlckfgoaaGreatDoor
open Go.RowKit
set_option linter.unusedVariables false

theorem sized_get (t : List Int) (s p : Nat) : (sized t s).getD p 0 = if p < min s t.length then t.getD p 0 else 0 := by
  unfold sized
  rw [app_get, List.length_take]
  split
  · rename_i h
    simp only [List.getD_eq_getElem?_getD, List.getElem?_take]
    rw [if_pos (by omega)]
  · simp only [List.getD_eq_getElem?_getD, List.getElem?_replicate]
    split <;> rfl
/-- The words behind clearFrom. -/
structure CL (n f nd : Nat) (bl : List Nat) (ws us : List Int) : Prop where
  len : us.length = ws.length
  fr : ∀ j, j < nd → f / 32 ≤ j → frameOf us (bl.getD j 0) = cleared f j (frameOf ws (bl.getD j 0))
  out : ∀ b, b < n → (∀ j, j < nd → f / 32 ≤ j → bl.getD j 0 ≠ b) → frameOf us b = frameOf ws b
/-- The words behind a resize. -/
structure RZ (F : FS) (i s : Nat) (vs us : List Int) : Prop where
  len : us.length = vs.length
  data : ∀ k b, (newBlk F i s)[k]? = some b → frameOf us b = chunk (sized (F.ino i).txt s) k
  out : ∀ b, b < F.n → b ∉ newBlk F i s → b ∉ (F.ino i).blk.drop (need s) → frameOf us b = frameOf vs b
theorem zero_get (j : Nat) : (List.replicate 32 (0 : Int)).getD j 0 = 0 := by
  simp only [List.getD_eq_getElem?_getD, List.getElem?_replicate]
  split <;> rfl
theorem newBlk_len {F : FS} (h : FInv F) {i s : Nat} (hi : i < 32) (hr : roomB F i s = true) : (newBlk F i s).length = need s := by
  obtain ⟨g1, _⟩ := grow_ok h.bw (of_decide_eq_true hr)
  unfold newBlk
  rw [List.length_append, g1, List.length_take]
  omega
theorem rz_of {F : FS} (hF : FInv F) {vs u1 us : List Int} (hH : Holds vs F) {i s : Nat} (hi : i < 32) (hu : Bi.bt F.iw i = true) (hs : s ≤ 192) (hr : roomB F i s = true) {Z : List Nat}
    (hZ : ∀ b, b ∈ Z ↔ (b ∈ (grow F.n F.bw (need s - (F.ino i).blk.length)).1 ∨ b ∈ (F.ino i).blk.drop (need s))) (h1 : ZW F.n vs Z u1)
    (h2 : CL F.n (min s (F.ino i).txt.length) (need s) (six (fun j => (newBlk F i s).getD j 0)) u1 us) : RZ F i s vs us := by
  have hG := hF.resize hi hu hs hr
  have hok := hG.ok hi
  have e0 : (resizeF F i s).ino i = ⟨(F.ino i).kind, (F.ino i).links, sized (F.ino i).txt s, newBlk F i s⟩ := FS.put_same _ _ _ _
  rw [e0] at hok
  have hnl := newBlk_len hF hi hr
  have hnd6 := need_le hs
  have hlen := hF.len i hi
  have hmax := hF.max i hi
  obtain ⟨g1, g2, g3, g4, g5, g6⟩ := grow_ok hF.bw (of_decide_eq_true hr)
  have hget : ∀ j, j < need s → (six (fun j => (newBlk F i s).getD j 0)).getD j 0 = (newBlk F i s).getD j 0 := fun j hj => six_get _ (by omega)
  have hinj : ∀ j k b, (newBlk F i s)[j]? = some b → (newBlk F i s)[k]? = some b → j = k := fun j k b h1 h2 => by
    have hj := (List.getElem?_eq_some_iff.1 h1).1
    exact (List.getElem?_inj hj hok.nd).1 (h1.trans h2.symm)
  refine ⟨h2.len.trans h1.len, fun k b hkb => ?_, fun b hb hn hd => ?_⟩
  · have hk : k < need s := by have := (List.getElem?_eq_some_iff.1 hkb).1; omega
    have hbd := hok.data b (List.mem_of_getElem? hkb)
    have hbk : (newBlk F i s).getD k 0 = b := by rw [List.getD_eq_getElem?_getD, hkb]; rfl
    have hf1 : frameOf us b = if min s (F.ino i).txt.length / 32 ≤ k then cleared (min s (F.ino i).txt.length) k (frameOf u1 b) else frameOf u1 b := by
      split
      · rename_i q
        have := h2.fr k hk q
        rwa [hget k hk, hbk] at this
      · rename_i q
        refine h2.out b hbd.2.1 (fun j hj q1 e => ?_)
        rw [hget j hj] at e
        have hjn : j < (newBlk F i s).length := by omega
        have e1 : (newBlk F i s)[j]? = some b := by
          rw [List.getD_eq_getElem?_getD, List.getElem?_eq_getElem hjn] at e
          rw [List.getElem?_eq_getElem hjn]
          simpa using e
        have := hinj j k b e1 hkb
        omega
    have hvl : vs.length = F.n * 32 := hH.len
    have hfl1 : (frameOf u1 b).length = 32 := frameOf_length u1 b F.n (h1.len.trans hvl) hbd.2.1
    have hfl : (frameOf us b).length = 32 := frameOf_length us b F.n ((h2.len.trans h1.len).trans hvl) hbd.2.1
    have hfu : ∀ j, j < 32 → (frameOf us b).getD j 0 = if 32 * k + j < min s (F.ino i).txt.length then (frameOf u1 b).getD j 0 else (if min s (F.ino i).txt.length / 32 ≤ k then 0 else (frameOf u1 b).getD j 0) := by
      intro j hj
      rw [hf1]
      by_cases q : min s (F.ino i).txt.length / 32 ≤ k
      · rw [if_pos q, cleared_get hfl1, if_pos q]
      · rw [if_neg q, if_neg q]
        split <;> rfl
    refine list_ext_getD _ _ (by rw [hfl, chunk_len]) fun j hj => ?_
    rw [hfl] at hj
    rw [hfu j hj, chunk_get _ _ _ hj, sized_get]
    by_cases q : 32 * k + j < min s (F.ino i).txt.length
    · rw [if_pos q, if_pos q, h1.fr b hbd.2.1]
      have hkl : k < (F.ino i).blk.length := by rw [hlen]; unfold need; omega
      have hb2 : (F.ino i).blk[k]? = some b := by
        have : (newBlk F i s)[k]? = (F.ino i).blk[k]? := by
          unfold newBlk
          rw [List.getElem?_append_left (by rw [List.length_take]; omega), List.getElem?_take, if_pos hk]
        rw [← this]
        exact hkb
      have hnz : b ∉ Z := by
        rw [hZ]
        rintro (hz | hz)
        · have := (g3 b hz).2.1
          rw [(hF.data i hi b (List.mem_of_getElem? hb2)).2.2] at this
          cases this
        · have hnd := hF.nd i hi
          rw [← List.take_append_drop (need s) (F.ino i).blk, List.nodup_append] at hnd
          refine hnd.2.2 b (List.mem_of_getElem? (i := k) ?_) b hz rfl
          rw [List.getElem?_take, if_pos hk]
          exact hb2
      rw [if_neg hnz, hH.data i hi k b hb2, chunk_get _ _ _ hj]
    · rw [if_neg q, if_neg q]
      by_cases q1 : min s (F.ino i).txt.length / 32 ≤ k
      · rw [if_pos q1]
      · omega
  · rw [h2.out b hb (fun j hj q1 e => ?_), h1.fr b hb, if_neg (fun hz => ?_)]
    · rcases (hZ b).1 hz with hz | hz
      · exact hn (List.mem_append_right _ hz)
      · exact hd hz
    · rw [hget j hj] at e
      have hjn : j < (newBlk F i s).length := by omega
      rw [List.getD_eq_getElem?_getD, List.getElem?_eq_getElem hjn] at e
      exact hn (by rw [← e]; exact List.getElem_mem hjn)
end Go.Proofs.YtcjpahnlckfgoaaGreatDoor
