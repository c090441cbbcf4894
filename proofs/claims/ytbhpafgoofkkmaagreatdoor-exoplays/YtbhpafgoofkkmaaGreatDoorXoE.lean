import Derived.Test.YtbhpafgoofkkmaaGreatDoorXoD
set_option linter.all false
namespace Go.Proofs.YtbhpafgoofkkmaaGreatDoor
open Go.RowKit
section
variable {w : World} {Kb : Nat} {L : XL} {S : XS}
set_option maxHeartbeats 2000000 in
theorem raw_load (h : ExoAt w Kb L S) (e a b d : Int) (g o cap : Nat) (x0 : Int) (h00 : 0 ≤ x0) (hx0 : w.cell? ⟨g, o, none⟩ = some (.int .u64 x0)) :
  Calls Tryz.prog 28 #[ptr Kb, .agg #[.int .i64 e, .int .i64 6, .int .i64 a, .int .i64 b, .int .i64 d, .slice (some ⟨g, o, none⟩) 1 cap]] w fun x w' => Did Kb L False w (S) (ansW ((Ex.kloadR S.n S.vs S.F e x0).2) [(Ex.kloadR S.n S.vs S.F e x0).1]) ((Ex.kloadR S.n S.vs S.F e x0).2) x w' := by
 obtain ⟨W, hW⟩ : ∃ W, W = w.alloc (.cells #[.int .i64 e, .int .i64 6, .int .i64 a, .int .i64 b, .int .i64 d, .slice (some ⟨g, o, none⟩) 1 cap] 85) := ⟨_, rfl⟩
 obtain ⟨X, hXe⟩ : ∃ X, X = w.heap.size := ⟨_, rfl⟩
 have hb : Below w.heap.size w W.drew := by rw [hW]; exact (Ca.below_alloc w _).drew
 have hX : W.drew.heap[X]? = some (.cells #[.int .i64 e, .int .i64 6, .int .i64 a, .int .i64 b, .int .i64 d, .slice (some ⟨g, o, none⟩) 1 cap] 85) := by rw [hW, hXe]; exact heap_alloc_new w _
 have hE := h.below hb
 have hC := Ex.kload_at hE.mem e x0 h00
 have hS : (fun w' => w'.cell? ⟨Kb, 0, none⟩ = some (ptr L.ek) ∧ (w'.cell? ⟨X, 0, none⟩ = some (.int .i64 e) ∧ w'.cell? ⟨X, 1, none⟩ = some (.int .i64 6) ∧ w'.cell? ⟨X, 2, none⟩ = some (.int .i64 a) ∧ w'.cell? ⟨X, 3, none⟩ = some (.int .i64 b) ∧ w'.cell? ⟨X, 4, none⟩ = some (.int .i64 d) ∧ w'.cell? ⟨X, 5, none⟩ = some (.slice (some ⟨g, o, none⟩) 1 cap)) ∧ w'.cell? ⟨g, o, none⟩ = some (.int .u64 x0)) W.drew := ⟨hE.k0, six_cells hX, (hb.cell (cell_lt hx0)).trans hx0⟩
 have HE : Hid _ := hE
 have HX : Hid _ := hX
 have HB : Hid _ := hb
 have HW : Hid _ := hW
 have HXe : Hid _ := hXe
 clear h hb hX hE hW hXe
 go_enter Tryz.func28, Tryz.ntmps28
 go_wp2_with fail
 rw [← HW.out, ← HXe.out]
 clear HW
 refine wp_region_held_drew (S := fun w' => w'.cell? ⟨Kb, 0, none⟩ = some (ptr L.ek) ∧ (w'.cell? ⟨X, 0, none⟩ = some (.int .i64 e) ∧ w'.cell? ⟨X, 1, none⟩ = some (.int .i64 6) ∧ w'.cell? ⟨X, 2, none⟩ = some (.int .i64 a) ∧ w'.cell? ⟨X, 3, none⟩ = some (.int .i64 b) ∧ w'.cell? ⟨X, 4, none⟩ = some (.int .i64 d) ∧ w'.cell? ⟨X, 5, none⟩ = some (.slice (some ⟨g, o, none⟩) 1 cap)) ∧ w'.cell? ⟨g, o, none⟩ = some (.int .u64 x0)) (by kernel_rfl) hS (fun hHeld => ?_)
 refine tkz [0, 1, 2, 3, 4, 5, 6, 7, 8, 9] ?_
 iterate 10
  refine tky (v := ?_) rfl (by kernel_rfl) (by kernel_rfl) (by kernel_rfl) (fun _ _ _ h => h) (Or.inl ⟨by kernel_rfl, ?_⟩) (by assumption) ?_
  rotate_left
  ·(intro w hSw; (try dsimp only at hSw); go_simp) <;> with_reducible rfl
  (try simp only [Act.put, lqa, lqb, lqc, lqd, lqe, lqf])
 refine tkw ?_
 refine wpAnyH_ready (rs := [10]) (by kernel_rfl) (by simp) ?_
 refine AllReadyH.cons rfl (fun K hK => ?_) AllReadyH.nil
 go_simp
 refine hC.mono ?_
 rintro x w2 ⟨rfl, hu2⟩
 have hX2 : w2.heap[X]? = some (.cells #[.int .i64 e, .int .i64 6, .int .i64 a, .int .i64 b, .int .i64 d, .slice (some ⟨g, o, none⟩) 1 cap] 85) := (hu2.block _ (lt_of_heap HX.out)).trans HX.out
 have hE2 := HE.out.below hu2
 have hT2 : XTch L False w w2 := (XTch.of_below HB.out).trans (XTch.of_below hu2)
 have hS2 : (fun w' => w'.cell? ⟨Kb, 0, none⟩ = some (ptr L.ek) ∧ (w'.cell? ⟨X, 0, none⟩ = some (.int .i64 e) ∧ w'.cell? ⟨X, 1, none⟩ = some (.int .i64 6) ∧ w'.cell? ⟨X, 2, none⟩ = some (.int .i64 a) ∧ w'.cell? ⟨X, 3, none⟩ = some (.int .i64 b) ∧ w'.cell? ⟨X, 4, none⟩ = some (.int .i64 d) ∧ w'.cell? ⟨X, 5, none⟩ = some (.slice (some ⟨g, o, none⟩) 1 cap)) ∧ w'.cell? ⟨g, o, none⟩ = some (.int .u64 x0)) w2 := ⟨hE2.k0, six_cells hX2, (hu2.cell (cell_lt hS.2.2)).trans hS.2.2⟩
 have HE2 : Hid _ := hE2
 have HT2 : Hid _ := hT2
 clear hX2 hE2 hT2 hu2 hC
 generalize hAq : (Ex.kloadR S.n S.vs S.F e x0).1 = A at *
 generalize hRq : (Ex.kloadR S.n S.vs S.F e x0).2 = R at *
 have HAq : Hid _ := hAq
 have HRq : Hid _ := hRq
 clear hAq hRq
 refine hK.out _ _ hS2 (fun hHeld => ?_)
 clear hK K
 (try simp only [Act.put, lqa, lqb, lqc, lqd, lqe, lqf])
 refine tkz [11, 12, 13, 14, 15] ?_
 iterate 5
  refine tky (v := ?_) rfl (by kernel_rfl) (by kernel_rfl) (by kernel_rfl) (fun _ _ _ h => h) (Or.inl ⟨by kernel_rfl, ?_⟩) (by assumption) ?_
  rotate_left
  ·(intro w hSw; (try dsimp only at hSw); go_simp) <;> with_reducible rfl
  (try simp only [Act.put, lqa, lqb, lqc, lqd, lqe, lqf])
 refine tkw ?_
 refine wpAnyH_done (by kernel_rfl) ?_ _
 clear hHeld hS hS2
 obtain ⟨V, hV⟩ : ∃ V, V = w2.alloc (.cells #[.int .u64 A] 42) := ⟨_, rfl⟩
 have hbV : Below w2.heap.size w2 V := by rw [hV]; exact Ca.below_alloc _ _
 have hcV : V.cell? ⟨w2.heap.size, 0, none⟩ = some (.int .u64 A) := by rw [hV, cell_of_heap (heap_alloc_new _ _)]; rfl
 have hA := answer_one R A V w2.heap.size hcV
 have HbV : Hid _ := hbV
 have HV : Hid _ := hV
 clear hbV hcV hV
 go_wp2_with fail
 rw [← HV.out]
 clear HV
 refine hA.mono ?_
 rintro x w3 ⟨v, rfl, hr3, hb3⟩
 have hr3' := hr3
 obtain ⟨a3, c3, rfl, _⟩ := hr3'
 have HR3 : Hid (URow _ _ _ _) := hr3
 have HB3 : Hid (Below w2.heap.size w2 w3) := HbV.out.trans (hb3.mono HbV.out.size)
 have HSz : Hid (w.heap.size ≤ V.heap.size) := Nat.le_trans HT2.out.size HbV.out.size
 clear hr3 hb3 hA
 generalize (ansW R [A]).length = N at *
 go_wp2
 go_ret2
 exact ⟨_, _, _, by rw [HRq.out]; rfl, by rw [HRq.out, HAq.out]; exact URow.mono HR3.out HSz.out, HE2.out.below HB3.out, HT2.out.trans (XTch.of_below HB3.out)⟩
set_option maxHeartbeats 2000000 in
theorem raw_store (h : ExoAt w Kb L S) (e a b d : Int) (g o cap : Nat) (x0 x1 : Int) (h00 : 0 ≤ x0) (hx0 : ∀ w', XTch L False w w' → w'.cell? ⟨g, o, none⟩ = some (.int .u64 x0) ∧ w'.cell? ⟨g, o + 1, none⟩ = some (.int .u64 x1)) :
  Calls Tryz.prog 28 #[ptr Kb, .agg #[.int .i64 e, .int .i64 7, .int .i64 a, .int .i64 b, .int .i64 d, .slice (some ⟨g, o, none⟩) 2 cap]] w fun x w' => Did Kb L False w ({ S with vs := Ex.kstoreV S.n S.vs S.F e x0 x1, T := S.T, F := S.F }) [] (Ex.kstoreR S.n S.F e x0) x w' := by
 obtain ⟨W, hW⟩ : ∃ W, W = w.alloc (.cells #[.int .i64 e, .int .i64 7, .int .i64 a, .int .i64 b, .int .i64 d, .slice (some ⟨g, o, none⟩) 2 cap] 85) := ⟨_, rfl⟩
 obtain ⟨X, hXe⟩ : ∃ X, X = w.heap.size := ⟨_, rfl⟩
 have hb : Below w.heap.size w W.drew := by rw [hW]; exact (Ca.below_alloc w _).drew
 have hX : W.drew.heap[X]? = some (.cells #[.int .i64 e, .int .i64 7, .int .i64 a, .int .i64 b, .int .i64 d, .slice (some ⟨g, o, none⟩) 2 cap] 85) := by rw [hW, hXe]; exact heap_alloc_new w _
 have hE := h.below hb
 have hC := Ex.kstore_at hE.mem e x0 x1 h00
 have hS : (fun w' => w'.cell? ⟨Kb, 0, none⟩ = some (ptr L.ek) ∧ (w'.cell? ⟨X, 0, none⟩ = some (.int .i64 e) ∧ w'.cell? ⟨X, 1, none⟩ = some (.int .i64 7) ∧ w'.cell? ⟨X, 2, none⟩ = some (.int .i64 a) ∧ w'.cell? ⟨X, 3, none⟩ = some (.int .i64 b) ∧ w'.cell? ⟨X, 4, none⟩ = some (.int .i64 d) ∧ w'.cell? ⟨X, 5, none⟩ = some (.slice (some ⟨g, o, none⟩) 2 cap)) ∧ w'.cell? ⟨g, o, none⟩ = some (.int .u64 x0) ∧ w'.cell? ⟨g, o + 1, none⟩ = some (.int .u64 x1)) W.drew := ⟨hE.k0, six_cells hX, hx0 _ (XTch.of_below hb)⟩
 have HE : Hid _ := hE
 have HX : Hid _ := hX
 have HB : Hid _ := hb
 have HW : Hid _ := hW
 have HXe : Hid _ := hXe
 clear h hb hX hE hW hXe
 go_enter Tryz.func28, Tryz.ntmps28
 go_wp2_with fail
 rw [← HW.out, ← HXe.out]
 clear HW
 refine wp_region_held_drew (S := fun w' => w'.cell? ⟨Kb, 0, none⟩ = some (ptr L.ek) ∧ (w'.cell? ⟨X, 0, none⟩ = some (.int .i64 e) ∧ w'.cell? ⟨X, 1, none⟩ = some (.int .i64 7) ∧ w'.cell? ⟨X, 2, none⟩ = some (.int .i64 a) ∧ w'.cell? ⟨X, 3, none⟩ = some (.int .i64 b) ∧ w'.cell? ⟨X, 4, none⟩ = some (.int .i64 d) ∧ w'.cell? ⟨X, 5, none⟩ = some (.slice (some ⟨g, o, none⟩) 2 cap)) ∧ w'.cell? ⟨g, o, none⟩ = some (.int .u64 x0) ∧ w'.cell? ⟨g, o + 1, none⟩ = some (.int .u64 x1)) (by kernel_rfl) hS (fun hHeld => ?_)
 refine tkz [0, 1, 2, 3, 4, 5, 6, 7, 8, 9, 10, 11, 12, 13] ?_
 iterate 14
  refine tky (v := ?_) rfl (by kernel_rfl) (by kernel_rfl) (by kernel_rfl) (fun _ _ _ h => h) (Or.inl ⟨by kernel_rfl, ?_⟩) (by assumption) ?_
  rotate_left
  ·(intro w hSw; (try dsimp only at hSw); go_simp) <;> with_reducible rfl
  (try simp only [Act.put, lqa, lqb, lqc, lqd, lqe, lqf])
 refine tkw ?_
 refine wpAnyH_ready (rs := [14]) (by kernel_rfl) (by simp) ?_
 refine AllReadyH.cons rfl (fun K hK => ?_) AllReadyH.nil
 go_simp
 refine hC.mono ?_
 rintro x w2 ⟨rfl, hk2, hu2⟩
 have hX2 : w2.heap[X]? = some (.cells #[.int .i64 e, .int .i64 7, .int .i64 a, .int .i64 b, .int .i64 d, .slice (some ⟨g, o, none⟩) 2 cap] 85) := (hu2.block _ (lt_of_heap HX.out) (not_foot HE.out.mem HX.out (by decide) (by decide))).trans HX.out
 have hE2 := HE.out.updM hk2 hu2
 have hT2 : XTch L False w w2 := (XTch.of_below HB.out).trans (XTch.of_foot hu2)
 have hS2 : (fun w' => w'.cell? ⟨Kb, 0, none⟩ = some (ptr L.ek) ∧ (w'.cell? ⟨X, 0, none⟩ = some (.int .i64 e) ∧ w'.cell? ⟨X, 1, none⟩ = some (.int .i64 7) ∧ w'.cell? ⟨X, 2, none⟩ = some (.int .i64 a) ∧ w'.cell? ⟨X, 3, none⟩ = some (.int .i64 b) ∧ w'.cell? ⟨X, 4, none⟩ = some (.int .i64 d) ∧ w'.cell? ⟨X, 5, none⟩ = some (.slice (some ⟨g, o, none⟩) 2 cap)) ∧ w'.cell? ⟨g, o, none⟩ = some (.int .u64 x0) ∧ w'.cell? ⟨g, o + 1, none⟩ = some (.int .u64 x1)) w2 := ⟨hE2.k0, six_cells hX2, hx0 _ hT2⟩
 have HE2 : Hid _ := hE2
 have HT2 : Hid _ := hT2
 clear hX2 hE2 hT2 hk2 hu2 hC
 generalize hRq : Ex.kstoreR S.n S.F e x0 = R at *
 have HRq : Hid _ := hRq
 clear hRq
 refine hK.out _ _ hS2 (fun hHeld => ?_)
 clear hK K
 (try simp only [Act.put, lqa, lqb, lqc, lqd, lqe, lqf])
 refine wpAnyH_ready (rs := [15]) (by kernel_rfl) (by simp) ?_
 refine AllReadyH.cons rfl (fun K hK => ?_) AllReadyH.nil
 go_simp
 refine (answer_nil _ w2).mono ?_
 rintro x w3 ⟨rfl, hw⟩
 rw [hw]
 clear hw w3
 refine hK.out _ _ hS2 (fun hHeld => ?_)
 clear hK K
 (try simp only [Act.put, lqa, lqb, lqc, lqd, lqe, lqf])
 refine tkz [16, 17, 18, 19] ?_
 iterate 4
  refine tky (v := ?_) rfl (by kernel_rfl) (by kernel_rfl) (by kernel_rfl) (fun _ _ _ h => h) (Or.inl ⟨by kernel_rfl, ?_⟩) (by assumption) ?_
  rotate_left
  ·(intro w hSw; (try dsimp only at hSw); go_simp) <;> with_reducible rfl
  (try simp only [Act.put, lqa, lqb, lqc, lqd, lqe, lqf])
 refine tkw ?_
 refine wpAnyH_done (by kernel_rfl) ?_ _
 clear hHeld
 go_wp2
 go_ret2
 exact ⟨_, _, _, by rw [HRq.out]; rfl, URow.nil _ _, HE2.out, HT2.out⟩
set_option maxHeartbeats 2000000 in
theorem raw_copy (h : ExoAt w Kb L S) (e a b d : Int) (vv : Value) :
  Calls Tryz.prog 28 #[ptr Kb, .agg #[.int .i64 e, .int .i64 8, .int .i64 a, .int .i64 b, .int .i64 d, vv]] w fun x w' => Did Kb L False w ({ S with vs := Ex.kcopyV S.T S.n S.vs e a b, T := S.T, F := S.F }) [] (Ex.kcopyR S.T S.n e a b) x w' := by
 obtain ⟨W, hW⟩ : ∃ W, W = w.alloc (.cells #[.int .i64 e, .int .i64 8, .int .i64 a, .int .i64 b, .int .i64 d, vv] 85) := ⟨_, rfl⟩
 obtain ⟨X, hXe⟩ : ∃ X, X = w.heap.size := ⟨_, rfl⟩
 have hb : Below w.heap.size w W.drew := by rw [hW]; exact (Ca.below_alloc w _).drew
 have hX : W.drew.heap[X]? = some (.cells #[.int .i64 e, .int .i64 8, .int .i64 a, .int .i64 b, .int .i64 d, vv] 85) := by rw [hW, hXe]; exact heap_alloc_new w _
 have hE := h.below hb
 have hC := Ex.kcopy_at hE.mem e a b
 have hS : (fun w' => w'.cell? ⟨Kb, 0, none⟩ = some (ptr L.ek) ∧ (w'.cell? ⟨X, 0, none⟩ = some (.int .i64 e) ∧ w'.cell? ⟨X, 1, none⟩ = some (.int .i64 8) ∧ w'.cell? ⟨X, 2, none⟩ = some (.int .i64 a) ∧ w'.cell? ⟨X, 3, none⟩ = some (.int .i64 b) ∧ w'.cell? ⟨X, 4, none⟩ = some (.int .i64 d) ∧ w'.cell? ⟨X, 5, none⟩ = some (vv))) W.drew := ⟨hE.k0, six_cells hX⟩
 have HE : Hid _ := hE
 have HX : Hid _ := hX
 have HB : Hid _ := hb
 have HW : Hid _ := hW
 have HXe : Hid _ := hXe
 clear h hb hX hE hW hXe
 go_enter Tryz.func28, Tryz.ntmps28
 go_wp2_with fail
 rw [← HW.out, ← HXe.out]
 clear HW
 refine wp_region_held_drew (S := fun w' => w'.cell? ⟨Kb, 0, none⟩ = some (ptr L.ek) ∧ (w'.cell? ⟨X, 0, none⟩ = some (.int .i64 e) ∧ w'.cell? ⟨X, 1, none⟩ = some (.int .i64 8) ∧ w'.cell? ⟨X, 2, none⟩ = some (.int .i64 a) ∧ w'.cell? ⟨X, 3, none⟩ = some (.int .i64 b) ∧ w'.cell? ⟨X, 4, none⟩ = some (.int .i64 d) ∧ w'.cell? ⟨X, 5, none⟩ = some (vv))) (by kernel_rfl) hS (fun hHeld => ?_)
 refine tkz [0, 1, 2, 3, 4, 5, 6, 7, 8, 9] ?_
 iterate 10
  refine tky (v := ?_) rfl (by kernel_rfl) (by kernel_rfl) (by kernel_rfl) (fun _ _ _ h => h) (Or.inl ⟨by kernel_rfl, ?_⟩) (by assumption) ?_
  rotate_left
  ·(intro w hSw; (try dsimp only at hSw); go_simp) <;> with_reducible rfl
  (try simp only [Act.put, lqa, lqb, lqc, lqd, lqe, lqf])
 refine tkw ?_
 refine wpAnyH_ready (rs := [10]) (by kernel_rfl) (by simp) ?_
 refine AllReadyH.cons rfl (fun K hK => ?_) AllReadyH.nil
 go_simp
 refine hC.mono ?_
 rintro x w2 ⟨rfl, hk2, hu2⟩
 have hX2 : w2.heap[X]? = some (.cells #[.int .i64 e, .int .i64 8, .int .i64 a, .int .i64 b, .int .i64 d, vv] 85) := (hu2.block _ (lt_of_heap HX.out) (not_foot HE.out.mem HX.out (by decide) (by decide))).trans HX.out
 have hE2 := HE.out.updM hk2 hu2
 have hT2 : XTch L False w w2 := (XTch.of_below HB.out).trans (XTch.of_foot hu2)
 have hS2 : (fun w' => w'.cell? ⟨Kb, 0, none⟩ = some (ptr L.ek) ∧ (w'.cell? ⟨X, 0, none⟩ = some (.int .i64 e) ∧ w'.cell? ⟨X, 1, none⟩ = some (.int .i64 8) ∧ w'.cell? ⟨X, 2, none⟩ = some (.int .i64 a) ∧ w'.cell? ⟨X, 3, none⟩ = some (.int .i64 b) ∧ w'.cell? ⟨X, 4, none⟩ = some (.int .i64 d) ∧ w'.cell? ⟨X, 5, none⟩ = some (vv))) w2 := ⟨hE2.k0, six_cells hX2⟩
 have HE2 : Hid _ := hE2
 have HT2 : Hid _ := hT2
 clear hX2 hE2 hT2 hk2 hu2 hC
 generalize hRq : Ex.kcopyR S.T S.n e a b = R at *
 have HRq : Hid _ := hRq
 clear hRq
 refine hK.out _ _ hS2 (fun hHeld => ?_)
 clear hK K
 (try simp only [Act.put, lqa, lqb, lqc, lqd, lqe, lqf])
 refine wpAnyH_ready (rs := [11]) (by kernel_rfl) (by simp) ?_
 refine AllReadyH.cons rfl (fun K hK => ?_) AllReadyH.nil
 go_simp
 refine (answer_nil _ w2).mono ?_
 rintro x w3 ⟨rfl, hw⟩
 rw [hw]
 clear hw w3
 refine hK.out _ _ hS2 (fun hHeld => ?_)
 clear hK K
 (try simp only [Act.put, lqa, lqb, lqc, lqd, lqe, lqf])
 refine tkz [12, 13, 14, 15] ?_
 iterate 4
  refine tky (v := ?_) rfl (by kernel_rfl) (by kernel_rfl) (by kernel_rfl) (fun _ _ _ h => h) (Or.inl ⟨by kernel_rfl, ?_⟩) (by assumption) ?_
  rotate_left
  ·(intro w hSw; (try dsimp only at hSw); go_simp) <;> with_reducible rfl
  (try simp only [Act.put, lqa, lqb, lqc, lqd, lqe, lqf])
 refine tkw ?_
 refine wpAnyH_done (by kernel_rfl) ?_ _
 clear hHeld
 go_wp2
 go_ret2
 exact ⟨_, _, _, by rw [HRq.out]; rfl, URow.nil _ _, HE2.out, HT2.out⟩
set_option maxHeartbeats 2000000 in
theorem raw_read (h : ExoAt w Kb L S) (e a b d : Int) (vv : Value) :
  Calls Tryz.prog 28 #[ptr Kb, .agg #[.int .i64 e, .int .i64 9, .int .i64 a, .int .i64 b, .int .i64 d, vv]] w fun x w' => Did Kb L False w (S) (ansW ((Ex.kreadR S.T S.n S.vs e a b).2) [(Ex.kreadR S.T S.n S.vs e a b).1]) ((Ex.kreadR S.T S.n S.vs e a b).2) x w' := by
 obtain ⟨W, hW⟩ : ∃ W, W = w.alloc (.cells #[.int .i64 e, .int .i64 9, .int .i64 a, .int .i64 b, .int .i64 d, vv] 85) := ⟨_, rfl⟩
 obtain ⟨X, hXe⟩ : ∃ X, X = w.heap.size := ⟨_, rfl⟩
 have hb : Below w.heap.size w W.drew := by rw [hW]; exact (Ca.below_alloc w _).drew
 have hX : W.drew.heap[X]? = some (.cells #[.int .i64 e, .int .i64 9, .int .i64 a, .int .i64 b, .int .i64 d, vv] 85) := by rw [hW, hXe]; exact heap_alloc_new w _
 have hE := h.below hb
 have hC := Ex.kread_at hE.mem e a b
 have hS : (fun w' => w'.cell? ⟨Kb, 0, none⟩ = some (ptr L.ek) ∧ (w'.cell? ⟨X, 0, none⟩ = some (.int .i64 e) ∧ w'.cell? ⟨X, 1, none⟩ = some (.int .i64 9) ∧ w'.cell? ⟨X, 2, none⟩ = some (.int .i64 a) ∧ w'.cell? ⟨X, 3, none⟩ = some (.int .i64 b) ∧ w'.cell? ⟨X, 4, none⟩ = some (.int .i64 d) ∧ w'.cell? ⟨X, 5, none⟩ = some (vv))) W.drew := ⟨hE.k0, six_cells hX⟩
 have HE : Hid _ := hE
 have HX : Hid _ := hX
 have HB : Hid _ := hb
 have HW : Hid _ := hW
 have HXe : Hid _ := hXe
 clear h hb hX hE hW hXe
 go_enter Tryz.func28, Tryz.ntmps28
 go_wp2_with fail
 rw [← HW.out, ← HXe.out]
 clear HW
 refine wp_region_held_drew (S := fun w' => w'.cell? ⟨Kb, 0, none⟩ = some (ptr L.ek) ∧ (w'.cell? ⟨X, 0, none⟩ = some (.int .i64 e) ∧ w'.cell? ⟨X, 1, none⟩ = some (.int .i64 9) ∧ w'.cell? ⟨X, 2, none⟩ = some (.int .i64 a) ∧ w'.cell? ⟨X, 3, none⟩ = some (.int .i64 b) ∧ w'.cell? ⟨X, 4, none⟩ = some (.int .i64 d) ∧ w'.cell? ⟨X, 5, none⟩ = some (vv))) (by kernel_rfl) hS (fun hHeld => ?_)
 refine tkz [0, 1, 2, 3, 4, 5, 6, 7, 8, 9] ?_
 iterate 10
  refine tky (v := ?_) rfl (by kernel_rfl) (by kernel_rfl) (by kernel_rfl) (fun _ _ _ h => h) (Or.inl ⟨by kernel_rfl, ?_⟩) (by assumption) ?_
  rotate_left
  ·(intro w hSw; (try dsimp only at hSw); go_simp) <;> with_reducible rfl
  (try simp only [Act.put, lqa, lqb, lqc, lqd, lqe, lqf])
 refine tkw ?_
 refine wpAnyH_ready (rs := [10]) (by kernel_rfl) (by simp) ?_
 refine AllReadyH.cons rfl (fun K hK => ?_) AllReadyH.nil
 go_simp
 refine hC.mono ?_
 rintro x w2 ⟨rfl, hu2⟩
 have hX2 : w2.heap[X]? = some (.cells #[.int .i64 e, .int .i64 9, .int .i64 a, .int .i64 b, .int .i64 d, vv] 85) := (hu2.block _ (lt_of_heap HX.out)).trans HX.out
 have hE2 := HE.out.below hu2
 have hT2 : XTch L False w w2 := (XTch.of_below HB.out).trans (XTch.of_below hu2)
 have hS2 : (fun w' => w'.cell? ⟨Kb, 0, none⟩ = some (ptr L.ek) ∧ (w'.cell? ⟨X, 0, none⟩ = some (.int .i64 e) ∧ w'.cell? ⟨X, 1, none⟩ = some (.int .i64 9) ∧ w'.cell? ⟨X, 2, none⟩ = some (.int .i64 a) ∧ w'.cell? ⟨X, 3, none⟩ = some (.int .i64 b) ∧ w'.cell? ⟨X, 4, none⟩ = some (.int .i64 d) ∧ w'.cell? ⟨X, 5, none⟩ = some (vv))) w2 := ⟨hE2.k0, six_cells hX2⟩
 have HE2 : Hid _ := hE2
 have HT2 : Hid _ := hT2
 clear hX2 hE2 hT2 hu2 hC
 generalize hAq : (Ex.kreadR S.T S.n S.vs e a b).1 = A at *
 generalize hRq : (Ex.kreadR S.T S.n S.vs e a b).2 = R at *
 have HAq : Hid _ := hAq
 have HRq : Hid _ := hRq
 clear hAq hRq
 refine hK.out _ _ hS2 (fun hHeld => ?_)
 clear hK K
 (try simp only [Act.put, lqa, lqb, lqc, lqd, lqe, lqf])
 refine tkz [11, 12, 13, 14, 15] ?_
 iterate 5
  refine tky (v := ?_) rfl (by kernel_rfl) (by kernel_rfl) (by kernel_rfl) (fun _ _ _ h => h) (Or.inl ⟨by kernel_rfl, ?_⟩) (by assumption) ?_
  rotate_left
  ·(intro w hSw; (try dsimp only at hSw); go_simp) <;> with_reducible rfl
  (try simp only [Act.put, lqa, lqb, lqc, lqd, lqe, lqf])
 refine tkw ?_
 refine wpAnyH_done (by kernel_rfl) ?_ _
 clear hHeld hS hS2
 obtain ⟨V, hV⟩ : ∃ V, V = w2.alloc (.cells #[.int .u64 A] 42) := ⟨_, rfl⟩
 have hbV : Below w2.heap.size w2 V := by rw [hV]; exact Ca.below_alloc _ _
 have hcV : V.cell? ⟨w2.heap.size, 0, none⟩ = some (.int .u64 A) := by rw [hV, cell_of_heap (heap_alloc_new _ _)]; rfl
 have hA := answer_one R A V w2.heap.size hcV
 have HbV : Hid _ := hbV
 have HV : Hid _ := hV
 clear hbV hcV hV
 go_wp2_with fail
 rw [← HV.out]
 clear HV
 refine hA.mono ?_
 rintro x w3 ⟨v, rfl, hr3, hb3⟩
 have hr3' := hr3
 obtain ⟨a3, c3, rfl, _⟩ := hr3'
 have HR3 : Hid (URow _ _ _ _) := hr3
 have HB3 : Hid (Below w2.heap.size w2 w3) := HbV.out.trans (hb3.mono HbV.out.size)
 have HSz : Hid (w.heap.size ≤ V.heap.size) := Nat.le_trans HT2.out.size HbV.out.size
 clear hr3 hb3 hA
 generalize (ansW R [A]).length = N at *
 go_wp2
 go_ret2
 exact ⟨_, _, _, by rw [HRq.out]; rfl, by rw [HRq.out, HAq.out]; exact URow.mono HR3.out HSz.out, HE2.out.below HB3.out, HT2.out.trans (XTch.of_below HB3.out)⟩
set_option maxHeartbeats 2000000 in
theorem raw_write (h : ExoAt w Kb L S) (e a b d : Int) (g o cap : Nat) (x0 : Int) (hx0 : ∀ w', XTch L False w w' → w'.cell? ⟨g, o, none⟩ = some (.int .u64 x0)) :
  Calls Tryz.prog 28 #[ptr Kb, .agg #[.int .i64 e, .int .i64 10, .int .i64 a, .int .i64 b, .int .i64 d, .slice (some ⟨g, o, none⟩) 1 cap]] w fun x w' => Did Kb L False w ({ S with vs := Ex.kwriteV S.T S.n S.vs e a b x0, T := S.T, F := S.F }) [] (Ex.kwriteR S.T S.n e a b) x w' := by
 obtain ⟨W, hW⟩ : ∃ W, W = w.alloc (.cells #[.int .i64 e, .int .i64 10, .int .i64 a, .int .i64 b, .int .i64 d, .slice (some ⟨g, o, none⟩) 1 cap] 85) := ⟨_, rfl⟩
 obtain ⟨X, hXe⟩ : ∃ X, X = w.heap.size := ⟨_, rfl⟩
 have hb : Below w.heap.size w W.drew := by rw [hW]; exact (Ca.below_alloc w _).drew
 have hX : W.drew.heap[X]? = some (.cells #[.int .i64 e, .int .i64 10, .int .i64 a, .int .i64 b, .int .i64 d, .slice (some ⟨g, o, none⟩) 1 cap] 85) := by rw [hW, hXe]; exact heap_alloc_new w _
 have hE := h.below hb
 have hC := Ex.kwrite_at hE.mem e a b x0
 have hS : (fun w' => w'.cell? ⟨Kb, 0, none⟩ = some (ptr L.ek) ∧ (w'.cell? ⟨X, 0, none⟩ = some (.int .i64 e) ∧ w'.cell? ⟨X, 1, none⟩ = some (.int .i64 10) ∧ w'.cell? ⟨X, 2, none⟩ = some (.int .i64 a) ∧ w'.cell? ⟨X, 3, none⟩ = some (.int .i64 b) ∧ w'.cell? ⟨X, 4, none⟩ = some (.int .i64 d) ∧ w'.cell? ⟨X, 5, none⟩ = some (.slice (some ⟨g, o, none⟩) 1 cap)) ∧ w'.cell? ⟨g, o, none⟩ = some (.int .u64 x0)) W.drew := ⟨hE.k0, six_cells hX, hx0 _ (XTch.of_below hb)⟩
 have HE : Hid _ := hE
 have HX : Hid _ := hX
 have HB : Hid _ := hb
 have HW : Hid _ := hW
 have HXe : Hid _ := hXe
 clear h hb hX hE hW hXe
 go_enter Tryz.func28, Tryz.ntmps28
 go_wp2_with fail
 rw [← HW.out, ← HXe.out]
 clear HW
 refine wp_region_held_drew (S := fun w' => w'.cell? ⟨Kb, 0, none⟩ = some (ptr L.ek) ∧ (w'.cell? ⟨X, 0, none⟩ = some (.int .i64 e) ∧ w'.cell? ⟨X, 1, none⟩ = some (.int .i64 10) ∧ w'.cell? ⟨X, 2, none⟩ = some (.int .i64 a) ∧ w'.cell? ⟨X, 3, none⟩ = some (.int .i64 b) ∧ w'.cell? ⟨X, 4, none⟩ = some (.int .i64 d) ∧ w'.cell? ⟨X, 5, none⟩ = some (.slice (some ⟨g, o, none⟩) 1 cap)) ∧ w'.cell? ⟨g, o, none⟩ = some (.int .u64 x0)) (by kernel_rfl) hS (fun hHeld => ?_)
 refine tkz [0, 1, 2, 3, 4, 5, 6, 7, 8, 9, 10, 11, 12, 13] ?_
 iterate 14
  refine tky (v := ?_) rfl (by kernel_rfl) (by kernel_rfl) (by kernel_rfl) (fun _ _ _ h => h) (Or.inl ⟨by kernel_rfl, ?_⟩) (by assumption) ?_
  rotate_left
  ·(intro w hSw; (try dsimp only at hSw); go_simp) <;> with_reducible rfl
  (try simp only [Act.put, lqa, lqb, lqc, lqd, lqe, lqf])
 refine tkw ?_
 refine wpAnyH_ready (rs := [14]) (by kernel_rfl) (by simp) ?_
 refine AllReadyH.cons rfl (fun K hK => ?_) AllReadyH.nil
 go_simp
 refine hC.mono ?_
 rintro x w2 ⟨rfl, hk2, hu2⟩
 have hX2 : w2.heap[X]? = some (.cells #[.int .i64 e, .int .i64 10, .int .i64 a, .int .i64 b, .int .i64 d, .slice (some ⟨g, o, none⟩) 1 cap] 85) := (hu2.block _ (lt_of_heap HX.out) (not_foot HE.out.mem HX.out (by decide) (by decide))).trans HX.out
 have hE2 := HE.out.updM hk2 hu2
 have hT2 : XTch L False w w2 := (XTch.of_below HB.out).trans (XTch.of_foot hu2)
 have hS2 : (fun w' => w'.cell? ⟨Kb, 0, none⟩ = some (ptr L.ek) ∧ (w'.cell? ⟨X, 0, none⟩ = some (.int .i64 e) ∧ w'.cell? ⟨X, 1, none⟩ = some (.int .i64 10) ∧ w'.cell? ⟨X, 2, none⟩ = some (.int .i64 a) ∧ w'.cell? ⟨X, 3, none⟩ = some (.int .i64 b) ∧ w'.cell? ⟨X, 4, none⟩ = some (.int .i64 d) ∧ w'.cell? ⟨X, 5, none⟩ = some (.slice (some ⟨g, o, none⟩) 1 cap)) ∧ w'.cell? ⟨g, o, none⟩ = some (.int .u64 x0)) w2 := ⟨hE2.k0, six_cells hX2, hx0 _ hT2⟩
 have HE2 : Hid _ := hE2
 have HT2 : Hid _ := hT2
 clear hX2 hE2 hT2 hk2 hu2 hC
 generalize hRq : Ex.kwriteR S.T S.n e a b = R at *
 have HRq : Hid _ := hRq
 clear hRq
 refine hK.out _ _ hS2 (fun hHeld => ?_)
 clear hK K
 (try simp only [Act.put, lqa, lqb, lqc, lqd, lqe, lqf])
 refine wpAnyH_ready (rs := [15]) (by kernel_rfl) (by simp) ?_
 refine AllReadyH.cons rfl (fun K hK => ?_) AllReadyH.nil
 go_simp
 refine (answer_nil _ w2).mono ?_
 rintro x w3 ⟨rfl, hw⟩
 rw [hw]
 clear hw w3
 refine hK.out _ _ hS2 (fun hHeld => ?_)
 clear hK K
 (try simp only [Act.put, lqa, lqb, lqc, lqd, lqe, lqf])
 refine tkz [16, 17, 18, 19] ?_
 iterate 4
  refine tky (v := ?_) rfl (by kernel_rfl) (by kernel_rfl) (by kernel_rfl) (fun _ _ _ h => h) (Or.inl ⟨by kernel_rfl, ?_⟩) (by assumption) ?_
  rotate_left
  ·(intro w hSw; (try dsimp only at hSw); go_simp) <;> with_reducible rfl
  (try simp only [Act.put, lqa, lqb, lqc, lqd, lqe, lqf])
 refine tkw ?_
 refine wpAnyH_done (by kernel_rfl) ?_ _
 clear hHeld
 go_wp2
 go_ret2
 exact ⟨_, _, _, by rw [HRq.out]; rfl, URow.nil _ _, HE2.out, HT2.out⟩
end
end Go.Proofs.YtbhpafgoofkkmaaGreatDoor
