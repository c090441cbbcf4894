import Derived.Test.YtbhpafgoofkkmaaGreatDoorXoF
set_option linter.all false
namespace Go.Proofs.YtbhpafgoofkkmaaGreatDoor
open Go.RowKit
section
variable {w : World} {Kb : Nat} {L : XL} {S : XS}
set_option maxHeartbeats 2000000 in
theorem raw_xalloc (h : ExoAt w Kb L S) (e a b d : Int) (vv : Value) (i1 : Ca.I64 a) (i2 : Ca.I64 b) :
  Calls Tryz.prog 30 #[ptr Kb, .agg #[.int .i64 e, .int .i64 13, .int .i64 a, .int .i64 b, .int .i64 d, vv]] w fun x w' => Did Kb L False w ({ S with m := S.m, ds := S.ds, l := S.l, C := Xd.xallocT S.C S.d e a b }) (ansW (Xd.xallocR S.C S.d e a b) [Xd.xallocA S.C S.d e a b]) (Xd.xallocR S.C S.d e a b) x w' := by
 obtain ⟨W, hW⟩ : ∃ W, W = w.alloc (.cells #[.int .i64 e, .int .i64 13, .int .i64 a, .int .i64 b, .int .i64 d, vv] 85) := ⟨_, rfl⟩
 obtain ⟨X, hXe⟩ : ∃ X, X = w.heap.size := ⟨_, rfl⟩
 have hb : Below w.heap.size w W.drew := by rw [hW]; exact (Ca.below_alloc w _).drew
 have hX : W.drew.heap[X]? = some (.cells #[.int .i64 e, .int .i64 13, .int .i64 a, .int .i64 b, .int .i64 d, vv] 85) := by rw [hW, hXe]; exact heap_alloc_new w _
 have hE := h.below hb
 have hC := Xd.xalloc_at hE.disk e a b i1 i2
 have hS : (fun w' => w'.cell? ⟨Kb, 3, none⟩ = some (ptr L.dk) ∧ (w'.cell? ⟨X, 0, none⟩ = some (.int .i64 e) ∧ w'.cell? ⟨X, 1, none⟩ = some (.int .i64 13) ∧ w'.cell? ⟨X, 2, none⟩ = some (.int .i64 a) ∧ w'.cell? ⟨X, 3, none⟩ = some (.int .i64 b) ∧ w'.cell? ⟨X, 4, none⟩ = some (.int .i64 d) ∧ w'.cell? ⟨X, 5, none⟩ = some (vv))) W.drew := ⟨hE.k3, six_cells hX⟩
 have HE : Hid _ := hE
 have HX : Hid _ := hX
 have HB : Hid _ := hb
 have HW : Hid _ := hW
 have HXe : Hid _ := hXe
 have hwA := u64_small (xallocA_small S.C S.d e a b).1 (xallocA_small S.C S.d e a b).2
 clear h hb hX hE hW hXe
 go_enter Tryz.func30, Tryz.ntmps30
 go_wp2_with fail
 rw [← HW.out, ← HXe.out]
 clear HW
 refine wp_region_held_drew (S := fun w' => w'.cell? ⟨Kb, 3, none⟩ = some (ptr L.dk) ∧ (w'.cell? ⟨X, 0, none⟩ = some (.int .i64 e) ∧ w'.cell? ⟨X, 1, none⟩ = some (.int .i64 13) ∧ w'.cell? ⟨X, 2, none⟩ = some (.int .i64 a) ∧ w'.cell? ⟨X, 3, none⟩ = some (.int .i64 b) ∧ w'.cell? ⟨X, 4, none⟩ = some (.int .i64 d) ∧ w'.cell? ⟨X, 5, none⟩ = some (vv))) (by kernel_rfl) hS (fun hHeld => ?_)
 refine tkz [0, 1, 2, 3, 4, 5, 6, 7, 8, 9] ?_
 iterate 10
  refine tky (v := ?_) rfl (by kernel_rfl) (by kernel_rfl) (by kernel_rfl) (fun _ _ _ h => h) (Or.inl ⟨by kernel_rfl, ?_⟩) (by assumption) ?_
  rotate_left
  ·(intro w hSw; (try dsimp only at hSw); go_simp) <;> with_reducible rfl
  (try simp only [Act.put, lqa, lqb, lqc, lqd, lqe, lqf])
 refine tkw ?_
 refine wpAnyH_ready (rs := [10]) (by kernel_rfl) (by simp) ?_
 refine AllReadyH.cons rfl (fun K hK => ?_) AllReadyH.nil
 go_simp
 refine hC.mono ?_
 rintro x w2 ⟨rfl, hk2, hu2⟩
 have hX2 : w2.heap[X]? = some (.cells #[.int .i64 e, .int .i64 13, .int .i64 a, .int .i64 b, .int .i64 d, vv] 85) := (hu2.block _ (lt_of_heap HX.out) (not_xfoot HE.out.disk HX.out (by decide) (by decide) (by decide) (by decide))).trans HX.out
 have hE2 := HE.out.updD hk2 hu2
 have hT2 : XTch L False w w2 := (XTch.of_below HB.out).trans (XTch.of_xfoot hu2)
 have hS2 : (fun w' => w'.cell? ⟨Kb, 3, none⟩ = some (ptr L.dk) ∧ (w'.cell? ⟨X, 0, none⟩ = some (.int .i64 e) ∧ w'.cell? ⟨X, 1, none⟩ = some (.int .i64 13) ∧ w'.cell? ⟨X, 2, none⟩ = some (.int .i64 a) ∧ w'.cell? ⟨X, 3, none⟩ = some (.int .i64 b) ∧ w'.cell? ⟨X, 4, none⟩ = some (.int .i64 d) ∧ w'.cell? ⟨X, 5, none⟩ = some (vv))) w2 := ⟨hE2.k3, six_cells hX2⟩
 have HE2 : Hid _ := hE2
 have HT2 : Hid _ := hT2
 clear hX2 hE2 hT2 hk2 hu2 hC
 generalize hAq : Xd.xallocA S.C S.d e a b = A at *
 generalize hRq : Xd.xallocR S.C S.d e a b = R at *
 have HAq : Hid _ := hAq
 have HRq : Hid _ := hRq
 clear hAq hRq
 refine hK.out _ _ hS2 (fun hHeld => ?_)
 clear hK K
 (try simp only [Act.put, lqa, lqb, lqc, lqd, lqe, lqf])
 refine tkz [11, 12, 13, 14, 15] ?_
 iterate 5
  refine tky (v := ?_) rfl (by kernel_rfl) (by kernel_rfl) (by kernel_rfl) (fun _ _ _ h => h) (Or.inl ⟨by kernel_rfl, ?_⟩) (by assumption) ?_
  rotate_left
  ·(intro w hSw; (try dsimp only at hSw); go_simp) <;> with_reducible rfl
  (try simp only [Act.put, lqa, lqb, lqc, lqd, lqe, lqf])
 refine tkw ?_
 refine wpAnyH_done (by kernel_rfl) ?_ _
 clear hHeld hS hS2
 obtain ⟨V, hV⟩ : ∃ V, V = w2.alloc (.cells #[.int .u64 A] 42) := ⟨_, rfl⟩
 have hbV : Below w2.heap.size w2 V := by rw [hV]; exact Ca.below_alloc _ _
 have hcV : V.cell? ⟨w2.heap.size, 0, none⟩ = some (.int .u64 A) := by rw [hV, cell_of_heap (heap_alloc_new _ _)]; rfl
 have hA := answer_one R A V w2.heap.size hcV
 have HbV : Hid _ := hbV
 have HV : Hid _ := hV
 clear hbV hcV hV
 go_wp2_with fail
 rw [← HV.out]
 clear HV
 refine hA.mono ?_
 rintro x w3 ⟨v, rfl, hr3, hb3⟩
 have hr3' := hr3
 obtain ⟨a3, c3, rfl, _⟩ := hr3'
 have HR3 : Hid (URow _ _ _ _) := hr3
 have HB3 : Hid (Below w2.heap.size w2 w3) := HbV.out.trans (hb3.mono HbV.out.size)
 have HSz : Hid (w.heap.size ≤ V.heap.size) := Nat.le_trans HT2.out.size HbV.out.size
 clear hr3 hb3 hA
 generalize (ansW R [A]).length = N at *
 go_wp2
 go_ret2
 exact ⟨_, _, _, by rw [HRq.out]; rfl, by rw [HRq.out, HAq.out]; exact URow.mono HR3.out HSz.out, HE2.out.below HB3.out, HT2.out.trans (XTch.of_below HB3.out)⟩
set_option maxHeartbeats 2000000 in
theorem raw_xrevoke (h : ExoAt w Kb L S) (e a b d : Int) (vv : Value) :
  Calls Tryz.prog 30 #[ptr Kb, .agg #[.int .i64 e, .int .i64 15, .int .i64 a, .int .i64 b, .int .i64 d, vv]] w fun x w' => Did Kb L False w ({ S with m := S.m, ds := S.ds, l := S.l, C := Xd.revT S.C e a }) [] (Xd.revR S.C e a) x w' := by
 obtain ⟨W, hW⟩ : ∃ W, W = w.alloc (.cells #[.int .i64 e, .int .i64 15, .int .i64 a, .int .i64 b, .int .i64 d, vv] 85) := ⟨_, rfl⟩
 obtain ⟨X, hXe⟩ : ∃ X, X = w.heap.size := ⟨_, rfl⟩
 have hb : Below w.heap.size w W.drew := by rw [hW]; exact (Ca.below_alloc w _).drew
 have hX : W.drew.heap[X]? = some (.cells #[.int .i64 e, .int .i64 15, .int .i64 a, .int .i64 b, .int .i64 d, vv] 85) := by rw [hW, hXe]; exact heap_alloc_new w _
 have hE := h.below hb
 have hC := Xd.xrevoke_at hE.disk e a
 have hS : (fun w' => w'.cell? ⟨Kb, 3, none⟩ = some (ptr L.dk) ∧ (w'.cell? ⟨X, 0, none⟩ = some (.int .i64 e) ∧ w'.cell? ⟨X, 1, none⟩ = some (.int .i64 15) ∧ w'.cell? ⟨X, 2, none⟩ = some (.int .i64 a) ∧ w'.cell? ⟨X, 3, none⟩ = some (.int .i64 b) ∧ w'.cell? ⟨X, 4, none⟩ = some (.int .i64 d) ∧ w'.cell? ⟨X, 5, none⟩ = some (vv))) W.drew := ⟨hE.k3, six_cells hX⟩
 have HE : Hid _ := hE
 have HX : Hid _ := hX
 have HB : Hid _ := hb
 have HW : Hid _ := hW
 have HXe : Hid _ := hXe
 clear h hb hX hE hW hXe
 go_enter Tryz.func30, Tryz.ntmps30
 go_wp2_with fail
 rw [← HW.out, ← HXe.out]
 clear HW
 refine wp_region_held_drew (S := fun w' => w'.cell? ⟨Kb, 3, none⟩ = some (ptr L.dk) ∧ (w'.cell? ⟨X, 0, none⟩ = some (.int .i64 e) ∧ w'.cell? ⟨X, 1, none⟩ = some (.int .i64 15) ∧ w'.cell? ⟨X, 2, none⟩ = some (.int .i64 a) ∧ w'.cell? ⟨X, 3, none⟩ = some (.int .i64 b) ∧ w'.cell? ⟨X, 4, none⟩ = some (.int .i64 d) ∧ w'.cell? ⟨X, 5, none⟩ = some (vv))) (by kernel_rfl) hS (fun hHeld => ?_)
 refine tkz [0, 1, 2, 3, 4, 5, 6, 7] ?_
 iterate 8
  refine tky (v := ?_) rfl (by kernel_rfl) (by kernel_rfl) (by kernel_rfl) (fun _ _ _ h => h) (Or.inl ⟨by kernel_rfl, ?_⟩) (by assumption) ?_
  rotate_left
  ·(intro w hSw; (try dsimp only at hSw); go_simp) <;> with_reducible rfl
  (try simp only [Act.put, lqa, lqb, lqc, lqd, lqe, lqf])
 refine tkw ?_
 refine wpAnyH_ready (rs := [8]) (by kernel_rfl) (by simp) ?_
 refine AllReadyH.cons rfl (fun K hK => ?_) AllReadyH.nil
 go_simp
 refine hC.mono ?_
 rintro x w2 ⟨rfl, hk2, hu2⟩
 have hX2 : w2.heap[X]? = some (.cells #[.int .i64 e, .int .i64 15, .int .i64 a, .int .i64 b, .int .i64 d, vv] 85) := (hu2.block _ (lt_of_heap HX.out) (not_xfoot HE.out.disk HX.out (by decide) (by decide) (by decide) (by decide))).trans HX.out
 have hE2 := HE.out.updD hk2 hu2
 have hT2 : XTch L False w w2 := (XTch.of_below HB.out).trans (XTch.of_xfoot hu2)
 have hS2 : (fun w' => w'.cell? ⟨Kb, 3, none⟩ = some (ptr L.dk) ∧ (w'.cell? ⟨X, 0, none⟩ = some (.int .i64 e) ∧ w'.cell? ⟨X, 1, none⟩ = some (.int .i64 15) ∧ w'.cell? ⟨X, 2, none⟩ = some (.int .i64 a) ∧ w'.cell? ⟨X, 3, none⟩ = some (.int .i64 b) ∧ w'.cell? ⟨X, 4, none⟩ = some (.int .i64 d) ∧ w'.cell? ⟨X, 5, none⟩ = some (vv))) w2 := ⟨hE2.k3, six_cells hX2⟩
 have HE2 : Hid _ := hE2
 have HT2 : Hid _ := hT2
 clear hX2 hE2 hT2 hk2 hu2 hC
 generalize hRq : Xd.revR S.C e a = R at *
 have HRq : Hid _ := hRq
 clear hRq
 refine hK.out _ _ hS2 (fun hHeld => ?_)
 clear hK K
 (try simp only [Act.put, lqa, lqb, lqc, lqd, lqe, lqf])
 refine wpAnyH_ready (rs := [9]) (by kernel_rfl) (by simp) ?_
 refine AllReadyH.cons rfl (fun K hK => ?_) AllReadyH.nil
 go_simp
 refine (answer_nil _ w2).mono ?_
 rintro x w3 ⟨rfl, hw⟩
 rw [hw]
 clear hw w3
 refine hK.out _ _ hS2 (fun hHeld => ?_)
 clear hK K
 (try simp only [Act.put, lqa, lqb, lqc, lqd, lqe, lqf])
 refine tkz [10, 11, 12, 13] ?_
 iterate 4
  refine tky (v := ?_) rfl (by kernel_rfl) (by kernel_rfl) (by kernel_rfl) (fun _ _ _ h => h) (Or.inl ⟨by kernel_rfl, ?_⟩) (by assumption) ?_
  rotate_left
  ·(intro w hSw; (try dsimp only at hSw); go_simp) <;> with_reducible rfl
  (try simp only [Act.put, lqa, lqb, lqc, lqd, lqe, lqf])
 refine tkw ?_
 refine wpAnyH_done (by kernel_rfl) ?_ _
 clear hHeld
 go_wp2
 go_ret2
 exact ⟨_, _, _, by rw [HRq.out]; rfl, URow.nil _ _, HE2.out, HT2.out⟩
set_option maxHeartbeats 2000000 in
theorem raw_put (h : ExoAt w Kb L S) (e a b d : Int) (av : Option Addr) (nv cv : Nat) (ws : List Int) (i2 : Ca.I64 b) (hv : RdV w (.slice av nv cv) ws) :
  Calls Tryz.prog 30 #[ptr Kb, .agg #[.int .i64 e, .int .i64 17, .int .i64 a, .int .i64 b, .int .i64 d, .slice av nv cv]] w fun x w' => Did Kb L False w ({ S with m := S.m, ds := S.ds, l := Xd.putLl S.C S.l e a b ws, C := S.C }) [] (Xd.putRr S.C e a b ws.length) x w' := by
 obtain ⟨W, hW⟩ : ∃ W, W = w.alloc (.cells #[.int .i64 e, .int .i64 17, .int .i64 a, .int .i64 b, .int .i64 d, .slice av nv cv] 85) := ⟨_, rfl⟩
 obtain ⟨X, hXe⟩ : ∃ X, X = w.heap.size := ⟨_, rfl⟩
 have hb : Below w.heap.size w W.drew := by rw [hW]; exact (Ca.below_alloc w _).drew
 have hX : W.drew.heap[X]? = some (.cells #[.int .i64 e, .int .i64 17, .int .i64 a, .int .i64 b, .int .i64 d, .slice av nv cv] 85) := by rw [hW, hXe]; exact heap_alloc_new w _
 have hE := h.below hb
 have hC := Xd.xputR_at hE.disk e a b i2 (hv.below hb)
 have hS : (fun w' => w'.cell? ⟨Kb, 3, none⟩ = some (ptr L.dk) ∧ (w'.cell? ⟨X, 0, none⟩ = some (.int .i64 e) ∧ w'.cell? ⟨X, 1, none⟩ = some (.int .i64 17) ∧ w'.cell? ⟨X, 2, none⟩ = some (.int .i64 a) ∧ w'.cell? ⟨X, 3, none⟩ = some (.int .i64 b) ∧ w'.cell? ⟨X, 4, none⟩ = some (.int .i64 d) ∧ w'.cell? ⟨X, 5, none⟩ = some (.slice av nv cv))) W.drew := ⟨hE.k3, six_cells hX⟩
 have HE : Hid _ := hE
 have HX : Hid _ := hX
 have HB : Hid _ := hb
 have HW : Hid _ := hW
 have HXe : Hid _ := hXe
 clear h hb hX hE hW hXe
 go_enter Tryz.func30, Tryz.ntmps30
 go_wp2_with fail
 rw [← HW.out, ← HXe.out]
 clear HW
 refine wp_region_held_drew (S := fun w' => w'.cell? ⟨Kb, 3, none⟩ = some (ptr L.dk) ∧ (w'.cell? ⟨X, 0, none⟩ = some (.int .i64 e) ∧ w'.cell? ⟨X, 1, none⟩ = some (.int .i64 17) ∧ w'.cell? ⟨X, 2, none⟩ = some (.int .i64 a) ∧ w'.cell? ⟨X, 3, none⟩ = some (.int .i64 b) ∧ w'.cell? ⟨X, 4, none⟩ = some (.int .i64 d) ∧ w'.cell? ⟨X, 5, none⟩ = some (.slice av nv cv))) (by kernel_rfl) hS (fun hHeld => ?_)
 refine tkz [0, 1, 2, 3, 4, 5, 6, 7, 8, 9, 10, 11] ?_
 iterate 12
  refine tky (v := ?_) rfl (by kernel_rfl) (by kernel_rfl) (by kernel_rfl) (fun _ _ _ h => h) (Or.inl ⟨by kernel_rfl, ?_⟩) (by assumption) ?_
  rotate_left
  ·(intro w hSw; (try dsimp only at hSw); go_simp) <;> with_reducible rfl
  (try simp only [Act.put, lqa, lqb, lqc, lqd, lqe, lqf])
 refine tkw ?_
 refine wpAnyH_ready (rs := [12]) (by kernel_rfl) (by simp) ?_
 refine AllReadyH.cons rfl (fun K hK => ?_) AllReadyH.nil
 go_simp
 refine hC.mono ?_
 rintro x w2 ⟨rfl, hk2, hu2⟩
 have hX2 : w2.heap[X]? = some (.cells #[.int .i64 e, .int .i64 17, .int .i64 a, .int .i64 b, .int .i64 d, .slice av nv cv] 85) := (hu2.block _ (lt_of_heap HX.out) (not_xfoot HE.out.disk HX.out (by decide) (by decide) (by decide) (by decide))).trans HX.out
 have hE2 := HE.out.updD hk2 hu2
 have hT2 : XTch L False w w2 := (XTch.of_below HB.out).trans (XTch.of_xfoot hu2)
 have hS2 : (fun w' => w'.cell? ⟨Kb, 3, none⟩ = some (ptr L.dk) ∧ (w'.cell? ⟨X, 0, none⟩ = some (.int .i64 e) ∧ w'.cell? ⟨X, 1, none⟩ = some (.int .i64 17) ∧ w'.cell? ⟨X, 2, none⟩ = some (.int .i64 a) ∧ w'.cell? ⟨X, 3, none⟩ = some (.int .i64 b) ∧ w'.cell? ⟨X, 4, none⟩ = some (.int .i64 d) ∧ w'.cell? ⟨X, 5, none⟩ = some (.slice av nv cv))) w2 := ⟨hE2.k3, six_cells hX2⟩
 have HE2 : Hid _ := hE2
 have HT2 : Hid _ := hT2
 clear hX2 hE2 hT2 hk2 hu2 hC
 generalize hRq : Xd.putRr S.C e a b ws.length = R at *
 have HRq : Hid _ := hRq
 clear hRq
 refine hK.out _ _ hS2 (fun hHeld => ?_)
 clear hK K
 (try simp only [Act.put, lqa, lqb, lqc, lqd, lqe, lqf])
 refine wpAnyH_ready (rs := [13]) (by kernel_rfl) (by simp) ?_
 refine AllReadyH.cons rfl (fun K hK => ?_) AllReadyH.nil
 go_simp
 refine (answer_nil _ w2).mono ?_
 rintro x w3 ⟨rfl, hw⟩
 rw [hw]
 clear hw w3
 refine hK.out _ _ hS2 (fun hHeld => ?_)
 clear hK K
 (try simp only [Act.put, lqa, lqb, lqc, lqd, lqe, lqf])
 refine tkz [14, 15, 16, 17] ?_
 iterate 4
  refine tky (v := ?_) rfl (by kernel_rfl) (by kernel_rfl) (by kernel_rfl) (fun _ _ _ h => h) (Or.inl ⟨by kernel_rfl, ?_⟩) (by assumption) ?_
  rotate_left
  ·(intro w hSw; (try dsimp only at hSw); go_simp) <;> with_reducible rfl
  (try simp only [Act.put, lqa, lqb, lqc, lqd, lqe, lqf])
 refine tkw ?_
 refine wpAnyH_done (by kernel_rfl) ?_ _
 clear hHeld
 go_wp2
 go_ret2
 exact ⟨_, _, _, by rw [HRq.out]; rfl, URow.nil _ _, HE2.out, HT2.out⟩
set_option maxHeartbeats 2000000 in
theorem raw_get (h : ExoAt w Kb L S) (e a b d : Int) (vv : Value) (i2 : Ca.I64 b) (hm : S.m ≤ 900000) :
  Calls Tryz.prog 30 #[ptr Kb, .agg #[.int .i64 e, .int .i64 16, .int .i64 a, .int .i64 b, .int .i64 d, vv]] w fun x w' => Did Kb L False w ({ S with m := S.m + 1, ds := S.ds, l := Xd.getLl S.C S.l S.ds e a b, C := S.C }) (Xd.getWw S.C S.l S.ds e a b) (Xd.getRr S.C e a b) x w' := by
 obtain ⟨W, hW⟩ : ∃ W, W = w.alloc (.cells #[.int .i64 e, .int .i64 16, .int .i64 a, .int .i64 b, .int .i64 d, vv] 85) := ⟨_, rfl⟩
 obtain ⟨X, hXe⟩ : ∃ X, X = w.heap.size := ⟨_, rfl⟩
 have hb : Below w.heap.size w W.drew := by rw [hW]; exact (Ca.below_alloc w _).drew
 have hX : W.drew.heap[X]? = some (.cells #[.int .i64 e, .int .i64 16, .int .i64 a, .int .i64 b, .int .i64 d, vv] 85) := by rw [hW, hXe]; exact heap_alloc_new w _
 have hE := h.below hb
 have hC := Xd.xget_at hE.disk e a b i2 hm
 have HW32 : Hid ((Xd.getRr S.C e a b = 0 ∧ (Xd.getWw S.C S.l S.ds e a b).length = 31 + 1) ∨ (Xd.getRr S.C e a b = 104 ∧ Xd.getWw S.C S.l S.ds e a b = [])) := by
  show _ ∨ _
  unfold Xd.getRr Xd.getWw
  cases hq : Xd.mayX S.C e a b 1 with
  | true =>
   obtain ⟨q0, q1⟩ := Xd.mayX_in h.disk.inv hq
   exact Or.inl ⟨rfl, Xd.lookW_len h.disk.linv h.disk.len (by omega)⟩
  | false => exact Or.inr ⟨rfl, rfl⟩
 have hS : (fun w' => w'.cell? ⟨Kb, 3, none⟩ = some (ptr L.dk) ∧ (w'.cell? ⟨X, 0, none⟩ = some (.int .i64 e) ∧ w'.cell? ⟨X, 1, none⟩ = some (.int .i64 16) ∧ w'.cell? ⟨X, 2, none⟩ = some (.int .i64 a) ∧ w'.cell? ⟨X, 3, none⟩ = some (.int .i64 b) ∧ w'.cell? ⟨X, 4, none⟩ = some (.int .i64 d) ∧ w'.cell? ⟨X, 5, none⟩ = some (vv))) W.drew := ⟨hE.k3, six_cells hX⟩
 have HE : Hid _ := hE
 have HX : Hid _ := hX
 have HB : Hid _ := hb
 have HW : Hid _ := hW
 have HXe : Hid _ := hXe
 clear h hb hX hE hW hXe
 go_enter Tryz.func30, Tryz.ntmps30
 go_wp2_with fail
 rw [← HW.out, ← HXe.out]
 clear HW
 refine wp_region_held_drew (S := fun w' => w'.cell? ⟨Kb, 3, none⟩ = some (ptr L.dk) ∧ (w'.cell? ⟨X, 0, none⟩ = some (.int .i64 e) ∧ w'.cell? ⟨X, 1, none⟩ = some (.int .i64 16) ∧ w'.cell? ⟨X, 2, none⟩ = some (.int .i64 a) ∧ w'.cell? ⟨X, 3, none⟩ = some (.int .i64 b) ∧ w'.cell? ⟨X, 4, none⟩ = some (.int .i64 d) ∧ w'.cell? ⟨X, 5, none⟩ = some (vv))) (by kernel_rfl) hS (fun hHeld => ?_)
 refine tkz [0, 1, 2, 3, 4, 5, 6, 7, 8, 9] ?_
 iterate 10
  refine tky (v := ?_) rfl (by kernel_rfl) (by kernel_rfl) (by kernel_rfl) (fun _ _ _ h => h) (Or.inl ⟨by kernel_rfl, ?_⟩) (by assumption) ?_
  rotate_left
  ·(intro w hSw; (try dsimp only at hSw); go_simp) <;> with_reducible rfl
  (try simp only [Act.put, lqa, lqb, lqc, lqd, lqe, lqf])
 refine tkw ?_
 refine wpAnyH_ready (rs := [10]) (by kernel_rfl) (by simp) ?_
 refine AllReadyH.cons rfl (fun K hK => ?_) AllReadyH.nil
 go_simp
 refine hC.mono ?_
 rintro x w2 ⟨u, rfl, hr2, hk2, hu2⟩
 have hX2 : w2.heap[X]? = some (.cells #[.int .i64 e, .int .i64 16, .int .i64 a, .int .i64 b, .int .i64 d, vv] 85) := (hu2.block _ (lt_of_heap HX.out) (not_xfoot HE.out.disk HX.out (by decide) (by decide) (by decide) (by decide))).trans HX.out
 have hE2 := HE.out.updD hk2 hu2
 have hT2 : XTch L False w w2 := (XTch.of_below HB.out).trans (XTch.of_xfoot hu2)
 have hS2 : (fun w' => w'.cell? ⟨Kb, 3, none⟩ = some (ptr L.dk) ∧ (w'.cell? ⟨X, 0, none⟩ = some (.int .i64 e) ∧ w'.cell? ⟨X, 1, none⟩ = some (.int .i64 16) ∧ w'.cell? ⟨X, 2, none⟩ = some (.int .i64 a) ∧ w'.cell? ⟨X, 3, none⟩ = some (.int .i64 b) ∧ w'.cell? ⟨X, 4, none⟩ = some (.int .i64 d) ∧ w'.cell? ⟨X, 5, none⟩ = some (vv))) w2 := ⟨hE2.k3, six_cells hX2⟩
 have HE2 : Hid _ := hE2
 have HT2 : Hid _ := hT2
 have HR2 : Hid (URow _ _ _ _) := hr2
 clear hX2 hE2 hT2 hk2 hu2 hC hr2
 generalize hAq : Xd.getWw S.C S.l S.ds e a b = A at *
 generalize hRq : Xd.getRr S.C e a b = R at *
 have HAq : Hid _ := hAq
 have HRq : Hid _ := hRq
 clear hAq hRq
 refine hK.out _ _ hS2 (fun hHeld => ?_)
 clear hK K
 (try simp only [Act.put, lqa, lqb, lqc, lqd, lqe, lqf])
 refine tkz [11, 12, 13, 14, 15] ?_
 iterate 5
  refine tky (v := ?_) rfl (by kernel_rfl) (by kernel_rfl) (by kernel_rfl) (fun _ _ _ h => h) (Or.inl ⟨by kernel_rfl, ?_⟩) (by assumption) ?_
  rotate_left
  ·(intro w hSw; (try dsimp only at hSw); go_simp) <;> with_reducible rfl
  (try simp only [Act.put, lqa, lqb, lqc, lqd, lqe, lqf])
 refine tkw ?_
 refine wpAnyH_done (by kernel_rfl) ?_ _
 clear hHeld hS hS2
 rcases HW32.out with ⟨r0, l32⟩ | ⟨r0, lnil⟩
 ·have hA := answer_ok 31 u A w2 l32 (by omega) (URow.rdv HR2.out)
  have Hr0 : Hid _ := r0
  subst r0
  have hru := HR2.out
  obtain ⟨au, cu, rfl, _⟩ := hru
  have hl32 : A.length = 32 := l32
  rw [hl32] at hA ⊢
  clear l32 hl32 HW32
  go_wp2_with fail
  refine hA.mono ?_
  rintro x w3 ⟨g3, c3, rfl, ho3, hb3⟩
  have HO3 : Hid (OW _ _ _ _) := ho3
  have HB3 : Hid _ := hb3
  clear ho3 hb3 hA
  go_wp2
  go_ret2
  exact ⟨_, _, _, by rw [HRq.out]; rfl, by rw [HAq.out]; exact (OW.urow HO3.out).mono HT2.out.size, HE2.out.below HB3.out, HT2.out.trans (XTch.of_below HB3.out)⟩
 ·have hA := answer_err R u w2 (by rw [r0]; decide)
  have hru := HR2.out
  obtain ⟨au, cu, rfl, _⟩ := hru
  have HRn : Hid (A = []) := lnil
  clear lnil r0 HW32
  generalize A.length = N at *
  go_wp2_with fail
  refine hA.mono ?_
  rintro x w3 ⟨rfl, hw⟩
  rw [hw]
  clear hw w3 hA
  go_wp2
  go_ret2
  exact ⟨_, _, _, by rw [HRq.out]; rfl, by rw [HAq.out, HRn.out]; exact URow.nil _ _, HE2.out, HT2.out⟩
end
end Go.Proofs.YtbhpafgoofkkmaaGreatDoor
