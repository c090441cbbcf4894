import Derived.Test.YtbhpafgoofkkmaaGreatDoorXoE
set_option linter.all false
namespace Go.Proofs.YtbhpafgoofkkmaaGreatDoor
open Go.RowKit
section
variable {w : World} {Kb : Nat} {L : XL} {S : XS}
theorem grant_fr_no (h : ExoAt w Kb L S) (e a b d : Int) (vv f : Value) (hl : En.isB S.E b = false) :
  Calls Tryz.prog 62 #[ptr Kb, .agg #[.int .i64 e, .int .i64 1, .int .i64 a, .int .i64 b, .int .i64 d, vv], f] w fun x w' => Did Kb L False w S [] 101 x w' := by
 obtain ⟨W, hW⟩ : ∃ W, W = w.alloc (.cells #[.int .i64 e, .int .i64 1, .int .i64 a, .int .i64 b, .int .i64 d, vv] 85) := ⟨_, rfl⟩
 obtain ⟨X, hXe⟩ : ∃ X, X = w.heap.size := ⟨_, rfl⟩
 have hb : Below w.heap.size w W.drew := by rw [hW]; exact (Ca.below_alloc w _).drew
 have hX : W.drew.heap[X]? = some (.cells #[.int .i64 e, .int .i64 1, .int .i64 a, .int .i64 b, .int .i64 d, vv] 85) := by rw [hW, hXe]; exact heap_alloc_new w _
 have hE := h.below hb
 have hI := En.is_at L.eb L.eg S.E S.V b W.drew hE.env
 rw [hl] at hI
 have hS : (fun w' => w'.cell? ⟨Kb, 1, none⟩ = some (ptr L.eb) ∧ (w'.cell? ⟨X, 0, none⟩ = some (.int .i64 e) ∧ w'.cell? ⟨X, 1, none⟩ = some (.int .i64 1) ∧ w'.cell? ⟨X, 2, none⟩ = some (.int .i64 a) ∧ w'.cell? ⟨X, 3, none⟩ = some (.int .i64 b) ∧ w'.cell? ⟨X, 4, none⟩ = some (.int .i64 d) ∧ w'.cell? ⟨X, 5, none⟩ = some (vv))) W.drew := ⟨hE.k1, six_cells hX⟩
 have HE : Hid _ := hE
 have HB : Hid _ := hb
 have HW : Hid _ := hW
 have HXe : Hid _ := hXe
 clear h hb hX hE hW hXe hl
 go_enter Tryz.func62, Tryz.ntmps62
 go_wp2_with fail
 rw [← HW.out, ← HXe.out]
 clear HW
 refine wp_region_held_drew (S := fun w' => w'.cell? ⟨Kb, 1, none⟩ = some (ptr L.eb) ∧ (w'.cell? ⟨X, 0, none⟩ = some (.int .i64 e) ∧ w'.cell? ⟨X, 1, none⟩ = some (.int .i64 1) ∧ w'.cell? ⟨X, 2, none⟩ = some (.int .i64 a) ∧ w'.cell? ⟨X, 3, none⟩ = some (.int .i64 b) ∧ w'.cell? ⟨X, 4, none⟩ = some (.int .i64 d) ∧ w'.cell? ⟨X, 5, none⟩ = some (vv))) (by kernel_rfl) hS (fun hHeld => ?_)
 refine tkz [0, 1, 2, 3, 4, 5] ?_
 iterate 6
  refine tky (v := ?_) rfl (by kernel_rfl) (by kernel_rfl) (by kernel_rfl) (fun _ _ _ h => h) (Or.inl ⟨by kernel_rfl, ?_⟩) (by assumption) ?_
  rotate_left
  ·(intro w hSw; (try dsimp only at hSw); go_simp) <;> with_reducible rfl
  (try simp only [Act.put, lqa, lqb, lqc, lqd, lqe, lqf])
 refine tkw ?_
 refine wpAnyH_ready (rs := [6]) (by kernel_rfl) (by simp) ?_
 refine AllReadyH.cons rfl (fun K hK => ?_) AllReadyH.nil
 go_simp
 refine hI.mono ?_
 rintro x w2 ⟨rfl, hw⟩
 rw [hw]
 clear hw w2
 refine hK.out _ _ hS (fun hHeld => ?_)
 clear hK K
 (try simp only [Act.put, lqa, lqb, lqc, lqd, lqe, lqf])
 refine tkz [7] ?_
 iterate 1
  refine tky (v := ?_) rfl (by kernel_rfl) (by kernel_rfl) (by kernel_rfl) (fun _ _ _ h => h) (Or.inl ⟨by kernel_rfl, ?_⟩) (by assumption) ?_
  rotate_left
  ·(intro w hSw; (try dsimp only at hSw); go_simp) <;> with_reducible rfl
  (try simp only [Act.put, lqa, lqb, lqc, lqd, lqe, lqf])
 refine tkw ?_
 refine wpAnyH_done (by kernel_rfl) ?_ _
 clear hHeld hS hI
 go_wp2_with (go_at_call 25; refine (answer_nil _ _).mono ?_; rintro x w3 ⟨rfl, hw⟩; rw [hw]; clear hw w3)
 go_ret2
 exact ⟨_, _, _, rfl, URow.nil _ _, HE.out, XTch.of_below HB.out⟩
set_option maxHeartbeats 2000000 in
theorem grant_fr_yes (h : ExoAt w Kb L S) (e a b d : Int) (vv : Value) (hl : En.isB S.E b = true) :
  Calls Tryz.prog 62 #[ptr Kb, .agg #[.int .i64 e, .int .i64 1, .int .i64 a, .int .i64 b, .int .i64 d, vv], .func (.func 63) #[ptr L.ek] #[]] w fun x w' => Did Kb L False w ({ S with vs := S.vs, T := Ca.giveT S.T e a b d, F := S.F }) (ansW (Ca.giveR S.T e a b d) [Ca.giveA S.T e a b d]) (Ca.giveR S.T e a b d) x w' := by
 obtain ⟨W, hW⟩ : ∃ W, W = w.alloc (.cells #[.int .i64 e, .int .i64 1, .int .i64 a, .int .i64 b, .int .i64 d, vv] 85) := ⟨_, rfl⟩
 obtain ⟨X, hXe⟩ : ∃ X, X = w.heap.size := ⟨_, rfl⟩
 have hb : Below w.heap.size w W.drew := by rw [hW]; exact (Ca.below_alloc w _).drew
 have hX : W.drew.heap[X]? = some (.cells #[.int .i64 e, .int .i64 1, .int .i64 a, .int .i64 b, .int .i64 d, vv] 85) := by rw [hW, hXe]; exact heap_alloc_new w _
 have hE := h.below hb
 have hI := En.is_at L.eb L.eg S.E S.V b W.drew hE.env
 rw [hl] at hI
 have hC := Ex.kgrant_at hE.mem e a b d
 have hwA := u64_small (giveA_small S.T e a b d).1 (giveA_small S.T e a b d).2
 have hS : (fun w' => w'.cell? ⟨Kb, 1, none⟩ = some (ptr L.eb) ∧ (w'.cell? ⟨X, 0, none⟩ = some (.int .i64 e) ∧ w'.cell? ⟨X, 1, none⟩ = some (.int .i64 1) ∧ w'.cell? ⟨X, 2, none⟩ = some (.int .i64 a) ∧ w'.cell? ⟨X, 3, none⟩ = some (.int .i64 b) ∧ w'.cell? ⟨X, 4, none⟩ = some (.int .i64 d) ∧ w'.cell? ⟨X, 5, none⟩ = some (vv))) W.drew := ⟨hE.k1, six_cells hX⟩
 obtain ⟨x0, x1, x2, x3, x4, x5⟩ := six_cells hX
 have HE : Hid _ := hE
 have HX : Hid _ := hX
 have HB : Hid _ := hb
 have HW : Hid _ := hW
 have HXe : Hid _ := hXe
 clear h hb hX hE hW hXe hl
 go_enter Tryz.func62, Tryz.ntmps62
 go_wp2_with fail
 rw [← HW.out, ← HXe.out]
 clear HW
 refine wp_region_held_drew (S := fun w' => w'.cell? ⟨Kb, 1, none⟩ = some (ptr L.eb) ∧ (w'.cell? ⟨X, 0, none⟩ = some (.int .i64 e) ∧ w'.cell? ⟨X, 1, none⟩ = some (.int .i64 1) ∧ w'.cell? ⟨X, 2, none⟩ = some (.int .i64 a) ∧ w'.cell? ⟨X, 3, none⟩ = some (.int .i64 b) ∧ w'.cell? ⟨X, 4, none⟩ = some (.int .i64 d) ∧ w'.cell? ⟨X, 5, none⟩ = some (vv))) (by kernel_rfl) hS (fun hHeld => ?_)
 refine tkz [0, 1, 2, 3, 4, 5] ?_
 iterate 6
  refine tky (v := ?_) rfl (by kernel_rfl) (by kernel_rfl) (by kernel_rfl) (fun _ _ _ h => h) (Or.inl ⟨by kernel_rfl, ?_⟩) (by assumption) ?_
  rotate_left
  ·(intro w hSw; (try dsimp only at hSw); go_simp) <;> with_reducible rfl
  (try simp only [Act.put, lqa, lqb, lqc, lqd, lqe, lqf])
 refine tkw ?_
 refine wpAnyH_ready (rs := [6]) (by kernel_rfl) (by simp) ?_
 refine AllReadyH.cons rfl (fun K hK => ?_) AllReadyH.nil
 go_simp
 refine hI.mono ?_
 rintro x w2 ⟨rfl, hw⟩
 rw [hw]
 clear hw w2
 refine hK.out _ _ hS (fun hHeld => ?_)
 clear hK K
 (try simp only [Act.put, lqa, lqb, lqc, lqd, lqe, lqf])
 refine tkz [7] ?_
 iterate 1
  refine tky (v := ?_) rfl (by kernel_rfl) (by kernel_rfl) (by kernel_rfl) (fun _ _ _ h => h) (Or.inl ⟨by kernel_rfl, ?_⟩) (by assumption) ?_
  rotate_left
  ·(intro w hSw; (try dsimp only at hSw); go_simp) <;> with_reducible rfl
  (try simp only [Act.put, lqa, lqb, lqc, lqd, lqe, lqf])
 refine tkw ?_
 refine wpAnyH_done (by kernel_rfl) ?_ _
 clear hHeld hS hI
 generalize hAq : Ca.giveA S.T e a b d = A at *
 generalize hRq : Ca.giveR S.T e a b d = R at *
 have HAq : Hid _ := hAq
 have HRq : Hid _ := hRq
 clear hAq hRq
 go_wp2_with fail
 refine hC.mono ?_
 rintro x w2 ⟨rfl, hk2, hu2⟩
 have hE2 := HE.out.updM hk2 hu2
 have hT2 : XTch L False w w2 := (XTch.of_below HB.out).trans (XTch.of_foot hu2)
 have HE2 : Hid _ := hE2
 have HT2 : Hid _ := hT2
 clear hE2 hT2 hk2 hu2 hC x0 x1 x2 x3 x4 x5
 obtain ⟨V, hV⟩ : ∃ V, V = w2.alloc (.cells #[.int .u64 A] 42) := ⟨_, rfl⟩
 have hbV : Below w2.heap.size w2 V := by rw [hV]; exact Ca.below_alloc _ _
 have hcV : V.cell? ⟨w2.heap.size, 0, none⟩ = some (.int .u64 A) := by rw [hV, cell_of_heap (heap_alloc_new _ _)]; rfl
 have hA := answer_one R A V w2.heap.size hcV
 have HbV : Hid _ := hbV
 have HV : Hid _ := hV
 clear hbV hcV hV
 go_wp2_with fail
 rw [← HV.out]
 clear HV
 refine hA.mono ?_
 rintro x w3 ⟨v, rfl, hr3, hb3⟩
 have hr3' := hr3
 obtain ⟨a3, c3, rfl, _⟩ := hr3'
 have HR3 : Hid (URow _ _ _ _) := hr3
 have HB3 : Hid (Below w2.heap.size w2 w3) := HbV.out.trans (hb3.mono HbV.out.size)
 have HSz : Hid (w.heap.size ≤ V.heap.size) := Nat.le_trans HT2.out.size HbV.out.size
 clear hr3 hb3 hA
 generalize (ansW R [A]).length = N at *
 go_wp2
 go_ret2
 exact ⟨_, _, _, by rw [HRq.out]; rfl, by rw [HRq.out, HAq.out]; exact URow.mono HR3.out HSz.out, HE2.out.below HB3.out, HT2.out.trans (XTch.of_below HB3.out)⟩
theorem grant_ex_no (h : ExoAt w Kb L S) (e a b d : Int) (vv f : Value) (hl : En.isB S.E b = false) :
  Calls Tryz.prog 62 #[ptr Kb, .agg #[.int .i64 e, .int .i64 14, .int .i64 a, .int .i64 b, .int .i64 d, vv], f] w fun x w' => Did Kb L False w S [] 101 x w' := by
 obtain ⟨W, hW⟩ : ∃ W, W = w.alloc (.cells #[.int .i64 e, .int .i64 14, .int .i64 a, .int .i64 b, .int .i64 d, vv] 85) := ⟨_, rfl⟩
 obtain ⟨X, hXe⟩ : ∃ X, X = w.heap.size := ⟨_, rfl⟩
 have hb : Below w.heap.size w W.drew := by rw [hW]; exact (Ca.below_alloc w _).drew
 have hX : W.drew.heap[X]? = some (.cells #[.int .i64 e, .int .i64 14, .int .i64 a, .int .i64 b, .int .i64 d, vv] 85) := by rw [hW, hXe]; exact heap_alloc_new w _
 have hE := h.below hb
 have hI := En.is_at L.eb L.eg S.E S.V b W.drew hE.env
 rw [hl] at hI
 have hS : (fun w' => w'.cell? ⟨Kb, 1, none⟩ = some (ptr L.eb) ∧ (w'.cell? ⟨X, 0, none⟩ = some (.int .i64 e) ∧ w'.cell? ⟨X, 1, none⟩ = some (.int .i64 14) ∧ w'.cell? ⟨X, 2, none⟩ = some (.int .i64 a) ∧ w'.cell? ⟨X, 3, none⟩ = some (.int .i64 b) ∧ w'.cell? ⟨X, 4, none⟩ = some (.int .i64 d) ∧ w'.cell? ⟨X, 5, none⟩ = some (vv))) W.drew := ⟨hE.k1, six_cells hX⟩
 have HE : Hid _ := hE
 have HB : Hid _ := hb
 have HW : Hid _ := hW
 have HXe : Hid _ := hXe
 clear h hb hX hE hW hXe hl
 go_enter Tryz.func62, Tryz.ntmps62
 go_wp2_with fail
 rw [← HW.out, ← HXe.out]
 clear HW
 refine wp_region_held_drew (S := fun w' => w'.cell? ⟨Kb, 1, none⟩ = some (ptr L.eb) ∧ (w'.cell? ⟨X, 0, none⟩ = some (.int .i64 e) ∧ w'.cell? ⟨X, 1, none⟩ = some (.int .i64 14) ∧ w'.cell? ⟨X, 2, none⟩ = some (.int .i64 a) ∧ w'.cell? ⟨X, 3, none⟩ = some (.int .i64 b) ∧ w'.cell? ⟨X, 4, none⟩ = some (.int .i64 d) ∧ w'.cell? ⟨X, 5, none⟩ = some (vv))) (by kernel_rfl) hS (fun hHeld => ?_)
 refine tkz [0, 1, 2, 3, 4, 5] ?_
 iterate 6
  refine tky (v := ?_) rfl (by kernel_rfl) (by kernel_rfl) (by kernel_rfl) (fun _ _ _ h => h) (Or.inl ⟨by kernel_rfl, ?_⟩) (by assumption) ?_
  rotate_left
  ·(intro w hSw; (try dsimp only at hSw); go_simp) <;> with_reducible rfl
  (try simp only [Act.put, lqa, lqb, lqc, lqd, lqe, lqf])
 refine tkw ?_
 refine wpAnyH_ready (rs := [6]) (by kernel_rfl) (by simp) ?_
 refine AllReadyH.cons rfl (fun K hK => ?_) AllReadyH.nil
 go_simp
 refine hI.mono ?_
 rintro x w2 ⟨rfl, hw⟩
 rw [hw]
 clear hw w2
 refine hK.out _ _ hS (fun hHeld => ?_)
 clear hK K
 (try simp only [Act.put, lqa, lqb, lqc, lqd, lqe, lqf])
 refine tkz [7] ?_
 iterate 1
  refine tky (v := ?_) rfl (by kernel_rfl) (by kernel_rfl) (by kernel_rfl) (fun _ _ _ h => h) (Or.inl ⟨by kernel_rfl, ?_⟩) (by assumption) ?_
  rotate_left
  ·(intro w hSw; (try dsimp only at hSw); go_simp) <;> with_reducible rfl
  (try simp only [Act.put, lqa, lqb, lqc, lqd, lqe, lqf])
 refine tkw ?_
 refine wpAnyH_done (by kernel_rfl) ?_ _
 clear hHeld hS hI
 go_wp2_with (go_at_call 25; refine (answer_nil _ _).mono ?_; rintro x w3 ⟨rfl, hw⟩; rw [hw]; clear hw w3)
 go_ret2
 exact ⟨_, _, _, rfl, URow.nil _ _, HE.out, XTch.of_below HB.out⟩
set_option maxHeartbeats 2000000 in
theorem grant_ex_yes (h : ExoAt w Kb L S) (e a b d : Int) (vv : Value) (hl : En.isB S.E b = true) :
  Calls Tryz.prog 62 #[ptr Kb, .agg #[.int .i64 e, .int .i64 14, .int .i64 a, .int .i64 b, .int .i64 d, vv], .func (.func 76) #[ptr L.dk] #[]] w fun x w' => Did Kb L False w ({ S with m := S.m, ds := S.ds, l := S.l, C := Ca.giveT S.C e a b d }) (ansW (Ca.giveR S.C e a b d) [Ca.giveA S.C e a b d]) (Ca.giveR S.C e a b d) x w' := by
 obtain ⟨W, hW⟩ : ∃ W, W = w.alloc (.cells #[.int .i64 e, .int .i64 14, .int .i64 a, .int .i64 b, .int .i64 d, vv] 85) := ⟨_, rfl⟩
 obtain ⟨X, hXe⟩ : ∃ X, X = w.heap.size := ⟨_, rfl⟩
 have hb : Below w.heap.size w W.drew := by rw [hW]; exact (Ca.below_alloc w _).drew
 have hX : W.drew.heap[X]? = some (.cells #[.int .i64 e, .int .i64 14, .int .i64 a, .int .i64 b, .int .i64 d, vv] 85) := by rw [hW, hXe]; exact heap_alloc_new w _
 have hE := h.below hb
 have hI := En.is_at L.eb L.eg S.E S.V b W.drew hE.env
 rw [hl] at hI
 have hC := Xd.xgrant_at hE.disk e a b d
 have hwA := u64_small (giveA_small S.C e a b d).1 (giveA_small S.C e a b d).2
 have hS : (fun w' => w'.cell? ⟨Kb, 1, none⟩ = some (ptr L.eb) ∧ (w'.cell? ⟨X, 0, none⟩ = some (.int .i64 e) ∧ w'.cell? ⟨X, 1, none⟩ = some (.int .i64 14) ∧ w'.cell? ⟨X, 2, none⟩ = some (.int .i64 a) ∧ w'.cell? ⟨X, 3, none⟩ = some (.int .i64 b) ∧ w'.cell? ⟨X, 4, none⟩ = some (.int .i64 d) ∧ w'.cell? ⟨X, 5, none⟩ = some (vv))) W.drew := ⟨hE.k1, six_cells hX⟩
 obtain ⟨x0, x1, x2, x3, x4, x5⟩ := six_cells hX
 have HE : Hid _ := hE
 have HX : Hid _ := hX
 have HB : Hid _ := hb
 have HW : Hid _ := hW
 have HXe : Hid _ := hXe
 clear h hb hX hE hW hXe hl
 go_enter Tryz.func62, Tryz.ntmps62
 go_wp2_with fail
 rw [← HW.out, ← HXe.out]
 clear HW
 refine wp_region_held_drew (S := fun w' => w'.cell? ⟨Kb, 1, none⟩ = some (ptr L.eb) ∧ (w'.cell? ⟨X, 0, none⟩ = some (.int .i64 e) ∧ w'.cell? ⟨X, 1, none⟩ = some (.int .i64 14) ∧ w'.cell? ⟨X, 2, none⟩ = some (.int .i64 a) ∧ w'.cell? ⟨X, 3, none⟩ = some (.int .i64 b) ∧ w'.cell? ⟨X, 4, none⟩ = some (.int .i64 d) ∧ w'.cell? ⟨X, 5, none⟩ = some (vv))) (by kernel_rfl) hS (fun hHeld => ?_)
 refine tkz [0, 1, 2, 3, 4, 5] ?_
 iterate 6
  refine tky (v := ?_) rfl (by kernel_rfl) (by kernel_rfl) (by kernel_rfl) (fun _ _ _ h => h) (Or.inl ⟨by kernel_rfl, ?_⟩) (by assumption) ?_
  rotate_left
  ·(intro w hSw; (try dsimp only at hSw); go_simp) <;> with_reducible rfl
  (try simp only [Act.put, lqa, lqb, lqc, lqd, lqe, lqf])
 refine tkw ?_
 refine wpAnyH_ready (rs := [6]) (by kernel_rfl) (by simp) ?_
 refine AllReadyH.cons rfl (fun K hK => ?_) AllReadyH.nil
 go_simp
 refine hI.mono ?_
 rintro x w2 ⟨rfl, hw⟩
 rw [hw]
 clear hw w2
 refine hK.out _ _ hS (fun hHeld => ?_)
 clear hK K
 (try simp only [Act.put, lqa, lqb, lqc, lqd, lqe, lqf])
 refine tkz [7] ?_
 iterate 1
  refine tky (v := ?_) rfl (by kernel_rfl) (by kernel_rfl) (by kernel_rfl) (fun _ _ _ h => h) (Or.inl ⟨by kernel_rfl, ?_⟩) (by assumption) ?_
  rotate_left
  ·(intro w hSw; (try dsimp only at hSw); go_simp) <;> with_reducible rfl
  (try simp only [Act.put, lqa, lqb, lqc, lqd, lqe, lqf])
 refine tkw ?_
 refine wpAnyH_done (by kernel_rfl) ?_ _
 clear hHeld hS hI
 generalize hAq : Ca.giveA S.C e a b d = A at *
 generalize hRq : Ca.giveR S.C e a b d = R at *
 have HAq : Hid _ := hAq
 have HRq : Hid _ := hRq
 clear hAq hRq
 go_wp2_with fail
 refine hC.mono ?_
 rintro x w2 ⟨rfl, hk2, hu2⟩
 have hE2 := HE.out.updD hk2 hu2
 have hT2 : XTch L False w w2 := (XTch.of_below HB.out).trans (XTch.of_xfoot hu2)
 have HE2 : Hid _ := hE2
 have HT2 : Hid _ := hT2
 clear hE2 hT2 hk2 hu2 hC x0 x1 x2 x3 x4 x5
 obtain ⟨V, hV⟩ : ∃ V, V = w2.alloc (.cells #[.int .u64 A] 42) := ⟨_, rfl⟩
 have hbV : Below w2.heap.size w2 V := by rw [hV]; exact Ca.below_alloc _ _
 have hcV : V.cell? ⟨w2.heap.size, 0, none⟩ = some (.int .u64 A) := by rw [hV, cell_of_heap (heap_alloc_new _ _)]; rfl
 have hA := answer_one R A V w2.heap.size hcV
 have HbV : Hid _ := hbV
 have HV : Hid _ := hV
 clear hbV hcV hV
 go_wp2_with fail
 rw [← HV.out]
 clear HV
 refine hA.mono ?_
 rintro x w3 ⟨v, rfl, hr3, hb3⟩
 have hr3' := hr3
 obtain ⟨a3, c3, rfl, _⟩ := hr3'
 have HR3 : Hid (URow _ _ _ _) := hr3
 have HB3 : Hid (Below w2.heap.size w2 w3) := HbV.out.trans (hb3.mono HbV.out.size)
 have HSz : Hid (w.heap.size ≤ V.heap.size) := Nat.le_trans HT2.out.size HbV.out.size
 clear hr3 hb3 hA
 generalize (ansW R [A]).length = N at *
 go_wp2
 go_ret2
 exact ⟨_, _, _, by rw [HRq.out]; rfl, by rw [HRq.out, HAq.out]; exact URow.mono HR3.out HSz.out, HE2.out.below HB3.out, HT2.out.trans (XTch.of_below HB3.out)⟩
set_option maxHeartbeats 2000000 in
theorem raw_grant (h : ExoAt w Kb L S) (e a b d : Int) (vv : Value) (hl : En.isB S.E b = true) :
  Calls Tryz.prog 27 #[ptr Kb, .agg #[.int .i64 e, .int .i64 1, .int .i64 a, .int .i64 b, .int .i64 d, vv]] w fun x w' => Did Kb L False w ({ S with vs := S.vs, T := Ca.giveT S.T e a b d, F := S.F }) (ansW (Ca.giveR S.T e a b d) [Ca.giveA S.T e a b d]) (Ca.giveR S.T e a b d) x w' := by
 obtain ⟨W, hW⟩ : ∃ W, W = w.alloc (.cells #[.int .i64 e, .int .i64 1, .int .i64 a, .int .i64 b, .int .i64 d, vv] 85) := ⟨_, rfl⟩
 obtain ⟨X, hXe⟩ : ∃ X, X = w.heap.size := ⟨_, rfl⟩
 have hb : Below w.heap.size w W.drew := by rw [hW]; exact (Ca.below_alloc w _).drew
 have hX : W.drew.heap[X]? = some (.cells #[.int .i64 e, .int .i64 1, .int .i64 a, .int .i64 b, .int .i64 d, vv] 85) := by rw [hW, hXe]; exact heap_alloc_new w _
 have hE := h.below hb
 have hG := grant_fr_yes hE e a b d vv hl
 have hS : (fun w' => w'.cell? ⟨Kb, 0, none⟩ = some (ptr L.ek) ∧ (w'.cell? ⟨X, 0, none⟩ = some (.int .i64 e) ∧ w'.cell? ⟨X, 1, none⟩ = some (.int .i64 1) ∧ w'.cell? ⟨X, 2, none⟩ = some (.int .i64 a) ∧ w'.cell? ⟨X, 3, none⟩ = some (.int .i64 b) ∧ w'.cell? ⟨X, 4, none⟩ = some (.int .i64 d) ∧ w'.cell? ⟨X, 5, none⟩ = some (vv))) W.drew := ⟨hE.k0, six_cells hX⟩
 have hmf : ∀ (fn : Fn) (first cap : Array Value) (w : World), (Instr.makeFunc fn first cap).run Tryz.prog w = .ok (.func fn first cap) w := fun _ _ _ _ => rfl
 have HE : Hid _ := hE
 have HX : Hid _ := hX
 have HB : Hid _ := hb
 have HW : Hid _ := hW
 have HXe : Hid _ := hXe
 clear h hb hX hE hW hXe hl
 go_enter Tryz.func27, Tryz.ntmps27
 go_wp2_with fail
 rw [← HW.out, ← HXe.out]
 clear HW
 refine wp_region_held_drew (S := fun w' => w'.cell? ⟨Kb, 0, none⟩ = some (ptr L.ek) ∧ (w'.cell? ⟨X, 0, none⟩ = some (.int .i64 e) ∧ w'.cell? ⟨X, 1, none⟩ = some (.int .i64 1) ∧ w'.cell? ⟨X, 2, none⟩ = some (.int .i64 a) ∧ w'.cell? ⟨X, 3, none⟩ = some (.int .i64 b) ∧ w'.cell? ⟨X, 4, none⟩ = some (.int .i64 d) ∧ w'.cell? ⟨X, 5, none⟩ = some (vv))) (by kernel_rfl) hS (fun hHeld => ?_)
 refine tkz [0, 1, 2, 3, 4, 5, 6] ?_
 iterate 7
  refine tky (v := ?_) rfl (by kernel_rfl) (by kernel_rfl) (by kernel_rfl) (fun _ _ _ h => h) (Or.inl ⟨by kernel_rfl, ?_⟩) (by assumption) ?_
  rotate_left
  ·(intro w hSw; (try dsimp only at hSw); go_simp) <;> with_reducible rfl
  (try simp only [Act.put, lqa, lqb, lqc, lqd, lqe, lqf])
 refine tkw ?_
 refine wpAnyH_ready (rs := [7]) (by kernel_rfl) (by simp) ?_
 refine AllReadyH.cons rfl (fun K hK => ?_) AllReadyH.nil
 go_simp
 refine hG.mono ?_
 rintro x w2 ⟨a2, n2, c2, rfl, hr2, hE2, hT2⟩
 have hX2 : w2.heap[X]? = some (.cells #[.int .i64 e, .int .i64 1, .int .i64 a, .int .i64 b, .int .i64 d, vv] 85) := hT2.other HE.out HX.out (by decide)
 have hS2 : (fun w' => w'.cell? ⟨Kb, 0, none⟩ = some (ptr L.ek) ∧ (w'.cell? ⟨X, 0, none⟩ = some (.int .i64 e) ∧ w'.cell? ⟨X, 1, none⟩ = some (.int .i64 1) ∧ w'.cell? ⟨X, 2, none⟩ = some (.int .i64 a) ∧ w'.cell? ⟨X, 3, none⟩ = some (.int .i64 b) ∧ w'.cell? ⟨X, 4, none⟩ = some (.int .i64 d) ∧ w'.cell? ⟨X, 5, none⟩ = some (vv))) w2 := ⟨hE2.k0, six_cells hX2⟩
 have HR2 : Hid (URow _ _ _ _) := hr2
 have HE2 : Hid _ := hE2
 have HT2 : Hid (XTch L False w w2) := (XTch.of_below HB.out).trans hT2
 have HSz : Hid (w.heap.size ≤ W.drew.heap.size) := HB.out.size
 clear hr2 hE2 hT2 hX2 hG
 generalize hRq : Ca.giveR S.T e a b d = R at *
 have HRq : Hid _ := hRq
 clear hRq
 refine hK.out _ _ hS2 (fun hHeld => ?_)
 clear hK K
 (try simp only [Act.put, lqa, lqb, lqc, lqd, lqe, lqf])
 refine tkz [8, 9, 10, 11] ?_
 iterate 4
  refine tky (v := ?_) rfl (by kernel_rfl) (by kernel_rfl) (by kernel_rfl) (fun _ _ _ h => h) (Or.inl ⟨by kernel_rfl, ?_⟩) (by assumption) ?_
  rotate_left
  ·(intro w hSw; (try dsimp only at hSw); go_simp) <;> with_reducible rfl
  (try simp only [Act.put, lqa, lqb, lqc, lqd, lqe, lqf])
 refine tkw ?_
 refine wpAnyH_done (by kernel_rfl) ?_ _
 clear hHeld
 go_wp2
 go_ret2
 exact ⟨_, _, _, by rw [HRq.out]; rfl, by rw [HRq.out]; exact URow.mono HR2.out HSz.out, HE2.out, HT2.out⟩
set_option maxHeartbeats 2000000 in
theorem raw_grant_no (h : ExoAt w Kb L S) (e a b d : Int) (vv : Value) (hl : En.isB S.E b = false) :
  Calls Tryz.prog 27 #[ptr Kb, .agg #[.int .i64 e, .int .i64 1, .int .i64 a, .int .i64 b, .int .i64 d, vv]] w fun x w' => Did Kb L False w (S) ([]) (101) x w' := by
 obtain ⟨W, hW⟩ : ∃ W, W = w.alloc (.cells #[.int .i64 e, .int .i64 1, .int .i64 a, .int .i64 b, .int .i64 d, vv] 85) := ⟨_, rfl⟩
 obtain ⟨X, hXe⟩ : ∃ X, X = w.heap.size := ⟨_, rfl⟩
 have hb : Below w.heap.size w W.drew := by rw [hW]; exact (Ca.below_alloc w _).drew
 have hX : W.drew.heap[X]? = some (.cells #[.int .i64 e, .int .i64 1, .int .i64 a, .int .i64 b, .int .i64 d, vv] 85) := by rw [hW, hXe]; exact heap_alloc_new w _
 have hE := h.below hb
 have hG := grant_fr_no hE e a b d vv (.func (.func 63) #[ptr L.ek] #[]) hl
 have hS : (fun w' => w'.cell? ⟨Kb, 0, none⟩ = some (ptr L.ek) ∧ (w'.cell? ⟨X, 0, none⟩ = some (.int .i64 e) ∧ w'.cell? ⟨X, 1, none⟩ = some (.int .i64 1) ∧ w'.cell? ⟨X, 2, none⟩ = some (.int .i64 a) ∧ w'.cell? ⟨X, 3, none⟩ = some (.int .i64 b) ∧ w'.cell? ⟨X, 4, none⟩ = some (.int .i64 d) ∧ w'.cell? ⟨X, 5, none⟩ = some (vv))) W.drew := ⟨hE.k0, six_cells hX⟩
 have hmf : ∀ (fn : Fn) (first cap : Array Value) (w : World), (Instr.makeFunc fn first cap).run Tryz.prog w = .ok (.func fn first cap) w := fun _ _ _ _ => rfl
 have HE : Hid _ := hE
 have HX : Hid _ := hX
 have HB : Hid _ := hb
 have HW : Hid _ := hW
 have HXe : Hid _ := hXe
 clear h hb hX hE hW hXe hl
 go_enter Tryz.func27, Tryz.ntmps27
 go_wp2_with fail
 rw [← HW.out, ← HXe.out]
 clear HW
 refine wp_region_held_drew (S := fun w' => w'.cell? ⟨Kb, 0, none⟩ = some (ptr L.ek) ∧ (w'.cell? ⟨X, 0, none⟩ = some (.int .i64 e) ∧ w'.cell? ⟨X, 1, none⟩ = some (.int .i64 1) ∧ w'.cell? ⟨X, 2, none⟩ = some (.int .i64 a) ∧ w'.cell? ⟨X, 3, none⟩ = some (.int .i64 b) ∧ w'.cell? ⟨X, 4, none⟩ = some (.int .i64 d) ∧ w'.cell? ⟨X, 5, none⟩ = some (vv))) (by kernel_rfl) hS (fun hHeld => ?_)
 refine tkz [0, 1, 2, 3, 4, 5, 6] ?_
 iterate 7
  refine tky (v := ?_) rfl (by kernel_rfl) (by kernel_rfl) (by kernel_rfl) (fun _ _ _ h => h) (Or.inl ⟨by kernel_rfl, ?_⟩) (by assumption) ?_
  rotate_left
  ·(intro w hSw; (try dsimp only at hSw); go_simp) <;> with_reducible rfl
  (try simp only [Act.put, lqa, lqb, lqc, lqd, lqe, lqf])
 refine tkw ?_
 refine wpAnyH_ready (rs := [7]) (by kernel_rfl) (by simp) ?_
 refine AllReadyH.cons rfl (fun K hK => ?_) AllReadyH.nil
 go_simp
 refine hG.mono ?_
 rintro x w2 ⟨a2, n2, c2, rfl, hr2, hE2, hT2⟩
 have hX2 : w2.heap[X]? = some (.cells #[.int .i64 e, .int .i64 1, .int .i64 a, .int .i64 b, .int .i64 d, vv] 85) := hT2.other HE.out HX.out (by decide)
 have hS2 : (fun w' => w'.cell? ⟨Kb, 0, none⟩ = some (ptr L.ek) ∧ (w'.cell? ⟨X, 0, none⟩ = some (.int .i64 e) ∧ w'.cell? ⟨X, 1, none⟩ = some (.int .i64 1) ∧ w'.cell? ⟨X, 2, none⟩ = some (.int .i64 a) ∧ w'.cell? ⟨X, 3, none⟩ = some (.int .i64 b) ∧ w'.cell? ⟨X, 4, none⟩ = some (.int .i64 d) ∧ w'.cell? ⟨X, 5, none⟩ = some (vv))) w2 := ⟨hE2.k0, six_cells hX2⟩
 have HR2 : Hid (URow _ _ _ _) := hr2
 have HE2 : Hid _ := hE2
 have HT2 : Hid (XTch L False w w2) := (XTch.of_below HB.out).trans hT2
 have HSz : Hid (w.heap.size ≤ W.drew.heap.size) := HB.out.size
 clear hr2 hE2 hT2 hX2 hG
 refine hK.out _ _ hS2 (fun hHeld => ?_)
 clear hK K
 (try simp only [Act.put, lqa, lqb, lqc, lqd, lqe, lqf])
 refine tkz [8, 9, 10, 11] ?_
 iterate 4
  refine tky (v := ?_) rfl (by kernel_rfl) (by kernel_rfl) (by kernel_rfl) (fun _ _ _ h => h) (Or.inl ⟨by kernel_rfl, ?_⟩) (by assumption) ?_
  rotate_left
  ·(intro w hSw; (try dsimp only at hSw); go_simp) <;> with_reducible rfl
  (try simp only [Act.put, lqa, lqb, lqc, lqd, lqe, lqf])
 refine tkw ?_
 refine wpAnyH_done (by kernel_rfl) ?_ _
 clear hHeld
 go_wp2
 go_ret2
 exact ⟨_, _, _, rfl, URow.mono HR2.out HSz.out, HE2.out, HT2.out⟩
set_option maxHeartbeats 2000000 in
theorem raw_xgrant (h : ExoAt w Kb L S) (e a b d : Int) (vv : Value) (hl : En.isB S.E b = true) :
  Calls Tryz.prog 30 #[ptr Kb, .agg #[.int .i64 e, .int .i64 14, .int .i64 a, .int .i64 b, .int .i64 d, vv]] w fun x w' => Did Kb L False w ({ S with m := S.m, ds := S.ds, l := S.l, C := Ca.giveT S.C e a b d }) (ansW (Ca.giveR S.C e a b d) [Ca.giveA S.C e a b d]) (Ca.giveR S.C e a b d) x w' := by
 obtain ⟨W, hW⟩ : ∃ W, W = w.alloc (.cells #[.int .i64 e, .int .i64 14, .int .i64 a, .int .i64 b, .int .i64 d, vv] 85) := ⟨_, rfl⟩
 obtain ⟨X, hXe⟩ : ∃ X, X = w.heap.size := ⟨_, rfl⟩
 have hb : Below w.heap.size w W.drew := by rw [hW]; exact (Ca.below_alloc w _).drew
 have hX : W.drew.heap[X]? = some (.cells #[.int .i64 e, .int .i64 14, .int .i64 a, .int .i64 b, .int .i64 d, vv] 85) := by rw [hW, hXe]; exact heap_alloc_new w _
 have hE := h.below hb
 have hG := grant_ex_yes hE e a b d vv hl
 have hS : (fun w' => w'.cell? ⟨Kb, 3, none⟩ = some (ptr L.dk) ∧ (w'.cell? ⟨X, 0, none⟩ = some (.int .i64 e) ∧ w'.cell? ⟨X, 1, none⟩ = some (.int .i64 14) ∧ w'.cell? ⟨X, 2, none⟩ = some (.int .i64 a) ∧ w'.cell? ⟨X, 3, none⟩ = some (.int .i64 b) ∧ w'.cell? ⟨X, 4, none⟩ = some (.int .i64 d) ∧ w'.cell? ⟨X, 5, none⟩ = some (vv))) W.drew := ⟨hE.k3, six_cells hX⟩
 have hmf : ∀ (fn : Fn) (first cap : Array Value) (w : World), (Instr.makeFunc fn first cap).run Tryz.prog w = .ok (.func fn first cap) w := fun _ _ _ _ => rfl
 have HE : Hid _ := hE
 have HX : Hid _ := hX
 have HB : Hid _ := hb
 have HW : Hid _ := hW
 have HXe : Hid _ := hXe
 clear h hb hX hE hW hXe hl
 go_enter Tryz.func30, Tryz.ntmps30
 go_wp2_with fail
 rw [← HW.out, ← HXe.out]
 clear HW
 refine wp_region_held_drew (S := fun w' => w'.cell? ⟨Kb, 3, none⟩ = some (ptr L.dk) ∧ (w'.cell? ⟨X, 0, none⟩ = some (.int .i64 e) ∧ w'.cell? ⟨X, 1, none⟩ = some (.int .i64 14) ∧ w'.cell? ⟨X, 2, none⟩ = some (.int .i64 a) ∧ w'.cell? ⟨X, 3, none⟩ = some (.int .i64 b) ∧ w'.cell? ⟨X, 4, none⟩ = some (.int .i64 d) ∧ w'.cell? ⟨X, 5, none⟩ = some (vv))) (by kernel_rfl) hS (fun hHeld => ?_)
 refine tkz [0, 1, 2, 3, 4, 5, 6] ?_
 iterate 7
  refine tky (v := ?_) rfl (by kernel_rfl) (by kernel_rfl) (by kernel_rfl) (fun _ _ _ h => h) (Or.inl ⟨by kernel_rfl, ?_⟩) (by assumption) ?_
  rotate_left
  ·(intro w hSw; (try dsimp only at hSw); go_simp) <;> with_reducible rfl
  (try simp only [Act.put, lqa, lqb, lqc, lqd, lqe, lqf])
 refine tkw ?_
 refine wpAnyH_ready (rs := [7]) (by kernel_rfl) (by simp) ?_
 refine AllReadyH.cons rfl (fun K hK => ?_) AllReadyH.nil
 go_simp
 refine hG.mono ?_
 rintro x w2 ⟨a2, n2, c2, rfl, hr2, hE2, hT2⟩
 have hX2 : w2.heap[X]? = some (.cells #[.int .i64 e, .int .i64 14, .int .i64 a, .int .i64 b, .int .i64 d, vv] 85) := hT2.other HE.out HX.out (by decide)
 have hS2 : (fun w' => w'.cell? ⟨Kb, 3, none⟩ = some (ptr L.dk) ∧ (w'.cell? ⟨X, 0, none⟩ = some (.int .i64 e) ∧ w'.cell? ⟨X, 1, none⟩ = some (.int .i64 14) ∧ w'.cell? ⟨X, 2, none⟩ = some (.int .i64 a) ∧ w'.cell? ⟨X, 3, none⟩ = some (.int .i64 b) ∧ w'.cell? ⟨X, 4, none⟩ = some (.int .i64 d) ∧ w'.cell? ⟨X, 5, none⟩ = some (vv))) w2 := ⟨hE2.k3, six_cells hX2⟩
 have HR2 : Hid (URow _ _ _ _) := hr2
 have HE2 : Hid _ := hE2
 have HT2 : Hid (XTch L False w w2) := (XTch.of_below HB.out).trans hT2
 have HSz : Hid (w.heap.size ≤ W.drew.heap.size) := HB.out.size
 clear hr2 hE2 hT2 hX2 hG
 generalize hRq : Ca.giveR S.C e a b d = R at *
 have HRq : Hid _ := hRq
 clear hRq
 refine hK.out _ _ hS2 (fun hHeld => ?_)
 clear hK K
 (try simp only [Act.put, lqa, lqb, lqc, lqd, lqe, lqf])
 refine tkz [8, 9, 10, 11] ?_
 iterate 4
  refine tky (v := ?_) rfl (by kernel_rfl) (by kernel_rfl) (by kernel_rfl) (fun _ _ _ h => h) (Or.inl ⟨by kernel_rfl, ?_⟩) (by assumption) ?_
  rotate_left
  ·(intro w hSw; (try dsimp only at hSw); go_simp) <;> with_reducible rfl
  (try simp only [Act.put, lqa, lqb, lqc, lqd, lqe, lqf])
 refine tkw ?_
 refine wpAnyH_done (by kernel_rfl) ?_ _
 clear hHeld
 go_wp2
 go_ret2
 exact ⟨_, _, _, by rw [HRq.out]; rfl, by rw [HRq.out]; exact URow.mono HR2.out HSz.out, HE2.out, HT2.out⟩
set_option maxHeartbeats 2000000 in
theorem raw_xgrant_no (h : ExoAt w Kb L S) (e a b d : Int) (vv : Value) (hl : En.isB S.E b = false) :
  Calls Tryz.prog 30 #[ptr Kb, .agg #[.int .i64 e, .int .i64 14, .int .i64 a, .int .i64 b, .int .i64 d, vv]] w fun x w' => Did Kb L False w (S) ([]) (101) x w' := by
 obtain ⟨W, hW⟩ : ∃ W, W = w.alloc (.cells #[.int .i64 e, .int .i64 14, .int .i64 a, .int .i64 b, .int .i64 d, vv] 85) := ⟨_, rfl⟩
 obtain ⟨X, hXe⟩ : ∃ X, X = w.heap.size := ⟨_, rfl⟩
 have hb : Below w.heap.size w W.drew := by rw [hW]; exact (Ca.below_alloc w _).drew
 have hX : W.drew.heap[X]? = some (.cells #[.int .i64 e, .int .i64 14, .int .i64 a, .int .i64 b, .int .i64 d, vv] 85) := by rw [hW, hXe]; exact heap_alloc_new w _
 have hE := h.below hb
 have hG := grant_ex_no hE e a b d vv (.func (.func 76) #[ptr L.dk] #[]) hl
 have hS : (fun w' => w'.cell? ⟨Kb, 3, none⟩ = some (ptr L.dk) ∧ (w'.cell? ⟨X, 0, none⟩ = some (.int .i64 e) ∧ w'.cell? ⟨X, 1, none⟩ = some (.int .i64 14) ∧ w'.cell? ⟨X, 2, none⟩ = some (.int .i64 a) ∧ w'.cell? ⟨X, 3, none⟩ = some (.int .i64 b) ∧ w'.cell? ⟨X, 4, none⟩ = some (.int .i64 d) ∧ w'.cell? ⟨X, 5, none⟩ = some (vv))) W.drew := ⟨hE.k3, six_cells hX⟩
 have hmf : ∀ (fn : Fn) (first cap : Array Value) (w : World), (Instr.makeFunc fn first cap).run Tryz.prog w = .ok (.func fn first cap) w := fun _ _ _ _ => rfl
 have HE : Hid _ := hE
 have HX : Hid _ := hX
 have HB : Hid _ := hb
 have HW : Hid _ := hW
 have HXe : Hid _ := hXe
 clear h hb hX hE hW hXe hl
 go_enter Tryz.func30, Tryz.ntmps30
 go_wp2_with fail
 rw [← HW.out, ← HXe.out]
 clear HW
 refine wp_region_held_drew (S := fun w' => w'.cell? ⟨Kb, 3, none⟩ = some (ptr L.dk) ∧ (w'.cell? ⟨X, 0, none⟩ = some (.int .i64 e) ∧ w'.cell? ⟨X, 1, none⟩ = some (.int .i64 14) ∧ w'.cell? ⟨X, 2, none⟩ = some (.int .i64 a) ∧ w'.cell? ⟨X, 3, none⟩ = some (.int .i64 b) ∧ w'.cell? ⟨X, 4, none⟩ = some (.int .i64 d) ∧ w'.cell? ⟨X, 5, none⟩ = some (vv))) (by kernel_rfl) hS (fun hHeld => ?_)
 refine tkz [0, 1, 2, 3, 4, 5, 6] ?_
 iterate 7
  refine tky (v := ?_) rfl (by kernel_rfl) (by kernel_rfl) (by kernel_rfl) (fun _ _ _ h => h) (Or.inl ⟨by kernel_rfl, ?_⟩) (by assumption) ?_
  rotate_left
  ·(intro w hSw; (try dsimp only at hSw); go_simp) <;> with_reducible rfl
  (try simp only [Act.put, lqa, lqb, lqc, lqd, lqe, lqf])
 refine tkw ?_
 refine wpAnyH_ready (rs := [7]) (by kernel_rfl) (by simp) ?_
 refine AllReadyH.cons rfl (fun K hK => ?_) AllReadyH.nil
 go_simp
 refine hG.mono ?_
 rintro x w2 ⟨a2, n2, c2, rfl, hr2, hE2, hT2⟩
 have hX2 : w2.heap[X]? = some (.cells #[.int .i64 e, .int .i64 14, .int .i64 a, .int .i64 b, .int .i64 d, vv] 85) := hT2.other HE.out HX.out (by decide)
 have hS2 : (fun w' => w'.cell? ⟨Kb, 3, none⟩ = some (ptr L.dk) ∧ (w'.cell? ⟨X, 0, none⟩ = some (.int .i64 e) ∧ w'.cell? ⟨X, 1, none⟩ = some (.int .i64 14) ∧ w'.cell? ⟨X, 2, none⟩ = some (.int .i64 a) ∧ w'.cell? ⟨X, 3, none⟩ = some (.int .i64 b) ∧ w'.cell? ⟨X, 4, none⟩ = some (.int .i64 d) ∧ w'.cell? ⟨X, 5, none⟩ = some (vv))) w2 := ⟨hE2.k3, six_cells hX2⟩
 have HR2 : Hid (URow _ _ _ _) := hr2
 have HE2 : Hid _ := hE2
 have HT2 : Hid (XTch L False w w2) := (XTch.of_below HB.out).trans hT2
 have HSz : Hid (w.heap.size ≤ W.drew.heap.size) := HB.out.size
 clear hr2 hE2 hT2 hX2 hG
 refine hK.out _ _ hS2 (fun hHeld => ?_)
 clear hK K
 (try simp only [Act.put, lqa, lqb, lqc, lqd, lqe, lqf])
 refine tkz [8, 9, 10, 11] ?_
 iterate 4
  refine tky (v := ?_) rfl (by kernel_rfl) (by kernel_rfl) (by kernel_rfl) (fun _ _ _ h => h) (Or.inl ⟨by kernel_rfl, ?_⟩) (by assumption) ?_
  rotate_left
  ·(intro w hSw; (try dsimp only at hSw); go_simp) <;> with_reducible rfl
  (try simp only [Act.put, lqa, lqb, lqc, lqd, lqe, lqf])
 refine tkw ?_
 refine wpAnyH_done (by kernel_rfl) ?_ _
 clear hHeld
 go_wp2
 go_ret2
 exact ⟨_, _, _, rfl, URow.mono HR2.out HSz.out, HE2.out, HT2.out⟩
end
end Go.Proofs.YtbhpafgoofkkmaaGreatDoor
