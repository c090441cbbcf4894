import Derived.Test.YtbhpafgoofkkmaaGreatDoorXoC
set_option linter.all false
namespace Go.Proofs.YtbhpafgoofkkmaaGreatDoor
open Go.RowKit
def Did (Kb : Nat) (L : XL) (i : Prop) (w : World) (S' : XS) (ans : List Int) (err : Int) (x : Ending) (w' : World) : Prop :=
 ∃ a n c, x = .returned (.tuple #[.slice a n c, .int .i64 err]) ∧ URow w.heap.size w' (.slice a n c) ans ∧ ExoAt w' Kb L S' ∧ XTch L i w w'
theorem putA_small (T : Ca.Tab) (m : Nat) : 0 ≤ Ca.putA T m ∧ Ca.putA T m < 9223372036854775808 := by
 unfold Ca.putA
 split <;> omega
theorem allocA_small (T : Ca.Tab) (n : Nat) (e : Int) : 0 ≤ Ex.allocA T n e ∧ Ex.allocA T n e < 9223372036854775808 := by
 unfold Ex.allocA
 split
 ·split
  ·omega
  ·exact putA_small _ _
 ·omega
theorem giveA_small (T : Ca.Tab) (e s q r : Int) : 0 ≤ Ca.giveA T e s q r ∧ Ca.giveA T e s q r < 9223372036854775808 := by
 unfold Ca.giveA
 split
 ·split
  ·exact putA_small _ _
  ·omega
 ·omega
theorem xallocA_small (T : Ca.Tab) (n : Nat) (e f k : Int) : 0 ≤ Xd.xallocA T n e f k ∧ Xd.xallocA T n e f k < 9223372036854775808 := by
 unfold Xd.xallocA
 split
 ·split
  ·omega
  ·unfold Ca.addA
   split
   ·exact putA_small _ _
   ·omega
 ·omega
section
variable {w : World} {Kb : Nat} {L : XL} {S : XS}
set_option maxHeartbeats 2000000 in
theorem raw_alloc (h : ExoAt w Kb L S) (e a b d : Int) (vv : Value) :
  Calls Tryz.prog 27 #[ptr Kb, .agg #[.int .i64 e, .int .i64 0, .int .i64 a, .int .i64 b, .int .i64 d, vv]] w fun x w' => Did Kb L False w ({ S with vs := Ex.allocV S.T S.n e S.vs, T := Ex.allocT S.T S.n e, F := S.F }) (ansW (Ex.allocR S.T S.n e) [Ex.allocA S.T S.n e]) (Ex.allocR S.T S.n e) x w' := by
 obtain ⟨W, hW⟩ : ∃ W, W = w.alloc (.cells #[.int .i64 e, .int .i64 0, .int .i64 a, .int .i64 b, .int .i64 d, vv] 85) := ⟨_, rfl⟩
 obtain ⟨X, hXe⟩ : ∃ X, X = w.heap.size := ⟨_, rfl⟩
 have hb : Below w.heap.size w W.drew := by rw [hW]; exact (Ca.below_alloc w _).drew
 have hX : W.drew.heap[X]? = some (.cells #[.int .i64 e, .int .i64 0, .int .i64 a, .int .i64 b, .int .i64 d, vv] 85) := by rw [hW, hXe]; exact heap_alloc_new w _
 have hE := h.below hb
 have hC := Ex.kalloc_at hE.mem e
 have hS : (fun w' => w'.cell? ⟨Kb, 0, none⟩ = some (ptr L.ek) ∧ (w'.cell? ⟨X, 0, none⟩ = some (.int .i64 e) ∧ w'.cell? ⟨X, 1, none⟩ = some (.int .i64 0) ∧ w'.cell? ⟨X, 2, none⟩ = some (.int .i64 a) ∧ w'.cell? ⟨X, 3, none⟩ = some (.int .i64 b) ∧ w'.cell? ⟨X, 4, none⟩ = some (.int .i64 d) ∧ w'.cell? ⟨X, 5, none⟩ = some (vv))) W.drew := ⟨hE.k0, six_cells hX⟩
 have HE : Hid _ := hE
 have HX : Hid _ := hX
 have HB : Hid _ := hb
 have HW : Hid _ := hW
 have HXe : Hid _ := hXe
 have hwA := u64_small (allocA_small S.T S.n e).1 (allocA_small S.T S.n e).2
 clear h hb hX hE hW hXe
 go_enter Tryz.func27, Tryz.ntmps27
 go_wp2_with fail
 rw [← HW.out, ← HXe.out]
 clear HW
 refine wp_region_held_drew (S := fun w' => w'.cell? ⟨Kb, 0, none⟩ = some (ptr L.ek) ∧ (w'.cell? ⟨X, 0, none⟩ = some (.int .i64 e) ∧ w'.cell? ⟨X, 1, none⟩ = some (.int .i64 0) ∧ w'.cell? ⟨X, 2, none⟩ = some (.int .i64 a) ∧ w'.cell? ⟨X, 3, none⟩ = some (.int .i64 b) ∧ w'.cell? ⟨X, 4, none⟩ = some (.int .i64 d) ∧ w'.cell? ⟨X, 5, none⟩ = some (vv))) (by kernel_rfl) hS (fun hHeld => ?_)
 refine tkz [0, 1, 2, 3, 4, 5] ?_
 iterate 6
  refine tky (v := ?_) rfl (by kernel_rfl) (by kernel_rfl) (by kernel_rfl) (fun _ _ _ h => h) (Or.inl ⟨by kernel_rfl, ?_⟩) (by assumption) ?_
  rotate_left
  ·(intro w hSw; (try dsimp only at hSw); go_simp) <;> with_reducible rfl
  (try simp only [Act.put, lqa, lqb, lqc, lqd, lqe, lqf])
 refine tkw ?_
 refine wpAnyH_ready (rs := [6]) (by kernel_rfl) (by simp) ?_
 refine AllReadyH.cons rfl (fun K hK => ?_) AllReadyH.nil
 go_simp
 refine hC.mono ?_
 rintro x w2 ⟨rfl, hk2, hu2⟩
 have hX2 : w2.heap[X]? = some (.cells #[.int .i64 e, .int .i64 0, .int .i64 a, .int .i64 b, .int .i64 d, vv] 85) := (hu2.block _ (lt_of_heap HX.out) (not_foot HE.out.mem HX.out (by decide) (by decide))).trans HX.out
 have hE2 := HE.out.updM hk2 hu2
 have hT2 : XTch L False w w2 := (XTch.of_below HB.out).trans (XTch.of_foot hu2)
 have hS2 : (fun w' => w'.cell? ⟨Kb, 0, none⟩ = some (ptr L.ek) ∧ (w'.cell? ⟨X, 0, none⟩ = some (.int .i64 e) ∧ w'.cell? ⟨X, 1, none⟩ = some (.int .i64 0) ∧ w'.cell? ⟨X, 2, none⟩ = some (.int .i64 a) ∧ w'.cell? ⟨X, 3, none⟩ = some (.int .i64 b) ∧ w'.cell? ⟨X, 4, none⟩ = some (.int .i64 d) ∧ w'.cell? ⟨X, 5, none⟩ = some (vv))) w2 := ⟨hE2.k0, six_cells hX2⟩
 have HE2 : Hid _ := hE2
 have HT2 : Hid _ := hT2
 clear hX2 hE2 hT2 hk2 hu2 hC
 generalize hAq : Ex.allocA S.T S.n e = A at *
 generalize hRq : Ex.allocR S.T S.n e = R at *
 have HAq : Hid _ := hAq
 have HRq : Hid _ := hRq
 clear hAq hRq
 refine hK.out _ _ hS2 (fun hHeld => ?_)
 clear hK K
 (try simp only [Act.put, lqa, lqb, lqc, lqd, lqe, lqf])
 refine tkz [7, 8, 9, 10, 11] ?_
 iterate 5
  refine tky (v := ?_) rfl (by kernel_rfl) (by kernel_rfl) (by kernel_rfl) (fun _ _ _ h => h) (Or.inl ⟨by kernel_rfl, ?_⟩) (by assumption) ?_
  rotate_left
  ·(intro w hSw; (try dsimp only at hSw); go_simp) <;> with_reducible rfl
  (try simp only [Act.put, lqa, lqb, lqc, lqd, lqe, lqf])
 refine tkw ?_
 refine wpAnyH_done (by kernel_rfl) ?_ _
 clear hHeld hS hS2
 obtain ⟨V, hV⟩ : ∃ V, V = w2.alloc (.cells #[.int .u64 A] 42) := ⟨_, rfl⟩
 have hbV : Below w2.heap.size w2 V := by rw [hV]; exact Ca.below_alloc _ _
 have hcV : V.cell? ⟨w2.heap.size, 0, none⟩ = some (.int .u64 A) := by rw [hV, cell_of_heap (heap_alloc_new _ _)]; rfl
 have hA := answer_one R A V w2.heap.size hcV
 have HbV : Hid _ := hbV
 have HV : Hid _ := hV
 clear hbV hcV hV
 go_wp2_with fail
 rw [← HV.out]
 clear HV
 refine hA.mono ?_
 rintro x w3 ⟨v, rfl, hr3, hb3⟩
 have hr3' := hr3
 obtain ⟨a3, c3, rfl, _⟩ := hr3'
 have HR3 : Hid (URow _ _ _ _) := hr3
 have HB3 : Hid (Below w2.heap.size w2 w3) := HbV.out.trans (hb3.mono HbV.out.size)
 have HSz : Hid (w.heap.size ≤ V.heap.size) := Nat.le_trans HT2.out.size HbV.out.size
 clear hr3 hb3 hA
 generalize (ansW R [A]).length = N at *
 go_wp2
 go_ret2
 exact ⟨_, _, _, by rw [HRq.out]; rfl, by rw [HRq.out, HAq.out]; exact URow.mono HR3.out HSz.out, HE2.out.below HB3.out, HT2.out.trans (XTch.of_below HB3.out)⟩
set_option maxHeartbeats 2000000 in
theorem raw_free (h : ExoAt w Kb L S) (e a b d : Int) (vv : Value) :
  Calls Tryz.prog 27 #[ptr Kb, .agg #[.int .i64 e, .int .i64 2, .int .i64 a, .int .i64 b, .int .i64 d, vv]] w fun x w' => Did Kb L False w ({ S with vs := S.vs, T := Ca.dropT S.T e a, F := Ex.tidyF (Ca.dropT S.T e a) S.F }) [] (Ca.dropR S.T e a) x w' := by
 obtain ⟨W, hW⟩ : ∃ W, W = w.alloc (.cells #[.int .i64 e, .int .i64 2, .int .i64 a, .int .i64 b, .int .i64 d, vv] 85) := ⟨_, rfl⟩
 obtain ⟨X, hXe⟩ : ∃ X, X = w.heap.size := ⟨_, rfl⟩
 have hb : Below w.heap.size w W.drew := by rw [hW]; exact (Ca.below_alloc w _).drew
 have hX : W.drew.heap[X]? = some (.cells #[.int .i64 e, .int .i64 2, .int .i64 a, .int .i64 b, .int .i64 d, vv] 85) := by rw [hW, hXe]; exact heap_alloc_new w _
 have hE := h.below hb
 have hC := Ex.kfree_at hE.mem e a
 have hS : (fun w' => w'.cell? ⟨Kb, 0, none⟩ = some (ptr L.ek) ∧ (w'.cell? ⟨X, 0, none⟩ = some (.int .i64 e) ∧ w'.cell? ⟨X, 1, none⟩ = some (.int .i64 2) ∧ w'.cell? ⟨X, 2, none⟩ = some (.int .i64 a) ∧ w'.cell? ⟨X, 3, none⟩ = some (.int .i64 b) ∧ w'.cell? ⟨X, 4, none⟩ = some (.int .i64 d) ∧ w'.cell? ⟨X, 5, none⟩ = some (vv))) W.drew := ⟨hE.k0, six_cells hX⟩
 have HE : Hid _ := hE
 have HX : Hid _ := hX
 have HB : Hid _ := hb
 have HW : Hid _ := hW
 have HXe : Hid _ := hXe
 clear h hb hX hE hW hXe
 go_enter Tryz.func27, Tryz.ntmps27
 go_wp2_with fail
 rw [← HW.out, ← HXe.out]
 clear HW
 refine wp_region_held_drew (S := fun w' => w'.cell? ⟨Kb, 0, none⟩ = some (ptr L.ek) ∧ (w'.cell? ⟨X, 0, none⟩ = some (.int .i64 e) ∧ w'.cell? ⟨X, 1, none⟩ = some (.int .i64 2) ∧ w'.cell? ⟨X, 2, none⟩ = some (.int .i64 a) ∧ w'.cell? ⟨X, 3, none⟩ = some (.int .i64 b) ∧ w'.cell? ⟨X, 4, none⟩ = some (.int .i64 d) ∧ w'.cell? ⟨X, 5, none⟩ = some (vv))) (by kernel_rfl) hS (fun hHeld => ?_)
 refine tkz [0, 1, 2, 3, 4, 5, 6, 7] ?_
 iterate 8
  refine tky (v := ?_) rfl (by kernel_rfl) (by kernel_rfl) (by kernel_rfl) (fun _ _ _ h => h) (Or.inl ⟨by kernel_rfl, ?_⟩) (by assumption) ?_
  rotate_left
  ·(intro w hSw; (try dsimp only at hSw); go_simp) <;> with_reducible rfl
  (try simp only [Act.put, lqa, lqb, lqc, lqd, lqe, lqf])
 refine tkw ?_
 refine wpAnyH_ready (rs := [8]) (by kernel_rfl) (by simp) ?_
 refine AllReadyH.cons rfl (fun K hK => ?_) AllReadyH.nil
 go_simp
 refine hC.mono ?_
 rintro x w2 ⟨rfl, hk2, hu2⟩
 have hX2 : w2.heap[X]? = some (.cells #[.int .i64 e, .int .i64 2, .int .i64 a, .int .i64 b, .int .i64 d, vv] 85) := (hu2.block _ (lt_of_heap HX.out) (not_foot HE.out.mem HX.out (by decide) (by decide))).trans HX.out
 have hE2 := HE.out.updM hk2 hu2
 have hT2 : XTch L False w w2 := (XTch.of_below HB.out).trans (XTch.of_foot hu2)
 have hS2 : (fun w' => w'.cell? ⟨Kb, 0, none⟩ = some (ptr L.ek) ∧ (w'.cell? ⟨X, 0, none⟩ = some (.int .i64 e) ∧ w'.cell? ⟨X, 1, none⟩ = some (.int .i64 2) ∧ w'.cell? ⟨X, 2, none⟩ = some (.int .i64 a) ∧ w'.cell? ⟨X, 3, none⟩ = some (.int .i64 b) ∧ w'.cell? ⟨X, 4, none⟩ = some (.int .i64 d) ∧ w'.cell? ⟨X, 5, none⟩ = some (vv))) w2 := ⟨hE2.k0, six_cells hX2⟩
 have HE2 : Hid _ := hE2
 have HT2 : Hid _ := hT2
 clear hX2 hE2 hT2 hk2 hu2 hC
 generalize hRq : Ca.dropR S.T e a = R at *
 have HRq : Hid _ := hRq
 clear hRq
 refine hK.out _ _ hS2 (fun hHeld => ?_)
 clear hK K
 (try simp only [Act.put, lqa, lqb, lqc, lqd, lqe, lqf])
 refine wpAnyH_ready (rs := [9]) (by kernel_rfl) (by simp) ?_
 refine AllReadyH.cons rfl (fun K hK => ?_) AllReadyH.nil
 go_simp
 refine (answer_nil _ w2).mono ?_
 rintro x w3 ⟨rfl, hw⟩
 rw [hw]
 clear hw w3
 refine hK.out _ _ hS2 (fun hHeld => ?_)
 clear hK K
 (try simp only [Act.put, lqa, lqb, lqc, lqd, lqe, lqf])
 refine tkz [10, 11, 12, 13] ?_
 iterate 4
  refine tky (v := ?_) rfl (by kernel_rfl) (by kernel_rfl) (by kernel_rfl) (fun _ _ _ h => h) (Or.inl ⟨by kernel_rfl, ?_⟩) (by assumption) ?_
  rotate_left
  ·(intro w hSw; (try dsimp only at hSw); go_simp) <;> with_reducible rfl
  (try simp only [Act.put, lqa, lqb, lqc, lqd, lqe, lqf])
 refine tkw ?_
 refine wpAnyH_done (by kernel_rfl) ?_ _
 clear hHeld
 go_wp2
 go_ret2
 exact ⟨_, _, _, by rw [HRq.out]; rfl, URow.nil _ _, HE2.out, HT2.out⟩
set_option maxHeartbeats 2000000 in
theorem raw_revoke (h : ExoAt w Kb L S) (e a b d : Int) (vv : Value) :
  Calls Tryz.prog 27 #[ptr Kb, .agg #[.int .i64 e, .int .i64 3, .int .i64 a, .int .i64 b, .int .i64 d, vv]] w fun x w' => Did Kb L False w ({ S with vs := S.vs, T := Ex.revT S.T e a, F := Ex.tidyF (Ex.revT S.T e a) S.F }) [] (Ex.revR S.T e a) x w' := by
 obtain ⟨W, hW⟩ : ∃ W, W = w.alloc (.cells #[.int .i64 e, .int .i64 3, .int .i64 a, .int .i64 b, .int .i64 d, vv] 85) := ⟨_, rfl⟩
 obtain ⟨X, hXe⟩ : ∃ X, X = w.heap.size := ⟨_, rfl⟩
 have hb : Below w.heap.size w W.drew := by rw [hW]; exact (Ca.below_alloc w _).drew
 have hX : W.drew.heap[X]? = some (.cells #[.int .i64 e, .int .i64 3, .int .i64 a, .int .i64 b, .int .i64 d, vv] 85) := by rw [hW, hXe]; exact heap_alloc_new w _
 have hE := h.below hb
 have hC := Ex.krevoke_at hE.mem e a
 have hS : (fun w' => w'.cell? ⟨Kb, 0, none⟩ = some (ptr L.ek) ∧ (w'.cell? ⟨X, 0, none⟩ = some (.int .i64 e) ∧ w'.cell? ⟨X, 1, none⟩ = some (.int .i64 3) ∧ w'.cell? ⟨X, 2, none⟩ = some (.int .i64 a) ∧ w'.cell? ⟨X, 3, none⟩ = some (.int .i64 b) ∧ w'.cell? ⟨X, 4, none⟩ = some (.int .i64 d) ∧ w'.cell? ⟨X, 5, none⟩ = some (vv))) W.drew := ⟨hE.k0, six_cells hX⟩
 have HE : Hid _ := hE
 have HX : Hid _ := hX
 have HB : Hid _ := hb
 have HW : Hid _ := hW
 have HXe : Hid _ := hXe
 clear h hb hX hE hW hXe
 go_enter Tryz.func27, Tryz.ntmps27
 go_wp2_with fail
 rw [← HW.out, ← HXe.out]
 clear HW
 refine wp_region_held_drew (S := fun w' => w'.cell? ⟨Kb, 0, none⟩ = some (ptr L.ek) ∧ (w'.cell? ⟨X, 0, none⟩ = some (.int .i64 e) ∧ w'.cell? ⟨X, 1, none⟩ = some (.int .i64 3) ∧ w'.cell? ⟨X, 2, none⟩ = some (.int .i64 a) ∧ w'.cell? ⟨X, 3, none⟩ = some (.int .i64 b) ∧ w'.cell? ⟨X, 4, none⟩ = some (.int .i64 d) ∧ w'.cell? ⟨X, 5, none⟩ = some (vv))) (by kernel_rfl) hS (fun hHeld => ?_)
 refine tkz [0, 1, 2, 3, 4, 5, 6, 7] ?_
 iterate 8
  refine tky (v := ?_) rfl (by kernel_rfl) (by kernel_rfl) (by kernel_rfl) (fun _ _ _ h => h) (Or.inl ⟨by kernel_rfl, ?_⟩) (by assumption) ?_
  rotate_left
  ·(intro w hSw; (try dsimp only at hSw); go_simp) <;> with_reducible rfl
  (try simp only [Act.put, lqa, lqb, lqc, lqd, lqe, lqf])
 refine tkw ?_
 refine wpAnyH_ready (rs := [8]) (by kernel_rfl) (by simp) ?_
 refine AllReadyH.cons rfl (fun K hK => ?_) AllReadyH.nil
 go_simp
 refine hC.mono ?_
 rintro x w2 ⟨rfl, hk2, hu2⟩
 have hX2 : w2.heap[X]? = some (.cells #[.int .i64 e, .int .i64 3, .int .i64 a, .int .i64 b, .int .i64 d, vv] 85) := (hu2.block _ (lt_of_heap HX.out) (not_foot HE.out.mem HX.out (by decide) (by decide))).trans HX.out
 have hE2 := HE.out.updM hk2 hu2
 have hT2 : XTch L False w w2 := (XTch.of_below HB.out).trans (XTch.of_foot hu2)
 have hS2 : (fun w' => w'.cell? ⟨Kb, 0, none⟩ = some (ptr L.ek) ∧ (w'.cell? ⟨X, 0, none⟩ = some (.int .i64 e) ∧ w'.cell? ⟨X, 1, none⟩ = some (.int .i64 3) ∧ w'.cell? ⟨X, 2, none⟩ = some (.int .i64 a) ∧ w'.cell? ⟨X, 3, none⟩ = some (.int .i64 b) ∧ w'.cell? ⟨X, 4, none⟩ = some (.int .i64 d) ∧ w'.cell? ⟨X, 5, none⟩ = some (vv))) w2 := ⟨hE2.k0, six_cells hX2⟩
 have HE2 : Hid _ := hE2
 have HT2 : Hid _ := hT2
 clear hX2 hE2 hT2 hk2 hu2 hC
 generalize hRq : Ex.revR S.T e a = R at *
 have HRq : Hid _ := hRq
 clear hRq
 refine hK.out _ _ hS2 (fun hHeld => ?_)
 clear hK K
 (try simp only [Act.put, lqa, lqb, lqc, lqd, lqe, lqf])
 refine wpAnyH_ready (rs := [9]) (by kernel_rfl) (by simp) ?_
 refine AllReadyH.cons rfl (fun K hK => ?_) AllReadyH.nil
 go_simp
 refine (answer_nil _ w2).mono ?_
 rintro x w3 ⟨rfl, hw⟩
 rw [hw]
 clear hw w3
 refine hK.out _ _ hS2 (fun hHeld => ?_)
 clear hK K
 (try simp only [Act.put, lqa, lqb, lqc, lqd, lqe, lqf])
 refine tkz [10, 11, 12, 13] ?_
 iterate 4
  refine tky (v := ?_) rfl (by kernel_rfl) (by kernel_rfl) (by kernel_rfl) (fun _ _ _ h => h) (Or.inl ⟨by kernel_rfl, ?_⟩) (by assumption) ?_
  rotate_left
  ·(intro w hSw; (try dsimp only at hSw); go_simp) <;> with_reducible rfl
  (try simp only [Act.put, lqa, lqb, lqc, lqd, lqe, lqf])
 refine tkw ?_
 refine wpAnyH_done (by kernel_rfl) ?_ _
 clear hHeld
 go_wp2
 go_ret2
 exact ⟨_, _, _, by rw [HRq.out]; rfl, URow.nil _ _, HE2.out, HT2.out⟩
set_option maxHeartbeats 2000000 in
theorem raw_map (h : ExoAt w Kb L S) (e a b d : Int) (vv : Value) (hd : d ≤ 1) :
  Calls Tryz.prog 27 #[ptr Kb, .agg #[.int .i64 e, .int .i64 4, .int .i64 a, .int .i64 b, .int .i64 d, vv]] w fun x w' => Did Kb L False w ({ S with vs := S.vs, T := S.T, F := Ex.kmapF S.T S.F e a b (d == 1) }) [] (Ex.kmapR S.T e a b (d == 1)) x w' := by
 obtain ⟨W, hW⟩ : ∃ W, W = w.alloc (.cells #[.int .i64 e, .int .i64 4, .int .i64 a, .int .i64 b, .int .i64 d, vv] 85) := ⟨_, rfl⟩
 obtain ⟨X, hXe⟩ : ∃ X, X = w.heap.size := ⟨_, rfl⟩
 have hb : Below w.heap.size w W.drew := by rw [hW]; exact (Ca.below_alloc w _).drew
 have hX : W.drew.heap[X]? = some (.cells #[.int .i64 e, .int .i64 4, .int .i64 a, .int .i64 b, .int .i64 d, vv] 85) := by rw [hW, hXe]; exact heap_alloc_new w _
 have hE := h.below hb
 have hC := Ex.kmap_at hE.mem e a b (d == 1)
 have hS : (fun w' => w'.cell? ⟨Kb, 0, none⟩ = some (ptr L.ek) ∧ (w'.cell? ⟨X, 0, none⟩ = some (.int .i64 e) ∧ w'.cell? ⟨X, 1, none⟩ = some (.int .i64 4) ∧ w'.cell? ⟨X, 2, none⟩ = some (.int .i64 a) ∧ w'.cell? ⟨X, 3, none⟩ = some (.int .i64 b) ∧ w'.cell? ⟨X, 4, none⟩ = some (.int .i64 d) ∧ w'.cell? ⟨X, 5, none⟩ = some (vv))) W.drew := ⟨hE.k0, six_cells hX⟩
 have HE : Hid _ := hE
 have HX : Hid _ := hX
 have HB : Hid _ := hb
 have HW : Hid _ := hW
 have HXe : Hid _ := hXe
 clear h hb hX hE hW hXe
 have gd : decide ((1 : Int) < d) = false := decide_eq_false (by omega)
 go_enter Tryz.func27, Tryz.ntmps27
 go_wp2_with fail
 rw [← HW.out, ← HXe.out]
 clear HW
 refine wp_region_held_drew (S := fun w' => w'.cell? ⟨Kb, 0, none⟩ = some (ptr L.ek) ∧ (w'.cell? ⟨X, 0, none⟩ = some (.int .i64 e) ∧ w'.cell? ⟨X, 1, none⟩ = some (.int .i64 4) ∧ w'.cell? ⟨X, 2, none⟩ = some (.int .i64 a) ∧ w'.cell? ⟨X, 3, none⟩ = some (.int .i64 b) ∧ w'.cell? ⟨X, 4, none⟩ = some (.int .i64 d) ∧ w'.cell? ⟨X, 5, none⟩ = some (vv))) (by kernel_rfl) hS (fun hHeld => ?_)
 refine tkz [0, 1, 2, 3, 4, 5, 6, 7, 8, 9, 10, 11, 12] ?_
 iterate 13
  refine tky (v := ?_) rfl (by kernel_rfl) (by kernel_rfl) (by kernel_rfl) (fun _ _ _ h => h) (Or.inl ⟨by kernel_rfl, ?_⟩) (by assumption) ?_
  rotate_left
  ·(intro w hSw; (try dsimp only at hSw); go_simp) <;> with_reducible rfl
  (try simp only [Act.put, lqa, lqb, lqc, lqd, lqe, lqf])
 refine tkw ?_
 refine wpAnyH_ready (rs := [13]) (by kernel_rfl) (by simp) ?_
 refine AllReadyH.cons rfl (fun K hK => ?_) AllReadyH.nil
 go_simp
 refine hC.mono ?_
 rintro x w2 ⟨rfl, hk2, hu2⟩
 have hX2 : w2.heap[X]? = some (.cells #[.int .i64 e, .int .i64 4, .int .i64 a, .int .i64 b, .int .i64 d, vv] 85) := (hu2.block _ (lt_of_heap HX.out) (not_foot HE.out.mem HX.out (by decide) (by decide))).trans HX.out
 have hE2 := HE.out.updM hk2 hu2
 have hT2 : XTch L False w w2 := (XTch.of_below HB.out).trans (XTch.of_foot hu2)
 have hS2 : (fun w' => w'.cell? ⟨Kb, 0, none⟩ = some (ptr L.ek) ∧ (w'.cell? ⟨X, 0, none⟩ = some (.int .i64 e) ∧ w'.cell? ⟨X, 1, none⟩ = some (.int .i64 4) ∧ w'.cell? ⟨X, 2, none⟩ = some (.int .i64 a) ∧ w'.cell? ⟨X, 3, none⟩ = some (.int .i64 b) ∧ w'.cell? ⟨X, 4, none⟩ = some (.int .i64 d) ∧ w'.cell? ⟨X, 5, none⟩ = some (vv))) w2 := ⟨hE2.k0, six_cells hX2⟩
 have HE2 : Hid _ := hE2
 have HT2 : Hid _ := hT2
 clear hX2 hE2 hT2 hk2 hu2 hC
 generalize hRq : Ex.kmapR S.T e a b (d == 1) = R at *
 have HRq : Hid _ := hRq
 clear hRq
 refine hK.out _ _ hS2 (fun hHeld => ?_)
 clear hK K
 (try simp only [Act.put, lqa, lqb, lqc, lqd, lqe, lqf])
 refine wpAnyH_ready (rs := [14]) (by kernel_rfl) (by simp) ?_
 refine AllReadyH.cons rfl (fun K hK => ?_) AllReadyH.nil
 go_simp
 refine (answer_nil _ w2).mono ?_
 rintro x w3 ⟨rfl, hw⟩
 rw [hw]
 clear hw w3
 refine hK.out _ _ hS2 (fun hHeld => ?_)
 clear hK K
 (try simp only [Act.put, lqa, lqb, lqc, lqd, lqe, lqf])
 refine tkz [15, 16, 17, 18] ?_
 iterate 4
  refine tky (v := ?_) rfl (by kernel_rfl) (by kernel_rfl) (by kernel_rfl) (fun _ _ _ h => h) (Or.inl ⟨by kernel_rfl, ?_⟩) (by assumption) ?_
  rotate_left
  ·(intro w hSw; (try dsimp only at hSw); go_simp) <;> with_reducible rfl
  (try simp only [Act.put, lqa, lqb, lqc, lqd, lqe, lqf])
 refine tkw ?_
 refine wpAnyH_done (by kernel_rfl) ?_ _
 clear hHeld
 go_wp2
 go_ret2
 exact ⟨_, _, _, by rw [HRq.out]; rfl, URow.nil _ _, HE2.out, HT2.out⟩
theorem raw_map_no (h : ExoAt w Kb L S) (e a b d : Int) (vv : Value) (hd : 1 < d) :
  Calls Tryz.prog 27 #[ptr Kb, .agg #[.int .i64 e, .int .i64 4, .int .i64 a, .int .i64 b, .int .i64 d, vv]] w fun x w' => Did Kb L False w S [] 101 x w' := by
 have gd : decide ((1 : Int) < d) = true := decide_eq_true hd
 go_enter Tryz.func27, Tryz.ntmps27
 go_wp2_with (go_at_call 25; refine (answer_nil _ _).mono ?_; rintro x w3 ⟨rfl, hw⟩; rw [hw]; clear hw w3)
 go_ret2
 exact ⟨_, _, _, rfl, URow.nil _ _, h.below (Ca.below_alloc _ _), XTch.of_below (Ca.below_alloc _ _)⟩
set_option maxHeartbeats 2000000 in
theorem raw_unmap (h : ExoAt w Kb L S) (e a b d : Int) (vv : Value) :
  Calls Tryz.prog 27 #[ptr Kb, .agg #[.int .i64 e, .int .i64 5, .int .i64 a, .int .i64 b, .int .i64 d, vv]] w fun x w' => Did Kb L False w ({ S with vs := S.vs, T := S.T, F := Ex.kunmapF S.F e a }) [] (Ex.kunmapR S.F e a) x w' := by
 obtain ⟨W, hW⟩ : ∃ W, W = w.alloc (.cells #[.int .i64 e, .int .i64 5, .int .i64 a, .int .i64 b, .int .i64 d, vv] 85) := ⟨_, rfl⟩
 obtain ⟨X, hXe⟩ : ∃ X, X = w.heap.size := ⟨_, rfl⟩
 have hb : Below w.heap.size w W.drew := by rw [hW]; exact (Ca.below_alloc w _).drew
 have hX : W.drew.heap[X]? = some (.cells #[.int .i64 e, .int .i64 5, .int .i64 a, .int .i64 b, .int .i64 d, vv] 85) := by rw [hW, hXe]; exact heap_alloc_new w _
 have hE := h.below hb
 have hC := Ex.kunmap_at hE.mem e a
 have hS : (fun w' => w'.cell? ⟨Kb, 0, none⟩ = some (ptr L.ek) ∧ (w'.cell? ⟨X, 0, none⟩ = some (.int .i64 e) ∧ w'.cell? ⟨X, 1, none⟩ = some (.int .i64 5) ∧ w'.cell? ⟨X, 2, none⟩ = some (.int .i64 a) ∧ w'.cell? ⟨X, 3, none⟩ = some (.int .i64 b) ∧ w'.cell? ⟨X, 4, none⟩ = some (.int .i64 d) ∧ w'.cell? ⟨X, 5, none⟩ = some (vv))) W.drew := ⟨hE.k0, six_cells hX⟩
 have HE : Hid _ := hE
 have HX : Hid _ := hX
 have HB : Hid _ := hb
 have HW : Hid _ := hW
 have HXe : Hid _ := hXe
 clear h hb hX hE hW hXe
 go_enter Tryz.func27, Tryz.ntmps27
 go_wp2_with fail
 rw [← HW.out, ← HXe.out]
 clear HW
 refine wp_region_held_drew (S := fun w' => w'.cell? ⟨Kb, 0, none⟩ = some (ptr L.ek) ∧ (w'.cell? ⟨X, 0, none⟩ = some (.int .i64 e) ∧ w'.cell? ⟨X, 1, none⟩ = some (.int .i64 5) ∧ w'.cell? ⟨X, 2, none⟩ = some (.int .i64 a) ∧ w'.cell? ⟨X, 3, none⟩ = some (.int .i64 b) ∧ w'.cell? ⟨X, 4, none⟩ = some (.int .i64 d) ∧ w'.cell? ⟨X, 5, none⟩ = some (vv))) (by kernel_rfl) hS (fun hHeld => ?_)
 refine tkz [0, 1, 2, 3, 4, 5, 6, 7] ?_
 iterate 8
  refine tky (v := ?_) rfl (by kernel_rfl) (by kernel_rfl) (by kernel_rfl) (fun _ _ _ h => h) (Or.inl ⟨by kernel_rfl, ?_⟩) (by assumption) ?_
  rotate_left
  ·(intro w hSw; (try dsimp only at hSw); go_simp) <;> with_reducible rfl
  (try simp only [Act.put, lqa, lqb, lqc, lqd, lqe, lqf])
 refine tkw ?_
 refine wpAnyH_ready (rs := [8]) (by kernel_rfl) (by simp) ?_
 refine AllReadyH.cons rfl (fun K hK => ?_) AllReadyH.nil
 go_simp
 refine hC.mono ?_
 rintro x w2 ⟨rfl, hk2, hu2⟩
 have hX2 : w2.heap[X]? = some (.cells #[.int .i64 e, .int .i64 5, .int .i64 a, .int .i64 b, .int .i64 d, vv] 85) := (hu2.block _ (lt_of_heap HX.out) (not_foot HE.out.mem HX.out (by decide) (by decide))).trans HX.out
 have hE2 := HE.out.updM hk2 hu2
 have hT2 : XTch L False w w2 := (XTch.of_below HB.out).trans (XTch.of_foot hu2)
 have hS2 : (fun w' => w'.cell? ⟨Kb, 0, none⟩ = some (ptr L.ek) ∧ (w'.cell? ⟨X, 0, none⟩ = some (.int .i64 e) ∧ w'.cell? ⟨X, 1, none⟩ = some (.int .i64 5) ∧ w'.cell? ⟨X, 2, none⟩ = some (.int .i64 a) ∧ w'.cell? ⟨X, 3, none⟩ = some (.int .i64 b) ∧ w'.cell? ⟨X, 4, none⟩ = some (.int .i64 d) ∧ w'.cell? ⟨X, 5, none⟩ = some (vv))) w2 := ⟨hE2.k0, six_cells hX2⟩
 have HE2 : Hid _ := hE2
 have HT2 : Hid _ := hT2
 clear hX2 hE2 hT2 hk2 hu2 hC
 generalize hRq : Ex.kunmapR S.F e a = R at *
 have HRq : Hid _ := hRq
 clear hRq
 refine hK.out _ _ hS2 (fun hHeld => ?_)
 clear hK K
 (try simp only [Act.put, lqa, lqb, lqc, lqd, lqe, lqf])
 refine wpAnyH_ready (rs := [9]) (by kernel_rfl) (by simp) ?_
 refine AllReadyH.cons rfl (fun K hK => ?_) AllReadyH.nil
 go_simp
 refine (answer_nil _ w2).mono ?_
 rintro x w3 ⟨rfl, hw⟩
 rw [hw]
 clear hw w3
 refine hK.out _ _ hS2 (fun hHeld => ?_)
 clear hK K
 (try simp only [Act.put, lqa, lqb, lqc, lqd, lqe, lqf])
 refine tkz [10, 11, 12, 13] ?_
 iterate 4
  refine tky (v := ?_) rfl (by kernel_rfl) (by kernel_rfl) (by kernel_rfl) (fun _ _ _ h => h) (Or.inl ⟨by kernel_rfl, ?_⟩) (by assumption) ?_
  rotate_left
  ·(intro w hSw; (try dsimp only at hSw); go_simp) <;> with_reducible rfl
  (try simp only [Act.put, lqa, lqb, lqc, lqd, lqe, lqf])
 refine tkw ?_
 refine wpAnyH_done (by kernel_rfl) ?_ _
 clear hHeld
 go_wp2
 go_ret2
 exact ⟨_, _, _, by rw [HRq.out]; rfl, URow.nil _ _, HE2.out, HT2.out⟩
end
end Go.Proofs.YtbhpafgoofkkmaaGreatDoor
