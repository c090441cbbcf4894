import Derived.Test.YtbhpafgoofkkmaaGreatDoorRxE
import Derived.Deep.RegionHeld3
set_option linter.all false
namespace Go.Proofs.YtbhpafgoofkkmaaGreatDoor
open Go.RowKit
section
variable {w : World} {X : Nat} {Y : RxL} {k : Nat} {S : XS}
theorem rdv_one (w : World) (a : Int) : RdV (w.alloc (.cells #[.int .u64 a] 42)) (.slice (some ⟨w.heap.size, 0, none⟩) 1 1) [a] := by
 refine ⟨_, _, rfl, Nat.le_refl _, fun j x hj => ⟨w.heap.size, 0, rfl, ?_⟩⟩
 rw [cell_of_heap (heap_alloc_new _ _)]
 cases j with
 | zero =>
  simp at hj
  subst hj
  rfl
 | succ j => simp at hj
set_option maxRecDepth 100000 in
set_option maxHeartbeats 2000000 in
theorem f_6 (h : RefX w X Y k S) (o : OkR S) (hk : k ≤ 800) (e a b d : Int) (g f nv cv : Nat) (x0 : Int) (z0 : ∀ w', UpdP (RP X Y S.n) w w' → w'.cell? ⟨g, f, none⟩ = some (.int .u64 x0)) (hnv : 0 < nv) (hx0 : 0 ≤ x0) :
  Calls Tryz.prog 34 #[ptr X, .int .i64 e, .int .u64 6, .agg #[.int .i64 a, .int .i64 b, .int .i64 d], (.slice (some ⟨g, f, none⟩) nv cv)] w (RDid X Y k S.n w (S, ansW (Ex.kloadR S.n S.vs S.F e x0).2 [(Ex.kloadR S.n S.vs S.F e x0).1], (Ex.kloadR S.n S.vs S.F e x0).2)) := by
 have HZ0 : Hid _ := z0
 have hnn0 : (0 : Int) < (nv : Int) := by omega
 have hna0 : 0 < nv := by omega
 clear hnv z0
 obtain ⟨W, hW⟩ : ∃ W, W = w.alloc (.cells #[.int .i64 a, .int .i64 b, .int .i64 d] 91) := ⟨_, rfl⟩
 obtain ⟨B, hB⟩ : ∃ B, B = w.heap.size := ⟨_, rfl⟩
 have hbW : Below w.heap.size w W := by rw [hW]; exact Ca.below_alloc _ _
 have hXW : W.heap[B]? = some (.cells #[.int .i64 a, .int .i64 b, .int .i64 d] 91) := by rw [hW, hB]; exact heap_alloc_new _ _
 have hdr : Below W.heap.size W W.drew := (Below.refl _ _).drew
 have hRW : RefX W X Y k S := h.below hbW
 have hRd : RefX W.drew X Y k S := hRW.below hdr
 have hXd : W.drew.heap[B]? = some (.cells #[.int .i64 a, .int .i64 b, .int .i64 d] 91) := hXW
 have HUW : Hid (UpdP (RP X Y S.n) w W) := UpdP.of_below hbW
 have HUd : Hid (UpdP (RP X Y S.n) w W.drew) := (UpdP.of_below hbW).trans (UpdP.of_below hdr)
 have HW : Hid (W = w.alloc (.cells #[.int .i64 a, .int .i64 b, .int .i64 d] 91)) := hW
 have HB : Hid (B = w.heap.size) := hB
 clear hW hB hbW hdr h
 have z0 := HZ0.out W.drew HUd.out
 have hop := x_load hRd e x0 hx0
 have hS := show W.drew.cell? ⟨X, 0, none⟩ = some (ptr Y.J.p0) ∧ W.drew.cell? ⟨g, f, none⟩ = some (.int .u64 x0) from ⟨hRd.c0, z0⟩
 have HRd : Hid _ := hRd
 have HXd : Hid _ := hXd
 clear hRW hXW hRd hXd z0
 go_enter Tryz.func34, Tryz.ntmps34
 go_wp2_with fail
 rw [← HW.out, ← HB.out]
 clear HW HB
 refine wp_region_held_drew (S := fun w' => w'.cell? ⟨X, 0, none⟩ = some (ptr Y.J.p0) ∧ w'.cell? ⟨g, f, none⟩ = some (.int .u64 x0)) (by kernel_rfl) hS (fun hHeld => ?_)
 refine tkz [0, 1, 2, 3, 4, 5, 6, 7] ?_
 iterate 8
  refine tky (v := ?_) rfl (by kernel_rfl) (by kernel_rfl) (by kernel_rfl) (fun _ _ _ h => h) (Or.inl ⟨by kernel_rfl, ?_⟩) (by assumption) ?_
  rotate_left
  ·(intro w hSw; (try dsimp only at hSw); go_simp) <;> with_reducible rfl
  (try simp only [Act.put, lqa, lqb, lqc, lqd, lqe, lqf])
 refine tkw ?_
 refine wpAnyH_ready (rs := [8]) (by kernel_rfl) (by simp) ?_
 refine AllReadyH.cons rfl (fun K hK => ?_) AllReadyH.nil
 go_simp
 refine hop.mono ?_
 rintro x w1 ⟨rfl, hR1, hu1⟩
 have hU1 : UpdP (RP X Y S.n) w w1 := HUd.out.trans hu1
 have hS1 := show w1.cell? ⟨X, 0, none⟩ = some (ptr Y.J.p0) ∧ w1.cell? ⟨g, f, none⟩ = some (.int .u64 x0) from ⟨hR1.c0, (HZ0.out w1 hU1)⟩
 have HR1 : Hid _ := hR1
 have HU1 : Hid _ := hU1
 clear hop hR1 hu1 hU1
 refine hK.out _ _ hS1 (fun hHeld => ?_)
 clear hK K
 (try simp only [Act.put, lqa, lqb, lqc, lqd, lqe, lqf])
 refine tkz [9, 10, 11, 12, 13] ?_
 iterate 5
  refine tky (v := ?_) rfl (by kernel_rfl) (by kernel_rfl) (by kernel_rfl) (fun _ _ _ h => h) (Or.inl ⟨by kernel_rfl, ?_⟩) (by assumption) ?_
  rotate_left
  ·(intro w hSw; (try dsimp only at hSw); go_simp) <;> with_reducible rfl
  (try simp only [Act.put, lqa, lqb, lqc, lqd, lqe, lqf])
 refine tkw ?_
 refine wpAnyH_done (by kernel_rfl) ?_ _
 clear hHeld
 by_cases he : (Ex.kloadR S.n S.vs S.F e x0).2 = 0
 ·have HA : Hid (ansW (Ex.kloadR S.n S.vs S.F e x0).2 [(Ex.kloadR S.n S.vs S.F e x0).1] = [(Ex.kloadR S.n S.vs S.F e x0).1] ∧ (Ex.kloadR S.n S.vs S.F e x0).2 = 0) := by
   show _ ∧ _
   rw [he]
   exact ⟨rfl, rfl⟩
  have hee : ((Ex.kloadR S.n S.vs S.F e x0).2 == 0) = true := by simpa using he
  clear he
  generalize hv1 : (Ex.kloadR S.n S.vs S.F e x0).1 = val at *
  have HV1 : Hid _ := hv1
  clear hv1
  generalize (Ex.kloadR S.n S.vs S.F e x0).2 = err at *
  obtain ⟨Z, hZ⟩ : ∃ Z, Z = w1.alloc (.cells #[.int .u64 val] 42) := ⟨_, rfl⟩
  have hbZ : Below w1.heap.size w1 Z := by rw [hZ]; exact Ca.below_alloc _ _
  have HD : Hid (RDid X Y k S.n w (S, ansW err [val], err) (.returned (.tuple #[.slice (some ⟨w1.heap.size, 0, none⟩) 1 1, .int .i64 0])) Z) := ⟨_, _, _, by rw [HA.out.2], by rw [HA.out.1, hZ]; exact rdv_one _ _, HR1.out.below hbZ, HU1.out.trans (UpdP.of_below hbZ)⟩
  have HZ : Hid _ := hZ
  clear hZ hbZ
  go_wp2
  go_ret2
  rw [← HZ.out]
  exact HD.out
 ·have HA : Hid (ansW (Ex.kloadR S.n S.vs S.F e x0).2 [(Ex.kloadR S.n S.vs S.F e x0).1] = []) := ans_err he _
  have hee : ((Ex.kloadR S.n S.vs S.F e x0).2 == 0) = false := by simpa using he
  clear he
  generalize (Ex.kloadR S.n S.vs S.F e x0).1 = val at *
  generalize (Ex.kloadR S.n S.vs S.F e x0).2 = err at *
  go_wp2
  go_ret2
  exact ⟨none, 0, 0, rfl, by rw [HA.out]; exact RdV.nil _ _ _, HR1.out, HU1.out⟩
set_option maxRecDepth 100000 in
set_option maxHeartbeats 2000000 in
theorem f_7 (h : RefX w X Y k S) (o : OkR S) (hk : k ≤ 800) (e a b d : Int) (g f nv cv : Nat) (x0 : Int) (x1 : Int) (z0 : ∀ w', UpdP (RP X Y S.n) w w' → w'.cell? ⟨g, f, none⟩ = some (.int .u64 x0)) (z1 : ∀ w', UpdP (RP X Y S.n) w w' → w'.cell? ⟨g, f + 1, none⟩ = some (.int .u64 x1)) (hnv : 1 < nv) (hx0 : 0 ≤ x0) :
  Calls Tryz.prog 34 #[ptr X, .int .i64 e, .int .u64 7, .agg #[.int .i64 a, .int .i64 b, .int .i64 d], (.slice (some ⟨g, f, none⟩) nv cv)] w (RDid X Y k S.n w ({ S with vs := Ex.kstoreV S.n S.vs S.F e x0 x1, T := S.T, F := S.F }, [], Ex.kstoreR S.n S.F e x0)) := by
 have HZ0 : Hid _ := z0
 have HZ1 : Hid _ := z1
 have hnn0 : (0 : Int) < (nv : Int) := by omega
 have hna0 : 0 < nv := by omega
 have hnn1 : (1 : Int) < (nv : Int) := by omega
 have hna1 : 1 < nv := by omega
 clear hnv z0 z1
 obtain ⟨W, hW⟩ : ∃ W, W = w.alloc (.cells #[.int .i64 a, .int .i64 b, .int .i64 d] 91) := ⟨_, rfl⟩
 obtain ⟨B, hB⟩ : ∃ B, B = w.heap.size := ⟨_, rfl⟩
 have hbW : Below w.heap.size w W := by rw [hW]; exact Ca.below_alloc _ _
 have hXW : W.heap[B]? = some (.cells #[.int .i64 a, .int .i64 b, .int .i64 d] 91) := by rw [hW, hB]; exact heap_alloc_new _ _
 have hdr : Below W.heap.size W W.drew := (Below.refl _ _).drew
 have hRW : RefX W X Y k S := h.below hbW
 have hRd : RefX W.drew X Y k S := hRW.below hdr
 have hXd : W.drew.heap[B]? = some (.cells #[.int .i64 a, .int .i64 b, .int .i64 d] 91) := hXW
 have HUW : Hid (UpdP (RP X Y S.n) w W) := UpdP.of_below hbW
 have HUd : Hid (UpdP (RP X Y S.n) w W.drew) := (UpdP.of_below hbW).trans (UpdP.of_below hdr)
 have HW : Hid (W = w.alloc (.cells #[.int .i64 a, .int .i64 b, .int .i64 d] 91)) := hW
 have HB : Hid (B = w.heap.size) := hB
 clear hW hB hbW hdr h
 have z0 := HZ0.out W.drew HUd.out
 have z1 := HZ1.out W.drew HUd.out
 have hop := x_store hRd e x0 x1 hx0
 have hS := show W.drew.cell? ⟨X, 0, none⟩ = some (ptr Y.J.p0) ∧ W.drew.cell? ⟨g, f, none⟩ = some (.int .u64 x0) ∧ W.drew.cell? ⟨g, f + 1, none⟩ = some (.int .u64 x1) from ⟨hRd.c0, z0, z1⟩
 have HRd : Hid _ := hRd
 have HXd : Hid _ := hXd
 clear hRW hXW hRd hXd z0 z1
 go_enter Tryz.func34, Tryz.ntmps34
 go_wp2_with fail
 rw [← HW.out, ← HB.out]
 clear HW HB
 refine wp_region_held_drew (S := fun w' => w'.cell? ⟨X, 0, none⟩ = some (ptr Y.J.p0) ∧ w'.cell? ⟨g, f, none⟩ = some (.int .u64 x0) ∧ w'.cell? ⟨g, f + 1, none⟩ = some (.int .u64 x1)) (by kernel_rfl) hS (fun hHeld => ?_)
 refine tkz [0, 1, 2, 3, 4, 5, 6, 7, 8, 9, 10] ?_
 iterate 11
  refine tky (v := ?_) rfl (by kernel_rfl) (by kernel_rfl) (by kernel_rfl) (fun _ _ _ h => h) (Or.inl ⟨by kernel_rfl, ?_⟩) (by assumption) ?_
  rotate_left
  ·(intro w hSw; (try dsimp only at hSw); go_simp) <;> with_reducible rfl
  (try simp only [Act.put, lqa, lqb, lqc, lqd, lqe, lqf])
 refine tkw ?_
 refine wpAnyH_ready (rs := [11]) (by kernel_rfl) (by simp) ?_
 refine AllReadyH.cons rfl (fun K hK => ?_) AllReadyH.nil
 go_simp
 refine hop.mono ?_
 rintro x w1 ⟨rfl, hR1, hu1⟩
 have hU1 : UpdP (RP X Y S.n) w w1 := HUd.out.trans hu1
 have hS1 := show w1.cell? ⟨X, 0, none⟩ = some (ptr Y.J.p0) ∧ w1.cell? ⟨g, f, none⟩ = some (.int .u64 x0) ∧ w1.cell? ⟨g, f + 1, none⟩ = some (.int .u64 x1) from ⟨hR1.c0, (HZ0.out w1 hU1), (HZ1.out w1 hU1)⟩
 have HR1 : Hid _ := hR1
 have HU1 : Hid _ := hU1
 clear hop hR1 hu1 hU1
 refine hK.out _ _ hS1 (fun hHeld => ?_)
 clear hK K
 (try simp only [Act.put, lqa, lqb, lqc, lqd, lqe, lqf])
 refine tkz [12, 13] ?_
 iterate 2
  refine tky (v := ?_) rfl (by kernel_rfl) (by kernel_rfl) (by kernel_rfl) (fun _ _ _ h => h) (Or.inl ⟨by kernel_rfl, ?_⟩) (by assumption) ?_
  rotate_left
  ·(intro w hSw; (try dsimp only at hSw); go_simp) <;> with_reducible rfl
  (try simp only [Act.put, lqa, lqb, lqc, lqd, lqe, lqf])
 refine tkw ?_
 refine wpAnyH_done (by kernel_rfl) ?_ _
 clear hHeld
 go_wp2
 go_ret2
 exact ⟨none, 0, 0, rfl, RdV.nil _ _ _, HR1.out, HU1.out⟩
set_option maxRecDepth 100000 in
set_option maxHeartbeats 2000000 in
theorem f_9 (h : RefX w X Y k S) (o : OkR S) (hk : k ≤ 800) (e a b d : Int) (av : Option Addr) (nv cv : Nat) :
  Calls Tryz.prog 34 #[ptr X, .int .i64 e, .int .u64 9, .agg #[.int .i64 a, .int .i64 b, .int .i64 d], (.slice av nv cv)] w (RDid X Y k S.n w (S, ansW (Ex.kreadR S.T S.n S.vs e a b).2 [(Ex.kreadR S.T S.n S.vs e a b).1], (Ex.kreadR S.T S.n S.vs e a b).2)) := by
 obtain ⟨W, hW⟩ : ∃ W, W = w.alloc (.cells #[.int .i64 a, .int .i64 b, .int .i64 d] 91) := ⟨_, rfl⟩
 obtain ⟨B, hB⟩ : ∃ B, B = w.heap.size := ⟨_, rfl⟩
 have hbW : Below w.heap.size w W := by rw [hW]; exact Ca.below_alloc _ _
 have hXW : W.heap[B]? = some (.cells #[.int .i64 a, .int .i64 b, .int .i64 d] 91) := by rw [hW, hB]; exact heap_alloc_new _ _
 have hdr : Below W.heap.size W W.drew := (Below.refl _ _).drew
 have hRW : RefX W X Y k S := h.below hbW
 have hRd : RefX W.drew X Y k S := hRW.below hdr
 have hXd : W.drew.heap[B]? = some (.cells #[.int .i64 a, .int .i64 b, .int .i64 d] 91) := hXW
 have HUW : Hid (UpdP (RP X Y S.n) w W) := UpdP.of_below hbW
 have HUd : Hid (UpdP (RP X Y S.n) w W.drew) := (UpdP.of_below hbW).trans (UpdP.of_below hdr)
 have HW : Hid (W = w.alloc (.cells #[.int .i64 a, .int .i64 b, .int .i64 d] 91)) := hW
 have HB : Hid (B = w.heap.size) := hB
 clear hW hB hbW hdr h
 have hop := x_read hRd o hk e a b
 have y0 : W.drew.cell? ⟨B, 0, none⟩ = some (.int .i64 a) := by rw [cell_of_heap hXd]; rfl
 have y1 : W.drew.cell? ⟨B, 1, none⟩ = some (.int .i64 b) := by rw [cell_of_heap hXd]; rfl
 have y2 : W.drew.cell? ⟨B, 2, none⟩ = some (.int .i64 d) := by rw [cell_of_heap hXd]; rfl
 have hS := show W.drew.cell? ⟨X, 0, none⟩ = some (ptr Y.J.p0) ∧ W.drew.cell? ⟨B, 0, none⟩ = some (.int .i64 a) ∧ W.drew.cell? ⟨B, 1, none⟩ = some (.int .i64 b) from ⟨hRd.c0, y0, y1⟩
 have HRd : Hid _ := hRd
 have HXd : Hid _ := hXd
 clear hRW hXW hRd hXd y0 y1 y2
 go_enter Tryz.func34, Tryz.ntmps34
 go_wp2_with fail
 rw [← HW.out, ← HB.out]
 clear HW HB
 refine wp_region_held_drew (S := fun w' => w'.cell? ⟨X, 0, none⟩ = some (ptr Y.J.p0) ∧ w'.cell? ⟨B, 0, none⟩ = some (.int .i64 a) ∧ w'.cell? ⟨B, 1, none⟩ = some (.int .i64 b)) (by kernel_rfl) hS (fun hHeld => ?_)
 refine tkz [0, 1, 2, 3, 4, 5, 6, 7, 8] ?_
 iterate 9
  refine tky (v := ?_) rfl (by kernel_rfl) (by kernel_rfl) (by kernel_rfl) (fun _ _ _ h => h) (Or.inl ⟨by kernel_rfl, ?_⟩) (by assumption) ?_
  rotate_left
  ·(intro w hSw; (try dsimp only at hSw); go_simp) <;> with_reducible rfl
  (try simp only [Act.put, lqa, lqb, lqc, lqd, lqe, lqf])
 refine tkw ?_
 refine wpAnyH_ready (rs := [9]) (by kernel_rfl) (by simp) ?_
 refine AllReadyH.cons rfl (fun K hK => ?_) AllReadyH.nil
 go_simp
 refine hop.mono ?_
 rintro x w1 ⟨rfl, hR1, hu1⟩
 have hU1 : UpdP (RP X Y S.n) w w1 := HUd.out.trans hu1
 have hX1 := RefX.box HRd.out hu1 HXd.out
 have u0 : w1.cell? ⟨B, 0, none⟩ = some (.int .i64 a) := by rw [cell_of_heap hX1]; rfl
 have u1 : w1.cell? ⟨B, 1, none⟩ = some (.int .i64 b) := by rw [cell_of_heap hX1]; rfl
 have u2 : w1.cell? ⟨B, 2, none⟩ = some (.int .i64 d) := by rw [cell_of_heap hX1]; rfl
 have hS1 := show w1.cell? ⟨X, 0, none⟩ = some (ptr Y.J.p0) ∧ w1.cell? ⟨B, 0, none⟩ = some (.int .i64 a) ∧ w1.cell? ⟨B, 1, none⟩ = some (.int .i64 b) from ⟨hR1.c0, u0, u1⟩
 have HR1 : Hid _ := hR1
 have HU1 : Hid _ := hU1
 clear hop hR1 hu1 hU1 hX1 u0 u1 u2
 refine hK.out _ _ hS1 (fun hHeld => ?_)
 clear hK K
 (try simp only [Act.put, lqa, lqb, lqc, lqd, lqe, lqf])
 refine tkz [10, 11, 12, 13, 14] ?_
 iterate 5
  refine tky (v := ?_) rfl (by kernel_rfl) (by kernel_rfl) (by kernel_rfl) (fun _ _ _ h => h) (Or.inl ⟨by kernel_rfl, ?_⟩) (by assumption) ?_
  rotate_left
  ·(intro w hSw; (try dsimp only at hSw); go_simp) <;> with_reducible rfl
  (try simp only [Act.put, lqa, lqb, lqc, lqd, lqe, lqf])
 refine tkw ?_
 refine wpAnyH_done (by kernel_rfl) ?_ _
 clear hHeld
 by_cases he : (Ex.kreadR S.T S.n S.vs e a b).2 = 0
 ·have HA : Hid (ansW (Ex.kreadR S.T S.n S.vs e a b).2 [(Ex.kreadR S.T S.n S.vs e a b).1] = [(Ex.kreadR S.T S.n S.vs e a b).1] ∧ (Ex.kreadR S.T S.n S.vs e a b).2 = 0) := by
   show _ ∧ _
   rw [he]
   exact ⟨rfl, rfl⟩
  have hee : ((Ex.kreadR S.T S.n S.vs e a b).2 == 0) = true := by simpa using he
  clear he
  generalize hv1 : (Ex.kreadR S.T S.n S.vs e a b).1 = val at *
  have HV1 : Hid _ := hv1
  clear hv1
  generalize (Ex.kreadR S.T S.n S.vs e a b).2 = err at *
  obtain ⟨Z, hZ⟩ : ∃ Z, Z = w1.alloc (.cells #[.int .u64 val] 42) := ⟨_, rfl⟩
  have hbZ : Below w1.heap.size w1 Z := by rw [hZ]; exact Ca.below_alloc _ _
  have HD : Hid (RDid X Y k S.n w (S, ansW err [val], err) (.returned (.tuple #[.slice (some ⟨w1.heap.size, 0, none⟩) 1 1, .int .i64 0])) Z) := ⟨_, _, _, by rw [HA.out.2], by rw [HA.out.1, hZ]; exact rdv_one _ _, HR1.out.below hbZ, HU1.out.trans (UpdP.of_below hbZ)⟩
  have HZ : Hid _ := hZ
  clear hZ hbZ
  go_wp2
  go_ret2
  rw [← HZ.out]
  exact HD.out
 ·have HA : Hid (ansW (Ex.kreadR S.T S.n S.vs e a b).2 [(Ex.kreadR S.T S.n S.vs e a b).1] = []) := ans_err he _
  have hee : ((Ex.kreadR S.T S.n S.vs e a b).2 == 0) = false := by simpa using he
  clear he
  generalize (Ex.kreadR S.T S.n S.vs e a b).1 = val at *
  generalize (Ex.kreadR S.T S.n S.vs e a b).2 = err at *
  go_wp2
  go_ret2
  exact ⟨none, 0, 0, rfl, by rw [HA.out]; exact RdV.nil _ _ _, HR1.out, HU1.out⟩
set_option maxRecDepth 100000 in
set_option maxHeartbeats 2000000 in
theorem f_10 (h : RefX w X Y k S) (o : OkR S) (hk : k ≤ 800) (e a b d : Int) (g f nv cv : Nat) (x2 : Int) (z2 : ∀ w', UpdP (RP X Y S.n) w w' → w'.cell? ⟨g, f + 2, none⟩ = some (.int .u64 x2)) (hnv : 2 < nv) :
  Calls Tryz.prog 34 #[ptr X, .int .i64 e, .int .u64 10, .agg #[.int .i64 a, .int .i64 b, .int .i64 d], (.slice (some ⟨g, f, none⟩) nv cv)] w (RDid X Y k S.n w ({ S with vs := Ex.kwriteV S.T S.n S.vs e a b x2, T := S.T, F := S.F }, [], Ex.kwriteR S.T S.n e a b)) := by
 have HZ2 : Hid _ := z2
 have hnn0 : (0 : Int) < (nv : Int) := by omega
 have hna0 : 0 < nv := by omega
 have hnn1 : (1 : Int) < (nv : Int) := by omega
 have hna1 : 1 < nv := by omega
 have hnn2 : (2 : Int) < (nv : Int) := by omega
 have hna2 : 2 < nv := by omega
 clear hnv z2
 obtain ⟨W, hW⟩ : ∃ W, W = w.alloc (.cells #[.int .i64 a, .int .i64 b, .int .i64 d] 91) := ⟨_, rfl⟩
 obtain ⟨B, hB⟩ : ∃ B, B = w.heap.size := ⟨_, rfl⟩
 have hbW : Below w.heap.size w W := by rw [hW]; exact Ca.below_alloc _ _
 have hXW : W.heap[B]? = some (.cells #[.int .i64 a, .int .i64 b, .int .i64 d] 91) := by rw [hW, hB]; exact heap_alloc_new _ _
 have hdr : Below W.heap.size W W.drew := (Below.refl _ _).drew
 have hRW : RefX W X Y k S := h.below hbW
 have hRd : RefX W.drew X Y k S := hRW.below hdr
 have hXd : W.drew.heap[B]? = some (.cells #[.int .i64 a, .int .i64 b, .int .i64 d] 91) := hXW
 have HUW : Hid (UpdP (RP X Y S.n) w W) := UpdP.of_below hbW
 have HUd : Hid (UpdP (RP X Y S.n) w W.drew) := (UpdP.of_below hbW).trans (UpdP.of_below hdr)
 have HW : Hid (W = w.alloc (.cells #[.int .i64 a, .int .i64 b, .int .i64 d] 91)) := hW
 have HB : Hid (B = w.heap.size) := hB
 clear hW hB hbW hdr h
 have z2 := HZ2.out W.drew HUd.out
 have hop := x_write hRd o hk e a b x2
 have y0 : W.drew.cell? ⟨B, 0, none⟩ = some (.int .i64 a) := by rw [cell_of_heap hXd]; rfl
 have y1 : W.drew.cell? ⟨B, 1, none⟩ = some (.int .i64 b) := by rw [cell_of_heap hXd]; rfl
 have y2 : W.drew.cell? ⟨B, 2, none⟩ = some (.int .i64 d) := by rw [cell_of_heap hXd]; rfl
 have hS := show W.drew.cell? ⟨X, 0, none⟩ = some (ptr Y.J.p0) ∧ W.drew.cell? ⟨B, 0, none⟩ = some (.int .i64 a) ∧ W.drew.cell? ⟨B, 1, none⟩ = some (.int .i64 b) ∧ W.drew.cell? ⟨g, f + 2, none⟩ = some (.int .u64 x2) from ⟨hRd.c0, y0, y1, z2⟩
 have HRd : Hid _ := hRd
 have HXd : Hid _ := hXd
 clear hRW hXW hRd hXd z2 y0 y1 y2
 go_enter Tryz.func34, Tryz.ntmps34
 go_wp2_with fail
 rw [← HW.out, ← HB.out]
 clear HW HB
 refine wp_region_held_drew (S := fun w' => w'.cell? ⟨X, 0, none⟩ = some (ptr Y.J.p0) ∧ w'.cell? ⟨B, 0, none⟩ = some (.int .i64 a) ∧ w'.cell? ⟨B, 1, none⟩ = some (.int .i64 b) ∧ w'.cell? ⟨g, f + 2, none⟩ = some (.int .u64 x2)) (by kernel_rfl) hS (fun hHeld => ?_)
 refine tkz [0, 1, 2, 3, 4, 5, 6, 7, 8, 9, 10, 11] ?_
 iterate 12
  refine tky (v := ?_) rfl (by kernel_rfl) (by kernel_rfl) (by kernel_rfl) (fun _ _ _ h => h) (Or.inl ⟨by kernel_rfl, ?_⟩) (by assumption) ?_
  rotate_left
  ·(intro w hSw; (try dsimp only at hSw); go_simp) <;> with_reducible rfl
  (try simp only [Act.put, lqa, lqb, lqc, lqd, lqe, lqf])
 refine tkw ?_
 refine wpAnyH_ready (rs := [12]) (by kernel_rfl) (by simp) ?_
 refine AllReadyH.cons rfl (fun K hK => ?_) AllReadyH.nil
 go_simp
 refine hop.mono ?_
 rintro x w1 ⟨rfl, hR1, hu1⟩
 have hU1 : UpdP (RP X Y S.n) w w1 := HUd.out.trans hu1
 have hX1 := RefX.box HRd.out hu1 HXd.out
 have u0 : w1.cell? ⟨B, 0, none⟩ = some (.int .i64 a) := by rw [cell_of_heap hX1]; rfl
 have u1 : w1.cell? ⟨B, 1, none⟩ = some (.int .i64 b) := by rw [cell_of_heap hX1]; rfl
 have u2 : w1.cell? ⟨B, 2, none⟩ = some (.int .i64 d) := by rw [cell_of_heap hX1]; rfl
 have hS1 := show w1.cell? ⟨X, 0, none⟩ = some (ptr Y.J.p0) ∧ w1.cell? ⟨B, 0, none⟩ = some (.int .i64 a) ∧ w1.cell? ⟨B, 1, none⟩ = some (.int .i64 b) ∧ w1.cell? ⟨g, f + 2, none⟩ = some (.int .u64 x2) from ⟨hR1.c0, u0, u1, (HZ2.out w1 hU1)⟩
 have HR1 : Hid _ := hR1
 have HU1 : Hid _ := hU1
 clear hop hR1 hu1 hU1 hX1 u0 u1 u2
 refine hK.out _ _ hS1 (fun hHeld => ?_)
 clear hK K
 (try simp only [Act.put, lqa, lqb, lqc, lqd, lqe, lqf])
 refine tkz [13, 14] ?_
 iterate 2
  refine tky (v := ?_) rfl (by kernel_rfl) (by kernel_rfl) (by kernel_rfl) (fun _ _ _ h => h) (Or.inl ⟨by kernel_rfl, ?_⟩) (by assumption) ?_
  rotate_left
  ·(intro w hSw; (try dsimp only at hSw); go_simp) <;> with_reducible rfl
  (try simp only [Act.put, lqa, lqb, lqc, lqd, lqe, lqf])
 refine tkw ?_
 refine wpAnyH_done (by kernel_rfl) ?_ _
 clear hHeld
 go_wp2
 go_ret2
 exact ⟨none, 0, 0, rfl, RdV.nil _ _ _, HR1.out, HU1.out⟩
set_option maxRecDepth 100000 in
set_option maxHeartbeats 2000000 in
theorem f_11 (h : RefX w X Y k S) (o : OkR S) (hk : k ≤ 800) (e a b d : Int) (g f nv cv : Nat) (a2 : Option Addr) (c2 : Nat) (vals : List Int) (hcut : ∀ U : World, (Instr.slice 27 (.slice (some ⟨g, f, none⟩) nv cv) (some (.int .i64 1)) none none).run Tryz.prog U = .ok (.slice a2 vals.length c2) U) (hvals : ∀ w', UpdP (RP X Y S.n) w w' → Ip.Rd w' a2 vals) (a' : Option Addr) (c' : Nat) :
  Calls Tryz.prog 34 #[ptr X, .int .i64 e, .int .u64 11, .agg #[.int .i64 a, .int .i64 b, .int .i64 d], (.slice (some ⟨g, f, none⟩) nv cv)] w (RDid X Y k S.n w ({ S with Q := Ip.sendQ S.Q e a a' c' vals }, [], Ip.sendR S.Q e a vals.length)) := by
 obtain ⟨W, hW⟩ : ∃ W, W = w.alloc (.cells #[.int .i64 a, .int .i64 b, .int .i64 d] 91) := ⟨_, rfl⟩
 obtain ⟨B, hB⟩ : ∃ B, B = w.heap.size := ⟨_, rfl⟩
 have hbW : Below w.heap.size w W := by rw [hW]; exact Ca.below_alloc _ _
 have hXW : W.heap[B]? = some (.cells #[.int .i64 a, .int .i64 b, .int .i64 d] 91) := by rw [hW, hB]; exact heap_alloc_new _ _
 have hdr : Below W.heap.size W W.drew := (Below.refl _ _).drew
 have hRW : RefX W X Y k S := h.below hbW
 have hRd : RefX W.drew X Y k S := hRW.below hdr
 have hXd : W.drew.heap[B]? = some (.cells #[.int .i64 a, .int .i64 b, .int .i64 d] 91) := hXW
 have HUW : Hid (UpdP (RP X Y S.n) w W) := UpdP.of_below hbW
 have HUd : Hid (UpdP (RP X Y S.n) w W.drew) := (UpdP.of_below hbW).trans (UpdP.of_below hdr)
 have HW : Hid (W = w.alloc (.cells #[.int .i64 a, .int .i64 b, .int .i64 d] 91)) := hW
 have HB : Hid (B = w.heap.size) := hB
 clear hW hB hbW hdr h
 have hop := x_send hRd hk e a a2 vals c2 (hvals W.drew HUd.out) a' c'
 have y0 : W.drew.cell? ⟨B, 0, none⟩ = some (.int .i64 a) := by rw [cell_of_heap hXd]; rfl
 have y1 : W.drew.cell? ⟨B, 1, none⟩ = some (.int .i64 b) := by rw [cell_of_heap hXd]; rfl
 have y2 : W.drew.cell? ⟨B, 2, none⟩ = some (.int .i64 d) := by rw [cell_of_heap hXd]; rfl
 have hS := y0
 have HRd : Hid _ := hRd
 have HXd : Hid _ := hXd
 generalize vals.length = N at *
 clear hRW hXW hRd hXd hvals y0 y1 y2
 go_enter Tryz.func34, Tryz.ntmps34
 go_wp2_with fail
 rw [← HW.out, ← HB.out]
 clear HW HB
 refine wp_region_held_drew (S := fun w' => w'.cell? ⟨B, 0, none⟩ = some (.int .i64 a)) (by kernel_rfl) hS (fun hHeld => ?_)
 refine tkz [0, 1, 2, 3, 4, 5, 6, 7] ?_
 iterate 8
  refine tky (v := ?_) rfl (by kernel_rfl) (by kernel_rfl) (by kernel_rfl) (fun _ _ _ h => h) (Or.inl ⟨by kernel_rfl, ?_⟩) (by assumption) ?_
  rotate_left
  ·(intro w hSw; (try dsimp only at hSw); go_simp) <;> with_reducible rfl
  (try simp only [Act.put, lqa, lqb, lqc, lqd, lqe, lqf])
 refine tkw ?_
 refine wpAnyH_ready (rs := [8]) (by kernel_rfl) (by simp) ?_
 refine AllReadyH.cons rfl (fun K hK => ?_) AllReadyH.nil
 go_simp
 refine hop.mono ?_
 rintro x w1 ⟨rfl, hR1, hu1⟩
 have hU1 : UpdP (RP X Y S.n) w w1 := HUd.out.trans hu1
 have hX1 := RefX.box HRd.out hu1 HXd.out
 have u0 : w1.cell? ⟨B, 0, none⟩ = some (.int .i64 a) := by rw [cell_of_heap hX1]; rfl
 have u1 : w1.cell? ⟨B, 1, none⟩ = some (.int .i64 b) := by rw [cell_of_heap hX1]; rfl
 have u2 : w1.cell? ⟨B, 2, none⟩ = some (.int .i64 d) := by rw [cell_of_heap hX1]; rfl
 have hS1 := u0
 have HR1 : Hid _ := hR1
 have HU1 : Hid _ := hU1
 clear hop hR1 hu1 hU1 hX1 u0 u1 u2
 refine hK.out _ _ hS1 (fun hHeld => ?_)
 clear hK K
 (try simp only [Act.put, lqa, lqb, lqc, lqd, lqe, lqf])
 refine tkz [9, 10] ?_
 iterate 2
  refine tky (v := ?_) rfl (by kernel_rfl) (by kernel_rfl) (by kernel_rfl) (fun _ _ _ h => h) (Or.inl ⟨by kernel_rfl, ?_⟩) (by assumption) ?_
  rotate_left
  ·(intro w hSw; (try dsimp only at hSw); go_simp) <;> with_reducible rfl
  (try simp only [Act.put, lqa, lqb, lqc, lqd, lqe, lqf])
 refine tkw ?_
 refine wpAnyH_done (by kernel_rfl) ?_ _
 clear hHeld
 go_wp2
 go_ret2
 exact ⟨none, 0, 0, rfl, RdV.nil _ _ _, HR1.out, HU1.out⟩
end
end Go.Proofs.YtbhpafgoofkkmaaGreatDoor
