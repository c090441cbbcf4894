import Derived.Test.YtbhpafgoofkkmaaGreatDoorRxF
import Derived.Test.YtbhpafgoofkkmaaGreatDoorXoT
import Derived.Deep.RegionHeld3
set_option linter.all false
namespace Go.Proofs.YtbhpafgoofkkmaaGreatDoor
open Go.RowKit
section
variable {w : World} {X : Nat} {Y : RxL} {k : Nat} {S : XS}
set_option maxRecDepth 100000 in
set_option maxHeartbeats 2000000 in
theorem s_13 (h : RefX w X Y k S) (o : OkR S) (hk : k ≤ 800) (e a b d : Int) (av : Option Addr) (nv cv : Nat) (ha : Ca.I64 a) (hb : Ca.I64 b) :
  Calls Tryz.prog 33 #[ptr X, .int .i64 e, .int .u64 13, .agg #[.int .i64 a, .int .i64 b, .int .i64 d], (.slice av nv cv)] w (RDid X Y k S.n w ({ S with m := S.m, ds := S.ds, l := S.l, C := Xd.xallocT S.C S.d e a b }, ansW (Xd.xallocR S.C S.d e a b) [Xd.xallocA S.C S.d e a b], Xd.xallocR S.C S.d e a b)) := by
 obtain ⟨W, hW⟩ : ∃ W, W = w.alloc (.cells #[.int .i64 a, .int .i64 b, .int .i64 d] 91) := ⟨_, rfl⟩
 obtain ⟨B, hB⟩ : ∃ B, B = w.heap.size := ⟨_, rfl⟩
 have hbW : Below w.heap.size w W := by rw [hW]; exact Ca.below_alloc _ _
 have hXW : W.heap[B]? = some (.cells #[.int .i64 a, .int .i64 b, .int .i64 d] 91) := by rw [hW, hB]; exact heap_alloc_new _ _
 have hdr : Below W.heap.size W W.drew := (Below.refl _ _).drew
 have hRW : RefX W X Y k S := h.below hbW
 have hRd : RefX W.drew X Y k S := hRW.below hdr
 have hXd : W.drew.heap[B]? = some (.cells #[.int .i64 a, .int .i64 b, .int .i64 d] 91) := hXW
 have HUW : Hid (UpdP (RP X Y S.n) w W) := UpdP.of_below hbW
 have HUd : Hid (UpdP (RP X Y S.n) w W.drew) := (UpdP.of_below hbW).trans (UpdP.of_below hdr)
 have HW : Hid (W = w.alloc (.cells #[.int .i64 a, .int .i64 b, .int .i64 d] 91)) := hW
 have HB : Hid (B = w.heap.size) := hB
 clear hW hB hbW hdr h
 have HL : Hid (0 ≤ Xd.xallocA S.C S.d e a b ∧ Xd.xallocA S.C S.d e a b < 18446744073709551616) := xallocA_in _ _ _ _ _
 have hop := x_xalloc hRd o hk e a b ha hb
 have y0 : W.drew.cell? ⟨B, 0, none⟩ = some (.int .i64 a) := by rw [cell_of_heap hXd]; rfl
 have y1 : W.drew.cell? ⟨B, 1, none⟩ = some (.int .i64 b) := by rw [cell_of_heap hXd]; rfl
 have y2 : W.drew.cell? ⟨B, 2, none⟩ = some (.int .i64 d) := by rw [cell_of_heap hXd]; rfl
 have hS := show W.drew.cell? ⟨X, 1, none⟩ = some (ptr Y.J.p1) ∧ W.drew.cell? ⟨B, 0, none⟩ = some (.int .i64 a) ∧ W.drew.cell? ⟨B, 1, none⟩ = some (.int .i64 b) from ⟨hRd.c1, y0, y1⟩
 have HRd : Hid _ := hRd
 have HXd : Hid _ := hXd
 clear hRW hXW hRd hXd y0 y1 y2
 go_enter Tryz.func33, Tryz.ntmps33
 go_wp2_with fail
 rw [← HW.out, ← HB.out]
 clear HW HB
 refine wp_region_held_drew (S := fun w' => w'.cell? ⟨X, 1, none⟩ = some (ptr Y.J.p1) ∧ w'.cell? ⟨B, 0, none⟩ = some (.int .i64 a) ∧ w'.cell? ⟨B, 1, none⟩ = some (.int .i64 b)) (by kernel_rfl) hS (fun hHeld => ?_)
 refine tkz [0, 1, 2, 3, 4, 5, 6, 7, 8] ?_
 iterate 9
  refine tky (v := ?_) rfl (by kernel_rfl) (by kernel_rfl) (by kernel_rfl) (fun _ _ _ h => h) (Or.inl ⟨by kernel_rfl, ?_⟩) (by assumption) ?_
  rotate_left
  ·(intro w hSw; (try dsimp only at hSw); go_simp) <;> with_reducible rfl
  (try simp only [Act.put, lqa, lqb, lqc, lqd, lqe, lqf])
 refine tkw ?_
 refine wpAnyH_ready (rs := [9]) (by kernel_rfl) (by simp) ?_
 refine AllReadyH.cons rfl (fun K hK => ?_) AllReadyH.nil
 go_simp
 refine hop.mono ?_
 rintro x w1 ⟨rfl, hR1, hu1⟩
 have hU1 : UpdP (RP X Y S.n) w w1 := HUd.out.trans hu1
 have hX1 := RefX.box HRd.out hu1 HXd.out
 have u0 : w1.cell? ⟨B, 0, none⟩ = some (.int .i64 a) := by rw [cell_of_heap hX1]; rfl
 have u1 : w1.cell? ⟨B, 1, none⟩ = some (.int .i64 b) := by rw [cell_of_heap hX1]; rfl
 have u2 : w1.cell? ⟨B, 2, none⟩ = some (.int .i64 d) := by rw [cell_of_heap hX1]; rfl
 have hS1 := show w1.cell? ⟨X, 1, none⟩ = some (ptr Y.J.p1) ∧ w1.cell? ⟨B, 0, none⟩ = some (.int .i64 a) ∧ w1.cell? ⟨B, 1, none⟩ = some (.int .i64 b) from ⟨hR1.c1, u0, u1⟩
 have HR1 : Hid _ := hR1
 have HU1 : Hid _ := hU1
 have hwd := word_at (Xd.xallocA S.C S.d e a b) (Xd.xallocR S.C S.d e a b) w1 HL.out.1 HL.out.2
 clear hop hR1 hu1 hU1 hX1 u0 u1 u2
 refine hK.out _ _ hS1 (fun hHeld => ?_)
 clear hK K
 (try simp only [Act.put, lqa, lqb, lqc, lqd, lqe, lqf])
 refine tkz [10, 11] ?_
 iterate 2
  refine tky (v := ?_) rfl (by kernel_rfl) (by kernel_rfl) (by kernel_rfl) (fun _ _ _ h => h) (Or.inl ⟨by kernel_rfl, ?_⟩) (by assumption) ?_
  rotate_left
  ·(intro w hSw; (try dsimp only at hSw); go_simp) <;> with_reducible rfl
  (try simp only [Act.put, lqa, lqb, lqc, lqd, lqe, lqf])
 refine tkw ?_
 refine wpAnyH_ready (rs := [12]) (by kernel_rfl) (by simp) ?_
 refine AllReadyH.cons rfl (fun K hK => ?_) AllReadyH.nil
 go_simp
 refine hwd.mono ?_
 rintro x w2 ⟨a2, m2, c2, rfl, hr2, hb2⟩
 have HD : Hid (RDid X Y k S.n w ({ S with m := S.m, ds := S.ds, l := S.l, C := Xd.xallocT S.C S.d e a b }, ansW (Xd.xallocR S.C S.d e a b) [Xd.xallocA S.C S.d e a b], Xd.xallocR S.C S.d e a b) (.returned (.tuple #[.slice a2 m2 c2, .int .i64 (({ S with m := S.m, ds := S.ds, l := S.l, C := Xd.xallocT S.C S.d e a b }, ansW (Xd.xallocR S.C S.d e a b) [Xd.xallocA S.C S.d e a b], Xd.xallocR S.C S.d e a b)).2.2])) w2) := ⟨a2, m2, c2, rfl, hr2, HR1.out.below hb2, HU1.out.trans (UpdP.of_below hb2)⟩
 have hS2 := show w2.cell? ⟨X, 1, none⟩ = some (ptr Y.J.p1) ∧ w2.cell? ⟨B, 0, none⟩ = some (.int .i64 a) ∧ w2.cell? ⟨B, 1, none⟩ = some (.int .i64 b) from ⟨(hb2.cell (cell_lt hS1.1)).trans hS1.1, (hb2.cell (cell_lt hS1.2.1)).trans hS1.2.1, (hb2.cell (cell_lt hS1.2.2)).trans hS1.2.2⟩
 clear hwd hr2 hb2
 refine hK.out _ _ hS2 (fun hHeld => ?_)
 clear hK K
 (try simp only [Act.put, lqa, lqb, lqc, lqd, lqe, lqf])
 refine tkz [13, 14, 15, 16] ?_
 iterate 4
  refine tky (v := ?_) rfl (by kernel_rfl) (by kernel_rfl) (by kernel_rfl) (fun _ _ _ h => h) (Or.inl ⟨by kernel_rfl, ?_⟩) (by assumption) ?_
  rotate_left
  ·(intro w hSw; (try dsimp only at hSw); go_simp) <;> with_reducible rfl
  (try simp only [Act.put, lqa, lqb, lqc, lqd, lqe, lqf])
 refine tkw ?_
 refine wpAnyH_done (by kernel_rfl) ?_ _
 clear hHeld
 go_wp2
 go_ret2
 exact HD.out
set_option maxRecDepth 100000 in
set_option maxHeartbeats 2000000 in
theorem s_14 (h : RefX w X Y k S) (o : OkR S) (hk : k ≤ 800) (e a b d : Int) (av : Option Addr) (nv cv : Nat) :
  Calls Tryz.prog 33 #[ptr X, .int .i64 e, .int .u64 14, .agg #[.int .i64 a, .int .i64 b, .int .i64 d], (.slice av nv cv)] w (RDid X Y k S.n w ({ S with m := S.m, ds := S.ds, l := S.l, C := Ca.giveT S.C e a b d }, ansW (Ca.giveR S.C e a b d) [Ca.giveA S.C e a b d], Ca.giveR S.C e a b d)) := by
 obtain ⟨W, hW⟩ : ∃ W, W = w.alloc (.cells #[.int .i64 a, .int .i64 b, .int .i64 d] 91) := ⟨_, rfl⟩
 obtain ⟨B, hB⟩ : ∃ B, B = w.heap.size := ⟨_, rfl⟩
 have hbW : Below w.heap.size w W := by rw [hW]; exact Ca.below_alloc _ _
 have hXW : W.heap[B]? = some (.cells #[.int .i64 a, .int .i64 b, .int .i64 d] 91) := by rw [hW, hB]; exact heap_alloc_new _ _
 have hdr : Below W.heap.size W W.drew := (Below.refl _ _).drew
 have hRW : RefX W X Y k S := h.below hbW
 have hRd : RefX W.drew X Y k S := hRW.below hdr
 have hXd : W.drew.heap[B]? = some (.cells #[.int .i64 a, .int .i64 b, .int .i64 d] 91) := hXW
 have HUW : Hid (UpdP (RP X Y S.n) w W) := UpdP.of_below hbW
 have HUd : Hid (UpdP (RP X Y S.n) w W.drew) := (UpdP.of_below hbW).trans (UpdP.of_below hdr)
 have HW : Hid (W = w.alloc (.cells #[.int .i64 a, .int .i64 b, .int .i64 d] 91)) := hW
 have HB : Hid (B = w.heap.size) := hB
 clear hW hB hbW hdr h
 have HL : Hid (0 ≤ Ca.giveA S.C e a b d ∧ Ca.giveA S.C e a b d < 18446744073709551616) := giveA_in _ _ _ _ _
 have hop := x_xgive hRd o hk e a b d
 have y0 : W.drew.cell? ⟨B, 0, none⟩ = some (.int .i64 a) := by rw [cell_of_heap hXd]; rfl
 have y1 : W.drew.cell? ⟨B, 1, none⟩ = some (.int .i64 b) := by rw [cell_of_heap hXd]; rfl
 have y2 : W.drew.cell? ⟨B, 2, none⟩ = some (.int .i64 d) := by rw [cell_of_heap hXd]; rfl
 have hS := show W.drew.cell? ⟨X, 1, none⟩ = some (ptr Y.J.p1) ∧ W.drew.cell? ⟨Y.J.p1, 1, none⟩ = some (ptr Y.QD.c) ∧ W.drew.cell? ⟨B, 0, none⟩ = some (.int .i64 a) ∧ W.drew.cell? ⟨B, 1, none⟩ = some (.int .i64 b) ∧ W.drew.cell? ⟨B, 2, none⟩ = some (.int .i64 d) from ⟨hRd.c1, hRd.dc, y0, y1, y2⟩
 have HRd : Hid _ := hRd
 have HXd : Hid _ := hXd
 clear hRW hXW hRd hXd y0 y1 y2
 go_enter Tryz.func33, Tryz.ntmps33
 go_wp2_with fail
 rw [← HW.out, ← HB.out]
 clear HW HB
 refine wp_region_held_drew (S := fun w' => w'.cell? ⟨X, 1, none⟩ = some (ptr Y.J.p1) ∧ w'.cell? ⟨Y.J.p1, 1, none⟩ = some (ptr Y.QD.c) ∧ w'.cell? ⟨B, 0, none⟩ = some (.int .i64 a) ∧ w'.cell? ⟨B, 1, none⟩ = some (.int .i64 b) ∧ w'.cell? ⟨B, 2, none⟩ = some (.int .i64 d)) (by kernel_rfl) hS (fun hHeld => ?_)
 refine tkz [0, 1, 2, 3, 4, 5, 6, 7, 8, 9, 10, 11, 12, 13] ?_
 iterate 14
  refine tky (v := ?_) rfl (by kernel_rfl) (by kernel_rfl) (by kernel_rfl) (fun _ _ _ h => h) (Or.inl ⟨by kernel_rfl, ?_⟩) (by assumption) ?_
  rotate_left
  ·(intro w hSw; (try dsimp only at hSw); go_simp) <;> with_reducible rfl
  (try simp only [Act.put, lqa, lqb, lqc, lqd, lqe, lqf])
 refine tkw ?_
 refine wpAnyH_ready (rs := [14]) (by kernel_rfl) (by simp) ?_
 refine AllReadyH.cons rfl (fun K hK => ?_) AllReadyH.nil
 go_simp
 refine hop.mono ?_
 rintro x w1 ⟨rfl, hR1, hu1⟩
 have hU1 : UpdP (RP X Y S.n) w w1 := HUd.out.trans hu1
 have hX1 := RefX.box HRd.out hu1 HXd.out
 have u0 : w1.cell? ⟨B, 0, none⟩ = some (.int .i64 a) := by rw [cell_of_heap hX1]; rfl
 have u1 : w1.cell? ⟨B, 1, none⟩ = some (.int .i64 b) := by rw [cell_of_heap hX1]; rfl
 have u2 : w1.cell? ⟨B, 2, none⟩ = some (.int .i64 d) := by rw [cell_of_heap hX1]; rfl
 have hS1 := show w1.cell? ⟨X, 1, none⟩ = some (ptr Y.J.p1) ∧ w1.cell? ⟨Y.J.p1, 1, none⟩ = some (ptr Y.QD.c) ∧ w1.cell? ⟨B, 0, none⟩ = some (.int .i64 a) ∧ w1.cell? ⟨B, 1, none⟩ = some (.int .i64 b) ∧ w1.cell? ⟨B, 2, none⟩ = some (.int .i64 d) from ⟨hR1.c1, hR1.dc, u0, u1, u2⟩
 have HR1 : Hid _ := hR1
 have HU1 : Hid _ := hU1
 have hwd := word_at (Ca.giveA S.C e a b d) (Ca.giveR S.C e a b d) w1 HL.out.1 HL.out.2
 clear hop hR1 hu1 hU1 hX1 u0 u1 u2
 refine hK.out _ _ hS1 (fun hHeld => ?_)
 clear hK K
 (try simp only [Act.put, lqa, lqb, lqc, lqd, lqe, lqf])
 refine tkz [15, 16] ?_
 iterate 2
  refine tky (v := ?_) rfl (by kernel_rfl) (by kernel_rfl) (by kernel_rfl) (fun _ _ _ h => h) (Or.inl ⟨by kernel_rfl, ?_⟩) (by assumption) ?_
  rotate_left
  ·(intro w hSw; (try dsimp only at hSw); go_simp) <;> with_reducible rfl
  (try simp only [Act.put, lqa, lqb, lqc, lqd, lqe, lqf])
 refine tkw ?_
 refine wpAnyH_ready (rs := [17]) (by kernel_rfl) (by simp) ?_
 refine AllReadyH.cons rfl (fun K hK => ?_) AllReadyH.nil
 go_simp
 refine hwd.mono ?_
 rintro x w2 ⟨a2, m2, c2, rfl, hr2, hb2⟩
 have HD : Hid (RDid X Y k S.n w ({ S with m := S.m, ds := S.ds, l := S.l, C := Ca.giveT S.C e a b d }, ansW (Ca.giveR S.C e a b d) [Ca.giveA S.C e a b d], Ca.giveR S.C e a b d) (.returned (.tuple #[.slice a2 m2 c2, .int .i64 (({ S with m := S.m, ds := S.ds, l := S.l, C := Ca.giveT S.C e a b d }, ansW (Ca.giveR S.C e a b d) [Ca.giveA S.C e a b d], Ca.giveR S.C e a b d)).2.2])) w2) := ⟨a2, m2, c2, rfl, hr2, HR1.out.below hb2, HU1.out.trans (UpdP.of_below hb2)⟩
 have hS2 := show w2.cell? ⟨X, 1, none⟩ = some (ptr Y.J.p1) ∧ w2.cell? ⟨Y.J.p1, 1, none⟩ = some (ptr Y.QD.c) ∧ w2.cell? ⟨B, 0, none⟩ = some (.int .i64 a) ∧ w2.cell? ⟨B, 1, none⟩ = some (.int .i64 b) ∧ w2.cell? ⟨B, 2, none⟩ = some (.int .i64 d) from ⟨(hb2.cell (cell_lt hS1.1)).trans hS1.1, (hb2.cell (cell_lt hS1.2.1)).trans hS1.2.1, (hb2.cell (cell_lt hS1.2.2.1)).trans hS1.2.2.1, (hb2.cell (cell_lt hS1.2.2.2.1)).trans hS1.2.2.2.1, (hb2.cell (cell_lt hS1.2.2.2.2)).trans hS1.2.2.2.2⟩
 clear hwd hr2 hb2
 refine hK.out _ _ hS2 (fun hHeld => ?_)
 clear hK K
 (try simp only [Act.put, lqa, lqb, lqc, lqd, lqe, lqf])
 refine tkz [18, 19, 20, 21] ?_
 iterate 4
  refine tky (v := ?_) rfl (by kernel_rfl) (by kernel_rfl) (by kernel_rfl) (fun _ _ _ h => h) (Or.inl ⟨by kernel_rfl, ?_⟩) (by assumption) ?_
  rotate_left
  ·(intro w hSw; (try dsimp only at hSw); go_simp) <;> with_reducible rfl
  (try simp only [Act.put, lqa, lqb, lqc, lqd, lqe, lqf])
 refine tkw ?_
 refine wpAnyH_done (by kernel_rfl) ?_ _
 clear hHeld
 go_wp2
 go_ret2
 exact HD.out
set_option maxRecDepth 100000 in
set_option maxHeartbeats 2000000 in
theorem s_15 (h : RefX w X Y k S) (o : OkR S) (hk : k ≤ 800) (e a b d : Int) (av : Option Addr) (nv cv : Nat) :
  Calls Tryz.prog 33 #[ptr X, .int .i64 e, .int .u64 15, .agg #[.int .i64 a, .int .i64 b, .int .i64 d], (.slice av nv cv)] w (RDid X Y k S.n w ({ S with m := S.m, ds := S.ds, l := S.l, C := Xd.revT S.C e a }, [], Xd.revR S.C e a)) := by
 obtain ⟨W, hW⟩ : ∃ W, W = w.alloc (.cells #[.int .i64 a, .int .i64 b, .int .i64 d] 91) := ⟨_, rfl⟩
 obtain ⟨B, hB⟩ : ∃ B, B = w.heap.size := ⟨_, rfl⟩
 have hbW : Below w.heap.size w W := by rw [hW]; exact Ca.below_alloc _ _
 have hXW : W.heap[B]? = some (.cells #[.int .i64 a, .int .i64 b, .int .i64 d] 91) := by rw [hW, hB]; exact heap_alloc_new _ _
 have hdr : Below W.heap.size W W.drew := (Below.refl _ _).drew
 have hRW : RefX W X Y k S := h.below hbW
 have hRd : RefX W.drew X Y k S := hRW.below hdr
 have hXd : W.drew.heap[B]? = some (.cells #[.int .i64 a, .int .i64 b, .int .i64 d] 91) := hXW
 have HUW : Hid (UpdP (RP X Y S.n) w W) := UpdP.of_below hbW
 have HUd : Hid (UpdP (RP X Y S.n) w W.drew) := (UpdP.of_below hbW).trans (UpdP.of_below hdr)
 have HW : Hid (W = w.alloc (.cells #[.int .i64 a, .int .i64 b, .int .i64 d] 91)) := hW
 have HB : Hid (B = w.heap.size) := hB
 clear hW hB hbW hdr h
 have hop := x_xrevoke hRd o hk e a
 have y0 : W.drew.cell? ⟨B, 0, none⟩ = some (.int .i64 a) := by rw [cell_of_heap hXd]; rfl
 have y1 : W.drew.cell? ⟨B, 1, none⟩ = some (.int .i64 b) := by rw [cell_of_heap hXd]; rfl
 have y2 : W.drew.cell? ⟨B, 2, none⟩ = some (.int .i64 d) := by rw [cell_of_heap hXd]; rfl
 have hS := show W.drew.cell? ⟨X, 1, none⟩ = some (ptr Y.J.p1) ∧ W.drew.cell? ⟨Y.J.p1, 1, none⟩ = some (ptr Y.QD.c) ∧ W.drew.cell? ⟨B, 0, none⟩ = some (.int .i64 a) from ⟨hRd.c1, hRd.dc, y0⟩
 have HRd : Hid _ := hRd
 have HXd : Hid _ := hXd
 clear hRW hXW hRd hXd y0 y1 y2
 go_enter Tryz.func33, Tryz.ntmps33
 go_wp2_with fail
 rw [← HW.out, ← HB.out]
 clear HW HB
 refine wp_region_held_drew (S := fun w' => w'.cell? ⟨X, 1, none⟩ = some (ptr Y.J.p1) ∧ w'.cell? ⟨Y.J.p1, 1, none⟩ = some (ptr Y.QD.c) ∧ w'.cell? ⟨B, 0, none⟩ = some (.int .i64 a)) (by kernel_rfl) hS (fun hHeld => ?_)
 refine tkz [0, 1, 2, 3, 4, 5, 6, 7, 8, 9] ?_
 iterate 10
  refine tky (v := ?_) rfl (by kernel_rfl) (by kernel_rfl) (by kernel_rfl) (fun _ _ _ h => h) (Or.inl ⟨by kernel_rfl, ?_⟩) (by assumption) ?_
  rotate_left
  ·(intro w hSw; (try dsimp only at hSw); go_simp) <;> with_reducible rfl
  (try simp only [Act.put, lqa, lqb, lqc, lqd, lqe, lqf])
 refine tkw ?_
 refine wpAnyH_ready (rs := [10]) (by kernel_rfl) (by simp) ?_
 refine AllReadyH.cons rfl (fun K hK => ?_) AllReadyH.nil
 go_simp
 refine hop.mono ?_
 rintro x w1 ⟨N, rfl, hR1, hu1⟩
 have hU1 : UpdP (RP X Y S.n) w w1 := HUd.out.trans hu1
 have hX1 := RefX.box HRd.out hu1 HXd.out
 have u0 : w1.cell? ⟨B, 0, none⟩ = some (.int .i64 a) := by rw [cell_of_heap hX1]; rfl
 have u1 : w1.cell? ⟨B, 1, none⟩ = some (.int .i64 b) := by rw [cell_of_heap hX1]; rfl
 have u2 : w1.cell? ⟨B, 2, none⟩ = some (.int .i64 d) := by rw [cell_of_heap hX1]; rfl
 have hS1 := show w1.cell? ⟨X, 1, none⟩ = some (ptr Y.J.p1) ∧ w1.cell? ⟨Y.J.p1, 1, none⟩ = some (ptr Y.QD.c) ∧ w1.cell? ⟨B, 0, none⟩ = some (.int .i64 a) from ⟨hR1.c1, hR1.dc, u0⟩
 have HR1 : Hid _ := hR1
 have HU1 : Hid _ := hU1
 clear hop hR1 hu1 hU1 hX1 u0 u1 u2
 refine hK.out _ _ hS1 (fun hHeld => ?_)
 clear hK K
 (try simp only [Act.put, lqa, lqb, lqc, lqd, lqe, lqf])
 refine tkz [11, 12, 13, 14, 15] ?_
 iterate 5
  refine tky (v := ?_) rfl (by kernel_rfl) (by kernel_rfl) (by kernel_rfl) (fun _ _ _ h => h) (Or.inl ⟨by kernel_rfl, ?_⟩) (by assumption) ?_
  rotate_left
  ·(intro w hSw; (try dsimp only at hSw); go_simp) <;> with_reducible rfl
  (try simp only [Act.put, lqa, lqb, lqc, lqd, lqe, lqf])
 refine tkw ?_
 refine wpAnyH_done (by kernel_rfl) ?_ _
 clear hHeld
 go_wp2
 go_ret2
 exact ⟨none, 0, 0, rfl, RdV.nil _ _ _, HR1.out, HU1.out⟩
set_option maxRecDepth 100000 in
set_option maxHeartbeats 2000000 in
theorem s_16 (h : RefX w X Y k S) (o : OkR S) (hk : k ≤ 800) (e a b d : Int) (av : Option Addr) (nv cv : Nat) (hb : Ca.I64 b) :
  Calls Tryz.prog 33 #[ptr X, .int .i64 e, .int .u64 16, .agg #[.int .i64 a, .int .i64 b, .int .i64 d], (.slice av nv cv)] w (RDid X Y k S.n w ({ S with m := S.m + 1, ds := S.ds, l := Xd.getLl S.C S.l S.ds e a b, C := S.C }, Xd.getWw S.C S.l S.ds e a b, Xd.getRr S.C e a b)) := by
 obtain ⟨W, hW⟩ : ∃ W, W = w.alloc (.cells #[.int .i64 a, .int .i64 b, .int .i64 d] 91) := ⟨_, rfl⟩
 obtain ⟨B, hB⟩ : ∃ B, B = w.heap.size := ⟨_, rfl⟩
 have hbW : Below w.heap.size w W := by rw [hW]; exact Ca.below_alloc _ _
 have hXW : W.heap[B]? = some (.cells #[.int .i64 a, .int .i64 b, .int .i64 d] 91) := by rw [hW, hB]; exact heap_alloc_new _ _
 have hdr : Below W.heap.size W W.drew := (Below.refl _ _).drew
 have hRW : RefX W X Y k S := h.below hbW
 have hRd : RefX W.drew X Y k S := hRW.below hdr
 have hXd : W.drew.heap[B]? = some (.cells #[.int .i64 a, .int .i64 b, .int .i64 d] 91) := hXW
 have HUW : Hid (UpdP (RP X Y S.n) w W) := UpdP.of_below hbW
 have HUd : Hid (UpdP (RP X Y S.n) w W.drew) := (UpdP.of_below hbW).trans (UpdP.of_below hdr)
 have HW : Hid (W = w.alloc (.cells #[.int .i64 a, .int .i64 b, .int .i64 d] 91)) := hW
 have HB : Hid (B = w.heap.size) := hB
 clear hW hB hbW hdr h
 have hop := x_get hRd o hk e a b hb
 have y0 : W.drew.cell? ⟨B, 0, none⟩ = some (.int .i64 a) := by rw [cell_of_heap hXd]; rfl
 have y1 : W.drew.cell? ⟨B, 1, none⟩ = some (.int .i64 b) := by rw [cell_of_heap hXd]; rfl
 have y2 : W.drew.cell? ⟨B, 2, none⟩ = some (.int .i64 d) := by rw [cell_of_heap hXd]; rfl
 have hS := show W.drew.cell? ⟨X, 1, none⟩ = some (ptr Y.J.p1) ∧ W.drew.cell? ⟨B, 0, none⟩ = some (.int .i64 a) ∧ W.drew.cell? ⟨B, 1, none⟩ = some (.int .i64 b) from ⟨hRd.c1, y0, y1⟩
 have HRd : Hid _ := hRd
 have HXd : Hid _ := hXd
 clear hRW hXW hRd hXd y0 y1 y2
 go_enter Tryz.func33, Tryz.ntmps33
 go_wp2_with fail
 rw [← HW.out, ← HB.out]
 clear HW HB
 refine wp_region_held_drew (S := fun w' => w'.cell? ⟨X, 1, none⟩ = some (ptr Y.J.p1) ∧ w'.cell? ⟨B, 0, none⟩ = some (.int .i64 a) ∧ w'.cell? ⟨B, 1, none⟩ = some (.int .i64 b)) (by kernel_rfl) hS (fun hHeld => ?_)
 refine tkz [0, 1, 2, 3, 4, 5, 6, 7, 8] ?_
 iterate 9
  refine tky (v := ?_) rfl (by kernel_rfl) (by kernel_rfl) (by kernel_rfl) (fun _ _ _ h => h) (Or.inl ⟨by kernel_rfl, ?_⟩) (by assumption) ?_
  rotate_left
  ·(intro w hSw; (try dsimp only at hSw); go_simp) <;> with_reducible rfl
  (try simp only [Act.put, lqa, lqb, lqc, lqd, lqe, lqf])
 refine tkw ?_
 refine wpAnyH_ready (rs := [9]) (by kernel_rfl) (by simp) ?_
 refine AllReadyH.cons rfl (fun K hK => ?_) AllReadyH.nil
 go_simp
 refine hop.mono ?_
 rintro x w1 ⟨a9, n9, c9, rfl, hv9, hR1, hu1⟩
 have HV9 : Hid _ := hv9
 clear hv9
 have hU1 : UpdP (RP X Y S.n) w w1 := HUd.out.trans hu1
 have hX1 := RefX.box HRd.out hu1 HXd.out
 have u0 : w1.cell? ⟨B, 0, none⟩ = some (.int .i64 a) := by rw [cell_of_heap hX1]; rfl
 have u1 : w1.cell? ⟨B, 1, none⟩ = some (.int .i64 b) := by rw [cell_of_heap hX1]; rfl
 have u2 : w1.cell? ⟨B, 2, none⟩ = some (.int .i64 d) := by rw [cell_of_heap hX1]; rfl
 have hS1 := show w1.cell? ⟨X, 1, none⟩ = some (ptr Y.J.p1) ∧ w1.cell? ⟨B, 0, none⟩ = some (.int .i64 a) ∧ w1.cell? ⟨B, 1, none⟩ = some (.int .i64 b) from ⟨hR1.c1, u0, u1⟩
 have HR1 : Hid _ := hR1
 have HU1 : Hid _ := hU1
 clear hop hR1 hu1 hU1 hX1 u0 u1 u2
 refine hK.out _ _ hS1 (fun hHeld => ?_)
 clear hK K
 (try simp only [Act.put, lqa, lqb, lqc, lqd, lqe, lqf])
 refine tkz [10, 11, 12, 13] ?_
 iterate 4
  refine tky (v := ?_) rfl (by kernel_rfl) (by kernel_rfl) (by kernel_rfl) (fun _ _ _ h => h) (Or.inl ⟨by kernel_rfl, ?_⟩) (by assumption) ?_
  rotate_left
  ·(intro w hSw; (try dsimp only at hSw); go_simp) <;> with_reducible rfl
  (try simp only [Act.put, lqa, lqb, lqc, lqd, lqe, lqf])
 refine tkw ?_
 refine wpAnyH_done (by kernel_rfl) ?_ _
 clear hHeld
 go_wp2
 go_ret2
 exact ⟨a9, n9, c9, rfl, HV9.out, HR1.out, HU1.out⟩
set_option maxRecDepth 100000 in
set_option maxHeartbeats 2000000 in
theorem s_17 (h : RefX w X Y k S) (o : OkR S) (hk : k ≤ 800) (e a b d : Int) (g f nv cv : Nat) (a2 : Option Addr) (c2 : Nat) (vals : List Int) (hb : Ca.I64 b) (hcut : ∀ U : World, (Instr.slice 27 (.slice (some ⟨g, f, none⟩) nv cv) (some (.int .i64 2)) none none).run Tryz.prog U = .ok (.slice a2 vals.length c2) U) (hvals : ∀ w', UpdP (RP X Y S.n) w w' → RdV w' (.slice a2 vals.length c2) vals) :
  Calls Tryz.prog 33 #[ptr X, .int .i64 e, .int .u64 17, .agg #[.int .i64 a, .int .i64 b, .int .i64 d], (.slice (some ⟨g, f, none⟩) nv cv)] w (RDid X Y k S.n w ({ S with m := S.m, ds := S.ds, l := Xd.putLl S.C S.l e a b vals, C := S.C }, [], Xd.putRr S.C e a b vals.length)) := by
 obtain ⟨W, hW⟩ : ∃ W, W = w.alloc (.cells #[.int .i64 a, .int .i64 b, .int .i64 d] 91) := ⟨_, rfl⟩
 obtain ⟨B, hB⟩ : ∃ B, B = w.heap.size := ⟨_, rfl⟩
 have hbW : Below w.heap.size w W := by rw [hW]; exact Ca.below_alloc _ _
 have hXW : W.heap[B]? = some (.cells #[.int .i64 a, .int .i64 b, .int .i64 d] 91) := by rw [hW, hB]; exact heap_alloc_new _ _
 have hdr : Below W.heap.size W W.drew := (Below.refl _ _).drew
 have hRW : RefX W X Y k S := h.below hbW
 have hRd : RefX W.drew X Y k S := hRW.below hdr
 have hXd : W.drew.heap[B]? = some (.cells #[.int .i64 a, .int .i64 b, .int .i64 d] 91) := hXW
 have HUW : Hid (UpdP (RP X Y S.n) w W) := UpdP.of_below hbW
 have HUd : Hid (UpdP (RP X Y S.n) w W.drew) := (UpdP.of_below hbW).trans (UpdP.of_below hdr)
 have HW : Hid (W = w.alloc (.cells #[.int .i64 a, .int .i64 b, .int .i64 d] 91)) := hW
 have HB : Hid (B = w.heap.size) := hB
 clear hW hB hbW hdr h
 have hop := x_put hRd o hk e a b hb (fun w' hu => hvals w' (HUd.out.trans (rpD hu)))
 have y0 : W.drew.cell? ⟨B, 0, none⟩ = some (.int .i64 a) := by rw [cell_of_heap hXd]; rfl
 have y1 : W.drew.cell? ⟨B, 1, none⟩ = some (.int .i64 b) := by rw [cell_of_heap hXd]; rfl
 have y2 : W.drew.cell? ⟨B, 2, none⟩ = some (.int .i64 d) := by rw [cell_of_heap hXd]; rfl
 have hS := show W.drew.cell? ⟨X, 1, none⟩ = some (ptr Y.J.p1) ∧ W.drew.cell? ⟨B, 0, none⟩ = some (.int .i64 a) ∧ W.drew.cell? ⟨B, 1, none⟩ = some (.int .i64 b) from ⟨hRd.c1, y0, y1⟩
 have HRd : Hid _ := hRd
 have HXd : Hid _ := hXd
 generalize vals.length = N at *
 clear hRW hXW hRd hXd hvals y0 y1 y2
 go_enter Tryz.func33, Tryz.ntmps33
 go_wp2_with fail
 rw [← HW.out, ← HB.out]
 clear HW HB
 refine wp_region_held_drew (S := fun w' => w'.cell? ⟨X, 1, none⟩ = some (ptr Y.J.p1) ∧ w'.cell? ⟨B, 0, none⟩ = some (.int .i64 a) ∧ w'.cell? ⟨B, 1, none⟩ = some (.int .i64 b)) (by kernel_rfl) hS (fun hHeld => ?_)
 refine tkz [0, 1, 2, 3, 4, 5, 6, 7, 8, 9, 10] ?_
 iterate 11
  refine tky (v := ?_) rfl (by kernel_rfl) (by kernel_rfl) (by kernel_rfl) (fun _ _ _ h => h) (Or.inl ⟨by kernel_rfl, ?_⟩) (by assumption) ?_
  rotate_left
  ·(intro w hSw; (try dsimp only at hSw); go_simp) <;> with_reducible rfl
  (try simp only [Act.put, lqa, lqb, lqc, lqd, lqe, lqf])
 refine tkw ?_
 refine wpAnyH_ready (rs := [11]) (by kernel_rfl) (by simp) ?_
 refine AllReadyH.cons rfl (fun K hK => ?_) AllReadyH.nil
 go_simp
 refine hop.mono ?_
 rintro x w1 ⟨rfl, hR1, hu1⟩
 have hU1 : UpdP (RP X Y S.n) w w1 := HUd.out.trans hu1
 have hX1 := RefX.box HRd.out hu1 HXd.out
 have u0 : w1.cell? ⟨B, 0, none⟩ = some (.int .i64 a) := by rw [cell_of_heap hX1]; rfl
 have u1 : w1.cell? ⟨B, 1, none⟩ = some (.int .i64 b) := by rw [cell_of_heap hX1]; rfl
 have u2 : w1.cell? ⟨B, 2, none⟩ = some (.int .i64 d) := by rw [cell_of_heap hX1]; rfl
 have hS1 := show w1.cell? ⟨X, 1, none⟩ = some (ptr Y.J.p1) ∧ w1.cell? ⟨B, 0, none⟩ = some (.int .i64 a) ∧ w1.cell? ⟨B, 1, none⟩ = some (.int .i64 b) from ⟨hR1.c1, u0, u1⟩
 have HR1 : Hid _ := hR1
 have HU1 : Hid _ := hU1
 clear hop hR1 hu1 hU1 hX1 u0 u1 u2
 refine hK.out _ _ hS1 (fun hHeld => ?_)
 clear hK K
 (try simp only [Act.put, lqa, lqb, lqc, lqd, lqe, lqf])
 refine tkz [12, 13] ?_
 iterate 2
  refine tky (v := ?_) rfl (by kernel_rfl) (by kernel_rfl) (by kernel_rfl) (fun _ _ _ h => h) (Or.inl ⟨by kernel_rfl, ?_⟩) (by assumption) ?_
  rotate_left
  ·(intro w hSw; (try dsimp only at hSw); go_simp) <;> with_reducible rfl
  (try simp only [Act.put, lqa, lqb, lqc, lqd, lqe, lqf])
 refine tkw ?_
 refine wpAnyH_done (by kernel_rfl) ?_ _
 clear hHeld
 go_wp2
 go_ret2
 exact ⟨none, 0, 0, rfl, RdV.nil _ _ _, HR1.out, HU1.out⟩
end
end Go.Proofs.YtbhpafgoofkkmaaGreatDoor
