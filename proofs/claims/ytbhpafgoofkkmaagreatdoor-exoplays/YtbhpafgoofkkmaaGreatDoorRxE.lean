import Derived.Test.YtbhpafgoofkkmaaGreatDoorRxD
import Derived.Deep.RegionHeld3
set_option linter.all false
namespace Go.Proofs.YtbhpafgoofkkmaaGreatDoor
open Go.RowKit
theorem putA_in (T : Ca.Tab) (m : Nat) : 0 ≤ Ca.putA T m ∧ Ca.putA T m < 18446744073709551616 := by
 unfold Ca.putA
 split <;> omega
theorem allocA_in (T : Ca.Tab) (n : Nat) (e : Int) : 0 ≤ Ex.allocA T n e ∧ Ex.allocA T n e < 18446744073709551616 := by
 unfold Ex.allocA
 split
 ·split
  ·omega
  ·exact putA_in _ _
 ·omega
theorem giveA_in (T : Ca.Tab) (e s q r : Int) : 0 ≤ Ca.giveA T e s q r ∧ Ca.giveA T e s q r < 18446744073709551616 := by
 unfold Ca.giveA
 split
 ·split
  ·exact putA_in _ _
  ·omega
 ·omega
theorem xallocA_in (T : Ca.Tab) (n : Nat) (e f k : Int) : 0 ≤ Xd.xallocA T n e f k ∧ Xd.xallocA T n e f k < 18446744073709551616 := by
 unfold Xd.xallocA
 split
 ·split
  ·omega
  ·unfold Ca.addA
   split
   ·exact putA_in _ _
   ·omega
 ·omega
section
variable {w : World} {X : Nat} {Y : RxL} {k : Nat} {S : XS}
set_option maxRecDepth 100000 in
set_option maxHeartbeats 2000000 in
theorem f_0 (h : RefX w X Y k S) (o : OkR S) (hk : k ≤ 800) (e a b d : Int) (av : Option Addr) (nv cv : Nat) :
  Calls Tryz.prog 34 #[ptr X, .int .i64 e, .int .u64 0, .agg #[.int .i64 a, .int .i64 b, .int .i64 d], .slice av nv cv] w (RDid X Y k S.n w ({ S with vs := Ex.allocV S.T S.n e S.vs, T := Ex.allocT S.T S.n e, F := S.F }, ansW (Ex.allocR S.T S.n e) [Ex.allocA S.T S.n e], Ex.allocR S.T S.n e)) := by
 obtain ⟨W, hW⟩ : ∃ W, W = w.alloc (.cells #[.int .i64 a, .int .i64 b, .int .i64 d] 91) := ⟨_, rfl⟩
 obtain ⟨B, hB⟩ : ∃ B, B = w.heap.size := ⟨_, rfl⟩
 have hbW : Below w.heap.size w W := by rw [hW]; exact Ca.below_alloc _ _
 have hXW : W.heap[B]? = some (.cells #[.int .i64 a, .int .i64 b, .int .i64 d] 91) := by rw [hW, hB]; exact heap_alloc_new _ _
 have hdr : Below W.heap.size W W.drew := (Below.refl _ _).drew
 have hRW : RefX W X Y k S := h.below hbW
 have hRd : RefX W.drew X Y k S := hRW.below hdr
 have hXd : W.drew.heap[B]? = some (.cells #[.int .i64 a, .int .i64 b, .int .i64 d] 91) := hXW
 have HUW : Hid (UpdP (RP X Y S.n) w W) := UpdP.of_below hbW
 have HUd : Hid (UpdP (RP X Y S.n) w W.drew) := (UpdP.of_below hbW).trans (UpdP.of_below hdr)
 have HW : Hid (W = w.alloc (.cells #[.int .i64 a, .int .i64 b, .int .i64 d] 91)) := hW
 have HB : Hid (B = w.heap.size) := hB
 clear hW hB hbW hdr h
 have hop := x_alloc hRW o hk e
 have z0 := hRW.c0
 rw [HW.out] at z0
 have HL : Hid (0 ≤ Ex.allocA S.T S.n e ∧ Ex.allocA S.T S.n e < 18446744073709551616) := allocA_in _ _ _
 clear hRW hXW hRd hXd HUd
 go_enter Tryz.func34, Tryz.ntmps34
 go_wp2_with fail
 rw [← HW.out]
 clear HW HB
 refine hop.mono ?_
 rintro x w1 ⟨rfl, hR1, hu1⟩
 have hwd := word_at (Ex.allocA S.T S.n e) (Ex.allocR S.T S.n e) w1 HL.out.1 HL.out.2
 have HR1 : Hid _ := hR1
 have HU1 : Hid _ := HUW.out.trans hu1
 clear hop hR1 hu1
 go_wp2_with fail
 refine hwd.mono ?_
 rintro x w2 ⟨a2, m2, c2, rfl, hr2, hb2⟩
 have HD : Hid (RDid X Y k S.n w ({ S with vs := Ex.allocV S.T S.n e S.vs, T := Ex.allocT S.T S.n e, F := S.F }, ansW (Ex.allocR S.T S.n e) [Ex.allocA S.T S.n e], Ex.allocR S.T S.n e) (.returned (.tuple #[.slice a2 m2 c2, .int .i64 (Ex.allocR S.T S.n e)])) w2) := ⟨a2, m2, c2, rfl, hr2, HR1.out.below hb2, HU1.out.trans (UpdP.of_below hb2)⟩
 clear hwd hr2 hb2
 go_wp2
 go_ret2
 exact HD.out
set_option maxRecDepth 100000 in
set_option maxHeartbeats 2000000 in
theorem f_1 (h : RefX w X Y k S) (o : OkR S) (hk : k ≤ 800) (e a b d : Int) (av : Option Addr) (nv cv : Nat) :
  Calls Tryz.prog 34 #[ptr X, .int .i64 e, .int .u64 1, .agg #[.int .i64 a, .int .i64 b, .int .i64 d], (.slice av nv cv)] w (RDid X Y k S.n w ({ S with vs := S.vs, T := Ca.giveT S.T e a b d, F := S.F }, ansW (Ca.giveR S.T e a b d) [Ca.giveA S.T e a b d], Ca.giveR S.T e a b d)) := by
 obtain ⟨W, hW⟩ : ∃ W, W = w.alloc (.cells #[.int .i64 a, .int .i64 b, .int .i64 d] 91) := ⟨_, rfl⟩
 obtain ⟨B, hB⟩ : ∃ B, B = w.heap.size := ⟨_, rfl⟩
 have hbW : Below w.heap.size w W := by rw [hW]; exact Ca.below_alloc _ _
 have hXW : W.heap[B]? = some (.cells #[.int .i64 a, .int .i64 b, .int .i64 d] 91) := by rw [hW, hB]; exact heap_alloc_new _ _
 have hdr : Below W.heap.size W W.drew := (Below.refl _ _).drew
 have hRW : RefX W X Y k S := h.below hbW
 have hRd : RefX W.drew X Y k S := hRW.below hdr
 have hXd : W.drew.heap[B]? = some (.cells #[.int .i64 a, .int .i64 b, .int .i64 d] 91) := hXW
 have HUW : Hid (UpdP (RP X Y S.n) w W) := UpdP.of_below hbW
 have HUd : Hid (UpdP (RP X Y S.n) w W.drew) := (UpdP.of_below hbW).trans (UpdP.of_below hdr)
 have HW : Hid (W = w.alloc (.cells #[.int .i64 a, .int .i64 b, .int .i64 d] 91)) := hW
 have HB : Hid (B = w.heap.size) := hB
 clear hW hB hbW hdr h
 have HL : Hid (0 ≤ Ca.giveA S.T e a b d ∧ Ca.giveA S.T e a b d < 18446744073709551616) := giveA_in _ _ _ _ _
 have hop := x_give hRd o hk e a b d
 have y0 : W.drew.cell? ⟨B, 0, none⟩ = some (.int .i64 a) := by rw [cell_of_heap hXd]; rfl
 have y1 : W.drew.cell? ⟨B, 1, none⟩ = some (.int .i64 b) := by rw [cell_of_heap hXd]; rfl
 have y2 : W.drew.cell? ⟨B, 2, none⟩ = some (.int .i64 d) := by rw [cell_of_heap hXd]; rfl
 have hS := show W.drew.cell? ⟨X, 0, none⟩ = some (ptr Y.J.p0) ∧ W.drew.cell? ⟨Y.J.p0, 1, none⟩ = some (ptr Y.QM.c) ∧ W.drew.cell? ⟨B, 0, none⟩ = some (.int .i64 a) ∧ W.drew.cell? ⟨B, 1, none⟩ = some (.int .i64 b) ∧ W.drew.cell? ⟨B, 2, none⟩ = some (.int .i64 d) from ⟨hRd.c0, hRd.mc, y0, y1, y2⟩
 have HRd : Hid _ := hRd
 have HXd : Hid _ := hXd
 clear hRW hXW hRd hXd y0 y1 y2
 go_enter Tryz.func34, Tryz.ntmps34
 go_wp2_with fail
 rw [← HW.out, ← HB.out]
 clear HW HB
 refine wp_region_held_drew (S := fun w' => w'.cell? ⟨X, 0, none⟩ = some (ptr Y.J.p0) ∧ w'.cell? ⟨Y.J.p0, 1, none⟩ = some (ptr Y.QM.c) ∧ w'.cell? ⟨B, 0, none⟩ = some (.int .i64 a) ∧ w'.cell? ⟨B, 1, none⟩ = some (.int .i64 b) ∧ w'.cell? ⟨B, 2, none⟩ = some (.int .i64 d)) (by kernel_rfl) hS (fun hHeld => ?_)
 refine tkz [0, 1, 2, 3, 4, 5, 6, 7, 8, 9, 10, 11, 12, 13] ?_
 iterate 14
  refine tky (v := ?_) rfl (by kernel_rfl) (by kernel_rfl) (by kernel_rfl) (fun _ _ _ h => h) (Or.inl ⟨by kernel_rfl, ?_⟩) (by assumption) ?_
  rotate_left
  ·(intro w hSw; (try dsimp only at hSw); go_simp) <;> with_reducible rfl
  (try simp only [Act.put, lqa, lqb, lqc, lqd, lqe, lqf])
 refine tkw ?_
 refine wpAnyH_ready (rs := [14]) (by kernel_rfl) (by simp) ?_
 refine AllReadyH.cons rfl (fun K hK => ?_) AllReadyH.nil
 go_simp
 refine hop.mono ?_
 rintro x w1 ⟨rfl, hR1, hu1⟩
 have hU1 : UpdP (RP X Y S.n) w w1 := HUd.out.trans hu1
 have hX1 := RefX.box HRd.out hu1 HXd.out
 have u0 : w1.cell? ⟨B, 0, none⟩ = some (.int .i64 a) := by rw [cell_of_heap hX1]; rfl
 have u1 : w1.cell? ⟨B, 1, none⟩ = some (.int .i64 b) := by rw [cell_of_heap hX1]; rfl
 have u2 : w1.cell? ⟨B, 2, none⟩ = some (.int .i64 d) := by rw [cell_of_heap hX1]; rfl
 have hS1 := show w1.cell? ⟨X, 0, none⟩ = some (ptr Y.J.p0) ∧ w1.cell? ⟨Y.J.p0, 1, none⟩ = some (ptr Y.QM.c) ∧ w1.cell? ⟨B, 0, none⟩ = some (.int .i64 a) ∧ w1.cell? ⟨B, 1, none⟩ = some (.int .i64 b) ∧ w1.cell? ⟨B, 2, none⟩ = some (.int .i64 d) from ⟨hR1.c0, hR1.mc, u0, u1, u2⟩
 have HR1 : Hid _ := hR1
 have HU1 : Hid _ := hU1
 have hwd := word_at (Ca.giveA S.T e a b d) (Ca.giveR S.T e a b d) w1 HL.out.1 HL.out.2
 clear hop hR1 hu1 hU1 hX1 u0 u1 u2
 refine hK.out _ _ hS1 (fun hHeld => ?_)
 clear hK K
 (try simp only [Act.put, lqa, lqb, lqc, lqd, lqe, lqf])
 refine tkz [15, 16] ?_
 iterate 2
  refine tky (v := ?_) rfl (by kernel_rfl) (by kernel_rfl) (by kernel_rfl) (fun _ _ _ h => h) (Or.inl ⟨by kernel_rfl, ?_⟩) (by assumption) ?_
  rotate_left
  ·(intro w hSw; (try dsimp only at hSw); go_simp) <;> with_reducible rfl
  (try simp only [Act.put, lqa, lqb, lqc, lqd, lqe, lqf])
 refine tkw ?_
 refine wpAnyH_ready (rs := [17]) (by kernel_rfl) (by simp) ?_
 refine AllReadyH.cons rfl (fun K hK => ?_) AllReadyH.nil
 go_simp
 refine hwd.mono ?_
 rintro x w2 ⟨a2, m2, c2, rfl, hr2, hb2⟩
 have HD : Hid (RDid X Y k S.n w ({ S with vs := S.vs, T := Ca.giveT S.T e a b d, F := S.F }, ansW (Ca.giveR S.T e a b d) [Ca.giveA S.T e a b d], Ca.giveR S.T e a b d) (.returned (.tuple #[.slice a2 m2 c2, .int .i64 (({ S with vs := S.vs, T := Ca.giveT S.T e a b d, F := S.F }, ansW (Ca.giveR S.T e a b d) [Ca.giveA S.T e a b d], Ca.giveR S.T e a b d)).2.2])) w2) := ⟨a2, m2, c2, rfl, hr2, HR1.out.below hb2, HU1.out.trans (UpdP.of_below hb2)⟩
 have hS2 := show w2.cell? ⟨X, 0, none⟩ = some (ptr Y.J.p0) ∧ w2.cell? ⟨Y.J.p0, 1, none⟩ = some (ptr Y.QM.c) ∧ w2.cell? ⟨B, 0, none⟩ = some (.int .i64 a) ∧ w2.cell? ⟨B, 1, none⟩ = some (.int .i64 b) ∧ w2.cell? ⟨B, 2, none⟩ = some (.int .i64 d) from ⟨(hb2.cell (cell_lt hS1.1)).trans hS1.1, (hb2.cell (cell_lt hS1.2.1)).trans hS1.2.1, (hb2.cell (cell_lt hS1.2.2.1)).trans hS1.2.2.1, (hb2.cell (cell_lt hS1.2.2.2.1)).trans hS1.2.2.2.1, (hb2.cell (cell_lt hS1.2.2.2.2)).trans hS1.2.2.2.2⟩
 clear hwd hr2 hb2
 refine hK.out _ _ hS2 (fun hHeld => ?_)
 clear hK K
 (try simp only [Act.put, lqa, lqb, lqc, lqd, lqe, lqf])
 refine tkz [18, 19, 20, 21] ?_
 iterate 4
  refine tky (v := ?_) rfl (by kernel_rfl) (by kernel_rfl) (by kernel_rfl) (fun _ _ _ h => h) (Or.inl ⟨by kernel_rfl, ?_⟩) (by assumption) ?_
  rotate_left
  ·(intro w hSw; (try dsimp only at hSw); go_simp) <;> with_reducible rfl
  (try simp only [Act.put, lqa, lqb, lqc, lqd, lqe, lqf])
 refine tkw ?_
 refine wpAnyH_done (by kernel_rfl) ?_ _
 clear hHeld
 go_wp2
 go_ret2
 exact HD.out
set_option maxRecDepth 100000 in
set_option maxHeartbeats 2000000 in
theorem f_2 (h : RefX w X Y k S) (o : OkR S) (hk : k ≤ 800) (e a b d : Int) (av : Option Addr) (nv cv : Nat) :
  Calls Tryz.prog 34 #[ptr X, .int .i64 e, .int .u64 2, .agg #[.int .i64 a, .int .i64 b, .int .i64 d], (.slice av nv cv)] w (RDid X Y k S.n w ({ S with vs := S.vs, T := Ca.dropT S.T e a, F := Ex.tidyF (Ca.dropT S.T e a) S.F }, [], Ca.dropR S.T e a)) := by
 obtain ⟨W, hW⟩ : ∃ W, W = w.alloc (.cells #[.int .i64 a, .int .i64 b, .int .i64 d] 91) := ⟨_, rfl⟩
 obtain ⟨B, hB⟩ : ∃ B, B = w.heap.size := ⟨_, rfl⟩
 have hbW : Below w.heap.size w W := by rw [hW]; exact Ca.below_alloc _ _
 have hXW : W.heap[B]? = some (.cells #[.int .i64 a, .int .i64 b, .int .i64 d] 91) := by rw [hW, hB]; exact heap_alloc_new _ _
 have hdr : Below W.heap.size W W.drew := (Below.refl _ _).drew
 have hRW : RefX W X Y k S := h.below hbW
 have hRd : RefX W.drew X Y k S := hRW.below hdr
 have hXd : W.drew.heap[B]? = some (.cells #[.int .i64 a, .int .i64 b, .int .i64 d] 91) := hXW
 have HUW : Hid (UpdP (RP X Y S.n) w W) := UpdP.of_below hbW
 have HUd : Hid (UpdP (RP X Y S.n) w W.drew) := (UpdP.of_below hbW).trans (UpdP.of_below hdr)
 have HW : Hid (W = w.alloc (.cells #[.int .i64 a, .int .i64 b, .int .i64 d] 91)) := hW
 have HB : Hid (B = w.heap.size) := hB
 clear hW hB hbW hdr h
 have hop := x_free hRd o hk e a
 have y0 : W.drew.cell? ⟨B, 0, none⟩ = some (.int .i64 a) := by rw [cell_of_heap hXd]; rfl
 have y1 : W.drew.cell? ⟨B, 1, none⟩ = some (.int .i64 b) := by rw [cell_of_heap hXd]; rfl
 have y2 : W.drew.cell? ⟨B, 2, none⟩ = some (.int .i64 d) := by rw [cell_of_heap hXd]; rfl
 have hS := show W.drew.cell? ⟨X, 0, none⟩ = some (ptr Y.J.p0) ∧ W.drew.cell? ⟨B, 0, none⟩ = some (.int .i64 a) from ⟨hRd.c0, y0⟩
 have HRd : Hid _ := hRd
 have HXd : Hid _ := hXd
 clear hRW hXW hRd hXd y0 y1 y2
 go_enter Tryz.func34, Tryz.ntmps34
 go_wp2_with fail
 rw [← HW.out, ← HB.out]
 clear HW HB
 refine wp_region_held_drew (S := fun w' => w'.cell? ⟨X, 0, none⟩ = some (ptr Y.J.p0) ∧ w'.cell? ⟨B, 0, none⟩ = some (.int .i64 a)) (by kernel_rfl) hS (fun hHeld => ?_)
 refine tkz [0, 1, 2, 3, 4, 5, 6] ?_
 iterate 7
  refine tky (v := ?_) rfl (by kernel_rfl) (by kernel_rfl) (by kernel_rfl) (fun _ _ _ h => h) (Or.inl ⟨by kernel_rfl, ?_⟩) (by assumption) ?_
  rotate_left
  ·(intro w hSw; (try dsimp only at hSw); go_simp) <;> with_reducible rfl
  (try simp only [Act.put, lqa, lqb, lqc, lqd, lqe, lqf])
 refine tkw ?_
 refine wpAnyH_ready (rs := [7]) (by kernel_rfl) (by simp) ?_
 refine AllReadyH.cons rfl (fun K hK => ?_) AllReadyH.nil
 go_simp
 refine hop.mono ?_
 rintro x w1 ⟨rfl, hR1, hu1⟩
 have hU1 : UpdP (RP X Y S.n) w w1 := HUd.out.trans hu1
 have hX1 := RefX.box HRd.out hu1 HXd.out
 have u0 : w1.cell? ⟨B, 0, none⟩ = some (.int .i64 a) := by rw [cell_of_heap hX1]; rfl
 have u1 : w1.cell? ⟨B, 1, none⟩ = some (.int .i64 b) := by rw [cell_of_heap hX1]; rfl
 have u2 : w1.cell? ⟨B, 2, none⟩ = some (.int .i64 d) := by rw [cell_of_heap hX1]; rfl
 have hS1 := show w1.cell? ⟨X, 0, none⟩ = some (ptr Y.J.p0) ∧ w1.cell? ⟨B, 0, none⟩ = some (.int .i64 a) from ⟨hR1.c0, u0⟩
 have HR1 : Hid _ := hR1
 have HU1 : Hid _ := hU1
 clear hop hR1 hu1 hU1 hX1 u0 u1 u2
 refine hK.out _ _ hS1 (fun hHeld => ?_)
 clear hK K
 (try simp only [Act.put, lqa, lqb, lqc, lqd, lqe, lqf])
 refine tkz [8, 9] ?_
 iterate 2
  refine tky (v := ?_) rfl (by kernel_rfl) (by kernel_rfl) (by kernel_rfl) (fun _ _ _ h => h) (Or.inl ⟨by kernel_rfl, ?_⟩) (by assumption) ?_
  rotate_left
  ·(intro w hSw; (try dsimp only at hSw); go_simp) <;> with_reducible rfl
  (try simp only [Act.put, lqa, lqb, lqc, lqd, lqe, lqf])
 refine tkw ?_
 refine wpAnyH_done (by kernel_rfl) ?_ _
 clear hHeld
 go_wp2
 go_ret2
 exact ⟨none, 0, 0, rfl, RdV.nil _ _ _, HR1.out, HU1.out⟩
set_option maxRecDepth 100000 in
set_option maxHeartbeats 2000000 in
theorem f_3 (h : RefX w X Y k S) (o : OkR S) (hk : k ≤ 800) (e a b d : Int) (av : Option Addr) (nv cv : Nat) :
  Calls Tryz.prog 34 #[ptr X, .int .i64 e, .int .u64 3, .agg #[.int .i64 a, .int .i64 b, .int .i64 d], (.slice av nv cv)] w (RDid X Y k S.n w ({ S with vs := S.vs, T := Ex.revT S.T e a, F := Ex.tidyF (Ex.revT S.T e a) S.F }, [], Ex.revR S.T e a)) := by
 obtain ⟨W, hW⟩ : ∃ W, W = w.alloc (.cells #[.int .i64 a, .int .i64 b, .int .i64 d] 91) := ⟨_, rfl⟩
 obtain ⟨B, hB⟩ : ∃ B, B = w.heap.size := ⟨_, rfl⟩
 have hbW : Below w.heap.size w W := by rw [hW]; exact Ca.below_alloc _ _
 have hXW : W.heap[B]? = some (.cells #[.int .i64 a, .int .i64 b, .int .i64 d] 91) := by rw [hW, hB]; exact heap_alloc_new _ _
 have hdr : Below W.heap.size W W.drew := (Below.refl _ _).drew
 have hRW : RefX W X Y k S := h.below hbW
 have hRd : RefX W.drew X Y k S := hRW.below hdr
 have hXd : W.drew.heap[B]? = some (.cells #[.int .i64 a, .int .i64 b, .int .i64 d] 91) := hXW
 have HUW : Hid (UpdP (RP X Y S.n) w W) := UpdP.of_below hbW
 have HUd : Hid (UpdP (RP X Y S.n) w W.drew) := (UpdP.of_below hbW).trans (UpdP.of_below hdr)
 have HW : Hid (W = w.alloc (.cells #[.int .i64 a, .int .i64 b, .int .i64 d] 91)) := hW
 have HB : Hid (B = w.heap.size) := hB
 clear hW hB hbW hdr h
 have hop := x_revoke hRd o hk e a
 have y0 : W.drew.cell? ⟨B, 0, none⟩ = some (.int .i64 a) := by rw [cell_of_heap hXd]; rfl
 have y1 : W.drew.cell? ⟨B, 1, none⟩ = some (.int .i64 b) := by rw [cell_of_heap hXd]; rfl
 have y2 : W.drew.cell? ⟨B, 2, none⟩ = some (.int .i64 d) := by rw [cell_of_heap hXd]; rfl
 have hS := show W.drew.cell? ⟨X, 0, none⟩ = some (ptr Y.J.p0) ∧ W.drew.cell? ⟨B, 0, none⟩ = some (.int .i64 a) from ⟨hRd.c0, y0⟩
 have HRd : Hid _ := hRd
 have HXd : Hid _ := hXd
 clear hRW hXW hRd hXd y0 y1 y2
 go_enter Tryz.func34, Tryz.ntmps34
 go_wp2_with fail
 rw [← HW.out, ← HB.out]
 clear HW HB
 refine wp_region_held_drew (S := fun w' => w'.cell? ⟨X, 0, none⟩ = some (ptr Y.J.p0) ∧ w'.cell? ⟨B, 0, none⟩ = some (.int .i64 a)) (by kernel_rfl) hS (fun hHeld => ?_)
 refine tkz [0, 1, 2, 3, 4, 5, 6] ?_
 iterate 7
  refine tky (v := ?_) rfl (by kernel_rfl) (by kernel_rfl) (by kernel_rfl) (fun _ _ _ h => h) (Or.inl ⟨by kernel_rfl, ?_⟩) (by assumption) ?_
  rotate_left
  ·(intro w hSw; (try dsimp only at hSw); go_simp) <;> with_reducible rfl
  (try simp only [Act.put, lqa, lqb, lqc, lqd, lqe, lqf])
 refine tkw ?_
 refine wpAnyH_ready (rs := [7]) (by kernel_rfl) (by simp) ?_
 refine AllReadyH.cons rfl (fun K hK => ?_) AllReadyH.nil
 go_simp
 refine hop.mono ?_
 rintro x w1 ⟨rfl, hR1, hu1⟩
 have hU1 : UpdP (RP X Y S.n) w w1 := HUd.out.trans hu1
 have hX1 := RefX.box HRd.out hu1 HXd.out
 have u0 : w1.cell? ⟨B, 0, none⟩ = some (.int .i64 a) := by rw [cell_of_heap hX1]; rfl
 have u1 : w1.cell? ⟨B, 1, none⟩ = some (.int .i64 b) := by rw [cell_of_heap hX1]; rfl
 have u2 : w1.cell? ⟨B, 2, none⟩ = some (.int .i64 d) := by rw [cell_of_heap hX1]; rfl
 have hS1 := show w1.cell? ⟨X, 0, none⟩ = some (ptr Y.J.p0) ∧ w1.cell? ⟨B, 0, none⟩ = some (.int .i64 a) from ⟨hR1.c0, u0⟩
 have HR1 : Hid _ := hR1
 have HU1 : Hid _ := hU1
 clear hop hR1 hu1 hU1 hX1 u0 u1 u2
 refine hK.out _ _ hS1 (fun hHeld => ?_)
 clear hK K
 (try simp only [Act.put, lqa, lqb, lqc, lqd, lqe, lqf])
 refine tkz [8, 9] ?_
 iterate 2
  refine tky (v := ?_) rfl (by kernel_rfl) (by kernel_rfl) (by kernel_rfl) (fun _ _ _ h => h) (Or.inl ⟨by kernel_rfl, ?_⟩) (by assumption) ?_
  rotate_left
  ·(intro w hSw; (try dsimp only at hSw); go_simp) <;> with_reducible rfl
  (try simp only [Act.put, lqa, lqb, lqc, lqd, lqe, lqf])
 refine tkw ?_
 refine wpAnyH_done (by kernel_rfl) ?_ _
 clear hHeld
 go_wp2
 go_ret2
 exact ⟨none, 0, 0, rfl, RdV.nil _ _ _, HR1.out, HU1.out⟩
set_option maxRecDepth 100000 in
set_option maxHeartbeats 2000000 in
theorem f_4 (h : RefX w X Y k S) (o : OkR S) (hk : k ≤ 800) (e a b d : Int) (av : Option Addr) (nv cv : Nat) :
  Calls Tryz.prog 34 #[ptr X, .int .i64 e, .int .u64 4, .agg #[.int .i64 a, .int .i64 b, .int .i64 d], (.slice av nv cv)] w (RDid X Y k S.n w ({ S with vs := S.vs, T := S.T, F := Ex.kmapF S.T S.F e a b (d == 1) }, [], Ex.kmapR S.T e a b (d == 1))) := by
 obtain ⟨W, hW⟩ : ∃ W, W = w.alloc (.cells #[.int .i64 a, .int .i64 b, .int .i64 d] 91) := ⟨_, rfl⟩
 obtain ⟨B, hB⟩ : ∃ B, B = w.heap.size := ⟨_, rfl⟩
 have hbW : Below w.heap.size w W := by rw [hW]; exact Ca.below_alloc _ _
 have hXW : W.heap[B]? = some (.cells #[.int .i64 a, .int .i64 b, .int .i64 d] 91) := by rw [hW, hB]; exact heap_alloc_new _ _
 have hdr : Below W.heap.size W W.drew := (Below.refl _ _).drew
 have hRW : RefX W X Y k S := h.below hbW
 have hRd : RefX W.drew X Y k S := hRW.below hdr
 have hXd : W.drew.heap[B]? = some (.cells #[.int .i64 a, .int .i64 b, .int .i64 d] 91) := hXW
 have HUW : Hid (UpdP (RP X Y S.n) w W) := UpdP.of_below hbW
 have HUd : Hid (UpdP (RP X Y S.n) w W.drew) := (UpdP.of_below hbW).trans (UpdP.of_below hdr)
 have HW : Hid (W = w.alloc (.cells #[.int .i64 a, .int .i64 b, .int .i64 d] 91)) := hW
 have HB : Hid (B = w.heap.size) := hB
 clear hW hB hbW hdr h
 have hop := x_map hRd o hk e a b (d == 1)
 have y0 : W.drew.cell? ⟨B, 0, none⟩ = some (.int .i64 a) := by rw [cell_of_heap hXd]; rfl
 have y1 : W.drew.cell? ⟨B, 1, none⟩ = some (.int .i64 b) := by rw [cell_of_heap hXd]; rfl
 have y2 : W.drew.cell? ⟨B, 2, none⟩ = some (.int .i64 d) := by rw [cell_of_heap hXd]; rfl
 have hS := show W.drew.cell? ⟨X, 0, none⟩ = some (ptr Y.J.p0) ∧ W.drew.cell? ⟨B, 0, none⟩ = some (.int .i64 a) ∧ W.drew.cell? ⟨B, 1, none⟩ = some (.int .i64 b) ∧ W.drew.cell? ⟨B, 2, none⟩ = some (.int .i64 d) from ⟨hRd.c0, y0, y1, y2⟩
 have HRd : Hid _ := hRd
 have HXd : Hid _ := hXd
 clear hRW hXW hRd hXd y0 y1 y2
 go_enter Tryz.func34, Tryz.ntmps34
 go_wp2_with fail
 rw [← HW.out, ← HB.out]
 clear HW HB
 refine wp_region_held_drew (S := fun w' => w'.cell? ⟨X, 0, none⟩ = some (ptr Y.J.p0) ∧ w'.cell? ⟨B, 0, none⟩ = some (.int .i64 a) ∧ w'.cell? ⟨B, 1, none⟩ = some (.int .i64 b) ∧ w'.cell? ⟨B, 2, none⟩ = some (.int .i64 d)) (by kernel_rfl) hS (fun hHeld => ?_)
 refine tkz [0, 1, 2, 3, 4, 5, 6, 7, 8, 9, 10, 11] ?_
 iterate 12
  refine tky (v := ?_) rfl (by kernel_rfl) (by kernel_rfl) (by kernel_rfl) (fun _ _ _ h => h) (Or.inl ⟨by kernel_rfl, ?_⟩) (by assumption) ?_
  rotate_left
  ·(intro w hSw; (try dsimp only at hSw); go_simp) <;> with_reducible rfl
  (try simp only [Act.put, lqa, lqb, lqc, lqd, lqe, lqf])
 refine tkw ?_
 refine wpAnyH_ready (rs := [12]) (by kernel_rfl) (by simp) ?_
 refine AllReadyH.cons rfl (fun K hK => ?_) AllReadyH.nil
 go_simp
 refine hop.mono ?_
 rintro x w1 ⟨rfl, hR1, hu1⟩
 have hU1 : UpdP (RP X Y S.n) w w1 := HUd.out.trans hu1
 have hX1 := RefX.box HRd.out hu1 HXd.out
 have u0 : w1.cell? ⟨B, 0, none⟩ = some (.int .i64 a) := by rw [cell_of_heap hX1]; rfl
 have u1 : w1.cell? ⟨B, 1, none⟩ = some (.int .i64 b) := by rw [cell_of_heap hX1]; rfl
 have u2 : w1.cell? ⟨B, 2, none⟩ = some (.int .i64 d) := by rw [cell_of_heap hX1]; rfl
 have hS1 := show w1.cell? ⟨X, 0, none⟩ = some (ptr Y.J.p0) ∧ w1.cell? ⟨B, 0, none⟩ = some (.int .i64 a) ∧ w1.cell? ⟨B, 1, none⟩ = some (.int .i64 b) ∧ w1.cell? ⟨B, 2, none⟩ = some (.int .i64 d) from ⟨hR1.c0, u0, u1, u2⟩
 have HR1 : Hid _ := hR1
 have HU1 : Hid _ := hU1
 clear hop hR1 hu1 hU1 hX1 u0 u1 u2
 refine hK.out _ _ hS1 (fun hHeld => ?_)
 clear hK K
 (try simp only [Act.put, lqa, lqb, lqc, lqd, lqe, lqf])
 refine tkz [13, 14] ?_
 iterate 2
  refine tky (v := ?_) rfl (by kernel_rfl) (by kernel_rfl) (by kernel_rfl) (fun _ _ _ h => h) (Or.inl ⟨by kernel_rfl, ?_⟩) (by assumption) ?_
  rotate_left
  ·(intro w hSw; (try dsimp only at hSw); go_simp) <;> with_reducible rfl
  (try simp only [Act.put, lqa, lqb, lqc, lqd, lqe, lqf])
 refine tkw ?_
 refine wpAnyH_done (by kernel_rfl) ?_ _
 clear hHeld
 go_wp2
 go_ret2
 exact ⟨none, 0, 0, rfl, RdV.nil _ _ _, HR1.out, HU1.out⟩
set_option maxRecDepth 100000 in
set_option maxHeartbeats 2000000 in
theorem f_5 (h : RefX w X Y k S) (o : OkR S) (hk : k ≤ 800) (e a b d : Int) (av : Option Addr) (nv cv : Nat) :
  Calls Tryz.prog 34 #[ptr X, .int .i64 e, .int .u64 5, .agg #[.int .i64 a, .int .i64 b, .int .i64 d], (.slice av nv cv)] w (RDid X Y k S.n w ({ S with vs := S.vs, T := S.T, F := Ex.kunmapF S.F e a }, [], Ex.kunmapR S.F e a)) := by
 obtain ⟨W, hW⟩ : ∃ W, W = w.alloc (.cells #[.int .i64 a, .int .i64 b, .int .i64 d] 91) := ⟨_, rfl⟩
 obtain ⟨B, hB⟩ : ∃ B, B = w.heap.size := ⟨_, rfl⟩
 have hbW : Below w.heap.size w W := by rw [hW]; exact Ca.below_alloc _ _
 have hXW : W.heap[B]? = some (.cells #[.int .i64 a, .int .i64 b, .int .i64 d] 91) := by rw [hW, hB]; exact heap_alloc_new _ _
 have hdr : Below W.heap.size W W.drew := (Below.refl _ _).drew
 have hRW : RefX W X Y k S := h.below hbW
 have hRd : RefX W.drew X Y k S := hRW.below hdr
 have hXd : W.drew.heap[B]? = some (.cells #[.int .i64 a, .int .i64 b, .int .i64 d] 91) := hXW
 have HUW : Hid (UpdP (RP X Y S.n) w W) := UpdP.of_below hbW
 have HUd : Hid (UpdP (RP X Y S.n) w W.drew) := (UpdP.of_below hbW).trans (UpdP.of_below hdr)
 have HW : Hid (W = w.alloc (.cells #[.int .i64 a, .int .i64 b, .int .i64 d] 91)) := hW
 have HB : Hid (B = w.heap.size) := hB
 clear hW hB hbW hdr h
 have hop := x_unmap hRd e a
 have y0 : W.drew.cell? ⟨B, 0, none⟩ = some (.int .i64 a) := by rw [cell_of_heap hXd]; rfl
 have y1 : W.drew.cell? ⟨B, 1, none⟩ = some (.int .i64 b) := by rw [cell_of_heap hXd]; rfl
 have y2 : W.drew.cell? ⟨B, 2, none⟩ = some (.int .i64 d) := by rw [cell_of_heap hXd]; rfl
 have hS := show W.drew.cell? ⟨X, 0, none⟩ = some (ptr Y.J.p0) ∧ W.drew.cell? ⟨B, 0, none⟩ = some (.int .i64 a) from ⟨hRd.c0, y0⟩
 have HRd : Hid _ := hRd
 have HXd : Hid _ := hXd
 clear hRW hXW hRd hXd y0 y1 y2
 go_enter Tryz.func34, Tryz.ntmps34
 go_wp2_with fail
 rw [← HW.out, ← HB.out]
 clear HW HB
 refine wp_region_held_drew (S := fun w' => w'.cell? ⟨X, 0, none⟩ = some (ptr Y.J.p0) ∧ w'.cell? ⟨B, 0, none⟩ = some (.int .i64 a)) (by kernel_rfl) hS (fun hHeld => ?_)
 refine tkz [0, 1, 2, 3, 4, 5, 6] ?_
 iterate 7
  refine tky (v := ?_) rfl (by kernel_rfl) (by kernel_rfl) (by kernel_rfl) (fun _ _ _ h => h) (Or.inl ⟨by kernel_rfl, ?_⟩) (by assumption) ?_
  rotate_left
  ·(intro w hSw; (try dsimp only at hSw); go_simp) <;> with_reducible rfl
  (try simp only [Act.put, lqa, lqb, lqc, lqd, lqe, lqf])
 refine tkw ?_
 refine wpAnyH_ready (rs := [7]) (by kernel_rfl) (by simp) ?_
 refine AllReadyH.cons rfl (fun K hK => ?_) AllReadyH.nil
 go_simp
 refine hop.mono ?_
 rintro x w1 ⟨rfl, hR1, hu1⟩
 have hU1 : UpdP (RP X Y S.n) w w1 := HUd.out.trans hu1
 have hX1 := RefX.box HRd.out hu1 HXd.out
 have u0 : w1.cell? ⟨B, 0, none⟩ = some (.int .i64 a) := by rw [cell_of_heap hX1]; rfl
 have u1 : w1.cell? ⟨B, 1, none⟩ = some (.int .i64 b) := by rw [cell_of_heap hX1]; rfl
 have u2 : w1.cell? ⟨B, 2, none⟩ = some (.int .i64 d) := by rw [cell_of_heap hX1]; rfl
 have hS1 := show w1.cell? ⟨X, 0, none⟩ = some (ptr Y.J.p0) ∧ w1.cell? ⟨B, 0, none⟩ = some (.int .i64 a) from ⟨hR1.c0, u0⟩
 have HR1 : Hid _ := hR1
 have HU1 : Hid _ := hU1
 clear hop hR1 hu1 hU1 hX1 u0 u1 u2
 refine hK.out _ _ hS1 (fun hHeld => ?_)
 clear hK K
 (try simp only [Act.put, lqa, lqb, lqc, lqd, lqe, lqf])
 refine tkz [8, 9] ?_
 iterate 2
  refine tky (v := ?_) rfl (by kernel_rfl) (by kernel_rfl) (by kernel_rfl) (fun _ _ _ h => h) (Or.inl ⟨by kernel_rfl, ?_⟩) (by assumption) ?_
  rotate_left
  ·(intro w hSw; (try dsimp only at hSw); go_simp) <;> with_reducible rfl
  (try simp only [Act.put, lqa, lqb, lqc, lqd, lqe, lqf])
 refine tkw ?_
 refine wpAnyH_done (by kernel_rfl) ?_ _
 clear hHeld
 go_wp2
 go_ret2
 exact ⟨none, 0, 0, rfl, RdV.nil _ _ _, HR1.out, HU1.out⟩
set_option maxRecDepth 100000 in
set_option maxHeartbeats 2000000 in
theorem f_8 (h : RefX w X Y k S) (o : OkR S) (hk : k ≤ 800) (e a b d : Int) (av : Option Addr) (nv cv : Nat) :
  Calls Tryz.prog 34 #[ptr X, .int .i64 e, .int .u64 8, .agg #[.int .i64 a, .int .i64 b, .int .i64 d], (.slice av nv cv)] w (RDid X Y k S.n w ({ S with vs := Ex.kcopyV S.T S.n S.vs e a b, T := S.T, F := S.F }, [], Ex.kcopyR S.T S.n e a b)) := by
 obtain ⟨W, hW⟩ : ∃ W, W = w.alloc (.cells #[.int .i64 a, .int .i64 b, .int .i64 d] 91) := ⟨_, rfl⟩
 obtain ⟨B, hB⟩ : ∃ B, B = w.heap.size := ⟨_, rfl⟩
 have hbW : Below w.heap.size w W := by rw [hW]; exact Ca.below_alloc _ _
 have hXW : W.heap[B]? = some (.cells #[.int .i64 a, .int .i64 b, .int .i64 d] 91) := by rw [hW, hB]; exact heap_alloc_new _ _
 have hdr : Below W.heap.size W W.drew := (Below.refl _ _).drew
 have hRW : RefX W X Y k S := h.below hbW
 have hRd : RefX W.drew X Y k S := hRW.below hdr
 have hXd : W.drew.heap[B]? = some (.cells #[.int .i64 a, .int .i64 b, .int .i64 d] 91) := hXW
 have HUW : Hid (UpdP (RP X Y S.n) w W) := UpdP.of_below hbW
 have HUd : Hid (UpdP (RP X Y S.n) w W.drew) := (UpdP.of_below hbW).trans (UpdP.of_below hdr)
 have HW : Hid (W = w.alloc (.cells #[.int .i64 a, .int .i64 b, .int .i64 d] 91)) := hW
 have HB : Hid (B = w.heap.size) := hB
 clear hW hB hbW hdr h
 have hop := x_copy hRd o hk e a b
 have y0 : W.drew.cell? ⟨B, 0, none⟩ = some (.int .i64 a) := by rw [cell_of_heap hXd]; rfl
 have y1 : W.drew.cell? ⟨B, 1, none⟩ = some (.int .i64 b) := by rw [cell_of_heap hXd]; rfl
 have y2 : W.drew.cell? ⟨B, 2, none⟩ = some (.int .i64 d) := by rw [cell_of_heap hXd]; rfl
 have hS := show W.drew.cell? ⟨X, 0, none⟩ = some (ptr Y.J.p0) ∧ W.drew.cell? ⟨B, 0, none⟩ = some (.int .i64 a) ∧ W.drew.cell? ⟨B, 1, none⟩ = some (.int .i64 b) from ⟨hRd.c0, y0, y1⟩
 have HRd : Hid _ := hRd
 have HXd : Hid _ := hXd
 clear hRW hXW hRd hXd y0 y1 y2
 go_enter Tryz.func34, Tryz.ntmps34
 go_wp2_with fail
 rw [← HW.out, ← HB.out]
 clear HW HB
 refine wp_region_held_drew (S := fun w' => w'.cell? ⟨X, 0, none⟩ = some (ptr Y.J.p0) ∧ w'.cell? ⟨B, 0, none⟩ = some (.int .i64 a) ∧ w'.cell? ⟨B, 1, none⟩ = some (.int .i64 b)) (by kernel_rfl) hS (fun hHeld => ?_)
 refine tkz [0, 1, 2, 3, 4, 5, 6, 7, 8] ?_
 iterate 9
  refine tky (v := ?_) rfl (by kernel_rfl) (by kernel_rfl) (by kernel_rfl) (fun _ _ _ h => h) (Or.inl ⟨by kernel_rfl, ?_⟩) (by assumption) ?_
  rotate_left
  ·(intro w hSw; (try dsimp only at hSw); go_simp) <;> with_reducible rfl
  (try simp only [Act.put, lqa, lqb, lqc, lqd, lqe, lqf])
 refine tkw ?_
 refine wpAnyH_ready (rs := [9]) (by kernel_rfl) (by simp) ?_
 refine AllReadyH.cons rfl (fun K hK => ?_) AllReadyH.nil
 go_simp
 refine hop.mono ?_
 rintro x w1 ⟨rfl, hR1, hu1⟩
 have hU1 : UpdP (RP X Y S.n) w w1 := HUd.out.trans hu1
 have hX1 := RefX.box HRd.out hu1 HXd.out
 have u0 : w1.cell? ⟨B, 0, none⟩ = some (.int .i64 a) := by rw [cell_of_heap hX1]; rfl
 have u1 : w1.cell? ⟨B, 1, none⟩ = some (.int .i64 b) := by rw [cell_of_heap hX1]; rfl
 have u2 : w1.cell? ⟨B, 2, none⟩ = some (.int .i64 d) := by rw [cell_of_heap hX1]; rfl
 have hS1 := show w1.cell? ⟨X, 0, none⟩ = some (ptr Y.J.p0) ∧ w1.cell? ⟨B, 0, none⟩ = some (.int .i64 a) ∧ w1.cell? ⟨B, 1, none⟩ = some (.int .i64 b) from ⟨hR1.c0, u0, u1⟩
 have HR1 : Hid _ := hR1
 have HU1 : Hid _ := hU1
 clear hop hR1 hu1 hU1 hX1 u0 u1 u2
 refine hK.out _ _ hS1 (fun hHeld => ?_)
 clear hK K
 (try simp only [Act.put, lqa, lqb, lqc, lqd, lqe, lqf])
 refine tkz [10, 11] ?_
 iterate 2
  refine tky (v := ?_) rfl (by kernel_rfl) (by kernel_rfl) (by kernel_rfl) (fun _ _ _ h => h) (Or.inl ⟨by kernel_rfl, ?_⟩) (by assumption) ?_
  rotate_left
  ·(intro w hSw; (try dsimp only at hSw); go_simp) <;> with_reducible rfl
  (try simp only [Act.put, lqa, lqb, lqc, lqd, lqe, lqf])
 refine tkw ?_
 refine wpAnyH_done (by kernel_rfl) ?_ _
 clear hHeld
 go_wp2
 go_ret2
 exact ⟨none, 0, 0, rfl, RdV.nil _ _ _, HR1.out, HU1.out⟩
end
end Go.Proofs.YtbhpafgoofkkmaaGreatDoor
