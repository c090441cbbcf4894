import Derived.Test.YtbhpafgoofkkmaaGreatDoorXoG
set_option linter.all false
namespace Go.Proofs.YtbhpafgoofkkmaaGreatDoor
open Go.RowKit
section
variable {w : World} {Kb : Nat} {L : XL} {S : XS}
set_option maxHeartbeats 2000000 in
theorem raw_send_no (h : ExoAt w Kb L S) (e a b d : Int) (vv : Value) (hl : En.isB S.E a = false) :
  Calls Tryz.prog 29 #[ptr Kb, .agg #[.int .i64 e, .int .i64 11, .int .i64 a, .int .i64 b, .int .i64 d, vv]] w fun x w' => Did Kb L False w S [] 101 x w' := by
 obtain ⟨W, hW⟩ : ∃ W, W = w.alloc (.cells #[.int .i64 e, .int .i64 11, .int .i64 a, .int .i64 b, .int .i64 d, vv] 85) := ⟨_, rfl⟩
 obtain ⟨X, hXe⟩ : ∃ X, X = w.heap.size := ⟨_, rfl⟩
 have hb : Below w.heap.size w W.drew := by rw [hW]; exact (Ca.below_alloc w _).drew
 have hX : W.drew.heap[X]? = some (.cells #[.int .i64 e, .int .i64 11, .int .i64 a, .int .i64 b, .int .i64 d, vv] 85) := by rw [hW, hXe]; exact heap_alloc_new w _
 have hE := h.below hb
 have hI := En.is_at L.eb L.eg S.E S.V a W.drew hE.env
 rw [hl] at hI
 have hS : (fun w' => w'.cell? ⟨Kb, 1, none⟩ = some (ptr L.eb) ∧ (w'.cell? ⟨X, 0, none⟩ = some (.int .i64 e) ∧ w'.cell? ⟨X, 1, none⟩ = some (.int .i64 11) ∧ w'.cell? ⟨X, 2, none⟩ = some (.int .i64 a) ∧ w'.cell? ⟨X, 3, none⟩ = some (.int .i64 b) ∧ w'.cell? ⟨X, 4, none⟩ = some (.int .i64 d) ∧ w'.cell? ⟨X, 5, none⟩ = some (vv))) W.drew := ⟨hE.k1, six_cells hX⟩
 have HE : Hid _ := hE
 have HB : Hid _ := hb
 have HW : Hid _ := hW
 have HXe : Hid _ := hXe
 clear h hb hX hE hW hXe hl
 go_enter Tryz.func29, Tryz.ntmps29
 go_wp2_with fail
 rw [← HW.out, ← HXe.out]
 clear HW
 refine wp_region_held_drew (S := fun w' => w'.cell? ⟨Kb, 1, none⟩ = some (ptr L.eb) ∧ (w'.cell? ⟨X, 0, none⟩ = some (.int .i64 e) ∧ w'.cell? ⟨X, 1, none⟩ = some (.int .i64 11) ∧ w'.cell? ⟨X, 2, none⟩ = some (.int .i64 a) ∧ w'.cell? ⟨X, 3, none⟩ = some (.int .i64 b) ∧ w'.cell? ⟨X, 4, none⟩ = some (.int .i64 d) ∧ w'.cell? ⟨X, 5, none⟩ = some (vv))) (by kernel_rfl) hS (fun hHeld => ?_)
 refine tkz [0, 1, 2, 3, 4, 5] ?_
 iterate 6
  refine tky (v := ?_) rfl (by kernel_rfl) (by kernel_rfl) (by kernel_rfl) (fun _ _ _ h => h) (Or.inl ⟨by kernel_rfl, ?_⟩) (by assumption) ?_
  rotate_left
  ·(intro w hSw; (try dsimp only at hSw); go_simp) <;> with_reducible rfl
  (try simp only [Act.put, lqa, lqb, lqc, lqd, lqe, lqf])
 refine tkw ?_
 refine wpAnyH_ready (rs := [6]) (by kernel_rfl) (by simp) ?_
 refine AllReadyH.cons rfl (fun K hK => ?_) AllReadyH.nil
 go_simp
 refine hI.mono ?_
 rintro x w2 ⟨rfl, hw⟩
 rw [hw]
 clear hw w2
 refine hK.out _ _ hS (fun hHeld => ?_)
 clear hK K
 (try simp only [Act.put, lqa, lqb, lqc, lqd, lqe, lqf])
 refine tkz [7] ?_
 iterate 1
  refine tky (v := ?_) rfl (by kernel_rfl) (by kernel_rfl) (by kernel_rfl) (fun _ _ _ h => h) (Or.inl ⟨by kernel_rfl, ?_⟩) (by assumption) ?_
  rotate_left
  ·(intro w hSw; (try dsimp only at hSw); go_simp) <;> with_reducible rfl
  (try simp only [Act.put, lqa, lqb, lqc, lqd, lqe, lqf])
 refine tkw ?_
 refine wpAnyH_done (by kernel_rfl) ?_ _
 clear hHeld hS hI
 go_wp2_with (go_at_call 25; refine (answer_nil _ _).mono ?_; rintro x w3 ⟨rfl, hw⟩; rw [hw]; clear hw w3)
 go_ret2
 exact ⟨_, _, _, rfl, URow.nil _ _, HE.out, XTch.of_below HB.out⟩
set_option maxHeartbeats 2000000 in
theorem raw_send (h : ExoAt w Kb L S) (e a b d : Int) (av : Option Addr) (nv cv : Nat) (ws : List Int) (hv : RdV w (.slice av nv cv) ws) (hl : En.isB S.E a = true) :
  Calls Tryz.prog 29 #[ptr Kb, .agg #[.int .i64 e, .int .i64 11, .int .i64 a, .int .i64 b, .int .i64 d, .slice av nv cv]] w fun x w' => ∃ a' c', Ip.NewA w.heap.size a' ∧ Did Kb L True w { S with Q := Ip.sendQ S.Q e a a' c' ws } [] (Ip.sendR S.Q e a ws.length) x w' := by
 obtain rfl : nv = ws.length := by
  obtain ⟨a0, c0, he0, _⟩ := hv
  simp only [Value.slice.injEq] at he0
  exact he0.2.1
 obtain ⟨W, hW⟩ : ∃ W, W = w.alloc (.cells #[.int .i64 e, .int .i64 11, .int .i64 a, .int .i64 b, .int .i64 d, .slice av ws.length cv] 85) := ⟨_, rfl⟩
 obtain ⟨X, hXe⟩ : ∃ X, X = w.heap.size := ⟨_, rfl⟩
 have hb : Below w.heap.size w W.drew := by rw [hW]; exact (Ca.below_alloc w _).drew
 have hX : W.drew.heap[X]? = some (.cells #[.int .i64 e, .int .i64 11, .int .i64 a, .int .i64 b, .int .i64 d, .slice av ws.length cv] 85) := by rw [hW, hXe]; exact heap_alloc_new w _
 have hE := h.below hb
 have hI := En.is_at L.eb L.eg S.E S.V a W.drew hE.env
 rw [hl] at hI
 have hbd : Below w.heap.size w W.drew.drew := hb.drew
 have hXd : W.drew.drew.heap[X]? = some (.cells #[.int .i64 e, .int .i64 11, .int .i64 a, .int .i64 b, .int .i64 d, .slice av ws.length cv] 85) := hX
 have hEd := h.below hbd
 obtain ⟨a0, c0, he0, _, hr0⟩ := hv.below hbd
 simp only [Value.slice.injEq] at he0
 obtain ⟨e1, _, e3⟩ := he0
 subst e1
 have hC := Ip.send2_at L.iB L.ib S.Q e a av ws cv W.drew.drew hEd.ipc hr0 hEd.lowB
 have hS : (fun w' => w'.cell? ⟨Kb, 1, none⟩ = some (ptr L.eb) ∧ (w'.cell? ⟨X, 0, none⟩ = some (.int .i64 e) ∧ w'.cell? ⟨X, 1, none⟩ = some (.int .i64 11) ∧ w'.cell? ⟨X, 2, none⟩ = some (.int .i64 a) ∧ w'.cell? ⟨X, 3, none⟩ = some (.int .i64 b) ∧ w'.cell? ⟨X, 4, none⟩ = some (.int .i64 d) ∧ w'.cell? ⟨X, 5, none⟩ = some (.slice av ws.length cv))) W.drew := ⟨hE.k1, six_cells hX⟩
 have hSd : (fun w' => w'.cell? ⟨Kb, 2, none⟩ = some (ptr L.ib) ∧ (w'.cell? ⟨X, 0, none⟩ = some (.int .i64 e) ∧ w'.cell? ⟨X, 1, none⟩ = some (.int .i64 11) ∧ w'.cell? ⟨X, 2, none⟩ = some (.int .i64 a) ∧ w'.cell? ⟨X, 3, none⟩ = some (.int .i64 b) ∧ w'.cell? ⟨X, 4, none⟩ = some (.int .i64 d) ∧ w'.cell? ⟨X, 5, none⟩ = some (.slice av ws.length cv))) W.drew.drew := ⟨hEd.k2, six_cells hXd⟩
 have HE : Hid _ := hEd
 have HX : Hid _ := hXd
 have HB : Hid _ := hbd
 have HW : Hid _ := hW
 have HXe : Hid _ := hXe
 clear h hb hX hE hW hXe hl hbd hXd hEd hr0 e3 hv
 go_enter Tryz.func29, Tryz.ntmps29
 go_wp2_with fail
 rw [← HW.out, ← HXe.out]
 clear HW
 refine wp_region_held_drew (S := fun w' => w'.cell? ⟨Kb, 1, none⟩ = some (ptr L.eb) ∧ (w'.cell? ⟨X, 0, none⟩ = some (.int .i64 e) ∧ w'.cell? ⟨X, 1, none⟩ = some (.int .i64 11) ∧ w'.cell? ⟨X, 2, none⟩ = some (.int .i64 a) ∧ w'.cell? ⟨X, 3, none⟩ = some (.int .i64 b) ∧ w'.cell? ⟨X, 4, none⟩ = some (.int .i64 d) ∧ w'.cell? ⟨X, 5, none⟩ = some (.slice av ws.length cv))) (by kernel_rfl) hS (fun hHeld => ?_)
 refine tkz [0, 1, 2, 3, 4, 5] ?_
 iterate 6
  refine tky (v := ?_) rfl (by kernel_rfl) (by kernel_rfl) (by kernel_rfl) (fun _ _ _ h => h) (Or.inl ⟨by kernel_rfl, ?_⟩) (by assumption) ?_
  rotate_left
  ·(intro w hSw; (try dsimp only at hSw); go_simp) <;> with_reducible rfl
  (try simp only [Act.put, lqa, lqb, lqc, lqd, lqe, lqf])
 refine tkw ?_
 refine wpAnyH_ready (rs := [6]) (by kernel_rfl) (by simp) ?_
 refine AllReadyH.cons rfl (fun K hK => ?_) AllReadyH.nil
 go_simp
 refine hI.mono ?_
 rintro x w2 ⟨rfl, hw⟩
 rw [hw]
 clear hw w2
 refine hK.out _ _ hS (fun hHeld => ?_)
 clear hK K
 (try simp only [Act.put, lqa, lqb, lqc, lqd, lqe, lqf])
 refine tkz [7] ?_
 iterate 1
  refine tky (v := ?_) rfl (by kernel_rfl) (by kernel_rfl) (by kernel_rfl) (fun _ _ _ h => h) (Or.inl ⟨by kernel_rfl, ?_⟩) (by assumption) ?_
  rotate_left
  ·(intro w hSw; (try dsimp only at hSw); go_simp) <;> with_reducible rfl
  (try simp only [Act.put, lqa, lqb, lqc, lqd, lqe, lqf])
 refine tkw ?_
 refine wpAnyH_done (by kernel_rfl) ?_ _
 clear hHeld hS hI
 go_wp2_with fail
 refine wp_region_held_drew (S := fun w' => w'.cell? ⟨Kb, 2, none⟩ = some (ptr L.ib) ∧ (w'.cell? ⟨X, 0, none⟩ = some (.int .i64 e) ∧ w'.cell? ⟨X, 1, none⟩ = some (.int .i64 11) ∧ w'.cell? ⟨X, 2, none⟩ = some (.int .i64 a) ∧ w'.cell? ⟨X, 3, none⟩ = some (.int .i64 b) ∧ w'.cell? ⟨X, 4, none⟩ = some (.int .i64 d) ∧ w'.cell? ⟨X, 5, none⟩ = some (.slice av ws.length cv))) (by kernel_rfl) hSd (fun hHeld => ?_)
 refine tkz [0, 1, 2, 3, 4, 5, 6, 7, 8, 9] ?_
 iterate 10
  refine tky (v := ?_) rfl (by kernel_rfl) (by kernel_rfl) (by kernel_rfl) (fun _ _ _ h => h) (Or.inl ⟨by kernel_rfl, ?_⟩) (by assumption) ?_
  rotate_left
  ·(intro w hSw; (try dsimp only at hSw); go_simp) <;> with_reducible rfl
  (try simp only [Act.put, lqa, lqb, lqc, lqd, lqe, lqf])
 refine tkw ?_
 refine wpAnyH_ready (rs := [10]) (by kernel_rfl) (by simp) ?_
 refine AllReadyH.cons rfl (fun K hK => ?_) AllReadyH.nil
 go_simp
 refine hC.mono ?_
 rintro x w2 ⟨rfl, ⟨a2, c2, hk2, hn2⟩, hu2⟩
 have hX2 : w2.heap[X]? = some (.cells #[.int .i64 e, .int .i64 11, .int .i64 a, .int .i64 b, .int .i64 d, .slice av ws.length cv] 85) := hu2.other HX.out (by decide) (by decide)
 have hE2 := HE.out.updI hk2 hu2
 have hT2 : XTch L True w w2 := (XTch.of_below HB.out).trans (XTch.of_tch hu2 trivial)
 have hS2 : (fun w' => w'.cell? ⟨Kb, 2, none⟩ = some (ptr L.ib) ∧ (w'.cell? ⟨X, 0, none⟩ = some (.int .i64 e) ∧ w'.cell? ⟨X, 1, none⟩ = some (.int .i64 11) ∧ w'.cell? ⟨X, 2, none⟩ = some (.int .i64 a) ∧ w'.cell? ⟨X, 3, none⟩ = some (.int .i64 b) ∧ w'.cell? ⟨X, 4, none⟩ = some (.int .i64 d) ∧ w'.cell? ⟨X, 5, none⟩ = some (.slice av ws.length cv))) w2 := ⟨hE2.k2, six_cells hX2⟩
 have HE2 : Hid _ := hE2
 have HT2 : Hid _ := hT2
 have HN2 : Hid (Ip.NewA w.heap.size a2) := fun g off q => Nat.le_trans HB.out.size (hn2 g off q)
 clear hX2 hE2 hT2 hk2 hu2 hC hn2
 generalize hRq : Ip.sendR S.Q e a ws.length = R at *
 have HRq : Hid _ := hRq
 clear hRq
 refine hK.out _ _ hS2 (fun hHeld => ?_)
 clear hK K
 (try simp only [Act.put, lqa, lqb, lqc, lqd, lqe, lqf])
 refine wpAnyH_ready (rs := [11]) (by kernel_rfl) (by simp) ?_
 refine AllReadyH.cons rfl (fun K hK => ?_) AllReadyH.nil
 go_simp
 refine (answer_nil _ w2).mono ?_
 rintro x w3 ⟨rfl, hw⟩
 rw [hw]
 clear hw w3
 refine hK.out _ _ hS2 (fun hHeld => ?_)
 clear hK K
 (try simp only [Act.put, lqa, lqb, lqc, lqd, lqe, lqf])
 refine tkz [12, 13, 14, 15] ?_
 iterate 4
  refine tky (v := ?_) rfl (by kernel_rfl) (by kernel_rfl) (by kernel_rfl) (fun _ _ _ h => h) (Or.inl ⟨by kernel_rfl, ?_⟩) (by assumption) ?_
  rotate_left
  ·(intro w hSw; (try dsimp only at hSw); go_simp) <;> with_reducible rfl
  (try simp only [Act.put, lqa, lqb, lqc, lqd, lqe, lqf])
 refine tkw ?_
 refine wpAnyH_done (by kernel_rfl) ?_ _
 clear hHeld
 go_wp2
 go_ret2
 exact ⟨a2, HN2.out, c2, _, _, _, by rw [HRq.out]; rfl, URow.nil _ _, HE2.out, HT2.out⟩
set_option maxHeartbeats 2000000 in
theorem raw_recv_no (h : ExoAt w Kb L S) (e a b d : Int) (vv : Value) (hq : Ip.qat S.Q e = []) :
  Calls Tryz.prog 29 #[ptr Kb, .agg #[.int .i64 e, .int .i64 12, .int .i64 a, .int .i64 b, .int .i64 d, vv]] w fun x w' => Did Kb L False w S [] 106 x w' := by
 obtain ⟨W, hW⟩ : ∃ W, W = w.alloc (.cells #[.int .i64 e, .int .i64 12, .int .i64 a, .int .i64 b, .int .i64 d, vv] 85) := ⟨_, rfl⟩
 obtain ⟨X, hXe⟩ : ∃ X, X = w.heap.size := ⟨_, rfl⟩
 have hb : Below w.heap.size w W.drew := by rw [hW]; exact (Ca.below_alloc w _).drew
 have hX : W.drew.heap[X]? = some (.cells #[.int .i64 e, .int .i64 12, .int .i64 a, .int .i64 b, .int .i64 d, vv] 85) := by rw [hW, hXe]; exact heap_alloc_new w _
 have hE := h.below hb
 have hC := Ip.recv2_at L.iB L.ib S.Q e W.drew hE.ipc
 rw [hq] at hC
 dsimp only [Ip.recvF, Ip.recvV, Ip.recvB] at hC
 have hS : (fun w' => w'.cell? ⟨Kb, 2, none⟩ = some (ptr L.ib) ∧ (w'.cell? ⟨X, 0, none⟩ = some (.int .i64 e) ∧ w'.cell? ⟨X, 1, none⟩ = some (.int .i64 12) ∧ w'.cell? ⟨X, 2, none⟩ = some (.int .i64 a) ∧ w'.cell? ⟨X, 3, none⟩ = some (.int .i64 b) ∧ w'.cell? ⟨X, 4, none⟩ = some (.int .i64 d) ∧ w'.cell? ⟨X, 5, none⟩ = some (vv))) W.drew := ⟨hE.k2, six_cells hX⟩
 have HE : Hid _ := hE
 have HX : Hid _ := hX
 have HB : Hid _ := hb
 have HW : Hid _ := hW
 have HXe : Hid _ := hXe
 clear h hb hX hE hW hXe hq
 go_enter Tryz.func29, Tryz.ntmps29
 go_wp2_with fail
 rw [← HW.out, ← HXe.out]
 clear HW
 refine wp_region_held_drew (S := fun w' => w'.cell? ⟨Kb, 2, none⟩ = some (ptr L.ib) ∧ (w'.cell? ⟨X, 0, none⟩ = some (.int .i64 e) ∧ w'.cell? ⟨X, 1, none⟩ = some (.int .i64 12) ∧ w'.cell? ⟨X, 2, none⟩ = some (.int .i64 a) ∧ w'.cell? ⟨X, 3, none⟩ = some (.int .i64 b) ∧ w'.cell? ⟨X, 4, none⟩ = some (.int .i64 d) ∧ w'.cell? ⟨X, 5, none⟩ = some (vv))) (by kernel_rfl) hS (fun hHeld => ?_)
 refine tkz [0, 1, 2, 3, 4, 5] ?_
 iterate 6
  refine tky (v := ?_) rfl (by kernel_rfl) (by kernel_rfl) (by kernel_rfl) (fun _ _ _ h => h) (Or.inl ⟨by kernel_rfl, ?_⟩) (by assumption) ?_
  rotate_left
  ·(intro w hSw; (try dsimp only at hSw); go_simp) <;> with_reducible rfl
  (try simp only [Act.put, lqa, lqb, lqc, lqd, lqe, lqf])
 refine tkw ?_
 refine wpAnyH_ready (rs := [6]) (by kernel_rfl) (by simp) ?_
 refine AllReadyH.cons rfl (fun K hK => ?_) AllReadyH.nil
 go_simp
 refine hC.mono ?_
 rintro x w2 ⟨rfl, _, _, hu2⟩
 have hu2 := hu2 (by first | rfl | trivial)
 have hX2 : w2.heap[X]? = some (.cells #[.int .i64 e, .int .i64 12, .int .i64 a, .int .i64 b, .int .i64 d, vv] 85) := (hu2.block _ (lt_of_heap HX.out)).trans HX.out
 have hE2 := HE.out.below hu2
 have hT2 : XTch L False w w2 := (XTch.of_below HB.out).trans (XTch.of_below hu2)
 have hS2 : (fun w' => w'.cell? ⟨Kb, 2, none⟩ = some (ptr L.ib) ∧ (w'.cell? ⟨X, 0, none⟩ = some (.int .i64 e) ∧ w'.cell? ⟨X, 1, none⟩ = some (.int .i64 12) ∧ w'.cell? ⟨X, 2, none⟩ = some (.int .i64 a) ∧ w'.cell? ⟨X, 3, none⟩ = some (.int .i64 b) ∧ w'.cell? ⟨X, 4, none⟩ = some (.int .i64 d) ∧ w'.cell? ⟨X, 5, none⟩ = some (vv))) w2 := ⟨hE2.k2, six_cells hX2⟩
 have HE2 : Hid _ := hE2
 have HT2 : Hid _ := hT2
 clear hX2 hE2 hT2 hu2 hC
 refine hK.out _ _ hS2 (fun hHeld => ?_)
 clear hK K
 (try simp only [Act.put, lqa, lqb, lqc, lqd, lqe, lqf])
 refine tkz [7, 8, 9, 10, 11, 12, 13] ?_
 iterate 7
  refine tky (v := ?_) rfl (by kernel_rfl) (by kernel_rfl) (by kernel_rfl) (fun _ _ _ h => h) (Or.inl ⟨by kernel_rfl, ?_⟩) (by assumption) ?_
  rotate_left
  ·(intro w hSw; (try dsimp only at hSw); go_simp) <;> with_reducible rfl
  (try simp only [Act.put, lqa, lqb, lqc, lqd, lqe, lqf])
 refine tkw ?_
 refine wpAnyH_done (by kernel_rfl) ?_ _
 clear hHeld hS hS2
 go_wp2_with (go_at_call 25; refine (answer_nil _ _).mono ?_; rintro x w3 ⟨rfl, hw⟩; rw [hw]; clear hw w3)
 go_ret2
 exact ⟨_, _, _, rfl, URow.nil _ _, HE2.out, HT2.out⟩
theorem ipc_wd {B b' : Nat} {Q : Ip.QS} (h : Ip.IpcAt w B b' Q) {n : Int} {m : Ip.Mg} (hm : m ∈ Ip.qat Q n) : Ip.Wd w m.a m.ws := by
 obtain ⟨V, h⟩ := h
 unfold Ip.qat at hm
 split at hm
 ·rename_i hi
  obtain ⟨k, rfl, hk⟩ := Ip.isE_nat hi
  exact h.wd k hk m hm
 ·cases hm
set_option maxHeartbeats 2000000 in
theorem raw_recv (h : ExoAt w Kb L S) (e a b d : Int) (vv : Value) (m : Ip.Mg) (R : List Ip.Mg) (hq : Ip.qat S.Q e = m :: R) (hfr : 0 ≤ m.fr ∧ m.fr < 12) (hln : m.ws.length ≤ 8) :
  Calls Tryz.prog 29 #[ptr Kb, .agg #[.int .i64 e, .int .i64 12, .int .i64 a, .int .i64 b, .int .i64 d, vv]] w fun x w' => Did Kb L True w { S with Q := Ip.recvQ S.Q e } (m.fr :: m.ws) 0 x w' := by
 obtain ⟨W, hW⟩ : ∃ W, W = w.alloc (.cells #[.int .i64 e, .int .i64 12, .int .i64 a, .int .i64 b, .int .i64 d, vv] 85) := ⟨_, rfl⟩
 obtain ⟨X, hXe⟩ : ∃ X, X = w.heap.size := ⟨_, rfl⟩
 have hb : Below w.heap.size w W.drew := by rw [hW]; exact (Ca.below_alloc w _).drew
 have hX : W.drew.heap[X]? = some (.cells #[.int .i64 e, .int .i64 12, .int .i64 a, .int .i64 b, .int .i64 d, vv] 85) := by rw [hW, hXe]; exact heap_alloc_new w _
 have hE := h.below hb
 have hC := Ip.recv2_at L.iB L.ib S.Q e W.drew hE.ipc
 have HWd : Hid (Ip.Wd W.drew m.a m.ws) := ipc_wd hE.ipc (n := e) (m := m) (by rw [hq]; exact List.mem_cons_self ..)
 rw [hq] at hC
 obtain ⟨fr, ma, mc, ws⟩ := m
 dsimp only [Ip.recvF, Ip.recvV, Ip.recvB, Ip.Mg.v] at *
 have hS : (fun w' => w'.cell? ⟨Kb, 2, none⟩ = some (ptr L.ib) ∧ (w'.cell? ⟨X, 0, none⟩ = some (.int .i64 e) ∧ w'.cell? ⟨X, 1, none⟩ = some (.int .i64 12) ∧ w'.cell? ⟨X, 2, none⟩ = some (.int .i64 a) ∧ w'.cell? ⟨X, 3, none⟩ = some (.int .i64 b) ∧ w'.cell? ⟨X, 4, none⟩ = some (.int .i64 d) ∧ w'.cell? ⟨X, 5, none⟩ = some (vv))) W.drew := ⟨hE.k2, six_cells hX⟩
 have HE : Hid _ := hE
 have HX : Hid _ := hX
 have HB : Hid _ := hb
 have HW : Hid _ := hW
 have HXe : Hid _ := hXe
 have HFr : Hid _ := hfr
 have HLn : Hid _ := hln
 clear h hb hX hE hW hXe hq hfr hln
 go_enter Tryz.func29, Tryz.ntmps29
 go_wp2_with fail
 rw [← HW.out, ← HXe.out]
 clear HW
 refine wp_region_held_drew (S := fun w' => w'.cell? ⟨Kb, 2, none⟩ = some (ptr L.ib) ∧ (w'.cell? ⟨X, 0, none⟩ = some (.int .i64 e) ∧ w'.cell? ⟨X, 1, none⟩ = some (.int .i64 12) ∧ w'.cell? ⟨X, 2, none⟩ = some (.int .i64 a) ∧ w'.cell? ⟨X, 3, none⟩ = some (.int .i64 b) ∧ w'.cell? ⟨X, 4, none⟩ = some (.int .i64 d) ∧ w'.cell? ⟨X, 5, none⟩ = some (vv))) (by kernel_rfl) hS (fun hHeld => ?_)
 refine tkz [0, 1, 2, 3, 4, 5] ?_
 iterate 6
  refine tky (v := ?_) rfl (by kernel_rfl) (by kernel_rfl) (by kernel_rfl) (fun _ _ _ h => h) (Or.inl ⟨by kernel_rfl, ?_⟩) (by assumption) ?_
  rotate_left
  ·(intro w hSw; (try dsimp only at hSw); go_simp) <;> with_reducible rfl
  (try simp only [Act.put, lqa, lqb, lqc, lqd, lqe, lqf])
 refine tkw ?_
 refine wpAnyH_ready (rs := [6]) (by kernel_rfl) (by simp) ?_
 refine AllReadyH.cons rfl (fun K hK => ?_) AllReadyH.nil
 go_simp
 refine hC.mono ?_
 rintro x w2 ⟨rfl, hk2, hu2, _⟩
 have hX2 : w2.heap[X]? = some (.cells #[.int .i64 e, .int .i64 12, .int .i64 a, .int .i64 b, .int .i64 d, vv] 85) := hu2.other HX.out (by decide) (by decide)
 have hE2 := HE.out.updI hk2 hu2
 have hT2 : XTch L True w w2 := (XTch.of_below HB.out).trans (XTch.of_tch hu2 trivial)
 have hS2 : (fun w' => w'.cell? ⟨Kb, 2, none⟩ = some (ptr L.ib) ∧ (w'.cell? ⟨X, 0, none⟩ = some (.int .i64 e) ∧ w'.cell? ⟨X, 1, none⟩ = some (.int .i64 12) ∧ w'.cell? ⟨X, 2, none⟩ = some (.int .i64 a) ∧ w'.cell? ⟨X, 3, none⟩ = some (.int .i64 b) ∧ w'.cell? ⟨X, 4, none⟩ = some (.int .i64 d) ∧ w'.cell? ⟨X, 5, none⟩ = some (vv))) w2 := ⟨hE2.k2, six_cells hX2⟩
 have HE2 : Hid _ := hE2
 have HT2 : Hid _ := hT2
 have HWd2 : Hid (Ip.Wd w2 ma ws) := Ip.Wd.tch HWd.out hu2
 clear hX2 hE2 hT2 hk2 hu2 hC HWd
 refine hK.out _ _ hS2 (fun hHeld => ?_)
 clear hK K
 (try simp only [Act.put, lqa, lqb, lqc, lqd, lqe, lqf])
 refine tkz [7, 8, 9, 10, 11, 12, 13] ?_
 iterate 7
  refine tky (v := ?_) rfl (by kernel_rfl) (by kernel_rfl) (by kernel_rfl) (fun _ _ _ h => h) (Or.inl ⟨by kernel_rfl, ?_⟩) (by assumption) ?_
  rotate_left
  ·(intro w hSw; (try dsimp only at hSw); go_simp) <;> with_reducible rfl
  (try simp only [Act.put, lqa, lqb, lqc, lqd, lqe, lqf])
 refine tkw ?_
 refine wpAnyH_done (by kernel_rfl) ?_ _
 clear hHeld hS hS2
 obtain ⟨V, hV⟩ : ∃ V, V = w2.alloc (.cells #[.int .i64 fr] 3) := ⟨_, rfl⟩
 have hbV : Below w2.heap.size w2 V := by rw [hV]; exact Ca.below_alloc _ _
 have hZV : V.heap[w2.heap.size]? = some (.cells #[.int .i64 fr] 3) := by rw [hV]; exact heap_alloc_new _ _
 have hrow := row_at [fr] 1 w2.heap.size 1 V rfl (fun j x hj => by
   have hj3 : j < 1 := (List.getElem?_eq_some_iff.1 hj).1
   rw [cell_of_heap hZV]
   have : j = 0 := by omega
   subst this
   simp at hj
   subst hj
   have := HFr.out
   exact ⟨rfl, this.1, by omega⟩) (by omega)
 have HbV : Hid _ := hbV
 have HV : Hid _ := hV
 clear hbV hZV hV
 go_wp2_with fail
 rw [← HV.out]
 clear HV
 refine hrow.mono ?_
 rintro x w3 ⟨cp, rfl, ho3, hb3⟩
 have hb23 : Below w2.heap.size w2 w3 := HbV.out.trans (hb3.mono HbV.out.size)
 obtain ⟨a4, c4, w4, hrun, hO4, hB4, hg4⟩ := grow_wordsR (c := mc) ho3 (Ip.Wd.below HWd2.out hb23).rd (by have := HLn.out; simp only [List.length_cons, List.length_nil]; omega) hb3.size
 have HRun : Hid (∀ ty, (Builtin.append_ #[27, 27] ty #[.slice (some ⟨V.heap.size, 0, none⟩) 1 cp, .slice ma ws.length mc]).run Tryz.prog w3 = .ok (.slice a4 (1 + ws.length) c4) w4) := hrun
 have hrd4 := hO4.urow.rdv
 have hb34 : Below w2.heap.size w2 w4 := hb23.trans (hB4.mono HbV.out.size)
 have hA := answer_ok ws.length (.slice a4 (1 + ws.length) c4) (fr :: ws) w4 rfl (by have := HLn.out; omega) hrd4
 have HB4 : Hid _ := hb34
 clear hrow ho3 hb3 hb23 hrun hO4 hB4 hg4 hrd4 hb34
 go_wp2_with (first | (at_builtin; refine Ip.wpList_append_eq rfl _ _ _ rfl _ _ _ rfl rfl HRun.out ?_) | fail)
 refine hA.mono ?_
 rintro x w5 ⟨g5, c5, rfl, ho5, hb5⟩
 have HO5 : Hid (OW _ _ _ _) := ho5
 have HB5 : Hid _ := hb5
 clear ho5 hb5 hA HRun
 go_wp2
 go_ret2
 exact ⟨_, _, _, rfl, (OW.urow HO5.out).mono (Nat.le_trans HT2.out.size HB4.out.size), (HE2.out.below HB4.out).below HB5.out, (HT2.out.trans (XTch.of_below HB4.out)).trans (XTch.of_below HB5.out)⟩
end
end Go.Proofs.YtbhpafgoofkkmaaGreatDoor
