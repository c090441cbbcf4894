/- Package unix: kill. -/
import Derived.Test.YtnlhedpfhgoncabGreatDoorUxATUxT
import Derived.Deep.DeepCutAuto
set_option linter.all false
namespace Go.Proofs.YtnlhedpfhgoncabGreatDoor
open Go.RowKit
set_option maxHeartbeats 2000000 in
set_option maxRecDepth 100000 in
theorem kill_no {w : World} {L : Pl} {U : Un} (h : UnAt w L U) (s : Value) (pid : Int) (x : Cl) (i : List UInt8) (h1 : 0 ≤ x.a) (h2 : 0 ≤ x.b) (hl : Pc.liv U.T (smI x.a) = false) :
    Calls Tryz.prog 56 #[.agg (tkR L.c s pid x i)] w (Left L (Ou.no 3) U w) := by
  unfold Left
  obtain ⟨WK, hWK⟩ : ∃ W, W = w.alloc (.cells (tkR L.c s pid x i) 68) := ⟨_, rfl⟩
  have hbK : Below w.heap.size w WK := by rw [hWK]; exact below_alloc _ _
  have hsK : WK.heap.size = w.heap.size + 1 := by rw [hWK]; simp
  have hxK : WK.heap[w.heap.size]? = some (.cells (tkR L.c s pid x i) 68) := by rw [hWK]; exact heap_alloc_new _ _
  obtain ⟨WZ, hWZ⟩ : ∃ W, W = WK.alloc (.cells (ouR Ou.zero) 65) := ⟨_, rfl⟩
  have hbZ : Below WK.heap.size WK WZ := by rw [hWZ]; exact below_alloc _ _
  have hsZ : WZ.heap.size = w.heap.size + 1 + 1 := by rw [hWZ]; simp [hsK]
  have hxZ : WZ.heap[w.heap.size + 1]? = some (.cells (ouR Ou.zero) 65) := by rw [hWZ, ← hsK]; exact heap_alloc_new _ _
  have hyK : WZ.heap[w.heap.size]? = some (.cells (tkR L.c s pid x i) 68) := ((hbZ.block _ (lt_of_heap (hxK))).trans (hxK))
  have hyZ := hxZ
  have hB : Below w.heap.size w WZ := ((hbK).trans (hbZ.mono (hbK).size))
  have HA0 : Hid (UnAt WZ L U) := h.below hB
  have HB0 : Hid (Below w.heap.size w WZ) := hB
  have hz : (#[.int .i64 0, .int .i64 0, .string ⟨#[]⟩, .int .i64 0, .int .i64 0, .string ⟨#[]⟩, .int .i64 0, .bool false] : Array Value) = ouR Ou.zero := rfl
  obtain ⟨kb, hKb⟩ : ∃ k, k = w.heap.size := ⟨_, rfl⟩
  rw [← hKb] at hyK
  have HK : Hid (WZ.heap[kb]? = some (.cells (tkR L.c s pid x i) 68)) := hyK
  have HKb : Hid (kb = w.heap.size) := hKb
  have HWK : Hid _ := hWK
  obtain ⟨zb, hZb⟩ : ∃ k, k = w.heap.size + 1 := ⟨_, rfl⟩
  rw [← hZb] at hyZ
  have HZ : Hid (WZ.heap[zb]? = some (.cells (ouR Ou.zero) 65)) := hyZ
  have HZb : Hid (zb = w.heap.size + 1) := hZb
  have HWZ : Hid _ := hWZ
  have HU : Hid (UnAt w L U) := h
  clear hWK hbK hsK hxK hKb hWZ hbZ hsZ hxZ hZb hB h
  have hLv := fun W hW => ulive_at (w := W) (L := L) (U := U) hW (smI x.a)
  have hA := fun W => small_at x.a h1 W
  have hB := fun W => small_at x.b h2 W
  obtain ⟨cc, hcc⟩ : ∃ c, c = L.c := ⟨_, rfl⟩
  obtain ⟨ss, hss⟩ : ∃ c, c = L.s := ⟨_, rfl⟩
  rw [← hcc] at HK hyK HWK hLv ⊢
  have Hcc : Hid (cc = L.c) := hcc
  have Hs : Hid (ss = L.s) := hss
  obtain ⟨o, ho⟩ : ∃ o, o = Ou.no 3 := ⟨_, rfl⟩
  rw [← ho]
  have HO : Hid (o = Ou.no 3) := ho
  obtain ⟨U', hU'⟩ : ∃ V, V = U := ⟨_, rfl⟩
  rw [← hU']
  have HU' : Hid (U' = U) := hU'
  obtain ⟨R, hR⟩ : ∃ R, R = ouR o := ⟨_, rfl⟩
  have HRs : Hid (R.size = 8) := by rw [hR]; exact ouR_size _
  have HOne : Hid (R.all (·.oneCell') = true) := by rw [hR]; exact ouR_one _
  rw [← hR]
  have HRq : Hid (R = ouR o) := hR
  clear ho hU' hR
  obtain ⟨xa, hxa⟩ : ∃ a, a = x.a := ⟨_, rfl⟩
  obtain ⟨xb, hxb⟩ : ∃ a, a = x.b := ⟨_, rfl⟩
  have hk4 : WZ.cell? ⟨kb, 4, none⟩ = some (.int .u64 xa) := by rw [cell_of_heap HK.out, hxa]; rfl
  have hk5 : WZ.cell? ⟨kb, 5, none⟩ = some (.int .u64 xb) := by rw [cell_of_heap HK.out, hxb]; rfl
  rw [← hxa] at hA hLv hl
  rw [← hxb] at hB
  obtain ⟨sa, hsa⟩ : ∃ a, a = smI xa := ⟨_, rfl⟩
  obtain ⟨sb, hsb⟩ : ∃ a, a = smI xb := ⟨_, rfl⟩
  rw [← hsa] at hA hLv hl
  rw [← hsb] at hB
  rw [hl] at hLv
  have Hsa : Hid (sa = smI x.a) := by show _ = _; rw [hsa, hxa]
  have Hsb : Hid (sb = smI x.b) := by show _ = _; rw [hsb, hxb]
  clear hyK hyZ hcc hss h1 h2 hl hxa hxb hsa hsb
  go_enter Tryz.func56, Tryz.ntmps56
  go_upto_region 1 with fail
  rw [← HWK.out, ← HWZ.out]
  rw [← HZb.out]
  rw [← HKb.out]
  refine wp_region_held_drew (S := fun w' => w'.cell? ⟨kb, 4, none⟩ = some (.int .u64 xa) ∧ w'.cell? ⟨kb, 5, none⟩ = some (.int .u64 xb)) (by kernel_rfl) ⟨hk4, hk5⟩ (fun hHeld => ?_)
  refine wpAnyH_take (i := 0) (v := ?_) rfl (by kernel_rfl) (by kernel_rfl) (by kernel_rfl) (fun _ _ _ h => h) (Or.inl ⟨by kernel_rfl, ?_⟩) (by assumption) ?_
  rotate_left
  · (intro w hSw; (try dsimp only at hSw); go_simp) <;> with_reducible rfl
  (try simp only [Act.put, List.getElem_toArray, List.getElem_cons_zero, List.setIfInBounds_toArray, List.set_cons_zero, List.set_cons_succ])
  refine wpAnyH_take (i := 1) (v := ?_) rfl (by kernel_rfl) (by kernel_rfl) (by kernel_rfl) (fun _ _ _ h => h) (Or.inl ⟨by kernel_rfl, ?_⟩) (by assumption) ?_
  rotate_left
  · (intro w hSw; (try dsimp only at hSw); go_simp) <;> with_reducible rfl
  (try simp only [Act.put, List.getElem_toArray, List.getElem_cons_zero, List.getElem_cons_succ, List.setIfInBounds_toArray, List.set_cons_zero, List.set_cons_succ])
  refine wpAnyH_take (i := 2) (v := ?_) rfl (by kernel_rfl) (by kernel_rfl) (by kernel_rfl) (fun _ _ _ h => h) (Or.inl ⟨by kernel_rfl, ?_⟩) (by assumption) ?_
  rotate_left
  · (intro w hSw; (try dsimp only at hSw); go_simp) <;> with_reducible rfl
  (try simp only [Act.put, List.getElem_toArray, List.getElem_cons_zero, List.getElem_cons_succ, List.setIfInBounds_toArray, List.set_cons_zero, List.set_cons_succ])
  refine wpAnyH_take (i := 4) (v := ?_) rfl (by kernel_rfl) (by kernel_rfl) (by kernel_rfl) (fun _ _ _ h => h) (Or.inl ⟨by kernel_rfl, ?_⟩) (by assumption) ?_
  rotate_left
  · (intro w hSw; (try dsimp only at hSw); go_simp) <;> with_reducible rfl
  (try simp only [Act.put, List.getElem_toArray, List.getElem_cons_zero, List.getElem_cons_succ, List.setIfInBounds_toArray, List.set_cons_zero, List.set_cons_succ])
  refine wpAnyH_take (i := 5) (v := ?_) rfl (by kernel_rfl) (by kernel_rfl) (by kernel_rfl) (fun _ _ _ h => h) (Or.inl ⟨by kernel_rfl, ?_⟩) (by assumption) ?_
  rotate_left
  · (intro w hSw; (try dsimp only at hSw); go_simp) <;> with_reducible rfl
  (try simp only [Act.put, List.getElem_toArray, List.getElem_cons_zero, List.getElem_cons_succ, List.setIfInBounds_toArray, List.set_cons_zero, List.set_cons_succ])
  refine wpAnyH_take (i := 6) (v := ?_) rfl (by kernel_rfl) (by kernel_rfl) (by kernel_rfl) (fun _ _ _ h => h) (Or.inl ⟨by kernel_rfl, ?_⟩) (by assumption) ?_
  rotate_left
  · (intro w hSw; (try dsimp only at hSw); go_simp) <;> with_reducible rfl
  (try simp only [Act.put, List.getElem_toArray, List.getElem_cons_zero, List.getElem_cons_succ, List.setIfInBounds_toArray, List.set_cons_zero, List.set_cons_succ])
  refine wpAnyH_ready (rs := [3]) (by kernel_rfl) (by simp) ?_
  refine AllReadyH.cons rfl (fun K hK => ?_) AllReadyH.nil
  go_simp
  refine (hA _).mono ?_
  rintro e v1 ⟨rfl, hw⟩
  rw [hw]
  clear hw v1
  refine hK.out _ _ hHeld (fun hHeld => ?_)
  clear hK K
  (try simp only [Act.put, List.getElem_toArray, List.getElem_cons_zero, List.getElem_cons_succ, List.setIfInBounds_toArray, List.set_cons_zero, List.set_cons_succ])
  refine wpAnyH_ready (rs := [7]) (by kernel_rfl) (by simp) ?_
  refine AllReadyH.cons rfl (fun K hK => ?_) AllReadyH.nil
  go_simp
  refine (hB _).mono ?_
  rintro e v1 ⟨rfl, hw⟩
  rw [hw]
  clear hw v1
  refine hK.out _ _ hHeld (fun hHeld => ?_)
  clear hK K
  (try simp only [Act.put, List.getElem_toArray, List.getElem_cons_zero, List.getElem_cons_succ, List.setIfInBounds_toArray, List.set_cons_zero, List.set_cons_succ])
  refine wpAnyH_take (i := 8) (v := ?_) rfl (by kernel_rfl) (by kernel_rfl) (by kernel_rfl) (fun _ _ _ h => h) (Or.inl ⟨by kernel_rfl, ?_⟩) (by assumption) ?_
  rotate_left
  · (intro w hSw; (try dsimp only at hSw); go_simp) <;> with_reducible rfl
  (try simp only [Act.put, List.getElem_toArray, List.getElem_cons_zero, List.getElem_cons_succ, List.setIfInBounds_toArray, List.set_cons_zero, List.set_cons_succ])
  refine wpAnyH_take (i := 9) (v := ?_) rfl (by kernel_rfl) (by kernel_rfl) (by kernel_rfl) (fun _ _ _ h => h) (Or.inl ⟨by kernel_rfl, ?_⟩) (by assumption) ?_
  rotate_left
  · (intro w hSw; (try dsimp only at hSw); go_simp) <;> with_reducible rfl
  (try simp only [Act.put, List.getElem_toArray, List.getElem_cons_zero, List.getElem_cons_succ, List.setIfInBounds_toArray, List.set_cons_zero, List.set_cons_succ])
  refine wpAnyH_done (by kernel_rfl) ?_ _
  clear hHeld hA hB hk4 hk5
  obtain ⟨w2, hw2⟩ : ∃ V, V = WZ.drew := ⟨_, rfl⟩
  have hb2 : Below WZ.heap.size WZ w2 := by rw [hw2]; exact Di.drewN_below (w := WZ) ⟨1, rfl⟩
  have HA2 : Hid (UnAt w2 L U) := HA0.out.below hb2
  have HK2 : Hid (w2.heap[kb]? = some (.cells (tkR cc s pid x i) 68)) := (hb2.block _ (lt_of_heap HK.out)).trans HK.out
  have HZ2 : Hid (w2.heap[zb]? = some (.cells (ouR Ou.zero) 65)) := (hb2.block _ (lt_of_heap HZ.out)).trans HZ.out
  have HU2 : Hid (UT L.lo w w2) := UT.of_below (HB0.out.trans (hb2.mono HB0.out.size))
  have hk0 : w2.cell? ⟨kb, 0, none⟩ = some (ptr cc) := by rw [cell_of_heap HK2.out]; rfl
  rw [← hw2]
  clear hw2 hb2
  have hLv := hLv w2 HA2.out
  go_wp2_with fail
  refine hLv.mono ?_
  rintro e v1 ⟨rfl, hw⟩
  rw [hw]
  clear hw v1 hLv hk0
  obtain ⟨w4, hw4⟩ : ∃ V, V = w2 := ⟨_, rfl⟩
  have HA4 : Hid (UnAt w4 L U') := by rw [hw4, HU'.out]; exact HA2.out
  have HU4 : Hid (UT L.lo w w4) := by rw [hw4]; exact HU2.out
  have HZ4 : Hid (w4.heap[zb]? = some (.cells (ouR Ou.zero) 65)) := by rw [hw4]; exact HZ2.out
  rw [← hw4]
  clear hw4
  have hN := failed_at 3
  have e1 : ouR (Ou.no 3) = R := by rw [HRq.out, HO.out]
  rw [e1] at hN
  clear e1 HO
  go_wp2_with fail
  refine (hN _).mono ?_
  rintro e w5 ⟨rfl, hb5⟩
  have HB5 : Hid (Below w4.heap.size w4 w5) := hb5
  have HA1 : Hid (UnAt w5 L U') := HA4.out.below HB5.out
  have HU1 : Hid (UT L.lo w w5) := HU4.out.trans (UT.of_below HB5.out)
  clear hN hb5
  have HM : Hid (w5.heap[zb]? = some (.cells (ouR Ou.zero) 65)) := (HB5.out.block _ (lt_of_heap HZ4.out)).trans HZ4.out
  have HQ : Hid ((w5.setRow zb R).heap[zb]? = some (.cells R 65)) := setRow_heap _ zb _ _ _ _ HM.out
  have HF : Hid (UnAt (w5.setRow zb R) L U' ∧ UT L.lo w (w5.setRow zb R)) := ⟨HA1.out.row HM.out rfl (by decide) (by decide), HU1.out.far (by rw [HZb.out]; omega)⟩
  go_wp2_with (first
    | (refine wpList_store_row rfl 65 _ _ rfl zb R rfl rfl 65 (ouR Ou.zero) HM.out (by rw [HRs.out]; exact ouSize) (by rw [HRs.out]; rfl) HOne.out ?_)
    | go_in)
  exact bodyPost_ret (v := .agg R) (results_cell_row rfl _ _ zb 65 R (0, 0) _ rfl HQ.out Tryz.underlying65 rfl (by rw [HRs.out]; exact ouSize)) rfl ⟨rfl, HF.out⟩
set_option maxHeartbeats 2000000 in
set_option maxRecDepth 100000 in
theorem kill_bad {w : World} {L : Pl} {U : Un} (h : UnAt w L U) (s : Value) (pid : Int) (x : Cl) (i : List UInt8) (h1 : 0 ≤ x.a) (h2 : 0 ≤ x.b) (hl : Pc.liv U.T (smI x.a) = true) (hb : smI x.b < 0) :
    Calls Tryz.prog 56 #[.agg (tkR L.c s pid x i)] w (Left L (Ou.no 22) U w) := by
  unfold Left
  obtain ⟨WK, hWK⟩ : ∃ W, W = w.alloc (.cells (tkR L.c s pid x i) 68) := ⟨_, rfl⟩
  have hbK : Below w.heap.size w WK := by rw [hWK]; exact below_alloc _ _
  have hsK : WK.heap.size = w.heap.size + 1 := by rw [hWK]; simp
  have hxK : WK.heap[w.heap.size]? = some (.cells (tkR L.c s pid x i) 68) := by rw [hWK]; exact heap_alloc_new _ _
  obtain ⟨WZ, hWZ⟩ : ∃ W, W = WK.alloc (.cells (ouR Ou.zero) 65) := ⟨_, rfl⟩
  have hbZ : Below WK.heap.size WK WZ := by rw [hWZ]; exact below_alloc _ _
  have hsZ : WZ.heap.size = w.heap.size + 1 + 1 := by rw [hWZ]; simp [hsK]
  have hxZ : WZ.heap[w.heap.size + 1]? = some (.cells (ouR Ou.zero) 65) := by rw [hWZ, ← hsK]; exact heap_alloc_new _ _
  have hyK : WZ.heap[w.heap.size]? = some (.cells (tkR L.c s pid x i) 68) := ((hbZ.block _ (lt_of_heap (hxK))).trans (hxK))
  have hyZ := hxZ
  have hB : Below w.heap.size w WZ := ((hbK).trans (hbZ.mono (hbK).size))
  have HA0 : Hid (UnAt WZ L U) := h.below hB
  have HB0 : Hid (Below w.heap.size w WZ) := hB
  have hz : (#[.int .i64 0, .int .i64 0, .string ⟨#[]⟩, .int .i64 0, .int .i64 0, .string ⟨#[]⟩, .int .i64 0, .bool false] : Array Value) = ouR Ou.zero := rfl
  obtain ⟨kb, hKb⟩ : ∃ k, k = w.heap.size := ⟨_, rfl⟩
  rw [← hKb] at hyK
  have HK : Hid (WZ.heap[kb]? = some (.cells (tkR L.c s pid x i) 68)) := hyK
  have HKb : Hid (kb = w.heap.size) := hKb
  have HWK : Hid _ := hWK
  obtain ⟨zb, hZb⟩ : ∃ k, k = w.heap.size + 1 := ⟨_, rfl⟩
  rw [← hZb] at hyZ
  have HZ : Hid (WZ.heap[zb]? = some (.cells (ouR Ou.zero) 65)) := hyZ
  have HZb : Hid (zb = w.heap.size + 1) := hZb
  have HWZ : Hid _ := hWZ
  have HU : Hid (UnAt w L U) := h
  clear hWK hbK hsK hxK hKb hWZ hbZ hsZ hxZ hZb hB h
  have hLv := fun W hW => ulive_at (w := W) (L := L) (U := U) hW (smI x.a)
  have hA := fun W => small_at x.a h1 W
  have hB := fun W => small_at x.b h2 W
  obtain ⟨cc, hcc⟩ : ∃ c, c = L.c := ⟨_, rfl⟩
  obtain ⟨ss, hss⟩ : ∃ c, c = L.s := ⟨_, rfl⟩
  rw [← hcc] at HK hyK HWK hLv ⊢
  have Hcc : Hid (cc = L.c) := hcc
  have Hs : Hid (ss = L.s) := hss
  obtain ⟨o, ho⟩ : ∃ o, o = Ou.no 22 := ⟨_, rfl⟩
  rw [← ho]
  have HO : Hid (o = Ou.no 22) := ho
  obtain ⟨U', hU'⟩ : ∃ V, V = U := ⟨_, rfl⟩
  rw [← hU']
  have HU' : Hid (U' = U) := hU'
  obtain ⟨R, hR⟩ : ∃ R, R = ouR o := ⟨_, rfl⟩
  have HRs : Hid (R.size = 8) := by rw [hR]; exact ouR_size _
  have HOne : Hid (R.all (·.oneCell') = true) := by rw [hR]; exact ouR_one _
  rw [← hR]
  have HRq : Hid (R = ouR o) := hR
  clear ho hU' hR
  obtain ⟨xa, hxa⟩ : ∃ a, a = x.a := ⟨_, rfl⟩
  obtain ⟨xb, hxb⟩ : ∃ a, a = x.b := ⟨_, rfl⟩
  have hk4 : WZ.cell? ⟨kb, 4, none⟩ = some (.int .u64 xa) := by rw [cell_of_heap HK.out, hxa]; rfl
  have hk5 : WZ.cell? ⟨kb, 5, none⟩ = some (.int .u64 xb) := by rw [cell_of_heap HK.out, hxb]; rfl
  rw [← hxa] at hA hLv hl
  rw [← hxb] at hB
  obtain ⟨sa, hsa⟩ : ∃ a, a = smI xa := ⟨_, rfl⟩
  obtain ⟨sb, hsb⟩ : ∃ a, a = smI xb := ⟨_, rfl⟩
  rw [← hsa] at hA hLv hl
  rw [← hsb] at hB
  rw [hl] at hLv
  have Hsa : Hid (sa = smI x.a) := by show _ = _; rw [hsa, hxa]
  have Hsb : Hid (sb = smI x.b) := by show _ = _; rw [hsb, hxb]
  rw [← hxb] at hb
  have g0 : decide (sb < 0) = true := decide_eq_true (by rw [hsb]; exact hb)
  clear hyK hyZ hcc hss h1 h2 hl hb hxa hxb hsa hsb
  go_enter Tryz.func56, Tryz.ntmps56
  go_upto_region 1 with fail
  rw [← HWK.out, ← HWZ.out]
  rw [← HZb.out]
  rw [← HKb.out]
  refine wp_region_held_drew (S := fun w' => w'.cell? ⟨kb, 4, none⟩ = some (.int .u64 xa) ∧ w'.cell? ⟨kb, 5, none⟩ = some (.int .u64 xb)) (by kernel_rfl) ⟨hk4, hk5⟩ (fun hHeld => ?_)
  refine wpAnyH_take (i := 0) (v := ?_) rfl (by kernel_rfl) (by kernel_rfl) (by kernel_rfl) (fun _ _ _ h => h) (Or.inl ⟨by kernel_rfl, ?_⟩) (by assumption) ?_
  rotate_left
  · (intro w hSw; (try dsimp only at hSw); go_simp) <;> with_reducible rfl
  (try simp only [Act.put, List.getElem_toArray, List.getElem_cons_zero, List.setIfInBounds_toArray, List.set_cons_zero, List.set_cons_succ])
  refine wpAnyH_take (i := 1) (v := ?_) rfl (by kernel_rfl) (by kernel_rfl) (by kernel_rfl) (fun _ _ _ h => h) (Or.inl ⟨by kernel_rfl, ?_⟩) (by assumption) ?_
  rotate_left
  · (intro w hSw; (try dsimp only at hSw); go_simp) <;> with_reducible rfl
  (try simp only [Act.put, List.getElem_toArray, List.getElem_cons_zero, List.getElem_cons_succ, List.setIfInBounds_toArray, List.set_cons_zero, List.set_cons_succ])
  refine wpAnyH_take (i := 2) (v := ?_) rfl (by kernel_rfl) (by kernel_rfl) (by kernel_rfl) (fun _ _ _ h => h) (Or.inl ⟨by kernel_rfl, ?_⟩) (by assumption) ?_
  rotate_left
  · (intro w hSw; (try dsimp only at hSw); go_simp) <;> with_reducible rfl
  (try simp only [Act.put, List.getElem_toArray, List.getElem_cons_zero, List.getElem_cons_succ, List.setIfInBounds_toArray, List.set_cons_zero, List.set_cons_succ])
  refine wpAnyH_take (i := 4) (v := ?_) rfl (by kernel_rfl) (by kernel_rfl) (by kernel_rfl) (fun _ _ _ h => h) (Or.inl ⟨by kernel_rfl, ?_⟩) (by assumption) ?_
  rotate_left
  · (intro w hSw; (try dsimp only at hSw); go_simp) <;> with_reducible rfl
  (try simp only [Act.put, List.getElem_toArray, List.getElem_cons_zero, List.getElem_cons_succ, List.setIfInBounds_toArray, List.set_cons_zero, List.set_cons_succ])
  refine wpAnyH_take (i := 5) (v := ?_) rfl (by kernel_rfl) (by kernel_rfl) (by kernel_rfl) (fun _ _ _ h => h) (Or.inl ⟨by kernel_rfl, ?_⟩) (by assumption) ?_
  rotate_left
  · (intro w hSw; (try dsimp only at hSw); go_simp) <;> with_reducible rfl
  (try simp only [Act.put, List.getElem_toArray, List.getElem_cons_zero, List.getElem_cons_succ, List.setIfInBounds_toArray, List.set_cons_zero, List.set_cons_succ])
  refine wpAnyH_take (i := 6) (v := ?_) rfl (by kernel_rfl) (by kernel_rfl) (by kernel_rfl) (fun _ _ _ h => h) (Or.inl ⟨by kernel_rfl, ?_⟩) (by assumption) ?_
  rotate_left
  · (intro w hSw; (try dsimp only at hSw); go_simp) <;> with_reducible rfl
  (try simp only [Act.put, List.getElem_toArray, List.getElem_cons_zero, List.getElem_cons_succ, List.setIfInBounds_toArray, List.set_cons_zero, List.set_cons_succ])
  refine wpAnyH_ready (rs := [3]) (by kernel_rfl) (by simp) ?_
  refine AllReadyH.cons rfl (fun K hK => ?_) AllReadyH.nil
  go_simp
  refine (hA _).mono ?_
  rintro e v1 ⟨rfl, hw⟩
  rw [hw]
  clear hw v1
  refine hK.out _ _ hHeld (fun hHeld => ?_)
  clear hK K
  (try simp only [Act.put, List.getElem_toArray, List.getElem_cons_zero, List.getElem_cons_succ, List.setIfInBounds_toArray, List.set_cons_zero, List.set_cons_succ])
  refine wpAnyH_ready (rs := [7]) (by kernel_rfl) (by simp) ?_
  refine AllReadyH.cons rfl (fun K hK => ?_) AllReadyH.nil
  go_simp
  refine (hB _).mono ?_
  rintro e v1 ⟨rfl, hw⟩
  rw [hw]
  clear hw v1
  refine hK.out _ _ hHeld (fun hHeld => ?_)
  clear hK K
  (try simp only [Act.put, List.getElem_toArray, List.getElem_cons_zero, List.getElem_cons_succ, List.setIfInBounds_toArray, List.set_cons_zero, List.set_cons_succ])
  refine wpAnyH_take (i := 8) (v := ?_) rfl (by kernel_rfl) (by kernel_rfl) (by kernel_rfl) (fun _ _ _ h => h) (Or.inl ⟨by kernel_rfl, ?_⟩) (by assumption) ?_
  rotate_left
  · (intro w hSw; (try dsimp only at hSw); go_simp) <;> with_reducible rfl
  (try simp only [Act.put, List.getElem_toArray, List.getElem_cons_zero, List.getElem_cons_succ, List.setIfInBounds_toArray, List.set_cons_zero, List.set_cons_succ])
  refine wpAnyH_take (i := 9) (v := ?_) rfl (by kernel_rfl) (by kernel_rfl) (by kernel_rfl) (fun _ _ _ h => h) (Or.inl ⟨by kernel_rfl, ?_⟩) (by assumption) ?_
  rotate_left
  · (intro w hSw; (try dsimp only at hSw); go_simp) <;> with_reducible rfl
  (try simp only [Act.put, List.getElem_toArray, List.getElem_cons_zero, List.getElem_cons_succ, List.setIfInBounds_toArray, List.set_cons_zero, List.set_cons_succ])
  refine wpAnyH_done (by kernel_rfl) ?_ _
  clear hHeld hA hB hk4 hk5
  obtain ⟨w2, hw2⟩ : ∃ V, V = WZ.drew := ⟨_, rfl⟩
  have hb2 : Below WZ.heap.size WZ w2 := by rw [hw2]; exact Di.drewN_below (w := WZ) ⟨1, rfl⟩
  have HA2 : Hid (UnAt w2 L U) := HA0.out.below hb2
  have HK2 : Hid (w2.heap[kb]? = some (.cells (tkR cc s pid x i) 68)) := (hb2.block _ (lt_of_heap HK.out)).trans HK.out
  have HZ2 : Hid (w2.heap[zb]? = some (.cells (ouR Ou.zero) 65)) := (hb2.block _ (lt_of_heap HZ.out)).trans HZ.out
  have HU2 : Hid (UT L.lo w w2) := UT.of_below (HB0.out.trans (hb2.mono HB0.out.size))
  have hk0 : w2.cell? ⟨kb, 0, none⟩ = some (ptr cc) := by rw [cell_of_heap HK2.out]; rfl
  rw [← hw2]
  clear hw2 hb2
  have hLv := hLv w2 HA2.out
  go_wp2_with fail
  refine hLv.mono ?_
  rintro e v1 ⟨rfl, hw⟩
  rw [hw]
  clear hw v1 hLv hk0
  obtain ⟨w4, hw4⟩ : ∃ V, V = w2 := ⟨_, rfl⟩
  have HA4 : Hid (UnAt w4 L U') := by rw [hw4, HU'.out]; exact HA2.out
  have HU4 : Hid (UT L.lo w w4) := by rw [hw4]; exact HU2.out
  have HZ4 : Hid (w4.heap[zb]? = some (.cells (ouR Ou.zero) 65)) := by rw [hw4]; exact HZ2.out
  rw [← hw4]
  clear hw4
  have hN := failed_at 22
  have e1 : ouR (Ou.no 22) = R := by rw [HRq.out, HO.out]
  rw [e1] at hN
  clear e1 HO
  go_wp2_with fail
  refine (hN _).mono ?_
  rintro e w5 ⟨rfl, hb5⟩
  have HB5 : Hid (Below w4.heap.size w4 w5) := hb5
  have HA1 : Hid (UnAt w5 L U') := HA4.out.below HB5.out
  have HU1 : Hid (UT L.lo w w5) := HU4.out.trans (UT.of_below HB5.out)
  clear hN hb5
  have HM : Hid (w5.heap[zb]? = some (.cells (ouR Ou.zero) 65)) := (HB5.out.block _ (lt_of_heap HZ4.out)).trans HZ4.out
  have HQ : Hid ((w5.setRow zb R).heap[zb]? = some (.cells R 65)) := setRow_heap _ zb _ _ _ _ HM.out
  have HF : Hid (UnAt (w5.setRow zb R) L U' ∧ UT L.lo w (w5.setRow zb R)) := ⟨HA1.out.row HM.out rfl (by decide) (by decide), HU1.out.far (by rw [HZb.out]; omega)⟩
  go_wp2_with (first
    | (refine wpList_store_row rfl 65 _ _ rfl zb R rfl rfl 65 (ouR Ou.zero) HM.out (by rw [HRs.out]; exact ouSize) (by rw [HRs.out]; rfl) HOne.out ?_)
    | go_in)
  exact bodyPost_ret (v := .agg R) (results_cell_row rfl _ _ zb 65 R (0, 0) _ rfl HQ.out Tryz.underlying65 rfl (by rw [HRs.out]; exact ouSize)) rfl ⟨rfl, HF.out⟩
set_option maxHeartbeats 2000000 in
set_option maxRecDepth 100000 in
theorem kill_zero {w : World} {L : Pl} {U : Un} (h : UnAt w L U) (s : Value) (pid : Int) (x : Cl) (i : List UInt8) (h1 : 0 ≤ x.a) (h2 : 0 ≤ x.b) (hl : Pc.liv U.T (smI x.a) = true) (hb : smI x.b = 0) :
    Calls Tryz.prog 56 #[.agg (tkR L.c s pid x i)] w (Left L (Ou.num 0) U w) := by
  unfold Left
  obtain ⟨WK, hWK⟩ : ∃ W, W = w.alloc (.cells (tkR L.c s pid x i) 68) := ⟨_, rfl⟩
  have hbK : Below w.heap.size w WK := by rw [hWK]; exact below_alloc _ _
  have hsK : WK.heap.size = w.heap.size + 1 := by rw [hWK]; simp
  have hxK : WK.heap[w.heap.size]? = some (.cells (tkR L.c s pid x i) 68) := by rw [hWK]; exact heap_alloc_new _ _
  obtain ⟨WZ, hWZ⟩ : ∃ W, W = WK.alloc (.cells (ouR Ou.zero) 65) := ⟨_, rfl⟩
  have hbZ : Below WK.heap.size WK WZ := by rw [hWZ]; exact below_alloc _ _
  have hsZ : WZ.heap.size = w.heap.size + 1 + 1 := by rw [hWZ]; simp [hsK]
  have hxZ : WZ.heap[w.heap.size + 1]? = some (.cells (ouR Ou.zero) 65) := by rw [hWZ, ← hsK]; exact heap_alloc_new _ _
  have hyK : WZ.heap[w.heap.size]? = some (.cells (tkR L.c s pid x i) 68) := ((hbZ.block _ (lt_of_heap (hxK))).trans (hxK))
  have hyZ := hxZ
  have hB : Below w.heap.size w WZ := ((hbK).trans (hbZ.mono (hbK).size))
  have HA0 : Hid (UnAt WZ L U) := h.below hB
  have HB0 : Hid (Below w.heap.size w WZ) := hB
  have hz : (#[.int .i64 0, .int .i64 0, .string ⟨#[]⟩, .int .i64 0, .int .i64 0, .string ⟨#[]⟩, .int .i64 0, .bool false] : Array Value) = ouR Ou.zero := rfl
  obtain ⟨kb, hKb⟩ : ∃ k, k = w.heap.size := ⟨_, rfl⟩
  rw [← hKb] at hyK
  have HK : Hid (WZ.heap[kb]? = some (.cells (tkR L.c s pid x i) 68)) := hyK
  have HKb : Hid (kb = w.heap.size) := hKb
  have HWK : Hid _ := hWK
  obtain ⟨zb, hZb⟩ : ∃ k, k = w.heap.size + 1 := ⟨_, rfl⟩
  rw [← hZb] at hyZ
  have HZ : Hid (WZ.heap[zb]? = some (.cells (ouR Ou.zero) 65)) := hyZ
  have HZb : Hid (zb = w.heap.size + 1) := hZb
  have HWZ : Hid _ := hWZ
  have HU : Hid (UnAt w L U) := h
  clear hWK hbK hsK hxK hKb hWZ hbZ hsZ hxZ hZb hB h
  have hLv := fun W hW => ulive_at (w := W) (L := L) (U := U) hW (smI x.a)
  have hA := fun W => small_at x.a h1 W
  have hB := fun W => small_at x.b h2 W
  obtain ⟨cc, hcc⟩ : ∃ c, c = L.c := ⟨_, rfl⟩
  obtain ⟨ss, hss⟩ : ∃ c, c = L.s := ⟨_, rfl⟩
  rw [← hcc] at HK hyK HWK hLv ⊢
  have Hcc : Hid (cc = L.c) := hcc
  have Hs : Hid (ss = L.s) := hss
  obtain ⟨o, ho⟩ : ∃ o, o = Ou.num 0 := ⟨_, rfl⟩
  rw [← ho]
  have HO : Hid (o = Ou.num 0) := ho
  obtain ⟨U', hU'⟩ : ∃ V, V = U := ⟨_, rfl⟩
  rw [← hU']
  have HU' : Hid (U' = U) := hU'
  obtain ⟨R, hR⟩ : ∃ R, R = ouR o := ⟨_, rfl⟩
  have HRs : Hid (R.size = 8) := by rw [hR]; exact ouR_size _
  have HOne : Hid (R.all (·.oneCell') = true) := by rw [hR]; exact ouR_one _
  rw [← hR]
  have HRq : Hid (R = ouR o) := hR
  clear ho hU' hR
  obtain ⟨xa, hxa⟩ : ∃ a, a = x.a := ⟨_, rfl⟩
  obtain ⟨xb, hxb⟩ : ∃ a, a = x.b := ⟨_, rfl⟩
  have hk4 : WZ.cell? ⟨kb, 4, none⟩ = some (.int .u64 xa) := by rw [cell_of_heap HK.out, hxa]; rfl
  have hk5 : WZ.cell? ⟨kb, 5, none⟩ = some (.int .u64 xb) := by rw [cell_of_heap HK.out, hxb]; rfl
  rw [← hxa] at hA hLv hl
  rw [← hxb] at hB
  obtain ⟨sa, hsa⟩ : ∃ a, a = smI xa := ⟨_, rfl⟩
  obtain ⟨sb, hsb⟩ : ∃ a, a = smI xb := ⟨_, rfl⟩
  rw [← hsa] at hA hLv hl
  rw [← hsb] at hB
  rw [hl] at hLv
  have Hsa : Hid (sa = smI x.a) := by show _ = _; rw [hsa, hxa]
  have Hsb : Hid (sb = smI x.b) := by show _ = _; rw [hsb, hxb]
  rw [← hxb] at hb
  have g0 : decide (sb < 0) = false := decide_eq_false (by rw [hsb]; omega)
  have g1 : decide (0 < sb) = false := decide_eq_false (by rw [hsb]; omega)
  clear hyK hyZ hcc hss h1 h2 hl hb hxa hxb hsa hsb
  go_enter Tryz.func56, Tryz.ntmps56
  go_upto_region 1 with fail
  rw [← HWK.out, ← HWZ.out]
  rw [← HZb.out]
  rw [← HKb.out]
  refine wp_region_held_drew (S := fun w' => w'.cell? ⟨kb, 4, none⟩ = some (.int .u64 xa) ∧ w'.cell? ⟨kb, 5, none⟩ = some (.int .u64 xb)) (by kernel_rfl) ⟨hk4, hk5⟩ (fun hHeld => ?_)
  refine wpAnyH_take (i := 0) (v := ?_) rfl (by kernel_rfl) (by kernel_rfl) (by kernel_rfl) (fun _ _ _ h => h) (Or.inl ⟨by kernel_rfl, ?_⟩) (by assumption) ?_
  rotate_left
  · (intro w hSw; (try dsimp only at hSw); go_simp) <;> with_reducible rfl
  (try simp only [Act.put, List.getElem_toArray, List.getElem_cons_zero, List.setIfInBounds_toArray, List.set_cons_zero, List.set_cons_succ])
  refine wpAnyH_take (i := 1) (v := ?_) rfl (by kernel_rfl) (by kernel_rfl) (by kernel_rfl) (fun _ _ _ h => h) (Or.inl ⟨by kernel_rfl, ?_⟩) (by assumption) ?_
  rotate_left
  · (intro w hSw; (try dsimp only at hSw); go_simp) <;> with_reducible rfl
  (try simp only [Act.put, List.getElem_toArray, List.getElem_cons_zero, List.getElem_cons_succ, List.setIfInBounds_toArray, List.set_cons_zero, List.set_cons_succ])
  refine wpAnyH_take (i := 2) (v := ?_) rfl (by kernel_rfl) (by kernel_rfl) (by kernel_rfl) (fun _ _ _ h => h) (Or.inl ⟨by kernel_rfl, ?_⟩) (by assumption) ?_
  rotate_left
  · (intro w hSw; (try dsimp only at hSw); go_simp) <;> with_reducible rfl
  (try simp only [Act.put, List.getElem_toArray, List.getElem_cons_zero, List.getElem_cons_succ, List.setIfInBounds_toArray, List.set_cons_zero, List.set_cons_succ])
  refine wpAnyH_take (i := 4) (v := ?_) rfl (by kernel_rfl) (by kernel_rfl) (by kernel_rfl) (fun _ _ _ h => h) (Or.inl ⟨by kernel_rfl, ?_⟩) (by assumption) ?_
  rotate_left
  · (intro w hSw; (try dsimp only at hSw); go_simp) <;> with_reducible rfl
  (try simp only [Act.put, List.getElem_toArray, List.getElem_cons_zero, List.getElem_cons_succ, List.setIfInBounds_toArray, List.set_cons_zero, List.set_cons_succ])
  refine wpAnyH_take (i := 5) (v := ?_) rfl (by kernel_rfl) (by kernel_rfl) (by kernel_rfl) (fun _ _ _ h => h) (Or.inl ⟨by kernel_rfl, ?_⟩) (by assumption) ?_
  rotate_left
  · (intro w hSw; (try dsimp only at hSw); go_simp) <;> with_reducible rfl
  (try simp only [Act.put, List.getElem_toArray, List.getElem_cons_zero, List.getElem_cons_succ, List.setIfInBounds_toArray, List.set_cons_zero, List.set_cons_succ])
  refine wpAnyH_take (i := 6) (v := ?_) rfl (by kernel_rfl) (by kernel_rfl) (by kernel_rfl) (fun _ _ _ h => h) (Or.inl ⟨by kernel_rfl, ?_⟩) (by assumption) ?_
  rotate_left
  · (intro w hSw; (try dsimp only at hSw); go_simp) <;> with_reducible rfl
  (try simp only [Act.put, List.getElem_toArray, List.getElem_cons_zero, List.getElem_cons_succ, List.setIfInBounds_toArray, List.set_cons_zero, List.set_cons_succ])
  refine wpAnyH_ready (rs := [3]) (by kernel_rfl) (by simp) ?_
  refine AllReadyH.cons rfl (fun K hK => ?_) AllReadyH.nil
  go_simp
  refine (hA _).mono ?_
  rintro e v1 ⟨rfl, hw⟩
  rw [hw]
  clear hw v1
  refine hK.out _ _ hHeld (fun hHeld => ?_)
  clear hK K
  (try simp only [Act.put, List.getElem_toArray, List.getElem_cons_zero, List.getElem_cons_succ, List.setIfInBounds_toArray, List.set_cons_zero, List.set_cons_succ])
  refine wpAnyH_ready (rs := [7]) (by kernel_rfl) (by simp) ?_
  refine AllReadyH.cons rfl (fun K hK => ?_) AllReadyH.nil
  go_simp
  refine (hB _).mono ?_
  rintro e v1 ⟨rfl, hw⟩
  rw [hw]
  clear hw v1
  refine hK.out _ _ hHeld (fun hHeld => ?_)
  clear hK K
  (try simp only [Act.put, List.getElem_toArray, List.getElem_cons_zero, List.getElem_cons_succ, List.setIfInBounds_toArray, List.set_cons_zero, List.set_cons_succ])
  refine wpAnyH_take (i := 8) (v := ?_) rfl (by kernel_rfl) (by kernel_rfl) (by kernel_rfl) (fun _ _ _ h => h) (Or.inl ⟨by kernel_rfl, ?_⟩) (by assumption) ?_
  rotate_left
  · (intro w hSw; (try dsimp only at hSw); go_simp) <;> with_reducible rfl
  (try simp only [Act.put, List.getElem_toArray, List.getElem_cons_zero, List.getElem_cons_succ, List.setIfInBounds_toArray, List.set_cons_zero, List.set_cons_succ])
  refine wpAnyH_take (i := 9) (v := ?_) rfl (by kernel_rfl) (by kernel_rfl) (by kernel_rfl) (fun _ _ _ h => h) (Or.inl ⟨by kernel_rfl, ?_⟩) (by assumption) ?_
  rotate_left
  · (intro w hSw; (try dsimp only at hSw); go_simp) <;> with_reducible rfl
  (try simp only [Act.put, List.getElem_toArray, List.getElem_cons_zero, List.getElem_cons_succ, List.setIfInBounds_toArray, List.set_cons_zero, List.set_cons_succ])
  refine wpAnyH_done (by kernel_rfl) ?_ _
  clear hHeld hA hB hk4 hk5
  obtain ⟨w2, hw2⟩ : ∃ V, V = WZ.drew := ⟨_, rfl⟩
  have hb2 : Below WZ.heap.size WZ w2 := by rw [hw2]; exact Di.drewN_below (w := WZ) ⟨1, rfl⟩
  have HA2 : Hid (UnAt w2 L U) := HA0.out.below hb2
  have HK2 : Hid (w2.heap[kb]? = some (.cells (tkR cc s pid x i) 68)) := (hb2.block _ (lt_of_heap HK.out)).trans HK.out
  have HZ2 : Hid (w2.heap[zb]? = some (.cells (ouR Ou.zero) 65)) := (hb2.block _ (lt_of_heap HZ.out)).trans HZ.out
  have HU2 : Hid (UT L.lo w w2) := UT.of_below (HB0.out.trans (hb2.mono HB0.out.size))
  have hk0 : w2.cell? ⟨kb, 0, none⟩ = some (ptr cc) := by rw [cell_of_heap HK2.out]; rfl
  rw [← hw2]
  clear hw2 hb2
  have hLv := hLv w2 HA2.out
  go_wp2_with fail
  refine hLv.mono ?_
  rintro e v1 ⟨rfl, hw⟩
  rw [hw]
  clear hw v1 hLv hk0
  obtain ⟨w4, hw4⟩ : ∃ V, V = w2 := ⟨_, rfl⟩
  have HA4 : Hid (UnAt w4 L U') := by rw [hw4, HU'.out]; exact HA2.out
  have HU4 : Hid (UT L.lo w w4) := by rw [hw4]; exact HU2.out
  have HZ4 : Hid (w4.heap[zb]? = some (.cells (ouR Ou.zero) 65)) := by rw [hw4]; exact HZ2.out
  rw [← hw4]
  clear hw4
  have hN := number_at 0
  have e1 : ouR (Ou.num 0) = R := by rw [HRq.out, HO.out]
  rw [e1] at hN
  clear e1 HO
  go_wp2_with fail
  refine (hN _).mono ?_
  rintro e w5 ⟨rfl, hb5⟩
  have HB5 : Hid (Below w4.heap.size w4 w5) := hb5
  have HA1 : Hid (UnAt w5 L U') := HA4.out.below HB5.out
  have HU1 : Hid (UT L.lo w w5) := HU4.out.trans (UT.of_below HB5.out)
  clear hN hb5
  have HM : Hid (w5.heap[zb]? = some (.cells (ouR Ou.zero) 65)) := (HB5.out.block _ (lt_of_heap HZ4.out)).trans HZ4.out
  have HQ : Hid ((w5.setRow zb R).heap[zb]? = some (.cells R 65)) := setRow_heap _ zb _ _ _ _ HM.out
  have HF : Hid (UnAt (w5.setRow zb R) L U' ∧ UT L.lo w (w5.setRow zb R)) := ⟨HA1.out.row HM.out rfl (by decide) (by decide), HU1.out.far (by rw [HZb.out]; omega)⟩
  go_wp2_with (first
    | (refine wpList_store_row rfl 65 _ _ rfl zb R rfl rfl 65 (ouR Ou.zero) HM.out (by rw [HRs.out]; exact ouSize) (by rw [HRs.out]; rfl) HOne.out ?_)
    | go_in)
  exact bodyPost_ret (v := .agg R) (results_cell_row rfl _ _ zb 65 R (0, 0) _ rfl HQ.out Tryz.underlying65 rfl (by rw [HRs.out]; exact ouSize)) rfl ⟨rfl, HF.out⟩
set_option maxHeartbeats 2000000 in
set_option maxRecDepth 100000 in
theorem kill_send {w : World} {L : Pl} {U : Un} (h : UnAt w L U) (s : Value) (pid : Int) (x : Cl) (i : List UInt8) (h1 : 0 ≤ x.a) (h2 : 0 ≤ x.b) (hl : Pc.liv U.T (smI x.a) = true) (hb : 0 < smI x.b) :
    Calls Tryz.prog 56 #[.agg (tkR L.c s pid x i)] w (Left L (Ou.num 0) (⟨U.F, U.P, Sg.sdS U.S (smI x.a) (smI x.b), U.T⟩ : Un) w) := by
  unfold Left
  obtain ⟨WK, hWK⟩ : ∃ W, W = w.alloc (.cells (tkR L.c s pid x i) 68) := ⟨_, rfl⟩
  have hbK : Below w.heap.size w WK := by rw [hWK]; exact below_alloc _ _
  have hsK : WK.heap.size = w.heap.size + 1 := by rw [hWK]; simp
  have hxK : WK.heap[w.heap.size]? = some (.cells (tkR L.c s pid x i) 68) := by rw [hWK]; exact heap_alloc_new _ _
  obtain ⟨WZ, hWZ⟩ : ∃ W, W = WK.alloc (.cells (ouR Ou.zero) 65) := ⟨_, rfl⟩
  have hbZ : Below WK.heap.size WK WZ := by rw [hWZ]; exact below_alloc _ _
  have hsZ : WZ.heap.size = w.heap.size + 1 + 1 := by rw [hWZ]; simp [hsK]
  have hxZ : WZ.heap[w.heap.size + 1]? = some (.cells (ouR Ou.zero) 65) := by rw [hWZ, ← hsK]; exact heap_alloc_new _ _
  have hyK : WZ.heap[w.heap.size]? = some (.cells (tkR L.c s pid x i) 68) := ((hbZ.block _ (lt_of_heap (hxK))).trans (hxK))
  have hyZ := hxZ
  have hB : Below w.heap.size w WZ := ((hbK).trans (hbZ.mono (hbK).size))
  have HA0 : Hid (UnAt WZ L U) := h.below hB
  have HB0 : Hid (Below w.heap.size w WZ) := hB
  have hz : (#[.int .i64 0, .int .i64 0, .string ⟨#[]⟩, .int .i64 0, .int .i64 0, .string ⟨#[]⟩, .int .i64 0, .bool false] : Array Value) = ouR Ou.zero := rfl
  obtain ⟨kb, hKb⟩ : ∃ k, k = w.heap.size := ⟨_, rfl⟩
  rw [← hKb] at hyK
  have HK : Hid (WZ.heap[kb]? = some (.cells (tkR L.c s pid x i) 68)) := hyK
  have HKb : Hid (kb = w.heap.size) := hKb
  have HWK : Hid _ := hWK
  obtain ⟨zb, hZb⟩ : ∃ k, k = w.heap.size + 1 := ⟨_, rfl⟩
  rw [← hZb] at hyZ
  have HZ : Hid (WZ.heap[zb]? = some (.cells (ouR Ou.zero) 65)) := hyZ
  have HZb : Hid (zb = w.heap.size + 1) := hZb
  have HWZ : Hid _ := hWZ
  have HU : Hid (UnAt w L U) := h
  clear hWK hbK hsK hxK hKb hWZ hbZ hsZ hxZ hZb hB h
  have hLv := fun W hW => ulive_at (w := W) (L := L) (U := U) hW (smI x.a)
  have hA := fun W => small_at x.a h1 W
  have hB := fun W => small_at x.b h2 W
  obtain ⟨cc, hcc⟩ : ∃ c, c = L.c := ⟨_, rfl⟩
  obtain ⟨ss, hss⟩ : ∃ c, c = L.s := ⟨_, rfl⟩
  rw [← hcc] at HK hyK HWK hLv ⊢
  have Hcc : Hid (cc = L.c) := hcc
  have Hs : Hid (ss = L.s) := hss
  obtain ⟨o, ho⟩ : ∃ o, o = Ou.num 0 := ⟨_, rfl⟩
  rw [← ho]
  have HO : Hid (o = Ou.num 0) := ho
  obtain ⟨U', hU'⟩ : ∃ V, V = (⟨U.F, U.P, Sg.sdS U.S (smI x.a) (smI x.b), U.T⟩ : Un) := ⟨_, rfl⟩
  rw [← hU']
  have HU' : Hid (U' = (⟨U.F, U.P, Sg.sdS U.S (smI x.a) (smI x.b), U.T⟩ : Un)) := hU'
  obtain ⟨R, hR⟩ : ∃ R, R = ouR o := ⟨_, rfl⟩
  have HRs : Hid (R.size = 8) := by rw [hR]; exact ouR_size _
  have HOne : Hid (R.all (·.oneCell') = true) := by rw [hR]; exact ouR_one _
  rw [← hR]
  have HRq : Hid (R = ouR o) := hR
  clear ho hU' hR
  obtain ⟨xa, hxa⟩ : ∃ a, a = x.a := ⟨_, rfl⟩
  obtain ⟨xb, hxb⟩ : ∃ a, a = x.b := ⟨_, rfl⟩
  have hk4 : WZ.cell? ⟨kb, 4, none⟩ = some (.int .u64 xa) := by rw [cell_of_heap HK.out, hxa]; rfl
  have hk5 : WZ.cell? ⟨kb, 5, none⟩ = some (.int .u64 xb) := by rw [cell_of_heap HK.out, hxb]; rfl
  rw [← hxa] at hA hLv hl
  rw [← hxb] at hB
  obtain ⟨sa, hsa⟩ : ∃ a, a = smI xa := ⟨_, rfl⟩
  obtain ⟨sb, hsb⟩ : ∃ a, a = smI xb := ⟨_, rfl⟩
  rw [← hsa] at hA hLv hl
  rw [← hsb] at hB
  rw [hl] at hLv
  have Hsa : Hid (sa = smI x.a) := by show _ = _; rw [hsa, hxa]
  have Hsb : Hid (sb = smI x.b) := by show _ = _; rw [hsb, hxb]
  rw [← hxb] at hb
  have g0 : decide (sb < 0) = false := decide_eq_false (by rw [hsb]; omega)
  have g1 : decide (0 < sb) = true := decide_eq_true (by rw [hsb]; exact hb)
  clear hyK hyZ hcc hss h1 h2 hl hb hxa hxb hsa hsb
  go_enter Tryz.func56, Tryz.ntmps56
  go_upto_region 1 with fail
  rw [← HWK.out, ← HWZ.out]
  rw [← HZb.out]
  rw [← HKb.out]
  refine wp_region_held_drew (S := fun w' => w'.cell? ⟨kb, 4, none⟩ = some (.int .u64 xa) ∧ w'.cell? ⟨kb, 5, none⟩ = some (.int .u64 xb)) (by kernel_rfl) ⟨hk4, hk5⟩ (fun hHeld => ?_)
  refine wpAnyH_take (i := 0) (v := ?_) rfl (by kernel_rfl) (by kernel_rfl) (by kernel_rfl) (fun _ _ _ h => h) (Or.inl ⟨by kernel_rfl, ?_⟩) (by assumption) ?_
  rotate_left
  · (intro w hSw; (try dsimp only at hSw); go_simp) <;> with_reducible rfl
  (try simp only [Act.put, List.getElem_toArray, List.getElem_cons_zero, List.setIfInBounds_toArray, List.set_cons_zero, List.set_cons_succ])
  refine wpAnyH_take (i := 1) (v := ?_) rfl (by kernel_rfl) (by kernel_rfl) (by kernel_rfl) (fun _ _ _ h => h) (Or.inl ⟨by kernel_rfl, ?_⟩) (by assumption) ?_
  rotate_left
  · (intro w hSw; (try dsimp only at hSw); go_simp) <;> with_reducible rfl
  (try simp only [Act.put, List.getElem_toArray, List.getElem_cons_zero, List.getElem_cons_succ, List.setIfInBounds_toArray, List.set_cons_zero, List.set_cons_succ])
  refine wpAnyH_take (i := 2) (v := ?_) rfl (by kernel_rfl) (by kernel_rfl) (by kernel_rfl) (fun _ _ _ h => h) (Or.inl ⟨by kernel_rfl, ?_⟩) (by assumption) ?_
  rotate_left
  · (intro w hSw; (try dsimp only at hSw); go_simp) <;> with_reducible rfl
  (try simp only [Act.put, List.getElem_toArray, List.getElem_cons_zero, List.getElem_cons_succ, List.setIfInBounds_toArray, List.set_cons_zero, List.set_cons_succ])
  refine wpAnyH_take (i := 4) (v := ?_) rfl (by kernel_rfl) (by kernel_rfl) (by kernel_rfl) (fun _ _ _ h => h) (Or.inl ⟨by kernel_rfl, ?_⟩) (by assumption) ?_
  rotate_left
  · (intro w hSw; (try dsimp only at hSw); go_simp) <;> with_reducible rfl
  (try simp only [Act.put, List.getElem_toArray, List.getElem_cons_zero, List.getElem_cons_succ, List.setIfInBounds_toArray, List.set_cons_zero, List.set_cons_succ])
  refine wpAnyH_take (i := 5) (v := ?_) rfl (by kernel_rfl) (by kernel_rfl) (by kernel_rfl) (fun _ _ _ h => h) (Or.inl ⟨by kernel_rfl, ?_⟩) (by assumption) ?_
  rotate_left
  · (intro w hSw; (try dsimp only at hSw); go_simp) <;> with_reducible rfl
  (try simp only [Act.put, List.getElem_toArray, List.getElem_cons_zero, List.getElem_cons_succ, List.setIfInBounds_toArray, List.set_cons_zero, List.set_cons_succ])
  refine wpAnyH_take (i := 6) (v := ?_) rfl (by kernel_rfl) (by kernel_rfl) (by kernel_rfl) (fun _ _ _ h => h) (Or.inl ⟨by kernel_rfl, ?_⟩) (by assumption) ?_
  rotate_left
  · (intro w hSw; (try dsimp only at hSw); go_simp) <;> with_reducible rfl
  (try simp only [Act.put, List.getElem_toArray, List.getElem_cons_zero, List.getElem_cons_succ, List.setIfInBounds_toArray, List.set_cons_zero, List.set_cons_succ])
  refine wpAnyH_ready (rs := [3]) (by kernel_rfl) (by simp) ?_
  refine AllReadyH.cons rfl (fun K hK => ?_) AllReadyH.nil
  go_simp
  refine (hA _).mono ?_
  rintro e v1 ⟨rfl, hw⟩
  rw [hw]
  clear hw v1
  refine hK.out _ _ hHeld (fun hHeld => ?_)
  clear hK K
  (try simp only [Act.put, List.getElem_toArray, List.getElem_cons_zero, List.getElem_cons_succ, List.setIfInBounds_toArray, List.set_cons_zero, List.set_cons_succ])
  refine wpAnyH_ready (rs := [7]) (by kernel_rfl) (by simp) ?_
  refine AllReadyH.cons rfl (fun K hK => ?_) AllReadyH.nil
  go_simp
  refine (hB _).mono ?_
  rintro e v1 ⟨rfl, hw⟩
  rw [hw]
  clear hw v1
  refine hK.out _ _ hHeld (fun hHeld => ?_)
  clear hK K
  (try simp only [Act.put, List.getElem_toArray, List.getElem_cons_zero, List.getElem_cons_succ, List.setIfInBounds_toArray, List.set_cons_zero, List.set_cons_succ])
  refine wpAnyH_take (i := 8) (v := ?_) rfl (by kernel_rfl) (by kernel_rfl) (by kernel_rfl) (fun _ _ _ h => h) (Or.inl ⟨by kernel_rfl, ?_⟩) (by assumption) ?_
  rotate_left
  · (intro w hSw; (try dsimp only at hSw); go_simp) <;> with_reducible rfl
  (try simp only [Act.put, List.getElem_toArray, List.getElem_cons_zero, List.getElem_cons_succ, List.setIfInBounds_toArray, List.set_cons_zero, List.set_cons_succ])
  refine wpAnyH_take (i := 9) (v := ?_) rfl (by kernel_rfl) (by kernel_rfl) (by kernel_rfl) (fun _ _ _ h => h) (Or.inl ⟨by kernel_rfl, ?_⟩) (by assumption) ?_
  rotate_left
  · (intro w hSw; (try dsimp only at hSw); go_simp) <;> with_reducible rfl
  (try simp only [Act.put, List.getElem_toArray, List.getElem_cons_zero, List.getElem_cons_succ, List.setIfInBounds_toArray, List.set_cons_zero, List.set_cons_succ])
  refine wpAnyH_done (by kernel_rfl) ?_ _
  clear hHeld hA hB hk4 hk5
  obtain ⟨w2, hw2⟩ : ∃ V, V = WZ.drew := ⟨_, rfl⟩
  have hb2 : Below WZ.heap.size WZ w2 := by rw [hw2]; exact Di.drewN_below (w := WZ) ⟨1, rfl⟩
  have HA2 : Hid (UnAt w2 L U) := HA0.out.below hb2
  have HK2 : Hid (w2.heap[kb]? = some (.cells (tkR cc s pid x i) 68)) := (hb2.block _ (lt_of_heap HK.out)).trans HK.out
  have HZ2 : Hid (w2.heap[zb]? = some (.cells (ouR Ou.zero) 65)) := (hb2.block _ (lt_of_heap HZ.out)).trans HZ.out
  have HU2 : Hid (UT L.lo w w2) := UT.of_below (HB0.out.trans (hb2.mono HB0.out.size))
  have hk0 : w2.cell? ⟨kb, 0, none⟩ = some (ptr cc) := by rw [cell_of_heap HK2.out]; rfl
  rw [← hw2]
  clear hw2 hb2
  have hLv := hLv w2 HA2.out
  go_wp2_with fail
  refine hLv.mono ?_
  rintro e v1 ⟨rfl, hw⟩
  rw [hw]
  clear hw v1 hLv hk0
  have hs2 : w2.cell? ⟨kb, 0, none⟩ = some (ptr cc) ∧ w2.cell? ⟨cc, 2, none⟩ = some (ptr ss) := by
    have c := HA2.out.cell2
    rw [← Hcc.out, ← Hs.out] at c
    exact ⟨by rw [cell_of_heap HK2.out]; rfl, c⟩
  have hT := Sg.send_at L.s U.S sa sb w2 HA2.out.sigs HA2.out.ok.sok
  rw [← Hs.out] at hT
  have c0 := hs2.1
  have c2 := hs2.2
  clear hs2
  go_wp2_with fail
  refine hT.mono ?_
  rintro e w4 ⟨rfl, hp, hu⟩
  obtain ⟨ha, hut⟩ := HA2.out.putS (by rw [← Hs.out]; exact hu) (by rw [← Hs.out]; exact hp) (Sg.ok_sd HA2.out.ok.sok sa sb)
  have HA4 : Hid (UnAt w4 L U') := by rw [HU'.out, ← Hsa.out, ← Hsb.out]; exact ha
  have HU4 : Hid (UT L.lo w w4) := HU2.out.trans hut
  have HZ4 : Hid (w4.heap[zb]? = some (.cells (ouR Ou.zero) 65)) := hut.other HZ2.out rfl
  clear hp hu ha hut hT c0 c2
  have hN := number_at 0
  have e1 : ouR (Ou.num 0) = R := by rw [HRq.out, HO.out]
  rw [e1] at hN
  clear e1 HO
  go_wp2_with fail
  refine (hN _).mono ?_
  rintro e w5 ⟨rfl, hb5⟩
  have HB5 : Hid (Below w4.heap.size w4 w5) := hb5
  have HA1 : Hid (UnAt w5 L U') := HA4.out.below HB5.out
  have HU1 : Hid (UT L.lo w w5) := HU4.out.trans (UT.of_below HB5.out)
  clear hN hb5
  have HM : Hid (w5.heap[zb]? = some (.cells (ouR Ou.zero) 65)) := (HB5.out.block _ (lt_of_heap HZ4.out)).trans HZ4.out
  have HQ : Hid ((w5.setRow zb R).heap[zb]? = some (.cells R 65)) := setRow_heap _ zb _ _ _ _ HM.out
  have HF : Hid (UnAt (w5.setRow zb R) L U' ∧ UT L.lo w (w5.setRow zb R)) := ⟨HA1.out.row HM.out rfl (by decide) (by decide), HU1.out.far (by rw [HZb.out]; omega)⟩
  go_wp2_with (first
    | (refine wpList_store_row rfl 65 _ _ rfl zb R rfl rfl 65 (ouR Ou.zero) HM.out (by rw [HRs.out]; exact ouSize) (by rw [HRs.out]; rfl) HOne.out ?_)
    | go_in)
  exact bodyPost_ret (v := .agg R) (results_cell_row rfl _ _ zb 65 R (0, 0) _ rfl HQ.out Tryz.underlying65 rfl (by rw [HRs.out]; exact ouSize)) rfl ⟨rfl, HF.out⟩
set_option maxHeartbeats 1000000 in
set_option maxRecDepth 100000 in
theorem do_15 {w : World} {L : Pl} {U U' : Un} {o : Ou} (h : UnAt w L U) (s : Value) (pid : Int) (x : Cl) (i : List UInt8) (hx : x.n = 15) (hC : ∀ W, UnAt W L U → Calls Tryz.prog 56 #[.agg (tkR L.c s pid x i)] W (Left L o U' W)) :
    Calls Tryz.prog 21 #[.agg (tkR L.c s pid x i)] w (Left L o U' w) := by
  unfold Left at hC ⊢
  obtain ⟨WK, hWK⟩ : ∃ W, W = w.alloc (.cells (tkR L.c s pid x i) 68) := ⟨_, rfl⟩
  have hbK : Below w.heap.size w WK := by rw [hWK]; exact below_alloc _ _
  have hsK : WK.heap.size = w.heap.size + 1 := by rw [hWK]; simp
  have hxK : WK.heap[w.heap.size]? = some (.cells (tkR L.c s pid x i) 68) := by rw [hWK]; exact heap_alloc_new _ _
  obtain ⟨WZ, hWZ⟩ : ∃ W, W = WK.alloc (.cells (ouR Ou.zero) 65) := ⟨_, rfl⟩
  have hbZ : Below WK.heap.size WK WZ := by rw [hWZ]; exact below_alloc _ _
  have hsZ : WZ.heap.size = w.heap.size + 1 + 1 := by rw [hWZ]; simp [hsK]
  have hxZ : WZ.heap[w.heap.size + 1]? = some (.cells (ouR Ou.zero) 65) := by rw [hWZ, ← hsK]; exact heap_alloc_new _ _
  have hyK : WZ.heap[w.heap.size]? = some (.cells (tkR L.c s pid x i) 68) := ((hbZ.block _ (lt_of_heap (hxK))).trans (hxK))
  have hyZ := hxZ
  have hB : Below w.heap.size w WZ := ((hbK).trans (hbZ.mono (hbK).size))
  have HA0 : Hid (UnAt WZ L U) := h.below hB
  have HB0 : Hid (Below w.heap.size w WZ) := hB
  have hz : (#[.int .i64 0, .int .i64 0, .string ⟨#[]⟩, .int .i64 0, .int .i64 0, .string ⟨#[]⟩, .int .i64 0, .bool false] : Array Value) = ouR Ou.zero := rfl
  obtain ⟨kb, hKb⟩ : ∃ k, k = w.heap.size := ⟨_, rfl⟩
  rw [← hKb] at hyK
  have HK : Hid (WZ.heap[kb]? = some (.cells (tkR L.c s pid x i) 68)) := hyK
  have HKb : Hid (kb = w.heap.size) := hKb
  have HWK : Hid _ := hWK
  obtain ⟨zb, hZb⟩ : ∃ k, k = w.heap.size + 1 := ⟨_, rfl⟩
  rw [← hZb] at hyZ
  have HZ : Hid (WZ.heap[zb]? = some (.cells (ouR Ou.zero) 65)) := hyZ
  have HZb : Hid (zb = w.heap.size + 1) := hZb
  have HWZ : Hid _ := hWZ
  have HU : Hid (UnAt w L U) := h
  clear hWK hbK hsK hxK hKb hWZ hbZ hsZ hxZ hZb hB h
  obtain ⟨cc, hcc⟩ : ∃ c, c = L.c := ⟨_, rfl⟩
  rw [← hcc] at HK hyK HWK hC ⊢
  have hk3 : WZ.cell? ⟨kb, 3, none⟩ = some (.int .i64 15) := by rw [cell_of_heap HK.out, ← hx]; rfl
  have hC := hC WZ HA0.out
  obtain ⟨R, hR⟩ : ∃ R, R = ouR o := ⟨_, rfl⟩
  have HRs : Hid (R.size = 8) := by rw [hR]; exact ouR_size _
  have HOne : Hid (R.all (·.oneCell') = true) := by rw [hR]; exact ouR_one _
  rw [← hR]
  rw [← hR] at hC
  have HC : Hid (Calls Tryz.prog 56 #[.agg (tkR cc s pid x i)] WZ fun e w' => e = .returned (.agg R) ∧ UnAt w' L U' ∧ UT L.lo WZ w') := hC
  clear hR hyK hyZ hcc hx hC
  go_enter Tryz.func21, Tryz.ntmps21
  go_upto_region 1 with fail
  rw [← HWK.out, ← HWZ.out]
  rw [← HZb.out]
  rw [← HKb.out]
  go_upto_region 28 with fail
  have hC : Calls Tryz.prog 56 #[.agg (tkR cc s pid x i)] WZ fun e w' => e = .returned (.agg R) ∧ UnAt w' L U' ∧ UT L.lo WZ w' := HC.out
  clear HC hk3
  go_wp2_with (first
    | (refine wpList_load_row rfl 68 _ rfl kb rfl 68 (tkR cc s pid x i) (0, 0) _ HK.out Tryz.underlying68 rfl tkSize ?_)
    | fail)
  refine hC.mono ?_
  rintro e w1 ⟨rfl, ha1, hu1⟩
  have HA1 : Hid (UnAt w1 L U') := ha1
  have HU1 : Hid (UT L.lo w w1) := (UT.of_below HB0.out).trans hu1
  have HZ1 : Hid (w1.heap[zb]? = some (.cells (ouR Ou.zero) 65)) := hu1.other HZ.out rfl
  clear hC ha1 hu1
  have HM : Hid (w1.heap[zb]? = some (.cells (ouR Ou.zero) 65)) := HZ1.out
  have HQ : Hid ((w1.setRow zb R).heap[zb]? = some (.cells R 65)) := setRow_heap _ zb _ _ _ _ HM.out
  have HF : Hid (UnAt (w1.setRow zb R) L U' ∧ UT L.lo w (w1.setRow zb R)) := ⟨HA1.out.row HM.out rfl (by decide) (by decide), HU1.out.far (by rw [HZb.out]; omega)⟩
  go_wp2_with (first
    | (refine wpList_store_row rfl 65 _ _ rfl zb R rfl rfl 65 (ouR Ou.zero) HM.out (by rw [HRs.out]; exact ouSize) (by rw [HRs.out]; rfl) HOne.out ?_)
    | go_in)
  exact bodyPost_ret (v := .agg R) (results_cell_row rfl _ _ zb 65 R (0, 0) _ rfl HQ.out Tryz.underlying65 rfl (by rw [HRs.out]; exact ouSize)) rfl ⟨rfl, HF.out⟩
end Go.Proofs.YtnlhedpfhgoncabGreatDoor
