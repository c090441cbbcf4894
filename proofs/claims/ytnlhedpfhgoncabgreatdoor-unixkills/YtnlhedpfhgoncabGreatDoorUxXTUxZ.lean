/- Package unix: fork. -/
/- Package unix: Signal. -/
import Derived.Test.YtnlhedpfhgoncabGreatDoorUxATUxT
import Derived.Deep.DeepCutAuto
set_option linter.all false
namespace Go.Proofs.YtnlhedpfhgoncabGreatDoor
open Go.RowKit
/-- What a fork leaves. -/
def foU (U : Un) (pid : Int) : Un := ⟨Fd.forkT U.F pid (Pc.fkN U.T pid), U.P, Sg.fkS U.S pid (Pc.fkN U.T pid), Pc.fkS U.T pid⟩
set_option maxHeartbeats 2000000 in
set_option maxRecDepth 100000 in
theorem fork_at {w : World} {L : Pl} {U : Un} (h : UnAt w L U) (s : Value) (pid : Int) (x : Cl) (i : List UInt8) (hE : Pc.fkE U.T pid = 0) :
    Calls Tryz.prog 45 #[.agg (tkR L.c s pid x i)] w (Left L (Ou.num (Pc.fkN U.T pid)) (foU U pid) w) := by
  unfold Left
  obtain ⟨WK, hWK⟩ : ∃ W, W = w.alloc (.cells (tkR L.c s pid x i) 68) := ⟨_, rfl⟩
  have hbK : Below w.heap.size w WK := by rw [hWK]; exact below_alloc _ _
  have hsK : WK.heap.size = w.heap.size + 1 := by rw [hWK]; simp
  have hxK : WK.heap[w.heap.size]? = some (.cells (tkR L.c s pid x i) 68) := by rw [hWK]; exact heap_alloc_new _ _
  obtain ⟨WZ, hWZ⟩ : ∃ W, W = WK.alloc (.cells (ouR Ou.zero) 65) := ⟨_, rfl⟩
  have hbZ : Below WK.heap.size WK WZ := by rw [hWZ]; exact below_alloc _ _
  have hsZ : WZ.heap.size = w.heap.size + 1 + 1 := by rw [hWZ]; simp [hsK]
  have hxZ : WZ.heap[w.heap.size + 1]? = some (.cells (ouR Ou.zero) 65) := by rw [hWZ, ← hsK]; exact heap_alloc_new _ _
  have hyK : WZ.heap[w.heap.size]? = some (.cells (tkR L.c s pid x i) 68) := ((hbZ.block _ (lt_of_heap (hxK))).trans (hxK))
  have hyZ := hxZ
  have hB : Below w.heap.size w WZ := ((hbK).trans (hbZ.mono (hbK).size))
  have HA0 : Hid (UnAt WZ L U) := h.below hB
  have HB0 : Hid (Below w.heap.size w WZ) := hB
  have hz : (#[.int .i64 0, .int .i64 0, .string ⟨#[]⟩, .int .i64 0, .int .i64 0, .string ⟨#[]⟩, .int .i64 0, .bool false] : Array Value) = ouR Ou.zero := rfl
  obtain ⟨kb, hKb⟩ : ∃ k, k = w.heap.size := ⟨_, rfl⟩
  rw [← hKb] at hyK
  have HK : Hid (WZ.heap[kb]? = some (.cells (tkR L.c s pid x i) 68)) := hyK
  have HKb : Hid (kb = w.heap.size) := hKb
  have HWK : Hid _ := hWK
  obtain ⟨zb, hZb⟩ : ∃ k, k = w.heap.size + 1 := ⟨_, rfl⟩
  rw [← hZb] at hyZ
  have HZ : Hid (WZ.heap[zb]? = some (.cells (ouR Ou.zero) 65)) := hyZ
  have HZb : Hid (zb = w.heap.size + 1) := hZb
  have HWZ : Hid _ := hWZ
  have HU : Hid (UnAt w L U) := h
  clear hWK hbK hsK hxK hKb hWZ hbZ hsZ hxZ hZb hB h
  obtain ⟨cc, hcc⟩ : ∃ c, c = L.c := ⟨_, rfl⟩
  obtain ⟨tt, htt⟩ : ∃ c, c = L.t := ⟨_, rfl⟩
  obtain ⟨ff, hff⟩ : ∃ c, c = L.f := ⟨_, rfl⟩
  obtain ⟨ss, hss⟩ : ∃ c, c = L.s := ⟨_, rfl⟩
  rw [← hcc] at HK hyK HWK ⊢
  have Hcc : Hid (cc = L.c) := hcc
  have Ht : Hid (tt = L.t) := htt
  have Hf : Hid (ff = L.f) := hff
  have Hs : Hid (ss = L.s) := hss
  obtain ⟨o, ho⟩ : ∃ o, o = Ou.num (Pc.fkN U.T pid) := ⟨_, rfl⟩
  rw [← ho]
  have HO : Hid (o = Ou.num (Pc.fkN U.T pid)) := ho
  obtain ⟨U', hU'⟩ : ∃ V, V = foU U pid := ⟨_, rfl⟩
  rw [← hU']
  have HU' : Hid (U' = foU U pid) := hU'
  obtain ⟨R, hR⟩ : ∃ R, R = ouR o := ⟨_, rfl⟩
  have HRs : Hid (R.size = 8) := by rw [hR]; exact ouR_size _
  have HOne : Hid (R.all (·.oneCell') = true) := by rw [hR]; exact ouR_one _
  rw [← hR]
  have HRq : Hid (R = ouR o) := hR
  clear ho hU' hR
  clear hyK hyZ hcc htt hff hss
  go_enter Tryz.func45, Tryz.ntmps45
  go_upto_region 1 with fail
  rw [← HWK.out, ← HWZ.out]
  rw [← HZb.out]
  rw [← HKb.out]
  obtain ⟨w1, hw1⟩ : ∃ V, V = WZ := ⟨_, rfl⟩
  have HA1 : Hid (UnAt w1 L U) := by rw [hw1]; exact HA0.out
  have HK1 : Hid (w1.heap[kb]? = some (.cells (tkR cc s pid x i) 68)) := by rw [hw1]; exact HK.out
  have HZ1 : Hid (w1.heap[zb]? = some (.cells (ouR Ou.zero) 65)) := by rw [hw1]; exact HZ.out
  have HU1 : Hid (UT L.lo w w1) := by rw [hw1]; exact UT.of_below HB0.out
  rw [← hw1]
  clear hw1
  have hs1 : w1.cell? ⟨kb, 0, none⟩ = some (ptr cc) ∧ w1.cell? ⟨kb, 2, none⟩ = some (.int .i64 pid) ∧ w1.cell? ⟨cc, 3, none⟩ = some (ptr tt) := by
    have c := HA1.out.cell3
    rw [← Hcc.out, ← Ht.out] at c
    exact ⟨by rw [cell_of_heap HK1.out]; rfl, by rw [cell_of_heap HK1.out]; rfl, c⟩
  have hT := Pc.fork_at L.B L.t U.T pid (w1.drewN 1) (HA1.out.below (Di.drewN_below (w := w1) ⟨1, rfl⟩)).procs
  rw [hE] at hT
  rw [← Ht.out] at hT
  refine wp_region_held_drew (S := fun w' => w'.cell? ⟨kb, 0, none⟩ = some (ptr cc) ∧ w'.cell? ⟨kb, 2, none⟩ = some (.int .i64 pid) ∧ w'.cell? ⟨cc, 3, none⟩ = some (ptr tt)) (by kernel_rfl) hs1 (fun hHeld => ?_)
  refine wpAnyH_take (i := 0) (v := ?_) rfl (by kernel_rfl) (by kernel_rfl) (by kernel_rfl) (fun _ _ _ h => h) (Or.inl ⟨by kernel_rfl, ?_⟩) (by assumption) ?_
  rotate_left
  · (intro w hSw; (try dsimp only at hSw); go_simp) <;> with_reducible rfl
  (try simp only [Act.put, List.getElem_toArray, List.getElem_cons_zero, List.setIfInBounds_toArray, List.set_cons_zero, List.set_cons_succ])
  refine wpAnyH_take (i := 1) (v := ?_) rfl (by kernel_rfl) (by kernel_rfl) (by kernel_rfl) (fun _ _ _ h => h) (Or.inl ⟨by kernel_rfl, ?_⟩) (by assumption) ?_
  rotate_left
  · (intro w hSw; (try dsimp only at hSw); go_simp) <;> with_reducible rfl
  (try simp only [Act.put, List.getElem_toArray, List.getElem_cons_zero, List.getElem_cons_succ, List.setIfInBounds_toArray, List.set_cons_zero, List.set_cons_succ])
  refine wpAnyH_take (i := 2) (v := ?_) rfl (by kernel_rfl) (by kernel_rfl) (by kernel_rfl) (fun _ _ _ h => h) (Or.inl ⟨by kernel_rfl, ?_⟩) (by assumption) ?_
  rotate_left
  · (intro w hSw; (try dsimp only at hSw); go_simp) <;> with_reducible rfl
  (try simp only [Act.put, List.getElem_toArray, List.getElem_cons_zero, List.getElem_cons_succ, List.setIfInBounds_toArray, List.set_cons_zero, List.set_cons_succ])
  refine wpAnyH_take (i := 3) (v := ?_) rfl (by kernel_rfl) (by kernel_rfl) (by kernel_rfl) (fun _ _ _ h => h) (Or.inl ⟨by kernel_rfl, ?_⟩) (by assumption) ?_
  rotate_left
  · (intro w hSw; (try dsimp only at hSw); go_simp) <;> with_reducible rfl
  (try simp only [Act.put, List.getElem_toArray, List.getElem_cons_zero, List.getElem_cons_succ, List.setIfInBounds_toArray, List.set_cons_zero, List.set_cons_succ])
  refine wpAnyH_take (i := 4) (v := ?_) rfl (by kernel_rfl) (by kernel_rfl) (by kernel_rfl) (fun _ _ _ h => h) (Or.inl ⟨by kernel_rfl, ?_⟩) (by assumption) ?_
  rotate_left
  · (intro w hSw; (try dsimp only at hSw); go_simp) <;> with_reducible rfl
  (try simp only [Act.put, List.getElem_toArray, List.getElem_cons_zero, List.getElem_cons_succ, List.setIfInBounds_toArray, List.set_cons_zero, List.set_cons_succ])
  refine wpAnyH_take (i := 5) (v := ?_) rfl (by kernel_rfl) (by kernel_rfl) (by kernel_rfl) (fun _ _ _ h => h) (Or.inl ⟨by kernel_rfl, ?_⟩) (by assumption) ?_
  rotate_left
  · (intro w hSw; (try dsimp only at hSw); go_simp) <;> with_reducible rfl
  (try simp only [Act.put, List.getElem_toArray, List.getElem_cons_zero, List.getElem_cons_succ, List.setIfInBounds_toArray, List.set_cons_zero, List.set_cons_succ])
  refine wpAnyH_take (i := 6) (v := ?_) rfl (by kernel_rfl) (by kernel_rfl) (by kernel_rfl) (fun _ _ _ h => h) (Or.inl ⟨by kernel_rfl, ?_⟩) (by assumption) ?_
  rotate_left
  · (intro w hSw; (try dsimp only at hSw); go_simp) <;> with_reducible rfl
  (try simp only [Act.put, List.getElem_toArray, List.getElem_cons_zero, List.getElem_cons_succ, List.setIfInBounds_toArray, List.set_cons_zero, List.set_cons_succ])
  refine wpAnyH_ready (rs := [7]) (by kernel_rfl) (by simp) ?_
  refine AllReadyH.cons rfl (fun K hK => ?_) AllReadyH.nil
  go_simp
  refine hT.mono ?_
  rintro e w2 ⟨rfl, hp, hu⟩
  obtain ⟨ha, hut⟩ := (HA1.out.below (Di.drewN_below (w := w1) ⟨1, rfl⟩)).putT hu (by rw [← Ht.out]; exact hp)
  have HA2 : Hid (UnAt w2 L ⟨U.F, U.P, U.S, Pc.fkS U.T pid⟩) := ha
  have HU2 : Hid (UT L.lo w w2) := (HU1.out.trans (UT.of_below (Di.drewN_below (w := w1) ⟨1, rfl⟩))).trans hut
  have HK2 : Hid (w2.heap[kb]? = some (.cells (tkR cc s pid x i) 68)) := hut.other (w := w1.drewN 1) HK1.out rfl
  have HZ2 : Hid (w2.heap[zb]? = some (.cells (ouR Ou.zero) 65)) := hut.other (w := w1.drewN 1) HZ1.out rfl
  have hs2 : w2.cell? ⟨kb, 0, none⟩ = some (ptr cc) ∧ w2.cell? ⟨kb, 2, none⟩ = some (.int .i64 pid) ∧ w2.cell? ⟨cc, 3, none⟩ = some (ptr tt) := by
    have c := HA2.out.cell3
    rw [← Hcc.out, ← Ht.out] at c
    exact ⟨by rw [cell_of_heap HK2.out]; rfl, by rw [cell_of_heap HK2.out]; rfl, c⟩
  clear hp hu ha hut hs1 hT
  refine hK.out _ _ hs2 (fun hHeld => ?_)
  clear hK K
  (try simp only [Act.put, List.getElem_toArray, List.getElem_cons_zero, List.getElem_cons_succ, List.setIfInBounds_toArray, List.set_cons_zero, List.set_cons_succ])
  refine wpAnyH_take (i := 8) (v := ?_) rfl (by kernel_rfl) (by kernel_rfl) (by kernel_rfl) (fun _ _ _ h => h) (Or.inl ⟨by kernel_rfl, ?_⟩) (by assumption) ?_
  rotate_left
  · (intro w hSw; (try dsimp only at hSw); go_simp) <;> with_reducible rfl
  (try simp only [Act.put, List.getElem_toArray, List.getElem_cons_zero, List.getElem_cons_succ, List.setIfInBounds_toArray, List.set_cons_zero, List.set_cons_succ])
  refine wpAnyH_take (i := 9) (v := ?_) rfl (by kernel_rfl) (by kernel_rfl) (by kernel_rfl) (fun _ _ _ h => h) (Or.inl ⟨by kernel_rfl, ?_⟩) (by assumption) ?_
  rotate_left
  · (intro w hSw; (try dsimp only at hSw); go_simp) <;> with_reducible rfl
  (try simp only [Act.put, List.getElem_toArray, List.getElem_cons_zero, List.getElem_cons_succ, List.setIfInBounds_toArray, List.set_cons_zero, List.set_cons_succ])
  refine wpAnyH_take (i := 10) (v := ?_) rfl (by kernel_rfl) (by kernel_rfl) (by kernel_rfl) (fun _ _ _ h => h) (Or.inl ⟨by kernel_rfl, ?_⟩) (by assumption) ?_
  rotate_left
  · (intro w hSw; (try dsimp only at hSw); go_simp) <;> with_reducible rfl
  (try simp only [Act.put, List.getElem_toArray, List.getElem_cons_zero, List.getElem_cons_succ, List.setIfInBounds_toArray, List.set_cons_zero, List.set_cons_succ])
  refine wpAnyH_take (i := 11) (v := ?_) rfl (by kernel_rfl) (by kernel_rfl) (by kernel_rfl) (fun _ _ _ h => h) (Or.inl ⟨by kernel_rfl, ?_⟩) (by assumption) ?_
  rotate_left
  · (intro w hSw; (try dsimp only at hSw); go_simp) <;> with_reducible rfl
  (try simp only [Act.put, List.getElem_toArray, List.getElem_cons_zero, List.getElem_cons_succ, List.setIfInBounds_toArray, List.set_cons_zero, List.set_cons_succ])
  refine wpAnyH_take (i := 12) (v := ?_) rfl (by kernel_rfl) (by kernel_rfl) (by kernel_rfl) (fun _ _ _ h => h) (Or.inl ⟨by kernel_rfl, ?_⟩) (by assumption) ?_
  rotate_left
  · (intro w hSw; (try dsimp only at hSw); go_simp) <;> with_reducible rfl
  (try simp only [Act.put, List.getElem_toArray, List.getElem_cons_zero, List.getElem_cons_succ, List.setIfInBounds_toArray, List.set_cons_zero, List.set_cons_succ])
  refine wpAnyH_done (by kernel_rfl) ?_ _
  clear hHeld hs2
  go_wp2_with fail
  have hs2 : w2.cell? ⟨kb, 0, none⟩ = some (ptr cc) ∧ w2.cell? ⟨kb, 2, none⟩ = some (.int .i64 pid) ∧ w2.cell? ⟨cc, 0, none⟩ = some (ptr ff) := by
    have c := HA2.out.cell0
    rw [← Hcc.out, ← Hf.out] at c
    exact ⟨by rw [cell_of_heap HK2.out]; rfl, by rw [cell_of_heap HK2.out]; rfl, c⟩
  have hT := Fd.fork_at L.f U.F pid (Pc.fkN U.T pid) (w2.drewN 1) (HA2.out.below (Di.drewN_below (w := w2) ⟨1, rfl⟩)).fds HA2.out.ok.inv
  rw [← Hf.out] at hT
  refine wp_region_held_drew (S := fun w' => w'.cell? ⟨kb, 0, none⟩ = some (ptr cc) ∧ w'.cell? ⟨kb, 2, none⟩ = some (.int .i64 pid) ∧ w'.cell? ⟨cc, 0, none⟩ = some (ptr ff)) (by kernel_rfl) hs2 (fun hHeld => ?_)
  refine wpAnyH_take (i := 0) (v := ?_) rfl (by kernel_rfl) (by kernel_rfl) (by kernel_rfl) (fun _ _ _ h => h) (Or.inl ⟨by kernel_rfl, ?_⟩) (by assumption) ?_
  rotate_left
  · (intro w hSw; (try dsimp only at hSw); go_simp) <;> with_reducible rfl
  (try simp only [Act.put, List.getElem_toArray, List.getElem_cons_zero, List.setIfInBounds_toArray, List.set_cons_zero, List.set_cons_succ])
  refine wpAnyH_take (i := 1) (v := ?_) rfl (by kernel_rfl) (by kernel_rfl) (by kernel_rfl) (fun _ _ _ h => h) (Or.inl ⟨by kernel_rfl, ?_⟩) (by assumption) ?_
  rotate_left
  · (intro w hSw; (try dsimp only at hSw); go_simp) <;> with_reducible rfl
  (try simp only [Act.put, List.getElem_toArray, List.getElem_cons_zero, List.getElem_cons_succ, List.setIfInBounds_toArray, List.set_cons_zero, List.set_cons_succ])
  refine wpAnyH_take (i := 2) (v := ?_) rfl (by kernel_rfl) (by kernel_rfl) (by kernel_rfl) (fun _ _ _ h => h) (Or.inl ⟨by kernel_rfl, ?_⟩) (by assumption) ?_
  rotate_left
  · (intro w hSw; (try dsimp only at hSw); go_simp) <;> with_reducible rfl
  (try simp only [Act.put, List.getElem_toArray, List.getElem_cons_zero, List.getElem_cons_succ, List.setIfInBounds_toArray, List.set_cons_zero, List.set_cons_succ])
  refine wpAnyH_take (i := 3) (v := ?_) rfl (by kernel_rfl) (by kernel_rfl) (by kernel_rfl) (fun _ _ _ h => h) (Or.inl ⟨by kernel_rfl, ?_⟩) (by assumption) ?_
  rotate_left
  · (intro w hSw; (try dsimp only at hSw); go_simp) <;> with_reducible rfl
  (try simp only [Act.put, List.getElem_toArray, List.getElem_cons_zero, List.getElem_cons_succ, List.setIfInBounds_toArray, List.set_cons_zero, List.set_cons_succ])
  refine wpAnyH_take (i := 4) (v := ?_) rfl (by kernel_rfl) (by kernel_rfl) (by kernel_rfl) (fun _ _ _ h => h) (Or.inl ⟨by kernel_rfl, ?_⟩) (by assumption) ?_
  rotate_left
  · (intro w hSw; (try dsimp only at hSw); go_simp) <;> with_reducible rfl
  (try simp only [Act.put, List.getElem_toArray, List.getElem_cons_zero, List.getElem_cons_succ, List.setIfInBounds_toArray, List.set_cons_zero, List.set_cons_succ])
  refine wpAnyH_take (i := 5) (v := ?_) rfl (by kernel_rfl) (by kernel_rfl) (by kernel_rfl) (fun _ _ _ h => h) (Or.inl ⟨by kernel_rfl, ?_⟩) (by assumption) ?_
  rotate_left
  · (intro w hSw; (try dsimp only at hSw); go_simp) <;> with_reducible rfl
  (try simp only [Act.put, List.getElem_toArray, List.getElem_cons_zero, List.getElem_cons_succ, List.setIfInBounds_toArray, List.set_cons_zero, List.set_cons_succ])
  refine wpAnyH_take (i := 6) (v := ?_) rfl (by kernel_rfl) (by kernel_rfl) (by kernel_rfl) (fun _ _ _ h => h) (Or.inl ⟨by kernel_rfl, ?_⟩) (by assumption) ?_
  rotate_left
  · (intro w hSw; (try dsimp only at hSw); go_simp) <;> with_reducible rfl
  (try simp only [Act.put, List.getElem_toArray, List.getElem_cons_zero, List.getElem_cons_succ, List.setIfInBounds_toArray, List.set_cons_zero, List.set_cons_succ])
  refine wpAnyH_take (i := 7) (v := ?_) rfl (by kernel_rfl) (by kernel_rfl) (by kernel_rfl) (fun _ _ _ h => h) (Or.inl ⟨by kernel_rfl, ?_⟩) (by assumption) ?_
  rotate_left
  · (intro w hSw; (try dsimp only at hSw); go_simp) <;> with_reducible rfl
  (try simp only [Act.put, List.getElem_toArray, List.getElem_cons_zero, List.getElem_cons_succ, List.setIfInBounds_toArray, List.set_cons_zero, List.set_cons_succ])
  refine wpAnyH_ready (rs := [8]) (by kernel_rfl) (by simp) ?_
  refine AllReadyH.cons rfl (fun K hK => ?_) AllReadyH.nil
  go_simp
  refine hT.mono ?_
  rintro e w3 ⟨rfl, hp, hu⟩
  obtain ⟨ha, hut⟩ := (HA2.out.below (Di.drewN_below (w := w2) ⟨1, rfl⟩)).putF (by rw [← Hf.out]; exact hu) (by rw [← Hf.out]; exact hp) (HA2.out.ok.inv.forkT _ _) (HA2.out.ok.fit.forkT HA2.out.ok.inv _ _)
  have HA3 : Hid (UnAt w3 L ⟨Fd.forkT U.F pid (Pc.fkN U.T pid), U.P, U.S, Pc.fkS U.T pid⟩) := ha
  have HU3 : Hid (UT L.lo w w3) := (HU2.out.trans (UT.of_below (Di.drewN_below (w := w2) ⟨1, rfl⟩))).trans hut
  have HK3 : Hid (w3.heap[kb]? = some (.cells (tkR cc s pid x i) 68)) := hut.other (w := w2.drewN 1) HK2.out rfl
  have HZ3 : Hid (w3.heap[zb]? = some (.cells (ouR Ou.zero) 65)) := hut.other (w := w2.drewN 1) HZ2.out rfl
  have hs3 : w3.cell? ⟨kb, 0, none⟩ = some (ptr cc) ∧ w3.cell? ⟨kb, 2, none⟩ = some (.int .i64 pid) ∧ w3.cell? ⟨cc, 0, none⟩ = some (ptr ff) := by
    have c := HA3.out.cell0
    rw [← Hcc.out, ← Hf.out] at c
    exact ⟨by rw [cell_of_heap HK3.out]; rfl, by rw [cell_of_heap HK3.out]; rfl, c⟩
  clear hp hu ha hut hs2 hT
  refine hK.out _ _ hs3 (fun hHeld => ?_)
  clear hK K
  (try simp only [Act.put, List.getElem_toArray, List.getElem_cons_zero, List.getElem_cons_succ, List.setIfInBounds_toArray, List.set_cons_zero, List.set_cons_succ])
  refine wpAnyH_done (by kernel_rfl) ?_ _
  clear hHeld hs3
  go_wp2_with fail
  have hs3 : w3.cell? ⟨kb, 0, none⟩ = some (ptr cc) ∧ w3.cell? ⟨kb, 2, none⟩ = some (.int .i64 pid) ∧ w3.cell? ⟨cc, 2, none⟩ = some (ptr ss) := by
    have c := HA3.out.cell2
    rw [← Hcc.out, ← Hs.out] at c
    exact ⟨by rw [cell_of_heap HK3.out]; rfl, by rw [cell_of_heap HK3.out]; rfl, c⟩
  have hT := Sg.fork_at L.s U.S pid (Pc.fkN U.T pid) (w3.drewN 1) (HA3.out.below (Di.drewN_below (w := w3) ⟨1, rfl⟩)).sigs HA3.out.ok.sok
  rw [← Hs.out] at hT
  refine wp_region_held_drew (S := fun w' => w'.cell? ⟨kb, 0, none⟩ = some (ptr cc) ∧ w'.cell? ⟨kb, 2, none⟩ = some (.int .i64 pid) ∧ w'.cell? ⟨cc, 2, none⟩ = some (ptr ss)) (by kernel_rfl) hs3 (fun hHeld => ?_)
  refine wpAnyH_take (i := 0) (v := ?_) rfl (by kernel_rfl) (by kernel_rfl) (by kernel_rfl) (fun _ _ _ h => h) (Or.inl ⟨by kernel_rfl, ?_⟩) (by assumption) ?_
  rotate_left
  · (intro w hSw; (try dsimp only at hSw); go_simp) <;> with_reducible rfl
  (try simp only [Act.put, List.getElem_toArray, List.getElem_cons_zero, List.setIfInBounds_toArray, List.set_cons_zero, List.set_cons_succ])
  refine wpAnyH_take (i := 1) (v := ?_) rfl (by kernel_rfl) (by kernel_rfl) (by kernel_rfl) (fun _ _ _ h => h) (Or.inl ⟨by kernel_rfl, ?_⟩) (by assumption) ?_
  rotate_left
  · (intro w hSw; (try dsimp only at hSw); go_simp) <;> with_reducible rfl
  (try simp only [Act.put, List.getElem_toArray, List.getElem_cons_zero, List.getElem_cons_succ, List.setIfInBounds_toArray, List.set_cons_zero, List.set_cons_succ])
  refine wpAnyH_take (i := 2) (v := ?_) rfl (by kernel_rfl) (by kernel_rfl) (by kernel_rfl) (fun _ _ _ h => h) (Or.inl ⟨by kernel_rfl, ?_⟩) (by assumption) ?_
  rotate_left
  · (intro w hSw; (try dsimp only at hSw); go_simp) <;> with_reducible rfl
  (try simp only [Act.put, List.getElem_toArray, List.getElem_cons_zero, List.getElem_cons_succ, List.setIfInBounds_toArray, List.set_cons_zero, List.set_cons_succ])
  refine wpAnyH_take (i := 3) (v := ?_) rfl (by kernel_rfl) (by kernel_rfl) (by kernel_rfl) (fun _ _ _ h => h) (Or.inl ⟨by kernel_rfl, ?_⟩) (by assumption) ?_
  rotate_left
  · (intro w hSw; (try dsimp only at hSw); go_simp) <;> with_reducible rfl
  (try simp only [Act.put, List.getElem_toArray, List.getElem_cons_zero, List.getElem_cons_succ, List.setIfInBounds_toArray, List.set_cons_zero, List.set_cons_succ])
  refine wpAnyH_take (i := 4) (v := ?_) rfl (by kernel_rfl) (by kernel_rfl) (by kernel_rfl) (fun _ _ _ h => h) (Or.inl ⟨by kernel_rfl, ?_⟩) (by assumption) ?_
  rotate_left
  · (intro w hSw; (try dsimp only at hSw); go_simp) <;> with_reducible rfl
  (try simp only [Act.put, List.getElem_toArray, List.getElem_cons_zero, List.getElem_cons_succ, List.setIfInBounds_toArray, List.set_cons_zero, List.set_cons_succ])
  refine wpAnyH_take (i := 5) (v := ?_) rfl (by kernel_rfl) (by kernel_rfl) (by kernel_rfl) (fun _ _ _ h => h) (Or.inl ⟨by kernel_rfl, ?_⟩) (by assumption) ?_
  rotate_left
  · (intro w hSw; (try dsimp only at hSw); go_simp) <;> with_reducible rfl
  (try simp only [Act.put, List.getElem_toArray, List.getElem_cons_zero, List.getElem_cons_succ, List.setIfInBounds_toArray, List.set_cons_zero, List.set_cons_succ])
  refine wpAnyH_take (i := 6) (v := ?_) rfl (by kernel_rfl) (by kernel_rfl) (by kernel_rfl) (fun _ _ _ h => h) (Or.inl ⟨by kernel_rfl, ?_⟩) (by assumption) ?_
  rotate_left
  · (intro w hSw; (try dsimp only at hSw); go_simp) <;> with_reducible rfl
  (try simp only [Act.put, List.getElem_toArray, List.getElem_cons_zero, List.getElem_cons_succ, List.setIfInBounds_toArray, List.set_cons_zero, List.set_cons_succ])
  refine wpAnyH_take (i := 7) (v := ?_) rfl (by kernel_rfl) (by kernel_rfl) (by kernel_rfl) (fun _ _ _ h => h) (Or.inl ⟨by kernel_rfl, ?_⟩) (by assumption) ?_
  rotate_left
  · (intro w hSw; (try dsimp only at hSw); go_simp) <;> with_reducible rfl
  (try simp only [Act.put, List.getElem_toArray, List.getElem_cons_zero, List.getElem_cons_succ, List.setIfInBounds_toArray, List.set_cons_zero, List.set_cons_succ])
  refine wpAnyH_ready (rs := [8]) (by kernel_rfl) (by simp) ?_
  refine AllReadyH.cons rfl (fun K hK => ?_) AllReadyH.nil
  go_simp
  refine hT.mono ?_
  rintro e w4 ⟨rfl, hp, hu⟩
  obtain ⟨ha, hut⟩ := (HA3.out.below (Di.drewN_below (w := w3) ⟨1, rfl⟩)).putS (by rw [← Hs.out]; exact hu) (by rw [← Hs.out]; exact hp) (Sg.ok_fk HA3.out.ok.sok _ _)
  have HA4 : Hid (UnAt w4 L (foU U pid)) := ha
  have HU4 : Hid (UT L.lo w w4) := (HU3.out.trans (UT.of_below (Di.drewN_below (w := w3) ⟨1, rfl⟩))).trans hut
  have HK4 : Hid (w4.heap[kb]? = some (.cells (tkR cc s pid x i) 68)) := hut.other (w := w3.drewN 1) HK3.out rfl
  have HZ4 : Hid (w4.heap[zb]? = some (.cells (ouR Ou.zero) 65)) := hut.other (w := w3.drewN 1) HZ3.out rfl
  have hs4 : w4.cell? ⟨kb, 0, none⟩ = some (ptr cc) ∧ w4.cell? ⟨kb, 2, none⟩ = some (.int .i64 pid) ∧ w4.cell? ⟨cc, 2, none⟩ = some (ptr ss) := by
    have c := HA4.out.cell2
    rw [← Hcc.out, ← Hs.out] at c
    exact ⟨by rw [cell_of_heap HK4.out]; rfl, by rw [cell_of_heap HK4.out]; rfl, c⟩
  clear hp hu ha hut hs3 hT
  refine hK.out _ _ hs4 (fun hHeld => ?_)
  clear hK K
  (try simp only [Act.put, List.getElem_toArray, List.getElem_cons_zero, List.getElem_cons_succ, List.setIfInBounds_toArray, List.set_cons_zero, List.set_cons_succ])
  refine wpAnyH_done (by kernel_rfl) ?_ _
  clear hHeld hs4
  go_wp2_with fail
  have hN := number_at (Pc.fkN U.T pid)
  have e1 : ouR (Ou.num (Pc.fkN U.T pid)) = R := by rw [HRq.out, HO.out]
  rw [e1] at hN
  clear e1 HO hE
  refine (hN _).mono ?_
  rintro e w5 ⟨rfl, hb5⟩
  have HB5 : Hid (Below w4.heap.size w4 w5) := hb5
  have HA1 : Hid (UnAt w5 L U') := by rw [HU'.out]; exact HA4.out.below HB5.out
  have HU1 : Hid (UT L.lo w w5) := HU4.out.trans (UT.of_below HB5.out)
  clear hN hb5
  have HM : Hid (w5.heap[zb]? = some (.cells (ouR Ou.zero) 65)) := (HB5.out.block _ (lt_of_heap HZ4.out)).trans HZ4.out
  have HQ : Hid ((w5.setRow zb R).heap[zb]? = some (.cells R 65)) := setRow_heap _ zb _ _ _ _ HM.out
  have HF : Hid (UnAt (w5.setRow zb R) L U' ∧ UT L.lo w (w5.setRow zb R)) := ⟨HA1.out.row HM.out rfl (by decide) (by decide), HU1.out.far (by rw [HZb.out]; omega)⟩
  go_wp2_with (first
    | (refine wpList_store_row rfl 65 _ _ rfl zb R rfl rfl 65 (ouR Ou.zero) HM.out (by rw [HRs.out]; exact ouSize) (by rw [HRs.out]; rfl) HOne.out ?_)
    | go_in)
  exact bodyPost_ret (v := .agg R) (results_cell_row rfl _ _ zb 65 R (0, 0) _ rfl HQ.out Tryz.underlying65 rfl (by rw [HRs.out]; exact ouSize)) rfl ⟨rfl, HF.out⟩
set_option maxHeartbeats 1000000 in
set_option maxRecDepth 100000 in
theorem do_2 {w : World} {L : Pl} {U U' : Un} {o : Ou} (h : UnAt w L U) (s : Value) (pid : Int) (x : Cl) (i : List UInt8) (hx : x.n = 2) (hC : ∀ W, UnAt W L U → Calls Tryz.prog 45 #[.agg (tkR L.c s pid x i)] W (Left L o U' W)) :
    Calls Tryz.prog 21 #[.agg (tkR L.c s pid x i)] w (Left L o U' w) := by
  unfold Left at hC ⊢
  obtain ⟨WK, hWK⟩ : ∃ W, W = w.alloc (.cells (tkR L.c s pid x i) 68) := ⟨_, rfl⟩
  have hbK : Below w.heap.size w WK := by rw [hWK]; exact below_alloc _ _
  have hsK : WK.heap.size = w.heap.size + 1 := by rw [hWK]; simp
  have hxK : WK.heap[w.heap.size]? = some (.cells (tkR L.c s pid x i) 68) := by rw [hWK]; exact heap_alloc_new _ _
  obtain ⟨WZ, hWZ⟩ : ∃ W, W = WK.alloc (.cells (ouR Ou.zero) 65) := ⟨_, rfl⟩
  have hbZ : Below WK.heap.size WK WZ := by rw [hWZ]; exact below_alloc _ _
  have hsZ : WZ.heap.size = w.heap.size + 1 + 1 := by rw [hWZ]; simp [hsK]
  have hxZ : WZ.heap[w.heap.size + 1]? = some (.cells (ouR Ou.zero) 65) := by rw [hWZ, ← hsK]; exact heap_alloc_new _ _
  have hyK : WZ.heap[w.heap.size]? = some (.cells (tkR L.c s pid x i) 68) := ((hbZ.block _ (lt_of_heap (hxK))).trans (hxK))
  have hyZ := hxZ
  have hB : Below w.heap.size w WZ := ((hbK).trans (hbZ.mono (hbK).size))
  have HA0 : Hid (UnAt WZ L U) := h.below hB
  have HB0 : Hid (Below w.heap.size w WZ) := hB
  have hz : (#[.int .i64 0, .int .i64 0, .string ⟨#[]⟩, .int .i64 0, .int .i64 0, .string ⟨#[]⟩, .int .i64 0, .bool false] : Array Value) = ouR Ou.zero := rfl
  obtain ⟨kb, hKb⟩ : ∃ k, k = w.heap.size := ⟨_, rfl⟩
  rw [← hKb] at hyK
  have HK : Hid (WZ.heap[kb]? = some (.cells (tkR L.c s pid x i) 68)) := hyK
  have HKb : Hid (kb = w.heap.size) := hKb
  have HWK : Hid _ := hWK
  obtain ⟨zb, hZb⟩ : ∃ k, k = w.heap.size + 1 := ⟨_, rfl⟩
  rw [← hZb] at hyZ
  have HZ : Hid (WZ.heap[zb]? = some (.cells (ouR Ou.zero) 65)) := hyZ
  have HZb : Hid (zb = w.heap.size + 1) := hZb
  have HWZ : Hid _ := hWZ
  have HU : Hid (UnAt w L U) := h
  clear hWK hbK hsK hxK hKb hWZ hbZ hsZ hxZ hZb hB h
  obtain ⟨cc, hcc⟩ : ∃ c, c = L.c := ⟨_, rfl⟩
  rw [← hcc] at HK hyK HWK hC ⊢
  have hk3 : WZ.cell? ⟨kb, 3, none⟩ = some (.int .i64 2) := by rw [cell_of_heap HK.out, ← hx]; rfl
  have hC := hC WZ HA0.out
  obtain ⟨R, hR⟩ : ∃ R, R = ouR o := ⟨_, rfl⟩
  have HRs : Hid (R.size = 8) := by rw [hR]; exact ouR_size _
  have HOne : Hid (R.all (·.oneCell') = true) := by rw [hR]; exact ouR_one _
  rw [← hR]
  rw [← hR] at hC
  have HC : Hid (Calls Tryz.prog 45 #[.agg (tkR cc s pid x i)] WZ fun e w' => e = .returned (.agg R) ∧ UnAt w' L U' ∧ UT L.lo WZ w') := hC
  clear hR hyK hyZ hcc hx hC
  go_enter Tryz.func21, Tryz.ntmps21
  go_upto_region 1 with fail
  rw [← HWK.out, ← HWZ.out]
  rw [← HZb.out]
  rw [← HKb.out]
  go_upto_region 5 with fail
  have hC : Calls Tryz.prog 45 #[.agg (tkR cc s pid x i)] WZ fun e w' => e = .returned (.agg R) ∧ UnAt w' L U' ∧ UT L.lo WZ w' := HC.out
  clear HC hk3
  go_wp2_with (first
    | (refine wpList_load_row rfl 68 _ rfl kb rfl 68 (tkR cc s pid x i) (0, 0) _ HK.out Tryz.underlying68 rfl tkSize ?_)
    | fail)
  refine hC.mono ?_
  rintro e w1 ⟨rfl, ha1, hu1⟩
  have HA1 : Hid (UnAt w1 L U') := ha1
  have HU1 : Hid (UT L.lo w w1) := (UT.of_below HB0.out).trans hu1
  have HZ1 : Hid (w1.heap[zb]? = some (.cells (ouR Ou.zero) 65)) := hu1.other HZ.out rfl
  clear hC ha1 hu1
  have HM : Hid (w1.heap[zb]? = some (.cells (ouR Ou.zero) 65)) := HZ1.out
  have HQ : Hid ((w1.setRow zb R).heap[zb]? = some (.cells R 65)) := setRow_heap _ zb _ _ _ _ HM.out
  have HF : Hid (UnAt (w1.setRow zb R) L U' ∧ UT L.lo w (w1.setRow zb R)) := ⟨HA1.out.row HM.out rfl (by decide) (by decide), HU1.out.far (by rw [HZb.out]; omega)⟩
  go_wp2_with (first
    | (refine wpList_store_row rfl 65 _ _ rfl zb R rfl rfl 65 (ouR Ou.zero) HM.out (by rw [HRs.out]; exact ouSize) (by rw [HRs.out]; rfl) HOne.out ?_)
    | go_in)
  exact bodyPost_ret (v := .agg R) (results_cell_row rfl _ _ zb 65 R (0, 0) _ rfl HQ.out Tryz.underlying65 rfl (by rw [HRs.out]; exact ouSize)) rfl ⟨rfl, HF.out⟩
end Go.Proofs.YtnlhedpfhgoncabGreatDoor
namespace Go.Proofs.YtnlhedpfhgoncabGreatDoor
open Go.RowKit
theorem isPlace_def (w : World) : Calls Tryz.prog 23 #[.int .u64 18446744073709551615] w fun e w' => e = .returned (.bool false) ∧ w' = w := by
  go_enter Tryz.func23, Tryz.ntmps23
  go_wp2
  go_ret
  exact ⟨rfl, rfl⟩
def siU (U : Un) (pid : Int) : Un := ⟨U.F, U.P, Sg.nxS U.S pid, U.T⟩
theorem usig_at {w : World} {L : Pl} {U : Un} (h : UnAt w L U) (pid pc : Int) (v : Value) (hd : Sg.nxB U.S pid = true → Sg.nxH U.S pid = 18446744073709551615) :
    Calls Tryz.prog 8 #[ptr L.c, .int .i64 pid, .agg #[.int .i64 pc, v]] w fun e w' => e = .returned (.tuple #[.int .i64 (Sg.nxI U.S pid : Nat), .int .u64 (Sg.nxH U.S pid), .bool (Sg.nxB U.S pid)]) ∧ UnAt w' L (siU U pid) ∧ UT L.lo w w' := by
  obtain ⟨W, hW⟩ : ∃ W, W = w.alloc (.cells #[.int .i64 pc, v] 48) := ⟨_, rfl⟩
  have hb : Below w.heap.size w W := by rw [hW]; exact below_alloc _ _
  have HA : Hid (UnAt W L U) := h.below hb
  have HB : Hid (Below w.heap.size w W) := hb
  have HW : Hid (W = w.alloc (.cells #[.int .i64 pc, v] 48)) := hW
  have hT := Sg.snext_at L.s U.S pid W HA.out.sigs HA.out.ok.sok
  have hP := isPlace_def
  have c2 := HA.out.cell2
  have hne := core_eq L.c
  obtain ⟨cc, hcc⟩ : ∃ c, c = L.c := ⟨_, rfl⟩
  obtain ⟨ss, hss⟩ : ∃ c, c = L.s := ⟨_, rfl⟩
  rw [← hcc, ← hss] at c2
  rw [← hss] at hT
  rw [← hcc] at hne ⊢
  have Hs : Hid (ss = L.s) := hss
  clear hW hb hcc hss h
  have HF : Hid (∀ w', Sg.SgAt w' ss (Sg.nxS U.S pid) → Upd ss W w' → UnAt w' L (siU U pid) ∧ UT L.lo w w') := fun w' hp hu => by
    obtain ⟨ha, hut⟩ := HA.out.putS (by rw [← Hs.out]; exact hu) (by rw [← Hs.out]; exact hp) (Sg.ok_nx HA.out.ok.sok pid)
    exact ⟨ha, (UT.of_below HB.out).trans hut⟩
  generalize Sg.nxI U.S pid = ni at *
  generalize Sg.nxH U.S pid = nh at *
  generalize hnb : Sg.nxB U.S pid = nb at *
  clear hnb
  cases nb with
  | true =>
    obtain rfl := hd rfl
    clear hd
    go_enter Tryz.func8, Tryz.ntmps8
    go_upto_region 1 with fail
    rw [← HW.out]
    go_wp2_with fail
    refine hT.mono ?_
    rintro e w1 ⟨rfl, hp, hu⟩
    have HE : Hid (UnAt w1 L (siU U pid) ∧ UT L.lo w w1) := HF.out w1 hp hu
    clear hT hp hu c2 HF
    go_wp2_with fail
    refine (hP _).mono ?_
    rintro e w2 ⟨rfl, hw⟩
    rw [hw]
    clear hw w2 hP
    go_wp2
    go_ret3
    exact ⟨rfl, HE.out.1, HE.out.2⟩
  | false =>
    clear hd hP
    go_enter Tryz.func8, Tryz.ntmps8
    go_upto_region 1 with fail
    rw [← HW.out]
    go_wp2_with fail
    refine hT.mono ?_
    rintro e w1 ⟨rfl, hp, hu⟩
    have HE : Hid (UnAt w1 L (siU U pid) ∧ UT L.lo w w1) := HF.out w1 hp hu
    clear hT hp hu c2 HF
    go_wp2
    go_ret3
    exact ⟨rfl, HE.out.1, HE.out.2⟩
end Go.Proofs.YtnlhedpfhgoncabGreatDoor
