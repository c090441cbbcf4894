/- Package unix: a pipe is read. -/
/- Package unix: a pipe is made. -/
import Derived.Test.YtnlhedpfhgoncabGreatDoorUxATUxT
import Derived.Deep.DeepCutAuto
set_option linter.all false
namespace Go.Proofs.YtnlhedpfhgoncabGreatDoor
open Go.RowKit
theorem beq_nil_of {l : List UInt8} (h : l ≠ []) : ((⟨l.toArray⟩ : ByteArray) == ⟨#[]⟩) = false := by
  cases l with
  | nil => exact absurd rfl h
  | cons a t => rfl
/-- What a read of a pipe answers. -/
def rpO (U : Un) (id n : Int) : Ou := if Pp.taT U.P id n = [] ∧ opB U.F 4 id = true then Ou.wait else Ou.got (Pp.taT U.P id n)
def rpU (U : Un) (id n : Int) : Un := ⟨U.F, Pp.taS U.P id n, U.S, U.T⟩
set_option maxHeartbeats 2000000 in
set_option maxRecDepth 100000 in
theorem readPipe_at {w : World} {L : Pl} {U : Un} (h : UnAt w L U) (s : Value) (pid : Int) (x : Cl) (i : List UInt8) (id n : Int) (hn : 0 < n) :
    Calls Tryz.prog 115 #[.agg (tkR L.c s pid x i), .agg #[.int .i64 id], .int .i64 n] w (Left L (rpO U id n) (rpU U id n) w) := by
  unfold Left
  have hn0 : decide (n = 0) = false := decide_eq_false (by omega)
  have hn1 : (n == 0) = false := by simp; omega
  obtain ⟨WK, hWK⟩ : ∃ W, W = w.alloc (.cells (tkR L.c s pid x i) 68) := ⟨_, rfl⟩
  have hbK : Below w.heap.size w WK := by rw [hWK]; exact below_alloc _ _
  have hsK : WK.heap.size = w.heap.size + 1 := by rw [hWK]; simp
  have hxK : WK.heap[w.heap.size]? = some (.cells (tkR L.c s pid x i) 68) := by rw [hWK]; exact heap_alloc_new _ _
  obtain ⟨WX, hWX⟩ : ∃ W, W = WK.alloc (.cells #[.int .i64 id] 220) := ⟨_, rfl⟩
  have hbX : Below WK.heap.size WK WX := by rw [hWX]; exact below_alloc _ _
  have hsX : WX.heap.size = w.heap.size + 1 + 1 := by rw [hWX]; simp [hsK]
  have hxX : WX.heap[w.heap.size + 1]? = some (.cells #[.int .i64 id] 220) := by rw [hWX, ← hsK]; exact heap_alloc_new _ _
  obtain ⟨WZ, hWZ⟩ : ∃ W, W = WX.alloc (.cells (ouR Ou.zero) 65) := ⟨_, rfl⟩
  have hbZ : Below WX.heap.size WX WZ := by rw [hWZ]; exact below_alloc _ _
  have hsZ : WZ.heap.size = w.heap.size + 1 + 1 + 1 := by rw [hWZ]; simp [hsX]
  have hxZ : WZ.heap[w.heap.size + 1 + 1]? = some (.cells (ouR Ou.zero) 65) := by rw [hWZ, ← hsX]; exact heap_alloc_new _ _
  have hyK : WZ.heap[w.heap.size]? = some (.cells (tkR L.c s pid x i) 68) := ((hbZ.block _ (lt_of_heap (((hbX.block _ (lt_of_heap (hxK))).trans (hxK))))).trans (((hbX.block _ (lt_of_heap (hxK))).trans (hxK))))
  have hyX : WZ.heap[w.heap.size + 1]? = some (.cells #[.int .i64 id] 220) := ((hbZ.block _ (lt_of_heap (hxX))).trans (hxX))
  have hyZ := hxZ
  have hB : Below w.heap.size w WZ := ((((hbK).trans (hbX.mono (hbK).size))).trans (hbZ.mono (((hbK).trans (hbX.mono (hbK).size))).size))
  have HA0 : Hid (UnAt WZ L U) := h.below hB
  have HB0 : Hid (Below w.heap.size w WZ) := hB
  have hz : (#[.int .i64 0, .int .i64 0, .string ⟨#[]⟩, .int .i64 0, .int .i64 0, .string ⟨#[]⟩, .int .i64 0, .bool false] : Array Value) = ouR Ou.zero := rfl
  obtain ⟨kb, hKb⟩ : ∃ k, k = w.heap.size := ⟨_, rfl⟩
  rw [← hKb] at hyK
  have HK : Hid (WZ.heap[kb]? = some (.cells (tkR L.c s pid x i) 68)) := hyK
  have HKb : Hid (kb = w.heap.size) := hKb
  have HWK : Hid _ := hWK
  obtain ⟨xb, hXb⟩ : ∃ k, k = w.heap.size + 1 := ⟨_, rfl⟩
  rw [← hXb] at hyX
  have HX : Hid (WZ.heap[xb]? = some (.cells #[.int .i64 id] 220)) := hyX
  have HXb : Hid (xb = w.heap.size + 1) := hXb
  have HWX : Hid _ := hWX
  obtain ⟨zb, hZb⟩ : ∃ k, k = w.heap.size + 1 + 1 := ⟨_, rfl⟩
  rw [← hZb] at hyZ
  have HZ : Hid (WZ.heap[zb]? = some (.cells (ouR Ou.zero) 65)) := hyZ
  have HZb : Hid (zb = w.heap.size + 1 + 1) := hZb
  have HWZ : Hid _ := hWZ
  have HU : Hid (UnAt w L U) := h
  clear hWK hbK hsK hxK hKb hWX hbX hsX hxX hXb hWZ hbZ hsZ hxZ hZb hB h
  obtain ⟨cc, hcc⟩ : ∃ c, c = L.c := ⟨_, rfl⟩
  obtain ⟨pp, hpp⟩ : ∃ c, c = L.p := ⟨_, rfl⟩
  rw [← hcc] at HK hyK HWK ⊢
  have Hcc : Hid (cc = L.c) := hcc
  have hs0 : (fun w' : World => w'.cell? ⟨kb, 0, none⟩ = some (ptr cc) ∧ w'.cell? ⟨cc, 1, none⟩ = some (ptr pp) ∧ w'.cell? ⟨xb, 0, none⟩ = some (.int .i64 id)) WZ := by
    refine ⟨by rw [cell_of_heap HK.out]; rfl, ?_, by rw [cell_of_heap HX.out]; rfl⟩
    rw [hcc, hpp]
    exact HA0.out.cell1
  have hT := fun q => Pp.take_at L.p U.P id n (WZ.drewN q) (HA0.out.below (Di.drewN_below (w := WZ) ⟨q, rfl⟩)).pipes
  rw [← hpp] at hT
  have Hpp : Hid (pp = L.p) := hpp
  obtain ⟨T, hT0⟩ : ∃ T, T = Pp.taT U.P id n := ⟨_, rfl⟩
  rw [← hT0] at hT
  obtain ⟨o, ho⟩ : ∃ o, o = rpO U id n := ⟨_, rfl⟩
  rw [← ho]
  have HO : Hid (o = if T = [] ∧ opB U.F 4 id = true then Ou.wait else Ou.got T) := by rw [ho, hT0]; exact rfl
  obtain ⟨U', hU'⟩ : ∃ V, V = rpU U id n := ⟨_, rfl⟩
  rw [← hU']
  have HU' : Hid (U' = rpU U id n) := hU'
  have HT0 : Hid (T = Pp.taT U.P id n) := hT0
  obtain ⟨R, hR⟩ : ∃ R, R = ouR o := ⟨_, rfl⟩
  have HRs : Hid (R.size = 8) := by rw [hR]; exact ouR_size _
  have HOne : Hid (R.all (·.oneCell') = true) := by rw [hR]; exact ouR_one _
  rw [← hR]
  have HRq : Hid (R = ouR o) := hR
  clear hyK hyX hyZ hcc hpp hT0 ho hU' hn hR
  go_enter Tryz.func115, Tryz.ntmps115
  go_wp2_with fail
  rw [← HWK.out, ← HWX.out, ← HWZ.out]
  rw [← HZb.out]
  rw [← HXb.out]
  rw [← HKb.out]
  refine wp_region_held_drew (S := fun w' => w'.cell? ⟨kb, 0, none⟩ = some (ptr cc) ∧ w'.cell? ⟨cc, 1, none⟩ = some (ptr pp) ∧ w'.cell? ⟨xb, 0, none⟩ = some (.int .i64 id)) (by kernel_rfl) hs0 (fun hHeld => ?_)
  refine wpAnyH_take (i := 0) (v := ?_) rfl (by kernel_rfl) (by kernel_rfl) (by kernel_rfl) (fun _ _ _ h => h) (Or.inl ⟨by kernel_rfl, ?_⟩) (by assumption) ?_
  rotate_left
  · (intro w hSw; (try dsimp only at hSw); go_simp) <;> with_reducible rfl
  (try simp only [Act.put, List.getElem_toArray, List.getElem_cons_zero, List.setIfInBounds_toArray, List.set_cons_zero, List.set_cons_succ])
  refine wpAnyH_take (i := 1) (v := ?_) rfl (by kernel_rfl) (by kernel_rfl) (by kernel_rfl) (fun _ _ _ h => h) (Or.inl ⟨by kernel_rfl, ?_⟩) (by assumption) ?_
  rotate_left
  · (intro w hSw; (try dsimp only at hSw); go_simp) <;> with_reducible rfl
  (try simp only [Act.put, List.getElem_toArray, List.getElem_cons_zero, List.getElem_cons_succ, List.setIfInBounds_toArray, List.set_cons_zero, List.set_cons_succ])
  refine wpAnyH_take (i := 2) (v := ?_) rfl (by kernel_rfl) (by kernel_rfl) (by kernel_rfl) (fun _ _ _ h => h) (Or.inl ⟨by kernel_rfl, ?_⟩) (by assumption) ?_
  rotate_left
  · (intro w hSw; (try dsimp only at hSw); go_simp) <;> with_reducible rfl
  (try simp only [Act.put, List.getElem_toArray, List.getElem_cons_zero, List.getElem_cons_succ, List.setIfInBounds_toArray, List.set_cons_zero, List.set_cons_succ])
  refine wpAnyH_take (i := 3) (v := ?_) rfl (by kernel_rfl) (by kernel_rfl) (by kernel_rfl) (fun _ _ _ h => h) (Or.inl ⟨by kernel_rfl, ?_⟩) (by assumption) ?_
  rotate_left
  · (intro w hSw; (try dsimp only at hSw); go_simp) <;> with_reducible rfl
  (try simp only [Act.put, List.getElem_toArray, List.getElem_cons_zero, List.getElem_cons_succ, List.setIfInBounds_toArray, List.set_cons_zero, List.set_cons_succ])
  refine wpAnyH_take (i := 4) (v := ?_) rfl (by kernel_rfl) (by kernel_rfl) (by kernel_rfl) (fun _ _ _ h => h) (Or.inl ⟨by kernel_rfl, ?_⟩) (by assumption) ?_
  rotate_left
  · (intro w hSw; (try dsimp only at hSw); go_simp) <;> with_reducible rfl
  (try simp only [Act.put, List.getElem_toArray, List.getElem_cons_zero, List.getElem_cons_succ, List.setIfInBounds_toArray, List.set_cons_zero, List.set_cons_succ])
  refine wpAnyH_take (i := 5) (v := ?_) rfl (by kernel_rfl) (by kernel_rfl) (by kernel_rfl) (fun _ _ _ h => h) (Or.inl ⟨by kernel_rfl, ?_⟩) (by assumption) ?_
  rotate_left
  · (intro w hSw; (try dsimp only at hSw); go_simp) <;> with_reducible rfl
  (try simp only [Act.put, List.getElem_toArray, List.getElem_cons_zero, List.getElem_cons_succ, List.setIfInBounds_toArray, List.set_cons_zero, List.set_cons_succ])
  refine wpAnyH_take (i := 6) (v := ?_) rfl (by kernel_rfl) (by kernel_rfl) (by kernel_rfl) (fun _ _ _ h => h) (Or.inl ⟨by kernel_rfl, ?_⟩) (by assumption) ?_
  rotate_left
  · (intro w hSw; (try dsimp only at hSw); go_simp) <;> with_reducible rfl
  (try simp only [Act.put, List.getElem_toArray, List.getElem_cons_zero, List.getElem_cons_succ, List.setIfInBounds_toArray, List.set_cons_zero, List.set_cons_succ])
  refine wpAnyH_take (i := 7) (v := ?_) rfl (by kernel_rfl) (by kernel_rfl) (by kernel_rfl) (fun _ _ _ h => h) (Or.inl ⟨by kernel_rfl, ?_⟩) (by assumption) ?_
  rotate_left
  · (intro w hSw; (try dsimp only at hSw); go_simp) <;> with_reducible rfl
  (try simp only [Act.put, List.getElem_toArray, List.getElem_cons_zero, List.getElem_cons_succ, List.setIfInBounds_toArray, List.set_cons_zero, List.set_cons_succ])
  refine wpAnyH_ready (rs := [8]) (by kernel_rfl) (by simp) ?_
  refine AllReadyH.cons rfl (fun K hK => ?_) AllReadyH.nil
  go_simp
  refine (hT 1).mono ?_
  rintro e w2 ⟨rfl, hp2, hu2⟩
  obtain ⟨h2a, h2u⟩ := (HA0.out.below (Di.drewN_below (w := WZ) ⟨1, rfl⟩)).putP (by rw [← Hpp.out]; exact hu2) (by rw [← Hpp.out]; exact hp2)
  have HA2 : Hid (UnAt w2 L U') := by rw [HU'.out]; exact h2a
  have HU2 : Hid (UT L.lo w w2) := ((UT.of_below HB0.out).trans (UT.of_below (Di.drewN_below (w := WZ) ⟨1, rfl⟩))).trans h2u
  have hk2 := h2u.other HK.out rfl
  have hx2 := h2u.other HX.out rfl
  have HZ2 : Hid (w2.heap[zb]? = some (.cells (ouR Ou.zero) 65)) := h2u.other HZ.out rfl
  have hs2 : (fun w' : World => w'.cell? ⟨kb, 0, none⟩ = some (ptr cc) ∧ w'.cell? ⟨cc, 1, none⟩ = some (ptr pp) ∧ w'.cell? ⟨xb, 0, none⟩ = some (.int .i64 id)) w2 := by
    refine ⟨by rw [cell_of_heap hk2]; rfl, ?_, by rw [cell_of_heap hx2]; rfl⟩
    rw [Hcc.out, Hpp.out]
    exact HA2.out.cell1
  have hO := isOpen_at HA2.out 4 id
  have hob : opB U'.F 4 id = opB U.F 4 id := by rw [HU'.out]; rfl
  rw [← Hcc.out, hob] at hO
  have hc1 := hs2.1
  have hc3 := hs2.2.2
  clear hp2 hu2 h2a h2u hk2 hx2 hs0 hob hT
  refine hK.out _ _ hs2 (fun hHeld => ?_)
  clear hK K
  (try simp only [Act.put, List.getElem_toArray, List.getElem_cons_zero, List.getElem_cons_succ, List.setIfInBounds_toArray, List.set_cons_zero, List.set_cons_succ])
  refine wpAnyH_take (i := 9) (v := ?_) rfl (by kernel_rfl) (by kernel_rfl) (by kernel_rfl) (fun _ _ _ h => h) (Or.inl ⟨by kernel_rfl, ?_⟩) (by assumption) ?_
  rotate_left
  · (intro w hSw; (try dsimp only at hSw); go_simp) <;> with_reducible rfl
  (try simp only [Act.put, List.getElem_toArray, List.getElem_cons_zero, List.getElem_cons_succ, List.setIfInBounds_toArray, List.set_cons_zero, List.set_cons_succ])
  refine wpAnyH_done (by kernel_rfl) ?_ _
  clear hHeld hs2
  (try dsimp only at hc1 hc3)
  by_cases ht : T = []
  · subst ht
    generalize opB U.F 4 id = ob at *
    cases ob with
    | true =>
      have hoo : o = Ou.wait := by rw [HO.out]; rfl
      have hN := mustWait_at
      have e1 : ouR Ou.wait = R := by rw [HRq.out, hoo]
      rw [e1] at hN
      clear e1 hoo HO
      go_wp2_with fail
      refine hO.mono ?_
      rintro e w3 ⟨rfl, hb3⟩
      have HB3 : Hid (Below w2.heap.size w2 w3) := hb3
      clear hO hb3
      go_wp2_with fail
      refine (hN _).mono ?_
      rintro e w4 ⟨rfl, hb4⟩
      have HB4 : Hid (Below w2.heap.size w2 w4) := HB3.out.trans (hb4.mono HB3.out.size)
      have HA1 : Hid (UnAt w4 L U') := HA2.out.below HB4.out
      have HU1 : Hid (UT L.lo w w4) := HU2.out.trans (UT.of_below HB4.out)
      clear hN hb4
      have HM : Hid (w4.heap[zb]? = some (.cells (ouR Ou.zero) 65)) := (HB4.out.block _ (lt_of_heap HZ2.out)).trans HZ2.out
      have HQ : Hid ((w4.setRow zb R).heap[zb]? = some (.cells R 65)) := setRow_heap _ zb _ _ _ _ HM.out
      have HF : Hid (UnAt (w4.setRow zb R) L U' ∧ UT L.lo w (w4.setRow zb R)) := ⟨HA1.out.row HM.out rfl (by decide) (by decide), HU1.out.far (by rw [HZb.out]; omega)⟩
      go_wp2_with (first
        | (refine wpList_store_row rfl 65 _ _ rfl zb R rfl rfl 65 (ouR Ou.zero) HM.out (by rw [HRs.out]; exact ouSize) (by rw [HRs.out]; rfl) HOne.out ?_)
        | go_in)
      exact bodyPost_ret (v := .agg R) (results_cell_row rfl _ _ zb 65 R (0, 0) _ rfl HQ.out Tryz.underlying65 rfl (by rw [HRs.out]; exact ouSize)) rfl ⟨rfl, HF.out⟩
    | false =>
      have hoo : o = Ou.got [] := by rw [HO.out]; rfl
      have hN := got_at []
      have e1 : ouR (Ou.got []) = R := by rw [HRq.out, hoo]
      rw [e1] at hN
      clear e1 hoo HO
      go_wp2_with fail
      refine hO.mono ?_
      rintro e w3 ⟨rfl, hb3⟩
      have HB3 : Hid (Below w2.heap.size w2 w3) := hb3
      clear hO hb3
      go_wp2_with fail
      refine (hN _).mono ?_
      rintro e w4 ⟨rfl, hb4⟩
      have HB4 : Hid (Below w2.heap.size w2 w4) := HB3.out.trans (hb4.mono HB3.out.size)
      have HA1 : Hid (UnAt w4 L U') := HA2.out.below HB4.out
      have HU1 : Hid (UT L.lo w w4) := HU2.out.trans (UT.of_below HB4.out)
      clear hN hb4
      have HM : Hid (w4.heap[zb]? = some (.cells (ouR Ou.zero) 65)) := (HB4.out.block _ (lt_of_heap HZ2.out)).trans HZ2.out
      have HQ : Hid ((w4.setRow zb R).heap[zb]? = some (.cells R 65)) := setRow_heap _ zb _ _ _ _ HM.out
      have HF : Hid (UnAt (w4.setRow zb R) L U' ∧ UT L.lo w (w4.setRow zb R)) := ⟨HA1.out.row HM.out rfl (by decide) (by decide), HU1.out.far (by rw [HZb.out]; omega)⟩
      go_wp2_with (first
        | (refine wpList_store_row rfl 65 _ _ rfl zb R rfl rfl 65 (ouR Ou.zero) HM.out (by rw [HRs.out]; exact ouSize) (by rw [HRs.out]; rfl) HOne.out ?_)
        | go_in)
      exact bodyPost_ret (v := .agg R) (results_cell_row rfl _ _ zb 65 R (0, 0) _ rfl HQ.out Tryz.underlying65 rfl (by rw [HRs.out]; exact ouSize)) rfl ⟨rfl, HF.out⟩
  · have hoo : o = Ou.got T := by rw [HO.out, if_neg (fun q => ht q.1)]
    have hN := got_at T
    have hne := beq_nil_of ht
    have e1 : ouR (Ou.got T) = R := by rw [HRq.out, hoo]
    rw [e1] at hN
    clear e1 hoo HO hO
    go_wp2_with fail
    refine (hN _).mono ?_
    rintro e w4 ⟨rfl, hb4⟩
    have HB4 : Hid (Below w2.heap.size w2 w4) := hb4
    have HA1 : Hid (UnAt w4 L U') := HA2.out.below HB4.out
    have HU1 : Hid (UT L.lo w w4) := HU2.out.trans (UT.of_below HB4.out)
    clear hN hb4
    have HM : Hid (w4.heap[zb]? = some (.cells (ouR Ou.zero) 65)) := (HB4.out.block _ (lt_of_heap HZ2.out)).trans HZ2.out
    have HQ : Hid ((w4.setRow zb R).heap[zb]? = some (.cells R 65)) := setRow_heap _ zb _ _ _ _ HM.out
    have HF : Hid (UnAt (w4.setRow zb R) L U' ∧ UT L.lo w (w4.setRow zb R)) := ⟨HA1.out.row HM.out rfl (by decide) (by decide), HU1.out.far (by rw [HZb.out]; omega)⟩
    go_wp2_with (first
      | (refine wpList_store_row rfl 65 _ _ rfl zb R rfl rfl 65 (ouR Ou.zero) HM.out (by rw [HRs.out]; exact ouSize) (by rw [HRs.out]; rfl) HOne.out ?_)
      | go_in)
    exact bodyPost_ret (v := .agg R) (results_cell_row rfl _ _ zb 65 R (0, 0) _ rfl HQ.out Tryz.underlying65 rfl (by rw [HRs.out]; exact ouSize)) rfl ⟨rfl, HF.out⟩
end Go.Proofs.YtnlhedpfhgoncabGreatDoor
namespace Go.Proofs.YtnlhedpfhgoncabGreatDoor
open Go.RowKit
/-- What making a pipe answers. -/
def piO (U : Un) (pid : Int) : Ou := ⟨0, 0, [], Fd.openA U.F pid, Fd.openA (Fd.openT U.F pid ⟨3, Pp.mkI U.P, 0, false, 0⟩) pid, [], 0, false⟩
def piU (U : Un) (pid : Int) : Un := ⟨Fd.openT (Fd.openT U.F pid ⟨3, Pp.mkI U.P, 0, false, 0⟩) pid ⟨4, Pp.mkI U.P, 0, false, 0⟩, Pp.mkS U.P, U.S, U.T⟩
theorem mkI_fit (P : Pp.PS) : 0 ≤ Pp.mkI P ∧ Pp.mkI P ≤ 15 := by
  unfold Pp.mkI
  split <;> omega
set_option maxHeartbeats 2000000 in
set_option maxRecDepth 100000 in
theorem pipe_at {w : World} {L : Pl} {U : Un} (h : UnAt w L U) (s : Value) (pid : Int) (x : Cl) (i : List UInt8) (hco : coB U.F pid 2 = true) (hmk : Pp.mkE U.P = 0) :
    Calls Tryz.prog 52 #[.agg (tkR L.c s pid x i)] w (Left L (piO U pid) (piU U pid) w) := by
  unfold Left
  have HFt : Hid (∀ k : Int, 1 ≤ k → k ≤ 4 → Fd.Fit ⟨k, Pp.mkI U.P, 0, false, 0⟩) := fun k h1 h2 => by
    have := mkI_fit U.P
    exact ⟨h1, h2, by show 0 ≤ Pp.mkI U.P; omega, by show Pp.mkI U.P ≤ 1048576; omega, by show (0 : Int) ≤ 0; omega, by show (0 : Int) ≤ 1048576; omega⟩
  obtain ⟨WK, hWK⟩ : ∃ W, W = w.alloc (.cells (tkR L.c s pid x i) 68) := ⟨_, rfl⟩
  have hbK : Below w.heap.size w WK := by rw [hWK]; exact below_alloc _ _
  have hsK : WK.heap.size = w.heap.size + 1 := by rw [hWK]; simp
  have hxK : WK.heap[w.heap.size]? = some (.cells (tkR L.c s pid x i) 68) := by rw [hWK]; exact heap_alloc_new _ _
  obtain ⟨WZ, hWZ⟩ : ∃ W, W = WK.alloc (.cells (ouR Ou.zero) 65) := ⟨_, rfl⟩
  have hbZ : Below WK.heap.size WK WZ := by rw [hWZ]; exact below_alloc _ _
  have hsZ : WZ.heap.size = w.heap.size + 1 + 1 := by rw [hWZ]; simp [hsK]
  have hxZ : WZ.heap[w.heap.size + 1]? = some (.cells (ouR Ou.zero) 65) := by rw [hWZ, ← hsK]; exact heap_alloc_new _ _
  have hyK : WZ.heap[w.heap.size]? = some (.cells (tkR L.c s pid x i) 68) := ((hbZ.block _ (lt_of_heap (hxK))).trans (hxK))
  have hyZ := hxZ
  have hB : Below w.heap.size w WZ := ((hbK).trans (hbZ.mono (hbK).size))
  have HA0 : Hid (UnAt WZ L U) := h.below hB
  have HB0 : Hid (Below w.heap.size w WZ) := hB
  have hz : (#[.int .i64 0, .int .i64 0, .string ⟨#[]⟩, .int .i64 0, .int .i64 0, .string ⟨#[]⟩, .int .i64 0, .bool false] : Array Value) = ouR Ou.zero := rfl
  obtain ⟨kb, hKb⟩ : ∃ k, k = w.heap.size := ⟨_, rfl⟩
  rw [← hKb] at hyK
  have HK : Hid (WZ.heap[kb]? = some (.cells (tkR L.c s pid x i) 68)) := hyK
  have HKb : Hid (kb = w.heap.size) := hKb
  have HWK : Hid _ := hWK
  obtain ⟨zb, hZb⟩ : ∃ k, k = w.heap.size + 1 := ⟨_, rfl⟩
  rw [← hZb] at hyZ
  have HZ : Hid (WZ.heap[zb]? = some (.cells (ouR Ou.zero) 65)) := hyZ
  have HZb : Hid (zb = w.heap.size + 1) := hZb
  have HWZ : Hid _ := hWZ
  have HU : Hid (UnAt w L U) := h
  clear hWK hbK hsK hxK hKb hWZ hbZ hsZ hxZ hZb hB h
  have hC := canOpen_at HA0.out pid 2 (by omega) (by omega)
  rw [hco] at hC
  obtain ⟨cc, hcc⟩ : ∃ c, c = L.c := ⟨_, rfl⟩
  obtain ⟨pp, hpp⟩ : ∃ c, c = L.p := ⟨_, rfl⟩
  obtain ⟨ff, hff⟩ : ∃ c, c = L.f := ⟨_, rfl⟩
  rw [← hcc] at HK hyK HWK hC ⊢
  have Hcc : Hid (cc = L.c) := hcc
  have Hpp : Hid (pp = L.p) := hpp
  have Hff : Hid (ff = L.f) := hff
  have hk0 : WZ.cell? ⟨kb, 0, none⟩ = some (ptr cc) := by rw [cell_of_heap HK.out]; rfl
  have hk2 : WZ.cell? ⟨kb, 2, none⟩ = some (.int .i64 pid) := by rw [cell_of_heap HK.out]; rfl
  obtain ⟨U', hU'⟩ : ∃ V, V = piU U pid := ⟨_, rfl⟩
  rw [← hU']
  have HU' : Hid (U' = piU U pid) := hU'
  clear hU'
  clear hyK hyZ hcc hpp hff hco
  go_enter Tryz.func52, Tryz.ntmps52
  go_wp2_with fail
  rw [← HWK.out, ← HWZ.out]
  rw [← HZb.out]
  rw [← HKb.out]
  refine hC.mono ?_
  rintro e w1 ⟨rfl, hb1⟩
  have HB1 : Hid (Below WZ.heap.size WZ w1) := hb1
  have HA1' : Hid (UnAt w1 L U) := HA0.out.below hb1
  have c0 : w1.cell? ⟨kb, 0, none⟩ = some (ptr cc) := (hb1.cell (cell_lt hk0)).trans hk0
  have c1 := HA1'.out.cell1
  rw [← Hcc.out, ← Hpp.out] at c1
  have hM := Pp.make_at L.p U.P w1 HA1'.out.pipes
  rw [← Hpp.out, hmk] at hM
  clear hC hb1 hk0 hk2 hmk
  go_wp2_with fail
  refine hM.mono ?_
  rintro e w2 ⟨rfl, hp2, hu2⟩
  obtain ⟨h2a, h2u⟩ := HA1'.out.putP (by rw [← Hpp.out]; exact hu2) (by rw [← Hpp.out]; exact hp2)
  have HA2 : Hid (UnAt w2 L ⟨U.F, Pp.mkS U.P, U.S, U.T⟩) := h2a
  have HU2 : Hid (UT L.lo w w2) := (UT.of_below (HB0.out.trans (HB1.out.mono HB0.out.size))).trans h2u
  have HK2 : Hid (w2.heap[kb]? = some (.cells (tkR cc s pid x i) 68)) := h2u.other ((HB1.out.block _ (lt_of_heap HK.out)).trans HK.out) rfl
  have HZ2 : Hid (w2.heap[zb]? = some (.cells (ouR Ou.zero) 65)) := h2u.other ((HB1.out.block _ (lt_of_heap HZ.out)).trans HZ.out) rfl
  clear hp2 hu2 h2a h2u hM c0 c1
  obtain ⟨mi, hmi⟩ : ∃ m, m = Pp.mkI U.P := ⟨_, rfl⟩
  go_wp2_with fail
  have hs2 : w2.cell? ⟨kb, 0, none⟩ = some (ptr cc) ∧ w2.cell? ⟨cc, 0, none⟩ = some (ptr ff) ∧ w2.cell? ⟨kb, 2, none⟩ = some (.int .i64 pid) := by
    have c0 := HA2.out.cell0
    rw [← Hcc.out, ← Hff.out] at c0
    exact ⟨by rw [cell_of_heap HK2.out]; rfl, c0, by rw [cell_of_heap HK2.out]; rfl⟩
  have hT := fun q => Fd.open_at L.f U.F pid ⟨3, Pp.mkI U.P, 0, false, 0⟩ (w2.drewN q) (HA2.out.below (Di.drewN_below (w := w2) ⟨q, rfl⟩)).fds
  rw [← Hff.out] at hT
  refine wp_region_held_drew (S := fun w' => w'.cell? ⟨kb, 0, none⟩ = some (ptr cc) ∧ w'.cell? ⟨cc, 0, none⟩ = some (ptr ff) ∧ w'.cell? ⟨kb, 2, none⟩ = some (.int .i64 pid)) (by kernel_rfl) hs2 (fun hHeld => ?_)
  refine wpAnyH_take (i := 0) (v := ?_) rfl (by kernel_rfl) (by kernel_rfl) (by kernel_rfl) (fun _ _ _ h => h) (Or.inl ⟨by kernel_rfl, ?_⟩) (by assumption) ?_
  rotate_left
  · (intro w hSw; (try dsimp only at hSw); go_simp) <;> with_reducible rfl
  (try simp only [Act.put, List.getElem_toArray, List.getElem_cons_zero, List.setIfInBounds_toArray, List.set_cons_zero, List.set_cons_succ])
  refine wpAnyH_take (i := 1) (v := ?_) rfl (by kernel_rfl) (by kernel_rfl) (by kernel_rfl) (fun _ _ _ h => h) (Or.inl ⟨by kernel_rfl, ?_⟩) (by assumption) ?_
  rotate_left
  · (intro w hSw; (try dsimp only at hSw); go_simp) <;> with_reducible rfl
  (try simp only [Act.put, List.getElem_toArray, List.getElem_cons_zero, List.getElem_cons_succ, List.setIfInBounds_toArray, List.set_cons_zero, List.set_cons_succ])
  refine wpAnyH_take (i := 2) (v := ?_) rfl (by kernel_rfl) (by kernel_rfl) (by kernel_rfl) (fun _ _ _ h => h) (Or.inl ⟨by kernel_rfl, ?_⟩) (by assumption) ?_
  rotate_left
  · (intro w hSw; (try dsimp only at hSw); go_simp) <;> with_reducible rfl
  (try simp only [Act.put, List.getElem_toArray, List.getElem_cons_zero, List.getElem_cons_succ, List.setIfInBounds_toArray, List.set_cons_zero, List.set_cons_succ])
  refine wpAnyH_take (i := 3) (v := ?_) rfl (by kernel_rfl) (by kernel_rfl) (by kernel_rfl) (fun _ _ _ h => h) (Or.inl ⟨by kernel_rfl, ?_⟩) (by assumption) ?_
  rotate_left
  · (intro w hSw; (try dsimp only at hSw); go_simp) <;> with_reducible rfl
  (try simp only [Act.put, List.getElem_toArray, List.getElem_cons_zero, List.getElem_cons_succ, List.setIfInBounds_toArray, List.set_cons_zero, List.set_cons_succ])
  refine wpAnyH_take (i := 4) (v := ?_) rfl (by kernel_rfl) (by kernel_rfl) (by kernel_rfl) (fun _ _ _ h => h) (Or.inl ⟨by kernel_rfl, ?_⟩) (by assumption) ?_
  rotate_left
  · (intro w hSw; (try dsimp only at hSw); go_simp) <;> with_reducible rfl
  (try simp only [Act.put, List.getElem_toArray, List.getElem_cons_zero, List.getElem_cons_succ, List.setIfInBounds_toArray, List.set_cons_zero, List.set_cons_succ])
  refine wpAnyH_take (i := 5) (v := ?_) rfl (by kernel_rfl) (by kernel_rfl) (by kernel_rfl) (fun _ _ _ h => h) (Or.inl ⟨by kernel_rfl, ?_⟩) (by assumption) ?_
  rotate_left
  · (intro w hSw; (try dsimp only at hSw); go_simp) <;> with_reducible rfl
  (try simp only [Act.put, List.getElem_toArray, List.getElem_cons_zero, List.getElem_cons_succ, List.setIfInBounds_toArray, List.set_cons_zero, List.set_cons_succ])
  refine wpAnyH_take (i := 6) (v := ?_) rfl (by kernel_rfl) (by kernel_rfl) (by kernel_rfl) (fun _ _ _ h => h) (Or.inl ⟨by kernel_rfl, ?_⟩) (by assumption) ?_
  rotate_left
  · (intro w hSw; (try dsimp only at hSw); go_simp) <;> with_reducible rfl
  (try simp only [Act.put, List.getElem_toArray, List.getElem_cons_zero, List.getElem_cons_succ, List.setIfInBounds_toArray, List.set_cons_zero, List.set_cons_succ])
  refine wpAnyH_take (i := 7) (v := ?_) rfl (by kernel_rfl) (by kernel_rfl) (by kernel_rfl) (fun _ _ _ h => h) (Or.inl ⟨by kernel_rfl, ?_⟩) (by assumption) ?_
  rotate_left
  · (intro w hSw; (try dsimp only at hSw); go_simp) <;> with_reducible rfl
  (try simp only [Act.put, List.getElem_toArray, List.getElem_cons_zero, List.getElem_cons_succ, List.setIfInBounds_toArray, List.set_cons_zero, List.set_cons_succ])
  refine wpAnyH_take (i := 8) (v := ?_) rfl (by kernel_rfl) (by kernel_rfl) (by kernel_rfl) (fun _ _ _ h => h) (Or.inl ⟨by kernel_rfl, ?_⟩) (by assumption) ?_
  rotate_left
  · (intro w hSw; (try dsimp only at hSw); go_simp) <;> with_reducible rfl
  (try simp only [Act.put, List.getElem_toArray, List.getElem_cons_zero, List.getElem_cons_succ, List.setIfInBounds_toArray, List.set_cons_zero, List.set_cons_succ])
  refine wpAnyH_ready (rs := [9]) (by kernel_rfl) (by simp) ?_
  refine AllReadyH.cons rfl (fun K hK => ?_) AllReadyH.nil
  go_simp
  refine (hT 1).mono ?_
  rintro e w3 ⟨rfl, hp, hu⟩
  obtain ⟨ha, hut⟩ := (HA2.out.below (Di.drewN_below (w := w2) ⟨1, rfl⟩)).putF (by rw [← Hff.out]; exact hu) (by rw [← Hff.out]; exact hp) (HA2.out.ok.inv.openT _ _) (HA2.out.ok.fit.openT (HFt.out 3 (by omega) (by omega)))
  have HA3 : Hid (UnAt w3 L ⟨(Fd.openT U.F pid ⟨3, Pp.mkI U.P, 0, false, 0⟩), Pp.mkS U.P, U.S, U.T⟩) := ha
  have HU3 : Hid (UT L.lo w w3) := (HU2.out.trans (UT.of_below (Di.drewN_below (w := w2) ⟨1, rfl⟩))).trans hut
  have HK3 : Hid (w3.heap[kb]? = some (.cells (tkR cc s pid x i) 68)) := hut.other (w := w2.drewN 1) HK2.out rfl
  have HZ3 : Hid (w3.heap[zb]? = some (.cells (ouR Ou.zero) 65)) := hut.other (w := w2.drewN 1) HZ2.out rfl
  have hs3 : w3.cell? ⟨kb, 0, none⟩ = some (ptr cc) ∧ w3.cell? ⟨cc, 0, none⟩ = some (ptr ff) ∧ w3.cell? ⟨kb, 2, none⟩ = some (.int .i64 pid) := by
    have c0 := HA3.out.cell0
    rw [← Hcc.out, ← Hff.out] at c0
    exact ⟨by rw [cell_of_heap HK3.out]; rfl, c0, by rw [cell_of_heap HK3.out]; rfl⟩
  clear hp hu ha hut hs2 hT
  refine hK.out _ _ hs3 (fun hHeld => ?_)
  clear hK K
  (try simp only [Act.put, List.getElem_toArray, List.getElem_cons_zero, List.getElem_cons_succ, List.setIfInBounds_toArray, List.set_cons_zero, List.set_cons_succ])
  refine wpAnyH_take (i := 10) (v := ?_) rfl (by kernel_rfl) (by kernel_rfl) (by kernel_rfl) (fun _ _ _ h => h) (Or.inl ⟨by kernel_rfl, ?_⟩) (by assumption) ?_
  rotate_left
  · (intro w hSw; (try dsimp only at hSw); go_simp) <;> with_reducible rfl
  (try simp only [Act.put, List.getElem_toArray, List.getElem_cons_zero, List.getElem_cons_succ, List.setIfInBounds_toArray, List.set_cons_zero, List.set_cons_succ])
  refine wpAnyH_take (i := 11) (v := ?_) rfl (by kernel_rfl) (by kernel_rfl) (by kernel_rfl) (fun _ _ _ h => h) (Or.inl ⟨by kernel_rfl, ?_⟩) (by assumption) ?_
  rotate_left
  · (intro w hSw; (try dsimp only at hSw); go_simp) <;> with_reducible rfl
  (try simp only [Act.put, List.getElem_toArray, List.getElem_cons_zero, List.getElem_cons_succ, List.setIfInBounds_toArray, List.set_cons_zero, List.set_cons_succ])
  refine wpAnyH_take (i := 12) (v := ?_) rfl (by kernel_rfl) (by kernel_rfl) (by kernel_rfl) (fun _ _ _ h => h) (Or.inl ⟨by kernel_rfl, ?_⟩) (by assumption) ?_
  rotate_left
  · (intro w hSw; (try dsimp only at hSw); go_simp) <;> with_reducible rfl
  (try simp only [Act.put, List.getElem_toArray, List.getElem_cons_zero, List.getElem_cons_succ, List.setIfInBounds_toArray, List.set_cons_zero, List.set_cons_succ])
  refine wpAnyH_take (i := 13) (v := ?_) rfl (by kernel_rfl) (by kernel_rfl) (by kernel_rfl) (fun _ _ _ h => h) (Or.inl ⟨by kernel_rfl, ?_⟩) (by assumption) ?_
  rotate_left
  · (intro w hSw; (try dsimp only at hSw); go_simp) <;> with_reducible rfl
  (try simp only [Act.put, List.getElem_toArray, List.getElem_cons_zero, List.getElem_cons_succ, List.setIfInBounds_toArray, List.set_cons_zero, List.set_cons_succ])
  refine wpAnyH_take (i := 14) (v := ?_) rfl (by kernel_rfl) (by kernel_rfl) (by kernel_rfl) (fun _ _ _ h => h) (Or.inl ⟨by kernel_rfl, ?_⟩) (by assumption) ?_
  rotate_left
  · (intro w hSw; (try dsimp only at hSw); go_simp) <;> with_reducible rfl
  (try simp only [Act.put, List.getElem_toArray, List.getElem_cons_zero, List.getElem_cons_succ, List.setIfInBounds_toArray, List.set_cons_zero, List.set_cons_succ])
  refine wpAnyH_done (by kernel_rfl) ?_ _
  clear hHeld hs3
  go_wp2_with fail
  have hs3 : w3.cell? ⟨kb, 0, none⟩ = some (ptr cc) ∧ w3.cell? ⟨cc, 0, none⟩ = some (ptr ff) ∧ w3.cell? ⟨kb, 2, none⟩ = some (.int .i64 pid) := by
    have c0 := HA3.out.cell0
    rw [← Hcc.out, ← Hff.out] at c0
    exact ⟨by rw [cell_of_heap HK3.out]; rfl, c0, by rw [cell_of_heap HK3.out]; rfl⟩
  have hT := fun q => Fd.open_at L.f (Fd.openT U.F pid ⟨3, Pp.mkI U.P, 0, false, 0⟩) pid ⟨4, Pp.mkI U.P, 0, false, 0⟩ (w3.drewN q) (HA3.out.below (Di.drewN_below (w := w3) ⟨q, rfl⟩)).fds
  rw [← Hff.out] at hT
  refine wp_region_held_drew (S := fun w' => w'.cell? ⟨kb, 0, none⟩ = some (ptr cc) ∧ w'.cell? ⟨cc, 0, none⟩ = some (ptr ff) ∧ w'.cell? ⟨kb, 2, none⟩ = some (.int .i64 pid)) (by kernel_rfl) hs3 (fun hHeld => ?_)
  refine wpAnyH_take (i := 0) (v := ?_) rfl (by kernel_rfl) (by kernel_rfl) (by kernel_rfl) (fun _ _ _ h => h) (Or.inl ⟨by kernel_rfl, ?_⟩) (by assumption) ?_
  rotate_left
  · (intro w hSw; (try dsimp only at hSw); go_simp) <;> with_reducible rfl
  (try simp only [Act.put, List.getElem_toArray, List.getElem_cons_zero, List.setIfInBounds_toArray, List.set_cons_zero, List.set_cons_succ])
  refine wpAnyH_take (i := 1) (v := ?_) rfl (by kernel_rfl) (by kernel_rfl) (by kernel_rfl) (fun _ _ _ h => h) (Or.inl ⟨by kernel_rfl, ?_⟩) (by assumption) ?_
  rotate_left
  · (intro w hSw; (try dsimp only at hSw); go_simp) <;> with_reducible rfl
  (try simp only [Act.put, List.getElem_toArray, List.getElem_cons_zero, List.getElem_cons_succ, List.setIfInBounds_toArray, List.set_cons_zero, List.set_cons_succ])
  refine wpAnyH_take (i := 2) (v := ?_) rfl (by kernel_rfl) (by kernel_rfl) (by kernel_rfl) (fun _ _ _ h => h) (Or.inl ⟨by kernel_rfl, ?_⟩) (by assumption) ?_
  rotate_left
  · (intro w hSw; (try dsimp only at hSw); go_simp) <;> with_reducible rfl
  (try simp only [Act.put, List.getElem_toArray, List.getElem_cons_zero, List.getElem_cons_succ, List.setIfInBounds_toArray, List.set_cons_zero, List.set_cons_succ])
  refine wpAnyH_take (i := 3) (v := ?_) rfl (by kernel_rfl) (by kernel_rfl) (by kernel_rfl) (fun _ _ _ h => h) (Or.inl ⟨by kernel_rfl, ?_⟩) (by assumption) ?_
  rotate_left
  · (intro w hSw; (try dsimp only at hSw); go_simp) <;> with_reducible rfl
  (try simp only [Act.put, List.getElem_toArray, List.getElem_cons_zero, List.getElem_cons_succ, List.setIfInBounds_toArray, List.set_cons_zero, List.set_cons_succ])
  refine wpAnyH_take (i := 4) (v := ?_) rfl (by kernel_rfl) (by kernel_rfl) (by kernel_rfl) (fun _ _ _ h => h) (Or.inl ⟨by kernel_rfl, ?_⟩) (by assumption) ?_
  rotate_left
  · (intro w hSw; (try dsimp only at hSw); go_simp) <;> with_reducible rfl
  (try simp only [Act.put, List.getElem_toArray, List.getElem_cons_zero, List.getElem_cons_succ, List.setIfInBounds_toArray, List.set_cons_zero, List.set_cons_succ])
  refine wpAnyH_take (i := 5) (v := ?_) rfl (by kernel_rfl) (by kernel_rfl) (by kernel_rfl) (fun _ _ _ h => h) (Or.inl ⟨by kernel_rfl, ?_⟩) (by assumption) ?_
  rotate_left
  · (intro w hSw; (try dsimp only at hSw); go_simp) <;> with_reducible rfl
  (try simp only [Act.put, List.getElem_toArray, List.getElem_cons_zero, List.getElem_cons_succ, List.setIfInBounds_toArray, List.set_cons_zero, List.set_cons_succ])
  refine wpAnyH_take (i := 6) (v := ?_) rfl (by kernel_rfl) (by kernel_rfl) (by kernel_rfl) (fun _ _ _ h => h) (Or.inl ⟨by kernel_rfl, ?_⟩) (by assumption) ?_
  rotate_left
  · (intro w hSw; (try dsimp only at hSw); go_simp) <;> with_reducible rfl
  (try simp only [Act.put, List.getElem_toArray, List.getElem_cons_zero, List.getElem_cons_succ, List.setIfInBounds_toArray, List.set_cons_zero, List.set_cons_succ])
  refine wpAnyH_take (i := 7) (v := ?_) rfl (by kernel_rfl) (by kernel_rfl) (by kernel_rfl) (fun _ _ _ h => h) (Or.inl ⟨by kernel_rfl, ?_⟩) (by assumption) ?_
  rotate_left
  · (intro w hSw; (try dsimp only at hSw); go_simp) <;> with_reducible rfl
  (try simp only [Act.put, List.getElem_toArray, List.getElem_cons_zero, List.getElem_cons_succ, List.setIfInBounds_toArray, List.set_cons_zero, List.set_cons_succ])
  refine wpAnyH_take (i := 8) (v := ?_) rfl (by kernel_rfl) (by kernel_rfl) (by kernel_rfl) (fun _ _ _ h => h) (Or.inl ⟨by kernel_rfl, ?_⟩) (by assumption) ?_
  rotate_left
  · (intro w hSw; (try dsimp only at hSw); go_simp) <;> with_reducible rfl
  (try simp only [Act.put, List.getElem_toArray, List.getElem_cons_zero, List.getElem_cons_succ, List.setIfInBounds_toArray, List.set_cons_zero, List.set_cons_succ])
  refine wpAnyH_ready (rs := [9]) (by kernel_rfl) (by simp) ?_
  refine AllReadyH.cons rfl (fun K hK => ?_) AllReadyH.nil
  go_simp
  refine (hT 1).mono ?_
  rintro e w4 ⟨rfl, hp, hu⟩
  obtain ⟨ha, hut⟩ := (HA3.out.below (Di.drewN_below (w := w3) ⟨1, rfl⟩)).putF (by rw [← Hff.out]; exact hu) (by rw [← Hff.out]; exact hp) (HA3.out.ok.inv.openT _ _) (HA3.out.ok.fit.openT (HFt.out 4 (by omega) (by omega)))
  have HA4 : Hid (UnAt w4 L ⟨Fd.openT (Fd.openT U.F pid ⟨3, Pp.mkI U.P, 0, false, 0⟩) pid ⟨4, Pp.mkI U.P, 0, false, 0⟩, Pp.mkS U.P, U.S, U.T⟩) := ha
  have HU4 : Hid (UT L.lo w w4) := (HU3.out.trans (UT.of_below (Di.drewN_below (w := w3) ⟨1, rfl⟩))).trans hut
  have HK4 : Hid (w4.heap[kb]? = some (.cells (tkR cc s pid x i) 68)) := hut.other (w := w3.drewN 1) HK3.out rfl
  have HZ4 : Hid (w4.heap[zb]? = some (.cells (ouR Ou.zero) 65)) := hut.other (w := w3.drewN 1) HZ3.out rfl
  have hs4 : w4.cell? ⟨kb, 0, none⟩ = some (ptr cc) ∧ w4.cell? ⟨cc, 0, none⟩ = some (ptr ff) ∧ w4.cell? ⟨kb, 2, none⟩ = some (.int .i64 pid) := by
    have c0 := HA4.out.cell0
    rw [← Hcc.out, ← Hff.out] at c0
    exact ⟨by rw [cell_of_heap HK4.out]; rfl, c0, by rw [cell_of_heap HK4.out]; rfl⟩
  clear hp hu ha hut hs3 hT
  refine hK.out _ _ hs4 (fun hHeld => ?_)
  clear hK K
  (try simp only [Act.put, List.getElem_toArray, List.getElem_cons_zero, List.getElem_cons_succ, List.setIfInBounds_toArray, List.set_cons_zero, List.set_cons_succ])
  refine wpAnyH_take (i := 10) (v := ?_) rfl (by kernel_rfl) (by kernel_rfl) (by kernel_rfl) (fun _ _ _ h => h) (Or.inl ⟨by kernel_rfl, ?_⟩) (by assumption) ?_
  rotate_left
  · (intro w hSw; (try dsimp only at hSw); go_simp) <;> with_reducible rfl
  (try simp only [Act.put, List.getElem_toArray, List.getElem_cons_zero, List.getElem_cons_succ, List.setIfInBounds_toArray, List.set_cons_zero, List.set_cons_succ])
  refine wpAnyH_take (i := 11) (v := ?_) rfl (by kernel_rfl) (by kernel_rfl) (by kernel_rfl) (fun _ _ _ h => h) (Or.inl ⟨by kernel_rfl, ?_⟩) (by assumption) ?_
  rotate_left
  · (intro w hSw; (try dsimp only at hSw); go_simp) <;> with_reducible rfl
  (try simp only [Act.put, List.getElem_toArray, List.getElem_cons_zero, List.getElem_cons_succ, List.setIfInBounds_toArray, List.set_cons_zero, List.set_cons_succ])
  refine wpAnyH_take (i := 12) (v := ?_) rfl (by kernel_rfl) (by kernel_rfl) (by kernel_rfl) (fun _ _ _ h => h) (Or.inl ⟨by kernel_rfl, ?_⟩) (by assumption) ?_
  rotate_left
  · (intro w hSw; (try dsimp only at hSw); go_simp) <;> with_reducible rfl
  (try simp only [Act.put, List.getElem_toArray, List.getElem_cons_zero, List.getElem_cons_succ, List.setIfInBounds_toArray, List.set_cons_zero, List.set_cons_succ])
  refine wpAnyH_take (i := 13) (v := ?_) rfl (by kernel_rfl) (by kernel_rfl) (by kernel_rfl) (fun _ _ _ h => h) (Or.inl ⟨by kernel_rfl, ?_⟩) (by assumption) ?_
  rotate_left
  · (intro w hSw; (try dsimp only at hSw); go_simp) <;> with_reducible rfl
  (try simp only [Act.put, List.getElem_toArray, List.getElem_cons_zero, List.getElem_cons_succ, List.setIfInBounds_toArray, List.set_cons_zero, List.set_cons_succ])
  refine wpAnyH_take (i := 14) (v := ?_) rfl (by kernel_rfl) (by kernel_rfl) (by kernel_rfl) (fun _ _ _ h => h) (Or.inl ⟨by kernel_rfl, ?_⟩) (by assumption) ?_
  rotate_left
  · (intro w hSw; (try dsimp only at hSw); go_simp) <;> with_reducible rfl
  (try simp only [Act.put, List.getElem_toArray, List.getElem_cons_zero, List.getElem_cons_succ, List.setIfInBounds_toArray, List.set_cons_zero, List.set_cons_succ])
  refine wpAnyH_done (by kernel_rfl) ?_ _
  clear hHeld hs4
  have HAe : Hid (UnAt w4 L U') := by rw [HU'.out]; exact HA4.out
  have HQ : Hid ((w4.setRow zb (ouR (piO U pid))).heap[zb]? = some (.cells (ouR (piO U pid)) 65)) := setRow_heap _ zb _ _ _ _ HZ4.out
  have HF : Hid (UnAt (w4.setRow zb (ouR (piO U pid))) L U' ∧ UT L.lo w (w4.setRow zb (ouR (piO U pid)))) := ⟨HAe.out.row HZ4.out rfl (by decide) (by decide), HU4.out.far (by rw [HZb.out]; omega)⟩
  go_wp2_with (first
    | (refine wpList_store_row rfl 65 _ _ rfl zb (ouR (piO U pid)) rfl rfl 65 (ouR Ou.zero) HZ4.out ouSize rfl (ouR_one _) ?_)
    | go_in)
  exact bodyPost_ret (v := .agg (ouR (piO U pid))) (results_cell_row rfl _ _ zb 65 (ouR (piO U pid)) (0, 0) _ rfl HQ.out Tryz.underlying65 rfl ouSize) rfl ⟨rfl, HF.out⟩
end Go.Proofs.YtnlhedpfhgoncabGreatDoor
