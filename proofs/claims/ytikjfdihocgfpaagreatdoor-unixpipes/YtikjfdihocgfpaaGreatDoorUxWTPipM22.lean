/- Package unix: the writer's end of a pipe is closed, whose other end is open. -/
/- januslaw22: a pipe of process 1: what is written, read, closed. -/
import Derived.Test.YtikjfdihocgfpaaGreatDoorUxATUxT
import Derived.Test.YtikjfdihocgfpaaGreatDoorUxLTUxR
import Derived.Deep.DeepCutAuto
set_option linter.all false
namespace Go.Proofs.YtikjfdihocgfpaaGreatDoor
open Go.RowKit
theorem ta_rea_wri (i : Int) (W : World) : (Instr.typeAssert (.iface 287 (.agg #[.int .i64 i])) 20 284 true).run Tryz.prog W = .ok (.tuple #[.agg #[.int .i64 0], .bool false]) W := by kernel_rfl
theorem dropPipe_kept {w : World} {L : Pl} {U : Un} (h : UnAt w L U) (id : Int) (ho : opB U.F 3 id = true) : Calls Tryz.prog 242 #[ptr L.c, .int .i64 id] w fun e w' => e = .returned (.tuple #[]) ∧ Below w.heap.size w w' := by
  have hI := isOpen_at h 3 id
  rw [ho] at hI
  clear h ho
  generalize L.c = cc at *
  go_enter Tryz.func242, Tryz.ntmps242
  go_wp2_with fail
  refine hI.mono ?_
  rintro e w1 ⟨rfl, hb⟩
  have HB : Hid (Below w.heap.size w w1) := hb
  clear hI hb
  go_wp2
  go_end0
  exact ⟨rfl, HB.out⟩
theorem over_kept {w : World} {L : Pl} {U : Un} (h : UnAt w L U) (s : Value) (id off rf : Int) (ap : Bool) (ho : opB U.F 3 id = true) : Calls Tryz.prog 188 #[ptr L.c, s, .agg (Fd.Fl.row ⟨4, id, off, ap, rf⟩)] w fun e w' => e = .returned (.tuple #[]) ∧ Below w.heap.size w w' := by
  obtain ⟨W, hW⟩ : ∃ W, W = w.alloc (.cells (Fd.Fl.row ⟨4, id, off, ap, rf⟩) 124) := ⟨_, rfl⟩
  have hb : Below w.heap.size w W := by rw [hW]; exact below_alloc _ _
  obtain ⟨xb, hxb⟩ : ∃ b, b = w.heap.size := ⟨_, rfl⟩
  have HX : Hid (W.heap[xb]? = some (.cells (Fd.Fl.row ⟨4, id, off, ap, rf⟩) 124)) := by rw [hW, hxb]; exact heap_alloc_new _ _
  have HA : Hid (UnAt W L U) := h.below hb
  have HB : Hid (Below w.heap.size w W) := hb
  have HW : Hid (W = w.alloc (.cells (Fd.Fl.row ⟨4, id, off, ap, rf⟩) 124)) := hW
  have Hxb : Hid (xb = w.heap.size) := hxb
  have hD := fun V (hV : UnAt V L U) => dropPipe_kept hV id ho
  have hWI := whatIs_wri id off rf ap
  have t1 := ta_sto_wri id
  have t2 := ta_rea_wri id
  have t3 := ta_wri_wri id
  obtain ⟨cc, hcc⟩ : ∃ c, c = L.c := ⟨_, rfl⟩
  rw [← hcc] at hD ⊢
  clear h hW hb hxb hcc ho
  go_enter Tryz.func188, Tryz.ntmps188
  go_upto_region 1 with fail
  rw [← HW.out, ← Hxb.out]
  go_wp2_with (first
    | (refine wpList_load_row rfl 124 _ rfl xb rfl 124 (Fd.Fl.row ⟨4, id, off, ap, rf⟩) (0, 0) _ HX.out Tryz.underlying124 rfl flSize ?_)
    | fail)
  refine (hWI _).mono ?_
  rintro e w1 ⟨rfl, hb1⟩
  have HB1 : Hid (Below W.heap.size W w1) := hb1
  clear hWI hb1
  go_upto_region 10 with fail
  obtain ⟨w2, hw2⟩ : ∃ V, V = w1.alloc (.cells #[.int .i64 id] 287) := ⟨_, rfl⟩
  have hb2 : Below w1.heap.size w1 w2 := by rw [hw2]; exact below_alloc _ _
  have HB2 : Hid (Below W.heap.size W w2) := HB1.out.trans (hb2.mono HB1.out.size)
  have hx2 : w2.cell? ⟨w1.heap.size, 0, none⟩ = some (.int .i64 id) := by rw [hw2, cell_of_heap (heap_alloc_new _ _)]; rfl
  have HW2 : Hid (w2 = w1.alloc (.cells #[.int .i64 id] 287)) := hw2
  have hD := hD w2 (HA.out.below HB2.out)
  clear hw2 hb2
  go_upto_region 11 with fail
  rw [← HW2.out]
  go_wp2_with fail
  refine hD.mono ?_
  rintro e w3 ⟨rfl, hb3⟩
  have HB3 : Hid (Below w.heap.size w w3) := HB.out.trans ((HB2.out.trans (hb3.mono HB2.out.size)).mono HB.out.size)
  clear hD hb3 hx2
  go_wp2
  go_end0
  exact ⟨rfl, HB3.out⟩
/-- What closing leaves. -/
def cwU (U : Un) (pid fd : Int) : Un := ⟨Fd.closeT U.F pid fd, U.P, U.S, U.T⟩
set_option maxHeartbeats 1000000 in
theorem closeOne_kept {w : World} {L : Pl} {U : Un} (h : UnAt w L U) (s : Value) (pid fd id off : Int) (ap : Bool) (hE : Fd.getE U.F pid fd = 0) (hX : Fd.closeX U.F pid fd = ⟨4, id, off, ap, 0⟩) (ho : opB (Fd.closeT U.F pid fd) 3 id = true) :
    Calls Tryz.prog 108 #[ptr L.c, s, .int .i64 pid, .int .i64 fd] w fun e w' => e = .returned (.int .i64 0) ∧ UnAt w' L (cwU U pid fd) ∧ UT L.lo w w' := by
  have hT := Fd.close_at L.f U.F pid fd w h.fds h.ok.inv
  rw [hE, hX] at hT
  have c0 := h.cell0
  have HA : Hid (UnAt w L U) := h
  have hO := fun V (hV : UnAt V L (cwU U pid fd)) => over_kept hV s id off 0 ap ho
  obtain ⟨cc, hcc⟩ : ∃ c, c = L.c := ⟨_, rfl⟩
  obtain ⟨ff, hff⟩ : ∃ c, c = L.f := ⟨_, rfl⟩
  rw [← hcc, ← hff] at c0
  rw [← hff] at hT
  rw [← hcc] at hO ⊢
  have Hf : Hid (ff = L.f) := hff
  clear h hE hX ho hcc hff
  have HF : Hid (∀ w', Fd.FdAt w' ff (Fd.closeT U.F pid fd) → Upd ff w w' → UnAt w' L (cwU U pid fd) ∧ UT L.lo w w') := fun w' hp hu => HA.out.putF (by rw [← Hf.out]; exact hu) (by rw [← Hf.out]; exact hp) (HA.out.ok.inv.closeT _ _) (HA.out.ok.fit.closeT HA.out.ok.inv _ _)
  go_enter Tryz.func108, Tryz.ntmps108
  go_wp2_with fail
  refine hT.mono ?_
  rintro e w1 ⟨rfl, hp, hu⟩
  have HE : Hid (UnAt w1 L (cwU U pid fd) ∧ UT L.lo w w1) := HF.out w1 hp hu
  clear hT hp hu c0 HF
  obtain ⟨w2, hw2⟩ : ∃ V, V = w1.alloc (.cells (Fd.Fl.row ⟨4, id, off, ap, 0⟩) 124) := ⟨_, rfl⟩
  have hb2 : Below w1.heap.size w1 w2 := by rw [hw2]; exact below_alloc _ _
  obtain ⟨xb, hxb⟩ : ∃ b, b = w1.heap.size := ⟨_, rfl⟩
  have HX : Hid (w2.heap[xb]? = some (.cells (Fd.Fl.row ⟨4, id, off, ap, 0⟩) 124)) := by rw [hw2, hxb]; exact heap_alloc_new _ _
  have HE2 : Hid (UnAt w2 L (cwU U pid fd) ∧ UT L.lo w w2) := ⟨HE.out.1.below hb2, HE.out.2.trans (UT.of_below hb2)⟩
  have HW2 : Hid (w2 = w1.alloc (.cells (Fd.Fl.row ⟨4, id, off, ap, 0⟩) 124)) := hw2
  have Hxb : Hid (xb = w1.heap.size) := hxb
  have hx4 : w2.cell? ⟨xb, 4, none⟩ = some (.int .i64 0) := by rw [cell_of_heap HX.out]; rfl
  clear hw2 hb2 hxb HE
  have hO := hO w2 HE2.out.1
  go_upto_region 2 with fail
  rw [← HW2.out, ← Hxb.out]
  go_upto_region 3 with fail
  clear hx4
  go_wp2_with (first
    | (refine wpList_load_row rfl 124 _ rfl xb rfl 124 (Fd.Fl.row ⟨4, id, off, ap, 0⟩) (0, 0) _ HX.out Tryz.underlying124 rfl flSize ?_)
    | fail)
  refine hO.mono ?_
  rintro e w3 ⟨rfl, hb3⟩
  have HE3 : Hid (UnAt w3 L (cwU U pid fd) ∧ UT L.lo w w3) := ⟨HE2.out.1.below hb3, HE2.out.2.trans (UT.of_below hb3)⟩
  clear hO hb3
  go_wp2
  go_ret
  exact ⟨rfl, HE3.out.1, HE3.out.2⟩
set_option maxHeartbeats 2000000 in
set_option maxRecDepth 100000 in
theorem close_kept {w : World} {L : Pl} {U : Un} (h : UnAt w L U) (s : Value) (pid : Int) (x : Cl) (i : List UInt8) (ha : 0 ≤ x.a) (id off : Int) (ap : Bool) (hE : Fd.getE U.F pid (smI x.a) = 0) (hX : Fd.closeX U.F pid (smI x.a) = ⟨4, id, off, ap, 0⟩) (ho : opB (Fd.closeT U.F pid (smI x.a)) 3 id = true) :
    Calls Tryz.prog 91 #[.agg (tkR L.c s pid x i)] w (Left L (Ou.num 0) (cwU U pid (smI x.a)) w) := by
  unfold Left
  obtain ⟨WK, hWK⟩ : ∃ W, W = w.alloc (.cells (tkR L.c s pid x i) 113) := ⟨_, rfl⟩
  have hbK : Below w.heap.size w WK := by rw [hWK]; exact below_alloc _ _
  have hsK : WK.heap.size = w.heap.size + 1 := by rw [hWK]; simp
  have hxK : WK.heap[w.heap.size]? = some (.cells (tkR L.c s pid x i) 113) := by rw [hWK]; exact heap_alloc_new _ _
  obtain ⟨WZ, hWZ⟩ : ∃ W, W = WK.alloc (.cells (ouR Ou.zero) 110) := ⟨_, rfl⟩
  have hbZ : Below WK.heap.size WK WZ := by rw [hWZ]; exact below_alloc _ _
  have hsZ : WZ.heap.size = w.heap.size + 1 + 1 := by rw [hWZ]; simp [hsK]
  have hxZ : WZ.heap[w.heap.size + 1]? = some (.cells (ouR Ou.zero) 110) := by rw [hWZ, ← hsK]; exact heap_alloc_new _ _
  have hyK : WZ.heap[w.heap.size]? = some (.cells (tkR L.c s pid x i) 113) := ((hbZ.block _ (lt_of_heap (hxK))).trans (hxK))
  have hyZ := hxZ
  have hB : Below w.heap.size w WZ := ((hbK).trans (hbZ.mono (hbK).size))
  have HA0 : Hid (UnAt WZ L U) := h.below hB
  have HB0 : Hid (Below w.heap.size w WZ) := hB
  have hz : (#[.int .i64 0, .int .i64 0, .string ⟨#[]⟩, .int .i64 0, .int .i64 0, .string ⟨#[]⟩, .int .i64 0, .bool false] : Array Value) = ouR Ou.zero := rfl
  obtain ⟨kb, hKb⟩ : ∃ k, k = w.heap.size := ⟨_, rfl⟩
  rw [← hKb] at hyK
  have HK : Hid (WZ.heap[kb]? = some (.cells (tkR L.c s pid x i) 113)) := hyK
  have HKb : Hid (kb = w.heap.size) := hKb
  have HWK : Hid _ := hWK
  obtain ⟨zb, hZb⟩ : ∃ k, k = w.heap.size + 1 := ⟨_, rfl⟩
  rw [← hZb] at hyZ
  have HZ : Hid (WZ.heap[zb]? = some (.cells (ouR Ou.zero) 110)) := hyZ
  have HZb : Hid (zb = w.heap.size + 1) := hZb
  have HWZ : Hid _ := hWZ
  have HU : Hid (UnAt w L U) := h
  clear hWK hbK hsK hxK hKb hWZ hbZ hsZ hxZ hZb hB h
  obtain ⟨cc, hcc⟩ : ∃ c, c = L.c := ⟨_, rfl⟩
  rw [← hcc] at HK hyK HWK ⊢
  have Hcc : Hid (cc = L.c) := hcc
  obtain ⟨TK, hTK⟩ : ∃ l, l = (tkR cc s pid x i).toList := ⟨_, rfl⟩
  have HTl : Hid (TK.length = 10) := by show _ = _; rw [hTK]; rfl
  have eTK : TK.toArray = tkR cc s pid x i := by rw [hTK]
  have hS : ∀ W, Below WZ.heap.size WZ W → W.rangeAt kb 0 TK ∧ W.cell? ⟨kb, 0, none⟩ = some (ptr cc) ∧ W.cell? ⟨kb, 1, none⟩ = some s ∧ W.cell? ⟨kb, 2, none⟩ = some (.int .i64 pid) := fun W hW => by
    have e1 : ∀ j v, TK[j]? = some v → WZ.cell? ⟨kb, 0 + j, none⟩ = some v := fun j v hv => by rw [Nat.zero_add, cell_of_heap HK.out]; rw [hTK] at hv; simpa using hv
    have e2 : WZ.cell? ⟨kb, 0, none⟩ = some (ptr cc) := by rw [cell_of_heap HK.out]; rfl
    have e3 : WZ.cell? ⟨kb, 1, none⟩ = some s := by rw [cell_of_heap HK.out]; rfl
    have e4 : WZ.cell? ⟨kb, 2, none⟩ = some (.int .i64 pid) := by rw [cell_of_heap HK.out]; rfl
    exact ⟨fun j v hv => (hW.cell (cell_lt (e1 j v hv))).trans (e1 j v hv), (hW.cell (cell_lt e2)).trans e2, (hW.cell (cell_lt e3)).trans e3, (hW.cell (cell_lt e4)).trans e4⟩
  have hD := fun V => descriptor_at cc s pid x i ha V
  obtain ⟨fd, hfd⟩ : ∃ d, d = smI x.a := ⟨_, rfl⟩
  rw [← hfd] at hE hX ho hD ⊢
  have hC := fun W hW => closeOne_kept (w := W) (L := L) (U := U) hW s pid fd id off ap hE hX ho
  rw [← hcc] at hC
  obtain ⟨o, ho⟩ : ∃ o, o = Ou.num 0 := ⟨_, rfl⟩
  rw [← ho]
  have HO : Hid (o = Ou.num 0) := ho
  obtain ⟨U', hU'⟩ : ∃ V, V = cwU U pid fd := ⟨_, rfl⟩
  rw [← hU']
  have HU' : Hid (U' = cwU U pid fd) := hU'
  obtain ⟨R, hR⟩ : ∃ R, R = ouR o := ⟨_, rfl⟩
  have HRs : Hid (R.size = 8) := by rw [hR]; exact ouR_size _
  have HOne : Hid (R.all (·.oneCell') = true) := by rw [hR]; exact ouR_one _
  rw [← hR]
  have HRq : Hid (R = ouR o) := hR
  clear ho hU' hR
  have hN := fun W => numberOr_at 0 0 W
  have e1 : ouR (Ou.orNo 0 0) = R := by rw [HRq.out, HO.out]; rfl
  rw [e1] at hN
  clear e1 hyK hyZ hcc hE hX ho hTK hfd
  go_enter Tryz.func91, Tryz.ntmps91
  go_upto_region 1 with fail
  rw [← HWK.out, ← HWZ.out]
  rw [← HZb.out]
  rw [← HKb.out]
  obtain ⟨v0, hv0⟩ : ∃ V, V = WZ.drew := ⟨_, rfl⟩
  have H0 : Hid (Below WZ.heap.size WZ v0) := by rw [hv0]; exact Di.drewN_below (w := WZ) ⟨1, rfl⟩
  refine wp_region_held_drew (S := fun w' => w'.rangeAt kb 0 TK ∧ w'.cell? ⟨kb, 0, none⟩ = some (ptr cc) ∧ w'.cell? ⟨kb, 1, none⟩ = some s ∧ w'.cell? ⟨kb, 2, none⟩ = some (.int .i64 pid)) (by kernel_rfl) (by rw [← hv0]; exact hS _ H0.out) (fun hHeld => ?_)
  refine wpAnyH_take (i := 0) (v := ?_) rfl (by kernel_rfl) (by kernel_rfl) (by kernel_rfl) (fun _ _ _ h => h) (Or.inl ⟨by kernel_rfl, ?_⟩) (by assumption) ?_
  rotate_left
  · (intro w hSw; (try dsimp only at hSw); go_simp) <;> with_reducible rfl
  (try simp only [Act.put, List.getElem_toArray, List.getElem_cons_zero, List.setIfInBounds_toArray, List.set_cons_zero, List.set_cons_succ])
  refine wpAnyH_take (i := 1) (v := ?_) rfl (by kernel_rfl) (by kernel_rfl) (by kernel_rfl) (fun _ _ _ h => h) (Or.inl ⟨by kernel_rfl, ?_⟩) (by assumption) ?_
  rotate_left
  · (intro w hSw; (try dsimp only at hSw); go_simp) <;> with_reducible rfl
  (try simp only [Act.put, List.getElem_toArray, List.getElem_cons_zero, List.getElem_cons_succ, List.setIfInBounds_toArray, List.set_cons_zero, List.set_cons_succ])
  refine wpAnyH_take (i := 2) (v := ?_) rfl (by kernel_rfl) (by kernel_rfl) (by kernel_rfl) (fun _ _ _ h => h) (Or.inl ⟨by kernel_rfl, ?_⟩) (by assumption) ?_
  rotate_left
  · (intro w hSw; (try dsimp only at hSw); go_simp) <;> with_reducible rfl
  (try simp only [Act.put, List.getElem_toArray, List.getElem_cons_zero, List.getElem_cons_succ, List.setIfInBounds_toArray, List.set_cons_zero, List.set_cons_succ])
  refine wpAnyH_take (i := 3) (v := ?_) rfl (by kernel_rfl) (by kernel_rfl) (by kernel_rfl) (fun _ _ _ h => h) (Or.inl ⟨by kernel_rfl, ?_⟩) (by assumption) ?_
  rotate_left
  · (intro w hSw; (try dsimp only at hSw); go_simp) <;> with_reducible rfl
  (try simp only [Act.put, List.getElem_toArray, List.getElem_cons_zero, List.getElem_cons_succ, List.setIfInBounds_toArray, List.set_cons_zero, List.set_cons_succ])
  refine wpAnyH_take (i := 4) (v := ?_) rfl (by kernel_rfl) (by kernel_rfl) (by kernel_rfl) (fun _ _ _ h => h) (Or.inl ⟨by kernel_rfl, ?_⟩) (by assumption) ?_
  rotate_left
  · (intro w hSw; (try dsimp only at hSw); go_simp) <;> with_reducible rfl
  (try simp only [Act.put, List.getElem_toArray, List.getElem_cons_zero, List.getElem_cons_succ, List.setIfInBounds_toArray, List.set_cons_zero, List.set_cons_succ])
  refine wpAnyH_take (i := 5) (v := ?_) rfl (by kernel_rfl) (by kernel_rfl) (by kernel_rfl) (fun _ _ _ h => h) (Or.inl ⟨by kernel_rfl, ?_⟩) (by assumption) ?_
  rotate_left
  · (intro w hSw; (try dsimp only at hSw); go_simp) <;> with_reducible rfl
  (try simp only [Act.put, List.getElem_toArray, List.getElem_cons_zero, List.getElem_cons_succ, List.setIfInBounds_toArray, List.set_cons_zero, List.set_cons_succ])
  refine wpAnyH_take (i := 6) (v := .agg (TK).toArray) rfl (by kernel_rfl) (by kernel_rfl) (by kernel_rfl) (fun _ _ _ h => h) (yieldsIf_load_mid (by kernel_rfl) 113 _ rfl kb 0 rfl (TK) _ (fun w hw => hw.1) Tryz.underlying113 rfl (by rw [HTl.out]; exact tkSize)) (by assumption) ?_
  (try simp only [Act.put, List.getElem_toArray, List.getElem_cons_zero, List.getElem_cons_succ, List.setIfInBounds_toArray, List.set_cons_zero, List.set_cons_succ])
  rw [← hv0]
  clear hv0
  refine wpAnyH_ready (rs := [7]) (by kernel_rfl) (by simp) ?_
  refine AllReadyH.cons rfl (fun K hK => ?_) AllReadyH.nil
  go_simp
  refine (hD v0).mono ?_
  rintro e v1 ⟨rfl, hb1⟩
  have H1 : Hid (Below WZ.heap.size WZ v1) := H0.out.trans (hb1.mono H0.out.size)
  clear hb1
  refine hK.out _ _ (hS _ H1.out) (fun hHeld => ?_)
  clear hK K
  (try simp only [Act.put, List.getElem_toArray, List.getElem_cons_zero, List.getElem_cons_succ, List.setIfInBounds_toArray, List.set_cons_zero, List.set_cons_succ])
  refine wpAnyH_ready (rs := [8]) (by kernel_rfl) (by simp) ?_
  refine AllReadyH.cons rfl (fun K hK => ?_) AllReadyH.nil
  go_simp
  refine (hC v1 (HA0.out.below H1.out)).mono ?_
  rintro e v2 ⟨rfl, ha2, hu2⟩
  have HA2 : Hid (UnAt v2 L U') := by rw [HU'.out]; exact ha2
  have HUt2 : Hid (UT L.lo w v2) := ((UT.of_below HB0.out).trans (UT.of_below H1.out)).trans hu2
  have HK2 : Hid (v2.heap[kb]? = some (.cells (tkR cc s pid x i) 113)) := hu2.other ((H1.out.block _ (lt_of_heap HK.out)).trans HK.out) rfl
  have HZ2 : Hid (v2.heap[zb]? = some (.cells (ouR Ou.zero) 110)) := hu2.other ((H1.out.block _ (lt_of_heap HZ.out)).trans HZ.out) rfl
  have hS2 : ∀ W, Below v2.heap.size v2 W → W.rangeAt kb 0 TK ∧ W.cell? ⟨kb, 0, none⟩ = some (ptr cc) ∧ W.cell? ⟨kb, 1, none⟩ = some s ∧ W.cell? ⟨kb, 2, none⟩ = some (.int .i64 pid) := fun W hW => by
    have e1 : ∀ j v, TK[j]? = some v → v2.cell? ⟨kb, 0 + j, none⟩ = some v := fun j v hv => by
      rw [Nat.zero_add, cell_of_heap HK2.out, ← eTK]
      simpa using hv
    have e2 : v2.cell? ⟨kb, 0, none⟩ = some (ptr cc) := by rw [cell_of_heap HK2.out]; rfl
    have e3 : v2.cell? ⟨kb, 1, none⟩ = some s := by rw [cell_of_heap HK2.out]; rfl
    have e4 : v2.cell? ⟨kb, 2, none⟩ = some (.int .i64 pid) := by rw [cell_of_heap HK2.out]; rfl
    exact ⟨fun j v hv => (hW.cell (cell_lt (e1 j v hv))).trans (e1 j v hv), (hW.cell (cell_lt e2)).trans e2, (hW.cell (cell_lt e3)).trans e3, (hW.cell (cell_lt e4)).trans e4⟩
  clear ha2 hu2 hC hS
  refine hK.out _ _ (hS2 _ (Below.refl _ _)) (fun hHeld => ?_)
  clear hK K
  (try simp only [Act.put, List.getElem_toArray, List.getElem_cons_zero, List.getElem_cons_succ, List.setIfInBounds_toArray, List.set_cons_zero, List.set_cons_succ])
  refine wpAnyH_ready (rs := [9]) (by kernel_rfl) (by simp) ?_
  refine AllReadyH.cons rfl (fun K hK => ?_) AllReadyH.nil
  go_simp
  refine (hN v2).mono ?_
  rintro e w4 ⟨rfl, hb4⟩
  have HB4 : Hid (Below v2.heap.size v2 w4) := hb4
  have HA1 : Hid (UnAt w4 L U') := HA2.out.below HB4.out
  have HU1 : Hid (UT L.lo w w4) := HUt2.out.trans (UT.of_below HB4.out)
  have HZ4 : Hid (w4.heap[zb]? = some (.cells (ouR Ou.zero) 110)) := (HB4.out.block _ (lt_of_heap HZ2.out)).trans HZ2.out
  have HK4 : Hid (w4.heap[kb]? = some (.cells (tkR cc s pid x i) 113)) := (HB4.out.block _ (lt_of_heap HK2.out)).trans HK2.out
  clear hN hb4
  refine hK.out _ _ (hS2 _ HB4.out) (fun hHeld => ?_)
  clear hK K
  (try simp only [Act.put, List.getElem_toArray, List.getElem_cons_zero, List.getElem_cons_succ, List.setIfInBounds_toArray, List.set_cons_zero, List.set_cons_succ])
  have HM : Hid (w4.heap[zb]? = some (.cells (ouR Ou.zero) 110)) := HZ4.out
  have HQ : Hid ((w4.setRow zb R).heap[zb]? = some (.cells R 110)) := setRow_heap _ zb _ _ _ _ HM.out
  have HF : Hid (UnAt (w4.setRow zb R) L U' ∧ UT L.lo w (w4.setRow zb R)) := ⟨HA1.out.row HM.out rfl (by decide) (by decide), HU1.out.far (by rw [HZb.out]; omega)⟩
  refine wpAnyH_ready (rs := [10]) (by kernel_rfl) (by simp) ?_
  refine AllReadyH.cons rfl (fun K hK => ?_) (AllReadyH.nil)
  refine step_store_row rfl 110 (.tmp 2) (.tmp 12) rfl zb R rfl rfl 110 (ouR Ou.zero) HM.out (by rw [HRs.out]; exact ouSize) (by rw [HRs.out]; rfl) HOne.out ?_
  have hne : kb ≠ zb := by rw [HKb.out, HZb.out]; omega
  have hk5 : (w4.setRow zb R).heap[kb]? = some (.cells (tkR cc s pid x i) 113) := (setRow_other _ _ _ _ hne).trans HK4.out
  have hS5 : (w4.setRow zb R).rangeAt kb 0 TK ∧ (w4.setRow zb R).cell? ⟨kb, 0, none⟩ = some (ptr cc) ∧ (w4.setRow zb R).cell? ⟨kb, 1, none⟩ = some s ∧ (w4.setRow zb R).cell? ⟨kb, 2, none⟩ = some (.int .i64 pid) := ⟨fun j v hv => by
      rw [Nat.zero_add, cell_of_heap hk5, ← eTK]
      simpa using hv, by rw [cell_of_heap hk5]; rfl, by rw [cell_of_heap hk5]; rfl, by rw [cell_of_heap hk5]; rfl⟩
  refine hK.out _ _ hS5 (fun hHeld => ?_)
  clear hK K
  (try simp only [Act.put, List.getElem_toArray, List.getElem_cons_zero, List.getElem_cons_succ, List.setIfInBounds_toArray, List.set_cons_zero, List.set_cons_succ])
  refine wpAnyH_done (by kernel_rfl) ?_ _
  go_wp2_with fail
  exact bodyPost_ret (v := .agg R) (results_cell_row rfl _ _ zb 110 R (0, 0) _ rfl HQ.out Tryz.underlying110 rfl (by rw [HRs.out]; exact ouSize)) rfl ⟨rfl, HF.out⟩
set_option maxHeartbeats 1000000 in
set_option maxRecDepth 100000 in
theorem do_6 {w : World} {L : Pl} {U U' : Un} {o : Ou} (h : UnAt w L U) (s : Value) (pid : Int) (x : Cl) (i : List UInt8) (hx : x.n = 6) (hC : ∀ W, UnAt W L U → Calls Tryz.prog 91 #[.agg (tkR L.c s pid x i)] W (Left L o U' W)) :
    Calls Tryz.prog 42 #[.agg (tkR L.c s pid x i)] w (Left L o U' w) := by
  unfold Left at hC ⊢
  obtain ⟨WK, hWK⟩ : ∃ W, W = w.alloc (.cells (tkR L.c s pid x i) 113) := ⟨_, rfl⟩
  have hbK : Below w.heap.size w WK := by rw [hWK]; exact below_alloc _ _
  have hsK : WK.heap.size = w.heap.size + 1 := by rw [hWK]; simp
  have hxK : WK.heap[w.heap.size]? = some (.cells (tkR L.c s pid x i) 113) := by rw [hWK]; exact heap_alloc_new _ _
  obtain ⟨WZ, hWZ⟩ : ∃ W, W = WK.alloc (.cells (ouR Ou.zero) 110) := ⟨_, rfl⟩
  have hbZ : Below WK.heap.size WK WZ := by rw [hWZ]; exact below_alloc _ _
  have hsZ : WZ.heap.size = w.heap.size + 1 + 1 := by rw [hWZ]; simp [hsK]
  have hxZ : WZ.heap[w.heap.size + 1]? = some (.cells (ouR Ou.zero) 110) := by rw [hWZ, ← hsK]; exact heap_alloc_new _ _
  have hyK : WZ.heap[w.heap.size]? = some (.cells (tkR L.c s pid x i) 113) := ((hbZ.block _ (lt_of_heap (hxK))).trans (hxK))
  have hyZ := hxZ
  have hB : Below w.heap.size w WZ := ((hbK).trans (hbZ.mono (hbK).size))
  have HA0 : Hid (UnAt WZ L U) := h.below hB
  have HB0 : Hid (Below w.heap.size w WZ) := hB
  have hz : (#[.int .i64 0, .int .i64 0, .string ⟨#[]⟩, .int .i64 0, .int .i64 0, .string ⟨#[]⟩, .int .i64 0, .bool false] : Array Value) = ouR Ou.zero := rfl
  obtain ⟨kb, hKb⟩ : ∃ k, k = w.heap.size := ⟨_, rfl⟩
  rw [← hKb] at hyK
  have HK : Hid (WZ.heap[kb]? = some (.cells (tkR L.c s pid x i) 113)) := hyK
  have HKb : Hid (kb = w.heap.size) := hKb
  have HWK : Hid _ := hWK
  obtain ⟨zb, hZb⟩ : ∃ k, k = w.heap.size + 1 := ⟨_, rfl⟩
  rw [← hZb] at hyZ
  have HZ : Hid (WZ.heap[zb]? = some (.cells (ouR Ou.zero) 110)) := hyZ
  have HZb : Hid (zb = w.heap.size + 1) := hZb
  have HWZ : Hid _ := hWZ
  have HU : Hid (UnAt w L U) := h
  clear hWK hbK hsK hxK hKb hWZ hbZ hsZ hxZ hZb hB h
  obtain ⟨cc, hcc⟩ : ∃ c, c = L.c := ⟨_, rfl⟩
  rw [← hcc] at HK hyK HWK hC ⊢
  have hk3 : WZ.cell? ⟨kb, 3, none⟩ = some (.int .i64 6) := by rw [cell_of_heap HK.out, ← hx]; rfl
  have hC := hC WZ HA0.out
  obtain ⟨R, hR⟩ : ∃ R, R = ouR o := ⟨_, rfl⟩
  have HRs : Hid (R.size = 8) := by rw [hR]; exact ouR_size _
  have HOne : Hid (R.all (·.oneCell') = true) := by rw [hR]; exact ouR_one _
  rw [← hR]
  rw [← hR] at hC
  have HC : Hid (Calls Tryz.prog 91 #[.agg (tkR cc s pid x i)] WZ fun e w' => e = .returned (.agg R) ∧ UnAt w' L U' ∧ UT L.lo WZ w') := hC
  clear hR hyK hyZ hcc hx hC
  go_enter Tryz.func42, Tryz.ntmps42
  go_upto_region 1 with fail
  rw [← HWK.out, ← HWZ.out]
  rw [← HZb.out]
  rw [← HKb.out]
  go_upto_region 13 with fail
  have hC : Calls Tryz.prog 91 #[.agg (tkR cc s pid x i)] WZ fun e w' => e = .returned (.agg R) ∧ UnAt w' L U' ∧ UT L.lo WZ w' := HC.out
  clear HC hk3
  go_wp2_with (first
    | (refine wpList_load_row rfl 113 _ rfl kb rfl 113 (tkR cc s pid x i) (0, 0) _ HK.out Tryz.underlying113 rfl tkSize ?_)
    | fail)
  refine hC.mono ?_
  rintro e w1 ⟨rfl, ha1, hu1⟩
  have HA1 : Hid (UnAt w1 L U') := ha1
  have HU1 : Hid (UT L.lo w w1) := (UT.of_below HB0.out).trans hu1
  have HZ1 : Hid (w1.heap[zb]? = some (.cells (ouR Ou.zero) 110)) := hu1.other HZ.out rfl
  clear hC ha1 hu1
  have HM : Hid (w1.heap[zb]? = some (.cells (ouR Ou.zero) 110)) := HZ1.out
  have HQ : Hid ((w1.setRow zb R).heap[zb]? = some (.cells R 110)) := setRow_heap _ zb _ _ _ _ HM.out
  have HF : Hid (UnAt (w1.setRow zb R) L U' ∧ UT L.lo w (w1.setRow zb R)) := ⟨HA1.out.row HM.out rfl (by decide) (by decide), HU1.out.far (by rw [HZb.out]; omega)⟩
  go_wp2_with (first
    | (refine wpList_store_row rfl 110 _ _ rfl zb R rfl rfl 110 (ouR Ou.zero) HM.out (by rw [HRs.out]; exact ouSize) (by rw [HRs.out]; rfl) HOne.out ?_)
    | go_in)
  exact bodyPost_ret (v := .agg R) (results_cell_row rfl _ _ zb 110 R (0, 0) _ rfl HQ.out Tryz.underlying110 rfl (by rw [HRs.out]; exact ouSize)) rfl ⟨rfl, HF.out⟩
end Go.Proofs.YtikjfdihocgfpaaGreatDoor
namespace Go.Proofs.YtikjfdihocgfpaaGreatDoor
open Go.RowKit
def one (L : List UInt8) : Pp.PS := Pp.PS.none.set 0 (some L)
theorem one_has (L : List UInt8) : Pp.has (one L) 0 = true := Pp.has_of (i := 0) (by omega) (Pp.PS.set_same _ _ _)
theorem one_inn (L : List UInt8) : Pp.inn (one L) 0 = L := Pp.inn_of (i := 0) (by omega) (Pp.PS.set_same _ _ _)
theorem one_set (L M : List UInt8) : (one L).set 0 (some M) = one M := by
  funext k
  unfold one Pp.PS.set
  by_cases e : k = 0
  · rw [if_pos e, if_pos e]
  · rw [if_neg e, if_neg e, if_neg e]
theorem one_put (L s : List UInt8) : Pp.puI (one L) 0 s = (Pp.putN L s : Int) ∧ Pp.puS (one L) 0 s = one (L ++ s.take (Pp.putN L s)) := by
  unfold Pp.puI Pp.puS
  rw [if_pos (one_has L), if_pos (one_has L), one_inn]
  refine ⟨rfl, ?_⟩
  have : Pp.putL L s = L ++ s.take (Pp.putN L s) := by
    unfold Pp.putL Pp.putN
    rw [List.append_cancel_left_eq]
    rcases Nat.le_total s.length (8 - L.length) with q | q
    · rw [Nat.min_eq_left q, List.take_of_length_le q, List.take_length]
    · rw [Nat.min_eq_right q]
  rw [this]
  exact one_set _ _
theorem one_take (L : List UInt8) (n : Int) : Pp.taT (one L) 0 n = L.take (Pp.tk L n) ∧ Pp.taS (one L) 0 n = one (L.drop (Pp.tk L n)) := by
  unfold Pp.taT Pp.taS
  rw [if_pos (one_has L), one_inn]
  exact ⟨rfl, one_set _ _⟩
def fP : Fd.FS := UnP.F
def sP : Sg.SS := UnP.S
def tP : Pc.St := UnP.T
/-- The core with one pipe, these bytes in it. -/
def UnQ (M : List UInt8) : Un := ⟨fP, one M, sP, tP⟩
theorem unP_eq : UnP = UnQ [] := by kernel_rfl
/-- .. its writer's end closed. -/
def UnC : Un := ⟨Fd.closeT fP 1 4, one [], sP, tP⟩
/-- What a write answers. -/
def pwO (M t : List UInt8) : Ou := if Pp.putN M t = 0 then Ou.wait else Ou.num (Pp.putN M t : Nat)
/-- What a read answers. -/
def prO (M : List UInt8) (n : Int) : Ou := if M.take (Pp.tk M n) = [] then Ou.wait else Ou.got (M.take (Pp.tk M n))
section
variable (F : Fd.FS) (S : Sg.SS) (T : Pc.St) (M t : List UInt8)
theorem wpO_one : wpO ⟨F, one M, S, T⟩ 0 t = pwO M t := by
  unfold wpO pwO
  dsimp only
  rw [(one_put M t).1]
  by_cases h0 : Pp.putN M t = 0
  · rw [if_pos h0, if_pos (by omega)]
  · rw [if_neg h0, if_neg (by omega)]
theorem wpU_one : wpU ⟨F, one M, S, T⟩ 0 t = ⟨F, one (M ++ t.take (Pp.putN M t)), S, T⟩ := by
  unfold wpU
  dsimp only
  rw [(one_put M t).2]
theorem rpO_one (n : Int) (ho : opB F 4 0 = true) : rpO ⟨F, one M, S, T⟩ 0 n = prO M n := by
  unfold rpO prO
  dsimp only
  rw [(one_take M n).1, ho]
  by_cases h0 : M.take (Pp.tk M n) = []
  · rw [if_pos h0, if_pos ⟨h0, rfl⟩]
  · rw [if_neg h0, if_neg (fun q => h0 q.1)]
theorem rpU_one (n : Int) : rpU ⟨F, one M, S, T⟩ 0 n = ⟨F, one (M.drop (Pp.tk M n)), S, T⟩ := by
  unfold rpU
  dsimp only
  rw [(one_take M n).2]
end
theorem p_lv : Pc.liv tP 1 = true := by kernel_rfl
theorem p_g4 : Fd.getE fP 1 (smI 4) = 0 := by kernel_rfl
theorem p_x4 : Fd.getX fP 1 (smI 4) = ⟨4, 0, 0, false, 1⟩ := by kernel_rfl
theorem p_g3 : Fd.getE fP 1 (smI 3) = 0 := by kernel_rfl
theorem p_x3 : Fd.getX fP 1 (smI 3) = ⟨3, 0, 0, false, 1⟩ := by kernel_rfl
theorem p_o3 : opB fP 3 0 = true := by kernel_rfl
theorem p_o4 : opB fP 4 0 = true := by kernel_rfl
theorem p_c4 : Fd.closeX fP 1 (smI 4) = ⟨4, 0, 0, false, 0⟩ := by kernel_rfl
theorem p_k4 : opB (Fd.closeT fP 1 (smI 4)) 3 0 = true := by kernel_rfl
theorem c_g3 : Fd.getE (Fd.closeT fP 1 4) 1 (smI 3) = 0 := by kernel_rfl
theorem c_x3 : Fd.getX (Fd.closeT fP 1 4) 1 (smI 3) = ⟨3, 0, 0, false, 1⟩ := by kernel_rfl
theorem e_rp : prO [] 1 = Ou.wait := by kernel_rfl
theorem e_dr : ([] : List UInt8).drop (Pp.tk [] 1) = [] := List.drop_nil
theorem c_rp : rpO ⟨Fd.closeT fP 1 4, one [], sP, tP⟩ 0 1 = Ou.got [] := by kernel_rfl
section
variable {w : World} {L : Pl}
set_option maxRecDepth 100000 in
theorem pq_write {M : List UInt8} (h : UnAt w L (UnQ M)) (B : Nat) (t : List UInt8) (ht : t ≠ []) : Calls Tryz.prog 12 #[ptr L.c, .iface 41 (ptr B), .int .i64 1, .agg (clR ⟨8, 4, 0, 0, t, []⟩), Pp.tx []] w (DoIs L (pwO M t) (UnQ (M ++ t.take (Pp.putN M t))) w) := by
  unfold UnQ at h ⊢
  rw [← wpO_one fP sP tP M t, ← wpU_one fP sP tP M t]
  exact Do_at h _ _ (store_eq B) 1 ⟨8, 4, 0, 0, t, []⟩ [] p_lv (fun _ hW => do_8 hW _ 1 ⟨8, 4, 0, 0, t, []⟩ [] rfl (fun _ hV => write_pipe hV _ 1 ⟨8, 4, 0, 0, t, []⟩ [] (by show (0 : Int) ≤ 4; decide) 0 0 1 false p_g4 p_x4 ht p_o3))
set_option maxRecDepth 100000 in
theorem pq_read {M : List UInt8} (h : UnAt w L (UnQ M)) (B : Nat) (n : Int) (h1 : 1 ≤ n) (h2 : n ≤ 128) : Calls Tryz.prog 12 #[ptr L.c, .iface 41 (ptr B), .int .i64 1, .agg (clR ⟨7, 3, 0, n, [], []⟩), Pp.tx []] w (DoIs L (prO M n) (UnQ (M.drop (Pp.tk M n))) w) := by
  unfold UnQ at h ⊢
  rw [← rpO_one fP sP tP M n p_o4, ← rpU_one fP sP tP M n]
  exact Do_at h _ _ (store_eq B) 1 ⟨7, 3, 0, n, [], []⟩ [] p_lv (fun _ hW => do_7 hW _ 1 ⟨7, 3, 0, n, [], []⟩ [] rfl (fun _ hV => read_pipe hV _ 1 ⟨7, 3, 0, n, [], []⟩ [] (by show (0 : Int) ≤ 3; decide) 0 0 1 false p_g3 p_x3 h1 h2))
theorem pq_empty (h : UnAt w L (UnQ [])) (B : Nat) : Calls Tryz.prog 12 #[ptr L.c, .iface 41 (ptr B), .int .i64 1, .agg (clR ⟨7, 3, 0, 1, [], []⟩), Pp.tx []] w (DoIs L Ou.wait (UnQ []) w) := by
  have h1 := pq_read h B 1 (by decide) (by decide)
  rw [e_rp, e_dr] at h1
  exact h1
set_option maxRecDepth 100000 in
theorem pq_close (h : UnAt w L (UnQ [])) (B : Nat) : Calls Tryz.prog 12 #[ptr L.c, .iface 41 (ptr B), .int .i64 1, .agg (clR ⟨6, 4, 0, 0, [], []⟩), Pp.tx []] w (DoIs L (Ou.num 0) UnC w) := by
  unfold UnQ at h
  unfold UnC
  exact Do_at h _ _ (store_eq B) 1 ⟨6, 4, 0, 0, [], []⟩ [] p_lv (fun _ hW => do_6 hW _ 1 ⟨6, 4, 0, 0, [], []⟩ [] rfl (fun _ hV => close_kept hV _ 1 ⟨6, 4, 0, 0, [], []⟩ [] (by show (0 : Int) ≤ 4; decide) 0 0 false p_g4 p_c4 p_k4))
set_option maxRecDepth 100000 in
theorem pq_end (h : UnAt w L UnC) (B : Nat) : Calls Tryz.prog 12 #[ptr L.c, .iface 41 (ptr B), .int .i64 1, .agg (clR ⟨7, 3, 0, 1, [], []⟩), Pp.tx []] w (DoIs L (Ou.got []) (rpU UnC 0 1) w) := by
  unfold UnC at h ⊢
  rw [← c_rp]
  exact Do_at h _ _ (store_eq B) 1 ⟨7, 3, 0, 1, [], []⟩ [] p_lv (fun _ hW => do_7 hW _ 1 ⟨7, 3, 0, 1, [], []⟩ [] rfl (fun _ hV => read_pipe hV _ 1 ⟨7, 3, 0, 1, [], []⟩ [] (by show (0 : Int) ≤ 3; decide) 0 0 1 false c_g3 c_x3 (by show (1 : Int) ≤ 1; decide) (by show (1 : Int) ≤ 128; decide)))
end
end Go.Proofs.YtikjfdihocgfpaaGreatDoor
