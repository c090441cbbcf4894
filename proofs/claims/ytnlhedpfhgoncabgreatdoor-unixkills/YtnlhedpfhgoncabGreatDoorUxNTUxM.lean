/- Package unix: Do. -/
/- Package unix: what is to be done is done, by its number. -/
import Derived.Test.YtnlhedpfhgoncabGreatDoorUxATUxT
import Derived.Deep.DeepCutAuto
set_option linter.all false
namespace Go.Proofs.YtnlhedpfhgoncabGreatDoor
open Go.RowKit
theorem results_cttt {P : Program} {fn : Func} {p u v s : Tmp} {t1 : TypeId} (h : fn.results = #[.cell p t1, .tmp u, .tmp v, .tmp s]) (tmps : Array Value) (w : World) (g1 : Nat) (c1 : Array Value) (f1 : Nat × Nat) (d1 : TypeDesc)
    (hp : tmps.getD p undef = .pointer (some ⟨g1, 0, none⟩)) (hg1 : w.heap[g1]? = some (.cells c1 t1 f1)) (hu1 : P.underlying t1 = some d1) (hd1 : (match d1 with | .struct _ | .array _ _ => true | _ => false) = true) (hi1 : (P.info? t1).map (·.size) = some c1.size) :
    (results fn tmps).run P w = .ok (.tuple #[.agg c1, tmps.getD u undef, tmps.getD v undef, tmps.getD s undef]) w := by
  have hp' : tmps[p]?.getD undef = .pointer (some ⟨g1, 0, none⟩) := by simpa using hp
  simp [results, h, hp', asAddr, run_loadVar_row w g1 t1 t1 c1 f1 d1 hg1 hu1 hd1 hi1]
theorem clSize : (Tryz.prog.info? 42).map (·.size) = some 6 := by kernel_rfl
theorem reSize : (Tryz.prog.info? 31).map (·.size) = some 5 := by kernel_rfl
/-- A store within its guard. -/
abbrev guV (t : TypeId) (v : Value) : Value := .iface 124 (.agg #[.iface t v])
set_option maxHeartbeats 4000000 in
set_option maxRecDepth 100000 in
theorem Do_at {w : World} {L : Pl} {U U' : Un} {o : Ou} (h : UnAt w L U) (t : TypeId) (v : Value) (hn : ∀ W, (binOp BinOp.eql 63 (.iface t v) .nilIface).run Tryz.prog W = .ok (.bool false) W) (pid : Int) (x : Cl) (i : List UInt8) (hlv : Pc.liv U.T pid = true)
    (hC : ∀ W, UnAt W L U → Calls Tryz.prog 21 #[.agg (tkR L.c (guV t v) pid x i)] W (Left L o U' W)) :
    Calls Tryz.prog 7 #[ptr L.c, .iface t v, .int .i64 pid, .agg (clR x), Pp.tx i] w fun e w' => e = .returned (.tuple #[.agg (reR o), Pp.tx o.o, .int .i64 o.k, .bool o.w]) ∧ UnAt w' L U' ∧ UT L.lo w w' := by
  unfold Left at hC
  obtain ⟨WC, hWC⟩ : ∃ W, W = w.alloc (.cells (clR x) 42) := ⟨_, rfl⟩
  have hbC : Below w.heap.size w WC := by rw [hWC]; exact below_alloc _ _
  have hsC : WC.heap.size = w.heap.size + 1 := by rw [hWC]; simp
  have hxC : WC.heap[w.heap.size]? = some (.cells (clR x) 42) := by rw [hWC]; exact heap_alloc_new _ _
  obtain ⟨WZ, hWZ⟩ : ∃ W, W = WC.alloc (.cells (reR Ou.zero) 31) := ⟨_, rfl⟩
  have hbZ : Below WC.heap.size WC WZ := by rw [hWZ]; exact below_alloc _ _
  have hsZ : WZ.heap.size = w.heap.size + 1 + 1 := by rw [hWZ]; simp [hsC]
  have hxZ : WZ.heap[w.heap.size + 1]? = some (.cells (reR Ou.zero) 31) := by rw [hWZ, ← hsC]; exact heap_alloc_new _ _
  have hyC : WZ.heap[w.heap.size]? = some (.cells (clR x) 42) := ((hbZ.block _ (lt_of_heap (hxC))).trans (hxC))
  have hyZ := hxZ
  have hB : Below w.heap.size w WZ := ((hbC).trans (hbZ.mono (hbC).size))
  have HA0 : Hid (UnAt WZ L U) := h.below hB
  have HB0 : Hid (Below w.heap.size w WZ) := hB
  obtain ⟨cb, hCb⟩ : ∃ k, k = w.heap.size := ⟨_, rfl⟩
  rw [← hCb] at hyC
  have HC : Hid (WZ.heap[cb]? = some (.cells (clR x) 42)) := hyC
  have HCb : Hid (cb = w.heap.size) := hCb
  have HWC : Hid _ := hWC
  obtain ⟨zb, hZb⟩ : ∃ k, k = w.heap.size + 1 := ⟨_, rfl⟩
  rw [← hZb] at hyZ
  have HZ : Hid (WZ.heap[zb]? = some (.cells (reR Ou.zero) 31)) := hyZ
  have HZb : Hid (zb = w.heap.size + 1) := hZb
  have HWZ : Hid _ := hWZ
  have HU : Hid (UnAt w L U) := h
  clear hWC hbC hsC hxC hCb hWZ hbZ hsZ hxZ hZb hB h
  have hz : (#[.int .i64 0, .int .i64 0, .string ⟨#[]⟩, .int .i64 0, .int .i64 0] : Array Value) = reR Ou.zero := rfl
  have hLv := ulive_at HA0.out pid
  rw [hlv] at hLv
  have hGu := guard_at t v hn
  obtain ⟨cc, hcc⟩ : ∃ c, c = L.c := ⟨_, rfl⟩
  rw [← hcc] at hC hLv ⊢
  have Hcc : Hid (cc = L.c) := hcc
  have hS : ∀ W, UT L.lo WZ W → W.rangeAt cb 0 [.int .i64 x.n, .int .u64 x.a, .int .u64 x.b, .int .u64 x.c, Pp.tx x.t, Pp.tx x.u] := fun W hW => by
    have hb := hW.other HC.out rfl
    intro j v hv
    rw [Nat.zero_add, cell_of_heap hb]
    simpa using hv
  have hBd : ∀ W, (Instr.build 68 #[(0, ptr cc), (1, guV t v), (2, .int .i64 pid), (3, .agg #[Value.int .i64 x.n, .int .u64 x.a, .int .u64 x.b, .int .u64 x.c, Pp.tx x.t, Pp.tx x.u]), (4, Pp.tx i)]).run Tryz.prog W = .ok (.agg (tkR cc (guV t v) pid x i)) W := fun W => by kernel_rfl
  obtain ⟨R, hR⟩ : ∃ R, R = ouR o := ⟨_, rfl⟩
  have HRs : Hid (R.size = 8) := by rw [hR]; exact ouR_size _
  have HOne : Hid (R.all (·.oneCell') = true) := by rw [hR]; exact ouR_one _
  have HRq : Hid (R = ouR o) := hR
  rw [← hR] at hC
  have hDo : ∀ W, UnAt W L U → Calls Tryz.prog 21 #[.agg (tkR cc (guV t v) pid x i)] W fun e w' => e = .returned (.agg R) ∧ UnAt w' L U' ∧ UT L.lo W w' := hC
  clear hC hR hyC hyZ hcc hn hlv
  go_enter Tryz.func7, Tryz.ntmps7
  go_wp2_with fail
  rw [← HWC.out, ← HWZ.out]
  rw [← HZb.out]
  rw [← HCb.out]
  refine hLv.mono ?_
  rintro e w1 ⟨rfl, hw⟩
  rw [hw]
  clear hw w1 hLv
  go_upto_region 3 with fail
  go_cut [14] (fun p wc => ∃ fb, p = ptr fb ∧ WZ.heap.size ≤ fb ∧ wc.heap[fb]? = some (.cells R 65) ∧ UnAt wc L U' ∧ UT L.lo WZ wc)
  case first => as_aux_lemma =>
    refine wp_region_held_drew (S := fun w' => w'.rangeAt cb 0 [Value.int .i64 x.n, .int .u64 x.a, .int .u64 x.b, .int .u64 x.c, Pp.tx x.t, Pp.tx x.u]) (by kernel_rfl) (hS _ (UT.of_below (Di.drewN_below (w := WZ) ⟨1, rfl⟩))) (fun hHeld => ?_)
    refine wpAnyH_take (i := 0) (v := ?_) rfl (by kernel_rfl) (by kernel_rfl) (by kernel_rfl) (fun _ _ _ h => h) (Or.inl ⟨by kernel_rfl, ?_⟩) (by assumption) ?_
    rotate_left
    · (intro w hSw; (try dsimp only at hSw); go_simp) <;> with_reducible rfl
    (try simp only [Act.put, List.getElem_toArray, List.getElem_cons_zero, List.setIfInBounds_toArray, List.set_cons_zero, List.set_cons_succ])
    refine wpAnyH_take (i := 1) (v := ?_) rfl (by kernel_rfl) (by kernel_rfl) (by kernel_rfl) (fun _ _ _ h => h) (Or.inl ⟨by kernel_rfl, ?_⟩) (by assumption) ?_
    rotate_left
    · (intro w hSw; (try dsimp only at hSw); go_simp) <;> with_reducible rfl
    (try simp only [Act.put, List.getElem_toArray, List.getElem_cons_zero, List.getElem_cons_succ, List.setIfInBounds_toArray, List.set_cons_zero, List.set_cons_succ])
    refine wpAnyH_take (i := 3) (v := ?_) rfl (by kernel_rfl) (by kernel_rfl) (by kernel_rfl) (fun _ _ _ h => h) (Or.inl ⟨by kernel_rfl, ?_⟩) (by assumption) ?_
    rotate_left
    · (intro w hSw; (try dsimp only at hSw); go_simp) <;> with_reducible rfl
    (try simp only [Act.put, List.getElem_toArray, List.getElem_cons_zero, List.getElem_cons_succ, List.setIfInBounds_toArray, List.set_cons_zero, List.set_cons_succ])
    refine wpAnyH_take (i := 4) (v := .agg ([Value.int .i64 x.n, .int .u64 x.a, .int .u64 x.b, .int .u64 x.c, Pp.tx x.t, Pp.tx x.u]).toArray) rfl (by kernel_rfl) (by kernel_rfl) (by kernel_rfl) (fun _ _ _ h => h) (yieldsIf_load_mid (by kernel_rfl) 42 _ rfl cb 0 rfl ([Value.int .i64 x.n, .int .u64 x.a, .int .u64 x.b, .int .u64 x.c, Pp.tx x.t, Pp.tx x.u]) _ (fun w hw => hw) Tryz.underlying42 rfl (clSize)) (by assumption) ?_
    (try simp only [Act.put, List.getElem_toArray, List.getElem_cons_zero, List.getElem_cons_succ, List.setIfInBounds_toArray, List.set_cons_zero, List.set_cons_succ])
    refine wpAnyH_take (i := 5) (v := ?_) rfl (by kernel_rfl) (by kernel_rfl) (by kernel_rfl) (fun _ _ _ h => h) (Or.inl ⟨by kernel_rfl, ?_⟩) (by assumption) ?_
    rotate_left
    · (intro w hSw; (try dsimp only at hSw); go_simp) <;> with_reducible rfl
    (try simp only [Act.put, List.getElem_toArray, List.getElem_cons_zero, List.getElem_cons_succ, List.setIfInBounds_toArray, List.set_cons_zero, List.set_cons_succ])
    obtain ⟨v0, hv0⟩ : ∃ V, V = WZ.drew := ⟨_, rfl⟩
    have H0 : Hid (UT L.lo WZ v0) := by rw [hv0]; exact UT.of_below (Di.drewN_below (w := WZ) ⟨1, rfl⟩)
    have A0 : Hid (UnAt v0 L U) := by rw [hv0]; exact HA0.out.below (Di.drewN_below (w := WZ) ⟨1, rfl⟩)
    rw [← hv0]
    clear hv0
    generalize tkR cc (guV t v) pid x i = TK at hBd hDo
    refine wpAnyH_ready (rs := [2, 8]) (by kernel_rfl) (by simp) ?_
    refine AllReadyH.cons rfl (fun K hK => ?_) (AllReadyH.cons rfl (fun K hK => ?_) (AllReadyH.nil))
    · go_simp
      refine (hGu v0).mono ?_
      rintro e v1 ⟨rfl, hw⟩
      have hu : UT L.lo v0 v1 := by rw [hw]; exact UT.refl _ _
      have ha : UnAt v1 L U := by rw [hw]; exact A0.out
      clear hw
      have H1 : Hid (UT L.lo WZ v1) := H0.out.trans hu
      have A1 : Hid (UnAt v1 L U) := ha
      clear hu ha
      refine hK.out _ _ (hS _ H1.out) (fun hHeld => ?_)
      clear hK K
      (try simp only [Act.put, List.getElem_toArray, List.getElem_cons_zero, List.getElem_cons_succ, List.setIfInBounds_toArray, List.set_cons_zero, List.set_cons_succ])
      refine wpAnyH_take (i := 6) (v := .agg TK) rfl (by kernel_rfl) (by kernel_rfl) (by kernel_rfl) (fun _ _ _ h => h) (yieldsIf_build (by kernel_rfl) 68 [(0, .tmp 20), (1, .tmp 22), (2, .tmp 23), (3, .tmp 24), (4, .tmp 25)] rfl [(0, ptr cc), (1, guV t v), (2, .int .i64 pid), (3, .agg #[Value.int .i64 x.n, .int .u64 x.a, .int .u64 x.b, .int .u64 x.c, Pp.tx x.t, Pp.tx x.u]), (4, Pp.tx i)] rfl _ hBd) (by assumption) ?_
      (try simp only [Act.put, List.getElem_toArray, List.getElem_cons_zero, List.getElem_cons_succ, List.setIfInBounds_toArray, List.set_cons_zero, List.set_cons_succ])
      refine wpAnyH_ready (rs := [7, 8]) (by kernel_rfl) (by simp) ?_
      refine AllReadyH.cons rfl (fun K hK => ?_) (AllReadyH.cons rfl (fun K hK => ?_) (AllReadyH.nil))
      · go_simp
        refine (hDo v1 A1.out).mono ?_
        rintro e v2 ⟨rfl, ha, hu⟩
        have H2 : Hid (UT L.lo WZ v2) := H1.out.trans hu
        have A2 : Hid (UnAt v2 L U') := ha
        clear hu ha
        refine hK.out _ _ (hS _ H2.out) (fun hHeld => ?_)
        clear hK K
        (try simp only [Act.put, List.getElem_toArray, List.getElem_cons_zero, List.getElem_cons_succ, List.setIfInBounds_toArray, List.set_cons_zero, List.set_cons_succ])
        refine wpAnyH_ready (rs := [8]) (by kernel_rfl) (by simp) ?_
        refine AllReadyH.cons rfl (fun K hK => ?_) (AllReadyH.nil)
        refine step_alloc rfl 65 rfl (ouR Ou.zero) out_alloc ?_
        obtain ⟨v3, hv⟩ : ∃ V, V = v2.alloc (.cells (ouR Ou.zero) 65) := ⟨_, rfl⟩
        obtain ⟨fb, hfb⟩ : ∃ k, k = v2.heap.size := ⟨_, rfl⟩
        have H3 : Hid (UT L.lo WZ v3) := by rw [hv]; exact H2.out.trans (UT.of_below (below_alloc v2 _))
        have A3 : Hid (UnAt v3 L U') := by rw [hv]; exact A2.out.below (below_alloc v2 _)
        have P3 : Hid (v3.heap[fb]? = some (.cells (ouR Ou.zero) 65)) := by rw [hv, hfb]; exact heap_alloc_new _ _
        have HL : Hid (WZ.heap.size ≤ fb) := by rw [hfb]; exact H2.out.size
        rw [← hv, ← hfb]
        clear hv hfb
        refine hK.out _ _ (hS _ H3.out) (fun hHeld => ?_)
        clear hK K
        (try simp only [Act.put, List.getElem_toArray, List.getElem_cons_zero, List.getElem_cons_succ, List.setIfInBounds_toArray, List.set_cons_zero, List.set_cons_succ])
        refine wpAnyH_ready (rs := [9]) (by kernel_rfl) (by simp) ?_
        refine AllReadyH.cons rfl (fun K hK => ?_) (AllReadyH.nil)
        refine step_store_row rfl 65 (.tmp 14) (.tmp 27) rfl fb R rfl rfl 65 (ouR Ou.zero) P3.out (by rw [HRs.out]; exact ouSize) (by rw [HRs.out]; rfl) HOne.out ?_
        have HQ : Hid ((v3.setRow fb R).heap[fb]? = some (.cells R 65)) := setRow_heap _ fb _ _ _ _ P3.out
        have HE : Hid (UT L.lo WZ (v3.setRow fb R)) := H3.out.far HL.out
        have HAe : Hid (UnAt (v3.setRow fb R) L U') := A3.out.row P3.out rfl (by decide) (by decide)
        refine hK.out _ _ (hS _ HE.out) (fun hHeld => ?_)
        clear hK K
        (try simp only [Act.put, List.getElem_toArray, List.getElem_cons_zero, List.getElem_cons_succ, List.setIfInBounds_toArray, List.set_cons_zero, List.set_cons_succ])
        refine wpAnyH_done (by kernel_rfl) ?_ _
        clear hS hGu hDo hBd
        go_wp2_with fail
        go_meet
        case rel => exact ⟨fb, rfl, HL.out, HQ.out, HAe.out, HE.out⟩
      · refine step_alloc rfl 65 rfl (ouR Ou.zero) out_alloc ?_
        obtain ⟨v2, hv⟩ : ∃ V, V = v1.alloc (.cells (ouR Ou.zero) 65) := ⟨_, rfl⟩
        obtain ⟨fb, hfb⟩ : ∃ k, k = v1.heap.size := ⟨_, rfl⟩
        have H2 : Hid (UT L.lo WZ v2) := by rw [hv]; exact H1.out.trans (UT.of_below (below_alloc v1 _))
        have A2 : Hid (UnAt v2 L U) := by rw [hv]; exact A1.out.below (below_alloc v1 _)
        have P2 : Hid (v2.heap[fb]? = some (.cells (ouR Ou.zero) 65)) := by rw [hv, hfb]; exact heap_alloc_new _ _
        have HL : Hid (WZ.heap.size ≤ fb) := by rw [hfb]; exact H1.out.size
        rw [← hv, ← hfb]
        clear hv hfb
        refine hK.out _ _ (hS _ H2.out) (fun hHeld => ?_)
        clear hK K
        (try simp only [Act.put, List.getElem_toArray, List.getElem_cons_zero, List.getElem_cons_succ, List.setIfInBounds_toArray, List.set_cons_zero, List.set_cons_succ])
        refine wpAnyH_ready (rs := [7]) (by kernel_rfl) (by simp) ?_
        refine AllReadyH.cons rfl (fun K hK => ?_) (AllReadyH.nil)
        go_simp
        refine (hDo v2 A2.out).mono ?_
        rintro e v3 ⟨rfl, ha, hu⟩
        have H3 : Hid (UT L.lo WZ v3) := H2.out.trans hu
        have A3 : Hid (UnAt v3 L U') := ha
        have P3 : Hid (v3.heap[fb]? = some (.cells (ouR Ou.zero) 65)) := hu.other P2.out rfl
        clear hu ha
        refine hK.out _ _ (hS _ H3.out) (fun hHeld => ?_)
        clear hK K
        (try simp only [Act.put, List.getElem_toArray, List.getElem_cons_zero, List.getElem_cons_succ, List.setIfInBounds_toArray, List.set_cons_zero, List.set_cons_succ])
        refine wpAnyH_ready (rs := [9]) (by kernel_rfl) (by simp) ?_
        refine AllReadyH.cons rfl (fun K hK => ?_) (AllReadyH.nil)
        refine step_store_row rfl 65 (.tmp 14) (.tmp 27) rfl fb R rfl rfl 65 (ouR Ou.zero) P3.out (by rw [HRs.out]; exact ouSize) (by rw [HRs.out]; rfl) HOne.out ?_
        have HQ : Hid ((v3.setRow fb R).heap[fb]? = some (.cells R 65)) := setRow_heap _ fb _ _ _ _ P3.out
        have HE : Hid (UT L.lo WZ (v3.setRow fb R)) := H3.out.far HL.out
        have HAe : Hid (UnAt (v3.setRow fb R) L U') := A3.out.row P3.out rfl (by decide) (by decide)
        refine hK.out _ _ (hS _ HE.out) (fun hHeld => ?_)
        clear hK K
        (try simp only [Act.put, List.getElem_toArray, List.getElem_cons_zero, List.getElem_cons_succ, List.setIfInBounds_toArray, List.set_cons_zero, List.set_cons_succ])
        refine wpAnyH_done (by kernel_rfl) ?_ _
        clear hS hGu hDo hBd
        go_wp2_with fail
        go_meet
        case rel => exact ⟨fb, rfl, HL.out, HQ.out, HAe.out, HE.out⟩
    · refine step_alloc rfl 65 rfl (ouR Ou.zero) out_alloc ?_
      obtain ⟨v1, hv⟩ : ∃ V, V = v0.alloc (.cells (ouR Ou.zero) 65) := ⟨_, rfl⟩
      obtain ⟨fb, hfb⟩ : ∃ k, k = v0.heap.size := ⟨_, rfl⟩
      have H1 : Hid (UT L.lo WZ v1) := by rw [hv]; exact H0.out.trans (UT.of_below (below_alloc v0 _))
      have A1 : Hid (UnAt v1 L U) := by rw [hv]; exact A0.out.below (below_alloc v0 _)
      have P1 : Hid (v1.heap[fb]? = some (.cells (ouR Ou.zero) 65)) := by rw [hv, hfb]; exact heap_alloc_new _ _
      have HL : Hid (WZ.heap.size ≤ fb) := by rw [hfb]; exact H0.out.size
      rw [← hv, ← hfb]
      clear hv hfb
      refine hK.out _ _ (hS _ H1.out) (fun hHeld => ?_)
      clear hK K
      (try simp only [Act.put, List.getElem_toArray, List.getElem_cons_zero, List.getElem_cons_succ, List.setIfInBounds_toArray, List.set_cons_zero, List.set_cons_succ])
      refine wpAnyH_ready (rs := [2]) (by kernel_rfl) (by simp) ?_
      refine AllReadyH.cons rfl (fun K hK => ?_) (AllReadyH.nil)
      go_simp
      refine (hGu v1).mono ?_
      rintro e v2 ⟨rfl, hw⟩
      have hu : UT L.lo v1 v2 := by rw [hw]; exact UT.refl _ _
      have ha : UnAt v2 L U := by rw [hw]; exact A1.out
      clear hw
      have H2 : Hid (UT L.lo WZ v2) := H1.out.trans hu
      have A2 : Hid (UnAt v2 L U) := ha
      have P2 : Hid (v2.heap[fb]? = some (.cells (ouR Ou.zero) 65)) := hu.other P1.out rfl
      clear hu ha
      refine hK.out _ _ (hS _ H2.out) (fun hHeld => ?_)
      clear hK K
      (try simp only [Act.put, List.getElem_toArray, List.getElem_cons_zero, List.getElem_cons_succ, List.setIfInBounds_toArray, List.set_cons_zero, List.set_cons_succ])
      refine wpAnyH_take (i := 6) (v := .agg TK) rfl (by kernel_rfl) (by kernel_rfl) (by kernel_rfl) (fun _ _ _ h => h) (yieldsIf_build (by kernel_rfl) 68 [(0, .tmp 20), (1, .tmp 22), (2, .tmp 23), (3, .tmp 24), (4, .tmp 25)] rfl [(0, ptr cc), (1, guV t v), (2, .int .i64 pid), (3, .agg #[Value.int .i64 x.n, .int .u64 x.a, .int .u64 x.b, .int .u64 x.c, Pp.tx x.t, Pp.tx x.u]), (4, Pp.tx i)] rfl _ hBd) (by assumption) ?_
      (try simp only [Act.put, List.getElem_toArray, List.getElem_cons_zero, List.getElem_cons_succ, List.setIfInBounds_toArray, List.set_cons_zero, List.set_cons_succ])
      refine wpAnyH_ready (rs := [7]) (by kernel_rfl) (by simp) ?_
      refine AllReadyH.cons rfl (fun K hK => ?_) (AllReadyH.nil)
      go_simp
      refine (hDo v2 A2.out).mono ?_
      rintro e v3 ⟨rfl, ha, hu⟩
      have H3 : Hid (UT L.lo WZ v3) := H2.out.trans hu
      have A3 : Hid (UnAt v3 L U') := ha
      have P3 : Hid (v3.heap[fb]? = some (.cells (ouR Ou.zero) 65)) := hu.other P2.out rfl
      clear hu ha
      refine hK.out _ _ (hS _ H3.out) (fun hHeld => ?_)
      clear hK K
      (try simp only [Act.put, List.getElem_toArray, List.getElem_cons_zero, List.getElem_cons_succ, List.setIfInBounds_toArray, List.set_cons_zero, List.set_cons_succ])
      refine wpAnyH_ready (rs := [9]) (by kernel_rfl) (by simp) ?_
      refine AllReadyH.cons rfl (fun K hK => ?_) (AllReadyH.nil)
      refine step_store_row rfl 65 (.tmp 14) (.tmp 27) rfl fb R rfl rfl 65 (ouR Ou.zero) P3.out (by rw [HRs.out]; exact ouSize) (by rw [HRs.out]; rfl) HOne.out ?_
      have HQ : Hid ((v3.setRow fb R).heap[fb]? = some (.cells R 65)) := setRow_heap _ fb _ _ _ _ P3.out
      have HE : Hid (UT L.lo WZ (v3.setRow fb R)) := H3.out.far HL.out
      have HAe : Hid (UnAt (v3.setRow fb R) L U') := A3.out.row P3.out rfl (by decide) (by decide)
      refine hK.out _ _ (hS _ HE.out) (fun hHeld => ?_)
      clear hK K
      (try simp only [Act.put, List.getElem_toArray, List.getElem_cons_zero, List.getElem_cons_succ, List.setIfInBounds_toArray, List.set_cons_zero, List.set_cons_succ])
      refine wpAnyH_done (by kernel_rfl) ?_ _
      clear hS hGu hDo hBd
      go_wp2_with fail
      go_meet
      case rel => exact ⟨fb, rfl, HL.out, HQ.out, HAe.out, HE.out⟩
  case rest =>
    obtain ⟨fb, rfl, hfb, hfr, hac, huc⟩ := hcut
    have HFr : Hid (wc.heap[fb]? = some (.cells R 65)) := hfr
    have HZc : Hid (wc.heap[zb]? = some (.cells (reR Ou.zero) 31)) := huc.other HZ.out rfl
    have HAc : Hid (UnAt wc L U') := hac
    have HUc : Hid (UT L.lo WZ wc) := huc
    have hne : fb ≠ zb := by have := lt_of_heap HZ.out; omega
    have HNe : Hid (fb ≠ zb) := hne
    clear hS hGu hfr hac huc hne hfb
    obtain ⟨on, oe, od, oa, ob, oo, ok, ow⟩ := o
    have hS : ∀ W : World, W.heap[fb]? = some (.cells R 65) → W.rangeAt fb 0 [.int .i64 on, .int .i64 oe, Pp.tx od, .int .i64 oa, .int .i64 ob] ∧ W.cell? ⟨fb, 5, none⟩ = some (Pp.tx oo) ∧ W.cell? ⟨fb, 6, none⟩ = some (.int .i64 ok) ∧ W.cell? ⟨fb, 7, none⟩ = some (.bool ow) := fun W hb => by
      rw [HRq.out] at hb
      refine ⟨fun j v hv => ?_, by rw [cell_of_heap hb]; rfl, by rw [cell_of_heap hb]; rfl, by rw [cell_of_heap hb]; rfl⟩
      rw [Nat.zero_add, cell_of_heap hb]
      match j, hv with
      | 0, hv => exact hv
      | 1, hv => exact hv
      | 2, hv => exact hv
      | 3, hv => exact hv
      | 4, hv => exact hv
      | j + 5, hv => simp at hv
    clear hDo
    go_upto_region 4 with fail
    obtain ⟨v0, hv0⟩ : ∃ V, V = wc.drew := ⟨_, rfl⟩
    have hB0 : Below wc.heap.size wc v0 := by rw [hv0]; exact Di.drewN_below (w := wc) ⟨1, rfl⟩
    have HF0 : Hid (v0.heap[fb]? = some (.cells R 65)) := (hB0.block _ (lt_of_heap HFr.out)).trans HFr.out
    have HZ0 : Hid (v0.heap[zb]? = some (.cells (reR Ou.zero) 31)) := (hB0.block _ (lt_of_heap HZc.out)).trans HZc.out
    have HA1 : Hid (UnAt v0 L U') := HAc.out.below hB0
    have HU1 : Hid (UT L.lo w v0) := ((UT.of_below HB0.out).trans HUc.out).trans (UT.of_below hB0)
    refine wp_region_held_drew (S := fun w' => w'.rangeAt fb 0 [.int .i64 on, .int .i64 oe, Pp.tx od, .int .i64 oa, .int .i64 ob] ∧ w'.cell? ⟨fb, 5, none⟩ = some (Pp.tx oo) ∧ w'.cell? ⟨fb, 6, none⟩ = some (.int .i64 ok) ∧ w'.cell? ⟨fb, 7, none⟩ = some (.bool ow)) (by kernel_rfl) (by rw [← hv0]; exact hS _ HF0.out) (fun hHeld => ?_)
    refine wpAnyH_take (i := 0) (v := ?_) rfl (by kernel_rfl) (by kernel_rfl) (by kernel_rfl) (fun _ _ _ h => h) (Or.inl ⟨by kernel_rfl, ?_⟩) (by assumption) ?_
    rotate_left
    · (intro w hSw; (try dsimp only at hSw); go_simp) <;> with_reducible rfl
    (try simp only [Act.put, List.getElem_toArray, List.getElem_cons_zero, List.setIfInBounds_toArray, List.set_cons_zero, List.set_cons_succ])
    refine wpAnyH_take (i := 1) (v := .agg ([Value.int .i64 on, .int .i64 oe, Pp.tx od, .int .i64 oa, .int .i64 ob]).toArray) rfl (by kernel_rfl) (by kernel_rfl) (by kernel_rfl) (fun _ _ _ h => h) (yieldsIf_load_mid (by kernel_rfl) 31 _ rfl fb 0 rfl ([Value.int .i64 on, .int .i64 oe, Pp.tx od, .int .i64 oa, .int .i64 ob]) _ (fun w hw => hw.1) Tryz.underlying31 rfl (reSize)) (by assumption) ?_
    (try simp only [Act.put, List.getElem_toArray, List.getElem_cons_zero, List.getElem_cons_succ, List.setIfInBounds_toArray, List.set_cons_zero, List.set_cons_succ])
    refine wpAnyH_take (i := 2) (v := ?_) rfl (by kernel_rfl) (by kernel_rfl) (by kernel_rfl) (fun _ _ _ h => h) (Or.inl ⟨by kernel_rfl, ?_⟩) (by assumption) ?_
    rotate_left
    · (intro w hSw; (try dsimp only at hSw); go_simp) <;> with_reducible rfl
    (try simp only [Act.put, List.getElem_toArray, List.getElem_cons_zero, List.getElem_cons_succ, List.setIfInBounds_toArray, List.set_cons_zero, List.set_cons_succ])
    refine wpAnyH_take (i := 3) (v := ?_) rfl (by kernel_rfl) (by kernel_rfl) (by kernel_rfl) (fun _ _ _ h => h) (Or.inl ⟨by kernel_rfl, ?_⟩) (by assumption) ?_
    rotate_left
    · (intro w hSw; (try dsimp only at hSw); go_simp) <;> with_reducible rfl
    (try simp only [Act.put, List.getElem_toArray, List.getElem_cons_zero, List.getElem_cons_succ, List.setIfInBounds_toArray, List.set_cons_zero, List.set_cons_succ])
    refine wpAnyH_take (i := 4) (v := ?_) rfl (by kernel_rfl) (by kernel_rfl) (by kernel_rfl) (fun _ _ _ h => h) (Or.inl ⟨by kernel_rfl, ?_⟩) (by assumption) ?_
    rotate_left
    · (intro w hSw; (try dsimp only at hSw); go_simp) <;> with_reducible rfl
    (try simp only [Act.put, List.getElem_toArray, List.getElem_cons_zero, List.getElem_cons_succ, List.setIfInBounds_toArray, List.set_cons_zero, List.set_cons_succ])
    refine wpAnyH_take (i := 5) (v := ?_) rfl (by kernel_rfl) (by kernel_rfl) (by kernel_rfl) (fun _ _ _ h => h) (Or.inl ⟨by kernel_rfl, ?_⟩) (by assumption) ?_
    rotate_left
    · (intro w hSw; (try dsimp only at hSw); go_simp) <;> with_reducible rfl
    (try simp only [Act.put, List.getElem_toArray, List.getElem_cons_zero, List.getElem_cons_succ, List.setIfInBounds_toArray, List.set_cons_zero, List.set_cons_succ])
    refine wpAnyH_take (i := 6) (v := ?_) rfl (by kernel_rfl) (by kernel_rfl) (by kernel_rfl) (fun _ _ _ h => h) (Or.inl ⟨by kernel_rfl, ?_⟩) (by assumption) ?_
    rotate_left
    · (intro w hSw; (try dsimp only at hSw); go_simp) <;> with_reducible rfl
    (try simp only [Act.put, List.getElem_toArray, List.getElem_cons_zero, List.getElem_cons_succ, List.setIfInBounds_toArray, List.set_cons_zero, List.set_cons_succ])
    refine wpAnyH_take (i := 7) (v := ?_) rfl (by kernel_rfl) (by kernel_rfl) (by kernel_rfl) (fun _ _ _ h => h) (Or.inl ⟨by kernel_rfl, ?_⟩) (by assumption) ?_
    rotate_left
    · (intro w hSw; (try dsimp only at hSw); go_simp) <;> with_reducible rfl
    (try simp only [Act.put, List.getElem_toArray, List.getElem_cons_zero, List.getElem_cons_succ, List.setIfInBounds_toArray, List.set_cons_zero, List.set_cons_succ])
    rw [← hv0]
    clear hv0 hB0
    refine wpAnyH_ready (rs := [8]) (by kernel_rfl) (by simp) ?_
    refine AllReadyH.cons rfl (fun K hK => ?_) (AllReadyH.nil)
    refine step_store_row rfl 31 (.tmp 10) (.tmp 29) rfl zb #[.int .i64 on, .int .i64 oe, Pp.tx od, .int .i64 oa, .int .i64 ob] rfl rfl 31 (reR Ou.zero) HZ0.out reSize rfl (by simp [Value.oneCell']) ?_
    have HQ : Hid ((v0.setRow zb #[.int .i64 on, .int .i64 oe, Pp.tx od, .int .i64 oa, .int .i64 ob]).heap[zb]? = some (.cells #[.int .i64 on, .int .i64 oe, Pp.tx od, .int .i64 oa, .int .i64 ob] 31)) := setRow_heap _ zb _ _ _ _ HZ0.out
    have HF : Hid (UnAt (v0.setRow zb #[.int .i64 on, .int .i64 oe, Pp.tx od, .int .i64 oa, .int .i64 ob]) L U' ∧ UT L.lo w (v0.setRow zb #[.int .i64 on, .int .i64 oe, Pp.tx od, .int .i64 oa, .int .i64 ob])) := ⟨HA1.out.row HZ0.out rfl (by decide) (by decide), HU1.out.far (by rw [HZb.out]; omega)⟩
    refine hK.out _ _ (hS _ ((setRow_other _ _ _ _ HNe.out).trans HF0.out)) (fun hHeld => ?_)
    clear hK K
    (try simp only [Act.put, List.getElem_toArray, List.getElem_cons_zero, List.getElem_cons_succ, List.setIfInBounds_toArray, List.set_cons_zero, List.set_cons_succ])
    refine wpAnyH_take (i := 9) (v := ?_) rfl (by kernel_rfl) (by kernel_rfl) (by kernel_rfl) (fun _ _ _ h => h) (Or.inl ⟨by kernel_rfl, ?_⟩) (by assumption) ?_
    rotate_left
    · (intro w hSw; (try dsimp only at hSw); go_simp) <;> with_reducible rfl
    (try simp only [Act.put, List.getElem_toArray, List.getElem_cons_zero, List.getElem_cons_succ, List.setIfInBounds_toArray, List.set_cons_zero, List.set_cons_succ])
    refine wpAnyH_take (i := 10) (v := ?_) rfl (by kernel_rfl) (by kernel_rfl) (by kernel_rfl) (fun _ _ _ h => h) (Or.inl ⟨by kernel_rfl, ?_⟩) (by assumption) ?_
    rotate_left
    · (intro w hSw; (try dsimp only at hSw); go_simp) <;> with_reducible rfl
    (try simp only [Act.put, List.getElem_toArray, List.getElem_cons_zero, List.getElem_cons_succ, List.setIfInBounds_toArray, List.set_cons_zero, List.set_cons_succ])
    refine wpAnyH_take (i := 11) (v := ?_) rfl (by kernel_rfl) (by kernel_rfl) (by kernel_rfl) (fun _ _ _ h => h) (Or.inl ⟨by kernel_rfl, ?_⟩) (by assumption) ?_
    rotate_left
    · (intro w hSw; (try dsimp only at hSw); go_simp) <;> with_reducible rfl
    (try simp only [Act.put, List.getElem_toArray, List.getElem_cons_zero, List.getElem_cons_succ, List.setIfInBounds_toArray, List.set_cons_zero, List.set_cons_succ])
    refine wpAnyH_done (by kernel_rfl) ?_ _
    clear hS
    go_wp2_with fail
    exact bodyPost_ret (results_cttt rfl _ _ zb #[.int .i64 on, .int .i64 oe, Pp.tx od, .int .i64 oa, .int .i64 ob] (0, 0) _ rfl HQ.out Tryz.underlying31 rfl reSize) rfl ⟨rfl, HF.out⟩
end Go.Proofs.YtnlhedpfhgoncabGreatDoor
namespace Go.Proofs.YtnlhedpfhgoncabGreatDoor
open Go.RowKit
set_option maxHeartbeats 1000000 in
set_option maxRecDepth 100000 in
theorem do_7 {w : World} {L : Pl} {U U' : Un} {o : Ou} (h : UnAt w L U) (s : Value) (pid : Int) (x : Cl) (i : List UInt8) (hx : x.n = 7) (hC : ∀ W, UnAt W L U → Calls Tryz.prog 50 #[.agg (tkR L.c s pid x i)] W (Left L o U' W)) :
    Calls Tryz.prog 21 #[.agg (tkR L.c s pid x i)] w (Left L o U' w) := by
  unfold Left at hC ⊢
  obtain ⟨WK, hWK⟩ : ∃ W, W = w.alloc (.cells (tkR L.c s pid x i) 68) := ⟨_, rfl⟩
  have hbK : Below w.heap.size w WK := by rw [hWK]; exact below_alloc _ _
  have hsK : WK.heap.size = w.heap.size + 1 := by rw [hWK]; simp
  have hxK : WK.heap[w.heap.size]? = some (.cells (tkR L.c s pid x i) 68) := by rw [hWK]; exact heap_alloc_new _ _
  obtain ⟨WZ, hWZ⟩ : ∃ W, W = WK.alloc (.cells (ouR Ou.zero) 65) := ⟨_, rfl⟩
  have hbZ : Below WK.heap.size WK WZ := by rw [hWZ]; exact below_alloc _ _
  have hsZ : WZ.heap.size = w.heap.size + 1 + 1 := by rw [hWZ]; simp [hsK]
  have hxZ : WZ.heap[w.heap.size + 1]? = some (.cells (ouR Ou.zero) 65) := by rw [hWZ, ← hsK]; exact heap_alloc_new _ _
  have hyK : WZ.heap[w.heap.size]? = some (.cells (tkR L.c s pid x i) 68) := ((hbZ.block _ (lt_of_heap (hxK))).trans (hxK))
  have hyZ := hxZ
  have hB : Below w.heap.size w WZ := ((hbK).trans (hbZ.mono (hbK).size))
  have HA0 : Hid (UnAt WZ L U) := h.below hB
  have HB0 : Hid (Below w.heap.size w WZ) := hB
  have hz : (#[.int .i64 0, .int .i64 0, .string ⟨#[]⟩, .int .i64 0, .int .i64 0, .string ⟨#[]⟩, .int .i64 0, .bool false] : Array Value) = ouR Ou.zero := rfl
  obtain ⟨kb, hKb⟩ : ∃ k, k = w.heap.size := ⟨_, rfl⟩
  rw [← hKb] at hyK
  have HK : Hid (WZ.heap[kb]? = some (.cells (tkR L.c s pid x i) 68)) := hyK
  have HKb : Hid (kb = w.heap.size) := hKb
  have HWK : Hid _ := hWK
  obtain ⟨zb, hZb⟩ : ∃ k, k = w.heap.size + 1 := ⟨_, rfl⟩
  rw [← hZb] at hyZ
  have HZ : Hid (WZ.heap[zb]? = some (.cells (ouR Ou.zero) 65)) := hyZ
  have HZb : Hid (zb = w.heap.size + 1) := hZb
  have HWZ : Hid _ := hWZ
  have HU : Hid (UnAt w L U) := h
  clear hWK hbK hsK hxK hKb hWZ hbZ hsZ hxZ hZb hB h
  obtain ⟨cc, hcc⟩ : ∃ c, c = L.c := ⟨_, rfl⟩
  rw [← hcc] at HK hyK HWK hC ⊢
  have hk3 : WZ.cell? ⟨kb, 3, none⟩ = some (.int .i64 7) := by rw [cell_of_heap HK.out, ← hx]; rfl
  have hC := hC WZ HA0.out
  obtain ⟨R, hR⟩ : ∃ R, R = ouR o := ⟨_, rfl⟩
  have HRs : Hid (R.size = 8) := by rw [hR]; exact ouR_size _
  have HOne : Hid (R.all (·.oneCell') = true) := by rw [hR]; exact ouR_one _
  rw [← hR]
  rw [← hR] at hC
  have HC : Hid (Calls Tryz.prog 50 #[.agg (tkR cc s pid x i)] WZ fun e w' => e = .returned (.agg R) ∧ UnAt w' L U' ∧ UT L.lo WZ w') := hC
  clear hR hyK hyZ hcc hx hC
  go_enter Tryz.func21, Tryz.ntmps21
  go_upto_region 1 with fail
  rw [← HWK.out, ← HWZ.out]
  rw [← HZb.out]
  rw [← HKb.out]
  go_upto_region 15 with fail
  have hC : Calls Tryz.prog 50 #[.agg (tkR cc s pid x i)] WZ fun e w' => e = .returned (.agg R) ∧ UnAt w' L U' ∧ UT L.lo WZ w' := HC.out
  clear HC hk3
  go_wp2_with (first
    | (refine wpList_load_row rfl 68 _ rfl kb rfl 68 (tkR cc s pid x i) (0, 0) _ HK.out Tryz.underlying68 rfl tkSize ?_)
    | fail)
  refine hC.mono ?_
  rintro e w1 ⟨rfl, ha1, hu1⟩
  have HA1 : Hid (UnAt w1 L U') := ha1
  have HU1 : Hid (UT L.lo w w1) := (UT.of_below HB0.out).trans hu1
  have HZ1 : Hid (w1.heap[zb]? = some (.cells (ouR Ou.zero) 65)) := hu1.other HZ.out rfl
  clear hC ha1 hu1
  have HM : Hid (w1.heap[zb]? = some (.cells (ouR Ou.zero) 65)) := HZ1.out
  have HQ : Hid ((w1.setRow zb R).heap[zb]? = some (.cells R 65)) := setRow_heap _ zb _ _ _ _ HM.out
  have HF : Hid (UnAt (w1.setRow zb R) L U' ∧ UT L.lo w (w1.setRow zb R)) := ⟨HA1.out.row HM.out rfl (by decide) (by decide), HU1.out.far (by rw [HZb.out]; omega)⟩
  go_wp2_with (first
    | (refine wpList_store_row rfl 65 _ _ rfl zb R rfl rfl 65 (ouR Ou.zero) HM.out (by rw [HRs.out]; exact ouSize) (by rw [HRs.out]; rfl) HOne.out ?_)
    | go_in)
  exact bodyPost_ret (v := .agg R) (results_cell_row rfl _ _ zb 65 R (0, 0) _ rfl HQ.out Tryz.underlying65 rfl (by rw [HRs.out]; exact ouSize)) rfl ⟨rfl, HF.out⟩
set_option maxHeartbeats 1000000 in
set_option maxRecDepth 100000 in
theorem do_8 {w : World} {L : Pl} {U U' : Un} {o : Ou} (h : UnAt w L U) (s : Value) (pid : Int) (x : Cl) (i : List UInt8) (hx : x.n = 8) (hC : ∀ W, UnAt W L U → Calls Tryz.prog 51 #[.agg (tkR L.c s pid x i)] W (Left L o U' W)) :
    Calls Tryz.prog 21 #[.agg (tkR L.c s pid x i)] w (Left L o U' w) := by
  unfold Left at hC ⊢
  obtain ⟨WK, hWK⟩ : ∃ W, W = w.alloc (.cells (tkR L.c s pid x i) 68) := ⟨_, rfl⟩
  have hbK : Below w.heap.size w WK := by rw [hWK]; exact below_alloc _ _
  have hsK : WK.heap.size = w.heap.size + 1 := by rw [hWK]; simp
  have hxK : WK.heap[w.heap.size]? = some (.cells (tkR L.c s pid x i) 68) := by rw [hWK]; exact heap_alloc_new _ _
  obtain ⟨WZ, hWZ⟩ : ∃ W, W = WK.alloc (.cells (ouR Ou.zero) 65) := ⟨_, rfl⟩
  have hbZ : Below WK.heap.size WK WZ := by rw [hWZ]; exact below_alloc _ _
  have hsZ : WZ.heap.size = w.heap.size + 1 + 1 := by rw [hWZ]; simp [hsK]
  have hxZ : WZ.heap[w.heap.size + 1]? = some (.cells (ouR Ou.zero) 65) := by rw [hWZ, ← hsK]; exact heap_alloc_new _ _
  have hyK : WZ.heap[w.heap.size]? = some (.cells (tkR L.c s pid x i) 68) := ((hbZ.block _ (lt_of_heap (hxK))).trans (hxK))
  have hyZ := hxZ
  have hB : Below w.heap.size w WZ := ((hbK).trans (hbZ.mono (hbK).size))
  have HA0 : Hid (UnAt WZ L U) := h.below hB
  have HB0 : Hid (Below w.heap.size w WZ) := hB
  have hz : (#[.int .i64 0, .int .i64 0, .string ⟨#[]⟩, .int .i64 0, .int .i64 0, .string ⟨#[]⟩, .int .i64 0, .bool false] : Array Value) = ouR Ou.zero := rfl
  obtain ⟨kb, hKb⟩ : ∃ k, k = w.heap.size := ⟨_, rfl⟩
  rw [← hKb] at hyK
  have HK : Hid (WZ.heap[kb]? = some (.cells (tkR L.c s pid x i) 68)) := hyK
  have HKb : Hid (kb = w.heap.size) := hKb
  have HWK : Hid _ := hWK
  obtain ⟨zb, hZb⟩ : ∃ k, k = w.heap.size + 1 := ⟨_, rfl⟩
  rw [← hZb] at hyZ
  have HZ : Hid (WZ.heap[zb]? = some (.cells (ouR Ou.zero) 65)) := hyZ
  have HZb : Hid (zb = w.heap.size + 1) := hZb
  have HWZ : Hid _ := hWZ
  have HU : Hid (UnAt w L U) := h
  clear hWK hbK hsK hxK hKb hWZ hbZ hsZ hxZ hZb hB h
  obtain ⟨cc, hcc⟩ : ∃ c, c = L.c := ⟨_, rfl⟩
  rw [← hcc] at HK hyK HWK hC ⊢
  have hk3 : WZ.cell? ⟨kb, 3, none⟩ = some (.int .i64 8) := by rw [cell_of_heap HK.out, ← hx]; rfl
  have hC := hC WZ HA0.out
  obtain ⟨R, hR⟩ : ∃ R, R = ouR o := ⟨_, rfl⟩
  have HRs : Hid (R.size = 8) := by rw [hR]; exact ouR_size _
  have HOne : Hid (R.all (·.oneCell') = true) := by rw [hR]; exact ouR_one _
  rw [← hR]
  rw [← hR] at hC
  have HC : Hid (Calls Tryz.prog 51 #[.agg (tkR cc s pid x i)] WZ fun e w' => e = .returned (.agg R) ∧ UnAt w' L U' ∧ UT L.lo WZ w') := hC
  clear hR hyK hyZ hcc hx hC
  go_enter Tryz.func21, Tryz.ntmps21
  go_upto_region 1 with fail
  rw [← HWK.out, ← HWZ.out]
  rw [← HZb.out]
  rw [← HKb.out]
  go_upto_region 17 with fail
  have hC : Calls Tryz.prog 51 #[.agg (tkR cc s pid x i)] WZ fun e w' => e = .returned (.agg R) ∧ UnAt w' L U' ∧ UT L.lo WZ w' := HC.out
  clear HC hk3
  go_wp2_with (first
    | (refine wpList_load_row rfl 68 _ rfl kb rfl 68 (tkR cc s pid x i) (0, 0) _ HK.out Tryz.underlying68 rfl tkSize ?_)
    | fail)
  refine hC.mono ?_
  rintro e w1 ⟨rfl, ha1, hu1⟩
  have HA1 : Hid (UnAt w1 L U') := ha1
  have HU1 : Hid (UT L.lo w w1) := (UT.of_below HB0.out).trans hu1
  have HZ1 : Hid (w1.heap[zb]? = some (.cells (ouR Ou.zero) 65)) := hu1.other HZ.out rfl
  clear hC ha1 hu1
  have HM : Hid (w1.heap[zb]? = some (.cells (ouR Ou.zero) 65)) := HZ1.out
  have HQ : Hid ((w1.setRow zb R).heap[zb]? = some (.cells R 65)) := setRow_heap _ zb _ _ _ _ HM.out
  have HF : Hid (UnAt (w1.setRow zb R) L U' ∧ UT L.lo w (w1.setRow zb R)) := ⟨HA1.out.row HM.out rfl (by decide) (by decide), HU1.out.far (by rw [HZb.out]; omega)⟩
  go_wp2_with (first
    | (refine wpList_store_row rfl 65 _ _ rfl zb R rfl rfl 65 (ouR Ou.zero) HM.out (by rw [HRs.out]; exact ouSize) (by rw [HRs.out]; rfl) HOne.out ?_)
    | go_in)
  exact bodyPost_ret (v := .agg R) (results_cell_row rfl _ _ zb 65 R (0, 0) _ rfl HQ.out Tryz.underlying65 rfl (by rw [HRs.out]; exact ouSize)) rfl ⟨rfl, HF.out⟩
set_option maxHeartbeats 1000000 in
set_option maxRecDepth 100000 in
theorem do_9 {w : World} {L : Pl} {U U' : Un} {o : Ou} (h : UnAt w L U) (s : Value) (pid : Int) (x : Cl) (i : List UInt8) (hx : x.n = 9) (hC : ∀ W, UnAt W L U → Calls Tryz.prog 52 #[.agg (tkR L.c s pid x i)] W (Left L o U' W)) :
    Calls Tryz.prog 21 #[.agg (tkR L.c s pid x i)] w (Left L o U' w) := by
  unfold Left at hC ⊢
  obtain ⟨WK, hWK⟩ : ∃ W, W = w.alloc (.cells (tkR L.c s pid x i) 68) := ⟨_, rfl⟩
  have hbK : Below w.heap.size w WK := by rw [hWK]; exact below_alloc _ _
  have hsK : WK.heap.size = w.heap.size + 1 := by rw [hWK]; simp
  have hxK : WK.heap[w.heap.size]? = some (.cells (tkR L.c s pid x i) 68) := by rw [hWK]; exact heap_alloc_new _ _
  obtain ⟨WZ, hWZ⟩ : ∃ W, W = WK.alloc (.cells (ouR Ou.zero) 65) := ⟨_, rfl⟩
  have hbZ : Below WK.heap.size WK WZ := by rw [hWZ]; exact below_alloc _ _
  have hsZ : WZ.heap.size = w.heap.size + 1 + 1 := by rw [hWZ]; simp [hsK]
  have hxZ : WZ.heap[w.heap.size + 1]? = some (.cells (ouR Ou.zero) 65) := by rw [hWZ, ← hsK]; exact heap_alloc_new _ _
  have hyK : WZ.heap[w.heap.size]? = some (.cells (tkR L.c s pid x i) 68) := ((hbZ.block _ (lt_of_heap (hxK))).trans (hxK))
  have hyZ := hxZ
  have hB : Below w.heap.size w WZ := ((hbK).trans (hbZ.mono (hbK).size))
  have HA0 : Hid (UnAt WZ L U) := h.below hB
  have HB0 : Hid (Below w.heap.size w WZ) := hB
  have hz : (#[.int .i64 0, .int .i64 0, .string ⟨#[]⟩, .int .i64 0, .int .i64 0, .string ⟨#[]⟩, .int .i64 0, .bool false] : Array Value) = ouR Ou.zero := rfl
  obtain ⟨kb, hKb⟩ : ∃ k, k = w.heap.size := ⟨_, rfl⟩
  rw [← hKb] at hyK
  have HK : Hid (WZ.heap[kb]? = some (.cells (tkR L.c s pid x i) 68)) := hyK
  have HKb : Hid (kb = w.heap.size) := hKb
  have HWK : Hid _ := hWK
  obtain ⟨zb, hZb⟩ : ∃ k, k = w.heap.size + 1 := ⟨_, rfl⟩
  rw [← hZb] at hyZ
  have HZ : Hid (WZ.heap[zb]? = some (.cells (ouR Ou.zero) 65)) := hyZ
  have HZb : Hid (zb = w.heap.size + 1) := hZb
  have HWZ : Hid _ := hWZ
  have HU : Hid (UnAt w L U) := h
  clear hWK hbK hsK hxK hKb hWZ hbZ hsZ hxZ hZb hB h
  obtain ⟨cc, hcc⟩ : ∃ c, c = L.c := ⟨_, rfl⟩
  rw [← hcc] at HK hyK HWK hC ⊢
  have hk3 : WZ.cell? ⟨kb, 3, none⟩ = some (.int .i64 9) := by rw [cell_of_heap HK.out, ← hx]; rfl
  have hC := hC WZ HA0.out
  obtain ⟨R, hR⟩ : ∃ R, R = ouR o := ⟨_, rfl⟩
  have HRs : Hid (R.size = 8) := by rw [hR]; exact ouR_size _
  have HOne : Hid (R.all (·.oneCell') = true) := by rw [hR]; exact ouR_one _
  rw [← hR]
  rw [← hR] at hC
  have HC : Hid (Calls Tryz.prog 52 #[.agg (tkR cc s pid x i)] WZ fun e w' => e = .returned (.agg R) ∧ UnAt w' L U' ∧ UT L.lo WZ w') := hC
  clear hR hyK hyZ hcc hx hC
  go_enter Tryz.func21, Tryz.ntmps21
  go_upto_region 1 with fail
  rw [← HWK.out, ← HWZ.out]
  rw [← HZb.out]
  rw [← HKb.out]
  go_upto_region 19 with fail
  have hC : Calls Tryz.prog 52 #[.agg (tkR cc s pid x i)] WZ fun e w' => e = .returned (.agg R) ∧ UnAt w' L U' ∧ UT L.lo WZ w' := HC.out
  clear HC hk3
  go_wp2_with (first
    | (refine wpList_load_row rfl 68 _ rfl kb rfl 68 (tkR cc s pid x i) (0, 0) _ HK.out Tryz.underlying68 rfl tkSize ?_)
    | fail)
  refine hC.mono ?_
  rintro e w1 ⟨rfl, ha1, hu1⟩
  have HA1 : Hid (UnAt w1 L U') := ha1
  have HU1 : Hid (UT L.lo w w1) := (UT.of_below HB0.out).trans hu1
  have HZ1 : Hid (w1.heap[zb]? = some (.cells (ouR Ou.zero) 65)) := hu1.other HZ.out rfl
  clear hC ha1 hu1
  have HM : Hid (w1.heap[zb]? = some (.cells (ouR Ou.zero) 65)) := HZ1.out
  have HQ : Hid ((w1.setRow zb R).heap[zb]? = some (.cells R 65)) := setRow_heap _ zb _ _ _ _ HM.out
  have HF : Hid (UnAt (w1.setRow zb R) L U' ∧ UT L.lo w (w1.setRow zb R)) := ⟨HA1.out.row HM.out rfl (by decide) (by decide), HU1.out.far (by rw [HZb.out]; omega)⟩
  go_wp2_with (first
    | (refine wpList_store_row rfl 65 _ _ rfl zb R rfl rfl 65 (ouR Ou.zero) HM.out (by rw [HRs.out]; exact ouSize) (by rw [HRs.out]; rfl) HOne.out ?_)
    | go_in)
  exact bodyPost_ret (v := .agg R) (results_cell_row rfl _ _ zb 65 R (0, 0) _ rfl HQ.out Tryz.underlying65 rfl (by rw [HRs.out]; exact ouSize)) rfl ⟨rfl, HF.out⟩
end Go.Proofs.YtnlhedpfhgoncabGreatDoor
