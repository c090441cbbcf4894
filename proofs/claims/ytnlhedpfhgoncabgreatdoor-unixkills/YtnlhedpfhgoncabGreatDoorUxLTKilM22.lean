/- Package unix: the console is written by its descriptor. -/
/- Package unix: Begin; Pids. -/
/- januslaw22: the examples' calls. -/
/- januslaw22: what a kill does. -/
import Derived.Test.YtnlhedpfhgoncabGreatDoorUxATUxT
import Derived.Test.YtnlhedpfhgoncabGreatDoorUxNTUxM
import Derived.Test.YtnlhedpfhgoncabGreatDoorUxETUxG
import Derived.Test.YtnlhedpfhgoncabGreatDoorUxHTUxI
import Derived.Test.YtnlhedpfhgoncabGreatDoorUxJTUxF
import Derived.Test.YtnlhedpfhgoncabGreatDoorUxK
import Derived.Test.YtnlhedpfhgoncabGreatDoorUxY
import Derived.Test.YtnlhedpfhgoncabGreatDoorUxXTUxZ
import Derived.Deep.DeepCutAuto
set_option linter.all false
namespace Go.Proofs.YtnlhedpfhgoncabGreatDoor
open Go.RowKit
/-- What is written to the console. -/
def wcO (t : List UInt8) : Ou := ⟨(t.length : Nat), 0, [], 0, 0, t, 0, false⟩
set_option maxHeartbeats 4000000 in
set_option maxRecDepth 100000 in
theorem write_con {w : World} {L : Pl} {U : Un} (h : UnAt w L U) (s : Value) (pid : Int) (x : Cl) (i : List UInt8) (ha : 0 ≤ x.a) (id off rf : Int) (ap : Bool) (hE : Fd.getE U.F pid (smI x.a) = 0) (hX : Fd.getX U.F pid (smI x.a) = ⟨1, id, off, ap, rf⟩)  :
    Calls Tryz.prog 51 #[.agg (tkR L.c s pid x i)] w (Left L (wcO x.t) (U) w) := by
  unfold Left
  obtain ⟨WK, hWK⟩ : ∃ W, W = w.alloc (.cells (tkR L.c s pid x i) 68) := ⟨_, rfl⟩
  have hbK : Below w.heap.size w WK := by rw [hWK]; exact below_alloc _ _
  have hsK : WK.heap.size = w.heap.size + 1 := by rw [hWK]; simp
  have hxK : WK.heap[w.heap.size]? = some (.cells (tkR L.c s pid x i) 68) := by rw [hWK]; exact heap_alloc_new _ _
  obtain ⟨WZ, hWZ⟩ : ∃ W, W = WK.alloc (.cells (ouR Ou.zero) 65) := ⟨_, rfl⟩
  have hbZ : Below WK.heap.size WK WZ := by rw [hWZ]; exact below_alloc _ _
  have hsZ : WZ.heap.size = w.heap.size + 1 + 1 := by rw [hWZ]; simp [hsK]
  have hxZ : WZ.heap[w.heap.size + 1]? = some (.cells (ouR Ou.zero) 65) := by rw [hWZ, ← hsK]; exact heap_alloc_new _ _
  have hyK : WZ.heap[w.heap.size]? = some (.cells (tkR L.c s pid x i) 68) := ((hbZ.block _ (lt_of_heap (hxK))).trans (hxK))
  have hyZ := hxZ
  have hB : Below w.heap.size w WZ := ((hbK).trans (hbZ.mono (hbK).size))
  have HA0 : Hid (UnAt WZ L U) := h.below hB
  have HB0 : Hid (Below w.heap.size w WZ) := hB
  have hz : (#[.int .i64 0, .int .i64 0, .string ⟨#[]⟩, .int .i64 0, .int .i64 0, .string ⟨#[]⟩, .int .i64 0, .bool false] : Array Value) = ouR Ou.zero := rfl
  obtain ⟨kb, hKb⟩ : ∃ k, k = w.heap.size := ⟨_, rfl⟩
  rw [← hKb] at hyK
  have HK : Hid (WZ.heap[kb]? = some (.cells (tkR L.c s pid x i) 68)) := hyK
  have HKb : Hid (kb = w.heap.size) := hKb
  have HWK : Hid _ := hWK
  obtain ⟨zb, hZb⟩ : ∃ k, k = w.heap.size + 1 := ⟨_, rfl⟩
  rw [← hZb] at hyZ
  have HZ : Hid (WZ.heap[zb]? = some (.cells (ouR Ou.zero) 65)) := hyZ
  have HZb : Hid (zb = w.heap.size + 1) := hZb
  have HWZ : Hid _ := hWZ
  have HU : Hid (UnAt w L U) := h
  clear hWK hbK hsK hxK hKb hWZ hbZ hsZ hxZ hZb hB h
  obtain ⟨cc, hcc⟩ : ∃ c, c = L.c := ⟨_, rfl⟩
  obtain ⟨ff, hff⟩ : ∃ c, c = L.f := ⟨_, rfl⟩
  rw [← hcc] at HK hyK HWK ⊢
  have Hcc : Hid (cc = L.c) := hcc
  have Hff : Hid (ff = L.f) := hff
  obtain ⟨TK, hTK⟩ : ∃ l, l = (tkR cc s pid x i).toList := ⟨_, rfl⟩
  have HTl : Hid (TK.length = 10) := by show _ = _; rw [hTK]; rfl
  have eTK : TK.toArray = tkR cc s pid x i := by rw [hTK]
  have hS : ∀ W, Below WZ.heap.size WZ W → W.rangeAt kb 0 TK ∧ W.cell? ⟨kb, 0, none⟩ = some (ptr cc) ∧ W.cell? ⟨kb, 2, none⟩ = some (.int .i64 pid) ∧ W.cell? ⟨cc, 0, none⟩ = some (ptr ff) := fun W hW => by
    have c0 := HA0.out.cell0
    rw [← Hcc.out, ← Hff.out] at c0
    have e1 : ∀ j v, TK[j]? = some v → WZ.cell? ⟨kb, 0 + j, none⟩ = some v := fun j v hv => by rw [Nat.zero_add, cell_of_heap HK.out]; rw [hTK] at hv; simpa using hv
    have e2 : WZ.cell? ⟨kb, 0, none⟩ = some (ptr cc) := by rw [cell_of_heap HK.out]; rfl
    have e3 : WZ.cell? ⟨kb, 2, none⟩ = some (.int .i64 pid) := by rw [cell_of_heap HK.out]; rfl
    exact ⟨fun j v hv => (hW.cell (cell_lt (e1 j v hv))).trans (e1 j v hv), (hW.cell (cell_lt e2)).trans e2, (hW.cell (cell_lt e3)).trans e3, (hW.cell (cell_lt c0)).trans c0⟩
  have hD := fun V => descriptor_at cc s pid x i ha V
  obtain ⟨fd, hfd⟩ : ∃ d, d = smI x.a := ⟨_, rfl⟩
  rw [← hfd] at hE hX hD
  have hG : ∀ W, Below WZ.heap.size WZ W → Calls Tryz.prog 111 #[ptr ff, .int .i64 pid, .int .i64 fd] W fun e w' => e = .returned (.tuple #[.agg (Fd.Fl.row ⟨1, id, off, ap, rf⟩), .int .i64 0]) ∧ Below W.heap.size W w' := fun W hW => by
    have := Fd.get_at L.f U.F pid fd W (HA0.out.below hW).fds HA0.out.ok.inv
    rw [hE, hX, ← Hff.out] at this
    exact this
  obtain ⟨o, ho⟩ : ∃ o, o = wcO x.t := ⟨_, rfl⟩
  rw [← ho]
  have HO : Hid (o = wcO x.t) := ho
  obtain ⟨U', hU'⟩ : ∃ V, V = U := ⟨_, rfl⟩
  rw [← hU']
  have HU' : Hid (U' = U) := hU'
  obtain ⟨R, hR⟩ : ∃ R, R = ouR o := ⟨_, rfl⟩
  have HRs : Hid (R.size = 8) := by rw [hR]; exact ouR_size _
  have HOne : Hid (R.all (·.oneCell') = true) := by rw [hR]; exact ouR_one _
  rw [← hR]
  have HRq : Hid (R = ouR o) := hR
  clear ho hU' hR
  clear hyK hyZ hcc hff hE hX hTK hfd
  go_enter Tryz.func51, Tryz.ntmps51
  go_upto_region 1 with fail
  rw [← HWK.out, ← HWZ.out]
  rw [← HZb.out]
  rw [← HKb.out]
  go_cut [3, 4] (fun p e wc => ∃ fb, p = ptr fb ∧ e = .int .i64 0 ∧ WZ.heap.size ≤ fb ∧ wc.heap[fb]? = some (.cells (Fd.Fl.row ⟨1, id, off, ap, rf⟩) 121) ∧ Below WZ.heap.size WZ wc)
  case first => as_aux_lemma =>
    refine wp_region_held_drew (S := fun w' => w'.rangeAt kb 0 TK ∧ w'.cell? ⟨kb, 0, none⟩ = some (ptr cc) ∧ w'.cell? ⟨kb, 2, none⟩ = some (.int .i64 pid) ∧ w'.cell? ⟨cc, 0, none⟩ = some (ptr ff)) (by kernel_rfl) (hS _ (Di.drewN_below (w := WZ) ⟨1, rfl⟩)) (fun hHeld => ?_)
    refine wpAnyH_take (i := 0) (v := ?_) rfl (by kernel_rfl) (by kernel_rfl) (by kernel_rfl) (fun _ _ _ h => h) (Or.inl ⟨by kernel_rfl, ?_⟩) (by assumption) ?_
    rotate_left
    · (intro w hSw; (try dsimp only at hSw); go_simp) <;> with_reducible rfl
    (try simp only [Act.put, List.getElem_toArray, List.getElem_cons_zero, List.setIfInBounds_toArray, List.set_cons_zero, List.set_cons_succ])
    refine wpAnyH_take (i := 1) (v := ?_) rfl (by kernel_rfl) (by kernel_rfl) (by kernel_rfl) (fun _ _ _ h => h) (Or.inl ⟨by kernel_rfl, ?_⟩) (by assumption) ?_
    rotate_left
    · (intro w hSw; (try dsimp only at hSw); go_simp) <;> with_reducible rfl
    (try simp only [Act.put, List.getElem_toArray, List.getElem_cons_zero, List.getElem_cons_succ, List.setIfInBounds_toArray, List.set_cons_zero, List.set_cons_succ])
    refine wpAnyH_take (i := 2) (v := ?_) rfl (by kernel_rfl) (by kernel_rfl) (by kernel_rfl) (fun _ _ _ h => h) (Or.inl ⟨by kernel_rfl, ?_⟩) (by assumption) ?_
    rotate_left
    · (intro w hSw; (try dsimp only at hSw); go_simp) <;> with_reducible rfl
    (try simp only [Act.put, List.getElem_toArray, List.getElem_cons_zero, List.getElem_cons_succ, List.setIfInBounds_toArray, List.set_cons_zero, List.set_cons_succ])
    refine wpAnyH_take (i := 3) (v := ?_) rfl (by kernel_rfl) (by kernel_rfl) (by kernel_rfl) (fun _ _ _ h => h) (Or.inl ⟨by kernel_rfl, ?_⟩) (by assumption) ?_
    rotate_left
    · (intro w hSw; (try dsimp only at hSw); go_simp) <;> with_reducible rfl
    (try simp only [Act.put, List.getElem_toArray, List.getElem_cons_zero, List.getElem_cons_succ, List.setIfInBounds_toArray, List.set_cons_zero, List.set_cons_succ])
    refine wpAnyH_take (i := 4) (v := ?_) rfl (by kernel_rfl) (by kernel_rfl) (by kernel_rfl) (fun _ _ _ h => h) (Or.inl ⟨by kernel_rfl, ?_⟩) (by assumption) ?_
    rotate_left
    · (intro w hSw; (try dsimp only at hSw); go_simp) <;> with_reducible rfl
    (try simp only [Act.put, List.getElem_toArray, List.getElem_cons_zero, List.getElem_cons_succ, List.setIfInBounds_toArray, List.set_cons_zero, List.set_cons_succ])
    refine wpAnyH_take (i := 5) (v := ?_) rfl (by kernel_rfl) (by kernel_rfl) (by kernel_rfl) (fun _ _ _ h => h) (Or.inl ⟨by kernel_rfl, ?_⟩) (by assumption) ?_
    rotate_left
    · (intro w hSw; (try dsimp only at hSw); go_simp) <;> with_reducible rfl
    (try simp only [Act.put, List.getElem_toArray, List.getElem_cons_zero, List.getElem_cons_succ, List.setIfInBounds_toArray, List.set_cons_zero, List.set_cons_succ])
    refine wpAnyH_take (i := 6) (v := ?_) rfl (by kernel_rfl) (by kernel_rfl) (by kernel_rfl) (fun _ _ _ h => h) (Or.inl ⟨by kernel_rfl, ?_⟩) (by assumption) ?_
    rotate_left
    · (intro w hSw; (try dsimp only at hSw); go_simp) <;> with_reducible rfl
    (try simp only [Act.put, List.getElem_toArray, List.getElem_cons_zero, List.getElem_cons_succ, List.setIfInBounds_toArray, List.set_cons_zero, List.set_cons_succ])
    refine wpAnyH_take (i := 7) (v := .agg (TK).toArray) rfl (by kernel_rfl) (by kernel_rfl) (by kernel_rfl) (fun _ _ _ h => h) (yieldsIf_load_mid (by kernel_rfl) 68 _ rfl kb 0 rfl (TK) _ (fun w hw => hw.1) Tryz.underlying68 rfl (by rw [HTl.out]; exact tkSize)) (by assumption) ?_
    (try simp only [Act.put, List.getElem_toArray, List.getElem_cons_zero, List.getElem_cons_succ, List.setIfInBounds_toArray, List.set_cons_zero, List.set_cons_succ])
    obtain ⟨v0, hv0⟩ : ∃ V, V = WZ.drew := ⟨_, rfl⟩
    have H0 : Hid (Below WZ.heap.size WZ v0) := by rw [hv0]; exact Di.drewN_below (w := WZ) ⟨1, rfl⟩
    rw [← hv0]
    clear hv0
    refine wpAnyH_ready (rs := [8, 13]) (by kernel_rfl) (by simp) ?_
    refine AllReadyH.cons rfl (fun K hK => ?_) (AllReadyH.cons rfl (fun K hK => ?_) (AllReadyH.nil))
    · go_simp
      refine (hD v0).mono ?_
      rintro e v1 ⟨rfl, hb⟩
      have H1 : Hid (Below WZ.heap.size WZ v1) := H0.out.trans (hb.mono H0.out.size)
      clear hb
      refine hK.out _ _ (hS _ H1.out) (fun hHeld => ?_)
      clear hK K
      (try simp only [Act.put, List.getElem_toArray, List.getElem_cons_zero, List.getElem_cons_succ, List.setIfInBounds_toArray, List.set_cons_zero, List.set_cons_succ])
      refine wpAnyH_ready (rs := [9, 13]) (by kernel_rfl) (by simp) ?_
      refine AllReadyH.cons rfl (fun K hK => ?_) (AllReadyH.cons rfl (fun K hK => ?_) (AllReadyH.nil))
      · go_simp
        refine (hG v1 H1.out).mono ?_
        rintro e v2 ⟨rfl, hb⟩
        have H2 : Hid (Below WZ.heap.size WZ v2) := H1.out.trans (hb.mono H1.out.size)
        clear hb
        refine hK.out _ _ (hS _ H2.out) (fun hHeld => ?_)
        clear hK K
        (try simp only [Act.put, List.getElem_toArray, List.getElem_cons_zero, List.getElem_cons_succ, List.setIfInBounds_toArray, List.set_cons_zero, List.set_cons_succ])
        refine wpAnyH_take (i := 10) (v := ?_) rfl (by kernel_rfl) (by kernel_rfl) (by kernel_rfl) (fun _ _ _ h => h) (Or.inl ⟨by kernel_rfl, ?_⟩) (by assumption) ?_
        rotate_left
        · (intro w hSw; (try dsimp only at hSw); go_simp) <;> with_reducible rfl
        (try simp only [Act.put, List.getElem_toArray, List.getElem_cons_zero, List.getElem_cons_succ, List.setIfInBounds_toArray, List.set_cons_zero, List.set_cons_succ])
        refine wpAnyH_take (i := 11) (v := ?_) rfl (by kernel_rfl) (by kernel_rfl) (by kernel_rfl) (fun _ _ _ h => h) (Or.inl ⟨by kernel_rfl, ?_⟩) (by assumption) ?_
        rotate_left
        · (intro w hSw; (try dsimp only at hSw); go_simp) <;> with_reducible rfl
        (try simp only [Act.put, List.getElem_toArray, List.getElem_cons_zero, List.getElem_cons_succ, List.setIfInBounds_toArray, List.set_cons_zero, List.set_cons_succ])
        refine wpAnyH_take (i := 12) (v := ?_) rfl (by kernel_rfl) (by kernel_rfl) (by kernel_rfl) (fun _ _ _ h => h) (Or.inl ⟨by kernel_rfl, ?_⟩) (by assumption) ?_
        rotate_left
        · (intro w hSw; (try dsimp only at hSw); go_simp) <;> with_reducible rfl
        (try simp only [Act.put, List.getElem_toArray, List.getElem_cons_zero, List.getElem_cons_succ, List.setIfInBounds_toArray, List.set_cons_zero, List.set_cons_succ])
        refine wpAnyH_ready (rs := [13]) (by kernel_rfl) (by simp) ?_
        refine AllReadyH.cons rfl (fun K hK => ?_) (AllReadyH.nil)
        refine step_alloc rfl 121 rfl Fd.Fl.no.row file_alloc ?_
        obtain ⟨v3, hv⟩ : ∃ V, V = v2.alloc (.cells Fd.Fl.no.row 121) := ⟨_, rfl⟩
        obtain ⟨fb, hfb⟩ : ∃ k, k = v2.heap.size := ⟨_, rfl⟩
        have H3 : Hid (Below WZ.heap.size WZ v3) := by rw [hv]; exact H2.out.trans ((below_alloc v2 _).mono H2.out.size)
        have P3 : Hid (v3.heap[fb]? = some (.cells Fd.Fl.no.row 121)) := by rw [hv, hfb]; exact heap_alloc_new _ _
        have HL : Hid (WZ.heap.size ≤ fb) := by rw [hfb]; exact H2.out.size
        rw [← hv, ← hfb]
        clear hv hfb
        refine hK.out _ _ (hS _ H3.out) (fun hHeld => ?_)
        clear hK K
        (try simp only [Act.put, List.getElem_toArray, List.getElem_cons_zero, List.getElem_cons_succ, List.setIfInBounds_toArray, List.set_cons_zero, List.set_cons_succ])
        refine wpAnyH_ready (rs := [14]) (by kernel_rfl) (by simp) ?_
        refine AllReadyH.cons rfl (fun K hK => ?_) (AllReadyH.nil)
        refine step_store_row rfl 121 (.tmp 3) (.tmp 19) rfl fb (Fd.Fl.row ⟨1, id, off, ap, rf⟩) rfl rfl 121 Fd.Fl.no.row P3.out flSize rfl (by simp [Value.oneCell']) ?_
        have HQ : Hid ((v3.setRow fb (Fd.Fl.row ⟨1, id, off, ap, rf⟩)).heap[fb]? = some (.cells (Fd.Fl.row ⟨1, id, off, ap, rf⟩) 121)) := setRow_heap _ fb _ _ _ _ P3.out
        have HE : Hid (Below WZ.heap.size WZ (v3.setRow fb (Fd.Fl.row ⟨1, id, off, ap, rf⟩))) := H3.out.trans ((Upd.setRow fb v3 (Fd.Fl.row ⟨1, id, off, ap, rf⟩)).below HL.out H3.out.size)
        refine hK.out _ _ (hS _ HE.out) (fun hHeld => ?_)
        clear hK K
        (try simp only [Act.put, List.getElem_toArray, List.getElem_cons_zero, List.getElem_cons_succ, List.setIfInBounds_toArray, List.set_cons_zero, List.set_cons_succ])
        refine wpAnyH_take (i := 15) (v := ?_) rfl (by kernel_rfl) (by kernel_rfl) (by kernel_rfl) (fun _ _ _ h => h) (Or.inl ⟨by kernel_rfl, ?_⟩) (by assumption) ?_
        rotate_left
        · (intro w hSw; (try dsimp only at hSw); go_simp) <;> with_reducible rfl
        (try simp only [Act.put, List.getElem_toArray, List.getElem_cons_zero, List.getElem_cons_succ, List.setIfInBounds_toArray, List.set_cons_zero, List.set_cons_succ])
        refine wpAnyH_done (by kernel_rfl) ?_ _
        clear hS hD hG
        go_wp2_with fail
        go_meet
        case rel => exact ⟨fb, rfl, rfl, HL.out, HQ.out, HE.out⟩
      · refine step_alloc rfl 121 rfl Fd.Fl.no.row file_alloc ?_
        obtain ⟨v2, hv⟩ : ∃ V, V = v1.alloc (.cells Fd.Fl.no.row 121) := ⟨_, rfl⟩
        obtain ⟨fb, hfb⟩ : ∃ k, k = v1.heap.size := ⟨_, rfl⟩
        have H2 : Hid (Below WZ.heap.size WZ v2) := by rw [hv]; exact H1.out.trans ((below_alloc v1 _).mono H1.out.size)
        have P2 : Hid (v2.heap[fb]? = some (.cells Fd.Fl.no.row 121)) := by rw [hv, hfb]; exact heap_alloc_new _ _
        have HL : Hid (WZ.heap.size ≤ fb) := by rw [hfb]; exact H1.out.size
        rw [← hv, ← hfb]
        clear hv hfb
        refine hK.out _ _ (hS _ H2.out) (fun hHeld => ?_)
        clear hK K
        (try simp only [Act.put, List.getElem_toArray, List.getElem_cons_zero, List.getElem_cons_succ, List.setIfInBounds_toArray, List.set_cons_zero, List.set_cons_succ])
        refine wpAnyH_ready (rs := [9]) (by kernel_rfl) (by simp) ?_
        refine AllReadyH.cons rfl (fun K hK => ?_) (AllReadyH.nil)
        go_simp
        refine (hG v2 H2.out).mono ?_
        rintro e v3 ⟨rfl, hb⟩
        have H3 : Hid (Below WZ.heap.size WZ v3) := H2.out.trans (hb.mono H2.out.size)
        have P3 : Hid (v3.heap[fb]? = some (.cells Fd.Fl.no.row 121)) := (hb.block _ (lt_of_heap P2.out)).trans P2.out
        clear hb
        refine hK.out _ _ (hS _ H3.out) (fun hHeld => ?_)
        clear hK K
        (try simp only [Act.put, List.getElem_toArray, List.getElem_cons_zero, List.getElem_cons_succ, List.setIfInBounds_toArray, List.set_cons_zero, List.set_cons_succ])
        refine wpAnyH_take (i := 10) (v := ?_) rfl (by kernel_rfl) (by kernel_rfl) (by kernel_rfl) (fun _ _ _ h => h) (Or.inl ⟨by kernel_rfl, ?_⟩) (by assumption) ?_
        rotate_left
        · (intro w hSw; (try dsimp only at hSw); go_simp) <;> with_reducible rfl
        (try simp only [Act.put, List.getElem_toArray, List.getElem_cons_zero, List.getElem_cons_succ, List.setIfInBounds_toArray, List.set_cons_zero, List.set_cons_succ])
        refine wpAnyH_take (i := 11) (v := ?_) rfl (by kernel_rfl) (by kernel_rfl) (by kernel_rfl) (fun _ _ _ h => h) (Or.inl ⟨by kernel_rfl, ?_⟩) (by assumption) ?_
        rotate_left
        · (intro w hSw; (try dsimp only at hSw); go_simp) <;> with_reducible rfl
        (try simp only [Act.put, List.getElem_toArray, List.getElem_cons_zero, List.getElem_cons_succ, List.setIfInBounds_toArray, List.set_cons_zero, List.set_cons_succ])
        refine wpAnyH_take (i := 12) (v := ?_) rfl (by kernel_rfl) (by kernel_rfl) (by kernel_rfl) (fun _ _ _ h => h) (Or.inl ⟨by kernel_rfl, ?_⟩) (by assumption) ?_
        rotate_left
        · (intro w hSw; (try dsimp only at hSw); go_simp) <;> with_reducible rfl
        (try simp only [Act.put, List.getElem_toArray, List.getElem_cons_zero, List.getElem_cons_succ, List.setIfInBounds_toArray, List.set_cons_zero, List.set_cons_succ])
        refine wpAnyH_ready (rs := [14]) (by kernel_rfl) (by simp) ?_
        refine AllReadyH.cons rfl (fun K hK => ?_) (AllReadyH.nil)
        refine step_store_row rfl 121 (.tmp 3) (.tmp 19) rfl fb (Fd.Fl.row ⟨1, id, off, ap, rf⟩) rfl rfl 121 Fd.Fl.no.row P3.out flSize rfl (by simp [Value.oneCell']) ?_
        have HQ : Hid ((v3.setRow fb (Fd.Fl.row ⟨1, id, off, ap, rf⟩)).heap[fb]? = some (.cells (Fd.Fl.row ⟨1, id, off, ap, rf⟩) 121)) := setRow_heap _ fb _ _ _ _ P3.out
        have HE : Hid (Below WZ.heap.size WZ (v3.setRow fb (Fd.Fl.row ⟨1, id, off, ap, rf⟩))) := H3.out.trans ((Upd.setRow fb v3 (Fd.Fl.row ⟨1, id, off, ap, rf⟩)).below HL.out H3.out.size)
        refine hK.out _ _ (hS _ HE.out) (fun hHeld => ?_)
        clear hK K
        (try simp only [Act.put, List.getElem_toArray, List.getElem_cons_zero, List.getElem_cons_succ, List.setIfInBounds_toArray, List.set_cons_zero, List.set_cons_succ])
        refine wpAnyH_take (i := 15) (v := ?_) rfl (by kernel_rfl) (by kernel_rfl) (by kernel_rfl) (fun _ _ _ h => h) (Or.inl ⟨by kernel_rfl, ?_⟩) (by assumption) ?_
        rotate_left
        · (intro w hSw; (try dsimp only at hSw); go_simp) <;> with_reducible rfl
        (try simp only [Act.put, List.getElem_toArray, List.getElem_cons_zero, List.getElem_cons_succ, List.setIfInBounds_toArray, List.set_cons_zero, List.set_cons_succ])
        refine wpAnyH_done (by kernel_rfl) ?_ _
        clear hS hD hG
        go_wp2_with fail
        go_meet
        case rel => exact ⟨fb, rfl, rfl, HL.out, HQ.out, HE.out⟩
    · refine step_alloc rfl 121 rfl Fd.Fl.no.row file_alloc ?_
      obtain ⟨v1, hv⟩ : ∃ V, V = v0.alloc (.cells Fd.Fl.no.row 121) := ⟨_, rfl⟩
      obtain ⟨fb, hfb⟩ : ∃ k, k = v0.heap.size := ⟨_, rfl⟩
      have H1 : Hid (Below WZ.heap.size WZ v1) := by rw [hv]; exact H0.out.trans ((below_alloc v0 _).mono H0.out.size)
      have P1 : Hid (v1.heap[fb]? = some (.cells Fd.Fl.no.row 121)) := by rw [hv, hfb]; exact heap_alloc_new _ _
      have HL : Hid (WZ.heap.size ≤ fb) := by rw [hfb]; exact H0.out.size
      rw [← hv, ← hfb]
      clear hv hfb
      refine hK.out _ _ (hS _ H1.out) (fun hHeld => ?_)
      clear hK K
      (try simp only [Act.put, List.getElem_toArray, List.getElem_cons_zero, List.getElem_cons_succ, List.setIfInBounds_toArray, List.set_cons_zero, List.set_cons_succ])
      refine wpAnyH_ready (rs := [8]) (by kernel_rfl) (by simp) ?_
      refine AllReadyH.cons rfl (fun K hK => ?_) (AllReadyH.nil)
      go_simp
      refine (hD v1).mono ?_
      rintro e v2 ⟨rfl, hb⟩
      have H2 : Hid (Below WZ.heap.size WZ v2) := H1.out.trans (hb.mono H1.out.size)
      have P2 : Hid (v2.heap[fb]? = some (.cells Fd.Fl.no.row 121)) := (hb.block _ (lt_of_heap P1.out)).trans P1.out
      clear hb
      refine hK.out _ _ (hS _ H2.out) (fun hHeld => ?_)
      clear hK K
      (try simp only [Act.put, List.getElem_toArray, List.getElem_cons_zero, List.getElem_cons_succ, List.setIfInBounds_toArray, List.set_cons_zero, List.set_cons_succ])
      refine wpAnyH_ready (rs := [9]) (by kernel_rfl) (by simp) ?_
      refine AllReadyH.cons rfl (fun K hK => ?_) (AllReadyH.nil)
      go_simp
      refine (hG v2 H2.out).mono ?_
      rintro e v3 ⟨rfl, hb⟩
      have H3 : Hid (Below WZ.heap.size WZ v3) := H2.out.trans (hb.mono H2.out.size)
      have P3 : Hid (v3.heap[fb]? = some (.cells Fd.Fl.no.row 121)) := (hb.block _ (lt_of_heap P2.out)).trans P2.out
      clear hb
      refine hK.out _ _ (hS _ H3.out) (fun hHeld => ?_)
      clear hK K
      (try simp only [Act.put, List.getElem_toArray, List.getElem_cons_zero, List.getElem_cons_succ, List.setIfInBounds_toArray, List.set_cons_zero, List.set_cons_succ])
      refine wpAnyH_take (i := 10) (v := ?_) rfl (by kernel_rfl) (by kernel_rfl) (by kernel_rfl) (fun _ _ _ h => h) (Or.inl ⟨by kernel_rfl, ?_⟩) (by assumption) ?_
      rotate_left
      · (intro w hSw; (try dsimp only at hSw); go_simp) <;> with_reducible rfl
      (try simp only [Act.put, List.getElem_toArray, List.getElem_cons_zero, List.getElem_cons_succ, List.setIfInBounds_toArray, List.set_cons_zero, List.set_cons_succ])
      refine wpAnyH_take (i := 11) (v := ?_) rfl (by kernel_rfl) (by kernel_rfl) (by kernel_rfl) (fun _ _ _ h => h) (Or.inl ⟨by kernel_rfl, ?_⟩) (by assumption) ?_
      rotate_left
      · (intro w hSw; (try dsimp only at hSw); go_simp) <;> with_reducible rfl
      (try simp only [Act.put, List.getElem_toArray, List.getElem_cons_zero, List.getElem_cons_succ, List.setIfInBounds_toArray, List.set_cons_zero, List.set_cons_succ])
      refine wpAnyH_take (i := 12) (v := ?_) rfl (by kernel_rfl) (by kernel_rfl) (by kernel_rfl) (fun _ _ _ h => h) (Or.inl ⟨by kernel_rfl, ?_⟩) (by assumption) ?_
      rotate_left
      · (intro w hSw; (try dsimp only at hSw); go_simp) <;> with_reducible rfl
      (try simp only [Act.put, List.getElem_toArray, List.getElem_cons_zero, List.getElem_cons_succ, List.setIfInBounds_toArray, List.set_cons_zero, List.set_cons_succ])
      refine wpAnyH_ready (rs := [14]) (by kernel_rfl) (by simp) ?_
      refine AllReadyH.cons rfl (fun K hK => ?_) (AllReadyH.nil)
      refine step_store_row rfl 121 (.tmp 3) (.tmp 19) rfl fb (Fd.Fl.row ⟨1, id, off, ap, rf⟩) rfl rfl 121 Fd.Fl.no.row P3.out flSize rfl (by simp [Value.oneCell']) ?_
      have HQ : Hid ((v3.setRow fb (Fd.Fl.row ⟨1, id, off, ap, rf⟩)).heap[fb]? = some (.cells (Fd.Fl.row ⟨1, id, off, ap, rf⟩) 121)) := setRow_heap _ fb _ _ _ _ P3.out
      have HE : Hid (Below WZ.heap.size WZ (v3.setRow fb (Fd.Fl.row ⟨1, id, off, ap, rf⟩))) := H3.out.trans ((Upd.setRow fb v3 (Fd.Fl.row ⟨1, id, off, ap, rf⟩)).below HL.out H3.out.size)
      refine hK.out _ _ (hS _ HE.out) (fun hHeld => ?_)
      clear hK K
      (try simp only [Act.put, List.getElem_toArray, List.getElem_cons_zero, List.getElem_cons_succ, List.setIfInBounds_toArray, List.set_cons_zero, List.set_cons_succ])
      refine wpAnyH_take (i := 15) (v := ?_) rfl (by kernel_rfl) (by kernel_rfl) (by kernel_rfl) (fun _ _ _ h => h) (Or.inl ⟨by kernel_rfl, ?_⟩) (by assumption) ?_
      rotate_left
      · (intro w hSw; (try dsimp only at hSw); go_simp) <;> with_reducible rfl
      (try simp only [Act.put, List.getElem_toArray, List.getElem_cons_zero, List.getElem_cons_succ, List.setIfInBounds_toArray, List.set_cons_zero, List.set_cons_succ])
      refine wpAnyH_done (by kernel_rfl) ?_ _
      clear hS hD hG
      go_wp2_with fail
      go_meet
      case rel => exact ⟨fb, rfl, rfl, HL.out, HQ.out, HE.out⟩
  case rest =>
    obtain ⟨fb, rfl, rfl, hfb, hfr, hbc⟩ := hcut
    have HFr : Hid (wc.heap[fb]? = some (.cells (Fd.Fl.row ⟨1, id, off, ap, rf⟩) 121)) := hfr
    have HBc : Hid (Below WZ.heap.size WZ wc) := hbc
    have HAc : Hid (UnAt wc L U) := HA0.out.below hbc
    have HKc : Hid (wc.heap[kb]? = some (.cells (tkR cc s pid x i) 68)) := (hbc.block _ (lt_of_heap HK.out)).trans HK.out
    have HZc : Hid (wc.heap[zb]? = some (.cells (ouR Ou.zero) 65)) := (hbc.block _ (lt_of_heap HZ.out)).trans HZ.out
    clear hS hD hG hfr hbc hfb
    clear eTK
    have hWI := whatIs_con id off rf ap
    have t1 := ta_con_con
    go_upto_region 4 with fail
    go_wp2_with (first
      | (refine wpList_load_row rfl 121 _ rfl fb rfl 121 (Fd.Fl.row ⟨1, id, off, ap, rf⟩) (0, 0) _ HFr.out Tryz.underlying121 rfl flSize ?_)
      | fail)
    refine (hWI _).mono ?_
    rintro e w1 ⟨rfl, hb1⟩
    have HB1 : Hid (Below wc.heap.size wc w1) := hb1
    clear hWI hb1
    go_upto_region 6 with fail
    obtain ⟨w2, hw2⟩ : ∃ V, V = w1.alloc (.cells #[] 215) := ⟨_, rfl⟩
    have hb2 : Below w1.heap.size w1 w2 := by rw [hw2]; exact below_alloc _ _
    have HB2 : Hid (Below wc.heap.size wc w2) := HB1.out.trans (hb2.mono HB1.out.size)
    have HK2 : Hid (w2.heap[kb]? = some (.cells (tkR cc s pid x i) 68)) := (HB2.out.block _ (lt_of_heap HKc.out)).trans HKc.out
    have HZ2 : Hid (w2.heap[zb]? = some (.cells (ouR Ou.zero) 65)) := (HB2.out.block _ (lt_of_heap HZc.out)).trans HZc.out
    have HUT2 : Hid (UT L.lo w w2) := UT.of_below ((HB0.out.trans (HBc.out.mono HB0.out.size)).trans (HB2.out.mono (HB0.out.trans (HBc.out.mono HB0.out.size)).size))
    have HW2 : Hid (w2 = w1.alloc (.cells #[] 215)) := hw2
    obtain ⟨t, ht⟩ : ∃ t, t = x.t := ⟨_, rfl⟩
    have hk7 : w2.cell? ⟨kb, 7, none⟩ = some (Pp.tx t) := by rw [cell_of_heap HK2.out, ht]; rfl
    obtain ⟨m, hm⟩ : ∃ m, m = t.length := ⟨_, rfl⟩
    have hRR : R = #[.int .i64 (t.length : Nat), .int .i64 0, .string ⟨#[]⟩, .int .i64 0, .int .i64 0, .string ⟨t.toArray⟩, .int .i64 0, .bool false] := by
      rw [HRq.out, HO.out, ht]
      rfl
    have HRR : Hid (R = _) := hRR
    have HA1 : Hid (UnAt w2 L U') := by rw [HU'.out]; exact HAc.out.below HB2.out
    have HU1 : Hid (UT L.lo w w2) := HUT2.out
    clear hw2 hb2 ht hRR
    have HM : Hid (w2.heap[zb]? = some (.cells (ouR Ou.zero) 65)) := HZ2.out
    have HQ : Hid ((w2.setRow zb R).heap[zb]? = some (.cells R 65)) := setRow_heap _ zb _ _ _ _ HM.out
    have HF : Hid (UnAt (w2.setRow zb R) L U' ∧ UT L.lo w (w2.setRow zb R)) := ⟨HA1.out.row HM.out rfl (by decide) (by decide), HU1.out.far (by rw [HZb.out]; omega)⟩
    go_upto_region 7 with fail
    rw [← HW2.out]
    go_wp2_with (first
      | (refine wpList_store_row rfl 65 _ _ rfl zb R rfl (by rw [HRR.out]; rfl) 65 (ouR Ou.zero) HM.out (by rw [HRs.out]; exact ouSize) (by rw [HRs.out]; rfl) HOne.out ?_)
      | go_in)
    exact bodyPost_ret (v := .agg R) (results_cell_row rfl _ _ zb 65 R (0, 0) _ rfl HQ.out Tryz.underlying65 rfl (by rw [HRs.out]; exact ouSize)) rfl ⟨rfl, HF.out⟩
end Go.Proofs.YtnlhedpfhgoncabGreatDoor
namespace Go.Proofs.YtnlhedpfhgoncabGreatDoor
open Go.RowKit
def conF : Fd.Fl := ⟨1, 0, 0, false, 0⟩
/-- So many consoles opened by process 1. -/
def opens (F : Fd.FS) : Nat → Fd.FS
  | 0 => F
  | k + 1 => Fd.openT (opens F k) 1 conF
def UnB (k : Nat) : Un := ⟨opens Fd.FS.zero k, Pp.PS.none, Sg.SS.first, Pc.beS Pc.St0⟩
/-- A core with process 1 alone. -/
def Un1 : Un := UnB 3
theorem conF_fit : Fd.Fit conF := ⟨by decide, by decide, by decide, by decide, by decide, by decide⟩
theorem conF_built (W : World) : (Instr.build 121 #[(0, .int .i64 1)]).run Tryz.prog W = .ok (.agg conF.row) W := by kernel_rfl
set_option maxHeartbeats 1000000 in
set_option maxRecDepth 100000 in
theorem ubegin_at {w : World} {L : Pl} (h : UnAt w L Un0) : Calls Tryz.prog 18 #[ptr L.c, .int .i64 1] w fun e w' => e = .returned (.int .i64 0) ∧ UnAt w' L Un1 ∧ UT L.lo w w' := by
  have hP := Pc.begin_at L.B L.t Pc.St0 w h.procs
  rw [show Pc.beN Pc.St0 = 1 from by kernel_rfl] at hP
  have c3 := h.cell3
  have HA : Hid (UnAt w L Un0) := h
  have hne := core_eq L.c
  clear h
  obtain ⟨cc, hcc⟩ : ∃ c, c = L.c := ⟨_, rfl⟩
  obtain ⟨tt, htt⟩ : ∃ c, c = L.t := ⟨_, rfl⟩
  obtain ⟨ff, hff⟩ : ∃ c, c = L.f := ⟨_, rfl⟩
  rw [← hcc] at c3 hne ⊢
  rw [← htt] at c3 hP
  have Hcc : Hid (cc = L.c) := hcc
  have Htt : Hid (tt = L.t) := htt
  have Hff : Hid (ff = L.f) := hff
  clear hcc htt hff
  go_enter Tryz.func18, Tryz.ntmps18
  go_wp2_with fail
  refine hP.mono ?_
  rintro e w1 ⟨rfl, ht, hu⟩
  have hA1 := HA.out.putT hu (by rw [← Htt.out]; exact ht)
  have HE1 : Hid (UnAt w1 L (UnB 0) ∧ UT L.lo w w1) := ⟨hA1.1, hA1.2⟩
  clear hP ht hu hA1 c3
  go_wp2_with fail
  go_loopw [17] (fun s wr => ∃ k : Nat, k ≤ 3 ∧ s = .int .i64 k ∧ Hid (UnAt wr L (UnB k) ∧ UT L.lo w wr)) (fun s _ => 3 - (intOf s).toNat)
  case atStart => exact ⟨0, by omega, rfl, HE1⟩
  case round =>
    obtain ⟨k, hk, rfl, HR⟩ := hrel
    clear HE1
    have c0 := HR.out.1.cell0
    rw [← Hcc.out, ← Hff.out] at c0
    by_cases hlt : k < 3
    · have hl : decide ((k : Int) < 3) = true := decide_eq_true (by omega)
      have hO := Fd.open_at L.f (UnB k).F 1 conF wr HR.out.1.fds
      rw [← Hff.out] at hO
      have hbu := conF_built
      generalize Fd.openA (UnB k).F 1 = oa at hO
      generalize Fd.openE (UnB k).F 1 = oe at hO
      go_wp2_with fail
      refine hO.mono ?_
      rintro e w2 ⟨rfl, hf, hu⟩
      have hA2 := HR.out.1.putF (by rw [← Hff.out]; exact hu) (by rw [← Hff.out]; exact hf) (HR.out.1.ok.inv.openT _ _) (HR.out.1.ok.fit.openT conF_fit)
      have HE2 : Hid (UnAt w2 L (UnB (k + 1)) ∧ UT L.lo w w2) := ⟨hA2.1, HR.out.2.trans hA2.2⟩
      clear hO hf hu hA2 c0 hbu HR
      go_wp2
      go_roundw
      case rel => exact ⟨k + 1, by omega, by go_num, HE2⟩
      case measure => simp [intOf]; omega
    · obtain rfl : k = 3 := by omega
      go_wp2
      go_ret
      exact ⟨rfl, HR.out.1, HR.out.2⟩
end Go.Proofs.YtnlhedpfhgoncabGreatDoor
namespace Go.Proofs.YtnlhedpfhgoncabGreatDoor
open Go.RowKit
theorem store_eq (B : Nat) (W : World) : (binOp BinOp.eql 63 (.iface 34 (ptr B)) .nilIface).run Tryz.prog W = .ok (.bool false) W := by kernel_rfl
/-- What a call of Do answers and leaves. -/
def DoIs (L : Pl) (o : Ou) (U' : Un) (w : World) : Ending → World → Prop := fun e w' => e = .returned (.tuple #[.agg (reR o), Pp.tx o.o, .int .i64 o.k, .bool o.w]) ∧ UnAt w' L U' ∧ UT L.lo w w'
def ax1 : Cl := ⟨8, 1, 0, 0, [104, 105], []⟩
def ax2 : Cl := ⟨9, 0, 0, 0, [], []⟩
def ax3 : Cl := ⟨7, 3, 0, 5, [], []⟩
def ax4 : Cl := ⟨8, 4, 0, 0, [97, 98], []⟩
def ax6 : Cl := ⟨7, 0, 0, 2, [], []⟩
def ao1 : Ou := ⟨2, 0, [], 0, 0, [104, 105], 0, false⟩
def ao2 : Ou := ⟨0, 0, [], 3, 4, [], 0, false⟩
def ao3 : Ou := ⟨0, 0, [], 0, 0, [], 0, true⟩
def ao4 : Ou := ⟨2, 0, [], 0, 0, [], 0, false⟩
def ao5 : Ou := ⟨2, 0, [97, 98], 0, 0, [], 0, false⟩
def ao6 : Ou := ⟨2, 0, [120, 121], 0, 0, [], 2, false⟩
def UnP : Un := piU Un1 1
def UnP3 : Un := rpU UnP 0 5
def UnP4 : Un := wpU UnP3 0 [97, 98]
def UnP5 : Un := rpU UnP4 0 5
section
variable {w : World} {L : Pl}
theorem aw_1 (h : UnAt w L Un1) (B : Nat) : Calls Tryz.prog 7 #[ptr L.c, .iface 34 (ptr B), .int .i64 1, .agg (clR ax1), Pp.tx []] w (DoIs L ao1 Un1 w) :=
  Do_at h _ _ (store_eq B) 1 ax1 [] (by kernel_rfl) (fun _ hW => do_8 hW _ 1 ax1 [] rfl (fun _ hV => write_con hV _ 1 ax1 [] (by decide) 0 0 1 false (by kernel_rfl) (by kernel_rfl)))
theorem aw_2 (h : UnAt w L Un1) (B : Nat) : Calls Tryz.prog 7 #[ptr L.c, .iface 34 (ptr B), .int .i64 1, .agg (clR ax2), Pp.tx []] w (DoIs L ao2 UnP w) := by
  have e : piO Un1 1 = ao2 := by kernel_rfl
  rw [← e]
  exact Do_at h _ _ (store_eq B) 1 ax2 [] (by kernel_rfl) (fun _ hW => do_9 hW _ 1 ax2 [] rfl (fun _ hV => pipe_at hV _ 1 ax2 [] (by kernel_rfl) (by kernel_rfl)))
theorem aw_3 (h : UnAt w L UnP) (B : Nat) : Calls Tryz.prog 7 #[ptr L.c, .iface 34 (ptr B), .int .i64 1, .agg (clR ax3), Pp.tx []] w (DoIs L ao3 UnP3 w) := by
  have e : rpO UnP 0 5 = ao3 := by kernel_rfl
  rw [← e]
  exact Do_at h _ _ (store_eq B) 1 ax3 [] (by kernel_rfl) (fun _ hW => do_7 hW _ 1 ax3 [] rfl (fun _ hV => read_pipe hV _ 1 ax3 [] (by decide) 0 0 1 false (by kernel_rfl) (by kernel_rfl) (by decide) (by decide)))
theorem aw_4 (h : UnAt w L UnP3) (B : Nat) : Calls Tryz.prog 7 #[ptr L.c, .iface 34 (ptr B), .int .i64 1, .agg (clR ax4), Pp.tx []] w (DoIs L ao4 UnP4 w) := by
  have e : wpO UnP3 0 [97, 98] = ao4 := by kernel_rfl
  rw [← e]
  exact Do_at h _ _ (store_eq B) 1 ax4 [] (by kernel_rfl) (fun _ hW => do_8 hW _ 1 ax4 [] rfl (fun _ hV => write_pipe hV _ 1 ax4 [] (by decide) 0 0 1 false (by kernel_rfl) (by kernel_rfl) (by decide) (by kernel_rfl)))
theorem aw_5 (h : UnAt w L UnP4) (B : Nat) : Calls Tryz.prog 7 #[ptr L.c, .iface 34 (ptr B), .int .i64 1, .agg (clR ax3), Pp.tx []] w (DoIs L ao5 UnP5 w) := by
  have e : rpO UnP4 0 5 = ao5 := by kernel_rfl
  rw [← e]
  exact Do_at h _ _ (store_eq B) 1 ax3 [] (by kernel_rfl) (fun _ hW => do_7 hW _ 1 ax3 [] rfl (fun _ hV => read_pipe hV _ 1 ax3 [] (by decide) 0 0 1 false (by kernel_rfl) (by kernel_rfl) (by decide) (by decide)))
theorem aw_6 (h : UnAt w L UnP5) (B : Nat) : Calls Tryz.prog 7 #[ptr L.c, .iface 34 (ptr B), .int .i64 1, .agg (clR ax6), Pp.tx [120, 121, 122]] w (DoIs L ao6 UnP5 w) := by
  have e : Ou.con (rcD [120, 121, 122] 2) = ao6 := by kernel_rfl
  rw [← e]
  exact Do_at h _ _ (store_eq B) 1 ax6 [120, 121, 122] (by kernel_rfl) (fun _ hW => do_7 hW _ 1 ax6 [120, 121, 122] rfl (fun _ hV => read_con hV _ 1 ax6 [120, 121, 122] (by decide) 0 0 1 false (by kernel_rfl) (by kernel_rfl) (by decide) (by decide)))
end
end Go.Proofs.YtnlhedpfhgoncabGreatDoor
namespace Go.Proofs.YtnlhedpfhgoncabGreatDoor
open Go.RowKit
/-- The core behind a fork. -/
def UnK : Un := foU Un1 1
def axF : Cl := ⟨2, 0, 0, 0, [], []⟩
def aoF : Ou := ⟨2, 0, [], 0, 0, [], 0, false⟩
theorem kl_fork {w : World} {L : Pl} (h : UnAt w L Un1) (B : Nat) : Calls Tryz.prog 7 #[ptr L.c, .iface 34 (ptr B), .int .i64 1, .agg (clR axF), Pp.tx []] w (DoIs L aoF UnK w) := by
  have e : Ou.num (Pc.fkN Un1.T 1) = aoF := by kernel_rfl
  rw [← e]
  exact Do_at h _ _ (store_eq B) 1 axF [] (by kernel_rfl) (fun _ hW => do_2 hW _ 1 axF [] rfl (fun _ hV => fork_at hV _ 1 axF [] (by kernel_rfl)))
theorem kl_liv (k : Int) (h1 : k ≠ 1) (h2 : k ≠ 2) : Pc.liv UnK.T k = false := by
  have e : UnK.T = Pc.stPut (Pc.stPut Pc.St0 1 ⟨0, false, 0⟩) 2 ⟨1, false, 0⟩ := by
    show Pc.fkS (Pc.beS Pc.St0) 1 = _
    have a1 : Pc.beS Pc.St0 = Pc.stPut Pc.St0 1 ⟨0, false, 0⟩ := rfl
    have a2 : Pc.fkE (Pc.beS Pc.St0) 1 = 0 := by kernel_rfl
    have a3 : Pc.lowI (Pc.beS Pc.St0) = 2 := by kernel_rfl
    unfold Pc.fkS
    rw [if_pos a2, a3, a1]
  rw [e]
  simp [Pc.liv, Pc.hits, Pc.stPut, Pc.St0, h1, h2]
/-- What comes of a signal that is sent. -/
def klS (p : Int) (k : Nat) : Bool := Sg.nxB (Sg.sdS UnK.S p k) p && (Sg.nxI (Sg.sdS UnK.S p k) p == k && decide (Sg.nxH (Sg.sdS UnK.S p k) p = 18446744073709551615)) && !Sg.nxB (Sg.nxS (Sg.sdS UnK.S p k) p) (3 - p)
theorem kl_all : ((List.range 15).all fun k => klS 1 (k + 1) && klS 2 (k + 1)) = true := by kernel_rfl
theorem kl_one {k : Nat} (h1 : 1 ≤ k) (h2 : k ≤ 15) : klS 1 k = true ∧ klS 2 k = true := by
  have h := List.all_eq_true.1 kl_all (k - 1) (List.mem_range.2 (by omega))
  rw [show k - 1 + 1 = k from by omega] at h
  simpa using h
theorem kl_zero : Sg.nxB UnK.S 1 = false ∧ Sg.nxB UnK.S 2 = false ∧ Sg.nxB (Sg.nxS UnK.S 1) 2 = false ∧ Sg.nxB (Sg.nxS UnK.S 2) 1 = false := ⟨by kernel_rfl, by kernel_rfl, by kernel_rfl, by kernel_rfl⟩
theorem sm_of {a : Int} (h : a ≤ 15) : smI a = a := if_pos h
theorem sm_far {a : Int} (h : 15 < a) : smI a = -1 := if_neg (by omega)
/-- What a kill answers and leaves. -/
structure KlIs (pid sig : Int) (o : Ou) (U' : Un) : Prop where
  does : ∀ W L, UnAt W L UnK → ∀ B, Calls Tryz.prog 7 #[ptr L.c, .iface 34 (ptr B), .int .i64 1, .agg (clR ⟨15, pid, sig, 0, [], []⟩), Pp.tx []] W (DoIs L o U' W)
  tells : (pid ≠ 1 ∧ pid ≠ 2 ∧ o.e = 3) ∨ ((pid = 1 ∨ pid = 2) ∧ 15 < sig ∧ o.e = 22) ∨ ((pid = 1 ∨ pid = 2) ∧ sig ≤ 15 ∧ o.e = 0 ∧ Sg.nxB U'.S pid = decide (0 < sig) ∧ (0 < sig → (Sg.nxI U'.S pid : Nat) = sig ∧ Sg.nxH U'.S pid = 18446744073709551615) ∧ Sg.nxB (siU U' pid).S (3 - pid) = false)
theorem kl_at (pid sig : Int) (h1 : 0 ≤ pid) (h2 : 0 ≤ sig) : ∃ o U', KlIs pid sig o U' := by
  have hD : ∀ {o U'}, (∀ (s : Value) W L, UnAt W L UnK → Calls Tryz.prog 56 #[.agg (tkR L.c s 1 ⟨15, pid, sig, 0, [], []⟩ [])] W (Left L o U' W)) → ∀ W L, UnAt W L UnK → ∀ B, Calls Tryz.prog 7 #[ptr L.c, .iface 34 (ptr B), .int .i64 1, .agg (clR ⟨15, pid, sig, 0, [], []⟩), Pp.tx []] W (DoIs L o U' W) := fun hk W L hW B =>
    Do_at hW _ _ (store_eq B) 1 ⟨15, pid, sig, 0, [], []⟩ [] (by kernel_rfl) (fun _ hV => do_15 hV _ 1 ⟨15, pid, sig, 0, [], []⟩ [] rfl (fun _ hU => hk _ _ _ hU))
  by_cases hp : pid = 1 ∨ pid = 2
  · have hs : smI pid = pid := sm_of (by omega)
    have hl : Pc.liv UnK.T (smI pid) = true := by
      rw [hs]
      rcases hp with rfl | rfl <;> kernel_rfl
    by_cases hb : sig ≤ 15
    · have hsb : smI sig = sig := sm_of hb
      by_cases h0 : sig = 0
      · refine ⟨Ou.num 0, UnK, hD (fun s W L hW => kill_zero hW s 1 ⟨15, pid, sig, 0, [], []⟩ [] h1 h2 hl (by rw [hsb]; exact h0)), Or.inr (Or.inr ⟨hp, hb, rfl, ?_, fun h => by omega, ?_⟩)⟩
        · rw [h0]
          rcases hp with rfl | rfl
          · exact kl_zero.1
          · exact kl_zero.2.1
        · rcases hp with rfl | rfl
          · exact kl_zero.2.2.1
          · exact kl_zero.2.2.2
      · obtain ⟨k, rfl⟩ : ∃ k : Nat, sig = k := ⟨sig.toNat, by omega⟩
        have hk := kl_one (k := k) (by omega) (by omega)
        refine ⟨Ou.num 0, ⟨UnK.F, UnK.P, Sg.sdS UnK.S pid k, UnK.T⟩, hD (fun s W L hW => by
          have := kill_send hW s 1 ⟨15, pid, k, 0, [], []⟩ [] h1 h2 hl (by show 0 < smI (k : Int); rw [hsb]; omega)
          dsimp only at this
          rw [hs, hsb] at this
          exact this), Or.inr (Or.inr ⟨hp, hb, rfl, ?_⟩)⟩
        have hd : decide (0 < (k : Int)) = true := decide_eq_true (by omega)
        rw [hd]
        rcases hp with rfl | rfl
        · have q := hk.1
          simp only [klS, Bool.and_eq_true, beq_iff_eq, decide_eq_true_eq, Bool.not_eq_true'] at q
          exact ⟨q.1.1, fun _ => ⟨by rw [q.1.2.1], q.1.2.2⟩, q.2⟩
        · have q := hk.2
          simp only [klS, Bool.and_eq_true, beq_iff_eq, decide_eq_true_eq, Bool.not_eq_true'] at q
          exact ⟨q.1.1, fun _ => ⟨by rw [q.1.2.1], q.1.2.2⟩, q.2⟩
    · exact ⟨Ou.no 22, UnK, hD (fun s W L hW => kill_bad hW s 1 ⟨15, pid, sig, 0, [], []⟩ [] h1 h2 hl (by show smI sig < 0; rw [sm_far (by omega)]; decide)), Or.inr (Or.inl ⟨hp, by omega, rfl⟩)⟩
  · have hn : smI pid ≠ 1 ∧ smI pid ≠ 2 := by
      unfold smI
      split <;> omega
    exact ⟨Ou.no 3, UnK, hD (fun s W L hW => kill_no hW s 1 ⟨15, pid, sig, 0, [], []⟩ [] h1 h2 (kl_liv _ hn.1 hn.2)), Or.inl ⟨by omega, by omega, rfl⟩⟩
end Go.Proofs.YtnlhedpfhgoncabGreatDoor
