import Derived.Test.YtinaeifpoljfoaaGreatDoorUxJTUxF
set_option linter.all false
set_option maxRecDepth 100000
set_option maxHeartbeats 16000000
namespace Go.Proofs.YtinaeifpoljfoaaGreatDoor
open Go.RowKit
theorem write_pipe {w : World} {L : Pl} {U : Un} (h : UnAt w L U) (s : Value) (pid : Int) (x : Cl) (i : List UInt8) (ha : 0 ≤ x.a) (id off rf : Int) (ap : Bool) (hE : Fd.getE U.F pid (smI x.a) = 0) (hX : Fd.getX U.F pid (smI x.a) = ⟨4, id, off, ap, rf⟩) (hwt : x.t ≠ []) (hwo : opB U.F 3 id = true) :
  Calls Tryz.prog 82 #[.agg (tkR L.c s pid x i)] w (Left L (wpO U id x.t) (wpU U id x.t) w) := by
 unfold Left;obtain ⟨WK, WZ, hWK, hWZ, hB, hyK, hyZ⟩ := blk2 w (tkR L.c s pid x i) 99 (ouR Ou.zero) 96;have HA0 : Hid (UnAt WZ L U) := h.below hB;have HB0 := hid hB;have hz : (#[.int .i64 0, .int .i64 0, .string ⟨#[]⟩, .int .i64 0, .int .i64 0, .string ⟨#[]⟩, .int .i64 0, .bool false] : Array Value) = ouR Ou.zero := rfl;obtain ⟨kb, hKb⟩ : ∃ k, k = w.heap.size := ⟨_, rfl⟩;rw [← hKb] at hyK;have HK := hid hyK;have HKb := hid hKb;have HWK : Hid _ := hWK;obtain ⟨zb, hZb⟩ : ∃ k, k = w.heap.size + 1 := ⟨_, rfl⟩;rw [← hZb] at hyZ;have HZ := hid hyZ;have HZb := hid hZb;have HWZ : Hid _ := hWZ;have HU := hid h;clear hWK hKb hWZ hZb hB h;obtain ⟨cc, hcc⟩ : ∃ c, c = L.c := ⟨_, rfl⟩;obtain ⟨ff, hff⟩ : ∃ c, c = L.f := ⟨_, rfl⟩;rw [← hcc] at HK hyK HWK ⊢;have Hcc := hid hcc;have Hff := hid hff;obtain ⟨TK, hTK⟩ : ∃ l, l = (tkR cc s pid x i).toList := ⟨_, rfl⟩
 have HTl : Hid (TK.length = 10) := by show _ = _; rw [hTK]; rfl
 have eTK : TK.toArray = tkR cc s pid x i := by rw [hTK]
 have hS : ∀ W, Below WZ.heap.size WZ W → W.rangeAt kb 0 TK ∧ W.cell? ⟨kb, 0, none⟩ = some (ptr cc) ∧ W.cell? ⟨kb, 2, none⟩ = some (.int .i64 pid) ∧ W.cell? ⟨cc, 0, none⟩ = some (ptr ff) := fun W hW => by
  have c0 := HA0.out.cell0;rw [← Hcc.out, ← Hff.out] at c0
  have e1 : ∀ j v, TK[j]? = some v → WZ.cell? ⟨kb, 0 + j, none⟩ = some v := fun j v hv => by rw [Nat.zero_add, cell_of_heap HK.out]; rw [hTK] at hv; simpa using hv
  have e2 : WZ.cell? ⟨kb, 0, none⟩ = some (ptr cc) := by rw [cell_of_heap HK.out]; rfl
  have e3 : WZ.cell? ⟨kb, 2, none⟩ = some (.int .i64 pid) := by rw [cell_of_heap HK.out]; rfl
  exact ⟨fun j v hv => (hW.cell (cell_lt (e1 j v hv))).trans (e1 j v hv), (hW.cell (cell_lt e2)).trans e2, (hW.cell (cell_lt e3)).trans e3, (hW.cell (cell_lt c0)).trans c0⟩
 have hD := fun V => descriptor_at cc s pid x i ha V
 obtain ⟨fd, hfd⟩ : ∃ d, d = smI x.a := ⟨_, rfl⟩;rw [← hfd] at hE hX hD
 have hG : ∀ W, Below WZ.heap.size WZ W → Calls Tryz.prog 148 #[ptr ff, .int .i64 pid, .int .i64 fd] W fun e w' => e = .returned (.tuple #[.agg (Fd.Fl.row ⟨4, id, off, ap, rf⟩), .int .i64 0]) ∧ Below W.heap.size W w' := fun W hW => by
  have := Fd.get_at L.f U.F pid fd W (HA0.out.below hW).fds HA0.out.ok.inv;rw [hE, hX, ← Hff.out] at this;exact this
 obtain ⟨o, ho⟩ : ∃ o, o = wpO U id x.t := ⟨_, rfl⟩;rw [← ho];have HO := hid ho;obtain ⟨U', hU'⟩ : ∃ V, V = wpU U id x.t := ⟨_, rfl⟩;rw [← hU'];have HU' := hid hU';obtain ⟨R, hR⟩ : ∃ R, R = ouR o := ⟨_, rfl⟩
 have HRs : Hid (R.size = 8) := by rw [hR]; exact ouR_size _
 have HOne : Hid (R.all (·.oneCell') = true) := by rw [hR]; exact ouR_one _
 rw [← hR];have HRq := hid hR;clear ho hU' hR;clear hyK hyZ hcc hff hE hX hTK hfd
 go_enter Tryz.func82, Tryz.ntmps82
 go_upto_region 1 with fail
 rw [← HWK.out, ← HWZ.out];rw [← HZb.out];rw [← HKb.out]
 go_cut [3, 4] (fun p e wc => ∃ fb, p = ptr fb ∧ e = .int .i64 0 ∧ WZ.heap.size ≤ fb ∧ wc.heap[fb]? = some (.cells (Fd.Fl.row ⟨4, id, off, ap, rf⟩) 102) ∧ Below WZ.heap.size WZ wc)
 case first => as_aux_lemma =>
  refine wp_region_held_drew (S := fun w' => w'.rangeAt kb 0 TK ∧ w'.cell? ⟨kb, 0, none⟩ = some (ptr cc) ∧ w'.cell? ⟨kb, 2, none⟩ = some (.int .i64 pid) ∧ w'.cell? ⟨cc, 0, none⟩ = some (ptr ff)) (by kernel_rfl) (hS _ (Di.drewN_below (w := WZ) ⟨1, rfl⟩)) (fun hHeld => ?_);refine tkz [0, 1, 2, 3, 4, 5, 6] ?_
  iterate 7
   refine tkq (v := ?_) rfl (Or.inl ⟨by kernel_rfl, ?_⟩) ?_
   rotate_left
   ·(intro w hSw; (try dsimp only at hSw); go_simp) <;> with_reducible rfl
   (try simp only [Act.put, lq])
  refine tkw ?_;refine tkv 7 (.agg (TK).toArray) rfl (yieldsIf_load_mid (by kernel_rfl) 99 _ rfl kb 0 rfl (TK) _ (fun w hw => hw.1) Tryz.underlying99 rfl (by rw [HTl.out]; exact tkSize)) ?_
  (try simp only [Act.put, lq])
  obtain ⟨v0, hv0⟩ : ∃ V, V = WZ.drew := ⟨_, rfl⟩
  have H0 : Hid (Below WZ.heap.size WZ v0) := by rw [hv0]; exact Di.drewN_below (w := WZ) ⟨1, rfl⟩
  rw [← hv0];clear hv0;refine wpAnyH_ready (rs := [8, 13]) (by kernel_rfl) (by simp) ?_;refine AllReadyH.cons rfl (fun K hK => ?_) (AllReadyH.cons rfl (fun K hK => ?_) (AllReadyH.nil))
  ·go_simp
   refine (hD v0).mono ?_;rintro e v1 ⟨rfl, hb⟩;have H1 : Hid (Below WZ.heap.size WZ v1) := H0.out.trans (hb.mono H0.out.size);clear hb;refine hK.out _ _ (hS _ H1.out) (fun hHeld => ?_);clear hK K
   (try simp only [Act.put, lq])
   refine wpAnyH_ready (rs := [9, 13]) (by kernel_rfl) (by simp) ?_;refine AllReadyH.cons rfl (fun K hK => ?_) (AllReadyH.cons rfl (fun K hK => ?_) (AllReadyH.nil))
   ·go_simp
    refine (hG v1 H1.out).mono ?_;rintro e v2 ⟨rfl, hb⟩;have H2 : Hid (Below WZ.heap.size WZ v2) := H1.out.trans (hb.mono H1.out.size);clear hb;refine hK.out _ _ (hS _ H2.out) (fun hHeld => ?_);clear hK K
    (try simp only [Act.put, lq])
    refine tkz [10, 11, 12] ?_
    iterate 3
     refine tkq (v := ?_) rfl (Or.inl ⟨by kernel_rfl, ?_⟩) ?_
     rotate_left
     ·(intro w hSw; (try dsimp only at hSw); go_simp) <;> with_reducible rfl
     (try simp only [Act.put, lq])
    refine tkw ?_
    refine rdy 13 rfl fun K hK => ?_
    refine step_alloc rfl 102 rfl Fd.Fl.no.row file_alloc ?_;obtain ⟨v3, hv⟩ : ∃ V, V = v2.alloc (.cells Fd.Fl.no.row 102) := ⟨_, rfl⟩;obtain ⟨fb, hfb⟩ : ∃ k, k = v2.heap.size := ⟨_, rfl⟩
    have H3 : Hid (Below WZ.heap.size WZ v3) := by rw [hv]; exact H2.out.trans ((below_alloc v2 _).mono H2.out.size)
    have P3 : Hid (v3.heap[fb]? = some (.cells Fd.Fl.no.row 102)) := by rw [hv, hfb]; exact heap_alloc_new _ _
    have HL : Hid (WZ.heap.size ≤ fb) := by rw [hfb]; exact H2.out.size
    rw [← hv, ← hfb];clear hv hfb;refine hK.out _ _ (hS _ H3.out) (fun hHeld => ?_);clear hK K
    (try simp only [Act.put, lq])
    refine rdy 14 rfl fun K hK => ?_
    refine step_store_row rfl 102 (.tmp 3) (.tmp 19) rfl fb (Fd.Fl.row ⟨4, id, off, ap, rf⟩) rfl rfl 102 Fd.Fl.no.row P3.out flSize rfl (by simp [Value.oneCell']) ?_;have HQ : Hid ((v3.setRow fb (Fd.Fl.row ⟨4, id, off, ap, rf⟩)).heap[fb]? = some (.cells (Fd.Fl.row ⟨4, id, off, ap, rf⟩) 102)) := setRow_heap _ fb _ _ _ _ P3.out;have HE : Hid (Below WZ.heap.size WZ (v3.setRow fb (Fd.Fl.row ⟨4, id, off, ap, rf⟩))) := H3.out.trans ((Upd.setRow fb v3 (Fd.Fl.row ⟨4, id, off, ap, rf⟩)).below HL.out H3.out.size);refine hK.out _ _ (hS _ HE.out) (fun hHeld => ?_);clear hK K
    (try simp only [Act.put, lq])
    refine tkz [15] ?_
    iterate 1
     refine tkq (v := ?_) rfl (Or.inl ⟨by kernel_rfl, ?_⟩) ?_
     rotate_left
     ·(intro w hSw; (try dsimp only at hSw); go_simp) <;> with_reducible rfl
     (try simp only [Act.put, lq])
    refine tkw ?_;refine wpAnyH_done (by kernel_rfl) ?_ _;clear hS hD hG
    go_wp2_with fail
    go_meet
    case rel => exact ⟨fb, rfl, rfl, HL.out, HQ.out, HE.out⟩
   ·refine step_alloc rfl 102 rfl Fd.Fl.no.row file_alloc ?_
    obtain ⟨v2, hv⟩ : ∃ V, V = v1.alloc (.cells Fd.Fl.no.row 102) := ⟨_, rfl⟩;obtain ⟨fb, hfb⟩ : ∃ k, k = v1.heap.size := ⟨_, rfl⟩
    have H2 : Hid (Below WZ.heap.size WZ v2) := by rw [hv]; exact H1.out.trans ((below_alloc v1 _).mono H1.out.size)
    have P2 : Hid (v2.heap[fb]? = some (.cells Fd.Fl.no.row 102)) := by rw [hv, hfb]; exact heap_alloc_new _ _
    have HL : Hid (WZ.heap.size ≤ fb) := by rw [hfb]; exact H1.out.size
    rw [← hv, ← hfb];clear hv hfb;refine hK.out _ _ (hS _ H2.out) (fun hHeld => ?_);clear hK K
    (try simp only [Act.put, lq])
    refine rdy 9 rfl fun K hK => ?_
    go_simp;refine (hG v2 H2.out).mono ?_;rintro e v3 ⟨rfl, hb⟩;have H3 : Hid (Below WZ.heap.size WZ v3) := H2.out.trans (hb.mono H2.out.size);have P3 : Hid (v3.heap[fb]? = some (.cells Fd.Fl.no.row 102)) := (hb.block _ (lt_of_heap P2.out)).trans P2.out;clear hb;refine hK.out _ _ (hS _ H3.out) (fun hHeld => ?_);clear hK K
    (try simp only [Act.put, lq])
    refine tkz [10, 11, 12] ?_
    iterate 3
     refine tkq (v := ?_) rfl (Or.inl ⟨by kernel_rfl, ?_⟩) ?_
     rotate_left
     ·(intro w hSw; (try dsimp only at hSw); go_simp) <;> with_reducible rfl
     (try simp only [Act.put, lq])
    refine tkw ?_
    refine rdy 14 rfl fun K hK => ?_
    refine step_store_row rfl 102 (.tmp 3) (.tmp 19) rfl fb (Fd.Fl.row ⟨4, id, off, ap, rf⟩) rfl rfl 102 Fd.Fl.no.row P3.out flSize rfl (by simp [Value.oneCell']) ?_;have HQ : Hid ((v3.setRow fb (Fd.Fl.row ⟨4, id, off, ap, rf⟩)).heap[fb]? = some (.cells (Fd.Fl.row ⟨4, id, off, ap, rf⟩) 102)) := setRow_heap _ fb _ _ _ _ P3.out;have HE : Hid (Below WZ.heap.size WZ (v3.setRow fb (Fd.Fl.row ⟨4, id, off, ap, rf⟩))) := H3.out.trans ((Upd.setRow fb v3 (Fd.Fl.row ⟨4, id, off, ap, rf⟩)).below HL.out H3.out.size);refine hK.out _ _ (hS _ HE.out) (fun hHeld => ?_);clear hK K
    (try simp only [Act.put, lq])
    refine tkz [15] ?_
    iterate 1
     refine tkq (v := ?_) rfl (Or.inl ⟨by kernel_rfl, ?_⟩) ?_
     rotate_left
     ·(intro w hSw; (try dsimp only at hSw); go_simp) <;> with_reducible rfl
     (try simp only [Act.put, lq])
    refine tkw ?_;refine wpAnyH_done (by kernel_rfl) ?_ _;clear hS hD hG
    go_wp2_with fail
    go_meet
    case rel => exact ⟨fb, rfl, rfl, HL.out, HQ.out, HE.out⟩
  ·refine step_alloc rfl 102 rfl Fd.Fl.no.row file_alloc ?_
   obtain ⟨v1, hv⟩ : ∃ V, V = v0.alloc (.cells Fd.Fl.no.row 102) := ⟨_, rfl⟩;obtain ⟨fb, hfb⟩ : ∃ k, k = v0.heap.size := ⟨_, rfl⟩
   have H1 : Hid (Below WZ.heap.size WZ v1) := by rw [hv]; exact H0.out.trans ((below_alloc v0 _).mono H0.out.size)
   have P1 : Hid (v1.heap[fb]? = some (.cells Fd.Fl.no.row 102)) := by rw [hv, hfb]; exact heap_alloc_new _ _
   have HL : Hid (WZ.heap.size ≤ fb) := by rw [hfb]; exact H0.out.size
   rw [← hv, ← hfb];clear hv hfb;refine hK.out _ _ (hS _ H1.out) (fun hHeld => ?_);clear hK K
   (try simp only [Act.put, lq])
   refine rdy 8 rfl fun K hK => ?_
   go_simp;refine (hD v1).mono ?_;rintro e v2 ⟨rfl, hb⟩;have H2 : Hid (Below WZ.heap.size WZ v2) := H1.out.trans (hb.mono H1.out.size);have P2 : Hid (v2.heap[fb]? = some (.cells Fd.Fl.no.row 102)) := (hb.block _ (lt_of_heap P1.out)).trans P1.out;clear hb;refine hK.out _ _ (hS _ H2.out) (fun hHeld => ?_);clear hK K
   (try simp only [Act.put, lq])
   refine rdy 9 rfl fun K hK => ?_
   go_simp;refine (hG v2 H2.out).mono ?_;rintro e v3 ⟨rfl, hb⟩;have H3 : Hid (Below WZ.heap.size WZ v3) := H2.out.trans (hb.mono H2.out.size);have P3 : Hid (v3.heap[fb]? = some (.cells Fd.Fl.no.row 102)) := (hb.block _ (lt_of_heap P2.out)).trans P2.out;clear hb;refine hK.out _ _ (hS _ H3.out) (fun hHeld => ?_);clear hK K
   (try simp only [Act.put, lq])
   refine tkz [10, 11, 12] ?_
   iterate 3
    refine tkq (v := ?_) rfl (Or.inl ⟨by kernel_rfl, ?_⟩) ?_
    rotate_left
    ·(intro w hSw; (try dsimp only at hSw); go_simp) <;> with_reducible rfl
    (try simp only [Act.put, lq])
   refine tkw ?_
   refine rdy 14 rfl fun K hK => ?_
   refine step_store_row rfl 102 (.tmp 3) (.tmp 19) rfl fb (Fd.Fl.row ⟨4, id, off, ap, rf⟩) rfl rfl 102 Fd.Fl.no.row P3.out flSize rfl (by simp [Value.oneCell']) ?_;have HQ : Hid ((v3.setRow fb (Fd.Fl.row ⟨4, id, off, ap, rf⟩)).heap[fb]? = some (.cells (Fd.Fl.row ⟨4, id, off, ap, rf⟩) 102)) := setRow_heap _ fb _ _ _ _ P3.out;have HE : Hid (Below WZ.heap.size WZ (v3.setRow fb (Fd.Fl.row ⟨4, id, off, ap, rf⟩))) := H3.out.trans ((Upd.setRow fb v3 (Fd.Fl.row ⟨4, id, off, ap, rf⟩)).below HL.out H3.out.size);refine hK.out _ _ (hS _ HE.out) (fun hHeld => ?_);clear hK K
   (try simp only [Act.put, lq])
   refine tkz [15] ?_
   iterate 1
    refine tkq (v := ?_) rfl (Or.inl ⟨by kernel_rfl, ?_⟩) ?_
    rotate_left
    ·(intro w hSw; (try dsimp only at hSw); go_simp) <;> with_reducible rfl
    (try simp only [Act.put, lq])
   refine tkw ?_;refine wpAnyH_done (by kernel_rfl) ?_ _;clear hS hD hG
   go_wp2_with fail
   go_meet
   case rel => exact ⟨fb, rfl, rfl, HL.out, HQ.out, HE.out⟩
 case rest =>
  obtain ⟨fb, rfl, rfl, hfb, hfr, hbc⟩ := hcut;have HFr := hid hfr;have HBc := hid hbc;have HAc : Hid (UnAt wc L U) := HA0.out.below hbc;have HKc : Hid (wc.heap[kb]? = some (.cells (tkR cc s pid x i) 99)) := (hbc.block _ (lt_of_heap HK.out)).trans HK.out;have HZc : Hid (wc.heap[zb]? = some (.cells (ouR Ou.zero) 96)) := (hbc.block _ (lt_of_heap HZ.out)).trans HZ.out;clear hS hD hG hfr hbc hfb;clear eTK;have hWI := whatIs_wri id off rf ap;have t1 := ta_con_wri id;have t2 := ta_sto_wri id;have t3 := ta_wri_wri id
  go_upto_region 4 with fail
  go_wp2_with (first
    | (refine wpList_load_row rfl 102 _ rfl fb rfl 102 (Fd.Fl.row ⟨4, id, off, ap, rf⟩) (0, 0) _ HFr.out Tryz.underlying102 rfl flSize ?_)
    | fail)
  refine (hWI _).mono ?_;rintro e w1 ⟨rfl, hb1⟩;have HB1 := hid hb1;clear hWI hb1
  go_upto_region 12 with fail
  obtain ⟨w2, hw2⟩ : ∃ V, V = w1.alloc (.cells #[.int .i64 id] 270) := ⟨_, rfl⟩
  have hb2 : Below w1.heap.size w1 w2 := by rw [hw2]; exact below_alloc _ _
  have HB2 : Hid (Below wc.heap.size wc w2) := HB1.out.trans (hb2.mono HB1.out.size);have HK2 : Hid (w2.heap[kb]? = some (.cells (tkR cc s pid x i) 99)) := (HB2.out.block _ (lt_of_heap HKc.out)).trans HKc.out;have HZ2 : Hid (w2.heap[zb]? = some (.cells (ouR Ou.zero) 96)) := (HB2.out.block _ (lt_of_heap HZc.out)).trans HZc.out;have HUT2 : Hid (UT L.lo w w2) := UT.of_below ((HB0.out.trans (HBc.out.mono HB0.out.size)).trans (HB2.out.mono (HB0.out.trans (HBc.out.mono HB0.out.size)).size))
  have hx2 : w2.cell? ⟨w1.heap.size, 0, none⟩ = some (.int .i64 id) := by rw [hw2, cell_of_heap (heap_alloc_new _ _)]; rfl
  have hRP := writePipe_at (HAc.out.below HB2.out) s pid x i id hwt hwo;rw [← Hcc.out] at hRP;unfold Left at hRP
  have e1 : ouR (wpO U id x.t) = R := by rw [HRq.out, HO.out]
  have e2 : wpU U id x.t = U' := by rw [HU'.out]
  rw [e1, e2] at hRP;have HW2 := hid hw2;clear hw2 hb2 e1 e2
  go_upto_region 13 with fail
  rw [← HW2.out]
  go_wp2_with (first
    | (refine wpList_load_row rfl 99 _ rfl kb rfl 99 (tkR cc s pid x i) (0, 0) _ HK2.out Tryz.underlying99 rfl tkSize ?_)
    | fail)
  refine hRP.mono ?_;rintro e w3 ⟨rfl, ha3, hu3⟩;have HA1 := hid ha3;have HU1 : Hid (UT L.lo w w3) := HUT2.out.trans hu3;have HZ3 : Hid (w3.heap[zb]? = some (.cells (ouR Ou.zero) 96)) := hu3.other HZ2.out rfl;clear hRP ha3 hu3 hx2;have HM : Hid (w3.heap[zb]? = some (.cells (ouR Ou.zero) 96)) := HZ3.out;have HQ : Hid ((w3.setRow zb R).heap[zb]? = some (.cells R 96)) := setRow_heap _ zb _ _ _ _ HM.out;have HF : Hid (UnAt (w3.setRow zb R) L U' ∧ UT L.lo w (w3.setRow zb R)) := ⟨HA1.out.row HM.out rfl (by decide) (by decide), HU1.out.far (by rw [HZb.out]; omega)⟩
  go_wp2_with (first
    | (refine wpList_store_row rfl 96 _ _ rfl zb R rfl rfl 96 (ouR Ou.zero) HM.out (by rw [HRs.out]; exact ouSize) (by rw [HRs.out]; rfl) HOne.out ?_)
    | go_in)
  exact bodyPost_ret (v := .agg R) (results_cell_row rfl _ _ zb 96 R (0, 0) _ rfl HQ.out Tryz.underlying96 rfl (by rw [HRs.out]; exact ouSize)) rfl ⟨rfl, HF.out⟩
def wcO (t : List UInt8) : Ou := ⟨(t.length : Nat), 0, [], 0, 0, t, 0, false⟩
theorem write_con {w : World} {L : Pl} {U : Un} (h : UnAt w L U) (s : Value) (pid : Int) (x : Cl) (i : List UInt8) (ha : 0 ≤ x.a) (id off rf : Int) (ap : Bool) (hE : Fd.getE U.F pid (smI x.a) = 0) (hX : Fd.getX U.F pid (smI x.a) = ⟨1, id, off, ap, rf⟩)  :
  Calls Tryz.prog 82 #[.agg (tkR L.c s pid x i)] w (Left L (wcO x.t) (U) w) := by
 unfold Left;obtain ⟨WK, WZ, hWK, hWZ, hB, hyK, hyZ⟩ := blk2 w (tkR L.c s pid x i) 99 (ouR Ou.zero) 96;have HA0 : Hid (UnAt WZ L U) := h.below hB;have HB0 := hid hB;have hz : (#[.int .i64 0, .int .i64 0, .string ⟨#[]⟩, .int .i64 0, .int .i64 0, .string ⟨#[]⟩, .int .i64 0, .bool false] : Array Value) = ouR Ou.zero := rfl;obtain ⟨kb, hKb⟩ : ∃ k, k = w.heap.size := ⟨_, rfl⟩;rw [← hKb] at hyK;have HK := hid hyK;have HKb := hid hKb;have HWK : Hid _ := hWK;obtain ⟨zb, hZb⟩ : ∃ k, k = w.heap.size + 1 := ⟨_, rfl⟩;rw [← hZb] at hyZ;have HZ := hid hyZ;have HZb := hid hZb;have HWZ : Hid _ := hWZ;have HU := hid h;clear hWK hKb hWZ hZb hB h;obtain ⟨cc, hcc⟩ : ∃ c, c = L.c := ⟨_, rfl⟩;obtain ⟨ff, hff⟩ : ∃ c, c = L.f := ⟨_, rfl⟩;rw [← hcc] at HK hyK HWK ⊢;have Hcc := hid hcc;have Hff := hid hff;obtain ⟨TK, hTK⟩ : ∃ l, l = (tkR cc s pid x i).toList := ⟨_, rfl⟩
 have HTl : Hid (TK.length = 10) := by show _ = _; rw [hTK]; rfl
 have eTK : TK.toArray = tkR cc s pid x i := by rw [hTK]
 have hS : ∀ W, Below WZ.heap.size WZ W → W.rangeAt kb 0 TK ∧ W.cell? ⟨kb, 0, none⟩ = some (ptr cc) ∧ W.cell? ⟨kb, 2, none⟩ = some (.int .i64 pid) ∧ W.cell? ⟨cc, 0, none⟩ = some (ptr ff) := fun W hW => by
  have c0 := HA0.out.cell0;rw [← Hcc.out, ← Hff.out] at c0
  have e1 : ∀ j v, TK[j]? = some v → WZ.cell? ⟨kb, 0 + j, none⟩ = some v := fun j v hv => by rw [Nat.zero_add, cell_of_heap HK.out]; rw [hTK] at hv; simpa using hv
  have e2 : WZ.cell? ⟨kb, 0, none⟩ = some (ptr cc) := by rw [cell_of_heap HK.out]; rfl
  have e3 : WZ.cell? ⟨kb, 2, none⟩ = some (.int .i64 pid) := by rw [cell_of_heap HK.out]; rfl
  exact ⟨fun j v hv => (hW.cell (cell_lt (e1 j v hv))).trans (e1 j v hv), (hW.cell (cell_lt e2)).trans e2, (hW.cell (cell_lt e3)).trans e3, (hW.cell (cell_lt c0)).trans c0⟩
 have hD := fun V => descriptor_at cc s pid x i ha V
 obtain ⟨fd, hfd⟩ : ∃ d, d = smI x.a := ⟨_, rfl⟩;rw [← hfd] at hE hX hD
 have hG : ∀ W, Below WZ.heap.size WZ W → Calls Tryz.prog 148 #[ptr ff, .int .i64 pid, .int .i64 fd] W fun e w' => e = .returned (.tuple #[.agg (Fd.Fl.row ⟨1, id, off, ap, rf⟩), .int .i64 0]) ∧ Below W.heap.size W w' := fun W hW => by
  have := Fd.get_at L.f U.F pid fd W (HA0.out.below hW).fds HA0.out.ok.inv;rw [hE, hX, ← Hff.out] at this;exact this
 obtain ⟨o, ho⟩ : ∃ o, o = wcO x.t := ⟨_, rfl⟩;rw [← ho];have HO := hid ho;obtain ⟨U', hU'⟩ : ∃ V, V = U := ⟨_, rfl⟩;rw [← hU'];have HU' := hid hU';obtain ⟨R, hR⟩ : ∃ R, R = ouR o := ⟨_, rfl⟩
 have HRs : Hid (R.size = 8) := by rw [hR]; exact ouR_size _
 have HOne : Hid (R.all (·.oneCell') = true) := by rw [hR]; exact ouR_one _
 rw [← hR];have HRq := hid hR;clear ho hU' hR;clear hyK hyZ hcc hff hE hX hTK hfd
 go_enter Tryz.func82, Tryz.ntmps82
 go_upto_region 1 with fail
 rw [← HWK.out, ← HWZ.out];rw [← HZb.out];rw [← HKb.out]
 go_cut [3, 4] (fun p e wc => ∃ fb, p = ptr fb ∧ e = .int .i64 0 ∧ WZ.heap.size ≤ fb ∧ wc.heap[fb]? = some (.cells (Fd.Fl.row ⟨1, id, off, ap, rf⟩) 102) ∧ Below WZ.heap.size WZ wc)
 case first => as_aux_lemma =>
  refine wp_region_held_drew (S := fun w' => w'.rangeAt kb 0 TK ∧ w'.cell? ⟨kb, 0, none⟩ = some (ptr cc) ∧ w'.cell? ⟨kb, 2, none⟩ = some (.int .i64 pid) ∧ w'.cell? ⟨cc, 0, none⟩ = some (ptr ff)) (by kernel_rfl) (hS _ (Di.drewN_below (w := WZ) ⟨1, rfl⟩)) (fun hHeld => ?_);refine tkz [0, 1, 2, 3, 4, 5, 6] ?_
  iterate 7
   refine tkq (v := ?_) rfl (Or.inl ⟨by kernel_rfl, ?_⟩) ?_
   rotate_left
   ·(intro w hSw; (try dsimp only at hSw); go_simp) <;> with_reducible rfl
   (try simp only [Act.put, lq])
  refine tkw ?_;refine tkv 7 (.agg (TK).toArray) rfl (yieldsIf_load_mid (by kernel_rfl) 99 _ rfl kb 0 rfl (TK) _ (fun w hw => hw.1) Tryz.underlying99 rfl (by rw [HTl.out]; exact tkSize)) ?_
  (try simp only [Act.put, lq])
  obtain ⟨v0, hv0⟩ : ∃ V, V = WZ.drew := ⟨_, rfl⟩
  have H0 : Hid (Below WZ.heap.size WZ v0) := by rw [hv0]; exact Di.drewN_below (w := WZ) ⟨1, rfl⟩
  rw [← hv0];clear hv0;refine wpAnyH_ready (rs := [8, 13]) (by kernel_rfl) (by simp) ?_;refine AllReadyH.cons rfl (fun K hK => ?_) (AllReadyH.cons rfl (fun K hK => ?_) (AllReadyH.nil))
  ·go_simp
   refine (hD v0).mono ?_;rintro e v1 ⟨rfl, hb⟩;have H1 : Hid (Below WZ.heap.size WZ v1) := H0.out.trans (hb.mono H0.out.size);clear hb;refine hK.out _ _ (hS _ H1.out) (fun hHeld => ?_);clear hK K
   (try simp only [Act.put, lq])
   refine wpAnyH_ready (rs := [9, 13]) (by kernel_rfl) (by simp) ?_;refine AllReadyH.cons rfl (fun K hK => ?_) (AllReadyH.cons rfl (fun K hK => ?_) (AllReadyH.nil))
   ·go_simp
    refine (hG v1 H1.out).mono ?_;rintro e v2 ⟨rfl, hb⟩;have H2 : Hid (Below WZ.heap.size WZ v2) := H1.out.trans (hb.mono H1.out.size);clear hb;refine hK.out _ _ (hS _ H2.out) (fun hHeld => ?_);clear hK K
    (try simp only [Act.put, lq])
    refine tkz [10, 11, 12] ?_
    iterate 3
     refine tkq (v := ?_) rfl (Or.inl ⟨by kernel_rfl, ?_⟩) ?_
     rotate_left
     ·(intro w hSw; (try dsimp only at hSw); go_simp) <;> with_reducible rfl
     (try simp only [Act.put, lq])
    refine tkw ?_
    refine rdy 13 rfl fun K hK => ?_
    refine step_alloc rfl 102 rfl Fd.Fl.no.row file_alloc ?_;obtain ⟨v3, hv⟩ : ∃ V, V = v2.alloc (.cells Fd.Fl.no.row 102) := ⟨_, rfl⟩;obtain ⟨fb, hfb⟩ : ∃ k, k = v2.heap.size := ⟨_, rfl⟩
    have H3 : Hid (Below WZ.heap.size WZ v3) := by rw [hv]; exact H2.out.trans ((below_alloc v2 _).mono H2.out.size)
    have P3 : Hid (v3.heap[fb]? = some (.cells Fd.Fl.no.row 102)) := by rw [hv, hfb]; exact heap_alloc_new _ _
    have HL : Hid (WZ.heap.size ≤ fb) := by rw [hfb]; exact H2.out.size
    rw [← hv, ← hfb];clear hv hfb;refine hK.out _ _ (hS _ H3.out) (fun hHeld => ?_);clear hK K
    (try simp only [Act.put, lq])
    refine rdy 14 rfl fun K hK => ?_
    refine step_store_row rfl 102 (.tmp 3) (.tmp 19) rfl fb (Fd.Fl.row ⟨1, id, off, ap, rf⟩) rfl rfl 102 Fd.Fl.no.row P3.out flSize rfl (by simp [Value.oneCell']) ?_;have HQ : Hid ((v3.setRow fb (Fd.Fl.row ⟨1, id, off, ap, rf⟩)).heap[fb]? = some (.cells (Fd.Fl.row ⟨1, id, off, ap, rf⟩) 102)) := setRow_heap _ fb _ _ _ _ P3.out;have HE : Hid (Below WZ.heap.size WZ (v3.setRow fb (Fd.Fl.row ⟨1, id, off, ap, rf⟩))) := H3.out.trans ((Upd.setRow fb v3 (Fd.Fl.row ⟨1, id, off, ap, rf⟩)).below HL.out H3.out.size);refine hK.out _ _ (hS _ HE.out) (fun hHeld => ?_);clear hK K
    (try simp only [Act.put, lq])
    refine tkz [15] ?_
    iterate 1
     refine tkq (v := ?_) rfl (Or.inl ⟨by kernel_rfl, ?_⟩) ?_
     rotate_left
     ·(intro w hSw; (try dsimp only at hSw); go_simp) <;> with_reducible rfl
     (try simp only [Act.put, lq])
    refine tkw ?_;refine wpAnyH_done (by kernel_rfl) ?_ _;clear hS hD hG
    go_wp2_with fail
    go_meet
    case rel => exact ⟨fb, rfl, rfl, HL.out, HQ.out, HE.out⟩
   ·refine step_alloc rfl 102 rfl Fd.Fl.no.row file_alloc ?_
    obtain ⟨v2, hv⟩ : ∃ V, V = v1.alloc (.cells Fd.Fl.no.row 102) := ⟨_, rfl⟩;obtain ⟨fb, hfb⟩ : ∃ k, k = v1.heap.size := ⟨_, rfl⟩
    have H2 : Hid (Below WZ.heap.size WZ v2) := by rw [hv]; exact H1.out.trans ((below_alloc v1 _).mono H1.out.size)
    have P2 : Hid (v2.heap[fb]? = some (.cells Fd.Fl.no.row 102)) := by rw [hv, hfb]; exact heap_alloc_new _ _
    have HL : Hid (WZ.heap.size ≤ fb) := by rw [hfb]; exact H1.out.size
    rw [← hv, ← hfb];clear hv hfb;refine hK.out _ _ (hS _ H2.out) (fun hHeld => ?_);clear hK K
    (try simp only [Act.put, lq])
    refine rdy 9 rfl fun K hK => ?_
    go_simp;refine (hG v2 H2.out).mono ?_;rintro e v3 ⟨rfl, hb⟩;have H3 : Hid (Below WZ.heap.size WZ v3) := H2.out.trans (hb.mono H2.out.size);have P3 : Hid (v3.heap[fb]? = some (.cells Fd.Fl.no.row 102)) := (hb.block _ (lt_of_heap P2.out)).trans P2.out;clear hb;refine hK.out _ _ (hS _ H3.out) (fun hHeld => ?_);clear hK K
    (try simp only [Act.put, lq])
    refine tkz [10, 11, 12] ?_
    iterate 3
     refine tkq (v := ?_) rfl (Or.inl ⟨by kernel_rfl, ?_⟩) ?_
     rotate_left
     ·(intro w hSw; (try dsimp only at hSw); go_simp) <;> with_reducible rfl
     (try simp only [Act.put, lq])
    refine tkw ?_
    refine rdy 14 rfl fun K hK => ?_
    refine step_store_row rfl 102 (.tmp 3) (.tmp 19) rfl fb (Fd.Fl.row ⟨1, id, off, ap, rf⟩) rfl rfl 102 Fd.Fl.no.row P3.out flSize rfl (by simp [Value.oneCell']) ?_;have HQ : Hid ((v3.setRow fb (Fd.Fl.row ⟨1, id, off, ap, rf⟩)).heap[fb]? = some (.cells (Fd.Fl.row ⟨1, id, off, ap, rf⟩) 102)) := setRow_heap _ fb _ _ _ _ P3.out;have HE : Hid (Below WZ.heap.size WZ (v3.setRow fb (Fd.Fl.row ⟨1, id, off, ap, rf⟩))) := H3.out.trans ((Upd.setRow fb v3 (Fd.Fl.row ⟨1, id, off, ap, rf⟩)).below HL.out H3.out.size);refine hK.out _ _ (hS _ HE.out) (fun hHeld => ?_);clear hK K
    (try simp only [Act.put, lq])
    refine tkz [15] ?_
    iterate 1
     refine tkq (v := ?_) rfl (Or.inl ⟨by kernel_rfl, ?_⟩) ?_
     rotate_left
     ·(intro w hSw; (try dsimp only at hSw); go_simp) <;> with_reducible rfl
     (try simp only [Act.put, lq])
    refine tkw ?_;refine wpAnyH_done (by kernel_rfl) ?_ _;clear hS hD hG
    go_wp2_with fail
    go_meet
    case rel => exact ⟨fb, rfl, rfl, HL.out, HQ.out, HE.out⟩
  ·refine step_alloc rfl 102 rfl Fd.Fl.no.row file_alloc ?_
   obtain ⟨v1, hv⟩ : ∃ V, V = v0.alloc (.cells Fd.Fl.no.row 102) := ⟨_, rfl⟩;obtain ⟨fb, hfb⟩ : ∃ k, k = v0.heap.size := ⟨_, rfl⟩
   have H1 : Hid (Below WZ.heap.size WZ v1) := by rw [hv]; exact H0.out.trans ((below_alloc v0 _).mono H0.out.size)
   have P1 : Hid (v1.heap[fb]? = some (.cells Fd.Fl.no.row 102)) := by rw [hv, hfb]; exact heap_alloc_new _ _
   have HL : Hid (WZ.heap.size ≤ fb) := by rw [hfb]; exact H0.out.size
   rw [← hv, ← hfb];clear hv hfb;refine hK.out _ _ (hS _ H1.out) (fun hHeld => ?_);clear hK K
   (try simp only [Act.put, lq])
   refine rdy 8 rfl fun K hK => ?_
   go_simp;refine (hD v1).mono ?_;rintro e v2 ⟨rfl, hb⟩;have H2 : Hid (Below WZ.heap.size WZ v2) := H1.out.trans (hb.mono H1.out.size);have P2 : Hid (v2.heap[fb]? = some (.cells Fd.Fl.no.row 102)) := (hb.block _ (lt_of_heap P1.out)).trans P1.out;clear hb;refine hK.out _ _ (hS _ H2.out) (fun hHeld => ?_);clear hK K
   (try simp only [Act.put, lq])
   refine rdy 9 rfl fun K hK => ?_
   go_simp;refine (hG v2 H2.out).mono ?_;rintro e v3 ⟨rfl, hb⟩;have H3 : Hid (Below WZ.heap.size WZ v3) := H2.out.trans (hb.mono H2.out.size);have P3 : Hid (v3.heap[fb]? = some (.cells Fd.Fl.no.row 102)) := (hb.block _ (lt_of_heap P2.out)).trans P2.out;clear hb;refine hK.out _ _ (hS _ H3.out) (fun hHeld => ?_);clear hK K
   (try simp only [Act.put, lq])
   refine tkz [10, 11, 12] ?_
   iterate 3
    refine tkq (v := ?_) rfl (Or.inl ⟨by kernel_rfl, ?_⟩) ?_
    rotate_left
    ·(intro w hSw; (try dsimp only at hSw); go_simp) <;> with_reducible rfl
    (try simp only [Act.put, lq])
   refine tkw ?_
   refine rdy 14 rfl fun K hK => ?_
   refine step_store_row rfl 102 (.tmp 3) (.tmp 19) rfl fb (Fd.Fl.row ⟨1, id, off, ap, rf⟩) rfl rfl 102 Fd.Fl.no.row P3.out flSize rfl (by simp [Value.oneCell']) ?_;have HQ : Hid ((v3.setRow fb (Fd.Fl.row ⟨1, id, off, ap, rf⟩)).heap[fb]? = some (.cells (Fd.Fl.row ⟨1, id, off, ap, rf⟩) 102)) := setRow_heap _ fb _ _ _ _ P3.out;have HE : Hid (Below WZ.heap.size WZ (v3.setRow fb (Fd.Fl.row ⟨1, id, off, ap, rf⟩))) := H3.out.trans ((Upd.setRow fb v3 (Fd.Fl.row ⟨1, id, off, ap, rf⟩)).below HL.out H3.out.size);refine hK.out _ _ (hS _ HE.out) (fun hHeld => ?_);clear hK K
   (try simp only [Act.put, lq])
   refine tkz [15] ?_
   iterate 1
    refine tkq (v := ?_) rfl (Or.inl ⟨by kernel_rfl, ?_⟩) ?_
    rotate_left
    ·(intro w hSw; (try dsimp only at hSw); go_simp) <;> with_reducible rfl
    (try simp only [Act.put, lq])
   refine tkw ?_;refine wpAnyH_done (by kernel_rfl) ?_ _;clear hS hD hG
   go_wp2_with fail
   go_meet
   case rel => exact ⟨fb, rfl, rfl, HL.out, HQ.out, HE.out⟩
 case rest =>
  obtain ⟨fb, rfl, rfl, hfb, hfr, hbc⟩ := hcut;have HFr := hid hfr;have HBc := hid hbc;have HAc : Hid (UnAt wc L U) := HA0.out.below hbc;have HKc : Hid (wc.heap[kb]? = some (.cells (tkR cc s pid x i) 99)) := (hbc.block _ (lt_of_heap HK.out)).trans HK.out;have HZc : Hid (wc.heap[zb]? = some (.cells (ouR Ou.zero) 96)) := (hbc.block _ (lt_of_heap HZ.out)).trans HZ.out;clear hS hD hG hfr hbc hfb;clear eTK;have hWI := whatIs_con id off rf ap;have t1 := ta_con_con
  go_upto_region 4 with fail
  go_wp2_with (first
    | (refine wpList_load_row rfl 102 _ rfl fb rfl 102 (Fd.Fl.row ⟨1, id, off, ap, rf⟩) (0, 0) _ HFr.out Tryz.underlying102 rfl flSize ?_)
    | fail)
  refine (hWI _).mono ?_;rintro e w1 ⟨rfl, hb1⟩;have HB1 := hid hb1;clear hWI hb1
  go_upto_region 6 with fail
  obtain ⟨w2, hw2⟩ : ∃ V, V = w1.alloc (.cells #[] 262) := ⟨_, rfl⟩
  have hb2 : Below w1.heap.size w1 w2 := by rw [hw2]; exact below_alloc _ _
  have HB2 : Hid (Below wc.heap.size wc w2) := HB1.out.trans (hb2.mono HB1.out.size);have HK2 : Hid (w2.heap[kb]? = some (.cells (tkR cc s pid x i) 99)) := (HB2.out.block _ (lt_of_heap HKc.out)).trans HKc.out;have HZ2 : Hid (w2.heap[zb]? = some (.cells (ouR Ou.zero) 96)) := (HB2.out.block _ (lt_of_heap HZc.out)).trans HZc.out;have HUT2 : Hid (UT L.lo w w2) := UT.of_below ((HB0.out.trans (HBc.out.mono HB0.out.size)).trans (HB2.out.mono (HB0.out.trans (HBc.out.mono HB0.out.size)).size));have HW2 := hid hw2;obtain ⟨t, ht⟩ : ∃ t, t = x.t := ⟨_, rfl⟩
  have hk7 : w2.cell? ⟨kb, 7, none⟩ = some (Pp.tx t) := by rw [cell_of_heap HK2.out, ht]; rfl
  obtain ⟨m, hm⟩ : ∃ m, m = t.length := ⟨_, rfl⟩
  have hRR : R = #[.int .i64 (t.length : Nat), .int .i64 0, .string ⟨#[]⟩, .int .i64 0, .int .i64 0, .string ⟨t.toArray⟩, .int .i64 0, .bool false] := by
   rw [HRq.out, HO.out, ht]
   rfl
  have HRR := hid hRR
  have HA1 : Hid (UnAt w2 L U') := by rw [HU'.out]; exact HAc.out.below HB2.out
  have HU1 : Hid (UT L.lo w w2) := HUT2.out;clear hw2 hb2 ht hRR;have HM : Hid (w2.heap[zb]? = some (.cells (ouR Ou.zero) 96)) := HZ2.out;have HQ : Hid ((w2.setRow zb R).heap[zb]? = some (.cells R 96)) := setRow_heap _ zb _ _ _ _ HM.out;have HF : Hid (UnAt (w2.setRow zb R) L U' ∧ UT L.lo w (w2.setRow zb R)) := ⟨HA1.out.row HM.out rfl (by decide) (by decide), HU1.out.far (by rw [HZb.out]; omega)⟩
  go_upto_region 7 with fail
  rw [← HW2.out]
  go_wp2_with (first
    | (refine wpList_store_row rfl 96 _ _ rfl zb R rfl (by rw [HRR.out]; rfl) 96 (ouR Ou.zero) HM.out (by rw [HRs.out]; exact ouSize) (by rw [HRs.out]; rfl) HOne.out ?_)
    | go_in)
  exact bodyPost_ret (v := .agg R) (results_cell_row rfl _ _ zb 96 R (0, 0) _ rfl HQ.out Tryz.underlying96 rfl (by rw [HRs.out]; exact ouSize)) rfl ⟨rfl, HF.out⟩
def conF : Fd.Fl := ⟨1, 0, 0, false, 0⟩
def opens (F : Fd.FS) : Nat → Fd.FS
 | 0 => F
 | k + 1 => Fd.openT (opens F k) 1 conF
def UnB (k : Nat) : Un := ⟨opens Fd.FS.zero k, Pp.PS.none, Sg.SS.first, Pc.beS Pc.St0⟩
def Un1 : Un := UnB 3
theorem conF_fit : Fd.Fit conF := ⟨by decide, by decide, by decide, by decide, by decide, by decide⟩
theorem conF_built (W : World) : (Instr.build 102 #[(0, .int .i64 1)]).run Tryz.prog W = .ok (.agg conF.row) W := by kernel_rfl
theorem ubegin_at {w : World} {L : Pl} (h : UnAt w L Un0) : Calls Tryz.prog 33 #[ptr L.c, .int .i64 1] w fun e w' => e = .returned (.int .i64 0) ∧ UnAt w' L Un1 ∧ UT L.lo w w' := by
 have hP := Pc.begin_at L.B L.t Pc.St0 w h.procs;rw [show Pc.beN Pc.St0 = 1 from by kernel_rfl] at hP;have c3 := h.cell3;have HA := hid h;have hne := core_eq L.c;clear h;obtain ⟨cc, hcc⟩ : ∃ c, c = L.c := ⟨_, rfl⟩;obtain ⟨tt, htt⟩ : ∃ c, c = L.t := ⟨_, rfl⟩;obtain ⟨ff, hff⟩ : ∃ c, c = L.f := ⟨_, rfl⟩;rw [← hcc] at c3 hne ⊢;rw [← htt] at c3 hP;have Hcc := hid hcc;have Htt := hid htt;have Hff := hid hff;clear hcc htt hff
 go_enter Tryz.func33, Tryz.ntmps33
 go_wp2_with fail
 refine hP.mono ?_;rintro e w1 ⟨rfl, ht, hu⟩;have hA1 := HA.out.putT hu (by rw [← Htt.out]; exact ht);have HE1 : Hid (UnAt w1 L (UnB 0) ∧ UT L.lo w w1) := ⟨hA1.1, hA1.2⟩;clear hP ht hu hA1 c3
 go_wp2_with fail
 go_loopw [17] (fun s wr => ∃ k : Nat, k ≤ 3 ∧ s = .int .i64 k ∧ Hid (UnAt wr L (UnB k) ∧ UT L.lo w wr)) (fun s _ => 3 - (intOf s).toNat)
 case atStart => exact ⟨0, by omega, rfl, HE1⟩
 case round =>
  obtain ⟨k, hk, rfl, HR⟩ := hrel;clear HE1;have c0 := HR.out.1.cell0;rw [← Hcc.out, ← Hff.out] at c0
  by_cases hlt : k < 3
  ·have hl : decide ((k : Int) < 3) = true := decide_eq_true (by omega)
   have hO := Fd.open_at L.f (UnB k).F 1 conF wr HR.out.1.fds;rw [← Hff.out] at hO;have hbu := conF_built;generalize Fd.openA (UnB k).F 1 = oa at hO;generalize Fd.openE (UnB k).F 1 = oe at hO
   go_wp2_with fail
   refine hO.mono ?_;rintro e w2 ⟨rfl, hf, hu⟩;have hA2 := HR.out.1.putF (by rw [← Hff.out]; exact hu) (by rw [← Hff.out]; exact hf) (HR.out.1.ok.inv.openT _ _) (HR.out.1.ok.fit.openT conF_fit);have HE2 : Hid (UnAt w2 L (UnB (k + 1)) ∧ UT L.lo w w2) := ⟨hA2.1, HR.out.2.trans hA2.2⟩;clear hO hf hu hA2 c0 hbu HR;go_wp2;go_roundw
   case rel => exact ⟨k + 1, by omega, by go_num, HE2⟩
   case measure => simp [intOf]; omega
  ·obtain rfl : k = 3 := by omega
   go_wp2;go_ret;exact ⟨rfl, HR.out.1, HR.out.2⟩
theorem store_eq (B : Nat) (W : World) : (binOp BinOp.eql 94 (.iface 40 (ptr B)) .nilIface).run Tryz.prog W = .ok (.bool false) W := by kernel_rfl
def DoIs (L : Pl) (o : Ou) (U' : Un) (w : World) : Ending → World → Prop := fun e w' => e = .returned (.tuple #[.agg (reR o), Pp.tx o.o, .int .i64 o.k, .bool o.w]) ∧ UnAt w' L U' ∧ UT L.lo w w'
def ax1 : Cl := ⟨8, 1, 0, 0, [104, 105], []⟩
def ax2 : Cl := ⟨9, 0, 0, 0, [], []⟩
def ax3 : Cl := ⟨7, 3, 0, 5, [], []⟩
def ax4 : Cl := ⟨8, 4, 0, 0, [97, 98], []⟩
def ax6 : Cl := ⟨7, 0, 0, 2, [], []⟩
def ao1 : Ou := ⟨2, 0, [], 0, 0, [104, 105], 0, false⟩
def ao2 : Ou := ⟨0, 0, [], 3, 4, [], 0, false⟩
def ao3 : Ou := ⟨0, 0, [], 0, 0, [], 0, true⟩
def ao4 : Ou := ⟨2, 0, [], 0, 0, [], 0, false⟩
def ao5 : Ou := ⟨2, 0, [97, 98], 0, 0, [], 0, false⟩
def ao6 : Ou := ⟨2, 0, [120, 121], 0, 0, [], 2, false⟩
def UnP : Un := piU Un1 1
def UnP3 : Un := rpU UnP 0 5
def UnP4 : Un := wpU UnP3 0 [97, 98]
def UnP5 : Un := rpU UnP4 0 5
section
variable {w : World} {L : Pl}
theorem aw_1 (h : UnAt w L Un1) (B : Nat) : Calls Tryz.prog 10 #[ptr L.c, .iface 40 (ptr B), .int .i64 1, .agg (clR ax1), Pp.tx []] w (DoIs L ao1 Un1 w) :=
 Do_at h _ _ (store_eq B) 1 ax1 [] (by kernel_rfl) (fun _ hW => do_8 hW _ 1 ax1 [] rfl (fun _ hV => write_con hV _ 1 ax1 [] (by decide) 0 0 1 false (by kernel_rfl) (by kernel_rfl)))
theorem aw_2 (h : UnAt w L Un1) (B : Nat) : Calls Tryz.prog 10 #[ptr L.c, .iface 40 (ptr B), .int .i64 1, .agg (clR ax2), Pp.tx []] w (DoIs L ao2 UnP w) := by
 have e : piO Un1 1 = ao2 := by kernel_rfl
 rw [← e];exact Do_at h _ _ (store_eq B) 1 ax2 [] (by kernel_rfl) (fun _ hW => do_9 hW _ 1 ax2 [] rfl (fun _ hV => pipe_at hV _ 1 ax2 [] (by kernel_rfl) (by kernel_rfl)))
theorem aw_3 (h : UnAt w L UnP) (B : Nat) : Calls Tryz.prog 10 #[ptr L.c, .iface 40 (ptr B), .int .i64 1, .agg (clR ax3), Pp.tx []] w (DoIs L ao3 UnP3 w) := by
 have e : rpO UnP 0 5 = ao3 := by kernel_rfl
 rw [← e];exact Do_at h _ _ (store_eq B) 1 ax3 [] (by kernel_rfl) (fun _ hW => do_7 hW _ 1 ax3 [] rfl (fun _ hV => read_pipe hV _ 1 ax3 [] (by decide) 0 0 1 false (by kernel_rfl) (by kernel_rfl) (by decide) (by decide)))
theorem aw_4 (h : UnAt w L UnP3) (B : Nat) : Calls Tryz.prog 10 #[ptr L.c, .iface 40 (ptr B), .int .i64 1, .agg (clR ax4), Pp.tx []] w (DoIs L ao4 UnP4 w) := by
 have e : wpO UnP3 0 [97, 98] = ao4 := by kernel_rfl
 rw [← e];exact Do_at h _ _ (store_eq B) 1 ax4 [] (by kernel_rfl) (fun _ hW => do_8 hW _ 1 ax4 [] rfl (fun _ hV => write_pipe hV _ 1 ax4 [] (by decide) 0 0 1 false (by kernel_rfl) (by kernel_rfl) (by decide) (by kernel_rfl)))
theorem aw_5 (h : UnAt w L UnP4) (B : Nat) : Calls Tryz.prog 10 #[ptr L.c, .iface 40 (ptr B), .int .i64 1, .agg (clR ax3), Pp.tx []] w (DoIs L ao5 UnP5 w) := by
 have e : rpO UnP4 0 5 = ao5 := by kernel_rfl
 rw [← e];exact Do_at h _ _ (store_eq B) 1 ax3 [] (by kernel_rfl) (fun _ hW => do_7 hW _ 1 ax3 [] rfl (fun _ hV => read_pipe hV _ 1 ax3 [] (by decide) 0 0 1 false (by kernel_rfl) (by kernel_rfl) (by decide) (by decide)))
theorem aw_6 (h : UnAt w L UnP5) (B : Nat) : Calls Tryz.prog 10 #[ptr L.c, .iface 40 (ptr B), .int .i64 1, .agg (clR ax6), Pp.tx [120, 121, 122]] w (DoIs L ao6 UnP5 w) := by
 have e : Ou.con (rcD [120, 121, 122] 2) = ao6 := by kernel_rfl
 rw [← e];exact Do_at h _ _ (store_eq B) 1 ax6 [120, 121, 122] (by kernel_rfl) (fun _ hW => do_7 hW _ 1 ax6 [120, 121, 122] rfl (fun _ hV => read_con hV _ 1 ax6 [120, 121, 122] (by decide) 0 0 1 false (by kernel_rfl) (by kernel_rfl) (by decide) (by decide)))
end
end Go.Proofs.YtinaeifpoljfoaaGreatDoor
