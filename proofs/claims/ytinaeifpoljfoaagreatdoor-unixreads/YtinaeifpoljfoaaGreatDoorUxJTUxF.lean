import Derived.Test.YtinaeifpoljfoaaGreatDoorUxGTUxI
set_option linter.all false
set_option maxRecDepth 100000
set_option maxHeartbeats 16000000
namespace Go.Proofs.YtinaeifpoljfoaaGreatDoor
open Go.RowKit
theorem read_con {w : World} {L : Pl} {U : Un} (h : UnAt w L U) (s : Value) (pid : Int) (x : Cl) (i : List UInt8) (ha : 0 ≤ x.a) (id off rf : Int) (ap : Bool) (hE : Fd.getE U.F pid (smI x.a) = 0) (hX : Fd.getX U.F pid (smI x.a) = ⟨1, id, off, ap, rf⟩) (h1 : 1 ≤ x.c) (h2 : x.c ≤ 128) :
  Calls Tryz.prog 81 #[.agg (tkR L.c s pid x i)] w (Left L (Ou.con (rcD i x.c)) (U) w) := by
 unfold Left;obtain ⟨WK, WZ, hWK, hWZ, hB, hyK, hyZ⟩ := blk2 w (tkR L.c s pid x i) 99 (ouR Ou.zero) 96;have HA0 : Hid (UnAt WZ L U) := h.below hB;have HB0 := hid hB;have hz : (#[.int .i64 0, .int .i64 0, .string ⟨#[]⟩, .int .i64 0, .int .i64 0, .string ⟨#[]⟩, .int .i64 0, .bool false] : Array Value) = ouR Ou.zero := rfl;obtain ⟨kb, hKb⟩ : ∃ k, k = w.heap.size := ⟨_, rfl⟩;rw [← hKb] at hyK;have HK := hid hyK;have HKb := hid hKb;have HWK : Hid _ := hWK;obtain ⟨zb, hZb⟩ : ∃ k, k = w.heap.size + 1 := ⟨_, rfl⟩;rw [← hZb] at hyZ;have HZ := hid hyZ;have HZb := hid hZb;have HWZ : Hid _ := hWZ;have HU := hid h;clear hWK hKb hWZ hZb hB h;obtain ⟨cc, hcc⟩ : ∃ c, c = L.c := ⟨_, rfl⟩;obtain ⟨ff, hff⟩ : ∃ c, c = L.f := ⟨_, rfl⟩;rw [← hcc] at HK hyK HWK ⊢;have Hcc := hid hcc;have Hff := hid hff;obtain ⟨TK, hTK⟩ : ∃ l, l = (tkR cc s pid x i).toList := ⟨_, rfl⟩
 have HTl : Hid (TK.length = 10) := by show _ = _; rw [hTK]; rfl
 have eTK : TK.toArray = tkR cc s pid x i := by rw [hTK]
 have hS : ∀ W, Below WZ.heap.size WZ W → W.rangeAt kb 0 TK ∧ W.cell? ⟨kb, 0, none⟩ = some (ptr cc) ∧ W.cell? ⟨kb, 2, none⟩ = some (.int .i64 pid) ∧ W.cell? ⟨cc, 0, none⟩ = some (ptr ff) := fun W hW => by
  have c0 := HA0.out.cell0;rw [← Hcc.out, ← Hff.out] at c0
  have e1 : ∀ j v, TK[j]? = some v → WZ.cell? ⟨kb, 0 + j, none⟩ = some v := fun j v hv => by rw [Nat.zero_add, cell_of_heap HK.out]; rw [hTK] at hv; simpa using hv
  have e2 : WZ.cell? ⟨kb, 0, none⟩ = some (ptr cc) := by rw [cell_of_heap HK.out]; rfl
  have e3 : WZ.cell? ⟨kb, 2, none⟩ = some (.int .i64 pid) := by rw [cell_of_heap HK.out]; rfl
  exact ⟨fun j v hv => (hW.cell (cell_lt (e1 j v hv))).trans (e1 j v hv), (hW.cell (cell_lt e2)).trans e2, (hW.cell (cell_lt e3)).trans e3, (hW.cell (cell_lt c0)).trans c0⟩
 have hD := fun V => descriptor_at cc s pid x i ha V
 obtain ⟨fd, hfd⟩ : ∃ d, d = smI x.a := ⟨_, rfl⟩;rw [← hfd] at hE hX hD
 have hG : ∀ W, Below WZ.heap.size WZ W → Calls Tryz.prog 148 #[ptr ff, .int .i64 pid, .int .i64 fd] W fun e w' => e = .returned (.tuple #[.agg (Fd.Fl.row ⟨1, id, off, ap, rf⟩), .int .i64 0]) ∧ Below W.heap.size W w' := fun W hW => by
  have := Fd.get_at L.f U.F pid fd W (HA0.out.below hW).fds HA0.out.ok.inv;rw [hE, hX, ← Hff.out] at this;exact this
 obtain ⟨o, ho⟩ : ∃ o, o = Ou.con (rcD i x.c) := ⟨_, rfl⟩;rw [← ho];have HO := hid ho;obtain ⟨U', hU'⟩ : ∃ V, V = U := ⟨_, rfl⟩;rw [← hU'];have HU' := hid hU';obtain ⟨R, hR⟩ : ∃ R, R = ouR o := ⟨_, rfl⟩
 have HRs : Hid (R.size = 8) := by rw [hR]; exact ouR_size _
 have HOne : Hid (R.all (·.oneCell') = true) := by rw [hR]; exact ouR_one _
 rw [← hR];have HRq := hid hR;clear ho hU' hR;clear hyK hyZ hcc hff hE hX hTK hfd
 go_enter Tryz.func81, Tryz.ntmps81
 go_upto_region 1 with fail
 rw [← HWK.out, ← HWZ.out];rw [← HZb.out];rw [← HKb.out]
 go_cut [3, 4] (fun p e wc => ∃ fb, p = ptr fb ∧ e = .int .i64 0 ∧ WZ.heap.size ≤ fb ∧ wc.heap[fb]? = some (.cells (Fd.Fl.row ⟨1, id, off, ap, rf⟩) 102) ∧ Below WZ.heap.size WZ wc)
 case first => as_aux_lemma =>
  refine wp_region_held_drew (S := fun w' => w'.rangeAt kb 0 TK ∧ w'.cell? ⟨kb, 0, none⟩ = some (ptr cc) ∧ w'.cell? ⟨kb, 2, none⟩ = some (.int .i64 pid) ∧ w'.cell? ⟨cc, 0, none⟩ = some (ptr ff)) (by kernel_rfl) (hS _ (Di.drewN_below (w := WZ) ⟨1, rfl⟩)) (fun hHeld => ?_);refine tkz [0, 1, 2, 3, 4, 5, 6] ?_
  iterate 7
   refine tkq (v := ?_) rfl (Or.inl ⟨by kernel_rfl, ?_⟩) ?_
   rotate_left
   ·(intro w hSw; (try dsimp only at hSw); go_simp) <;> with_reducible rfl
   (try simp only [Act.put, lq])
  refine tkw ?_;refine tkv 7 (.agg (TK).toArray) rfl (yieldsIf_load_mid (by kernel_rfl) 99 _ rfl kb 0 rfl (TK) _ (fun w hw => hw.1) Tryz.underlying99 rfl (by rw [HTl.out]; exact tkSize)) ?_
  (try simp only [Act.put, lq])
  obtain ⟨v0, hv0⟩ : ∃ V, V = WZ.drew := ⟨_, rfl⟩
  have H0 : Hid (Below WZ.heap.size WZ v0) := by rw [hv0]; exact Di.drewN_below (w := WZ) ⟨1, rfl⟩
  rw [← hv0];clear hv0;refine wpAnyH_ready (rs := [8, 13]) (by kernel_rfl) (by simp) ?_;refine AllReadyH.cons rfl (fun K hK => ?_) (AllReadyH.cons rfl (fun K hK => ?_) (AllReadyH.nil))
  ·go_simp
   refine (hD v0).mono ?_;rintro e v1 ⟨rfl, hb⟩;have H1 : Hid (Below WZ.heap.size WZ v1) := H0.out.trans (hb.mono H0.out.size);clear hb;refine hK.out _ _ (hS _ H1.out) (fun hHeld => ?_);clear hK K
   (try simp only [Act.put, lq])
   refine wpAnyH_ready (rs := [9, 13]) (by kernel_rfl) (by simp) ?_;refine AllReadyH.cons rfl (fun K hK => ?_) (AllReadyH.cons rfl (fun K hK => ?_) (AllReadyH.nil))
   ·go_simp
    refine (hG v1 H1.out).mono ?_;rintro e v2 ⟨rfl, hb⟩;have H2 : Hid (Below WZ.heap.size WZ v2) := H1.out.trans (hb.mono H1.out.size);clear hb;refine hK.out _ _ (hS _ H2.out) (fun hHeld => ?_);clear hK K
    (try simp only [Act.put, lq])
    refine tkz [10, 11, 12] ?_
    iterate 3
     refine tkq (v := ?_) rfl (Or.inl ⟨by kernel_rfl, ?_⟩) ?_
     rotate_left
     ·(intro w hSw; (try dsimp only at hSw); go_simp) <;> with_reducible rfl
     (try simp only [Act.put, lq])
    refine tkw ?_
    refine rdy 13 rfl fun K hK => ?_
    refine step_alloc rfl 102 rfl Fd.Fl.no.row file_alloc ?_;obtain ⟨v3, hv⟩ : ∃ V, V = v2.alloc (.cells Fd.Fl.no.row 102) := ⟨_, rfl⟩;obtain ⟨fb, hfb⟩ : ∃ k, k = v2.heap.size := ⟨_, rfl⟩
    have H3 : Hid (Below WZ.heap.size WZ v3) := by rw [hv]; exact H2.out.trans ((below_alloc v2 _).mono H2.out.size)
    have P3 : Hid (v3.heap[fb]? = some (.cells Fd.Fl.no.row 102)) := by rw [hv, hfb]; exact heap_alloc_new _ _
    have HL : Hid (WZ.heap.size ≤ fb) := by rw [hfb]; exact H2.out.size
    rw [← hv, ← hfb];clear hv hfb;refine hK.out _ _ (hS _ H3.out) (fun hHeld => ?_);clear hK K
    (try simp only [Act.put, lq])
    refine rdy 14 rfl fun K hK => ?_
    refine step_store_row rfl 102 (.tmp 3) (.tmp 20) rfl fb (Fd.Fl.row ⟨1, id, off, ap, rf⟩) rfl rfl 102 Fd.Fl.no.row P3.out flSize rfl (by simp [Value.oneCell']) ?_;have HQ : Hid ((v3.setRow fb (Fd.Fl.row ⟨1, id, off, ap, rf⟩)).heap[fb]? = some (.cells (Fd.Fl.row ⟨1, id, off, ap, rf⟩) 102)) := setRow_heap _ fb _ _ _ _ P3.out;have HE : Hid (Below WZ.heap.size WZ (v3.setRow fb (Fd.Fl.row ⟨1, id, off, ap, rf⟩))) := H3.out.trans ((Upd.setRow fb v3 (Fd.Fl.row ⟨1, id, off, ap, rf⟩)).below HL.out H3.out.size);refine hK.out _ _ (hS _ HE.out) (fun hHeld => ?_);clear hK K
    (try simp only [Act.put, lq])
    refine tkz [15] ?_
    iterate 1
     refine tkq (v := ?_) rfl (Or.inl ⟨by kernel_rfl, ?_⟩) ?_
     rotate_left
     ·(intro w hSw; (try dsimp only at hSw); go_simp) <;> with_reducible rfl
     (try simp only [Act.put, lq])
    refine tkw ?_;refine wpAnyH_done (by kernel_rfl) ?_ _;clear hS hD hG
    go_wp2_with fail
    go_meet
    case rel => exact ⟨fb, rfl, rfl, HL.out, HQ.out, HE.out⟩
   ·refine step_alloc rfl 102 rfl Fd.Fl.no.row file_alloc ?_
    obtain ⟨v2, hv⟩ : ∃ V, V = v1.alloc (.cells Fd.Fl.no.row 102) := ⟨_, rfl⟩;obtain ⟨fb, hfb⟩ : ∃ k, k = v1.heap.size := ⟨_, rfl⟩
    have H2 : Hid (Below WZ.heap.size WZ v2) := by rw [hv]; exact H1.out.trans ((below_alloc v1 _).mono H1.out.size)
    have P2 : Hid (v2.heap[fb]? = some (.cells Fd.Fl.no.row 102)) := by rw [hv, hfb]; exact heap_alloc_new _ _
    have HL : Hid (WZ.heap.size ≤ fb) := by rw [hfb]; exact H1.out.size
    rw [← hv, ← hfb];clear hv hfb;refine hK.out _ _ (hS _ H2.out) (fun hHeld => ?_);clear hK K
    (try simp only [Act.put, lq])
    refine rdy 9 rfl fun K hK => ?_
    go_simp;refine (hG v2 H2.out).mono ?_;rintro e v3 ⟨rfl, hb⟩;have H3 : Hid (Below WZ.heap.size WZ v3) := H2.out.trans (hb.mono H2.out.size);have P3 : Hid (v3.heap[fb]? = some (.cells Fd.Fl.no.row 102)) := (hb.block _ (lt_of_heap P2.out)).trans P2.out;clear hb;refine hK.out _ _ (hS _ H3.out) (fun hHeld => ?_);clear hK K
    (try simp only [Act.put, lq])
    refine tkz [10, 11, 12] ?_
    iterate 3
     refine tkq (v := ?_) rfl (Or.inl ⟨by kernel_rfl, ?_⟩) ?_
     rotate_left
     ·(intro w hSw; (try dsimp only at hSw); go_simp) <;> with_reducible rfl
     (try simp only [Act.put, lq])
    refine tkw ?_
    refine rdy 14 rfl fun K hK => ?_
    refine step_store_row rfl 102 (.tmp 3) (.tmp 20) rfl fb (Fd.Fl.row ⟨1, id, off, ap, rf⟩) rfl rfl 102 Fd.Fl.no.row P3.out flSize rfl (by simp [Value.oneCell']) ?_;have HQ : Hid ((v3.setRow fb (Fd.Fl.row ⟨1, id, off, ap, rf⟩)).heap[fb]? = some (.cells (Fd.Fl.row ⟨1, id, off, ap, rf⟩) 102)) := setRow_heap _ fb _ _ _ _ P3.out;have HE : Hid (Below WZ.heap.size WZ (v3.setRow fb (Fd.Fl.row ⟨1, id, off, ap, rf⟩))) := H3.out.trans ((Upd.setRow fb v3 (Fd.Fl.row ⟨1, id, off, ap, rf⟩)).below HL.out H3.out.size);refine hK.out _ _ (hS _ HE.out) (fun hHeld => ?_);clear hK K
    (try simp only [Act.put, lq])
    refine tkz [15] ?_
    iterate 1
     refine tkq (v := ?_) rfl (Or.inl ⟨by kernel_rfl, ?_⟩) ?_
     rotate_left
     ·(intro w hSw; (try dsimp only at hSw); go_simp) <;> with_reducible rfl
     (try simp only [Act.put, lq])
    refine tkw ?_;refine wpAnyH_done (by kernel_rfl) ?_ _;clear hS hD hG
    go_wp2_with fail
    go_meet
    case rel => exact ⟨fb, rfl, rfl, HL.out, HQ.out, HE.out⟩
  ·refine step_alloc rfl 102 rfl Fd.Fl.no.row file_alloc ?_
   obtain ⟨v1, hv⟩ : ∃ V, V = v0.alloc (.cells Fd.Fl.no.row 102) := ⟨_, rfl⟩;obtain ⟨fb, hfb⟩ : ∃ k, k = v0.heap.size := ⟨_, rfl⟩
   have H1 : Hid (Below WZ.heap.size WZ v1) := by rw [hv]; exact H0.out.trans ((below_alloc v0 _).mono H0.out.size)
   have P1 : Hid (v1.heap[fb]? = some (.cells Fd.Fl.no.row 102)) := by rw [hv, hfb]; exact heap_alloc_new _ _
   have HL : Hid (WZ.heap.size ≤ fb) := by rw [hfb]; exact H0.out.size
   rw [← hv, ← hfb];clear hv hfb;refine hK.out _ _ (hS _ H1.out) (fun hHeld => ?_);clear hK K
   (try simp only [Act.put, lq])
   refine rdy 8 rfl fun K hK => ?_
   go_simp;refine (hD v1).mono ?_;rintro e v2 ⟨rfl, hb⟩;have H2 : Hid (Below WZ.heap.size WZ v2) := H1.out.trans (hb.mono H1.out.size);have P2 : Hid (v2.heap[fb]? = some (.cells Fd.Fl.no.row 102)) := (hb.block _ (lt_of_heap P1.out)).trans P1.out;clear hb;refine hK.out _ _ (hS _ H2.out) (fun hHeld => ?_);clear hK K
   (try simp only [Act.put, lq])
   refine rdy 9 rfl fun K hK => ?_
   go_simp;refine (hG v2 H2.out).mono ?_;rintro e v3 ⟨rfl, hb⟩;have H3 : Hid (Below WZ.heap.size WZ v3) := H2.out.trans (hb.mono H2.out.size);have P3 : Hid (v3.heap[fb]? = some (.cells Fd.Fl.no.row 102)) := (hb.block _ (lt_of_heap P2.out)).trans P2.out;clear hb;refine hK.out _ _ (hS _ H3.out) (fun hHeld => ?_);clear hK K
   (try simp only [Act.put, lq])
   refine tkz [10, 11, 12] ?_
   iterate 3
    refine tkq (v := ?_) rfl (Or.inl ⟨by kernel_rfl, ?_⟩) ?_
    rotate_left
    ·(intro w hSw; (try dsimp only at hSw); go_simp) <;> with_reducible rfl
    (try simp only [Act.put, lq])
   refine tkw ?_
   refine rdy 14 rfl fun K hK => ?_
   refine step_store_row rfl 102 (.tmp 3) (.tmp 20) rfl fb (Fd.Fl.row ⟨1, id, off, ap, rf⟩) rfl rfl 102 Fd.Fl.no.row P3.out flSize rfl (by simp [Value.oneCell']) ?_;have HQ : Hid ((v3.setRow fb (Fd.Fl.row ⟨1, id, off, ap, rf⟩)).heap[fb]? = some (.cells (Fd.Fl.row ⟨1, id, off, ap, rf⟩) 102)) := setRow_heap _ fb _ _ _ _ P3.out;have HE : Hid (Below WZ.heap.size WZ (v3.setRow fb (Fd.Fl.row ⟨1, id, off, ap, rf⟩))) := H3.out.trans ((Upd.setRow fb v3 (Fd.Fl.row ⟨1, id, off, ap, rf⟩)).below HL.out H3.out.size);refine hK.out _ _ (hS _ HE.out) (fun hHeld => ?_);clear hK K
   (try simp only [Act.put, lq])
   refine tkz [15] ?_
   iterate 1
    refine tkq (v := ?_) rfl (Or.inl ⟨by kernel_rfl, ?_⟩) ?_
    rotate_left
    ·(intro w hSw; (try dsimp only at hSw); go_simp) <;> with_reducible rfl
    (try simp only [Act.put, lq])
   refine tkw ?_;refine wpAnyH_done (by kernel_rfl) ?_ _;clear hS hD hG
   go_wp2_with fail
   go_meet
   case rel => exact ⟨fb, rfl, rfl, HL.out, HQ.out, HE.out⟩
 case rest =>
  obtain ⟨fb, rfl, rfl, hfb, hfr, hbc⟩ := hcut;have HFr := hid hfr;have HBc := hid hbc;have HAc : Hid (UnAt wc L U) := HA0.out.below hbc;have HKc : Hid (wc.heap[kb]? = some (.cells (tkR cc s pid x i) 99)) := (hbc.block _ (lt_of_heap HK.out)).trans HK.out;have HZc : Hid (wc.heap[zb]? = some (.cells (ouR Ou.zero) 96)) := (hbc.block _ (lt_of_heap HZ.out)).trans HZ.out;clear hS hD hG hfr hbc hfb;obtain ⟨n, hn⟩ : ∃ n, n = x.c := ⟨_, rfl⟩;have Hn := hid hn
  have Hn1 : Hid (1 ≤ n) := by show _ ≤ _; rw [hn]; exact h1
  have hk6 : wc.cell? ⟨kb, 6, none⟩ = some (.int .u64 n) := by rw [cell_of_heap HKc.out, hn]; rfl
  have hwr : IntKind.i64.wrap n = n := by simp [IntKind.wrap, IntKind.bits, IntKind.signed]; omega
  have hg : decide (128 < n) = false := decide_eq_false (by omega);clear hn h1 h2 eTK;have hWI := whatIs_con id off rf ap;have t1 := ta_con_con
  go_upto_region 7 with fail
  clear hg hk6 hwr
  go_wp2_with (first
    | (refine wpList_load_row rfl 102 _ rfl fb rfl 102 (Fd.Fl.row ⟨1, id, off, ap, rf⟩) (0, 0) _ HFr.out Tryz.underlying102 rfl flSize ?_)
    | fail)
  refine (hWI _).mono ?_;rintro e w1 ⟨rfl, hb1⟩;have HB1 := hid hb1;clear hWI hb1
  go_upto_region 9 with fail
  obtain ⟨w2, hw2⟩ : ∃ V, V = w1.alloc (.cells #[] 262) := ⟨_, rfl⟩
  have hb2 : Below w1.heap.size w1 w2 := by rw [hw2]; exact below_alloc _ _
  have HB2 : Hid (Below wc.heap.size wc w2) := HB1.out.trans (hb2.mono HB1.out.size);have HK2 : Hid (w2.heap[kb]? = some (.cells (tkR cc s pid x i) 99)) := (HB2.out.block _ (lt_of_heap HKc.out)).trans HKc.out;have HZ2 : Hid (w2.heap[zb]? = some (.cells (ouR Ou.zero) 96)) := (HB2.out.block _ (lt_of_heap HZc.out)).trans HZc.out;have HUT2 : Hid (UT L.lo w w2) := UT.of_below ((HB0.out.trans (HBc.out.mono HB0.out.size)).trans (HB2.out.mono (HB0.out.trans (HBc.out.mono HB0.out.size)).size));have hRP := readCon_at (HAc.out.below HB2.out) s pid x i n (by have := Hn1.out; omega);rw [← Hcc.out] at hRP;unfold Left at hRP
  have e1 : ouR (Ou.con (rcD i n)) = R := by rw [HRq.out, HO.out, Hn.out]
  have e2 : U = U' := by rw [HU'.out]
  rw [e1, e2] at hRP;have HW2 := hid hw2;clear hw2 hb2 e1 e2
  go_upto_region 10 with fail
  rw [← HW2.out]
  go_wp2_with (first
    | (refine wpList_load_row rfl 99 _ rfl kb rfl 99 (tkR cc s pid x i) (0, 0) _ HK2.out Tryz.underlying99 rfl tkSize ?_)
    | fail)
  refine hRP.mono ?_;rintro e w3 ⟨rfl, ha3, hu3⟩;have HA1 := hid ha3;have HU1 : Hid (UT L.lo w w3) := HUT2.out.trans hu3;have HZ3 : Hid (w3.heap[zb]? = some (.cells (ouR Ou.zero) 96)) := hu3.other HZ2.out rfl;clear hRP ha3 hu3;have HM : Hid (w3.heap[zb]? = some (.cells (ouR Ou.zero) 96)) := HZ3.out;have HQ : Hid ((w3.setRow zb R).heap[zb]? = some (.cells R 96)) := setRow_heap _ zb _ _ _ _ HM.out;have HF : Hid (UnAt (w3.setRow zb R) L U' ∧ UT L.lo w (w3.setRow zb R)) := ⟨HA1.out.row HM.out rfl (by decide) (by decide), HU1.out.far (by rw [HZb.out]; omega)⟩
  go_wp2_with (first
    | (refine wpList_store_row rfl 96 _ _ rfl zb R rfl rfl 96 (ouR Ou.zero) HM.out (by rw [HRs.out]; exact ouSize) (by rw [HRs.out]; rfl) HOne.out ?_)
    | go_in)
  exact bodyPost_ret (v := .agg R) (results_cell_row rfl _ _ zb 96 R (0, 0) _ rfl HQ.out Tryz.underlying96 rfl (by rw [HRs.out]; exact ouSize)) rfl ⟨rfl, HF.out⟩
def wpO (U : Un) (id : Int) (t : List UInt8) : Ou := if Pp.puI U.P id t = 0 then Ou.wait else Ou.num (Pp.puI U.P id t)
def wpU (U : Un) (id : Int) (t : List UInt8) : Un := ⟨U.F, Pp.puS U.P id t, U.S, U.T⟩
theorem writePipe_at {w : World} {L : Pl} {U : Un} (h : UnAt w L U) (s : Value) (pid : Int) (x : Cl) (i : List UInt8) (id : Int) (ht : x.t ≠ []) (ho : opB U.F 3 id = true) :
  Calls Tryz.prog 154 #[.agg (tkR L.c s pid x i), .agg #[.int .i64 id]] w (Left L (wpO U id x.t) (wpU U id x.t) w) := by
 unfold Left;obtain ⟨xn, xa, xb', xc, t, xu⟩ := x;dsimp only at *;obtain ⟨x, hxx⟩ : ∃ x : Cl, x = ⟨xn, xa, xb', xc, t, xu⟩ := ⟨_, rfl⟩
 have e7 : tkR L.c s pid ⟨xn, xa, xb', xc, t, xu⟩ i = tkR L.c s pid x i := by rw [hxx]
 have ex7 : x.t = t := by rw [hxx]
 rw [e7];clear hxx e7;obtain ⟨WK, WX, WZ, hWK, hWX, hWZ, hB, hyK, hyX, hyZ⟩ := blk3 w (tkR L.c s pid x i) 99 #[.int .i64 id] 270 (ouR Ou.zero) 96;have HA0 : Hid (UnAt WZ L U) := h.below hB;have HB0 := hid hB;have hz : (#[.int .i64 0, .int .i64 0, .string ⟨#[]⟩, .int .i64 0, .int .i64 0, .string ⟨#[]⟩, .int .i64 0, .bool false] : Array Value) = ouR Ou.zero := rfl;obtain ⟨kb, hKb⟩ : ∃ k, k = w.heap.size := ⟨_, rfl⟩;rw [← hKb] at hyK;have HK := hid hyK;have HKb := hid hKb;have HWK : Hid _ := hWK;obtain ⟨xb, hXb⟩ : ∃ k, k = w.heap.size + 1 := ⟨_, rfl⟩;rw [← hXb] at hyX;have HX := hid hyX;have HXb := hid hXb;have HWX : Hid _ := hWX;obtain ⟨zb, hZb⟩ : ∃ k, k = w.heap.size + 1 + 1 := ⟨_, rfl⟩;rw [← hZb] at hyZ;have HZ := hid hyZ;have HZb := hid hZb;have HWZ : Hid _ := hWZ;have HU := hid h;clear hWK hKb hWX hXb hWZ hZb hB h
 have hte : t.isEmpty = false := by cases t with
  | nil => exact absurd rfl ht
  | cons a b => rfl
 have hI := isOpen_at HA0.out 3 id;rw [ho] at hI;clear ho;obtain ⟨cc, hcc⟩ : ∃ c, c = L.c := ⟨_, rfl⟩;obtain ⟨pp, hpp⟩ : ∃ c, c = L.p := ⟨_, rfl⟩;rw [← hcc] at HK hyK HWK hI ⊢;have Hcc := hid hcc;have Hpp := hid hpp
 have hk0 : WZ.cell? ⟨kb, 0, none⟩ = some (ptr cc) := by rw [cell_of_heap HK.out]; rfl
 have hk7 : WZ.cell? ⟨kb, 7, none⟩ = some (Pp.tx t) := by rw [cell_of_heap HK.out, ← ex7]; rfl
 have hx0 : WZ.cell? ⟨xb, 0, none⟩ = some (.int .i64 id) := by rw [cell_of_heap HX.out]; rfl
 obtain ⟨o, ho⟩ : ∃ o, o = wpO U id t := ⟨_, rfl⟩;rw [← ho];have HO := hid ho;obtain ⟨U', hU'⟩ : ∃ V, V = wpU U id t := ⟨_, rfl⟩;rw [← hU'];have HU' := hid hU';obtain ⟨R, hR⟩ : ∃ R, R = ouR o := ⟨_, rfl⟩
 have HRs : Hid (R.size = 8) := by rw [hR]; exact ouR_size _
 have HOne : Hid (R.all (·.oneCell') = true) := by rw [hR]; exact ouR_one _
 rw [← hR];have HRq := hid hR;clear ho hU' hR;clear hyK hyX hyZ hcc hpp
 go_enter Tryz.func154, Tryz.ntmps154
 go_wp2_with fail
 rw [← HWK.out, ← HWX.out, ← HWZ.out];rw [← HZb.out];rw [← HXb.out];rw [← HKb.out];refine hI.mono ?_;rintro e w2 ⟨rfl, hb2⟩;have HB2 := hid hb2;have HA2 : Hid (UnAt w2 L U) := HA0.out.below hb2
 have hs2 : w2.cell? ⟨kb, 0, none⟩ = some (ptr cc) ∧ w2.cell? ⟨cc, 1, none⟩ = some (ptr pp) ∧ w2.cell? ⟨xb, 0, none⟩ = some (.int .i64 id) ∧ w2.cell? ⟨kb, 7, none⟩ = some (Pp.tx t) := by
  have c1 := HA2.out.cell1;rw [← Hcc.out, ← Hpp.out] at c1;exact ⟨(hb2.cell (cell_lt hk0)).trans hk0, c1, (hb2.cell (cell_lt hx0)).trans hx0, (hb2.cell (cell_lt hk7)).trans hk7⟩
 have hT := fun q => Pp.put_at L.p U.P id t (w2.drewN q) (HA2.out.below (Di.drewN_below (w := w2) ⟨q, rfl⟩)).pipes
 rw [← Hpp.out] at hT;clear hI hb2 hk0 hk7 hx0
 go_wp2_with fail
 refine wp_region_held_drew (S := fun w' => w'.cell? ⟨kb, 0, none⟩ = some (ptr cc) ∧ w'.cell? ⟨cc, 1, none⟩ = some (ptr pp) ∧ w'.cell? ⟨xb, 0, none⟩ = some (.int .i64 id) ∧ w'.cell? ⟨kb, 7, none⟩ = some (Pp.tx t)) (by kernel_rfl) hs2 (fun hHeld => ?_);refine tkz [0, 1, 2, 3, 4, 5, 6, 7, 8, 9] ?_
 iterate 10
  refine tkq (v := ?_) rfl (Or.inl ⟨by kernel_rfl, ?_⟩) ?_
  rotate_left
  ·(intro w hSw; (try dsimp only at hSw); go_simp) <;> with_reducible rfl
  (try simp only [Act.put, lq])
 refine tkw ?_
 refine rdy 10 rfl fun K hK => ?_
 go_simp;refine (hT 1).mono ?_;rintro e w3 ⟨rfl, hp3, hu3⟩;obtain ⟨h3a, h3u⟩ := (HA2.out.below (Di.drewN_below (w := w2) ⟨1, rfl⟩)).putP (by rw [← Hpp.out]; exact hu3) (by rw [← Hpp.out]; exact hp3)
 have HA3 : Hid (UnAt w3 L U') := by rw [HU'.out]; exact h3a
 have HU3 : Hid (UT L.lo w w3) := ((UT.of_below (HB0.out.trans (HB2.out.mono HB0.out.size))).trans (UT.of_below (Di.drewN_below (w := w2) ⟨1, rfl⟩))).trans h3u;have hk3 := h3u.other (lo := L.lo) (w := w2.drewN 1) ((HB2.out.block _ (lt_of_heap HK.out)).trans HK.out) rfl;have hx3 := h3u.other (lo := L.lo) (w := w2.drewN 1) ((HB2.out.block _ (lt_of_heap HX.out)).trans HX.out) rfl;have HZ3 : Hid (w3.heap[zb]? = some (.cells (ouR Ou.zero) 96)) := h3u.other (lo := L.lo) (w := w2.drewN 1) ((HB2.out.block _ (lt_of_heap HZ.out)).trans HZ.out) rfl
 have hs3 : w3.cell? ⟨kb, 0, none⟩ = some (ptr cc) ∧ w3.cell? ⟨cc, 1, none⟩ = some (ptr pp) ∧ w3.cell? ⟨xb, 0, none⟩ = some (.int .i64 id) ∧ w3.cell? ⟨kb, 7, none⟩ = some (Pp.tx t) := by
  have c1 := HA3.out.cell1;rw [← Hcc.out, ← Hpp.out] at c1;exact ⟨by rw [cell_of_heap hk3]; rfl, c1, by rw [cell_of_heap hx3]; rfl, by rw [cell_of_heap hk3, ← ex7]; rfl⟩
 clear hp3 hu3 h3a h3u hk3 hx3 hs2 hT;refine hK.out _ _ hs3 (fun hHeld => ?_);clear hK K
 (try simp only [Act.put, lq])
 refine tkz [11] ?_
 iterate 1
  refine tkq (v := ?_) rfl (Or.inl ⟨by kernel_rfl, ?_⟩) ?_
  rotate_left
  ·(intro w hSw; (try dsimp only at hSw); go_simp) <;> with_reducible rfl
  (try simp only [Act.put, lq])
 refine tkw ?_;refine wpAnyH_done (by kernel_rfl) ?_ _;clear hHeld hs3
 by_cases hq : Pp.puI U.P id t = 0
 ·have hoo : o = Ou.wait := by rw [HO.out]; exact if_pos hq
  have hN := mustWait_at
  have e1 : ouR Ou.wait = R := by rw [HRq.out, hoo]
  rw [e1] at hN;clear e1 hoo HO;have hn0 := hq;generalize Pp.puI U.P id t = nn at *
  go_wp2_with fail
  refine (hN _).mono ?_;rintro e w5 ⟨rfl, hb5⟩;have HB5 := hid hb5;have HA1 : Hid (UnAt w5 L U') := HA3.out.below HB5.out;have HU1 : Hid (UT L.lo w w5) := HU3.out.trans (UT.of_below HB5.out);clear hN hb5;have HM : Hid (w5.heap[zb]? = some (.cells (ouR Ou.zero) 96)) := (HB5.out.block _ (lt_of_heap HZ3.out)).trans HZ3.out;have HQ : Hid ((w5.setRow zb R).heap[zb]? = some (.cells R 96)) := setRow_heap _ zb _ _ _ _ HM.out;have HF : Hid (UnAt (w5.setRow zb R) L U' ∧ UT L.lo w (w5.setRow zb R)) := ⟨HA1.out.row HM.out rfl (by decide) (by decide), HU1.out.far (by rw [HZb.out]; omega)⟩
  go_wp2_with (first
    | (refine wpList_store_row rfl 96 _ _ rfl zb R rfl rfl 96 (ouR Ou.zero) HM.out (by rw [HRs.out]; exact ouSize) (by rw [HRs.out]; rfl) HOne.out ?_)
    | go_in)
  exact bodyPost_ret (v := .agg R) (results_cell_row rfl _ _ zb 96 R (0, 0) _ rfl HQ.out Tryz.underlying96 rfl (by rw [HRs.out]; exact ouSize)) rfl ⟨rfl, HF.out⟩
 ·have hoo : o = (Ou.num (Pp.puI U.P id t)) := by rw [HO.out]; exact if_neg hq
  have hN := number_at (Pp.puI U.P id t)
  have e1 : ouR (Ou.num (Pp.puI U.P id t)) = R := by rw [HRq.out, hoo]
  rw [e1] at hN;clear e1 hoo HO
  have hn0 : (Pp.puI U.P id t == 0) = false := by simpa using hq
  generalize Pp.puI U.P id t = nn at *
  go_wp2_with fail
  refine (hN _).mono ?_;rintro e w5 ⟨rfl, hb5⟩;have HB5 := hid hb5;have HA1 : Hid (UnAt w5 L U') := HA3.out.below HB5.out;have HU1 : Hid (UT L.lo w w5) := HU3.out.trans (UT.of_below HB5.out);clear hN hb5;have HM : Hid (w5.heap[zb]? = some (.cells (ouR Ou.zero) 96)) := (HB5.out.block _ (lt_of_heap HZ3.out)).trans HZ3.out;have HQ : Hid ((w5.setRow zb R).heap[zb]? = some (.cells R 96)) := setRow_heap _ zb _ _ _ _ HM.out;have HF : Hid (UnAt (w5.setRow zb R) L U' ∧ UT L.lo w (w5.setRow zb R)) := ⟨HA1.out.row HM.out rfl (by decide) (by decide), HU1.out.far (by rw [HZb.out]; omega)⟩
  go_wp2_with (first
    | (refine wpList_store_row rfl 96 _ _ rfl zb R rfl rfl 96 (ouR Ou.zero) HM.out (by rw [HRs.out]; exact ouSize) (by rw [HRs.out]; rfl) HOne.out ?_)
    | go_in)
  exact bodyPost_ret (v := .agg R) (results_cell_row rfl _ _ zb 96 R (0, 0) _ rfl HQ.out Tryz.underlying96 rfl (by rw [HRs.out]; exact ouSize)) rfl ⟨rfl, HF.out⟩
end Go.Proofs.YtinaeifpoljfoaaGreatDoor
