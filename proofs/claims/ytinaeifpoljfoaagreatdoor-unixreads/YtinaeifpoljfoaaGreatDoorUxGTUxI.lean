import Derived.Test.YtinaeifpoljfoaaGreatDoorUrI22TUxE
set_option linter.all false
set_option maxRecDepth 100000
set_option maxHeartbeats 16000000
namespace Go.Proofs.YtinaeifpoljfoaaGreatDoor
open Go.RowKit
def piO (U : Un) (pid : Int) : Ou := ⟨0, 0, [], Fd.openA U.F pid, Fd.openA (Fd.openT U.F pid ⟨3, Pp.mkI U.P, 0, false, 0⟩) pid, [], 0, false⟩
def piU (U : Un) (pid : Int) : Un := ⟨Fd.openT (Fd.openT U.F pid ⟨3, Pp.mkI U.P, 0, false, 0⟩) pid ⟨4, Pp.mkI U.P, 0, false, 0⟩, Pp.mkS U.P, U.S, U.T⟩
theorem mkI_fit (P : Pp.PS) : 0 ≤ Pp.mkI P ∧ Pp.mkI P ≤ 15 := by
 unfold Pp.mkI
 split <;> omega
theorem pipe_at {w : World} {L : Pl} {U : Un} (h : UnAt w L U) (s : Value) (pid : Int) (x : Cl) (i : List UInt8) (hco : coB U.F pid 2 = true) (hmk : Pp.mkE U.P = 0) :
  Calls Tryz.prog 83 #[.agg (tkR L.c s pid x i)] w (Left L (piO U pid) (piU U pid) w) := by
 unfold Left
 have HFt : Hid (∀ k : Int, 1 ≤ k → k ≤ 4 → Fd.Fit ⟨k, Pp.mkI U.P, 0, false, 0⟩) := fun k h1 h2 => by
  have := mkI_fit U.P;exact ⟨h1, h2, by show 0 ≤ Pp.mkI U.P; omega, by show Pp.mkI U.P ≤ 1048576; omega, by show (0 : Int) ≤ 0; omega, by show (0 : Int) ≤ 1048576; omega⟩
 obtain ⟨WK, WZ, hWK, hWZ, hB, hyK, hyZ⟩ := blk2 w (tkR L.c s pid x i) 99 (ouR Ou.zero) 96;have HA0 : Hid (UnAt WZ L U) := h.below hB;have HB0 := hid hB;have hz : (#[.int .i64 0, .int .i64 0, .string ⟨#[]⟩, .int .i64 0, .int .i64 0, .string ⟨#[]⟩, .int .i64 0, .bool false] : Array Value) = ouR Ou.zero := rfl;obtain ⟨kb, hKb⟩ : ∃ k, k = w.heap.size := ⟨_, rfl⟩;rw [← hKb] at hyK;have HK := hid hyK;have HKb := hid hKb;have HWK : Hid _ := hWK;obtain ⟨zb, hZb⟩ : ∃ k, k = w.heap.size + 1 := ⟨_, rfl⟩;rw [← hZb] at hyZ;have HZ := hid hyZ;have HZb := hid hZb;have HWZ : Hid _ := hWZ;have HU := hid h;clear hWK hKb hWZ hZb hB h;have hC := canOpen_at HA0.out pid 2 (by omega) (by omega);rw [hco] at hC;obtain ⟨cc, hcc⟩ : ∃ c, c = L.c := ⟨_, rfl⟩;obtain ⟨pp, hpp⟩ : ∃ c, c = L.p := ⟨_, rfl⟩;obtain ⟨ff, hff⟩ : ∃ c, c = L.f := ⟨_, rfl⟩;rw [← hcc] at HK hyK HWK hC ⊢;have Hcc := hid hcc;have Hpp := hid hpp;have Hff := hid hff
 have hk0 : WZ.cell? ⟨kb, 0, none⟩ = some (ptr cc) := by rw [cell_of_heap HK.out]; rfl
 have hk2 : WZ.cell? ⟨kb, 2, none⟩ = some (.int .i64 pid) := by rw [cell_of_heap HK.out]; rfl
 obtain ⟨U', hU'⟩ : ∃ V, V = piU U pid := ⟨_, rfl⟩;rw [← hU'];have HU' := hid hU';clear hU';clear hyK hyZ hcc hpp hff hco
 go_enter Tryz.func83, Tryz.ntmps83
 go_wp2_with fail
 rw [← HWK.out, ← HWZ.out];rw [← HZb.out];rw [← HKb.out];refine hC.mono ?_;rintro e w1 ⟨rfl, hb1⟩;have HB1 := hid hb1;have HA1' : Hid (UnAt w1 L U) := HA0.out.below hb1;have c0 : w1.cell? ⟨kb, 0, none⟩ = some (ptr cc) := (hb1.cell (cell_lt hk0)).trans hk0;have c1 := HA1'.out.cell1;rw [← Hcc.out, ← Hpp.out] at c1;have hM := Pp.make_at L.p U.P w1 HA1'.out.pipes;rw [← Hpp.out, hmk] at hM;clear hC hb1 hk0 hk2 hmk
 go_wp2_with fail
 refine hM.mono ?_;rintro e w2 ⟨rfl, hp2, hu2⟩;obtain ⟨h2a, h2u⟩ := HA1'.out.putP (by rw [← Hpp.out]; exact hu2) (by rw [← Hpp.out]; exact hp2);have HA2 := hid h2a;have HU2 : Hid (UT L.lo w w2) := (UT.of_below (HB0.out.trans (HB1.out.mono HB0.out.size))).trans h2u;have HK2 : Hid (w2.heap[kb]? = some (.cells (tkR cc s pid x i) 99)) := h2u.other ((HB1.out.block _ (lt_of_heap HK.out)).trans HK.out) rfl;have HZ2 : Hid (w2.heap[zb]? = some (.cells (ouR Ou.zero) 96)) := h2u.other ((HB1.out.block _ (lt_of_heap HZ.out)).trans HZ.out) rfl;clear hp2 hu2 h2a h2u hM c0 c1;obtain ⟨mi, hmi⟩ : ∃ m, m = Pp.mkI U.P := ⟨_, rfl⟩
 go_wp2_with fail
 have hs2 : w2.cell? ⟨kb, 0, none⟩ = some (ptr cc) ∧ w2.cell? ⟨cc, 0, none⟩ = some (ptr ff) ∧ w2.cell? ⟨kb, 2, none⟩ = some (.int .i64 pid) := by
  have c0 := HA2.out.cell0;rw [← Hcc.out, ← Hff.out] at c0;exact ⟨by rw [cell_of_heap HK2.out]; rfl, c0, by rw [cell_of_heap HK2.out]; rfl⟩
 have hT := fun q => Fd.open_at L.f U.F pid ⟨3, Pp.mkI U.P, 0, false, 0⟩ (w2.drewN q) (HA2.out.below (Di.drewN_below (w := w2) ⟨q, rfl⟩)).fds
 rw [← Hff.out] at hT;refine wp_region_held_drew (S := fun w' => w'.cell? ⟨kb, 0, none⟩ = some (ptr cc) ∧ w'.cell? ⟨cc, 0, none⟩ = some (ptr ff) ∧ w'.cell? ⟨kb, 2, none⟩ = some (.int .i64 pid)) (by kernel_rfl) hs2 (fun hHeld => ?_);refine tkz [0, 1, 2, 3, 4, 5, 6, 7, 8] ?_
 iterate 9
  refine tkq (v := ?_) rfl (Or.inl ⟨by kernel_rfl, ?_⟩) ?_
  rotate_left
  ·(intro w hSw; (try dsimp only at hSw); go_simp) <;> with_reducible rfl
  (try simp only [Act.put, lq])
 refine tkw ?_
 refine rdy 9 rfl fun K hK => ?_
 go_simp;refine (hT 1).mono ?_;rintro e w3 ⟨rfl, hp, hu⟩;obtain ⟨ha, hut⟩ := (HA2.out.below (Di.drewN_below (w := w2) ⟨1, rfl⟩)).putF (by rw [← Hff.out]; exact hu) (by rw [← Hff.out]; exact hp) (HA2.out.ok.inv.openT _ _) (HA2.out.ok.fit.openT (HFt.out 3 (by omega) (by omega)));have HA3 := hid ha;have HU3 : Hid (UT L.lo w w3) := (HU2.out.trans (UT.of_below (Di.drewN_below (w := w2) ⟨1, rfl⟩))).trans hut;have HK3 : Hid (w3.heap[kb]? = some (.cells (tkR cc s pid x i) 99)) := hut.other (w := w2.drewN 1) HK2.out rfl;have HZ3 : Hid (w3.heap[zb]? = some (.cells (ouR Ou.zero) 96)) := hut.other (w := w2.drewN 1) HZ2.out rfl
 have hs3 : w3.cell? ⟨kb, 0, none⟩ = some (ptr cc) ∧ w3.cell? ⟨cc, 0, none⟩ = some (ptr ff) ∧ w3.cell? ⟨kb, 2, none⟩ = some (.int .i64 pid) := by
  have c0 := HA3.out.cell0;rw [← Hcc.out, ← Hff.out] at c0;exact ⟨by rw [cell_of_heap HK3.out]; rfl, c0, by rw [cell_of_heap HK3.out]; rfl⟩
 clear hp hu ha hut hs2 hT;refine hK.out _ _ hs3 (fun hHeld => ?_);clear hK K
 (try simp only [Act.put, lq])
 refine tkz [10, 11, 12, 13, 14] ?_
 iterate 5
  refine tkq (v := ?_) rfl (Or.inl ⟨by kernel_rfl, ?_⟩) ?_
  rotate_left
  ·(intro w hSw; (try dsimp only at hSw); go_simp) <;> with_reducible rfl
  (try simp only [Act.put, lq])
 refine tkw ?_;refine wpAnyH_done (by kernel_rfl) ?_ _;clear hHeld hs3
 go_wp2_with fail
 have hs3 : w3.cell? ⟨kb, 0, none⟩ = some (ptr cc) ∧ w3.cell? ⟨cc, 0, none⟩ = some (ptr ff) ∧ w3.cell? ⟨kb, 2, none⟩ = some (.int .i64 pid) := by
  have c0 := HA3.out.cell0;rw [← Hcc.out, ← Hff.out] at c0;exact ⟨by rw [cell_of_heap HK3.out]; rfl, c0, by rw [cell_of_heap HK3.out]; rfl⟩
 have hT := fun q => Fd.open_at L.f (Fd.openT U.F pid ⟨3, Pp.mkI U.P, 0, false, 0⟩) pid ⟨4, Pp.mkI U.P, 0, false, 0⟩ (w3.drewN q) (HA3.out.below (Di.drewN_below (w := w3) ⟨q, rfl⟩)).fds
 rw [← Hff.out] at hT;refine wp_region_held_drew (S := fun w' => w'.cell? ⟨kb, 0, none⟩ = some (ptr cc) ∧ w'.cell? ⟨cc, 0, none⟩ = some (ptr ff) ∧ w'.cell? ⟨kb, 2, none⟩ = some (.int .i64 pid)) (by kernel_rfl) hs3 (fun hHeld => ?_);refine tkz [0, 1, 2, 3, 4, 5, 6, 7, 8] ?_
 iterate 9
  refine tkq (v := ?_) rfl (Or.inl ⟨by kernel_rfl, ?_⟩) ?_
  rotate_left
  ·(intro w hSw; (try dsimp only at hSw); go_simp) <;> with_reducible rfl
  (try simp only [Act.put, lq])
 refine tkw ?_
 refine rdy 9 rfl fun K hK => ?_
 go_simp;refine (hT 1).mono ?_;rintro e w4 ⟨rfl, hp, hu⟩;obtain ⟨ha, hut⟩ := (HA3.out.below (Di.drewN_below (w := w3) ⟨1, rfl⟩)).putF (by rw [← Hff.out]; exact hu) (by rw [← Hff.out]; exact hp) (HA3.out.ok.inv.openT _ _) (HA3.out.ok.fit.openT (HFt.out 4 (by omega) (by omega)));have HA4 := hid ha;have HU4 : Hid (UT L.lo w w4) := (HU3.out.trans (UT.of_below (Di.drewN_below (w := w3) ⟨1, rfl⟩))).trans hut;have HK4 : Hid (w4.heap[kb]? = some (.cells (tkR cc s pid x i) 99)) := hut.other (w := w3.drewN 1) HK3.out rfl;have HZ4 : Hid (w4.heap[zb]? = some (.cells (ouR Ou.zero) 96)) := hut.other (w := w3.drewN 1) HZ3.out rfl
 have hs4 : w4.cell? ⟨kb, 0, none⟩ = some (ptr cc) ∧ w4.cell? ⟨cc, 0, none⟩ = some (ptr ff) ∧ w4.cell? ⟨kb, 2, none⟩ = some (.int .i64 pid) := by
  have c0 := HA4.out.cell0;rw [← Hcc.out, ← Hff.out] at c0;exact ⟨by rw [cell_of_heap HK4.out]; rfl, c0, by rw [cell_of_heap HK4.out]; rfl⟩
 clear hp hu ha hut hs3 hT;refine hK.out _ _ hs4 (fun hHeld => ?_);clear hK K
 (try simp only [Act.put, lq])
 refine tkz [10, 11, 12, 13, 14] ?_
 iterate 5
  refine tkq (v := ?_) rfl (Or.inl ⟨by kernel_rfl, ?_⟩) ?_
  rotate_left
  ·(intro w hSw; (try dsimp only at hSw); go_simp) <;> with_reducible rfl
  (try simp only [Act.put, lq])
 refine tkw ?_;refine wpAnyH_done (by kernel_rfl) ?_ _;clear hHeld hs4
 have HAe : Hid (UnAt w4 L U') := by rw [HU'.out]; exact HA4.out
 have HQ : Hid ((w4.setRow zb (ouR (piO U pid))).heap[zb]? = some (.cells (ouR (piO U pid)) 96)) := setRow_heap _ zb _ _ _ _ HZ4.out;have HF : Hid (UnAt (w4.setRow zb (ouR (piO U pid))) L U' ∧ UT L.lo w (w4.setRow zb (ouR (piO U pid)))) := ⟨HAe.out.row HZ4.out rfl (by decide) (by decide), HU4.out.far (by rw [HZb.out]; omega)⟩
 go_wp2_with (first
   | (refine wpList_store_row rfl 96 _ _ rfl zb (ouR (piO U pid)) rfl rfl 96 (ouR Ou.zero) HZ4.out ouSize rfl (ouR_one _) ?_)
   | go_in)
 exact bodyPost_ret (v := .agg (ouR (piO U pid))) (results_cell_row rfl _ _ zb 96 (ouR (piO U pid)) (0, 0) _ rfl HQ.out Tryz.underlying96 rfl ouSize) rfl ⟨rfl, HF.out⟩
theorem read_pipe {w : World} {L : Pl} {U : Un} (h : UnAt w L U) (s : Value) (pid : Int) (x : Cl) (i : List UInt8) (ha : 0 ≤ x.a) (id off rf : Int) (ap : Bool) (hE : Fd.getE U.F pid (smI x.a) = 0) (hX : Fd.getX U.F pid (smI x.a) = ⟨3, id, off, ap, rf⟩) (h1 : 1 ≤ x.c) (h2 : x.c ≤ 128) :
  Calls Tryz.prog 81 #[.agg (tkR L.c s pid x i)] w (Left L (rpO U id x.c) (rpU U id x.c) w) := by
 unfold Left;obtain ⟨WK, WZ, hWK, hWZ, hB, hyK, hyZ⟩ := blk2 w (tkR L.c s pid x i) 99 (ouR Ou.zero) 96;have HA0 : Hid (UnAt WZ L U) := h.below hB;have HB0 := hid hB;have hz : (#[.int .i64 0, .int .i64 0, .string ⟨#[]⟩, .int .i64 0, .int .i64 0, .string ⟨#[]⟩, .int .i64 0, .bool false] : Array Value) = ouR Ou.zero := rfl;obtain ⟨kb, hKb⟩ : ∃ k, k = w.heap.size := ⟨_, rfl⟩;rw [← hKb] at hyK;have HK := hid hyK;have HKb := hid hKb;have HWK : Hid _ := hWK;obtain ⟨zb, hZb⟩ : ∃ k, k = w.heap.size + 1 := ⟨_, rfl⟩;rw [← hZb] at hyZ;have HZ := hid hyZ;have HZb := hid hZb;have HWZ : Hid _ := hWZ;have HU := hid h;clear hWK hKb hWZ hZb hB h;obtain ⟨cc, hcc⟩ : ∃ c, c = L.c := ⟨_, rfl⟩;obtain ⟨ff, hff⟩ : ∃ c, c = L.f := ⟨_, rfl⟩;rw [← hcc] at HK hyK HWK ⊢;have Hcc := hid hcc;have Hff := hid hff;obtain ⟨TK, hTK⟩ : ∃ l, l = (tkR cc s pid x i).toList := ⟨_, rfl⟩
 have HTl : Hid (TK.length = 10) := by show _ = _; rw [hTK]; rfl
 have eTK : TK.toArray = tkR cc s pid x i := by rw [hTK]
 have hS : ∀ W, Below WZ.heap.size WZ W → W.rangeAt kb 0 TK ∧ W.cell? ⟨kb, 0, none⟩ = some (ptr cc) ∧ W.cell? ⟨kb, 2, none⟩ = some (.int .i64 pid) ∧ W.cell? ⟨cc, 0, none⟩ = some (ptr ff) := fun W hW => by
  have c0 := HA0.out.cell0;rw [← Hcc.out, ← Hff.out] at c0
  have e1 : ∀ j v, TK[j]? = some v → WZ.cell? ⟨kb, 0 + j, none⟩ = some v := fun j v hv => by rw [Nat.zero_add, cell_of_heap HK.out]; rw [hTK] at hv; simpa using hv
  have e2 : WZ.cell? ⟨kb, 0, none⟩ = some (ptr cc) := by rw [cell_of_heap HK.out]; rfl
  have e3 : WZ.cell? ⟨kb, 2, none⟩ = some (.int .i64 pid) := by rw [cell_of_heap HK.out]; rfl
  exact ⟨fun j v hv => (hW.cell (cell_lt (e1 j v hv))).trans (e1 j v hv), (hW.cell (cell_lt e2)).trans e2, (hW.cell (cell_lt e3)).trans e3, (hW.cell (cell_lt c0)).trans c0⟩
 have hD := fun V => descriptor_at cc s pid x i ha V
 obtain ⟨fd, hfd⟩ : ∃ d, d = smI x.a := ⟨_, rfl⟩;rw [← hfd] at hE hX hD
 have hG : ∀ W, Below WZ.heap.size WZ W → Calls Tryz.prog 148 #[ptr ff, .int .i64 pid, .int .i64 fd] W fun e w' => e = .returned (.tuple #[.agg (Fd.Fl.row ⟨3, id, off, ap, rf⟩), .int .i64 0]) ∧ Below W.heap.size W w' := fun W hW => by
  have := Fd.get_at L.f U.F pid fd W (HA0.out.below hW).fds HA0.out.ok.inv;rw [hE, hX, ← Hff.out] at this;exact this
 obtain ⟨o, ho⟩ : ∃ o, o = rpO U id x.c := ⟨_, rfl⟩;rw [← ho];have HO := hid ho;obtain ⟨U', hU'⟩ : ∃ V, V = rpU U id x.c := ⟨_, rfl⟩;rw [← hU'];have HU' := hid hU';obtain ⟨R, hR⟩ : ∃ R, R = ouR o := ⟨_, rfl⟩
 have HRs : Hid (R.size = 8) := by rw [hR]; exact ouR_size _
 have HOne : Hid (R.all (·.oneCell') = true) := by rw [hR]; exact ouR_one _
 rw [← hR];have HRq := hid hR;clear ho hU' hR;clear hyK hyZ hcc hff hE hX hTK hfd
 go_enter Tryz.func81, Tryz.ntmps81
 go_upto_region 1 with fail
 rw [← HWK.out, ← HWZ.out];rw [← HZb.out];rw [← HKb.out]
 go_cut [3, 4] (fun p e wc => ∃ fb, p = ptr fb ∧ e = .int .i64 0 ∧ WZ.heap.size ≤ fb ∧ wc.heap[fb]? = some (.cells (Fd.Fl.row ⟨3, id, off, ap, rf⟩) 102) ∧ Below WZ.heap.size WZ wc)
 case first => as_aux_lemma =>
  refine wp_region_held_drew (S := fun w' => w'.rangeAt kb 0 TK ∧ w'.cell? ⟨kb, 0, none⟩ = some (ptr cc) ∧ w'.cell? ⟨kb, 2, none⟩ = some (.int .i64 pid) ∧ w'.cell? ⟨cc, 0, none⟩ = some (ptr ff)) (by kernel_rfl) (hS _ (Di.drewN_below (w := WZ) ⟨1, rfl⟩)) (fun hHeld => ?_);refine tkz [0, 1, 2, 3, 4, 5, 6] ?_
  iterate 7
   refine tkq (v := ?_) rfl (Or.inl ⟨by kernel_rfl, ?_⟩) ?_
   rotate_left
   ·(intro w hSw; (try dsimp only at hSw); go_simp) <;> with_reducible rfl
   (try simp only [Act.put, lq])
  refine tkw ?_;refine tkv 7 (.agg (TK).toArray) rfl (yieldsIf_load_mid (by kernel_rfl) 99 _ rfl kb 0 rfl (TK) _ (fun w hw => hw.1) Tryz.underlying99 rfl (by rw [HTl.out]; exact tkSize)) ?_
  (try simp only [Act.put, lq])
  obtain ⟨v0, hv0⟩ : ∃ V, V = WZ.drew := ⟨_, rfl⟩
  have H0 : Hid (Below WZ.heap.size WZ v0) := by rw [hv0]; exact Di.drewN_below (w := WZ) ⟨1, rfl⟩
  rw [← hv0];clear hv0;refine wpAnyH_ready (rs := [8, 13]) (by kernel_rfl) (by simp) ?_;refine AllReadyH.cons rfl (fun K hK => ?_) (AllReadyH.cons rfl (fun K hK => ?_) (AllReadyH.nil))
  ·go_simp
   refine (hD v0).mono ?_;rintro e v1 ⟨rfl, hb⟩;have H1 : Hid (Below WZ.heap.size WZ v1) := H0.out.trans (hb.mono H0.out.size);clear hb;refine hK.out _ _ (hS _ H1.out) (fun hHeld => ?_);clear hK K
   (try simp only [Act.put, lq])
   refine wpAnyH_ready (rs := [9, 13]) (by kernel_rfl) (by simp) ?_;refine AllReadyH.cons rfl (fun K hK => ?_) (AllReadyH.cons rfl (fun K hK => ?_) (AllReadyH.nil))
   ·go_simp
    refine (hG v1 H1.out).mono ?_;rintro e v2 ⟨rfl, hb⟩;have H2 : Hid (Below WZ.heap.size WZ v2) := H1.out.trans (hb.mono H1.out.size);clear hb;refine hK.out _ _ (hS _ H2.out) (fun hHeld => ?_);clear hK K
    (try simp only [Act.put, lq])
    refine tkz [10, 11, 12] ?_
    iterate 3
     refine tkq (v := ?_) rfl (Or.inl ⟨by kernel_rfl, ?_⟩) ?_
     rotate_left
     ·(intro w hSw; (try dsimp only at hSw); go_simp) <;> with_reducible rfl
     (try simp only [Act.put, lq])
    refine tkw ?_
    refine rdy 13 rfl fun K hK => ?_
    refine step_alloc rfl 102 rfl Fd.Fl.no.row file_alloc ?_;obtain ⟨v3, hv⟩ : ∃ V, V = v2.alloc (.cells Fd.Fl.no.row 102) := ⟨_, rfl⟩;obtain ⟨fb, hfb⟩ : ∃ k, k = v2.heap.size := ⟨_, rfl⟩
    have H3 : Hid (Below WZ.heap.size WZ v3) := by rw [hv]; exact H2.out.trans ((below_alloc v2 _).mono H2.out.size)
    have P3 : Hid (v3.heap[fb]? = some (.cells Fd.Fl.no.row 102)) := by rw [hv, hfb]; exact heap_alloc_new _ _
    have HL : Hid (WZ.heap.size ≤ fb) := by rw [hfb]; exact H2.out.size
    rw [← hv, ← hfb];clear hv hfb;refine hK.out _ _ (hS _ H3.out) (fun hHeld => ?_);clear hK K
    (try simp only [Act.put, lq])
    refine rdy 14 rfl fun K hK => ?_
    refine step_store_row rfl 102 (.tmp 3) (.tmp 20) rfl fb (Fd.Fl.row ⟨3, id, off, ap, rf⟩) rfl rfl 102 Fd.Fl.no.row P3.out flSize rfl (by simp [Value.oneCell']) ?_;have HQ : Hid ((v3.setRow fb (Fd.Fl.row ⟨3, id, off, ap, rf⟩)).heap[fb]? = some (.cells (Fd.Fl.row ⟨3, id, off, ap, rf⟩) 102)) := setRow_heap _ fb _ _ _ _ P3.out;have HE : Hid (Below WZ.heap.size WZ (v3.setRow fb (Fd.Fl.row ⟨3, id, off, ap, rf⟩))) := H3.out.trans ((Upd.setRow fb v3 (Fd.Fl.row ⟨3, id, off, ap, rf⟩)).below HL.out H3.out.size);refine hK.out _ _ (hS _ HE.out) (fun hHeld => ?_);clear hK K
    (try simp only [Act.put, lq])
    refine tkz [15] ?_
    iterate 1
     refine tkq (v := ?_) rfl (Or.inl ⟨by kernel_rfl, ?_⟩) ?_
     rotate_left
     ·(intro w hSw; (try dsimp only at hSw); go_simp) <;> with_reducible rfl
     (try simp only [Act.put, lq])
    refine tkw ?_;refine wpAnyH_done (by kernel_rfl) ?_ _;clear hS hD hG
    go_wp2_with fail
    go_meet
    case rel => exact ⟨fb, rfl, rfl, HL.out, HQ.out, HE.out⟩
   ·refine step_alloc rfl 102 rfl Fd.Fl.no.row file_alloc ?_
    obtain ⟨v2, hv⟩ : ∃ V, V = v1.alloc (.cells Fd.Fl.no.row 102) := ⟨_, rfl⟩;obtain ⟨fb, hfb⟩ : ∃ k, k = v1.heap.size := ⟨_, rfl⟩
    have H2 : Hid (Below WZ.heap.size WZ v2) := by rw [hv]; exact H1.out.trans ((below_alloc v1 _).mono H1.out.size)
    have P2 : Hid (v2.heap[fb]? = some (.cells Fd.Fl.no.row 102)) := by rw [hv, hfb]; exact heap_alloc_new _ _
    have HL : Hid (WZ.heap.size ≤ fb) := by rw [hfb]; exact H1.out.size
    rw [← hv, ← hfb];clear hv hfb;refine hK.out _ _ (hS _ H2.out) (fun hHeld => ?_);clear hK K
    (try simp only [Act.put, lq])
    refine rdy 9 rfl fun K hK => ?_
    go_simp;refine (hG v2 H2.out).mono ?_;rintro e v3 ⟨rfl, hb⟩;have H3 : Hid (Below WZ.heap.size WZ v3) := H2.out.trans (hb.mono H2.out.size);have P3 : Hid (v3.heap[fb]? = some (.cells Fd.Fl.no.row 102)) := (hb.block _ (lt_of_heap P2.out)).trans P2.out;clear hb;refine hK.out _ _ (hS _ H3.out) (fun hHeld => ?_);clear hK K
    (try simp only [Act.put, lq])
    refine tkz [10, 11, 12] ?_
    iterate 3
     refine tkq (v := ?_) rfl (Or.inl ⟨by kernel_rfl, ?_⟩) ?_
     rotate_left
     ·(intro w hSw; (try dsimp only at hSw); go_simp) <;> with_reducible rfl
     (try simp only [Act.put, lq])
    refine tkw ?_
    refine rdy 14 rfl fun K hK => ?_
    refine step_store_row rfl 102 (.tmp 3) (.tmp 20) rfl fb (Fd.Fl.row ⟨3, id, off, ap, rf⟩) rfl rfl 102 Fd.Fl.no.row P3.out flSize rfl (by simp [Value.oneCell']) ?_;have HQ : Hid ((v3.setRow fb (Fd.Fl.row ⟨3, id, off, ap, rf⟩)).heap[fb]? = some (.cells (Fd.Fl.row ⟨3, id, off, ap, rf⟩) 102)) := setRow_heap _ fb _ _ _ _ P3.out;have HE : Hid (Below WZ.heap.size WZ (v3.setRow fb (Fd.Fl.row ⟨3, id, off, ap, rf⟩))) := H3.out.trans ((Upd.setRow fb v3 (Fd.Fl.row ⟨3, id, off, ap, rf⟩)).below HL.out H3.out.size);refine hK.out _ _ (hS _ HE.out) (fun hHeld => ?_);clear hK K
    (try simp only [Act.put, lq])
    refine tkz [15] ?_
    iterate 1
     refine tkq (v := ?_) rfl (Or.inl ⟨by kernel_rfl, ?_⟩) ?_
     rotate_left
     ·(intro w hSw; (try dsimp only at hSw); go_simp) <;> with_reducible rfl
     (try simp only [Act.put, lq])
    refine tkw ?_;refine wpAnyH_done (by kernel_rfl) ?_ _;clear hS hD hG
    go_wp2_with fail
    go_meet
    case rel => exact ⟨fb, rfl, rfl, HL.out, HQ.out, HE.out⟩
  ·refine step_alloc rfl 102 rfl Fd.Fl.no.row file_alloc ?_
   obtain ⟨v1, hv⟩ : ∃ V, V = v0.alloc (.cells Fd.Fl.no.row 102) := ⟨_, rfl⟩;obtain ⟨fb, hfb⟩ : ∃ k, k = v0.heap.size := ⟨_, rfl⟩
   have H1 : Hid (Below WZ.heap.size WZ v1) := by rw [hv]; exact H0.out.trans ((below_alloc v0 _).mono H0.out.size)
   have P1 : Hid (v1.heap[fb]? = some (.cells Fd.Fl.no.row 102)) := by rw [hv, hfb]; exact heap_alloc_new _ _
   have HL : Hid (WZ.heap.size ≤ fb) := by rw [hfb]; exact H0.out.size
   rw [← hv, ← hfb];clear hv hfb;refine hK.out _ _ (hS _ H1.out) (fun hHeld => ?_);clear hK K
   (try simp only [Act.put, lq])
   refine rdy 8 rfl fun K hK => ?_
   go_simp;refine (hD v1).mono ?_;rintro e v2 ⟨rfl, hb⟩;have H2 : Hid (Below WZ.heap.size WZ v2) := H1.out.trans (hb.mono H1.out.size);have P2 : Hid (v2.heap[fb]? = some (.cells Fd.Fl.no.row 102)) := (hb.block _ (lt_of_heap P1.out)).trans P1.out;clear hb;refine hK.out _ _ (hS _ H2.out) (fun hHeld => ?_);clear hK K
   (try simp only [Act.put, lq])
   refine rdy 9 rfl fun K hK => ?_
   go_simp;refine (hG v2 H2.out).mono ?_;rintro e v3 ⟨rfl, hb⟩;have H3 : Hid (Below WZ.heap.size WZ v3) := H2.out.trans (hb.mono H2.out.size);have P3 : Hid (v3.heap[fb]? = some (.cells Fd.Fl.no.row 102)) := (hb.block _ (lt_of_heap P2.out)).trans P2.out;clear hb;refine hK.out _ _ (hS _ H3.out) (fun hHeld => ?_);clear hK K
   (try simp only [Act.put, lq])
   refine tkz [10, 11, 12] ?_
   iterate 3
    refine tkq (v := ?_) rfl (Or.inl ⟨by kernel_rfl, ?_⟩) ?_
    rotate_left
    ·(intro w hSw; (try dsimp only at hSw); go_simp) <;> with_reducible rfl
    (try simp only [Act.put, lq])
   refine tkw ?_
   refine rdy 14 rfl fun K hK => ?_
   refine step_store_row rfl 102 (.tmp 3) (.tmp 20) rfl fb (Fd.Fl.row ⟨3, id, off, ap, rf⟩) rfl rfl 102 Fd.Fl.no.row P3.out flSize rfl (by simp [Value.oneCell']) ?_;have HQ : Hid ((v3.setRow fb (Fd.Fl.row ⟨3, id, off, ap, rf⟩)).heap[fb]? = some (.cells (Fd.Fl.row ⟨3, id, off, ap, rf⟩) 102)) := setRow_heap _ fb _ _ _ _ P3.out;have HE : Hid (Below WZ.heap.size WZ (v3.setRow fb (Fd.Fl.row ⟨3, id, off, ap, rf⟩))) := H3.out.trans ((Upd.setRow fb v3 (Fd.Fl.row ⟨3, id, off, ap, rf⟩)).below HL.out H3.out.size);refine hK.out _ _ (hS _ HE.out) (fun hHeld => ?_);clear hK K
   (try simp only [Act.put, lq])
   refine tkz [15] ?_
   iterate 1
    refine tkq (v := ?_) rfl (Or.inl ⟨by kernel_rfl, ?_⟩) ?_
    rotate_left
    ·(intro w hSw; (try dsimp only at hSw); go_simp) <;> with_reducible rfl
    (try simp only [Act.put, lq])
   refine tkw ?_;refine wpAnyH_done (by kernel_rfl) ?_ _;clear hS hD hG
   go_wp2_with fail
   go_meet
   case rel => exact ⟨fb, rfl, rfl, HL.out, HQ.out, HE.out⟩
 case rest =>
  obtain ⟨fb, rfl, rfl, hfb, hfr, hbc⟩ := hcut;have HFr := hid hfr;have HBc := hid hbc;have HAc : Hid (UnAt wc L U) := HA0.out.below hbc;have HKc : Hid (wc.heap[kb]? = some (.cells (tkR cc s pid x i) 99)) := (hbc.block _ (lt_of_heap HK.out)).trans HK.out;have HZc : Hid (wc.heap[zb]? = some (.cells (ouR Ou.zero) 96)) := (hbc.block _ (lt_of_heap HZ.out)).trans HZ.out;clear hS hD hG hfr hbc hfb;obtain ⟨n, hn⟩ : ∃ n, n = x.c := ⟨_, rfl⟩;have Hn := hid hn
  have Hn1 : Hid (1 ≤ n) := by show _ ≤ _; rw [hn]; exact h1
  have hk6 : wc.cell? ⟨kb, 6, none⟩ = some (.int .u64 n) := by rw [cell_of_heap HKc.out, hn]; rfl
  have hwr : IntKind.i64.wrap n = n := by simp [IntKind.wrap, IntKind.bits, IntKind.signed]; omega
  have hg : decide (128 < n) = false := decide_eq_false (by omega);clear hn h1 h2 eTK;have hWI := whatIs_rea id off rf ap;have t1 := ta_con_rea id;have t2 := ta_sto_rea id;have t3 := ta_rea_rea id
  go_upto_region 7 with fail
  clear hg hk6 hwr
  go_wp2_with (first
    | (refine wpList_load_row rfl 102 _ rfl fb rfl 102 (Fd.Fl.row ⟨3, id, off, ap, rf⟩) (0, 0) _ HFr.out Tryz.underlying102 rfl flSize ?_)
    | fail)
  refine (hWI _).mono ?_;rintro e w1 ⟨rfl, hb1⟩;have HB1 := hid hb1;clear hWI hb1
  go_upto_region 15 with fail
  obtain ⟨w2, hw2⟩ : ∃ V, V = w1.alloc (.cells #[.int .i64 id] 267) := ⟨_, rfl⟩
  have hb2 : Below w1.heap.size w1 w2 := by rw [hw2]; exact below_alloc _ _
  have HB2 : Hid (Below wc.heap.size wc w2) := HB1.out.trans (hb2.mono HB1.out.size);have HK2 : Hid (w2.heap[kb]? = some (.cells (tkR cc s pid x i) 99)) := (HB2.out.block _ (lt_of_heap HKc.out)).trans HKc.out;have HZ2 : Hid (w2.heap[zb]? = some (.cells (ouR Ou.zero) 96)) := (HB2.out.block _ (lt_of_heap HZc.out)).trans HZc.out;have HUT2 : Hid (UT L.lo w w2) := UT.of_below ((HB0.out.trans (HBc.out.mono HB0.out.size)).trans (HB2.out.mono (HB0.out.trans (HBc.out.mono HB0.out.size)).size))
  have hx2 : w2.cell? ⟨w1.heap.size, 0, none⟩ = some (.int .i64 id) := by rw [hw2, cell_of_heap (heap_alloc_new _ _)]; rfl
  have hRP := readPipe_at (HAc.out.below HB2.out) s pid x i id n (by have := Hn1.out; omega);rw [← Hcc.out] at hRP;unfold Left at hRP
  have e1 : ouR (rpO U id n) = R := by rw [HRq.out, HO.out, Hn.out]
  have e2 : rpU U id n = U' := by rw [HU'.out, Hn.out]
  rw [e1, e2] at hRP;have HW2 := hid hw2;clear hw2 hb2 e1 e2
  go_upto_region 16 with fail
  rw [← HW2.out]
  go_wp2_with (first
    | (refine wpList_load_row rfl 99 _ rfl kb rfl 99 (tkR cc s pid x i) (0, 0) _ HK2.out Tryz.underlying99 rfl tkSize ?_)
    | fail)
  refine hRP.mono ?_;rintro e w3 ⟨rfl, ha3, hu3⟩;have HA1 := hid ha3;have HU1 : Hid (UT L.lo w w3) := HUT2.out.trans hu3;have HZ3 : Hid (w3.heap[zb]? = some (.cells (ouR Ou.zero) 96)) := hu3.other HZ2.out rfl;clear hRP ha3 hu3 hx2;have HM : Hid (w3.heap[zb]? = some (.cells (ouR Ou.zero) 96)) := HZ3.out;have HQ : Hid ((w3.setRow zb R).heap[zb]? = some (.cells R 96)) := setRow_heap _ zb _ _ _ _ HM.out;have HF : Hid (UnAt (w3.setRow zb R) L U' ∧ UT L.lo w (w3.setRow zb R)) := ⟨HA1.out.row HM.out rfl (by decide) (by decide), HU1.out.far (by rw [HZb.out]; omega)⟩
  go_wp2_with (first
    | (refine wpList_store_row rfl 96 _ _ rfl zb R rfl rfl 96 (ouR Ou.zero) HM.out (by rw [HRs.out]; exact ouSize) (by rw [HRs.out]; rfl) HOne.out ?_)
    | go_in)
  exact bodyPost_ret (v := .agg R) (results_cell_row rfl _ _ zb 96 R (0, 0) _ rfl HQ.out Tryz.underlying96 rfl (by rw [HRs.out]; exact ouSize)) rfl ⟨rfl, HF.out⟩
theorem cut_to (l : List UInt8) (k : Nat) (h : k ≤ l.length) (w : World) : (Instr.slice 9 (Pp.tx l) none (some (.int .i64 k)) none).run Tryz.prog w = .ok (Pp.tx (l.take k)) w := by
 rw [run_slice_string_to_if w _ _ _ _ Tryz.underlying9, if_pos (by simp [ByteArray.size]; omega), ByteArray.extract_mk];simp
def Ou.con (d : List UInt8) : Ou := ⟨(d.length : Nat), 0, d, 0, 0, [], (d.length : Nat), false⟩
def rcD (i : List UInt8) (n : Int) : List UInt8 := i.take (Pp.tk i n)
theorem readCon_at {w : World} {L : Pl} {U : Un} (h : UnAt w L U) (s : Value) (pid : Int) (x : Cl) (i : List UInt8) (n : Int) (hn : 0 < n) :
  Calls Tryz.prog 150 #[.agg (tkR L.c s pid x i), .int .i64 n] w (Left L (Ou.con (rcD i n)) U w) := by
 unfold Left;obtain ⟨WK, WZ, hWK, hWZ, hB, hyK, hyZ⟩ := blk2 w (tkR L.c s pid x i) 99 (ouR Ou.zero) 96;have HA0 : Hid (UnAt WZ L U) := h.below hB;have HB0 := hid hB;have hz : (#[.int .i64 0, .int .i64 0, .string ⟨#[]⟩, .int .i64 0, .int .i64 0, .string ⟨#[]⟩, .int .i64 0, .bool false] : Array Value) = ouR Ou.zero := rfl;obtain ⟨kb, hKb⟩ : ∃ k, k = w.heap.size := ⟨_, rfl⟩;rw [← hKb] at hyK;have HK := hid hyK;have HKb := hid hKb;have HWK : Hid _ := hWK;obtain ⟨zb, hZb⟩ : ∃ k, k = w.heap.size + 1 := ⟨_, rfl⟩;rw [← hZb] at hyZ;have HZ := hid hyZ;have HZb := hid hZb;have HWZ : Hid _ := hWZ;have HU := hid h;clear hWK hKb hWZ hZb hB h;obtain ⟨cc, hcc⟩ : ∃ c, c = L.c := ⟨_, rfl⟩;rw [← hcc] at HK hyK HWK ⊢
 have hk9 : WZ.cell? ⟨kb, 9, none⟩ = some (Pp.tx i) := by rw [cell_of_heap HK.out]; rfl
 obtain ⟨k, hk⟩ : ∃ k, k = Pp.tk i n := ⟨_, rfl⟩
 have hm : min n (i.length : Int) = (k : Int) := by rw [hk]; unfold Pp.tk; omega
 have hkl : k ≤ i.length := by rw [hk]; exact Pp.tk_le i n
 have ht := cut_to i k hkl;obtain ⟨d, hd⟩ : ∃ d, d = i.take k := ⟨_, rfl⟩;rw [← hd] at ht;have hN := got_at d;unfold Ou.got at hN;obtain ⟨m, hmm⟩ : ∃ m, m = d.length := ⟨_, rfl⟩;rw [← hmm] at hN;obtain ⟨R, hR⟩ : ∃ R, R = ouR (Ou.con (rcD i n)) := ⟨_, rfl⟩
 have hRR : R = #[.int .i64 (m : Int), .int .i64 0, .string ⟨d.toArray⟩, .int .i64 0, .int .i64 0, .string ⟨#[]⟩, .int .i64 (m : Int), .bool false] := by
  have e1 : rcD i n = d := by rw [hd, hk]; rfl
  rw [hR, e1, hmm]
  rfl
 have HRs : Hid (R.size = 8) := by rw [hRR]; rfl
 have HOne : Hid (R.all (·.oneCell') = true) := by rw [hR]; exact ouR_one _
 rw [← hR];have HRR := hid hRR;clear hk hkl hd hmm hR hRR hyK hyZ hcc hn
 go_enter Tryz.func150, Tryz.ntmps150
 go_wp2_with fail
 rw [← HWK.out, ← HWZ.out];rw [← HZb.out];rw [← HKb.out];refine (hN _).mono ?_;rintro e w1 ⟨rfl, hb1⟩;have HB1 := hid hb1;clear hN hb1 ht hm hk9
 go_upto_region 3 with fail
 rw [← HRR.out];obtain ⟨w2, hw2⟩ : ∃ V, V = w1.alloc (.cells R 96) := ⟨_, rfl⟩
 have hb2 : Below w1.heap.size w1 w2 := by rw [hw2]; exact below_alloc _ _
 have HB2 : Hid (Below WZ.heap.size WZ w2) := HB1.out.trans (hb2.mono HB1.out.size)
 have HX2 : Hid (w2.heap[w1.heap.size]? = some (.cells R 96)) := by rw [hw2]; exact heap_alloc_new _ _
 have HZ2 : Hid (w2.heap[zb]? = some (.cells (ouR Ou.zero) 96)) := (HB2.out.block _ (lt_of_heap HZ.out)).trans HZ.out;rw [← hw2];have HA1 : Hid (UnAt w2 L U) := HA0.out.below HB2.out;have HU1 : Hid (UT L.lo w w2) := UT.of_below (HB0.out.trans (HB2.out.mono HB0.out.size));clear hw2 hb2;have HM : Hid (w2.heap[zb]? = some (.cells (ouR Ou.zero) 96)) := HZ2.out;have HQ : Hid ((w2.setRow zb R).heap[zb]? = some (.cells R 96)) := setRow_heap _ zb _ _ _ _ HM.out;have HF : Hid (UnAt (w2.setRow zb R) L U ∧ UT L.lo w (w2.setRow zb R)) := ⟨HA1.out.row HM.out rfl (by decide) (by decide), HU1.out.far (by rw [HZb.out]; omega)⟩
 go_wp2_with (first
   | (refine wpList_load_row rfl 96 _ rfl w1.heap.size rfl 96 R (0, 0) _ HX2.out Tryz.underlying96 rfl (by rw [HRs.out]; exact ouSize) ?_)
   | (refine wpList_store_row rfl 96 _ _ rfl zb R rfl rfl 96 (ouR Ou.zero) HM.out (by rw [HRs.out]; exact ouSize) (by rw [HRs.out]; rfl) HOne.out ?_)
   | go_in)
 exact bodyPost_ret (v := .agg R) (results_cell_row rfl _ _ zb 96 R (0, 0) _ rfl HQ.out Tryz.underlying96 rfl (by rw [HRs.out]; exact ouSize)) rfl ⟨rfl, HF.out⟩
end Go.Proofs.YtinaeifpoljfoaaGreatDoor
