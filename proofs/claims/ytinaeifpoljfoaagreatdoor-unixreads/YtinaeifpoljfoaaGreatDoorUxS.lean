import Derived.Test.YtinaeifpoljfoaaGreatDoorUxQ
set_option linter.all false
set_option maxRecDepth 100000
set_option maxHeartbeats 16000000
namespace Go.Proofs.YtinaeifpoljfoaaGreatDoor
open Go.RowKit
theorem ret_alloc (W : World) : (Instr.alloc 38 true (.tuple #[])).run Tryz.prog W = .ok (.pointer (some ⟨W.heap.size, 0, none⟩)) (W.alloc (.cells (reR Ou.zero) 38)) := by kernel_rfl
theorem pids_at {w : World} {L : Pl} {U : Un} (h : UnAt w L U) : Calls Tryz.prog 13 #[ptr L.c] w fun e w' => ∃ a cap, e = .returned (.slice a (Pc.lstF U.T (fun p => !p.zom)).length cap) ∧ Ow.IRow w' a (Pc.lstF U.T (fun p => !p.zom)) ∧ Below w.heap.size w w' := by
 have hA := Pc.all_at L.B L.t U.T w h.procs;have c3 := h.cell3;have hne := core_eq L.c;clear h;generalize L.c = cc at *;generalize L.t = tt at *;generalize Pc.lstF U.T (fun p => !p.zom) = D at *
 go_enter Tryz.func13, Tryz.ntmps13
 go_wp2_with fail
 refine hA.mono ?_;rintro e w1 ⟨a, cap, rfl, hr, hb⟩;have HR : Hid (Ow.IRow w1 a D ∧ Below w.heap.size w w1) := ⟨hr, hb⟩;clear hA hr hb;obtain ⟨n, hn⟩ : ∃ n, n = D.length := ⟨_, rfl⟩;have Hn := hid hn;rw [← hn];clear hn;go_wp2;go_ret;exact ⟨a, cap, by rw [← Hn.out]; rfl, HR.out.1, HR.out.2⟩
theorem awake_at (w : World) : Calls Tryz.prog 4 #[] w fun e w' => e = .returned (.bool true) ∧ Below w.heap.size w w' := by
 have hB := lbegin_at 40 w (by omega) (by omega)
 go_enter Tryz.func4, Tryz.ntmps4
 go_wp2_with fail
 refine hB.mono ?_;rintro e w0 ⟨bb, L, B, G, x, y, rfl, hbg⟩;have hbe := both_eq bb;have HX0' : Hid (w0.heap[bb]? = some (.cells #[ptr L.c, ptr B, ptr x, ptr y] 43)) := hbg.box;have HA0 : Hid (UnAt w0 L Un1) := hbg.un;have HO0 : Hid (Below w.heap.size w w0) := hbg.old;have HLo : Hid (w.heap.size ≤ L.lo) := hbg.lo;clear hB hbg;obtain ⟨cc, hcc⟩ : ∃ c, c = L.c := ⟨_, rfl⟩;rw [← hcc] at HX0';have HX0 := HX0';have Hcc := hid hcc;clear hcc HX0'
 have hS : ∀ W, UT L.lo w0.drew W → W.cell? ⟨bb, 0, none⟩ = some (ptr cc) ∧ W.cell? ⟨bb, 1, none⟩ = some (ptr B) := fun W hW => by
  have hb := hW.other HX0.out rfl;exact ⟨by rw [cell_of_heap hb]; rfl, by rw [cell_of_heap hb]; rfl⟩
 have hDo : ∀ W, UnAt W L Un1 → Calls Tryz.prog 10 #[ptr cc, .iface 40 (ptr B), .int .i64 1, .agg (clR ax1), Pp.tx []] W (DoIs L ao1 Un1 W) := fun W hW => by rw [Hcc.out]; exact aw_1 hW B
 have hBd : ∀ W, (Instr.build 47 ([(0, .int .i64 8), (1, .int .u64 1), (4, .string ⟨#[104, 105]⟩)] : List (Nat × Value)).toArray).run Tryz.prog W = .ok (.agg (clR ax1)) W := fun W => by kernel_rfl
 unfold DoIs at hDo
 go_upto_region 4 with fail
 go_cut [2, 3, 4, 5] (fun p o2 o3 o4 wc => ∃ fb, p = ptr fb ∧ o2 = Pp.tx ao1.o ∧ o3 = .int .i64 ao1.k ∧ o4 = .bool ao1.w ∧ w0.drew.heap.size ≤ fb ∧ wc.heap[fb]? = some (.cells (reR ao1) 38) ∧ UnAt wc L Un1 ∧ UT L.lo w0.drew wc)
 case first => as_aux_lemma =>
  refine wp_region_held_drew (S := fun w' => w'.cell? ⟨bb, 0, none⟩ = some (ptr cc) ∧ w'.cell? ⟨bb, 1, none⟩ = some (ptr B)) (by kernel_rfl) (hS _ (UT.refl _ _)) (fun hHeld => ?_);obtain ⟨w1b, hwb⟩ : ∃ V, V = w0.drew := ⟨_, rfl⟩
  have A0 : Hid (UnAt w1b L Un1) := by rw [hwb]; exact HA0.out.below (Di.drewN_below (w := w0) ⟨1, rfl⟩)
  rw [← hwb] at hS hHeld ⊢;have HWB := hid hwb;clear hwb;refine tkz [0, 1, 2, 3, 4, 5, 6, 7, 8] ?_
  iterate 9
   refine tkq (v := ?_) rfl (Or.inl ⟨by kernel_rfl, ?_⟩) ?_
   rotate_left
   ·(intro w hSw; (try dsimp only at hSw); go_simp) <;> with_reducible rfl
   (try simp only [Act.put, lq])
  refine tkw ?_;refine tkv 9 (.agg (clR ax1)) rfl (yieldsIf_build (by kernel_rfl) 47 [(0, .const (.int .i64 8)), (1, .const (.int .u64 1)), (4, .const (.string ⟨#[104, 105]⟩))] rfl [(0, .int .i64 8), (1, .int .u64 1), (4, .string ⟨#[104, 105]⟩)] rfl _ hBd) ?_
  (try simp only [Act.put, lq])
  obtain ⟨v0, hv0⟩ : ∃ V, V = w1b := ⟨_, rfl⟩
  have H0 : Hid (UT L.lo w1b v0) := by rw [hv0]; exact UT.refl _ _
  have A0' : Hid (UnAt v0 L Un1) := by rw [hv0]; exact A0.out
  rw [← hv0];clear hv0 A0 hBd;have A0 : Hid (UnAt v0 L Un1) := A0'.out;clear A0';refine wpAnyH_ready (rs := [10, 16]) (by kernel_rfl) (by simp) ?_;refine AllReadyH.cons rfl (fun K hK => ?_) (AllReadyH.cons rfl (fun K hK => ?_) (AllReadyH.nil))
  ·go_simp
   refine (hDo v0 A0.out).mono ?_;rintro e v1 ⟨rfl, ha, hu⟩;have H1 : Hid (UT L.lo w1b v1) := H0.out.trans hu;have A1 := hid ha;clear hu ha;refine hK.out _ _ (hS _ H1.out) (fun hHeld => ?_);clear hK K
   (try simp only [Act.put, lq])
   refine tkz [11, 12, 13, 14, 15] ?_
   iterate 5
    refine tkq (v := ?_) rfl (Or.inl ⟨by kernel_rfl, ?_⟩) ?_
    rotate_left
    ·(intro w hSw; (try dsimp only at hSw); go_simp) <;> with_reducible rfl
    (try simp only [Act.put, lq])
   refine tkw ?_
   refine rdy 16 rfl fun K hK => ?_
   refine step_alloc rfl 38 rfl (reR Ou.zero) ret_alloc ?_;obtain ⟨v2, hv⟩ : ∃ V, V = v1.alloc (.cells (reR Ou.zero) 38) := ⟨_, rfl⟩;obtain ⟨fb, hfb⟩ : ∃ k, k = v1.heap.size := ⟨_, rfl⟩
   have H2 : Hid (UT L.lo w1b v2) := by rw [hv]; exact H1.out.trans (UT.of_below (below_alloc v1 _))
   have A2 : Hid (UnAt v2 L Un1) := by rw [hv]; exact A1.out.below (below_alloc v1 _)
   have P2 : Hid (v2.heap[fb]? = some (.cells (reR Ou.zero) 38)) := by rw [hv, hfb]; exact heap_alloc_new _ _
   have HL : Hid (w1b.heap.size ≤ fb) := by rw [hfb]; exact H1.out.size
   rw [← hv, ← hfb];clear hv hfb;refine hK.out _ _ (hS _ H2.out) (fun hHeld => ?_);clear hK K
   (try simp only [Act.put, lq])
   refine rdy 17 rfl fun K hK => ?_
   refine step_store_row rfl 38 (.tmp 2) (.tmp 41) rfl fb (reR ao1) rfl rfl 38 (reR Ou.zero) P2.out reSize rfl (by simp [Value.oneCell']) ?_;have HQ : Hid ((v2.setRow fb (reR ao1)).heap[fb]? = some (.cells (reR ao1) 38)) := setRow_heap _ fb _ _ _ _ P2.out;have HE : Hid (UT L.lo w1b (v2.setRow fb (reR ao1))) := H2.out.far HL.out;have HAe : Hid (UnAt (v2.setRow fb (reR ao1)) L Un1) := A2.out.row P2.out rfl (by decide) (by decide);refine hK.out _ _ (hS _ HE.out) (fun hHeld => ?_);clear hK K
   (try simp only [Act.put, lq])
   refine tkz [18, 19, 20] ?_
   iterate 3
    refine tkq (v := ?_) rfl (Or.inl ⟨by kernel_rfl, ?_⟩) ?_
    rotate_left
    ·(intro w hSw; (try dsimp only at hSw); go_simp) <;> with_reducible rfl
    (try simp only [Act.put, lq])
   refine tkw ?_;refine wpAnyH_done (by kernel_rfl) ?_ _;clear hS hDo
   go_wp2_with fail
   go_meet
   case rel => exact ⟨fb, rfl, rfl, rfl, rfl, by rw [← HWB.out]; exact HL.out, HQ.out, HAe.out, by rw [← HWB.out]; exact HE.out⟩
  ·refine step_alloc rfl 38 rfl (reR Ou.zero) ret_alloc ?_
   obtain ⟨v1, hv⟩ : ∃ V, V = v0.alloc (.cells (reR Ou.zero) 38) := ⟨_, rfl⟩;obtain ⟨fb, hfb⟩ : ∃ k, k = v0.heap.size := ⟨_, rfl⟩
   have H1 : Hid (UT L.lo w1b v1) := by rw [hv]; exact H0.out.trans (UT.of_below (below_alloc v0 _))
   have A1 : Hid (UnAt v1 L Un1) := by rw [hv]; exact A0.out.below (below_alloc v0 _)
   have P1 : Hid (v1.heap[fb]? = some (.cells (reR Ou.zero) 38)) := by rw [hv, hfb]; exact heap_alloc_new _ _
   have HL : Hid (w1b.heap.size ≤ fb) := by rw [hfb]; exact H0.out.size
   rw [← hv, ← hfb];clear hv hfb;refine hK.out _ _ (hS _ H1.out) (fun hHeld => ?_);clear hK K
   (try simp only [Act.put, lq])
   refine rdy 10 rfl fun K hK => ?_
   go_simp;refine (hDo v1 A1.out).mono ?_;rintro e v2 ⟨rfl, ha, hu⟩;have H2 : Hid (UT L.lo w1b v2) := H1.out.trans hu;have A2 := hid ha;have P2 : Hid (v2.heap[fb]? = some (.cells (reR Ou.zero) 38)) := hu.other P1.out rfl;clear hu ha;refine hK.out _ _ (hS _ H2.out) (fun hHeld => ?_);clear hK K
   (try simp only [Act.put, lq])
   refine tkz [11, 12, 13, 14, 15] ?_
   iterate 5
    refine tkq (v := ?_) rfl (Or.inl ⟨by kernel_rfl, ?_⟩) ?_
    rotate_left
    ·(intro w hSw; (try dsimp only at hSw); go_simp) <;> with_reducible rfl
    (try simp only [Act.put, lq])
   refine tkw ?_
   refine rdy 17 rfl fun K hK => ?_
   refine step_store_row rfl 38 (.tmp 2) (.tmp 41) rfl fb (reR ao1) rfl rfl 38 (reR Ou.zero) P2.out reSize rfl (by simp [Value.oneCell']) ?_;have HQ : Hid ((v2.setRow fb (reR ao1)).heap[fb]? = some (.cells (reR ao1) 38)) := setRow_heap _ fb _ _ _ _ P2.out;have HE : Hid (UT L.lo w1b (v2.setRow fb (reR ao1))) := H2.out.far HL.out;have HAe : Hid (UnAt (v2.setRow fb (reR ao1)) L Un1) := A2.out.row P2.out rfl (by decide) (by decide);refine hK.out _ _ (hS _ HE.out) (fun hHeld => ?_);clear hK K
   (try simp only [Act.put, lq])
   refine tkz [18, 19, 20] ?_
   iterate 3
    refine tkq (v := ?_) rfl (Or.inl ⟨by kernel_rfl, ?_⟩) ?_
    rotate_left
    ·(intro w hSw; (try dsimp only at hSw); go_simp) <;> with_reducible rfl
    (try simp only [Act.put, lq])
   refine tkw ?_;refine wpAnyH_done (by kernel_rfl) ?_ _;clear hS hDo
   go_wp2_with fail
   go_meet
   case rel => exact ⟨fb, rfl, rfl, rfl, rfl, by rw [← HWB.out]; exact HL.out, HQ.out, HAe.out, by rw [← HWB.out]; exact HE.out⟩
 case rest =>
 obtain ⟨f1, rfl, rfl, rfl, rfl, hfb, hfr, hac, huc⟩ := hcut;obtain ⟨w1, hwn⟩ : ∃ V, V = wc := ⟨_, rfl⟩;rw [← hwn] at hfr hac huc ⊢;have hut : UT L.lo w0 w1 := (UT.of_below (Di.drewN_below (w := w0) ⟨1, rfl⟩)).trans huc;have HP1_1 := hid hfr;have HX1 : Hid (w1.heap[bb]? = some (.cells #[ptr cc, ptr B, ptr x, ptr y] 43)) := hut.other HX0.out rfl;have HA1 := hid hac;have HO1 : Hid (Below w.heap.size w w1) := HO0.out.trans (hut.below HLo.out HO0.out.size);clear hwn wc hS hDo hBd hfb hfr hac huc hut
 have hS : ∀ W, UT L.lo w1.drew W → W.cell? ⟨bb, 0, none⟩ = some (ptr cc) ∧ W.cell? ⟨bb, 1, none⟩ = some (ptr B) := fun W hW => by
  have hb := hW.other HX1.out rfl;exact ⟨by rw [cell_of_heap hb]; rfl, by rw [cell_of_heap hb]; rfl⟩
 have hDo : ∀ W, UnAt W L Un1 → Calls Tryz.prog 10 #[ptr cc, .iface 40 (ptr B), .int .i64 1, .agg (clR ax2), Pp.tx []] W (DoIs L ao2 UnP W) := fun W hW => by rw [Hcc.out]; exact aw_2 hW B
 have hBd : ∀ W, (Instr.build 47 ([(0, .int .i64 9)] : List (Nat × Value)).toArray).run Tryz.prog W = .ok (.agg (clR ax2)) W := fun W => by kernel_rfl
 unfold DoIs at hDo
 go_upto_region 5 with fail
 go_cut [6, 7, 8, 9] (fun p o2 o3 o4 wc => ∃ fb, p = ptr fb ∧ o2 = Pp.tx ao2.o ∧ o3 = .int .i64 ao2.k ∧ o4 = .bool ao2.w ∧ w1.drew.heap.size ≤ fb ∧ wc.heap[fb]? = some (.cells (reR ao2) 38) ∧ UnAt wc L UnP ∧ UT L.lo w1.drew wc)
 case first => as_aux_lemma =>
  refine wp_region_held_drew (S := fun w' => w'.cell? ⟨bb, 0, none⟩ = some (ptr cc) ∧ w'.cell? ⟨bb, 1, none⟩ = some (ptr B)) (by kernel_rfl) (hS _ (UT.refl _ _)) (fun hHeld => ?_);obtain ⟨w2b, hwb⟩ : ∃ V, V = w1.drew := ⟨_, rfl⟩
  have A0 : Hid (UnAt w2b L Un1) := by rw [hwb]; exact HA1.out.below (Di.drewN_below (w := w1) ⟨1, rfl⟩)
  rw [← hwb] at hS hHeld ⊢;have HWB := hid hwb;clear hwb;refine tkz [0, 1, 2, 3, 4, 5, 6, 7, 8] ?_
  iterate 9
   refine tkq (v := ?_) rfl (Or.inl ⟨by kernel_rfl, ?_⟩) ?_
   rotate_left
   ·(intro w hSw; (try dsimp only at hSw); go_simp) <;> with_reducible rfl
   (try simp only [Act.put, lq])
  refine tkw ?_;refine tkv 9 (.agg (clR ax2)) rfl (yieldsIf_build (by kernel_rfl) 47 [(0, .const (.int .i64 9))] rfl [(0, .int .i64 9)] rfl _ hBd) ?_
  (try simp only [Act.put, lq])
  obtain ⟨v0, hv0⟩ : ∃ V, V = w2b := ⟨_, rfl⟩
  have H0 : Hid (UT L.lo w2b v0) := by rw [hv0]; exact UT.refl _ _
  have A0' : Hid (UnAt v0 L Un1) := by rw [hv0]; exact A0.out
  rw [← hv0];clear hv0 A0 hBd;have A0 : Hid (UnAt v0 L Un1) := A0'.out;clear A0';refine wpAnyH_ready (rs := [10, 16]) (by kernel_rfl) (by simp) ?_;refine AllReadyH.cons rfl (fun K hK => ?_) (AllReadyH.cons rfl (fun K hK => ?_) (AllReadyH.nil))
  ·go_simp
   refine (hDo v0 A0.out).mono ?_;rintro e v1 ⟨rfl, ha, hu⟩;have H1 : Hid (UT L.lo w2b v1) := H0.out.trans hu;have A1 := hid ha;clear hu ha;refine hK.out _ _ (hS _ H1.out) (fun hHeld => ?_);clear hK K
   (try simp only [Act.put, lq])
   refine tkz [11, 12, 13, 14, 15] ?_
   iterate 5
    refine tkq (v := ?_) rfl (Or.inl ⟨by kernel_rfl, ?_⟩) ?_
    rotate_left
    ·(intro w hSw; (try dsimp only at hSw); go_simp) <;> with_reducible rfl
    (try simp only [Act.put, lq])
   refine tkw ?_
   refine rdy 16 rfl fun K hK => ?_
   refine step_alloc rfl 38 rfl (reR Ou.zero) ret_alloc ?_;obtain ⟨v2, hv⟩ : ∃ V, V = v1.alloc (.cells (reR Ou.zero) 38) := ⟨_, rfl⟩;obtain ⟨fb, hfb⟩ : ∃ k, k = v1.heap.size := ⟨_, rfl⟩
   have H2 : Hid (UT L.lo w2b v2) := by rw [hv]; exact H1.out.trans (UT.of_below (below_alloc v1 _))
   have A2 : Hid (UnAt v2 L UnP) := by rw [hv]; exact A1.out.below (below_alloc v1 _)
   have P2 : Hid (v2.heap[fb]? = some (.cells (reR Ou.zero) 38)) := by rw [hv, hfb]; exact heap_alloc_new _ _
   have HL : Hid (w2b.heap.size ≤ fb) := by rw [hfb]; exact H1.out.size
   rw [← hv, ← hfb];clear hv hfb;refine hK.out _ _ (hS _ H2.out) (fun hHeld => ?_);clear hK K
   (try simp only [Act.put, lq])
   refine rdy 17 rfl fun K hK => ?_
   refine step_store_row rfl 38 (.tmp 6) (.tmp 57) rfl fb (reR ao2) rfl rfl 38 (reR Ou.zero) P2.out reSize rfl (by simp [Value.oneCell']) ?_;have HQ : Hid ((v2.setRow fb (reR ao2)).heap[fb]? = some (.cells (reR ao2) 38)) := setRow_heap _ fb _ _ _ _ P2.out;have HE : Hid (UT L.lo w2b (v2.setRow fb (reR ao2))) := H2.out.far HL.out;have HAe : Hid (UnAt (v2.setRow fb (reR ao2)) L UnP) := A2.out.row P2.out rfl (by decide) (by decide);refine hK.out _ _ (hS _ HE.out) (fun hHeld => ?_);clear hK K
   (try simp only [Act.put, lq])
   refine tkz [18, 19, 20] ?_
   iterate 3
    refine tkq (v := ?_) rfl (Or.inl ⟨by kernel_rfl, ?_⟩) ?_
    rotate_left
    ·(intro w hSw; (try dsimp only at hSw); go_simp) <;> with_reducible rfl
    (try simp only [Act.put, lq])
   refine tkw ?_;refine wpAnyH_done (by kernel_rfl) ?_ _;clear hS hDo
   go_wp2_with fail
   go_meet
   case rel => exact ⟨fb, rfl, rfl, rfl, rfl, by rw [← HWB.out]; exact HL.out, HQ.out, HAe.out, by rw [← HWB.out]; exact HE.out⟩
  ·refine step_alloc rfl 38 rfl (reR Ou.zero) ret_alloc ?_
   obtain ⟨v1, hv⟩ : ∃ V, V = v0.alloc (.cells (reR Ou.zero) 38) := ⟨_, rfl⟩;obtain ⟨fb, hfb⟩ : ∃ k, k = v0.heap.size := ⟨_, rfl⟩
   have H1 : Hid (UT L.lo w2b v1) := by rw [hv]; exact H0.out.trans (UT.of_below (below_alloc v0 _))
   have A1 : Hid (UnAt v1 L Un1) := by rw [hv]; exact A0.out.below (below_alloc v0 _)
   have P1 : Hid (v1.heap[fb]? = some (.cells (reR Ou.zero) 38)) := by rw [hv, hfb]; exact heap_alloc_new _ _
   have HL : Hid (w2b.heap.size ≤ fb) := by rw [hfb]; exact H0.out.size
   rw [← hv, ← hfb];clear hv hfb;refine hK.out _ _ (hS _ H1.out) (fun hHeld => ?_);clear hK K
   (try simp only [Act.put, lq])
   refine rdy 10 rfl fun K hK => ?_
   go_simp;refine (hDo v1 A1.out).mono ?_;rintro e v2 ⟨rfl, ha, hu⟩;have H2 : Hid (UT L.lo w2b v2) := H1.out.trans hu;have A2 := hid ha;have P2 : Hid (v2.heap[fb]? = some (.cells (reR Ou.zero) 38)) := hu.other P1.out rfl;clear hu ha;refine hK.out _ _ (hS _ H2.out) (fun hHeld => ?_);clear hK K
   (try simp only [Act.put, lq])
   refine tkz [11, 12, 13, 14, 15] ?_
   iterate 5
    refine tkq (v := ?_) rfl (Or.inl ⟨by kernel_rfl, ?_⟩) ?_
    rotate_left
    ·(intro w hSw; (try dsimp only at hSw); go_simp) <;> with_reducible rfl
    (try simp only [Act.put, lq])
   refine tkw ?_
   refine rdy 17 rfl fun K hK => ?_
   refine step_store_row rfl 38 (.tmp 6) (.tmp 57) rfl fb (reR ao2) rfl rfl 38 (reR Ou.zero) P2.out reSize rfl (by simp [Value.oneCell']) ?_;have HQ : Hid ((v2.setRow fb (reR ao2)).heap[fb]? = some (.cells (reR ao2) 38)) := setRow_heap _ fb _ _ _ _ P2.out;have HE : Hid (UT L.lo w2b (v2.setRow fb (reR ao2))) := H2.out.far HL.out;have HAe : Hid (UnAt (v2.setRow fb (reR ao2)) L UnP) := A2.out.row P2.out rfl (by decide) (by decide);refine hK.out _ _ (hS _ HE.out) (fun hHeld => ?_);clear hK K
   (try simp only [Act.put, lq])
   refine tkz [18, 19, 20] ?_
   iterate 3
    refine tkq (v := ?_) rfl (Or.inl ⟨by kernel_rfl, ?_⟩) ?_
    rotate_left
    ·(intro w hSw; (try dsimp only at hSw); go_simp) <;> with_reducible rfl
    (try simp only [Act.put, lq])
   refine tkw ?_;refine wpAnyH_done (by kernel_rfl) ?_ _;clear hS hDo
   go_wp2_with fail
   go_meet
   case rel => exact ⟨fb, rfl, rfl, rfl, rfl, by rw [← HWB.out]; exact HL.out, HQ.out, HAe.out, by rw [← HWB.out]; exact HE.out⟩
 case rest =>
 obtain ⟨f2, rfl, rfl, rfl, rfl, hfb, hfr, hac, huc⟩ := hcut;obtain ⟨w2, hwn⟩ : ∃ V, V = wc := ⟨_, rfl⟩;rw [← hwn] at hfr hac huc ⊢;have hut : UT L.lo w1 w2 := (UT.of_below (Di.drewN_below (w := w1) ⟨1, rfl⟩)).trans huc;have HP2_2 := hid hfr;have HP1_2 : Hid (w2.heap[f1]? = some (.cells (reR ao1) 38)) := hut.other HP1_1.out rfl;have HX2 : Hid (w2.heap[bb]? = some (.cells #[ptr cc, ptr B, ptr x, ptr y] 43)) := hut.other HX1.out rfl;have HA2 := hid hac;have HO2 : Hid (Below w.heap.size w w2) := HO1.out.trans (hut.below HLo.out HO1.out.size);clear hwn wc hS hDo hBd hfb hfr hac huc hut HP1_1
 have hS : ∀ W, UT L.lo w2.drew W → W.cell? ⟨bb, 0, none⟩ = some (ptr cc) ∧ W.cell? ⟨bb, 1, none⟩ = some (ptr B) := fun W hW => by
  have hb := hW.other HX2.out rfl;exact ⟨by rw [cell_of_heap hb]; rfl, by rw [cell_of_heap hb]; rfl⟩
 have hDo : ∀ W, UnAt W L UnP → Calls Tryz.prog 10 #[ptr cc, .iface 40 (ptr B), .int .i64 1, .agg (clR ax3), Pp.tx []] W (DoIs L ao3 UnP3 W) := fun W hW => by rw [Hcc.out]; exact aw_3 hW B
 have hBd : ∀ W, (Instr.build 47 ([(0, .int .i64 7), (1, .int .u64 3), (3, .int .u64 5)] : List (Nat × Value)).toArray).run Tryz.prog W = .ok (.agg (clR ax3)) W := fun W => by kernel_rfl
 unfold DoIs at hDo
 go_upto_region 6 with fail
 go_cut [10, 11, 12, 13] (fun p o2 o3 o4 wc => ∃ fb, p = ptr fb ∧ o2 = Pp.tx ao3.o ∧ o3 = .int .i64 ao3.k ∧ o4 = .bool ao3.w ∧ w2.drew.heap.size ≤ fb ∧ wc.heap[fb]? = some (.cells (reR ao3) 38) ∧ UnAt wc L UnP3 ∧ UT L.lo w2.drew wc)
 case first => as_aux_lemma =>
  refine wp_region_held_drew (S := fun w' => w'.cell? ⟨bb, 0, none⟩ = some (ptr cc) ∧ w'.cell? ⟨bb, 1, none⟩ = some (ptr B)) (by kernel_rfl) (hS _ (UT.refl _ _)) (fun hHeld => ?_);obtain ⟨w3b, hwb⟩ : ∃ V, V = w2.drew := ⟨_, rfl⟩
  have A0 : Hid (UnAt w3b L UnP) := by rw [hwb]; exact HA2.out.below (Di.drewN_below (w := w2) ⟨1, rfl⟩)
  rw [← hwb] at hS hHeld ⊢;have HWB := hid hwb;clear hwb;refine tkz [0, 1, 2, 3, 4, 5, 6, 7, 8] ?_
  iterate 9
   refine tkq (v := ?_) rfl (Or.inl ⟨by kernel_rfl, ?_⟩) ?_
   rotate_left
   ·(intro w hSw; (try dsimp only at hSw); go_simp) <;> with_reducible rfl
   (try simp only [Act.put, lq])
  refine tkw ?_;refine tkv 9 (.agg (clR ax3)) rfl (yieldsIf_build (by kernel_rfl) 47 [(0, .const (.int .i64 7)), (1, .const (.int .u64 3)), (3, .const (.int .u64 5))] rfl [(0, .int .i64 7), (1, .int .u64 3), (3, .int .u64 5)] rfl _ hBd) ?_
  (try simp only [Act.put, lq])
  obtain ⟨v0, hv0⟩ : ∃ V, V = w3b := ⟨_, rfl⟩
  have H0 : Hid (UT L.lo w3b v0) := by rw [hv0]; exact UT.refl _ _
  have A0' : Hid (UnAt v0 L UnP) := by rw [hv0]; exact A0.out
  rw [← hv0];clear hv0 A0 hBd;have A0 : Hid (UnAt v0 L UnP) := A0'.out;clear A0';refine wpAnyH_ready (rs := [10, 16]) (by kernel_rfl) (by simp) ?_;refine AllReadyH.cons rfl (fun K hK => ?_) (AllReadyH.cons rfl (fun K hK => ?_) (AllReadyH.nil))
  ·go_simp
   refine (hDo v0 A0.out).mono ?_;rintro e v1 ⟨rfl, ha, hu⟩;have H1 : Hid (UT L.lo w3b v1) := H0.out.trans hu;have A1 := hid ha;clear hu ha;refine hK.out _ _ (hS _ H1.out) (fun hHeld => ?_);clear hK K
   (try simp only [Act.put, lq])
   refine tkz [11, 12, 13, 14, 15] ?_
   iterate 5
    refine tkq (v := ?_) rfl (Or.inl ⟨by kernel_rfl, ?_⟩) ?_
    rotate_left
    ·(intro w hSw; (try dsimp only at hSw); go_simp) <;> with_reducible rfl
    (try simp only [Act.put, lq])
   refine tkw ?_
   refine rdy 16 rfl fun K hK => ?_
   refine step_alloc rfl 38 rfl (reR Ou.zero) ret_alloc ?_;obtain ⟨v2, hv⟩ : ∃ V, V = v1.alloc (.cells (reR Ou.zero) 38) := ⟨_, rfl⟩;obtain ⟨fb, hfb⟩ : ∃ k, k = v1.heap.size := ⟨_, rfl⟩
   have H2 : Hid (UT L.lo w3b v2) := by rw [hv]; exact H1.out.trans (UT.of_below (below_alloc v1 _))
   have A2 : Hid (UnAt v2 L UnP3) := by rw [hv]; exact A1.out.below (below_alloc v1 _)
   have P2 : Hid (v2.heap[fb]? = some (.cells (reR Ou.zero) 38)) := by rw [hv, hfb]; exact heap_alloc_new _ _
   have HL : Hid (w3b.heap.size ≤ fb) := by rw [hfb]; exact H1.out.size
   rw [← hv, ← hfb];clear hv hfb;refine hK.out _ _ (hS _ H2.out) (fun hHeld => ?_);clear hK K
   (try simp only [Act.put, lq])
   refine rdy 17 rfl fun K hK => ?_
   refine step_store_row rfl 38 (.tmp 10) (.tmp 73) rfl fb (reR ao3) rfl rfl 38 (reR Ou.zero) P2.out reSize rfl (by simp [Value.oneCell']) ?_;have HQ : Hid ((v2.setRow fb (reR ao3)).heap[fb]? = some (.cells (reR ao3) 38)) := setRow_heap _ fb _ _ _ _ P2.out;have HE : Hid (UT L.lo w3b (v2.setRow fb (reR ao3))) := H2.out.far HL.out;have HAe : Hid (UnAt (v2.setRow fb (reR ao3)) L UnP3) := A2.out.row P2.out rfl (by decide) (by decide);refine hK.out _ _ (hS _ HE.out) (fun hHeld => ?_);clear hK K
   (try simp only [Act.put, lq])
   refine tkz [18, 19, 20] ?_
   iterate 3
    refine tkq (v := ?_) rfl (Or.inl ⟨by kernel_rfl, ?_⟩) ?_
    rotate_left
    ·(intro w hSw; (try dsimp only at hSw); go_simp) <;> with_reducible rfl
    (try simp only [Act.put, lq])
   refine tkw ?_;refine wpAnyH_done (by kernel_rfl) ?_ _;clear hS hDo
   go_wp2_with fail
   go_meet
   case rel => exact ⟨fb, rfl, rfl, rfl, rfl, by rw [← HWB.out]; exact HL.out, HQ.out, HAe.out, by rw [← HWB.out]; exact HE.out⟩
  ·refine step_alloc rfl 38 rfl (reR Ou.zero) ret_alloc ?_
   obtain ⟨v1, hv⟩ : ∃ V, V = v0.alloc (.cells (reR Ou.zero) 38) := ⟨_, rfl⟩;obtain ⟨fb, hfb⟩ : ∃ k, k = v0.heap.size := ⟨_, rfl⟩
   have H1 : Hid (UT L.lo w3b v1) := by rw [hv]; exact H0.out.trans (UT.of_below (below_alloc v0 _))
   have A1 : Hid (UnAt v1 L UnP) := by rw [hv]; exact A0.out.below (below_alloc v0 _)
   have P1 : Hid (v1.heap[fb]? = some (.cells (reR Ou.zero) 38)) := by rw [hv, hfb]; exact heap_alloc_new _ _
   have HL : Hid (w3b.heap.size ≤ fb) := by rw [hfb]; exact H0.out.size
   rw [← hv, ← hfb];clear hv hfb;refine hK.out _ _ (hS _ H1.out) (fun hHeld => ?_);clear hK K
   (try simp only [Act.put, lq])
   refine rdy 10 rfl fun K hK => ?_
   go_simp;refine (hDo v1 A1.out).mono ?_;rintro e v2 ⟨rfl, ha, hu⟩;have H2 : Hid (UT L.lo w3b v2) := H1.out.trans hu;have A2 := hid ha;have P2 : Hid (v2.heap[fb]? = some (.cells (reR Ou.zero) 38)) := hu.other P1.out rfl;clear hu ha;refine hK.out _ _ (hS _ H2.out) (fun hHeld => ?_);clear hK K
   (try simp only [Act.put, lq])
   refine tkz [11, 12, 13, 14, 15] ?_
   iterate 5
    refine tkq (v := ?_) rfl (Or.inl ⟨by kernel_rfl, ?_⟩) ?_
    rotate_left
    ·(intro w hSw; (try dsimp only at hSw); go_simp) <;> with_reducible rfl
    (try simp only [Act.put, lq])
   refine tkw ?_
   refine rdy 17 rfl fun K hK => ?_
   refine step_store_row rfl 38 (.tmp 10) (.tmp 73) rfl fb (reR ao3) rfl rfl 38 (reR Ou.zero) P2.out reSize rfl (by simp [Value.oneCell']) ?_;have HQ : Hid ((v2.setRow fb (reR ao3)).heap[fb]? = some (.cells (reR ao3) 38)) := setRow_heap _ fb _ _ _ _ P2.out;have HE : Hid (UT L.lo w3b (v2.setRow fb (reR ao3))) := H2.out.far HL.out;have HAe : Hid (UnAt (v2.setRow fb (reR ao3)) L UnP3) := A2.out.row P2.out rfl (by decide) (by decide);refine hK.out _ _ (hS _ HE.out) (fun hHeld => ?_);clear hK K
   (try simp only [Act.put, lq])
   refine tkz [18, 19, 20] ?_
   iterate 3
    refine tkq (v := ?_) rfl (Or.inl ⟨by kernel_rfl, ?_⟩) ?_
    rotate_left
    ·(intro w hSw; (try dsimp only at hSw); go_simp) <;> with_reducible rfl
    (try simp only [Act.put, lq])
   refine tkw ?_;refine wpAnyH_done (by kernel_rfl) ?_ _;clear hS hDo
   go_wp2_with fail
   go_meet
   case rel => exact ⟨fb, rfl, rfl, rfl, rfl, by rw [← HWB.out]; exact HL.out, HQ.out, HAe.out, by rw [← HWB.out]; exact HE.out⟩
 case rest =>
 obtain ⟨f3, rfl, rfl, rfl, rfl, hfb, hfr, hac, huc⟩ := hcut;obtain ⟨w3, hwn⟩ : ∃ V, V = wc := ⟨_, rfl⟩;rw [← hwn] at hfr hac huc ⊢;have hut : UT L.lo w2 w3 := (UT.of_below (Di.drewN_below (w := w2) ⟨1, rfl⟩)).trans huc;have HP3_3 := hid hfr;have HP1_3 : Hid (w3.heap[f1]? = some (.cells (reR ao1) 38)) := hut.other HP1_2.out rfl;have HP2_3 : Hid (w3.heap[f2]? = some (.cells (reR ao2) 38)) := hut.other HP2_2.out rfl;have HX3 : Hid (w3.heap[bb]? = some (.cells #[ptr cc, ptr B, ptr x, ptr y] 43)) := hut.other HX2.out rfl;have HA3 := hid hac;have HO3 : Hid (Below w.heap.size w w3) := HO2.out.trans (hut.below HLo.out HO2.out.size);clear hwn wc hS hDo hBd hfb hfr hac huc hut HP1_2 HP2_2
 have hS : ∀ W, UT L.lo w3.drew W → W.cell? ⟨bb, 0, none⟩ = some (ptr cc) ∧ W.cell? ⟨bb, 1, none⟩ = some (ptr B) := fun W hW => by
  have hb := hW.other HX3.out rfl;exact ⟨by rw [cell_of_heap hb]; rfl, by rw [cell_of_heap hb]; rfl⟩
 have hDo : ∀ W, UnAt W L UnP3 → Calls Tryz.prog 10 #[ptr cc, .iface 40 (ptr B), .int .i64 1, .agg (clR ax4), Pp.tx []] W (DoIs L ao4 UnP4 W) := fun W hW => by rw [Hcc.out]; exact aw_4 hW B
 have hBd : ∀ W, (Instr.build 47 ([(0, .int .i64 8), (1, .int .u64 4), (4, .string ⟨#[97, 98]⟩)] : List (Nat × Value)).toArray).run Tryz.prog W = .ok (.agg (clR ax4)) W := fun W => by kernel_rfl
 unfold DoIs at hDo
 go_upto_region 7 with fail
 go_cut [14, 15, 16, 17] (fun p o2 o3 o4 wc => ∃ fb, p = ptr fb ∧ o2 = Pp.tx ao4.o ∧ o3 = .int .i64 ao4.k ∧ o4 = .bool ao4.w ∧ w3.drew.heap.size ≤ fb ∧ wc.heap[fb]? = some (.cells (reR ao4) 38) ∧ UnAt wc L UnP4 ∧ UT L.lo w3.drew wc)
 case first => as_aux_lemma =>
  refine wp_region_held_drew (S := fun w' => w'.cell? ⟨bb, 0, none⟩ = some (ptr cc) ∧ w'.cell? ⟨bb, 1, none⟩ = some (ptr B)) (by kernel_rfl) (hS _ (UT.refl _ _)) (fun hHeld => ?_);obtain ⟨w4b, hwb⟩ : ∃ V, V = w3.drew := ⟨_, rfl⟩
  have A0 : Hid (UnAt w4b L UnP3) := by rw [hwb]; exact HA3.out.below (Di.drewN_below (w := w3) ⟨1, rfl⟩)
  rw [← hwb] at hS hHeld ⊢;have HWB := hid hwb;clear hwb;refine tkz [0, 1, 2, 3, 4, 5, 6, 7, 8] ?_
  iterate 9
   refine tkq (v := ?_) rfl (Or.inl ⟨by kernel_rfl, ?_⟩) ?_
   rotate_left
   ·(intro w hSw; (try dsimp only at hSw); go_simp) <;> with_reducible rfl
   (try simp only [Act.put, lq])
  refine tkw ?_;refine tkv 9 (.agg (clR ax4)) rfl (yieldsIf_build (by kernel_rfl) 47 [(0, .const (.int .i64 8)), (1, .const (.int .u64 4)), (4, .const (.string ⟨#[97, 98]⟩))] rfl [(0, .int .i64 8), (1, .int .u64 4), (4, .string ⟨#[97, 98]⟩)] rfl _ hBd) ?_
  (try simp only [Act.put, lq])
  obtain ⟨v0, hv0⟩ : ∃ V, V = w4b := ⟨_, rfl⟩
  have H0 : Hid (UT L.lo w4b v0) := by rw [hv0]; exact UT.refl _ _
  have A0' : Hid (UnAt v0 L UnP3) := by rw [hv0]; exact A0.out
  rw [← hv0];clear hv0 A0 hBd;have A0 : Hid (UnAt v0 L UnP3) := A0'.out;clear A0';refine wpAnyH_ready (rs := [10, 16]) (by kernel_rfl) (by simp) ?_;refine AllReadyH.cons rfl (fun K hK => ?_) (AllReadyH.cons rfl (fun K hK => ?_) (AllReadyH.nil))
  ·go_simp
   refine (hDo v0 A0.out).mono ?_;rintro e v1 ⟨rfl, ha, hu⟩;have H1 : Hid (UT L.lo w4b v1) := H0.out.trans hu;have A1 := hid ha;clear hu ha;refine hK.out _ _ (hS _ H1.out) (fun hHeld => ?_);clear hK K
   (try simp only [Act.put, lq])
   refine tkz [11, 12, 13, 14, 15] ?_
   iterate 5
    refine tkq (v := ?_) rfl (Or.inl ⟨by kernel_rfl, ?_⟩) ?_
    rotate_left
    ·(intro w hSw; (try dsimp only at hSw); go_simp) <;> with_reducible rfl
    (try simp only [Act.put, lq])
   refine tkw ?_
   refine rdy 16 rfl fun K hK => ?_
   refine step_alloc rfl 38 rfl (reR Ou.zero) ret_alloc ?_;obtain ⟨v2, hv⟩ : ∃ V, V = v1.alloc (.cells (reR Ou.zero) 38) := ⟨_, rfl⟩;obtain ⟨fb, hfb⟩ : ∃ k, k = v1.heap.size := ⟨_, rfl⟩
   have H2 : Hid (UT L.lo w4b v2) := by rw [hv]; exact H1.out.trans (UT.of_below (below_alloc v1 _))
   have A2 : Hid (UnAt v2 L UnP4) := by rw [hv]; exact A1.out.below (below_alloc v1 _)
   have P2 : Hid (v2.heap[fb]? = some (.cells (reR Ou.zero) 38)) := by rw [hv, hfb]; exact heap_alloc_new _ _
   have HL : Hid (w4b.heap.size ≤ fb) := by rw [hfb]; exact H1.out.size
   rw [← hv, ← hfb];clear hv hfb;refine hK.out _ _ (hS _ H2.out) (fun hHeld => ?_);clear hK K
   (try simp only [Act.put, lq])
   refine rdy 17 rfl fun K hK => ?_
   refine step_store_row rfl 38 (.tmp 14) (.tmp 89) rfl fb (reR ao4) rfl rfl 38 (reR Ou.zero) P2.out reSize rfl (by simp [Value.oneCell']) ?_;have HQ : Hid ((v2.setRow fb (reR ao4)).heap[fb]? = some (.cells (reR ao4) 38)) := setRow_heap _ fb _ _ _ _ P2.out;have HE : Hid (UT L.lo w4b (v2.setRow fb (reR ao4))) := H2.out.far HL.out;have HAe : Hid (UnAt (v2.setRow fb (reR ao4)) L UnP4) := A2.out.row P2.out rfl (by decide) (by decide);refine hK.out _ _ (hS _ HE.out) (fun hHeld => ?_);clear hK K
   (try simp only [Act.put, lq])
   refine tkz [18, 19, 20] ?_
   iterate 3
    refine tkq (v := ?_) rfl (Or.inl ⟨by kernel_rfl, ?_⟩) ?_
    rotate_left
    ·(intro w hSw; (try dsimp only at hSw); go_simp) <;> with_reducible rfl
    (try simp only [Act.put, lq])
   refine tkw ?_;refine wpAnyH_done (by kernel_rfl) ?_ _;clear hS hDo
   go_wp2_with fail
   go_meet
   case rel => exact ⟨fb, rfl, rfl, rfl, rfl, by rw [← HWB.out]; exact HL.out, HQ.out, HAe.out, by rw [← HWB.out]; exact HE.out⟩
  ·refine step_alloc rfl 38 rfl (reR Ou.zero) ret_alloc ?_
   obtain ⟨v1, hv⟩ : ∃ V, V = v0.alloc (.cells (reR Ou.zero) 38) := ⟨_, rfl⟩;obtain ⟨fb, hfb⟩ : ∃ k, k = v0.heap.size := ⟨_, rfl⟩
   have H1 : Hid (UT L.lo w4b v1) := by rw [hv]; exact H0.out.trans (UT.of_below (below_alloc v0 _))
   have A1 : Hid (UnAt v1 L UnP3) := by rw [hv]; exact A0.out.below (below_alloc v0 _)
   have P1 : Hid (v1.heap[fb]? = some (.cells (reR Ou.zero) 38)) := by rw [hv, hfb]; exact heap_alloc_new _ _
   have HL : Hid (w4b.heap.size ≤ fb) := by rw [hfb]; exact H0.out.size
   rw [← hv, ← hfb];clear hv hfb;refine hK.out _ _ (hS _ H1.out) (fun hHeld => ?_);clear hK K
   (try simp only [Act.put, lq])
   refine rdy 10 rfl fun K hK => ?_
   go_simp;refine (hDo v1 A1.out).mono ?_;rintro e v2 ⟨rfl, ha, hu⟩;have H2 : Hid (UT L.lo w4b v2) := H1.out.trans hu;have A2 := hid ha;have P2 : Hid (v2.heap[fb]? = some (.cells (reR Ou.zero) 38)) := hu.other P1.out rfl;clear hu ha;refine hK.out _ _ (hS _ H2.out) (fun hHeld => ?_);clear hK K
   (try simp only [Act.put, lq])
   refine tkz [11, 12, 13, 14, 15] ?_
   iterate 5
    refine tkq (v := ?_) rfl (Or.inl ⟨by kernel_rfl, ?_⟩) ?_
    rotate_left
    ·(intro w hSw; (try dsimp only at hSw); go_simp) <;> with_reducible rfl
    (try simp only [Act.put, lq])
   refine tkw ?_
   refine rdy 17 rfl fun K hK => ?_
   refine step_store_row rfl 38 (.tmp 14) (.tmp 89) rfl fb (reR ao4) rfl rfl 38 (reR Ou.zero) P2.out reSize rfl (by simp [Value.oneCell']) ?_;have HQ : Hid ((v2.setRow fb (reR ao4)).heap[fb]? = some (.cells (reR ao4) 38)) := setRow_heap _ fb _ _ _ _ P2.out;have HE : Hid (UT L.lo w4b (v2.setRow fb (reR ao4))) := H2.out.far HL.out;have HAe : Hid (UnAt (v2.setRow fb (reR ao4)) L UnP4) := A2.out.row P2.out rfl (by decide) (by decide);refine hK.out _ _ (hS _ HE.out) (fun hHeld => ?_);clear hK K
   (try simp only [Act.put, lq])
   refine tkz [18, 19, 20] ?_
   iterate 3
    refine tkq (v := ?_) rfl (Or.inl ⟨by kernel_rfl, ?_⟩) ?_
    rotate_left
    ·(intro w hSw; (try dsimp only at hSw); go_simp) <;> with_reducible rfl
    (try simp only [Act.put, lq])
   refine tkw ?_;refine wpAnyH_done (by kernel_rfl) ?_ _;clear hS hDo
   go_wp2_with fail
   go_meet
   case rel => exact ⟨fb, rfl, rfl, rfl, rfl, by rw [← HWB.out]; exact HL.out, HQ.out, HAe.out, by rw [← HWB.out]; exact HE.out⟩
 case rest =>
 obtain ⟨f4, rfl, rfl, rfl, rfl, hfb, hfr, hac, huc⟩ := hcut;obtain ⟨w4, hwn⟩ : ∃ V, V = wc := ⟨_, rfl⟩;rw [← hwn] at hfr hac huc ⊢;have hut : UT L.lo w3 w4 := (UT.of_below (Di.drewN_below (w := w3) ⟨1, rfl⟩)).trans huc;have HP4_4 := hid hfr;have HP1_4 : Hid (w4.heap[f1]? = some (.cells (reR ao1) 38)) := hut.other HP1_3.out rfl;have HP2_4 : Hid (w4.heap[f2]? = some (.cells (reR ao2) 38)) := hut.other HP2_3.out rfl;have HP3_4 : Hid (w4.heap[f3]? = some (.cells (reR ao3) 38)) := hut.other HP3_3.out rfl;have HX4 : Hid (w4.heap[bb]? = some (.cells #[ptr cc, ptr B, ptr x, ptr y] 43)) := hut.other HX3.out rfl;have HA4 := hid hac;have HO4 : Hid (Below w.heap.size w w4) := HO3.out.trans (hut.below HLo.out HO3.out.size);clear hwn wc hS hDo hBd hfb hfr hac huc hut HP1_3 HP2_3 HP3_3
 have hS : ∀ W, UT L.lo w4.drew W → W.cell? ⟨bb, 0, none⟩ = some (ptr cc) ∧ W.cell? ⟨bb, 1, none⟩ = some (ptr B) := fun W hW => by
  have hb := hW.other HX4.out rfl;exact ⟨by rw [cell_of_heap hb]; rfl, by rw [cell_of_heap hb]; rfl⟩
 have hDo : ∀ W, UnAt W L UnP4 → Calls Tryz.prog 10 #[ptr cc, .iface 40 (ptr B), .int .i64 1, .agg (clR ax3), Pp.tx []] W (DoIs L ao5 UnP5 W) := fun W hW => by rw [Hcc.out]; exact aw_5 hW B
 have hBd : ∀ W, (Instr.build 47 ([(0, .int .i64 7), (1, .int .u64 3), (3, .int .u64 5)] : List (Nat × Value)).toArray).run Tryz.prog W = .ok (.agg (clR ax3)) W := fun W => by kernel_rfl
 unfold DoIs at hDo
 go_upto_region 8 with fail
 go_cut [18, 19, 20, 21] (fun p o2 o3 o4 wc => ∃ fb, p = ptr fb ∧ o2 = Pp.tx ao5.o ∧ o3 = .int .i64 ao5.k ∧ o4 = .bool ao5.w ∧ w4.drew.heap.size ≤ fb ∧ wc.heap[fb]? = some (.cells (reR ao5) 38) ∧ UnAt wc L UnP5 ∧ UT L.lo w4.drew wc)
 case first => as_aux_lemma =>
  refine wp_region_held_drew (S := fun w' => w'.cell? ⟨bb, 0, none⟩ = some (ptr cc) ∧ w'.cell? ⟨bb, 1, none⟩ = some (ptr B)) (by kernel_rfl) (hS _ (UT.refl _ _)) (fun hHeld => ?_);obtain ⟨w5b, hwb⟩ : ∃ V, V = w4.drew := ⟨_, rfl⟩
  have A0 : Hid (UnAt w5b L UnP4) := by rw [hwb]; exact HA4.out.below (Di.drewN_below (w := w4) ⟨1, rfl⟩)
  rw [← hwb] at hS hHeld ⊢;have HWB := hid hwb;clear hwb;refine tkz [0, 1, 2, 3, 4, 5, 6, 7, 8] ?_
  iterate 9
   refine tkq (v := ?_) rfl (Or.inl ⟨by kernel_rfl, ?_⟩) ?_
   rotate_left
   ·(intro w hSw; (try dsimp only at hSw); go_simp) <;> with_reducible rfl
   (try simp only [Act.put, lq])
  refine tkw ?_;refine tkv 9 (.agg (clR ax3)) rfl (yieldsIf_build (by kernel_rfl) 47 [(0, .const (.int .i64 7)), (1, .const (.int .u64 3)), (3, .const (.int .u64 5))] rfl [(0, .int .i64 7), (1, .int .u64 3), (3, .int .u64 5)] rfl _ hBd) ?_
  (try simp only [Act.put, lq])
  obtain ⟨v0, hv0⟩ : ∃ V, V = w5b := ⟨_, rfl⟩
  have H0 : Hid (UT L.lo w5b v0) := by rw [hv0]; exact UT.refl _ _
  have A0' : Hid (UnAt v0 L UnP4) := by rw [hv0]; exact A0.out
  rw [← hv0];clear hv0 A0 hBd;have A0 : Hid (UnAt v0 L UnP4) := A0'.out;clear A0';refine wpAnyH_ready (rs := [10, 16]) (by kernel_rfl) (by simp) ?_;refine AllReadyH.cons rfl (fun K hK => ?_) (AllReadyH.cons rfl (fun K hK => ?_) (AllReadyH.nil))
  ·go_simp
   refine (hDo v0 A0.out).mono ?_;rintro e v1 ⟨rfl, ha, hu⟩;have H1 : Hid (UT L.lo w5b v1) := H0.out.trans hu;have A1 := hid ha;clear hu ha;refine hK.out _ _ (hS _ H1.out) (fun hHeld => ?_);clear hK K
   (try simp only [Act.put, lq])
   refine tkz [11, 12, 13, 14, 15] ?_
   iterate 5
    refine tkq (v := ?_) rfl (Or.inl ⟨by kernel_rfl, ?_⟩) ?_
    rotate_left
    ·(intro w hSw; (try dsimp only at hSw); go_simp) <;> with_reducible rfl
    (try simp only [Act.put, lq])
   refine tkw ?_
   refine rdy 16 rfl fun K hK => ?_
   refine step_alloc rfl 38 rfl (reR Ou.zero) ret_alloc ?_;obtain ⟨v2, hv⟩ : ∃ V, V = v1.alloc (.cells (reR Ou.zero) 38) := ⟨_, rfl⟩;obtain ⟨fb, hfb⟩ : ∃ k, k = v1.heap.size := ⟨_, rfl⟩
   have H2 : Hid (UT L.lo w5b v2) := by rw [hv]; exact H1.out.trans (UT.of_below (below_alloc v1 _))
   have A2 : Hid (UnAt v2 L UnP5) := by rw [hv]; exact A1.out.below (below_alloc v1 _)
   have P2 : Hid (v2.heap[fb]? = some (.cells (reR Ou.zero) 38)) := by rw [hv, hfb]; exact heap_alloc_new _ _
   have HL : Hid (w5b.heap.size ≤ fb) := by rw [hfb]; exact H1.out.size
   rw [← hv, ← hfb];clear hv hfb;refine hK.out _ _ (hS _ H2.out) (fun hHeld => ?_);clear hK K
   (try simp only [Act.put, lq])
   refine rdy 17 rfl fun K hK => ?_
   refine step_store_row rfl 38 (.tmp 18) (.tmp 105) rfl fb (reR ao5) rfl rfl 38 (reR Ou.zero) P2.out reSize rfl (by simp [Value.oneCell']) ?_;have HQ : Hid ((v2.setRow fb (reR ao5)).heap[fb]? = some (.cells (reR ao5) 38)) := setRow_heap _ fb _ _ _ _ P2.out;have HE : Hid (UT L.lo w5b (v2.setRow fb (reR ao5))) := H2.out.far HL.out;have HAe : Hid (UnAt (v2.setRow fb (reR ao5)) L UnP5) := A2.out.row P2.out rfl (by decide) (by decide);refine hK.out _ _ (hS _ HE.out) (fun hHeld => ?_);clear hK K
   (try simp only [Act.put, lq])
   refine tkz [18, 19, 20] ?_
   iterate 3
    refine tkq (v := ?_) rfl (Or.inl ⟨by kernel_rfl, ?_⟩) ?_
    rotate_left
    ·(intro w hSw; (try dsimp only at hSw); go_simp) <;> with_reducible rfl
    (try simp only [Act.put, lq])
   refine tkw ?_;refine wpAnyH_done (by kernel_rfl) ?_ _;clear hS hDo
   go_wp2_with fail
   go_meet
   case rel => exact ⟨fb, rfl, rfl, rfl, rfl, by rw [← HWB.out]; exact HL.out, HQ.out, HAe.out, by rw [← HWB.out]; exact HE.out⟩
  ·refine step_alloc rfl 38 rfl (reR Ou.zero) ret_alloc ?_
   obtain ⟨v1, hv⟩ : ∃ V, V = v0.alloc (.cells (reR Ou.zero) 38) := ⟨_, rfl⟩;obtain ⟨fb, hfb⟩ : ∃ k, k = v0.heap.size := ⟨_, rfl⟩
   have H1 : Hid (UT L.lo w5b v1) := by rw [hv]; exact H0.out.trans (UT.of_below (below_alloc v0 _))
   have A1 : Hid (UnAt v1 L UnP4) := by rw [hv]; exact A0.out.below (below_alloc v0 _)
   have P1 : Hid (v1.heap[fb]? = some (.cells (reR Ou.zero) 38)) := by rw [hv, hfb]; exact heap_alloc_new _ _
   have HL : Hid (w5b.heap.size ≤ fb) := by rw [hfb]; exact H0.out.size
   rw [← hv, ← hfb];clear hv hfb;refine hK.out _ _ (hS _ H1.out) (fun hHeld => ?_);clear hK K
   (try simp only [Act.put, lq])
   refine rdy 10 rfl fun K hK => ?_
   go_simp;refine (hDo v1 A1.out).mono ?_;rintro e v2 ⟨rfl, ha, hu⟩;have H2 : Hid (UT L.lo w5b v2) := H1.out.trans hu;have A2 := hid ha;have P2 : Hid (v2.heap[fb]? = some (.cells (reR Ou.zero) 38)) := hu.other P1.out rfl;clear hu ha;refine hK.out _ _ (hS _ H2.out) (fun hHeld => ?_);clear hK K
   (try simp only [Act.put, lq])
   refine tkz [11, 12, 13, 14, 15] ?_
   iterate 5
    refine tkq (v := ?_) rfl (Or.inl ⟨by kernel_rfl, ?_⟩) ?_
    rotate_left
    ·(intro w hSw; (try dsimp only at hSw); go_simp) <;> with_reducible rfl
    (try simp only [Act.put, lq])
   refine tkw ?_
   refine rdy 17 rfl fun K hK => ?_
   refine step_store_row rfl 38 (.tmp 18) (.tmp 105) rfl fb (reR ao5) rfl rfl 38 (reR Ou.zero) P2.out reSize rfl (by simp [Value.oneCell']) ?_;have HQ : Hid ((v2.setRow fb (reR ao5)).heap[fb]? = some (.cells (reR ao5) 38)) := setRow_heap _ fb _ _ _ _ P2.out;have HE : Hid (UT L.lo w5b (v2.setRow fb (reR ao5))) := H2.out.far HL.out;have HAe : Hid (UnAt (v2.setRow fb (reR ao5)) L UnP5) := A2.out.row P2.out rfl (by decide) (by decide);refine hK.out _ _ (hS _ HE.out) (fun hHeld => ?_);clear hK K
   (try simp only [Act.put, lq])
   refine tkz [18, 19, 20] ?_
   iterate 3
    refine tkq (v := ?_) rfl (Or.inl ⟨by kernel_rfl, ?_⟩) ?_
    rotate_left
    ·(intro w hSw; (try dsimp only at hSw); go_simp) <;> with_reducible rfl
    (try simp only [Act.put, lq])
   refine tkw ?_;refine wpAnyH_done (by kernel_rfl) ?_ _;clear hS hDo
   go_wp2_with fail
   go_meet
   case rel => exact ⟨fb, rfl, rfl, rfl, rfl, by rw [← HWB.out]; exact HL.out, HQ.out, HAe.out, by rw [← HWB.out]; exact HE.out⟩
 case rest =>
 obtain ⟨f5, rfl, rfl, rfl, rfl, hfb, hfr, hac, huc⟩ := hcut;obtain ⟨w5, hwn⟩ : ∃ V, V = wc := ⟨_, rfl⟩;rw [← hwn] at hfr hac huc ⊢;have hut : UT L.lo w4 w5 := (UT.of_below (Di.drewN_below (w := w4) ⟨1, rfl⟩)).trans huc;have HP5_5 := hid hfr;have HP1_5 : Hid (w5.heap[f1]? = some (.cells (reR ao1) 38)) := hut.other HP1_4.out rfl;have HP2_5 : Hid (w5.heap[f2]? = some (.cells (reR ao2) 38)) := hut.other HP2_4.out rfl;have HP3_5 : Hid (w5.heap[f3]? = some (.cells (reR ao3) 38)) := hut.other HP3_4.out rfl;have HP4_5 : Hid (w5.heap[f4]? = some (.cells (reR ao4) 38)) := hut.other HP4_4.out rfl;have HX5 : Hid (w5.heap[bb]? = some (.cells #[ptr cc, ptr B, ptr x, ptr y] 43)) := hut.other HX4.out rfl;have HA5 := hid hac;have HO5 : Hid (Below w.heap.size w w5) := HO4.out.trans (hut.below HLo.out HO4.out.size);clear hwn wc hS hDo hBd hfb hfr hac huc hut HP1_4 HP2_4 HP3_4 HP4_4
 have hS : ∀ W, UT L.lo w5.drew W → W.cell? ⟨bb, 0, none⟩ = some (ptr cc) ∧ W.cell? ⟨bb, 1, none⟩ = some (ptr B) := fun W hW => by
  have hb := hW.other HX5.out rfl;exact ⟨by rw [cell_of_heap hb]; rfl, by rw [cell_of_heap hb]; rfl⟩
 have hDo : ∀ W, UnAt W L UnP5 → Calls Tryz.prog 10 #[ptr cc, .iface 40 (ptr B), .int .i64 1, .agg (clR ax6), Pp.tx [120, 121, 122]] W (DoIs L ao6 UnP5 W) := fun W hW => by rw [Hcc.out]; exact aw_6 hW B
 have hBd : ∀ W, (Instr.build 47 ([(0, .int .i64 7), (1, .int .u64 0), (3, .int .u64 2)] : List (Nat × Value)).toArray).run Tryz.prog W = .ok (.agg (clR ax6)) W := fun W => by kernel_rfl
 unfold DoIs at hDo
 go_upto_region 9 with fail
 go_cut [22, 23, 24, 25] (fun p o2 o3 o4 wc => ∃ fb, p = ptr fb ∧ o2 = Pp.tx ao6.o ∧ o3 = .int .i64 ao6.k ∧ o4 = .bool ao6.w ∧ w5.drew.heap.size ≤ fb ∧ wc.heap[fb]? = some (.cells (reR ao6) 38) ∧ UnAt wc L UnP5 ∧ UT L.lo w5.drew wc)
 case first => as_aux_lemma =>
  refine wp_region_held_drew (S := fun w' => w'.cell? ⟨bb, 0, none⟩ = some (ptr cc) ∧ w'.cell? ⟨bb, 1, none⟩ = some (ptr B)) (by kernel_rfl) (hS _ (UT.refl _ _)) (fun hHeld => ?_);obtain ⟨w6b, hwb⟩ : ∃ V, V = w5.drew := ⟨_, rfl⟩
  have A0 : Hid (UnAt w6b L UnP5) := by rw [hwb]; exact HA5.out.below (Di.drewN_below (w := w5) ⟨1, rfl⟩)
  rw [← hwb] at hS hHeld ⊢;have HWB := hid hwb;clear hwb;refine tkz [0, 1, 2, 3, 4, 5, 6, 7, 8] ?_
  iterate 9
   refine tkq (v := ?_) rfl (Or.inl ⟨by kernel_rfl, ?_⟩) ?_
   rotate_left
   ·(intro w hSw; (try dsimp only at hSw); go_simp) <;> with_reducible rfl
   (try simp only [Act.put, lq])
  refine tkw ?_;refine tkv 9 (.agg (clR ax6)) rfl (yieldsIf_build (by kernel_rfl) 47 [(0, .const (.int .i64 7)), (1, .const (.int .u64 0)), (3, .const (.int .u64 2))] rfl [(0, .int .i64 7), (1, .int .u64 0), (3, .int .u64 2)] rfl _ hBd) ?_
  (try simp only [Act.put, lq])
  obtain ⟨v0, hv0⟩ : ∃ V, V = w6b := ⟨_, rfl⟩
  have H0 : Hid (UT L.lo w6b v0) := by rw [hv0]; exact UT.refl _ _
  have A0' : Hid (UnAt v0 L UnP5) := by rw [hv0]; exact A0.out
  rw [← hv0];clear hv0 A0 hBd;have A0 : Hid (UnAt v0 L UnP5) := A0'.out;clear A0';refine wpAnyH_ready (rs := [10, 16]) (by kernel_rfl) (by simp) ?_;refine AllReadyH.cons rfl (fun K hK => ?_) (AllReadyH.cons rfl (fun K hK => ?_) (AllReadyH.nil))
  ·go_simp
   refine (hDo v0 A0.out).mono ?_;rintro e v1 ⟨rfl, ha, hu⟩;have H1 : Hid (UT L.lo w6b v1) := H0.out.trans hu;have A1 := hid ha;clear hu ha;refine hK.out _ _ (hS _ H1.out) (fun hHeld => ?_);clear hK K
   (try simp only [Act.put, lq])
   refine tkz [11, 12, 13, 14, 15] ?_
   iterate 5
    refine tkq (v := ?_) rfl (Or.inl ⟨by kernel_rfl, ?_⟩) ?_
    rotate_left
    ·(intro w hSw; (try dsimp only at hSw); go_simp) <;> with_reducible rfl
    (try simp only [Act.put, lq])
   refine tkw ?_
   refine rdy 16 rfl fun K hK => ?_
   refine step_alloc rfl 38 rfl (reR Ou.zero) ret_alloc ?_;obtain ⟨v2, hv⟩ : ∃ V, V = v1.alloc (.cells (reR Ou.zero) 38) := ⟨_, rfl⟩;obtain ⟨fb, hfb⟩ : ∃ k, k = v1.heap.size := ⟨_, rfl⟩
   have H2 : Hid (UT L.lo w6b v2) := by rw [hv]; exact H1.out.trans (UT.of_below (below_alloc v1 _))
   have A2 : Hid (UnAt v2 L UnP5) := by rw [hv]; exact A1.out.below (below_alloc v1 _)
   have P2 : Hid (v2.heap[fb]? = some (.cells (reR Ou.zero) 38)) := by rw [hv, hfb]; exact heap_alloc_new _ _
   have HL : Hid (w6b.heap.size ≤ fb) := by rw [hfb]; exact H1.out.size
   rw [← hv, ← hfb];clear hv hfb;refine hK.out _ _ (hS _ H2.out) (fun hHeld => ?_);clear hK K
   (try simp only [Act.put, lq])
   refine rdy 17 rfl fun K hK => ?_
   refine step_store_row rfl 38 (.tmp 22) (.tmp 121) rfl fb (reR ao6) rfl rfl 38 (reR Ou.zero) P2.out reSize rfl (by simp [Value.oneCell']) ?_;have HQ : Hid ((v2.setRow fb (reR ao6)).heap[fb]? = some (.cells (reR ao6) 38)) := setRow_heap _ fb _ _ _ _ P2.out;have HE : Hid (UT L.lo w6b (v2.setRow fb (reR ao6))) := H2.out.far HL.out;have HAe : Hid (UnAt (v2.setRow fb (reR ao6)) L UnP5) := A2.out.row P2.out rfl (by decide) (by decide);refine hK.out _ _ (hS _ HE.out) (fun hHeld => ?_);clear hK K
   (try simp only [Act.put, lq])
   refine tkz [18, 19, 20] ?_
   iterate 3
    refine tkq (v := ?_) rfl (Or.inl ⟨by kernel_rfl, ?_⟩) ?_
    rotate_left
    ·(intro w hSw; (try dsimp only at hSw); go_simp) <;> with_reducible rfl
    (try simp only [Act.put, lq])
   refine tkw ?_;refine wpAnyH_done (by kernel_rfl) ?_ _;clear hS hDo
   go_wp2_with fail
   go_meet
   case rel => exact ⟨fb, rfl, rfl, rfl, rfl, by rw [← HWB.out]; exact HL.out, HQ.out, HAe.out, by rw [← HWB.out]; exact HE.out⟩
  ·refine step_alloc rfl 38 rfl (reR Ou.zero) ret_alloc ?_
   obtain ⟨v1, hv⟩ : ∃ V, V = v0.alloc (.cells (reR Ou.zero) 38) := ⟨_, rfl⟩;obtain ⟨fb, hfb⟩ : ∃ k, k = v0.heap.size := ⟨_, rfl⟩
   have H1 : Hid (UT L.lo w6b v1) := by rw [hv]; exact H0.out.trans (UT.of_below (below_alloc v0 _))
   have A1 : Hid (UnAt v1 L UnP5) := by rw [hv]; exact A0.out.below (below_alloc v0 _)
   have P1 : Hid (v1.heap[fb]? = some (.cells (reR Ou.zero) 38)) := by rw [hv, hfb]; exact heap_alloc_new _ _
   have HL : Hid (w6b.heap.size ≤ fb) := by rw [hfb]; exact H0.out.size
   rw [← hv, ← hfb];clear hv hfb;refine hK.out _ _ (hS _ H1.out) (fun hHeld => ?_);clear hK K
   (try simp only [Act.put, lq])
   refine rdy 10 rfl fun K hK => ?_
   go_simp;refine (hDo v1 A1.out).mono ?_;rintro e v2 ⟨rfl, ha, hu⟩;have H2 : Hid (UT L.lo w6b v2) := H1.out.trans hu;have A2 := hid ha;have P2 : Hid (v2.heap[fb]? = some (.cells (reR Ou.zero) 38)) := hu.other P1.out rfl;clear hu ha;refine hK.out _ _ (hS _ H2.out) (fun hHeld => ?_);clear hK K
   (try simp only [Act.put, lq])
   refine tkz [11, 12, 13, 14, 15] ?_
   iterate 5
    refine tkq (v := ?_) rfl (Or.inl ⟨by kernel_rfl, ?_⟩) ?_
    rotate_left
    ·(intro w hSw; (try dsimp only at hSw); go_simp) <;> with_reducible rfl
    (try simp only [Act.put, lq])
   refine tkw ?_
   refine rdy 17 rfl fun K hK => ?_
   refine step_store_row rfl 38 (.tmp 22) (.tmp 121) rfl fb (reR ao6) rfl rfl 38 (reR Ou.zero) P2.out reSize rfl (by simp [Value.oneCell']) ?_;have HQ : Hid ((v2.setRow fb (reR ao6)).heap[fb]? = some (.cells (reR ao6) 38)) := setRow_heap _ fb _ _ _ _ P2.out;have HE : Hid (UT L.lo w6b (v2.setRow fb (reR ao6))) := H2.out.far HL.out;have HAe : Hid (UnAt (v2.setRow fb (reR ao6)) L UnP5) := A2.out.row P2.out rfl (by decide) (by decide);refine hK.out _ _ (hS _ HE.out) (fun hHeld => ?_);clear hK K
   (try simp only [Act.put, lq])
   refine tkz [18, 19, 20] ?_
   iterate 3
    refine tkq (v := ?_) rfl (Or.inl ⟨by kernel_rfl, ?_⟩) ?_
    rotate_left
    ·(intro w hSw; (try dsimp only at hSw); go_simp) <;> with_reducible rfl
    (try simp only [Act.put, lq])
   refine tkw ?_;refine wpAnyH_done (by kernel_rfl) ?_ _;clear hS hDo
   go_wp2_with fail
   go_meet
   case rel => exact ⟨fb, rfl, rfl, rfl, rfl, by rw [← HWB.out]; exact HL.out, HQ.out, HAe.out, by rw [← HWB.out]; exact HE.out⟩
 case rest =>
 obtain ⟨f6, rfl, rfl, rfl, rfl, hfb, hfr, hac, huc⟩ := hcut;obtain ⟨w6, hwn⟩ : ∃ V, V = wc := ⟨_, rfl⟩;rw [← hwn] at hfr hac huc ⊢;have hut : UT L.lo w5 w6 := (UT.of_below (Di.drewN_below (w := w5) ⟨1, rfl⟩)).trans huc;have HP6_6 := hid hfr;have HP1_6 : Hid (w6.heap[f1]? = some (.cells (reR ao1) 38)) := hut.other HP1_5.out rfl;have HP2_6 : Hid (w6.heap[f2]? = some (.cells (reR ao2) 38)) := hut.other HP2_5.out rfl;have HP3_6 : Hid (w6.heap[f3]? = some (.cells (reR ao3) 38)) := hut.other HP3_5.out rfl;have HP4_6 : Hid (w6.heap[f4]? = some (.cells (reR ao4) 38)) := hut.other HP4_5.out rfl;have HP5_6 : Hid (w6.heap[f5]? = some (.cells (reR ao5) 38)) := hut.other HP5_5.out rfl;have HX6 : Hid (w6.heap[bb]? = some (.cells #[ptr cc, ptr B, ptr x, ptr y] 43)) := hut.other HX5.out rfl;have HA6 := hid hac;have HO6 : Hid (Below w.heap.size w w6) := HO5.out.trans (hut.below HLo.out HO5.out.size);clear hwn wc hS hDo hBd hfb hfr hac huc hut HP1_5 HP2_5 HP3_5 HP4_5 HP5_5
 have hS : w6.cell? ⟨bb, 0, none⟩ = some (ptr cc) := by rw [cell_of_heap HX6.out]; rfl
 have d1 : w6.cell? ⟨f1, 0, none⟩ = some (.int .i64 2) := by rw [cell_of_heap HP1_6.out]; rfl
 have d2 : w6.cell? ⟨f2, 3, none⟩ = some (.int .i64 3) := by rw [cell_of_heap HP2_6.out]; rfl
 have d3 : w6.cell? ⟨f2, 4, none⟩ = some (.int .i64 4) := by rw [cell_of_heap HP2_6.out]; rfl
 have d4 : w6.cell? ⟨f4, 0, none⟩ = some (.int .i64 2) := by rw [cell_of_heap HP4_6.out]; rfl
 have d5 : w6.cell? ⟨f5, 0, none⟩ = some (.int .i64 2) := by rw [cell_of_heap HP5_6.out]; rfl
 have d6 : w6.cell? ⟨f5, 2, none⟩ = some (.string ⟨#[97, 98]⟩) := by rw [cell_of_heap HP5_6.out]; rfl
 have d7 : w6.cell? ⟨f6, 2, none⟩ = some (.string ⟨#[120, 121]⟩) := by rw [cell_of_heap HP6_6.out]; rfl
 have q1 : ao1.o = [104, 105] := rfl;have q2 : ao3.w = true := rfl;have q3 : ao5.w = false := rfl;have q4 : ao6.k = 2 := rfl
 have s1 : ((⟨#[104, 105]⟩ : ByteArray) == ⟨#[104, 105]⟩) = true := by decide
 have s2 : ((⟨#[97, 98]⟩ : ByteArray) == ⟨#[97, 98]⟩) = true := by decide
 have s3 : ((⟨#[120, 121]⟩ : ByteArray) == ⟨#[120, 121]⟩) = true := by decide
 have hT : ∀ W, (binOp .eql 36 (.agg #[.int .i64 3, .int .i64 4]) (.agg #[.int .i64 3, .int .i64 4])).run Tryz.prog W = .ok (.bool true) W := fun W => by kernel_rfl
 have hLv := ulive_at HA6.out 1;rw [← Hcc.out, show Pc.liv UnP5.T 1 = true from by kernel_rfl] at hLv;have hPi := pids_at HA6.out;rw [← Hcc.out, show Pc.lstF UnP5.T (fun p => !p.zom) = [1] from by kernel_rfl] at hPi
 go_wp2_with fail
 refine hLv.mono ?_;rintro e v1 ⟨rfl, hw⟩;rw [hw];clear hw v1 hLv
 go_wp2_with fail
 refine hPi.mono ?_;rintro e v1 ⟨a, cap, rfl, hr, hb⟩;have HR1 : Hid (Ow.IRow v1 a [1] ∧ Below w6.heap.size w6 v1) := ⟨hr, hb⟩;clear hPi hr hb
 go_wp2_with fail
 obtain ⟨V, hV⟩ : ∃ V, V = v1.alloc (.cells #[.int .i64 1] 3) := ⟨_, rfl⟩;rw [← hV]
 have hbV : Below v1.heap.size v1 V := by rw [hV]; exact below_alloc _ _
 have hI := Ow.ints_same [1] a (some ⟨v1.heap.size, 0, none⟩) cap 1 V (HR1.out.1.below hbV) (fun j x hx => ⟨v1.heap.size, 0, rfl, by
   rw [hV, Nat.zero_add, cell_of_heap (heap_alloc_new _ _)]
   match j, hx with
   | 0, hx => simp at hx; rw [← hx]; rfl
   | j + 1, hx => simp at hx⟩) (by simp)
 have HBV : Hid (Below w.heap.size w V) := HO6.out.trans ((HR1.out.2.trans (hbV.mono HR1.out.2.size)).mono HO6.out.size);clear hV hbV;refine hI.mono ?_;rintro e v2 ⟨rfl, hb2⟩;have HB2 : Hid (Below w.heap.size w v2) := HBV.out.trans (hb2.mono HBV.out.size);clear hI hb2;go_wp2;go_ret;exact ⟨rfl, HB2.out⟩
end Go.Proofs.YtinaeifpoljfoaaGreatDoor
