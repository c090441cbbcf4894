/- januslaw22: the walk of UnixKills. -/
import Derived.Test.YtnlhedpfhgoncabGreatDoorUxLTKilM22
import Derived.Test.YtnlhedpfhgoncabGreatDoorUxS
import Derived.Deep.DeepCutAuto
set_option linter.all false
namespace Go.Proofs.YtnlhedpfhgoncabGreatDoor
open Go.RowKit
set_option maxHeartbeats 8000000 in
set_option maxRecDepth 100000 in
theorem kills_walk (pid sig : Int) (h1 : 0 ≤ pid) (h2 : 0 ≤ sig) (w : World) : Calls Tryz.prog 4 #[.int .u64 pid, .int .u64 sig] w fun e w' => e = .returned (.bool true) ∧ Below w.heap.size w w' := by
  have hB := lbegin_at 40 w (by omega) (by omega)
  obtain ⟨o, U', hk⟩ := kl_at pid sig h1 h2
  have HK : Hid (KlIs pid sig o U') := hk
  have HN : Hid (0 ≤ sig) := h2
  clear hk h1 h2
  go_enter Tryz.func4, Tryz.ntmps4
  go_wp2_with fail
  refine hB.mono ?_
  rintro e w0 ⟨bb, L, B, G, x, y, rfl, hbg⟩
  have hbe := both_eq bb
  have HX0' : Hid (w0.heap[bb]? = some (.cells #[ptr L.c, ptr B, ptr x, ptr y] 38)) := hbg.box
  have HA0 : Hid (UnAt w0 L Un1) := hbg.un
  have HO0 : Hid (Below w.heap.size w w0) := hbg.old
  have HLo : Hid (w.heap.size ≤ L.lo) := hbg.lo
  clear hB hbg
  obtain ⟨cc, hcc⟩ : ∃ c, c = L.c := ⟨_, rfl⟩
  rw [← hcc] at HX0'
  have HX0 := HX0'
  have Hcc : Hid (cc = L.c) := hcc
  clear hcc HX0'
  have hS : ∀ W, UT L.lo w0.drew W → W.cell? ⟨bb, 0, none⟩ = some (ptr cc) ∧ W.cell? ⟨bb, 1, none⟩ = some (ptr B) := fun W hW => by
    have hb := hW.other HX0.out rfl
    exact ⟨by rw [cell_of_heap hb]; rfl, by rw [cell_of_heap hb]; rfl⟩
  have hDo : ∀ W, UnAt W L Un1 → Calls Tryz.prog 7 #[ptr cc, .iface 34 (ptr B), .int .i64 1, .agg (clR axF), Pp.tx []] W (DoIs L aoF UnK W) := fun W hW => by rw [Hcc.out]; exact kl_fork hW B
  have hBd : ∀ W, (Instr.build 42 ([(0, .int .i64 2)] : List (Nat × Value)).toArray).run Tryz.prog W = .ok (.agg (clR axF)) W := fun W => by kernel_rfl
  unfold DoIs at hDo
  go_upto_region 4 with fail
  go_cut [6, 7, 8, 9] (fun p o2 o3 o4 wc => ∃ fb, p = ptr fb ∧ o2 = Pp.tx (aoF).o ∧ o3 = .int .i64 (aoF).k ∧ o4 = .bool (aoF).w ∧ w0.drew.heap.size ≤ fb ∧ wc.heap[fb]? = some (.cells (reR aoF) 31) ∧ UnAt wc L UnK ∧ UT L.lo w0.drew wc)
  case first => as_aux_lemma =>
    refine wp_region_held_drew (S := fun w' => w'.cell? ⟨bb, 0, none⟩ = some (ptr cc) ∧ w'.cell? ⟨bb, 1, none⟩ = some (ptr B)) (by kernel_rfl) (hS _ (UT.refl _ _)) (fun hHeld => ?_)
    obtain ⟨wb1, hwb⟩ : ∃ V, V = w0.drew := ⟨_, rfl⟩
    have A0 : Hid (UnAt wb1 L Un1) := by rw [hwb]; exact HA0.out.below (Di.drewN_below (w := w0) ⟨1, rfl⟩)
    rw [← hwb] at hS hHeld ⊢
    have HWB : Hid (wb1 = w0.drew) := hwb
    clear hwb
    refine wpAnyH_take (i := 0) (v := ?_) rfl (by kernel_rfl) (by kernel_rfl) (by kernel_rfl) (fun _ _ _ h => h) (Or.inl ⟨by kernel_rfl, ?_⟩) (by assumption) ?_
    rotate_left
    · (intro w hSw; (try dsimp only at hSw); go_simp) <;> with_reducible rfl
    (try simp only [Act.put, List.getElem_toArray, List.getElem_cons_zero, List.setIfInBounds_toArray, List.set_cons_zero, List.set_cons_succ])
    refine wpAnyH_take (i := 1) (v := ?_) rfl (by kernel_rfl) (by kernel_rfl) (by kernel_rfl) (fun _ _ _ h => h) (Or.inl ⟨by kernel_rfl, ?_⟩) (by assumption) ?_
    rotate_left
    · (intro w hSw; (try dsimp only at hSw); go_simp) <;> with_reducible rfl
    (try simp only [Act.put, List.getElem_toArray, List.getElem_cons_zero, List.getElem_cons_succ, List.setIfInBounds_toArray, List.set_cons_zero, List.set_cons_succ])
    refine wpAnyH_take (i := 2) (v := ?_) rfl (by kernel_rfl) (by kernel_rfl) (by kernel_rfl) (fun _ _ _ h => h) (Or.inl ⟨by kernel_rfl, ?_⟩) (by assumption) ?_
    rotate_left
    · (intro w hSw; (try dsimp only at hSw); go_simp) <;> with_reducible rfl
    (try simp only [Act.put, List.getElem_toArray, List.getElem_cons_zero, List.getElem_cons_succ, List.setIfInBounds_toArray, List.set_cons_zero, List.set_cons_succ])
    refine wpAnyH_take (i := 3) (v := ?_) rfl (by kernel_rfl) (by kernel_rfl) (by kernel_rfl) (fun _ _ _ h => h) (Or.inl ⟨by kernel_rfl, ?_⟩) (by assumption) ?_
    rotate_left
    · (intro w hSw; (try dsimp only at hSw); go_simp) <;> with_reducible rfl
    (try simp only [Act.put, List.getElem_toArray, List.getElem_cons_zero, List.getElem_cons_succ, List.setIfInBounds_toArray, List.set_cons_zero, List.set_cons_succ])
    refine wpAnyH_take (i := 4) (v := ?_) rfl (by kernel_rfl) (by kernel_rfl) (by kernel_rfl) (fun _ _ _ h => h) (Or.inl ⟨by kernel_rfl, ?_⟩) (by assumption) ?_
    rotate_left
    · (intro w hSw; (try dsimp only at hSw); go_simp) <;> with_reducible rfl
    (try simp only [Act.put, List.getElem_toArray, List.getElem_cons_zero, List.getElem_cons_succ, List.setIfInBounds_toArray, List.set_cons_zero, List.set_cons_succ])
    refine wpAnyH_take (i := 5) (v := ?_) rfl (by kernel_rfl) (by kernel_rfl) (by kernel_rfl) (fun _ _ _ h => h) (Or.inl ⟨by kernel_rfl, ?_⟩) (by assumption) ?_
    rotate_left
    · (intro w hSw; (try dsimp only at hSw); go_simp) <;> with_reducible rfl
    (try simp only [Act.put, List.getElem_toArray, List.getElem_cons_zero, List.getElem_cons_succ, List.setIfInBounds_toArray, List.set_cons_zero, List.set_cons_succ])
    refine wpAnyH_take (i := 6) (v := ?_) rfl (by kernel_rfl) (by kernel_rfl) (by kernel_rfl) (fun _ _ _ h => h) (Or.inl ⟨by kernel_rfl, ?_⟩) (by assumption) ?_
    rotate_left
    · (intro w hSw; (try dsimp only at hSw); go_simp) <;> with_reducible rfl
    (try simp only [Act.put, List.getElem_toArray, List.getElem_cons_zero, List.getElem_cons_succ, List.setIfInBounds_toArray, List.set_cons_zero, List.set_cons_succ])
    refine wpAnyH_take (i := 7) (v := ?_) rfl (by kernel_rfl) (by kernel_rfl) (by kernel_rfl) (fun _ _ _ h => h) (Or.inl ⟨by kernel_rfl, ?_⟩) (by assumption) ?_
    rotate_left
    · (intro w hSw; (try dsimp only at hSw); go_simp) <;> with_reducible rfl
    (try simp only [Act.put, List.getElem_toArray, List.getElem_cons_zero, List.getElem_cons_succ, List.setIfInBounds_toArray, List.set_cons_zero, List.set_cons_succ])
    refine wpAnyH_take (i := 8) (v := ?_) rfl (by kernel_rfl) (by kernel_rfl) (by kernel_rfl) (fun _ _ _ h => h) (Or.inl ⟨by kernel_rfl, ?_⟩) (by assumption) ?_
    rotate_left
    · (intro w hSw; (try dsimp only at hSw); go_simp) <;> with_reducible rfl
    (try simp only [Act.put, List.getElem_toArray, List.getElem_cons_zero, List.getElem_cons_succ, List.setIfInBounds_toArray, List.set_cons_zero, List.set_cons_succ])
    refine wpAnyH_take (i := 9) (v := .agg (clR axF)) rfl (by kernel_rfl) (by kernel_rfl) (by kernel_rfl) (fun _ _ _ h => h) (yieldsIf_build (by kernel_rfl) 42 [(0, .const (.int .i64 2))] rfl [(0, .int .i64 2)] rfl _ hBd) (by assumption) ?_
    (try simp only [Act.put, List.getElem_toArray, List.getElem_cons_zero, List.getElem_cons_succ, List.setIfInBounds_toArray, List.set_cons_zero, List.set_cons_succ])
    obtain ⟨v0, hv0⟩ : ∃ V, V = wb1 := ⟨_, rfl⟩
    have H0 : Hid (UT L.lo wb1 v0) := by rw [hv0]; exact UT.refl _ _
    have A0' : Hid (UnAt v0 L Un1) := by rw [hv0]; exact A0.out
    rw [← hv0]
    clear hv0 A0 hBd
    have A0 : Hid (UnAt v0 L Un1) := A0'.out
    clear A0'
    refine wpAnyH_ready (rs := [10, 16]) (by kernel_rfl) (by simp) ?_
    refine AllReadyH.cons rfl (fun K hK => ?_) (AllReadyH.cons rfl (fun K hK => ?_) (AllReadyH.nil))
    · go_simp
      refine (hDo v0 A0.out).mono ?_
      rintro e v1 ⟨rfl, ha, hu⟩
      have H1 : Hid (UT L.lo wb1 v1) := H0.out.trans hu
      have A1 : Hid (UnAt v1 L UnK) := ha
      clear hu ha
      refine hK.out _ _ (hS _ H1.out) (fun hHeld => ?_)
      clear hK K
      (try simp only [Act.put, List.getElem_toArray, List.getElem_cons_zero, List.getElem_cons_succ, List.setIfInBounds_toArray, List.set_cons_zero, List.set_cons_succ])
      refine wpAnyH_take (i := 11) (v := ?_) rfl (by kernel_rfl) (by kernel_rfl) (by kernel_rfl) (fun _ _ _ h => h) (Or.inl ⟨by kernel_rfl, ?_⟩) (by assumption) ?_
      rotate_left
      · (intro w hSw; (try dsimp only at hSw); go_simp) <;> with_reducible rfl
      (try simp only [Act.put, List.getElem_toArray, List.getElem_cons_zero, List.getElem_cons_succ, List.setIfInBounds_toArray, List.set_cons_zero, List.set_cons_succ])
      refine wpAnyH_take (i := 12) (v := ?_) rfl (by kernel_rfl) (by kernel_rfl) (by kernel_rfl) (fun _ _ _ h => h) (Or.inl ⟨by kernel_rfl, ?_⟩) (by assumption) ?_
      rotate_left
      · (intro w hSw; (try dsimp only at hSw); go_simp) <;> with_reducible rfl
      (try simp only [Act.put, List.getElem_toArray, List.getElem_cons_zero, List.getElem_cons_succ, List.setIfInBounds_toArray, List.set_cons_zero, List.set_cons_succ])
      refine wpAnyH_take (i := 13) (v := ?_) rfl (by kernel_rfl) (by kernel_rfl) (by kernel_rfl) (fun _ _ _ h => h) (Or.inl ⟨by kernel_rfl, ?_⟩) (by assumption) ?_
      rotate_left
      · (intro w hSw; (try dsimp only at hSw); go_simp) <;> with_reducible rfl
      (try simp only [Act.put, List.getElem_toArray, List.getElem_cons_zero, List.getElem_cons_succ, List.setIfInBounds_toArray, List.set_cons_zero, List.set_cons_succ])
      refine wpAnyH_take (i := 14) (v := ?_) rfl (by kernel_rfl) (by kernel_rfl) (by kernel_rfl) (fun _ _ _ h => h) (Or.inl ⟨by kernel_rfl, ?_⟩) (by assumption) ?_
      rotate_left
      · (intro w hSw; (try dsimp only at hSw); go_simp) <;> with_reducible rfl
      (try simp only [Act.put, List.getElem_toArray, List.getElem_cons_zero, List.getElem_cons_succ, List.setIfInBounds_toArray, List.set_cons_zero, List.set_cons_succ])
      refine wpAnyH_take (i := 15) (v := ?_) rfl (by kernel_rfl) (by kernel_rfl) (by kernel_rfl) (fun _ _ _ h => h) (Or.inl ⟨by kernel_rfl, ?_⟩) (by assumption) ?_
      rotate_left
      · (intro w hSw; (try dsimp only at hSw); go_simp) <;> with_reducible rfl
      (try simp only [Act.put, List.getElem_toArray, List.getElem_cons_zero, List.getElem_cons_succ, List.setIfInBounds_toArray, List.set_cons_zero, List.set_cons_succ])
      refine wpAnyH_ready (rs := [16]) (by kernel_rfl) (by simp) ?_
      refine AllReadyH.cons rfl (fun K hK => ?_) (AllReadyH.nil)
      refine step_alloc rfl 31 rfl (reR Ou.zero) ret_alloc ?_
      obtain ⟨v2, hv⟩ : ∃ V, V = v1.alloc (.cells (reR Ou.zero) 31) := ⟨_, rfl⟩
      obtain ⟨fb, hfb⟩ : ∃ k, k = v1.heap.size := ⟨_, rfl⟩
      have H2 : Hid (UT L.lo wb1 v2) := by rw [hv]; exact H1.out.trans (UT.of_below (below_alloc v1 _))
      have A2 : Hid (UnAt v2 L UnK) := by rw [hv]; exact A1.out.below (below_alloc v1 _)
      have P2 : Hid (v2.heap[fb]? = some (.cells (reR Ou.zero) 31)) := by rw [hv, hfb]; exact heap_alloc_new _ _
      have HL : Hid (wb1.heap.size ≤ fb) := by rw [hfb]; exact H1.out.size
      rw [← hv, ← hfb]
      clear hv hfb
      refine hK.out _ _ (hS _ H2.out) (fun hHeld => ?_)
      clear hK K
      (try simp only [Act.put, List.getElem_toArray, List.getElem_cons_zero, List.getElem_cons_succ, List.setIfInBounds_toArray, List.set_cons_zero, List.set_cons_succ])
      refine wpAnyH_ready (rs := [17]) (by kernel_rfl) (by simp) ?_
      refine AllReadyH.cons rfl (fun K hK => ?_) (AllReadyH.nil)
      refine step_store_row rfl 31 (.tmp 6) (.tmp 35) rfl fb (reR aoF) rfl rfl 31 (reR Ou.zero) P2.out reSize rfl (by simp [Value.oneCell']) ?_
      have HQ : Hid ((v2.setRow fb (reR aoF)).heap[fb]? = some (.cells (reR aoF) 31)) := setRow_heap _ fb _ _ _ _ P2.out
      have HE : Hid (UT L.lo wb1 (v2.setRow fb (reR aoF))) := H2.out.far HL.out
      have HAe : Hid (UnAt (v2.setRow fb (reR aoF)) L UnK) := A2.out.row P2.out rfl (by decide) (by decide)
      refine hK.out _ _ (hS _ HE.out) (fun hHeld => ?_)
      clear hK K
      (try simp only [Act.put, List.getElem_toArray, List.getElem_cons_zero, List.getElem_cons_succ, List.setIfInBounds_toArray, List.set_cons_zero, List.set_cons_succ])
      refine wpAnyH_take (i := 18) (v := ?_) rfl (by kernel_rfl) (by kernel_rfl) (by kernel_rfl) (fun _ _ _ h => h) (Or.inl ⟨by kernel_rfl, ?_⟩) (by assumption) ?_
      rotate_left
      · (intro w hSw; (try dsimp only at hSw); go_simp) <;> with_reducible rfl
      (try simp only [Act.put, List.getElem_toArray, List.getElem_cons_zero, List.getElem_cons_succ, List.setIfInBounds_toArray, List.set_cons_zero, List.set_cons_succ])
      refine wpAnyH_take (i := 19) (v := ?_) rfl (by kernel_rfl) (by kernel_rfl) (by kernel_rfl) (fun _ _ _ h => h) (Or.inl ⟨by kernel_rfl, ?_⟩) (by assumption) ?_
      rotate_left
      · (intro w hSw; (try dsimp only at hSw); go_simp) <;> with_reducible rfl
      (try simp only [Act.put, List.getElem_toArray, List.getElem_cons_zero, List.getElem_cons_succ, List.setIfInBounds_toArray, List.set_cons_zero, List.set_cons_succ])
      refine wpAnyH_take (i := 20) (v := ?_) rfl (by kernel_rfl) (by kernel_rfl) (by kernel_rfl) (fun _ _ _ h => h) (Or.inl ⟨by kernel_rfl, ?_⟩) (by assumption) ?_
      rotate_left
      · (intro w hSw; (try dsimp only at hSw); go_simp) <;> with_reducible rfl
      (try simp only [Act.put, List.getElem_toArray, List.getElem_cons_zero, List.getElem_cons_succ, List.setIfInBounds_toArray, List.set_cons_zero, List.set_cons_succ])
      refine wpAnyH_done (by kernel_rfl) ?_ _
      clear hS hDo
      go_wp2_with fail
      go_meet
      case rel => exact ⟨fb, rfl, rfl, rfl, rfl, by rw [← HWB.out]; exact HL.out, HQ.out, HAe.out, by rw [← HWB.out]; exact HE.out⟩
    · refine step_alloc rfl 31 rfl (reR Ou.zero) ret_alloc ?_
      obtain ⟨v1, hv⟩ : ∃ V, V = v0.alloc (.cells (reR Ou.zero) 31) := ⟨_, rfl⟩
      obtain ⟨fb, hfb⟩ : ∃ k, k = v0.heap.size := ⟨_, rfl⟩
      have H1 : Hid (UT L.lo wb1 v1) := by rw [hv]; exact H0.out.trans (UT.of_below (below_alloc v0 _))
      have A1 : Hid (UnAt v1 L Un1) := by rw [hv]; exact A0.out.below (below_alloc v0 _)
      have P1 : Hid (v1.heap[fb]? = some (.cells (reR Ou.zero) 31)) := by rw [hv, hfb]; exact heap_alloc_new _ _
      have HL : Hid (wb1.heap.size ≤ fb) := by rw [hfb]; exact H0.out.size
      rw [← hv, ← hfb]
      clear hv hfb
      refine hK.out _ _ (hS _ H1.out) (fun hHeld => ?_)
      clear hK K
      (try simp only [Act.put, List.getElem_toArray, List.getElem_cons_zero, List.getElem_cons_succ, List.setIfInBounds_toArray, List.set_cons_zero, List.set_cons_succ])
      refine wpAnyH_ready (rs := [10]) (by kernel_rfl) (by simp) ?_
      refine AllReadyH.cons rfl (fun K hK => ?_) (AllReadyH.nil)
      go_simp
      refine (hDo v1 A1.out).mono ?_
      rintro e v2 ⟨rfl, ha, hu⟩
      have H2 : Hid (UT L.lo wb1 v2) := H1.out.trans hu
      have A2 : Hid (UnAt v2 L UnK) := ha
      have P2 : Hid (v2.heap[fb]? = some (.cells (reR Ou.zero) 31)) := hu.other P1.out rfl
      clear hu ha
      refine hK.out _ _ (hS _ H2.out) (fun hHeld => ?_)
      clear hK K
      (try simp only [Act.put, List.getElem_toArray, List.getElem_cons_zero, List.getElem_cons_succ, List.setIfInBounds_toArray, List.set_cons_zero, List.set_cons_succ])
      refine wpAnyH_take (i := 11) (v := ?_) rfl (by kernel_rfl) (by kernel_rfl) (by kernel_rfl) (fun _ _ _ h => h) (Or.inl ⟨by kernel_rfl, ?_⟩) (by assumption) ?_
      rotate_left
      · (intro w hSw; (try dsimp only at hSw); go_simp) <;> with_reducible rfl
      (try simp only [Act.put, List.getElem_toArray, List.getElem_cons_zero, List.getElem_cons_succ, List.setIfInBounds_toArray, List.set_cons_zero, List.set_cons_succ])
      refine wpAnyH_take (i := 12) (v := ?_) rfl (by kernel_rfl) (by kernel_rfl) (by kernel_rfl) (fun _ _ _ h => h) (Or.inl ⟨by kernel_rfl, ?_⟩) (by assumption) ?_
      rotate_left
      · (intro w hSw; (try dsimp only at hSw); go_simp) <;> with_reducible rfl
      (try simp only [Act.put, List.getElem_toArray, List.getElem_cons_zero, List.getElem_cons_succ, List.setIfInBounds_toArray, List.set_cons_zero, List.set_cons_succ])
      refine wpAnyH_take (i := 13) (v := ?_) rfl (by kernel_rfl) (by kernel_rfl) (by kernel_rfl) (fun _ _ _ h => h) (Or.inl ⟨by kernel_rfl, ?_⟩) (by assumption) ?_
      rotate_left
      · (intro w hSw; (try dsimp only at hSw); go_simp) <;> with_reducible rfl
      (try simp only [Act.put, List.getElem_toArray, List.getElem_cons_zero, List.getElem_cons_succ, List.setIfInBounds_toArray, List.set_cons_zero, List.set_cons_succ])
      refine wpAnyH_take (i := 14) (v := ?_) rfl (by kernel_rfl) (by kernel_rfl) (by kernel_rfl) (fun _ _ _ h => h) (Or.inl ⟨by kernel_rfl, ?_⟩) (by assumption) ?_
      rotate_left
      · (intro w hSw; (try dsimp only at hSw); go_simp) <;> with_reducible rfl
      (try simp only [Act.put, List.getElem_toArray, List.getElem_cons_zero, List.getElem_cons_succ, List.setIfInBounds_toArray, List.set_cons_zero, List.set_cons_succ])
      refine wpAnyH_take (i := 15) (v := ?_) rfl (by kernel_rfl) (by kernel_rfl) (by kernel_rfl) (fun _ _ _ h => h) (Or.inl ⟨by kernel_rfl, ?_⟩) (by assumption) ?_
      rotate_left
      · (intro w hSw; (try dsimp only at hSw); go_simp) <;> with_reducible rfl
      (try simp only [Act.put, List.getElem_toArray, List.getElem_cons_zero, List.getElem_cons_succ, List.setIfInBounds_toArray, List.set_cons_zero, List.set_cons_succ])
      refine wpAnyH_ready (rs := [17]) (by kernel_rfl) (by simp) ?_
      refine AllReadyH.cons rfl (fun K hK => ?_) (AllReadyH.nil)
      refine step_store_row rfl 31 (.tmp 6) (.tmp 35) rfl fb (reR aoF) rfl rfl 31 (reR Ou.zero) P2.out reSize rfl (by simp [Value.oneCell']) ?_
      have HQ : Hid ((v2.setRow fb (reR aoF)).heap[fb]? = some (.cells (reR aoF) 31)) := setRow_heap _ fb _ _ _ _ P2.out
      have HE : Hid (UT L.lo wb1 (v2.setRow fb (reR aoF))) := H2.out.far HL.out
      have HAe : Hid (UnAt (v2.setRow fb (reR aoF)) L UnK) := A2.out.row P2.out rfl (by decide) (by decide)
      refine hK.out _ _ (hS _ HE.out) (fun hHeld => ?_)
      clear hK K
      (try simp only [Act.put, List.getElem_toArray, List.getElem_cons_zero, List.getElem_cons_succ, List.setIfInBounds_toArray, List.set_cons_zero, List.set_cons_succ])
      refine wpAnyH_take (i := 18) (v := ?_) rfl (by kernel_rfl) (by kernel_rfl) (by kernel_rfl) (fun _ _ _ h => h) (Or.inl ⟨by kernel_rfl, ?_⟩) (by assumption) ?_
      rotate_left
      · (intro w hSw; (try dsimp only at hSw); go_simp) <;> with_reducible rfl
      (try simp only [Act.put, List.getElem_toArray, List.getElem_cons_zero, List.getElem_cons_succ, List.setIfInBounds_toArray, List.set_cons_zero, List.set_cons_succ])
      refine wpAnyH_take (i := 19) (v := ?_) rfl (by kernel_rfl) (by kernel_rfl) (by kernel_rfl) (fun _ _ _ h => h) (Or.inl ⟨by kernel_rfl, ?_⟩) (by assumption) ?_
      rotate_left
      · (intro w hSw; (try dsimp only at hSw); go_simp) <;> with_reducible rfl
      (try simp only [Act.put, List.getElem_toArray, List.getElem_cons_zero, List.getElem_cons_succ, List.setIfInBounds_toArray, List.set_cons_zero, List.set_cons_succ])
      refine wpAnyH_take (i := 20) (v := ?_) rfl (by kernel_rfl) (by kernel_rfl) (by kernel_rfl) (fun _ _ _ h => h) (Or.inl ⟨by kernel_rfl, ?_⟩) (by assumption) ?_
      rotate_left
      · (intro w hSw; (try dsimp only at hSw); go_simp) <;> with_reducible rfl
      (try simp only [Act.put, List.getElem_toArray, List.getElem_cons_zero, List.getElem_cons_succ, List.setIfInBounds_toArray, List.set_cons_zero, List.set_cons_succ])
      refine wpAnyH_done (by kernel_rfl) ?_ _
      clear hS hDo
      go_wp2_with fail
      go_meet
      case rel => exact ⟨fb, rfl, rfl, rfl, rfl, by rw [← HWB.out]; exact HL.out, HQ.out, HAe.out, by rw [← HWB.out]; exact HE.out⟩
  case rest =>
  obtain ⟨f1, rfl, rfl, rfl, rfl, hfb, hfr, hac, huc⟩ := hcut
  obtain ⟨w1, hwn⟩ : ∃ V, V = wc := ⟨_, rfl⟩
  rw [← hwn] at hfr hac huc ⊢
  have hut : UT L.lo w0 w1 := (UT.of_below (Di.drewN_below (w := w0) ⟨1, rfl⟩)).trans huc
  have HP1_1 : Hid (w1.heap[f1]? = some (.cells (reR aoF) 31)) := hfr
  have HX1 : Hid (w1.heap[bb]? = some (.cells #[ptr cc, ptr B, ptr x, ptr y] 38)) := hut.other HX0.out rfl
  have HA1 : Hid (UnAt w1 L UnK) := hac
  have HO1 : Hid (Below w.heap.size w w1) := HO0.out.trans (hut.below HLo.out HO0.out.size)
  clear hwn wc hS hDo hBd hfb hfr hac huc hut  
  have hS : ∀ W, UT L.lo w1.drew W → W.cell? ⟨bb, 0, none⟩ = some (ptr cc) ∧ W.cell? ⟨bb, 1, none⟩ = some (ptr B) := fun W hW => by
    have hb := hW.other HX1.out rfl
    exact ⟨by rw [cell_of_heap hb]; rfl, by rw [cell_of_heap hb]; rfl⟩
  have hDo : ∀ W, UnAt W L UnK → Calls Tryz.prog 7 #[ptr cc, .iface 34 (ptr B), .int .i64 1, .agg (clR (⟨15, pid, sig, 0, [], []⟩ : Cl)), Pp.tx []] W (DoIs L o U' W) := fun W hW => by rw [Hcc.out]; exact HK.out.does W L hW B
  have hBd : ∀ W, (Instr.build 42 ([(0, .int .i64 15), (1, .int .u64 pid), (2, .int .u64 sig)] : List (Nat × Value)).toArray).run Tryz.prog W = .ok (.agg (clR (⟨15, pid, sig, 0, [], []⟩ : Cl))) W := fun W => by kernel_rfl
  unfold DoIs at hDo
  have e0 : w1.cell? ⟨f1, 0, none⟩ = some (.int .i64 2) := by rw [cell_of_heap HP1_1.out]; rfl
  go_upto_region 7 with fail
  go_cut [10, 11, 12, 13] (fun p o2 o3 o4 wc => ∃ fb, p = ptr fb ∧ o2 = Pp.tx (o).o ∧ o3 = .int .i64 (o).k ∧ o4 = .bool (o).w ∧ w1.drew.heap.size ≤ fb ∧ wc.heap[fb]? = some (.cells (reR o) 31) ∧ UnAt wc L U' ∧ UT L.lo w1.drew wc)
  case first => as_aux_lemma =>
    refine wp_region_held_drew (S := fun w' => w'.cell? ⟨bb, 0, none⟩ = some (ptr cc) ∧ w'.cell? ⟨bb, 1, none⟩ = some (ptr B)) (by kernel_rfl) (hS _ (UT.refl _ _)) (fun hHeld => ?_)
    obtain ⟨wb2, hwb⟩ : ∃ V, V = w1.drew := ⟨_, rfl⟩
    have A0 : Hid (UnAt wb2 L UnK) := by rw [hwb]; exact HA1.out.below (Di.drewN_below (w := w1) ⟨1, rfl⟩)
    rw [← hwb] at hS hHeld ⊢
    have HWB : Hid (wb2 = w1.drew) := hwb
    clear hwb
    refine wpAnyH_take (i := 0) (v := ?_) rfl (by kernel_rfl) (by kernel_rfl) (by kernel_rfl) (fun _ _ _ h => h) (Or.inl ⟨by kernel_rfl, ?_⟩) (by assumption) ?_
    rotate_left
    · (intro w hSw; (try dsimp only at hSw); go_simp) <;> with_reducible rfl
    (try simp only [Act.put, List.getElem_toArray, List.getElem_cons_zero, List.setIfInBounds_toArray, List.set_cons_zero, List.set_cons_succ])
    refine wpAnyH_take (i := 1) (v := ?_) rfl (by kernel_rfl) (by kernel_rfl) (by kernel_rfl) (fun _ _ _ h => h) (Or.inl ⟨by kernel_rfl, ?_⟩) (by assumption) ?_
    rotate_left
    · (intro w hSw; (try dsimp only at hSw); go_simp) <;> with_reducible rfl
    (try simp only [Act.put, List.getElem_toArray, List.getElem_cons_zero, List.getElem_cons_succ, List.setIfInBounds_toArray, List.set_cons_zero, List.set_cons_succ])
    refine wpAnyH_take (i := 2) (v := ?_) rfl (by kernel_rfl) (by kernel_rfl) (by kernel_rfl) (fun _ _ _ h => h) (Or.inl ⟨by kernel_rfl, ?_⟩) (by assumption) ?_
    rotate_left
    · (intro w hSw; (try dsimp only at hSw); go_simp) <;> with_reducible rfl
    (try simp only [Act.put, List.getElem_toArray, List.getElem_cons_zero, List.getElem_cons_succ, List.setIfInBounds_toArray, List.set_cons_zero, List.set_cons_succ])
    refine wpAnyH_take (i := 3) (v := ?_) rfl (by kernel_rfl) (by kernel_rfl) (by kernel_rfl) (fun _ _ _ h => h) (Or.inl ⟨by kernel_rfl, ?_⟩) (by assumption) ?_
    rotate_left
    · (intro w hSw; (try dsimp only at hSw); go_simp) <;> with_reducible rfl
    (try simp only [Act.put, List.getElem_toArray, List.getElem_cons_zero, List.getElem_cons_succ, List.setIfInBounds_toArray, List.set_cons_zero, List.set_cons_succ])
    refine wpAnyH_take (i := 4) (v := ?_) rfl (by kernel_rfl) (by kernel_rfl) (by kernel_rfl) (fun _ _ _ h => h) (Or.inl ⟨by kernel_rfl, ?_⟩) (by assumption) ?_
    rotate_left
    · (intro w hSw; (try dsimp only at hSw); go_simp) <;> with_reducible rfl
    (try simp only [Act.put, List.getElem_toArray, List.getElem_cons_zero, List.getElem_cons_succ, List.setIfInBounds_toArray, List.set_cons_zero, List.set_cons_succ])
    refine wpAnyH_take (i := 5) (v := ?_) rfl (by kernel_rfl) (by kernel_rfl) (by kernel_rfl) (fun _ _ _ h => h) (Or.inl ⟨by kernel_rfl, ?_⟩) (by assumption) ?_
    rotate_left
    · (intro w hSw; (try dsimp only at hSw); go_simp) <;> with_reducible rfl
    (try simp only [Act.put, List.getElem_toArray, List.getElem_cons_zero, List.getElem_cons_succ, List.setIfInBounds_toArray, List.set_cons_zero, List.set_cons_succ])
    refine wpAnyH_take (i := 6) (v := ?_) rfl (by kernel_rfl) (by kernel_rfl) (by kernel_rfl) (fun _ _ _ h => h) (Or.inl ⟨by kernel_rfl, ?_⟩) (by assumption) ?_
    rotate_left
    · (intro w hSw; (try dsimp only at hSw); go_simp) <;> with_reducible rfl
    (try simp only [Act.put, List.getElem_toArray, List.getElem_cons_zero, List.getElem_cons_succ, List.setIfInBounds_toArray, List.set_cons_zero, List.set_cons_succ])
    refine wpAnyH_take (i := 7) (v := ?_) rfl (by kernel_rfl) (by kernel_rfl) (by kernel_rfl) (fun _ _ _ h => h) (Or.inl ⟨by kernel_rfl, ?_⟩) (by assumption) ?_
    rotate_left
    · (intro w hSw; (try dsimp only at hSw); go_simp) <;> with_reducible rfl
    (try simp only [Act.put, List.getElem_toArray, List.getElem_cons_zero, List.getElem_cons_succ, List.setIfInBounds_toArray, List.set_cons_zero, List.set_cons_succ])
    refine wpAnyH_take (i := 8) (v := ?_) rfl (by kernel_rfl) (by kernel_rfl) (by kernel_rfl) (fun _ _ _ h => h) (Or.inl ⟨by kernel_rfl, ?_⟩) (by assumption) ?_
    rotate_left
    · (intro w hSw; (try dsimp only at hSw); go_simp) <;> with_reducible rfl
    (try simp only [Act.put, List.getElem_toArray, List.getElem_cons_zero, List.getElem_cons_succ, List.setIfInBounds_toArray, List.set_cons_zero, List.set_cons_succ])
    refine wpAnyH_take (i := 9) (v := ?_) rfl (by kernel_rfl) (by kernel_rfl) (by kernel_rfl) (fun _ _ _ h => h) (Or.inl ⟨by kernel_rfl, ?_⟩) (by assumption) ?_
    rotate_left
    · (intro w hSw; (try dsimp only at hSw); go_simp) <;> with_reducible rfl
    (try simp only [Act.put, List.getElem_toArray, List.getElem_cons_zero, List.getElem_cons_succ, List.setIfInBounds_toArray, List.set_cons_zero, List.set_cons_succ])
    refine wpAnyH_take (i := 10) (v := ?_) rfl (by kernel_rfl) (by kernel_rfl) (by kernel_rfl) (fun _ _ _ h => h) (Or.inl ⟨by kernel_rfl, ?_⟩) (by assumption) ?_
    rotate_left
    · (intro w hSw; (try dsimp only at hSw); go_simp) <;> with_reducible rfl
    (try simp only [Act.put, List.getElem_toArray, List.getElem_cons_zero, List.getElem_cons_succ, List.setIfInBounds_toArray, List.set_cons_zero, List.set_cons_succ])
    refine wpAnyH_take (i := 11) (v := .agg (clR (⟨15, pid, sig, 0, [], []⟩ : Cl))) rfl (by kernel_rfl) (by kernel_rfl) (by kernel_rfl) (fun _ _ _ h => h) (yieldsIf_build (by kernel_rfl) 42 [(0, .const (.int .i64 15)), (1, .tmp 52), (2, .tmp 53)] rfl [(0, .int .i64 15), (1, .int .u64 pid), (2, .int .u64 sig)] rfl _ hBd) (by assumption) ?_
    (try simp only [Act.put, List.getElem_toArray, List.getElem_cons_zero, List.getElem_cons_succ, List.setIfInBounds_toArray, List.set_cons_zero, List.set_cons_succ])
    obtain ⟨v0, hv0⟩ : ∃ V, V = wb2 := ⟨_, rfl⟩
    have H0 : Hid (UT L.lo wb2 v0) := by rw [hv0]; exact UT.refl _ _
    have A0' : Hid (UnAt v0 L UnK) := by rw [hv0]; exact A0.out
    rw [← hv0]
    clear hv0 A0 hBd
    have A0 : Hid (UnAt v0 L UnK) := A0'.out
    clear A0'
    refine wpAnyH_ready (rs := [12, 18]) (by kernel_rfl) (by simp) ?_
    refine AllReadyH.cons rfl (fun K hK => ?_) (AllReadyH.cons rfl (fun K hK => ?_) (AllReadyH.nil))
    · go_simp
      refine (hDo v0 A0.out).mono ?_
      rintro e v1 ⟨rfl, ha, hu⟩
      have H1 : Hid (UT L.lo wb2 v1) := H0.out.trans hu
      have A1 : Hid (UnAt v1 L U') := ha
      clear hu ha
      refine hK.out _ _ (hS _ H1.out) (fun hHeld => ?_)
      clear hK K
      (try simp only [Act.put, List.getElem_toArray, List.getElem_cons_zero, List.getElem_cons_succ, List.setIfInBounds_toArray, List.set_cons_zero, List.set_cons_succ])
      refine wpAnyH_take (i := 13) (v := ?_) rfl (by kernel_rfl) (by kernel_rfl) (by kernel_rfl) (fun _ _ _ h => h) (Or.inl ⟨by kernel_rfl, ?_⟩) (by assumption) ?_
      rotate_left
      · (intro w hSw; (try dsimp only at hSw); go_simp) <;> with_reducible rfl
      (try simp only [Act.put, List.getElem_toArray, List.getElem_cons_zero, List.getElem_cons_succ, List.setIfInBounds_toArray, List.set_cons_zero, List.set_cons_succ])
      refine wpAnyH_take (i := 14) (v := ?_) rfl (by kernel_rfl) (by kernel_rfl) (by kernel_rfl) (fun _ _ _ h => h) (Or.inl ⟨by kernel_rfl, ?_⟩) (by assumption) ?_
      rotate_left
      · (intro w hSw; (try dsimp only at hSw); go_simp) <;> with_reducible rfl
      (try simp only [Act.put, List.getElem_toArray, List.getElem_cons_zero, List.getElem_cons_succ, List.setIfInBounds_toArray, List.set_cons_zero, List.set_cons_succ])
      refine wpAnyH_take (i := 15) (v := ?_) rfl (by kernel_rfl) (by kernel_rfl) (by kernel_rfl) (fun _ _ _ h => h) (Or.inl ⟨by kernel_rfl, ?_⟩) (by assumption) ?_
      rotate_left
      · (intro w hSw; (try dsimp only at hSw); go_simp) <;> with_reducible rfl
      (try simp only [Act.put, List.getElem_toArray, List.getElem_cons_zero, List.getElem_cons_succ, List.setIfInBounds_toArray, List.set_cons_zero, List.set_cons_succ])
      refine wpAnyH_take (i := 16) (v := ?_) rfl (by kernel_rfl) (by kernel_rfl) (by kernel_rfl) (fun _ _ _ h => h) (Or.inl ⟨by kernel_rfl, ?_⟩) (by assumption) ?_
      rotate_left
      · (intro w hSw; (try dsimp only at hSw); go_simp) <;> with_reducible rfl
      (try simp only [Act.put, List.getElem_toArray, List.getElem_cons_zero, List.getElem_cons_succ, List.setIfInBounds_toArray, List.set_cons_zero, List.set_cons_succ])
      refine wpAnyH_take (i := 17) (v := ?_) rfl (by kernel_rfl) (by kernel_rfl) (by kernel_rfl) (fun _ _ _ h => h) (Or.inl ⟨by kernel_rfl, ?_⟩) (by assumption) ?_
      rotate_left
      · (intro w hSw; (try dsimp only at hSw); go_simp) <;> with_reducible rfl
      (try simp only [Act.put, List.getElem_toArray, List.getElem_cons_zero, List.getElem_cons_succ, List.setIfInBounds_toArray, List.set_cons_zero, List.set_cons_succ])
      refine wpAnyH_ready (rs := [18]) (by kernel_rfl) (by simp) ?_
      refine AllReadyH.cons rfl (fun K hK => ?_) (AllReadyH.nil)
      refine step_alloc rfl 31 rfl (reR Ou.zero) ret_alloc ?_
      obtain ⟨v2, hv⟩ : ∃ V, V = v1.alloc (.cells (reR Ou.zero) 31) := ⟨_, rfl⟩
      obtain ⟨fb, hfb⟩ : ∃ k, k = v1.heap.size := ⟨_, rfl⟩
      have H2 : Hid (UT L.lo wb2 v2) := by rw [hv]; exact H1.out.trans (UT.of_below (below_alloc v1 _))
      have A2 : Hid (UnAt v2 L U') := by rw [hv]; exact A1.out.below (below_alloc v1 _)
      have P2 : Hid (v2.heap[fb]? = some (.cells (reR Ou.zero) 31)) := by rw [hv, hfb]; exact heap_alloc_new _ _
      have HL : Hid (wb2.heap.size ≤ fb) := by rw [hfb]; exact H1.out.size
      rw [← hv, ← hfb]
      clear hv hfb
      refine hK.out _ _ (hS _ H2.out) (fun hHeld => ?_)
      clear hK K
      (try simp only [Act.put, List.getElem_toArray, List.getElem_cons_zero, List.getElem_cons_succ, List.setIfInBounds_toArray, List.set_cons_zero, List.set_cons_succ])
      refine wpAnyH_ready (rs := [19]) (by kernel_rfl) (by simp) ?_
      refine AllReadyH.cons rfl (fun K hK => ?_) (AllReadyH.nil)
      refine step_store_row rfl 31 (.tmp 10) (.tmp 56) rfl fb (reR o) rfl rfl 31 (reR Ou.zero) P2.out reSize rfl (by simp [Value.oneCell']) ?_
      have HQ : Hid ((v2.setRow fb (reR o)).heap[fb]? = some (.cells (reR o) 31)) := setRow_heap _ fb _ _ _ _ P2.out
      have HE : Hid (UT L.lo wb2 (v2.setRow fb (reR o))) := H2.out.far HL.out
      have HAe : Hid (UnAt (v2.setRow fb (reR o)) L U') := A2.out.row P2.out rfl (by decide) (by decide)
      refine hK.out _ _ (hS _ HE.out) (fun hHeld => ?_)
      clear hK K
      (try simp only [Act.put, List.getElem_toArray, List.getElem_cons_zero, List.getElem_cons_succ, List.setIfInBounds_toArray, List.set_cons_zero, List.set_cons_succ])
      refine wpAnyH_take (i := 20) (v := ?_) rfl (by kernel_rfl) (by kernel_rfl) (by kernel_rfl) (fun _ _ _ h => h) (Or.inl ⟨by kernel_rfl, ?_⟩) (by assumption) ?_
      rotate_left
      · (intro w hSw; (try dsimp only at hSw); go_simp) <;> with_reducible rfl
      (try simp only [Act.put, List.getElem_toArray, List.getElem_cons_zero, List.getElem_cons_succ, List.setIfInBounds_toArray, List.set_cons_zero, List.set_cons_succ])
      refine wpAnyH_take (i := 21) (v := ?_) rfl (by kernel_rfl) (by kernel_rfl) (by kernel_rfl) (fun _ _ _ h => h) (Or.inl ⟨by kernel_rfl, ?_⟩) (by assumption) ?_
      rotate_left
      · (intro w hSw; (try dsimp only at hSw); go_simp) <;> with_reducible rfl
      (try simp only [Act.put, List.getElem_toArray, List.getElem_cons_zero, List.getElem_cons_succ, List.setIfInBounds_toArray, List.set_cons_zero, List.set_cons_succ])
      refine wpAnyH_take (i := 22) (v := ?_) rfl (by kernel_rfl) (by kernel_rfl) (by kernel_rfl) (fun _ _ _ h => h) (Or.inl ⟨by kernel_rfl, ?_⟩) (by assumption) ?_
      rotate_left
      · (intro w hSw; (try dsimp only at hSw); go_simp) <;> with_reducible rfl
      (try simp only [Act.put, List.getElem_toArray, List.getElem_cons_zero, List.getElem_cons_succ, List.setIfInBounds_toArray, List.set_cons_zero, List.set_cons_succ])
      refine wpAnyH_done (by kernel_rfl) ?_ _
      clear hS hDo
      go_wp2_with fail
      go_meet
      case rel => exact ⟨fb, rfl, rfl, rfl, rfl, by rw [← HWB.out]; exact HL.out, HQ.out, HAe.out, by rw [← HWB.out]; exact HE.out⟩
    · refine step_alloc rfl 31 rfl (reR Ou.zero) ret_alloc ?_
      obtain ⟨v1, hv⟩ : ∃ V, V = v0.alloc (.cells (reR Ou.zero) 31) := ⟨_, rfl⟩
      obtain ⟨fb, hfb⟩ : ∃ k, k = v0.heap.size := ⟨_, rfl⟩
      have H1 : Hid (UT L.lo wb2 v1) := by rw [hv]; exact H0.out.trans (UT.of_below (below_alloc v0 _))
      have A1 : Hid (UnAt v1 L UnK) := by rw [hv]; exact A0.out.below (below_alloc v0 _)
      have P1 : Hid (v1.heap[fb]? = some (.cells (reR Ou.zero) 31)) := by rw [hv, hfb]; exact heap_alloc_new _ _
      have HL : Hid (wb2.heap.size ≤ fb) := by rw [hfb]; exact H0.out.size
      rw [← hv, ← hfb]
      clear hv hfb
      refine hK.out _ _ (hS _ H1.out) (fun hHeld => ?_)
      clear hK K
      (try simp only [Act.put, List.getElem_toArray, List.getElem_cons_zero, List.getElem_cons_succ, List.setIfInBounds_toArray, List.set_cons_zero, List.set_cons_succ])
      refine wpAnyH_ready (rs := [12]) (by kernel_rfl) (by simp) ?_
      refine AllReadyH.cons rfl (fun K hK => ?_) (AllReadyH.nil)
      go_simp
      refine (hDo v1 A1.out).mono ?_
      rintro e v2 ⟨rfl, ha, hu⟩
      have H2 : Hid (UT L.lo wb2 v2) := H1.out.trans hu
      have A2 : Hid (UnAt v2 L U') := ha
      have P2 : Hid (v2.heap[fb]? = some (.cells (reR Ou.zero) 31)) := hu.other P1.out rfl
      clear hu ha
      refine hK.out _ _ (hS _ H2.out) (fun hHeld => ?_)
      clear hK K
      (try simp only [Act.put, List.getElem_toArray, List.getElem_cons_zero, List.getElem_cons_succ, List.setIfInBounds_toArray, List.set_cons_zero, List.set_cons_succ])
      refine wpAnyH_take (i := 13) (v := ?_) rfl (by kernel_rfl) (by kernel_rfl) (by kernel_rfl) (fun _ _ _ h => h) (Or.inl ⟨by kernel_rfl, ?_⟩) (by assumption) ?_
      rotate_left
      · (intro w hSw; (try dsimp only at hSw); go_simp) <;> with_reducible rfl
      (try simp only [Act.put, List.getElem_toArray, List.getElem_cons_zero, List.getElem_cons_succ, List.setIfInBounds_toArray, List.set_cons_zero, List.set_cons_succ])
      refine wpAnyH_take (i := 14) (v := ?_) rfl (by kernel_rfl) (by kernel_rfl) (by kernel_rfl) (fun _ _ _ h => h) (Or.inl ⟨by kernel_rfl, ?_⟩) (by assumption) ?_
      rotate_left
      · (intro w hSw; (try dsimp only at hSw); go_simp) <;> with_reducible rfl
      (try simp only [Act.put, List.getElem_toArray, List.getElem_cons_zero, List.getElem_cons_succ, List.setIfInBounds_toArray, List.set_cons_zero, List.set_cons_succ])
      refine wpAnyH_take (i := 15) (v := ?_) rfl (by kernel_rfl) (by kernel_rfl) (by kernel_rfl) (fun _ _ _ h => h) (Or.inl ⟨by kernel_rfl, ?_⟩) (by assumption) ?_
      rotate_left
      · (intro w hSw; (try dsimp only at hSw); go_simp) <;> with_reducible rfl
      (try simp only [Act.put, List.getElem_toArray, List.getElem_cons_zero, List.getElem_cons_succ, List.setIfInBounds_toArray, List.set_cons_zero, List.set_cons_succ])
      refine wpAnyH_take (i := 16) (v := ?_) rfl (by kernel_rfl) (by kernel_rfl) (by kernel_rfl) (fun _ _ _ h => h) (Or.inl ⟨by kernel_rfl, ?_⟩) (by assumption) ?_
      rotate_left
      · (intro w hSw; (try dsimp only at hSw); go_simp) <;> with_reducible rfl
      (try simp only [Act.put, List.getElem_toArray, List.getElem_cons_zero, List.getElem_cons_succ, List.setIfInBounds_toArray, List.set_cons_zero, List.set_cons_succ])
      refine wpAnyH_take (i := 17) (v := ?_) rfl (by kernel_rfl) (by kernel_rfl) (by kernel_rfl) (fun _ _ _ h => h) (Or.inl ⟨by kernel_rfl, ?_⟩) (by assumption) ?_
      rotate_left
      · (intro w hSw; (try dsimp only at hSw); go_simp) <;> with_reducible rfl
      (try simp only [Act.put, List.getElem_toArray, List.getElem_cons_zero, List.getElem_cons_succ, List.setIfInBounds_toArray, List.set_cons_zero, List.set_cons_succ])
      refine wpAnyH_ready (rs := [19]) (by kernel_rfl) (by simp) ?_
      refine AllReadyH.cons rfl (fun K hK => ?_) (AllReadyH.nil)
      refine step_store_row rfl 31 (.tmp 10) (.tmp 56) rfl fb (reR o) rfl rfl 31 (reR Ou.zero) P2.out reSize rfl (by simp [Value.oneCell']) ?_
      have HQ : Hid ((v2.setRow fb (reR o)).heap[fb]? = some (.cells (reR o) 31)) := setRow_heap _ fb _ _ _ _ P2.out
      have HE : Hid (UT L.lo wb2 (v2.setRow fb (reR o))) := H2.out.far HL.out
      have HAe : Hid (UnAt (v2.setRow fb (reR o)) L U') := A2.out.row P2.out rfl (by decide) (by decide)
      refine hK.out _ _ (hS _ HE.out) (fun hHeld => ?_)
      clear hK K
      (try simp only [Act.put, List.getElem_toArray, List.getElem_cons_zero, List.getElem_cons_succ, List.setIfInBounds_toArray, List.set_cons_zero, List.set_cons_succ])
      refine wpAnyH_take (i := 20) (v := ?_) rfl (by kernel_rfl) (by kernel_rfl) (by kernel_rfl) (fun _ _ _ h => h) (Or.inl ⟨by kernel_rfl, ?_⟩) (by assumption) ?_
      rotate_left
      · (intro w hSw; (try dsimp only at hSw); go_simp) <;> with_reducible rfl
      (try simp only [Act.put, List.getElem_toArray, List.getElem_cons_zero, List.getElem_cons_succ, List.setIfInBounds_toArray, List.set_cons_zero, List.set_cons_succ])
      refine wpAnyH_take (i := 21) (v := ?_) rfl (by kernel_rfl) (by kernel_rfl) (by kernel_rfl) (fun _ _ _ h => h) (Or.inl ⟨by kernel_rfl, ?_⟩) (by assumption) ?_
      rotate_left
      · (intro w hSw; (try dsimp only at hSw); go_simp) <;> with_reducible rfl
      (try simp only [Act.put, List.getElem_toArray, List.getElem_cons_zero, List.getElem_cons_succ, List.setIfInBounds_toArray, List.set_cons_zero, List.set_cons_succ])
      refine wpAnyH_take (i := 22) (v := ?_) rfl (by kernel_rfl) (by kernel_rfl) (by kernel_rfl) (fun _ _ _ h => h) (Or.inl ⟨by kernel_rfl, ?_⟩) (by assumption) ?_
      rotate_left
      · (intro w hSw; (try dsimp only at hSw); go_simp) <;> with_reducible rfl
      (try simp only [Act.put, List.getElem_toArray, List.getElem_cons_zero, List.getElem_cons_succ, List.setIfInBounds_toArray, List.set_cons_zero, List.set_cons_succ])
      refine wpAnyH_done (by kernel_rfl) ?_ _
      clear hS hDo
      go_wp2_with fail
      go_meet
      case rel => exact ⟨fb, rfl, rfl, rfl, rfl, by rw [← HWB.out]; exact HL.out, HQ.out, HAe.out, by rw [← HWB.out]; exact HE.out⟩
  case rest =>
  obtain ⟨f2, rfl, rfl, rfl, rfl, hfb, hfr, hac, huc⟩ := hcut
  obtain ⟨w2, hwn⟩ : ∃ V, V = wc := ⟨_, rfl⟩
  rw [← hwn] at hfr hac huc ⊢
  have hut : UT L.lo w1 w2 := (UT.of_below (Di.drewN_below (w := w1) ⟨1, rfl⟩)).trans huc
  have HP2_2 : Hid (w2.heap[f2]? = some (.cells (reR o) 31)) := hfr
  have HX2 : Hid (w2.heap[bb]? = some (.cells #[ptr cc, ptr B, ptr x, ptr y] 38)) := hut.other HX1.out rfl
  have HA2 : Hid (UnAt w2 L U') := hac
  have HO2 : Hid (Below w.heap.size w w2) := HO1.out.trans (hut.below HLo.out HO1.out.size)
  clear hwn wc hS hDo hBd hfb hfr hac huc hut  e0 HP1_1
  obtain ⟨on, oe, od, oa, ob, oo, ok, ow⟩ := o
  have e1 : w2.cell? ⟨f2, 1, none⟩ = some (.int .i64 oe) := by rw [cell_of_heap HP2_2.out]; rfl
  have hAw := awake_at
  have ht := HK.out.tells
  dsimp only at ht
  rcases ht with ⟨n1, n2, rfl⟩ | ⟨hp, hs, rfl⟩ | ⟨hp, hs, rfl, hb, hi, hn⟩
  · have g1 : (pid != 1) = true := by simpa using n1
    have g2 : (pid != 2) = true := by simpa using n2
    clear n1 n2
    go_wp2_with fail
    refine (hAw _).mono ?_
    rintro e v1 ⟨rfl, hb1⟩
    have HB1 : Hid (Below w.heap.size w v1) := HO2.out.trans (hb1.mono HO2.out.size)
    clear hb1 hAw e1
    go_wp2
    go_ret
    exact ⟨rfl, HB1.out⟩
  · have g3 : decide (15 < sig) = true := decide_eq_true hs
    clear hs
    rcases hp with rfl | rfl
    · go_wp2_with fail
      refine (hAw _).mono ?_
      rintro e v1 ⟨rfl, hb1⟩
      have HB1 : Hid (Below w.heap.size w v1) := HO2.out.trans (hb1.mono HO2.out.size)
      clear hb1 hAw e1
      go_wp2
      go_ret
      exact ⟨rfl, HB1.out⟩
    · go_wp2_with fail
      refine (hAw _).mono ?_
      rintro e v1 ⟨rfl, hb1⟩
      have HB1 : Hid (Below w.heap.size w v1) := HO2.out.trans (hb1.mono HO2.out.size)
      clear hb1 hAw e1
      go_wp2
      go_ret
      exact ⟨rfl, HB1.out⟩
  · have g3 : decide (15 < sig) = false := decide_eq_false (by omega)
    have hwr : IntKind.i64.wrap sig = sig := by have := HN.out; simp [IntKind.wrap, IntKind.bits, IntKind.signed]; omega
    have x0 : w2.cell? ⟨bb, 0, none⟩ = some (ptr cc) := by rw [cell_of_heap HX2.out]; rfl
    clear HK
    by_cases h0 : 0 < sig
    · have g0 : decide (0 < sig) = true := decide_eq_true h0
      obtain ⟨hi1, hi2⟩ := hi h0
      rw [g0] at hb
      rcases hp with rfl | rfl
      · have hs1 := usig_at HA2.out 1 0 (.slice none 0 0) (fun z => hi2)
        rw [hb, hi1, hi2, ← Hcc.out] at hs1
        have hs2 : ∀ W, UnAt W L (siU U' 1) → Calls Tryz.prog 8 #[ptr cc, .int .i64 2, .agg #[.int .i64 0, .slice none 0 0]] W fun e w' => e = .returned (.tuple #[.int .i64 (Sg.nxI (siU U' 1).S 2 : Nat), .int .u64 (Sg.nxH (siU U' 1).S 2), .bool false]) ∧ UnAt w' L (siU (siU U' 1) 2) ∧ UT L.lo W w' := fun W hW => by
          have hn2 : Sg.nxB (siU U' 1).S 2 = false := hn
          have h3 := usig_at hW 2 0 (.slice none 0 0) (fun z => by rw [hn2] at z; cases z)
          rw [hn2, ← Hcc.out] at h3
          exact h3
        clear hb hi hn e1 hi1 hi2 h0
        go_wp2_with fail
        refine hs1.mono ?_
        rintro e w3 ⟨rfl, ha3, hu3⟩
        have HX3 : Hid (w3.heap[bb]? = some (.cells #[ptr cc, ptr B, ptr x, ptr y] 38)) := hu3.other HX2.out rfl
        have HP3 : Hid (w3.heap[f2]? = some (.cells (reR ⟨on, 0, od, oa, ob, oo, ok, ow⟩) 31)) := hu3.other HP2_2.out rfl
        have HA3 : Hid (UnAt w3 L (siU U' 1)) := ha3
        have HO3 : Hid (Below w.heap.size w w3) := HO2.out.trans (hu3.below HLo.out HO2.out.size)
        have x3 : w3.cell? ⟨bb, 0, none⟩ = some (ptr cc) := by rw [cell_of_heap HX3.out]; rfl
        clear ha3 hu3 hs1 x0
        go_wp2_with fail
        refine (hs2 w3 HA3.out).mono ?_
        rintro e w4 ⟨rfl, ha4, hu4⟩
        have HP4 : Hid (w4.heap[f2]? = some (.cells (reR ⟨on, 0, od, oa, ob, oo, ok, ow⟩) 31)) := hu4.other HP3.out rfl
        have HO4 : Hid (Below w.heap.size w w4) := HO3.out.trans (hu4.below HLo.out HO3.out.size)
        have e4 : w4.cell? ⟨f2, 1, none⟩ = some (.int .i64 0) := by rw [cell_of_heap HP4.out]; rfl
        clear ha4 hu4 hs2 x3
        go_wp2_with fail
        refine (hAw _).mono ?_
        rintro e v1 ⟨rfl, hb1⟩
        have HB1 : Hid (Below w.heap.size w v1) := HO4.out.trans (hb1.mono HO4.out.size)
        clear hb1 hAw e4
        go_wp2
        go_ret
        exact ⟨rfl, HB1.out⟩
      · have hs1 := usig_at HA2.out 2 0 (.slice none 0 0) (fun z => hi2)
        rw [hb, hi1, hi2, ← Hcc.out] at hs1
        have hs2 : ∀ W, UnAt W L (siU U' 2) → Calls Tryz.prog 8 #[ptr cc, .int .i64 1, .agg #[.int .i64 0, .slice none 0 0]] W fun e w' => e = .returned (.tuple #[.int .i64 (Sg.nxI (siU U' 2).S 1 : Nat), .int .u64 (Sg.nxH (siU U' 2).S 1), .bool false]) ∧ UnAt w' L (siU (siU U' 2) 1) ∧ UT L.lo W w' := fun W hW => by
          have hn2 : Sg.nxB (siU U' 2).S 1 = false := hn
          have h3 := usig_at hW 1 0 (.slice none 0 0) (fun z => by rw [hn2] at z; cases z)
          rw [hn2, ← Hcc.out] at h3
          exact h3
        clear hb hi hn e1 hi1 hi2 h0
        go_wp2_with fail
        refine hs1.mono ?_
        rintro e w3 ⟨rfl, ha3, hu3⟩
        have HX3 : Hid (w3.heap[bb]? = some (.cells #[ptr cc, ptr B, ptr x, ptr y] 38)) := hu3.other HX2.out rfl
        have HP3 : Hid (w3.heap[f2]? = some (.cells (reR ⟨on, 0, od, oa, ob, oo, ok, ow⟩) 31)) := hu3.other HP2_2.out rfl
        have HA3 : Hid (UnAt w3 L (siU U' 2)) := ha3
        have HO3 : Hid (Below w.heap.size w w3) := HO2.out.trans (hu3.below HLo.out HO2.out.size)
        have x3 : w3.cell? ⟨bb, 0, none⟩ = some (ptr cc) := by rw [cell_of_heap HX3.out]; rfl
        clear ha3 hu3 hs1 x0
        go_wp2_with fail
        refine (hs2 w3 HA3.out).mono ?_
        rintro e w4 ⟨rfl, ha4, hu4⟩
        have HP4 : Hid (w4.heap[f2]? = some (.cells (reR ⟨on, 0, od, oa, ob, oo, ok, ow⟩) 31)) := hu4.other HP3.out rfl
        have HO4 : Hid (Below w.heap.size w w4) := HO3.out.trans (hu4.below HLo.out HO3.out.size)
        have e4 : w4.cell? ⟨f2, 1, none⟩ = some (.int .i64 0) := by rw [cell_of_heap HP4.out]; rfl
        clear ha4 hu4 hs2 x3
        go_wp2_with fail
        refine (hAw _).mono ?_
        rintro e v1 ⟨rfl, hb1⟩
        have HB1 : Hid (Below w.heap.size w v1) := HO4.out.trans (hb1.mono HO4.out.size)
        clear hb1 hAw e4
        go_wp2
        go_ret
        exact ⟨rfl, HB1.out⟩
    · have g0 : decide (0 < sig) = false := decide_eq_false h0
      rw [g0] at hb
      rcases hp with rfl | rfl
      · have hs1 := usig_at HA2.out 1 0 (.slice none 0 0) (fun z => (by rw [hb] at z; cases z))
        rw [hb, ← Hcc.out] at hs1
        have hs2 : ∀ W, UnAt W L (siU U' 1) → Calls Tryz.prog 8 #[ptr cc, .int .i64 2, .agg #[.int .i64 0, .slice none 0 0]] W fun e w' => e = .returned (.tuple #[.int .i64 (Sg.nxI (siU U' 1).S 2 : Nat), .int .u64 (Sg.nxH (siU U' 1).S 2), .bool false]) ∧ UnAt w' L (siU (siU U' 1) 2) ∧ UT L.lo W w' := fun W hW => by
          have hn2 : Sg.nxB (siU U' 1).S 2 = false := hn
          have h3 := usig_at hW 2 0 (.slice none 0 0) (fun z => by rw [hn2] at z; cases z)
          rw [hn2, ← Hcc.out] at h3
          exact h3
        clear hb hi hn e1 
        go_wp2_with fail
        refine hs1.mono ?_
        rintro e w3 ⟨rfl, ha3, hu3⟩
        have HX3 : Hid (w3.heap[bb]? = some (.cells #[ptr cc, ptr B, ptr x, ptr y] 38)) := hu3.other HX2.out rfl
        have HP3 : Hid (w3.heap[f2]? = some (.cells (reR ⟨on, 0, od, oa, ob, oo, ok, ow⟩) 31)) := hu3.other HP2_2.out rfl
        have HA3 : Hid (UnAt w3 L (siU U' 1)) := ha3
        have HO3 : Hid (Below w.heap.size w w3) := HO2.out.trans (hu3.below HLo.out HO2.out.size)
        have x3 : w3.cell? ⟨bb, 0, none⟩ = some (ptr cc) := by rw [cell_of_heap HX3.out]; rfl
        clear ha3 hu3 hs1 x0
        go_wp2_with fail
        refine (hs2 w3 HA3.out).mono ?_
        rintro e w4 ⟨rfl, ha4, hu4⟩
        have HP4 : Hid (w4.heap[f2]? = some (.cells (reR ⟨on, 0, od, oa, ob, oo, ok, ow⟩) 31)) := hu4.other HP3.out rfl
        have HO4 : Hid (Below w.heap.size w w4) := HO3.out.trans (hu4.below HLo.out HO3.out.size)
        have e4 : w4.cell? ⟨f2, 1, none⟩ = some (.int .i64 0) := by rw [cell_of_heap HP4.out]; rfl
        clear ha4 hu4 hs2 x3
        go_wp2_with fail
        refine (hAw _).mono ?_
        rintro e v1 ⟨rfl, hb1⟩
        have HB1 : Hid (Below w.heap.size w v1) := HO4.out.trans (hb1.mono HO4.out.size)
        clear hb1 hAw e4
        go_wp2
        go_ret
        exact ⟨rfl, HB1.out⟩
      · have hs1 := usig_at HA2.out 2 0 (.slice none 0 0) (fun z => (by rw [hb] at z; cases z))
        rw [hb, ← Hcc.out] at hs1
        have hs2 : ∀ W, UnAt W L (siU U' 2) → Calls Tryz.prog 8 #[ptr cc, .int .i64 1, .agg #[.int .i64 0, .slice none 0 0]] W fun e w' => e = .returned (.tuple #[.int .i64 (Sg.nxI (siU U' 2).S 1 : Nat), .int .u64 (Sg.nxH (siU U' 2).S 1), .bool false]) ∧ UnAt w' L (siU (siU U' 2) 1) ∧ UT L.lo W w' := fun W hW => by
          have hn2 : Sg.nxB (siU U' 2).S 1 = false := hn
          have h3 := usig_at hW 1 0 (.slice none 0 0) (fun z => by rw [hn2] at z; cases z)
          rw [hn2, ← Hcc.out] at h3
          exact h3
        clear hb hi hn e1 
        go_wp2_with fail
        refine hs1.mono ?_
        rintro e w3 ⟨rfl, ha3, hu3⟩
        have HX3 : Hid (w3.heap[bb]? = some (.cells #[ptr cc, ptr B, ptr x, ptr y] 38)) := hu3.other HX2.out rfl
        have HP3 : Hid (w3.heap[f2]? = some (.cells (reR ⟨on, 0, od, oa, ob, oo, ok, ow⟩) 31)) := hu3.other HP2_2.out rfl
        have HA3 : Hid (UnAt w3 L (siU U' 2)) := ha3
        have HO3 : Hid (Below w.heap.size w w3) := HO2.out.trans (hu3.below HLo.out HO2.out.size)
        have x3 : w3.cell? ⟨bb, 0, none⟩ = some (ptr cc) := by rw [cell_of_heap HX3.out]; rfl
        clear ha3 hu3 hs1 x0
        go_wp2_with fail
        refine (hs2 w3 HA3.out).mono ?_
        rintro e w4 ⟨rfl, ha4, hu4⟩
        have HP4 : Hid (w4.heap[f2]? = some (.cells (reR ⟨on, 0, od, oa, ob, oo, ok, ow⟩) 31)) := hu4.other HP3.out rfl
        have HO4 : Hid (Below w.heap.size w w4) := HO3.out.trans (hu4.below HLo.out HO3.out.size)
        have e4 : w4.cell? ⟨f2, 1, none⟩ = some (.int .i64 0) := by rw [cell_of_heap HP4.out]; rfl
        clear ha4 hu4 hs2 x3
        go_wp2_with fail
        refine (hAw _).mono ?_
        rintro e v1 ⟨rfl, hb1⟩
        have HB1 : Hid (Below w.heap.size w v1) := HO4.out.trans (hb1.mono HO4.out.size)
        clear hb1 hAw e4
        go_wp2
        go_ret
        exact ⟨rfl, HB1.out⟩
end Go.Proofs.YtnlhedpfhgoncabGreatDoor
