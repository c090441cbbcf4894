/- januslaw22: Both.read. -/
import Derived.Test.YtikjfdihocgfpaaGreatDoorUxWTPipM22
import Derived.Test.YtikjfdihocgfpaaGreatDoorUxS
import Derived.Deep.DeepCutAuto
set_option linter.all false
namespace Go.Proofs.YtikjfdihocgfpaaGreatDoor
open Go.RowKit
theorem tk_pos {M : List UInt8} (hM : M ≠ []) {n : Int} (h1 : 1 ≤ n) : 1 ≤ Pp.tk M n := by
  have : 0 < M.length := List.length_pos_iff.2 hM
  unfold Pp.tk
  omega
theorem prO_got {M : List UInt8} (hM : M ≠ []) {n : Int} (h1 : 1 ≤ n) : prO M n = Ou.got (M.take (Pp.tk M n)) := by
  refine if_neg (fun h => ?_)
  have h2 := tk_pos hM h1
  have h3 := congrArg List.length h
  have h4 := Pp.tk_le M n
  rw [List.length_take] at h3
  simp at h3
  rcases h3 with h3 | h3
  · omega
  · exact hM h3
set_option maxHeartbeats 4000000 in
set_option maxRecDepth 100000 in
theorem bread_at {w : World} {L : Pl} {M : List UInt8} {bb B x y : Nat} {n : Int} (hb : w.heap[bb]? = some (.cells #[ptr L.c, ptr B, ptr x, ptr y] 44)) (h : UnAt w L (UnQ M)) (hM : M ≠ []) (h1 : 1 ≤ n) (h2 : n ≤ 20) :
    Calls Tryz.prog 13 #[ptr bb, .int .i64 n] w fun e w' => e = .returned (.tuple #[Pp.tx (M.take (Pp.tk M n)), .bool true]) ∧ UnAt w' L (UnQ (M.drop (Pp.tk M n))) ∧ UT L.lo w w' := by
  obtain ⟨o, ho⟩ : ∃ o, o = prO M n := ⟨_, rfl⟩
  have Hoo : Hid (o = prO M n) := ho
  have Hn : Hid (1 ≤ n ∧ n ≤ 128) := ⟨h1, by omega⟩
  have hwr : IntKind.u64.wrap n = n := by simp [IntKind.wrap, IntKind.bits, IntKind.signed]; omega
  obtain ⟨d, hd⟩ : ∃ d, d = M.take (Pp.tk M n) := ⟨_, rfl⟩
  have hpos : 1 ≤ d.length := by
    have a1 := tk_pos hM h1
    have a2 := Pp.tk_le M n
    rw [hd, List.length_take]
    omega
  have HOE : Hid (o = Ou.got d) := by
    show _ = _
    rw [ho, prO_got hM h1, hd]
  rw [← hd]
  obtain ⟨w0, hw0⟩ : ∃ V, V = w := ⟨_, rfl⟩
  have HA0 : Hid (UnAt w0 L (UnQ M)) := by rw [hw0]; exact h
  have HU0 : Hid (UT L.lo w w0) := by rw [hw0]; exact UT.refl _ _
  obtain ⟨cc, hcc⟩ : ∃ c, c = L.c := ⟨_, rfl⟩
  have Hcc : Hid (cc = L.c) := hcc
  have HX0 : Hid (w0.heap[bb]? = some (.cells #[ptr cc, ptr B, ptr x, ptr y] 44)) := by rw [hw0, hcc]; exact hb
  have Hd : Hid (1 ≤ d.length) := hpos
  have Hw0 : Hid (w0 = w) := hw0
  clear ho hd h hb hM h1 h2 hcc hpos hw0
  go_enter Tryz.func13, Tryz.ntmps13
  go_upto_region 1 with fail
  rw [← Hw0.out]
  have hS : ∀ W, UT L.lo w0.drew W → W.cell? ⟨bb, 0, none⟩ = some (ptr cc) ∧ W.cell? ⟨bb, 1, none⟩ = some (ptr B) := fun W hW => by
    have hb := hW.other HX0.out rfl
    exact ⟨by rw [cell_of_heap hb]; rfl, by rw [cell_of_heap hb]; rfl⟩
  have hDo : ∀ W, UnAt W L (UnQ M) → Calls Tryz.prog 12 #[ptr cc, .iface 41 (ptr B), .int .i64 1, .agg (clR (⟨7, 3, 0, n, [], []⟩ : Cl)), Pp.tx []] W (DoIs L o (UnQ (M.drop (Pp.tk M n))) W) := fun W hW => by rw [Hcc.out]; exact by rw [Hoo.out]; exact pq_read hW B n Hn.out.1 Hn.out.2
  have hBd : ∀ W, (Instr.build 48 ([(0, .int .i64 7), (1, .int .u64 3), (3, .int .u64 n)] : List (Nat × Value)).toArray).run Tryz.prog W = .ok (.agg (clR (⟨7, 3, 0, n, [], []⟩ : Cl))) W := fun W => by kernel_rfl
  unfold DoIs at hDo
  go_upto_region 1 with fail
  go_cut [6, 7, 8, 9] (fun p o2 o3 o4 wc => ∃ fb, p = ptr fb ∧ o2 = Pp.tx (o).o ∧ o3 = .int .i64 (o).k ∧ o4 = .bool (o).w ∧ w0.drew.heap.size ≤ fb ∧ wc.heap[fb]? = some (.cells (reR o) 39) ∧ UnAt wc L (UnQ (M.drop (Pp.tk M n))) ∧ UT L.lo w0.drew wc)
  case first => as_aux_lemma =>
    refine wp_region_held_drew (S := fun w' => w'.cell? ⟨bb, 0, none⟩ = some (ptr cc) ∧ w'.cell? ⟨bb, 1, none⟩ = some (ptr B)) (by kernel_rfl) (hS _ (UT.refl _ _)) (fun hHeld => ?_)
    obtain ⟨wb1, hwb⟩ : ∃ V, V = w0.drew := ⟨_, rfl⟩
    have A0 : Hid (UnAt wb1 L (UnQ M)) := by rw [hwb]; exact HA0.out.below (Di.drewN_below (w := w0) ⟨1, rfl⟩)
    rw [← hwb] at hS hHeld ⊢
    have HWB : Hid (wb1 = w0.drew) := hwb
    clear hwb
    refine wpAnyH_take (i := 0) (v := ?_) rfl (by kernel_rfl) (by kernel_rfl) (by kernel_rfl) (fun _ _ _ h => h) (Or.inl ⟨by kernel_rfl, ?_⟩) (by assumption) ?_
    rotate_left
    · (intro w hSw; (try dsimp only at hSw); go_simp) <;> with_reducible rfl
    (try simp only [Act.put, List.getElem_toArray, List.getElem_cons_zero, List.setIfInBounds_toArray, List.set_cons_zero, List.set_cons_succ])
    refine wpAnyH_take (i := 1) (v := ?_) rfl (by kernel_rfl) (by kernel_rfl) (by kernel_rfl) (fun _ _ _ h => h) (Or.inl ⟨by kernel_rfl, ?_⟩) (by assumption) ?_
    rotate_left
    · (intro w hSw; (try dsimp only at hSw); go_simp) <;> with_reducible rfl
    (try simp only [Act.put, List.getElem_toArray, List.getElem_cons_zero, List.getElem_cons_succ, List.setIfInBounds_toArray, List.set_cons_zero, List.set_cons_succ])
    refine wpAnyH_take (i := 2) (v := ?_) rfl (by kernel_rfl) (by kernel_rfl) (by kernel_rfl) (fun _ _ _ h => h) (Or.inl ⟨by kernel_rfl, ?_⟩) (by assumption) ?_
    rotate_left
    · (intro w hSw; (try dsimp only at hSw); go_simp) <;> with_reducible rfl
    (try simp only [Act.put, List.getElem_toArray, List.getElem_cons_zero, List.getElem_cons_succ, List.setIfInBounds_toArray, List.set_cons_zero, List.set_cons_succ])
    refine wpAnyH_take (i := 3) (v := ?_) rfl (by kernel_rfl) (by kernel_rfl) (by kernel_rfl) (fun _ _ _ h => h) (Or.inl ⟨by kernel_rfl, ?_⟩) (by assumption) ?_
    rotate_left
    · (intro w hSw; (try dsimp only at hSw); go_simp) <;> with_reducible rfl
    (try simp only [Act.put, List.getElem_toArray, List.getElem_cons_zero, List.getElem_cons_succ, List.setIfInBounds_toArray, List.set_cons_zero, List.set_cons_succ])
    refine wpAnyH_take (i := 4) (v := ?_) rfl (by kernel_rfl) (by kernel_rfl) (by kernel_rfl) (fun _ _ _ h => h) (Or.inl ⟨by kernel_rfl, ?_⟩) (by assumption) ?_
    rotate_left
    · (intro w hSw; (try dsimp only at hSw); go_simp) <;> with_reducible rfl
    (try simp only [Act.put, List.getElem_toArray, List.getElem_cons_zero, List.getElem_cons_succ, List.setIfInBounds_toArray, List.set_cons_zero, List.set_cons_succ])
    refine wpAnyH_take (i := 5) (v := ?_) rfl (by kernel_rfl) (by kernel_rfl) (by kernel_rfl) (fun _ _ _ h => h) (Or.inl ⟨by kernel_rfl, ?_⟩) (by assumption) ?_
    rotate_left
    · (intro w hSw; (try dsimp only at hSw); go_simp) <;> with_reducible rfl
    (try simp only [Act.put, List.getElem_toArray, List.getElem_cons_zero, List.getElem_cons_succ, List.setIfInBounds_toArray, List.set_cons_zero, List.set_cons_succ])
    refine wpAnyH_take (i := 6) (v := ?_) rfl (by kernel_rfl) (by kernel_rfl) (by kernel_rfl) (fun _ _ _ h => h) (Or.inl ⟨by kernel_rfl, ?_⟩) (by assumption) ?_
    rotate_left
    · (intro w hSw; (try dsimp only at hSw); go_simp) <;> with_reducible rfl
    (try simp only [Act.put, List.getElem_toArray, List.getElem_cons_zero, List.getElem_cons_succ, List.setIfInBounds_toArray, List.set_cons_zero, List.set_cons_succ])
    refine wpAnyH_take (i := 7) (v := ?_) rfl (by kernel_rfl) (by kernel_rfl) (by kernel_rfl) (fun _ _ _ h => h) (Or.inl ⟨by kernel_rfl, ?_⟩) (by assumption) ?_
    rotate_left
    · (intro w hSw; (try dsimp only at hSw); go_simp) <;> with_reducible rfl
    (try simp only [Act.put, List.getElem_toArray, List.getElem_cons_zero, List.getElem_cons_succ, List.setIfInBounds_toArray, List.set_cons_zero, List.set_cons_succ])
    refine wpAnyH_take (i := 8) (v := ?_) rfl (by kernel_rfl) (by kernel_rfl) (by kernel_rfl) (fun _ _ _ h => h) (Or.inl ⟨by kernel_rfl, ?_⟩) (by assumption) ?_
    rotate_left
    · (intro w hSw; (try dsimp only at hSw); go_simp) <;> with_reducible rfl
    (try simp only [Act.put, List.getElem_toArray, List.getElem_cons_zero, List.getElem_cons_succ, List.setIfInBounds_toArray, List.set_cons_zero, List.set_cons_succ])
    refine wpAnyH_take (i := 9) (v := ?_) rfl (by kernel_rfl) (by kernel_rfl) (by kernel_rfl) (fun _ _ _ h => h) (Or.inl ⟨by kernel_rfl, ?_⟩) (by assumption) ?_
    rotate_left
    · (intro w hSw; (try dsimp only at hSw); go_simp) <;> with_reducible rfl
    (try simp only [Act.put, List.getElem_toArray, List.getElem_cons_zero, List.getElem_cons_succ, List.setIfInBounds_toArray, List.set_cons_zero, List.set_cons_succ])
    refine wpAnyH_take (i := 10) (v := ?_) rfl (by kernel_rfl) (by kernel_rfl) (by kernel_rfl) (fun _ _ _ h => h) (Or.inl ⟨by kernel_rfl, ?_⟩) (by assumption) ?_
    rotate_left
    · (intro w hSw; (try dsimp only at hSw); go_simp) <;> with_reducible rfl
    (try simp only [Act.put, List.getElem_toArray, List.getElem_cons_zero, List.getElem_cons_succ, List.setIfInBounds_toArray, List.set_cons_zero, List.set_cons_succ])
    refine wpAnyH_take (i := 11) (v := .agg (clR (⟨7, 3, 0, n, [], []⟩ : Cl))) rfl (by kernel_rfl) (by kernel_rfl) (by kernel_rfl) (fun _ _ _ h => h) (yieldsIf_build (by kernel_rfl) 48 [(0, .const (.int .i64 7)), (1, .const (.int .u64 3)), (3, .tmp 21)] rfl [(0, .int .i64 7), (1, .int .u64 3), (3, .int .u64 n)] rfl _ hBd) (by assumption) ?_
    (try simp only [Act.put, List.getElem_toArray, List.getElem_cons_zero, List.getElem_cons_succ, List.setIfInBounds_toArray, List.set_cons_zero, List.set_cons_succ])
    obtain ⟨v0, hv0⟩ : ∃ V, V = wb1 := ⟨_, rfl⟩
    have H0 : Hid (UT L.lo wb1 v0) := by rw [hv0]; exact UT.refl _ _
    have A0' : Hid (UnAt v0 L (UnQ M)) := by rw [hv0]; exact A0.out
    rw [← hv0]
    clear hv0 A0 hBd
    have A0 : Hid (UnAt v0 L (UnQ M)) := A0'.out
    clear A0'
    refine wpAnyH_ready (rs := [12, 18]) (by kernel_rfl) (by simp) ?_
    refine AllReadyH.cons rfl (fun K hK => ?_) (AllReadyH.cons rfl (fun K hK => ?_) (AllReadyH.nil))
    · go_simp
      refine (hDo v0 A0.out).mono ?_
      rintro e v1 ⟨rfl, ha, hu⟩
      have H1 : Hid (UT L.lo wb1 v1) := H0.out.trans hu
      have A1 : Hid (UnAt v1 L (UnQ (M.drop (Pp.tk M n)))) := ha
      clear hu ha
      refine hK.out _ _ (hS _ H1.out) (fun hHeld => ?_)
      clear hK K
      (try simp only [Act.put, List.getElem_toArray, List.getElem_cons_zero, List.getElem_cons_succ, List.setIfInBounds_toArray, List.set_cons_zero, List.set_cons_succ])
      refine wpAnyH_take (i := 13) (v := ?_) rfl (by kernel_rfl) (by kernel_rfl) (by kernel_rfl) (fun _ _ _ h => h) (Or.inl ⟨by kernel_rfl, ?_⟩) (by assumption) ?_
      rotate_left
      · (intro w hSw; (try dsimp only at hSw); go_simp) <;> with_reducible rfl
      (try simp only [Act.put, List.getElem_toArray, List.getElem_cons_zero, List.getElem_cons_succ, List.setIfInBounds_toArray, List.set_cons_zero, List.set_cons_succ])
      refine wpAnyH_take (i := 14) (v := ?_) rfl (by kernel_rfl) (by kernel_rfl) (by kernel_rfl) (fun _ _ _ h => h) (Or.inl ⟨by kernel_rfl, ?_⟩) (by assumption) ?_
      rotate_left
      · (intro w hSw; (try dsimp only at hSw); go_simp) <;> with_reducible rfl
      (try simp only [Act.put, List.getElem_toArray, List.getElem_cons_zero, List.getElem_cons_succ, List.setIfInBounds_toArray, List.set_cons_zero, List.set_cons_succ])
      refine wpAnyH_take (i := 15) (v := ?_) rfl (by kernel_rfl) (by kernel_rfl) (by kernel_rfl) (fun _ _ _ h => h) (Or.inl ⟨by kernel_rfl, ?_⟩) (by assumption) ?_
      rotate_left
      · (intro w hSw; (try dsimp only at hSw); go_simp) <;> with_reducible rfl
      (try simp only [Act.put, List.getElem_toArray, List.getElem_cons_zero, List.getElem_cons_succ, List.setIfInBounds_toArray, List.set_cons_zero, List.set_cons_succ])
      refine wpAnyH_take (i := 16) (v := ?_) rfl (by kernel_rfl) (by kernel_rfl) (by kernel_rfl) (fun _ _ _ h => h) (Or.inl ⟨by kernel_rfl, ?_⟩) (by assumption) ?_
      rotate_left
      · (intro w hSw; (try dsimp only at hSw); go_simp) <;> with_reducible rfl
      (try simp only [Act.put, List.getElem_toArray, List.getElem_cons_zero, List.getElem_cons_succ, List.setIfInBounds_toArray, List.set_cons_zero, List.set_cons_succ])
      refine wpAnyH_take (i := 17) (v := ?_) rfl (by kernel_rfl) (by kernel_rfl) (by kernel_rfl) (fun _ _ _ h => h) (Or.inl ⟨by kernel_rfl, ?_⟩) (by assumption) ?_
      rotate_left
      · (intro w hSw; (try dsimp only at hSw); go_simp) <;> with_reducible rfl
      (try simp only [Act.put, List.getElem_toArray, List.getElem_cons_zero, List.getElem_cons_succ, List.setIfInBounds_toArray, List.set_cons_zero, List.set_cons_succ])
      refine wpAnyH_ready (rs := [18]) (by kernel_rfl) (by simp) ?_
      refine AllReadyH.cons rfl (fun K hK => ?_) (AllReadyH.nil)
      refine step_alloc rfl 39 rfl (reR Ou.zero) ret_alloc ?_
      obtain ⟨v2, hv⟩ : ∃ V, V = v1.alloc (.cells (reR Ou.zero) 39) := ⟨_, rfl⟩
      obtain ⟨fb, hfb⟩ : ∃ k, k = v1.heap.size := ⟨_, rfl⟩
      have H2 : Hid (UT L.lo wb1 v2) := by rw [hv]; exact H1.out.trans (UT.of_below (below_alloc v1 _))
      have A2 : Hid (UnAt v2 L (UnQ (M.drop (Pp.tk M n)))) := by rw [hv]; exact A1.out.below (below_alloc v1 _)
      have P2 : Hid (v2.heap[fb]? = some (.cells (reR Ou.zero) 39)) := by rw [hv, hfb]; exact heap_alloc_new _ _
      have HL : Hid (wb1.heap.size ≤ fb) := by rw [hfb]; exact H1.out.size
      rw [← hv, ← hfb]
      clear hv hfb
      refine hK.out _ _ (hS _ H2.out) (fun hHeld => ?_)
      clear hK K
      (try simp only [Act.put, List.getElem_toArray, List.getElem_cons_zero, List.getElem_cons_succ, List.setIfInBounds_toArray, List.set_cons_zero, List.set_cons_succ])
      refine wpAnyH_ready (rs := [19]) (by kernel_rfl) (by simp) ?_
      refine AllReadyH.cons rfl (fun K hK => ?_) (AllReadyH.nil)
      refine step_store_row rfl 39 (.tmp 6) (.tmp 24) rfl fb (reR o) rfl rfl 39 (reR Ou.zero) P2.out reSize rfl (by simp [Value.oneCell']) ?_
      have HQ : Hid ((v2.setRow fb (reR o)).heap[fb]? = some (.cells (reR o) 39)) := setRow_heap _ fb _ _ _ _ P2.out
      have HE : Hid (UT L.lo wb1 (v2.setRow fb (reR o))) := H2.out.far HL.out
      have HAe : Hid (UnAt (v2.setRow fb (reR o)) L (UnQ (M.drop (Pp.tk M n)))) := A2.out.row P2.out rfl (by decide) (by decide)
      refine hK.out _ _ (hS _ HE.out) (fun hHeld => ?_)
      clear hK K
      (try simp only [Act.put, List.getElem_toArray, List.getElem_cons_zero, List.getElem_cons_succ, List.setIfInBounds_toArray, List.set_cons_zero, List.set_cons_succ])
      refine wpAnyH_take (i := 20) (v := ?_) rfl (by kernel_rfl) (by kernel_rfl) (by kernel_rfl) (fun _ _ _ h => h) (Or.inl ⟨by kernel_rfl, ?_⟩) (by assumption) ?_
      rotate_left
      · (intro w hSw; (try dsimp only at hSw); go_simp) <;> with_reducible rfl
      (try simp only [Act.put, List.getElem_toArray, List.getElem_cons_zero, List.getElem_cons_succ, List.setIfInBounds_toArray, List.set_cons_zero, List.set_cons_succ])
      refine wpAnyH_take (i := 21) (v := ?_) rfl (by kernel_rfl) (by kernel_rfl) (by kernel_rfl) (fun _ _ _ h => h) (Or.inl ⟨by kernel_rfl, ?_⟩) (by assumption) ?_
      rotate_left
      · (intro w hSw; (try dsimp only at hSw); go_simp) <;> with_reducible rfl
      (try simp only [Act.put, List.getElem_toArray, List.getElem_cons_zero, List.getElem_cons_succ, List.setIfInBounds_toArray, List.set_cons_zero, List.set_cons_succ])
      refine wpAnyH_take (i := 22) (v := ?_) rfl (by kernel_rfl) (by kernel_rfl) (by kernel_rfl) (fun _ _ _ h => h) (Or.inl ⟨by kernel_rfl, ?_⟩) (by assumption) ?_
      rotate_left
      · (intro w hSw; (try dsimp only at hSw); go_simp) <;> with_reducible rfl
      (try simp only [Act.put, List.getElem_toArray, List.getElem_cons_zero, List.getElem_cons_succ, List.setIfInBounds_toArray, List.set_cons_zero, List.set_cons_succ])
      refine wpAnyH_done (by kernel_rfl) ?_ _
      clear hS hDo
      go_wp2_with fail
      go_meet
      case rel => exact ⟨fb, rfl, rfl, rfl, rfl, by rw [← HWB.out]; exact HL.out, HQ.out, HAe.out, by rw [← HWB.out]; exact HE.out⟩
    · refine step_alloc rfl 39 rfl (reR Ou.zero) ret_alloc ?_
      obtain ⟨v1, hv⟩ : ∃ V, V = v0.alloc (.cells (reR Ou.zero) 39) := ⟨_, rfl⟩
      obtain ⟨fb, hfb⟩ : ∃ k, k = v0.heap.size := ⟨_, rfl⟩
      have H1 : Hid (UT L.lo wb1 v1) := by rw [hv]; exact H0.out.trans (UT.of_below (below_alloc v0 _))
      have A1 : Hid (UnAt v1 L (UnQ M)) := by rw [hv]; exact A0.out.below (below_alloc v0 _)
      have P1 : Hid (v1.heap[fb]? = some (.cells (reR Ou.zero) 39)) := by rw [hv, hfb]; exact heap_alloc_new _ _
      have HL : Hid (wb1.heap.size ≤ fb) := by rw [hfb]; exact H0.out.size
      rw [← hv, ← hfb]
      clear hv hfb
      refine hK.out _ _ (hS _ H1.out) (fun hHeld => ?_)
      clear hK K
      (try simp only [Act.put, List.getElem_toArray, List.getElem_cons_zero, List.getElem_cons_succ, List.setIfInBounds_toArray, List.set_cons_zero, List.set_cons_succ])
      refine wpAnyH_ready (rs := [12]) (by kernel_rfl) (by simp) ?_
      refine AllReadyH.cons rfl (fun K hK => ?_) (AllReadyH.nil)
      go_simp
      refine (hDo v1 A1.out).mono ?_
      rintro e v2 ⟨rfl, ha, hu⟩
      have H2 : Hid (UT L.lo wb1 v2) := H1.out.trans hu
      have A2 : Hid (UnAt v2 L (UnQ (M.drop (Pp.tk M n)))) := ha
      have P2 : Hid (v2.heap[fb]? = some (.cells (reR Ou.zero) 39)) := hu.other P1.out rfl
      clear hu ha
      refine hK.out _ _ (hS _ H2.out) (fun hHeld => ?_)
      clear hK K
      (try simp only [Act.put, List.getElem_toArray, List.getElem_cons_zero, List.getElem_cons_succ, List.setIfInBounds_toArray, List.set_cons_zero, List.set_cons_succ])
      refine wpAnyH_take (i := 13) (v := ?_) rfl (by kernel_rfl) (by kernel_rfl) (by kernel_rfl) (fun _ _ _ h => h) (Or.inl ⟨by kernel_rfl, ?_⟩) (by assumption) ?_
      rotate_left
      · (intro w hSw; (try dsimp only at hSw); go_simp) <;> with_reducible rfl
      (try simp only [Act.put, List.getElem_toArray, List.getElem_cons_zero, List.getElem_cons_succ, List.setIfInBounds_toArray, List.set_cons_zero, List.set_cons_succ])
      refine wpAnyH_take (i := 14) (v := ?_) rfl (by kernel_rfl) (by kernel_rfl) (by kernel_rfl) (fun _ _ _ h => h) (Or.inl ⟨by kernel_rfl, ?_⟩) (by assumption) ?_
      rotate_left
      · (intro w hSw; (try dsimp only at hSw); go_simp) <;> with_reducible rfl
      (try simp only [Act.put, List.getElem_toArray, List.getElem_cons_zero, List.getElem_cons_succ, List.setIfInBounds_toArray, List.set_cons_zero, List.set_cons_succ])
      refine wpAnyH_take (i := 15) (v := ?_) rfl (by kernel_rfl) (by kernel_rfl) (by kernel_rfl) (fun _ _ _ h => h) (Or.inl ⟨by kernel_rfl, ?_⟩) (by assumption) ?_
      rotate_left
      · (intro w hSw; (try dsimp only at hSw); go_simp) <;> with_reducible rfl
      (try simp only [Act.put, List.getElem_toArray, List.getElem_cons_zero, List.getElem_cons_succ, List.setIfInBounds_toArray, List.set_cons_zero, List.set_cons_succ])
      refine wpAnyH_take (i := 16) (v := ?_) rfl (by kernel_rfl) (by kernel_rfl) (by kernel_rfl) (fun _ _ _ h => h) (Or.inl ⟨by kernel_rfl, ?_⟩) (by assumption) ?_
      rotate_left
      · (intro w hSw; (try dsimp only at hSw); go_simp) <;> with_reducible rfl
      (try simp only [Act.put, List.getElem_toArray, List.getElem_cons_zero, List.getElem_cons_succ, List.setIfInBounds_toArray, List.set_cons_zero, List.set_cons_succ])
      refine wpAnyH_take (i := 17) (v := ?_) rfl (by kernel_rfl) (by kernel_rfl) (by kernel_rfl) (fun _ _ _ h => h) (Or.inl ⟨by kernel_rfl, ?_⟩) (by assumption) ?_
      rotate_left
      · (intro w hSw; (try dsimp only at hSw); go_simp) <;> with_reducible rfl
      (try simp only [Act.put, List.getElem_toArray, List.getElem_cons_zero, List.getElem_cons_succ, List.setIfInBounds_toArray, List.set_cons_zero, List.set_cons_succ])
      refine wpAnyH_ready (rs := [19]) (by kernel_rfl) (by simp) ?_
      refine AllReadyH.cons rfl (fun K hK => ?_) (AllReadyH.nil)
      refine step_store_row rfl 39 (.tmp 6) (.tmp 24) rfl fb (reR o) rfl rfl 39 (reR Ou.zero) P2.out reSize rfl (by simp [Value.oneCell']) ?_
      have HQ : Hid ((v2.setRow fb (reR o)).heap[fb]? = some (.cells (reR o) 39)) := setRow_heap _ fb _ _ _ _ P2.out
      have HE : Hid (UT L.lo wb1 (v2.setRow fb (reR o))) := H2.out.far HL.out
      have HAe : Hid (UnAt (v2.setRow fb (reR o)) L (UnQ (M.drop (Pp.tk M n)))) := A2.out.row P2.out rfl (by decide) (by decide)
      refine hK.out _ _ (hS _ HE.out) (fun hHeld => ?_)
      clear hK K
      (try simp only [Act.put, List.getElem_toArray, List.getElem_cons_zero, List.getElem_cons_succ, List.setIfInBounds_toArray, List.set_cons_zero, List.set_cons_succ])
      refine wpAnyH_take (i := 20) (v := ?_) rfl (by kernel_rfl) (by kernel_rfl) (by kernel_rfl) (fun _ _ _ h => h) (Or.inl ⟨by kernel_rfl, ?_⟩) (by assumption) ?_
      rotate_left
      · (intro w hSw; (try dsimp only at hSw); go_simp) <;> with_reducible rfl
      (try simp only [Act.put, List.getElem_toArray, List.getElem_cons_zero, List.getElem_cons_succ, List.setIfInBounds_toArray, List.set_cons_zero, List.set_cons_succ])
      refine wpAnyH_take (i := 21) (v := ?_) rfl (by kernel_rfl) (by kernel_rfl) (by kernel_rfl) (fun _ _ _ h => h) (Or.inl ⟨by kernel_rfl, ?_⟩) (by assumption) ?_
      rotate_left
      · (intro w hSw; (try dsimp only at hSw); go_simp) <;> with_reducible rfl
      (try simp only [Act.put, List.getElem_toArray, List.getElem_cons_zero, List.getElem_cons_succ, List.setIfInBounds_toArray, List.set_cons_zero, List.set_cons_succ])
      refine wpAnyH_take (i := 22) (v := ?_) rfl (by kernel_rfl) (by kernel_rfl) (by kernel_rfl) (fun _ _ _ h => h) (Or.inl ⟨by kernel_rfl, ?_⟩) (by assumption) ?_
      rotate_left
      · (intro w hSw; (try dsimp only at hSw); go_simp) <;> with_reducible rfl
      (try simp only [Act.put, List.getElem_toArray, List.getElem_cons_zero, List.getElem_cons_succ, List.setIfInBounds_toArray, List.set_cons_zero, List.set_cons_succ])
      refine wpAnyH_done (by kernel_rfl) ?_ _
      clear hS hDo
      go_wp2_with fail
      go_meet
      case rel => exact ⟨fb, rfl, rfl, rfl, rfl, by rw [← HWB.out]; exact HL.out, HQ.out, HAe.out, by rw [← HWB.out]; exact HE.out⟩
  case rest =>
  obtain ⟨f1, rfl, rfl, rfl, rfl, hfb, hfr, hac, huc⟩ := hcut
  obtain ⟨w1, hwn⟩ : ∃ V, V = wc := ⟨_, rfl⟩
  rw [← hwn] at hfr hac huc ⊢
  have hut : UT L.lo w0 w1 := (UT.of_below (Di.drewN_below (w := w0) ⟨1, rfl⟩)).trans huc
  have HP1_1 : Hid (w1.heap[f1]? = some (.cells (reR o) 39)) := hfr
  have HX1 : Hid (w1.heap[bb]? = some (.cells #[ptr cc, ptr B, ptr x, ptr y] 44)) := hut.other HX0.out rfl
  have HA1 : Hid (UnAt w1 L (UnQ (M.drop (Pp.tk M n)))) := hac
  have HU1 : Hid (UT L.lo w w1) := HU0.out.trans hut
  clear hwn wc hS hDo hBd hfb hfr hac huc hut  
  obtain ⟨m, hm⟩ : ∃ m, m = d.length := ⟨_, rfl⟩
  have Hm : Hid (m = d.length) := hm
  have HP : Hid (w1.heap[f1]? = some (.cells #[.int .i64 (m : Int), .int .i64 0, Pp.tx d, .int .i64 0, .int .i64 0] 39)) := by
    have := HP1_1.out
    rw [HOE.out] at this
    rw [Hm.out]
    exact this
  have e0 : w1.cell? ⟨f1, 0, none⟩ = some (.int .i64 (m : Int)) := by rw [cell_of_heap HP.out]; rfl
  have e1 : w1.cell? ⟨f1, 1, none⟩ = some (.int .i64 0) := by rw [cell_of_heap HP.out]; rfl
  have e2 : w1.cell? ⟨f1, 2, none⟩ = some (Pp.tx d) := by rw [cell_of_heap HP.out]; rfl
  have ew : o.w = false := by rw [HOE.out]; rfl
  have g0 : ((m : Int) == 0) = false := by have := Hd.out; rw [← hm] at this; simp; omega
  have g1 : ((m : Int) != (m : Int)) = false := by simp
  have hl : (d.length : Int) = (m : Int) := by rw [hm]
  clear hm HP1_1
  go_wp2
  go_ret2
  exact ⟨rfl, HA1.out, HU1.out⟩
end Go.Proofs.YtikjfdihocgfpaaGreatDoor
