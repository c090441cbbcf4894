/- januslaw22: the walk of UnixPipes. -/
import Derived.Test.YtikjfdihocgfpaaGreatDoorPipR22
import Derived.Deep.DeepCutAuto
import Derived.Lib.MinMax
import Derived.BigQuiet
import Derived.Deep.QuietTactic
set_option linter.all false
namespace Go.Proofs.YtikjfdihocgfpaaGreatDoor
open Go.RowKit
def txN : Value → Nat
  | .string b => b.size
  | _ => 0
theorem txN_tx (l : List UInt8) : txN (Pp.tx l) = l.length := by simp [txN, ByteArray.size]
theorem UT.cell {lo g o : Nat} {w w' : World} {v : Value} (h : UT lo w w') (hc : w.cell? ⟨g, o, none⟩ = some v) (hg : g < lo) : w'.cell? ⟨g, o, none⟩ = some v := by
  rw [← hc]
  have hl := cell_lt hc
  have := h.block g hl (Or.inl hg)
  unfold World.cell?
  rw [this]
theorem glue (x y : List UInt8) : ByteArray.mk x.toArray ++ ByteArray.mk y.toArray = ByteArray.mk (x ++ y).toArray := ByteArray.mk_append_mk x y
/-- Texts that came in. -/
def TxIn (w : World) (a0 : Option Addr) (len : Nat) : Prop := ∀ j, j < len → ∃ gb off t, a0 = some ⟨gb, off, none⟩ ∧ w.cell? ⟨gb, off + j, none⟩ = some (Pp.tx t) ∧ t.length ≤ 9223372036854775807
/-- What the loops keep. -/
def Lks (w wr : World) (bb cc B x y : Nat) (L : Pl) (M : List UInt8) : Prop := wr.heap[bb]? = some (.cells #[ptr cc, ptr B, ptr x, ptr y] 44) ∧ UnAt wr L (UnQ M) ∧ Below w.heap.size w wr
set_option maxHeartbeats 16000000 in
set_option maxRecDepth 100000 in
theorem pipes_walk (a0 : Option Addr) (len cap : Nat) (nn : Int) (w : World) (hlen : len ≤ 9223372036854775807) (hin : TxIn w a0 len) : Calls Tryz.prog 4 #[.slice a0 len cap, .int .i64 nn] w fun e w' => e = .returned (.bool true) ∧ Below w.heap.size w w' := by
  have hB := lbegin_at 40 w (by omega) (by omega)
  have HI : Hid (TxIn w a0 len) := hin
  clear hin
  go_enter Tryz.func4, Tryz.ntmps4
  go_wp2_with fail
  refine hB.mono ?_
  rintro e w0 ⟨bb, L, B, G, x, y, rfl, hbg⟩
  have hbe := both_eq bb
  have HX0' : Hid (w0.heap[bb]? = some (.cells #[ptr L.c, ptr B, ptr x, ptr y] 44)) := hbg.box
  have HA0 : Hid (UnAt w0 L Un1) := hbg.un
  have HO0 : Hid (Below w.heap.size w w0) := hbg.old
  have HLo : Hid (w.heap.size ≤ L.lo) := hbg.lo
  clear hB hbg
  obtain ⟨cc, hcc⟩ : ∃ c, c = L.c := ⟨_, rfl⟩
  rw [← hcc] at HX0'
  have HX0 := HX0'
  have Hcc : Hid (cc = L.c) := hcc
  clear hcc HX0'
  have hS : ∀ W, UT L.lo w0.drew W → W.cell? ⟨bb, 0, none⟩ = some (ptr cc) ∧ W.cell? ⟨bb, 1, none⟩ = some (ptr B) := fun W hW => by
    have hb := hW.other HX0.out rfl
    exact ⟨by rw [cell_of_heap hb]; rfl, by rw [cell_of_heap hb]; rfl⟩
  have hDo : ∀ W, UnAt W L Un1 → Calls Tryz.prog 12 #[ptr cc, .iface 41 (ptr B), .int .i64 1, .agg (clR ax2), Pp.tx []] W (DoIs L ao2 (UnQ []) W) := fun W hW => by rw [Hcc.out]; exact by rw [← unP_eq]; exact aw_2 hW B
  have hBd : ∀ W, (Instr.build 48 ([(0, .int .i64 9)] : List (Nat × Value)).toArray).run Tryz.prog W = .ok (.agg (clR ax2)) W := fun W => by kernel_rfl
  unfold DoIs at hDo
  go_upto_region 4 with fail
  go_cut [6, 7, 8, 9] (fun p o2 o3 o4 wc => ∃ fb, p = ptr fb ∧ o2 = Pp.tx (ao2).o ∧ o3 = .int .i64 (ao2).k ∧ o4 = .bool (ao2).w ∧ w0.drew.heap.size ≤ fb ∧ wc.heap[fb]? = some (.cells (reR ao2) 39) ∧ UnAt wc L (UnQ []) ∧ UT L.lo w0.drew wc)
  case first => as_aux_lemma =>
    refine wp_region_held_drew (S := fun w' => w'.cell? ⟨bb, 0, none⟩ = some (ptr cc) ∧ w'.cell? ⟨bb, 1, none⟩ = some (ptr B)) (by kernel_rfl) (hS _ (UT.refl _ _)) (fun hHeld => ?_)
    obtain ⟨wb1, hwb⟩ : ∃ V, V = w0.drew := ⟨_, rfl⟩
    have A0 : Hid (UnAt wb1 L Un1) := by rw [hwb]; exact HA0.out.below (Di.drewN_below (w := w0) ⟨1, rfl⟩)
    rw [← hwb] at hS hHeld ⊢
    have HWB : Hid (wb1 = w0.drew) := hwb
    clear hwb
    refine wpAnyH_take (i := 0) (v := ?_) rfl (by kernel_rfl) (by kernel_rfl) (by kernel_rfl) (fun _ _ _ h => h) (Or.inl ⟨by kernel_rfl, ?_⟩) (by assumption) ?_
    rotate_left
    · (intro w hSw; (try dsimp only at hSw); go_simp) <;> with_reducible rfl
    (try simp only [Act.put, List.getElem_toArray, List.getElem_cons_zero, List.setIfInBounds_toArray, List.set_cons_zero, List.set_cons_succ])
    refine wpAnyH_take (i := 1) (v := ?_) rfl (by kernel_rfl) (by kernel_rfl) (by kernel_rfl) (fun _ _ _ h => h) (Or.inl ⟨by kernel_rfl, ?_⟩) (by assumption) ?_
    rotate_left
    · (intro w hSw; (try dsimp only at hSw); go_simp) <;> with_reducible rfl
    (try simp only [Act.put, List.getElem_toArray, List.getElem_cons_zero, List.getElem_cons_succ, List.setIfInBounds_toArray, List.set_cons_zero, List.set_cons_succ])
    refine wpAnyH_take (i := 2) (v := ?_) rfl (by kernel_rfl) (by kernel_rfl) (by kernel_rfl) (fun _ _ _ h => h) (Or.inl ⟨by kernel_rfl, ?_⟩) (by assumption) ?_
    rotate_left
    · (intro w hSw; (try dsimp only at hSw); go_simp) <;> with_reducible rfl
    (try simp only [Act.put, List.getElem_toArray, List.getElem_cons_zero, List.getElem_cons_succ, List.setIfInBounds_toArray, List.set_cons_zero, List.set_cons_succ])
    refine wpAnyH_take (i := 3) (v := ?_) rfl (by kernel_rfl) (by kernel_rfl) (by kernel_rfl) (fun _ _ _ h => h) (Or.inl ⟨by kernel_rfl, ?_⟩) (by assumption) ?_
    rotate_left
    · (intro w hSw; (try dsimp only at hSw); go_simp) <;> with_reducible rfl
    (try simp only [Act.put, List.getElem_toArray, List.getElem_cons_zero, List.getElem_cons_succ, List.setIfInBounds_toArray, List.set_cons_zero, List.set_cons_succ])
    refine wpAnyH_take (i := 4) (v := ?_) rfl (by kernel_rfl) (by kernel_rfl) (by kernel_rfl) (fun _ _ _ h => h) (Or.inl ⟨by kernel_rfl, ?_⟩) (by assumption) ?_
    rotate_left
    · (intro w hSw; (try dsimp only at hSw); go_simp) <;> with_reducible rfl
    (try simp only [Act.put, List.getElem_toArray, List.getElem_cons_zero, List.getElem_cons_succ, List.setIfInBounds_toArray, List.set_cons_zero, List.set_cons_succ])
    refine wpAnyH_take (i := 5) (v := ?_) rfl (by kernel_rfl) (by kernel_rfl) (by kernel_rfl) (fun _ _ _ h => h) (Or.inl ⟨by kernel_rfl, ?_⟩) (by assumption) ?_
    rotate_left
    · (intro w hSw; (try dsimp only at hSw); go_simp) <;> with_reducible rfl
    (try simp only [Act.put, List.getElem_toArray, List.getElem_cons_zero, List.getElem_cons_succ, List.setIfInBounds_toArray, List.set_cons_zero, List.set_cons_succ])
    refine wpAnyH_take (i := 6) (v := ?_) rfl (by kernel_rfl) (by kernel_rfl) (by kernel_rfl) (fun _ _ _ h => h) (Or.inl ⟨by kernel_rfl, ?_⟩) (by assumption) ?_
    rotate_left
    · (intro w hSw; (try dsimp only at hSw); go_simp) <;> with_reducible rfl
    (try simp only [Act.put, List.getElem_toArray, List.getElem_cons_zero, List.getElem_cons_succ, List.setIfInBounds_toArray, List.set_cons_zero, List.set_cons_succ])
    refine wpAnyH_take (i := 7) (v := ?_) rfl (by kernel_rfl) (by kernel_rfl) (by kernel_rfl) (fun _ _ _ h => h) (Or.inl ⟨by kernel_rfl, ?_⟩) (by assumption) ?_
    rotate_left
    · (intro w hSw; (try dsimp only at hSw); go_simp) <;> with_reducible rfl
    (try simp only [Act.put, List.getElem_toArray, List.getElem_cons_zero, List.getElem_cons_succ, List.setIfInBounds_toArray, List.set_cons_zero, List.set_cons_succ])
    refine wpAnyH_take (i := 8) (v := ?_) rfl (by kernel_rfl) (by kernel_rfl) (by kernel_rfl) (fun _ _ _ h => h) (Or.inl ⟨by kernel_rfl, ?_⟩) (by assumption) ?_
    rotate_left
    · (intro w hSw; (try dsimp only at hSw); go_simp) <;> with_reducible rfl
    (try simp only [Act.put, List.getElem_toArray, List.getElem_cons_zero, List.getElem_cons_succ, List.setIfInBounds_toArray, List.set_cons_zero, List.set_cons_succ])
    refine wpAnyH_take (i := 9) (v := .agg (clR ax2)) rfl (by kernel_rfl) (by kernel_rfl) (by kernel_rfl) (fun _ _ _ h => h) (yieldsIf_build (by kernel_rfl) 48 [(0, .const (.int .i64 9))] rfl [(0, .int .i64 9)] rfl _ hBd) (by assumption) ?_
    (try simp only [Act.put, List.getElem_toArray, List.getElem_cons_zero, List.getElem_cons_succ, List.setIfInBounds_toArray, List.set_cons_zero, List.set_cons_succ])
    obtain ⟨v0, hv0⟩ : ∃ V, V = wb1 := ⟨_, rfl⟩
    have H0 : Hid (UT L.lo wb1 v0) := by rw [hv0]; exact UT.refl _ _
    have A0' : Hid (UnAt v0 L Un1) := by rw [hv0]; exact A0.out
    rw [← hv0]
    clear hv0 A0 hBd
    have A0 : Hid (UnAt v0 L Un1) := A0'.out
    clear A0'
    refine wpAnyH_ready (rs := [10, 16]) (by kernel_rfl) (by simp) ?_
    refine AllReadyH.cons rfl (fun K hK => ?_) (AllReadyH.cons rfl (fun K hK => ?_) (AllReadyH.nil))
    · go_simp
      refine (hDo v0 A0.out).mono ?_
      rintro e v1 ⟨rfl, ha, hu⟩
      have H1 : Hid (UT L.lo wb1 v1) := H0.out.trans hu
      have A1 : Hid (UnAt v1 L (UnQ [])) := ha
      clear hu ha
      refine hK.out _ _ (hS _ H1.out) (fun hHeld => ?_)
      clear hK K
      (try simp only [Act.put, List.getElem_toArray, List.getElem_cons_zero, List.getElem_cons_succ, List.setIfInBounds_toArray, List.set_cons_zero, List.set_cons_succ])
      refine wpAnyH_take (i := 11) (v := ?_) rfl (by kernel_rfl) (by kernel_rfl) (by kernel_rfl) (fun _ _ _ h => h) (Or.inl ⟨by kernel_rfl, ?_⟩) (by assumption) ?_
      rotate_left
      · (intro w hSw; (try dsimp only at hSw); go_simp) <;> with_reducible rfl
      (try simp only [Act.put, List.getElem_toArray, List.getElem_cons_zero, List.getElem_cons_succ, List.setIfInBounds_toArray, List.set_cons_zero, List.set_cons_succ])
      refine wpAnyH_take (i := 12) (v := ?_) rfl (by kernel_rfl) (by kernel_rfl) (by kernel_rfl) (fun _ _ _ h => h) (Or.inl ⟨by kernel_rfl, ?_⟩) (by assumption) ?_
      rotate_left
      · (intro w hSw; (try dsimp only at hSw); go_simp) <;> with_reducible rfl
      (try simp only [Act.put, List.getElem_toArray, List.getElem_cons_zero, List.getElem_cons_succ, List.setIfInBounds_toArray, List.set_cons_zero, List.set_cons_succ])
      refine wpAnyH_take (i := 13) (v := ?_) rfl (by kernel_rfl) (by kernel_rfl) (by kernel_rfl) (fun _ _ _ h => h) (Or.inl ⟨by kernel_rfl, ?_⟩) (by assumption) ?_
      rotate_left
      · (intro w hSw; (try dsimp only at hSw); go_simp) <;> with_reducible rfl
      (try simp only [Act.put, List.getElem_toArray, List.getElem_cons_zero, List.getElem_cons_succ, List.setIfInBounds_toArray, List.set_cons_zero, List.set_cons_succ])
      refine wpAnyH_take (i := 14) (v := ?_) rfl (by kernel_rfl) (by kernel_rfl) (by kernel_rfl) (fun _ _ _ h => h) (Or.inl ⟨by kernel_rfl, ?_⟩) (by assumption) ?_
      rotate_left
      · (intro w hSw; (try dsimp only at hSw); go_simp) <;> with_reducible rfl
      (try simp only [Act.put, List.getElem_toArray, List.getElem_cons_zero, List.getElem_cons_succ, List.setIfInBounds_toArray, List.set_cons_zero, List.set_cons_succ])
      refine wpAnyH_take (i := 15) (v := ?_) rfl (by kernel_rfl) (by kernel_rfl) (by kernel_rfl) (fun _ _ _ h => h) (Or.inl ⟨by kernel_rfl, ?_⟩) (by assumption) ?_
      rotate_left
      · (intro w hSw; (try dsimp only at hSw); go_simp) <;> with_reducible rfl
      (try simp only [Act.put, List.getElem_toArray, List.getElem_cons_zero, List.getElem_cons_succ, List.setIfInBounds_toArray, List.set_cons_zero, List.set_cons_succ])
      refine wpAnyH_ready (rs := [16]) (by kernel_rfl) (by simp) ?_
      refine AllReadyH.cons rfl (fun K hK => ?_) (AllReadyH.nil)
      refine step_alloc rfl 39 rfl (reR Ou.zero) ret_alloc ?_
      obtain ⟨v2, hv⟩ : ∃ V, V = v1.alloc (.cells (reR Ou.zero) 39) := ⟨_, rfl⟩
      obtain ⟨fb, hfb⟩ : ∃ k, k = v1.heap.size := ⟨_, rfl⟩
      have H2 : Hid (UT L.lo wb1 v2) := by rw [hv]; exact H1.out.trans (UT.of_below (below_alloc v1 _))
      have A2 : Hid (UnAt v2 L (UnQ [])) := by rw [hv]; exact A1.out.below (below_alloc v1 _)
      have P2 : Hid (v2.heap[fb]? = some (.cells (reR Ou.zero) 39)) := by rw [hv, hfb]; exact heap_alloc_new _ _
      have HL : Hid (wb1.heap.size ≤ fb) := by rw [hfb]; exact H1.out.size
      rw [← hv, ← hfb]
      clear hv hfb
      refine hK.out _ _ (hS _ H2.out) (fun hHeld => ?_)
      clear hK K
      (try simp only [Act.put, List.getElem_toArray, List.getElem_cons_zero, List.getElem_cons_succ, List.setIfInBounds_toArray, List.set_cons_zero, List.set_cons_succ])
      refine wpAnyH_ready (rs := [17]) (by kernel_rfl) (by simp) ?_
      refine AllReadyH.cons rfl (fun K hK => ?_) (AllReadyH.nil)
      refine step_store_row rfl 39 (.tmp 6) (.tmp 44) rfl fb (reR ao2) rfl rfl 39 (reR Ou.zero) P2.out reSize rfl (by simp [Value.oneCell']) ?_
      have HQ : Hid ((v2.setRow fb (reR ao2)).heap[fb]? = some (.cells (reR ao2) 39)) := setRow_heap _ fb _ _ _ _ P2.out
      have HE : Hid (UT L.lo wb1 (v2.setRow fb (reR ao2))) := H2.out.far HL.out
      have HAe : Hid (UnAt (v2.setRow fb (reR ao2)) L (UnQ [])) := A2.out.row P2.out rfl (by decide) (by decide)
      refine hK.out _ _ (hS _ HE.out) (fun hHeld => ?_)
      clear hK K
      (try simp only [Act.put, List.getElem_toArray, List.getElem_cons_zero, List.getElem_cons_succ, List.setIfInBounds_toArray, List.set_cons_zero, List.set_cons_succ])
      refine wpAnyH_take (i := 18) (v := ?_) rfl (by kernel_rfl) (by kernel_rfl) (by kernel_rfl) (fun _ _ _ h => h) (Or.inl ⟨by kernel_rfl, ?_⟩) (by assumption) ?_
      rotate_left
      · (intro w hSw; (try dsimp only at hSw); go_simp) <;> with_reducible rfl
      (try simp only [Act.put, List.getElem_toArray, List.getElem_cons_zero, List.getElem_cons_succ, List.setIfInBounds_toArray, List.set_cons_zero, List.set_cons_succ])
      refine wpAnyH_take (i := 19) (v := ?_) rfl (by kernel_rfl) (by kernel_rfl) (by kernel_rfl) (fun _ _ _ h => h) (Or.inl ⟨by kernel_rfl, ?_⟩) (by assumption) ?_
      rotate_left
      · (intro w hSw; (try dsimp only at hSw); go_simp) <;> with_reducible rfl
      (try simp only [Act.put, List.getElem_toArray, List.getElem_cons_zero, List.getElem_cons_succ, List.setIfInBounds_toArray, List.set_cons_zero, List.set_cons_succ])
      refine wpAnyH_take (i := 20) (v := ?_) rfl (by kernel_rfl) (by kernel_rfl) (by kernel_rfl) (fun _ _ _ h => h) (Or.inl ⟨by kernel_rfl, ?_⟩) (by assumption) ?_
      rotate_left
      · (intro w hSw; (try dsimp only at hSw); go_simp) <;> with_reducible rfl
      (try simp only [Act.put, List.getElem_toArray, List.getElem_cons_zero, List.getElem_cons_succ, List.setIfInBounds_toArray, List.set_cons_zero, List.set_cons_succ])
      refine wpAnyH_done (by kernel_rfl) ?_ _
      clear hS hDo
      go_wp2_with fail
      go_meet
      case rel => exact ⟨fb, rfl, rfl, rfl, rfl, by rw [← HWB.out]; exact HL.out, HQ.out, HAe.out, by rw [← HWB.out]; exact HE.out⟩
    · refine step_alloc rfl 39 rfl (reR Ou.zero) ret_alloc ?_
      obtain ⟨v1, hv⟩ : ∃ V, V = v0.alloc (.cells (reR Ou.zero) 39) := ⟨_, rfl⟩
      obtain ⟨fb, hfb⟩ : ∃ k, k = v0.heap.size := ⟨_, rfl⟩
      have H1 : Hid (UT L.lo wb1 v1) := by rw [hv]; exact H0.out.trans (UT.of_below (below_alloc v0 _))
      have A1 : Hid (UnAt v1 L Un1) := by rw [hv]; exact A0.out.below (below_alloc v0 _)
      have P1 : Hid (v1.heap[fb]? = some (.cells (reR Ou.zero) 39)) := by rw [hv, hfb]; exact heap_alloc_new _ _
      have HL : Hid (wb1.heap.size ≤ fb) := by rw [hfb]; exact H0.out.size
      rw [← hv, ← hfb]
      clear hv hfb
      refine hK.out _ _ (hS _ H1.out) (fun hHeld => ?_)
      clear hK K
      (try simp only [Act.put, List.getElem_toArray, List.getElem_cons_zero, List.getElem_cons_succ, List.setIfInBounds_toArray, List.set_cons_zero, List.set_cons_succ])
      refine wpAnyH_ready (rs := [10]) (by kernel_rfl) (by simp) ?_
      refine AllReadyH.cons rfl (fun K hK => ?_) (AllReadyH.nil)
      go_simp
      refine (hDo v1 A1.out).mono ?_
      rintro e v2 ⟨rfl, ha, hu⟩
      have H2 : Hid (UT L.lo wb1 v2) := H1.out.trans hu
      have A2 : Hid (UnAt v2 L (UnQ [])) := ha
      have P2 : Hid (v2.heap[fb]? = some (.cells (reR Ou.zero) 39)) := hu.other P1.out rfl
      clear hu ha
      refine hK.out _ _ (hS _ H2.out) (fun hHeld => ?_)
      clear hK K
      (try simp only [Act.put, List.getElem_toArray, List.getElem_cons_zero, List.getElem_cons_succ, List.setIfInBounds_toArray, List.set_cons_zero, List.set_cons_succ])
      refine wpAnyH_take (i := 11) (v := ?_) rfl (by kernel_rfl) (by kernel_rfl) (by kernel_rfl) (fun _ _ _ h => h) (Or.inl ⟨by kernel_rfl, ?_⟩) (by assumption) ?_
      rotate_left
      · (intro w hSw; (try dsimp only at hSw); go_simp) <;> with_reducible rfl
      (try simp only [Act.put, List.getElem_toArray, List.getElem_cons_zero, List.getElem_cons_succ, List.setIfInBounds_toArray, List.set_cons_zero, List.set_cons_succ])
      refine wpAnyH_take (i := 12) (v := ?_) rfl (by kernel_rfl) (by kernel_rfl) (by kernel_rfl) (fun _ _ _ h => h) (Or.inl ⟨by kernel_rfl, ?_⟩) (by assumption) ?_
      rotate_left
      · (intro w hSw; (try dsimp only at hSw); go_simp) <;> with_reducible rfl
      (try simp only [Act.put, List.getElem_toArray, List.getElem_cons_zero, List.getElem_cons_succ, List.setIfInBounds_toArray, List.set_cons_zero, List.set_cons_succ])
      refine wpAnyH_take (i := 13) (v := ?_) rfl (by kernel_rfl) (by kernel_rfl) (by kernel_rfl) (fun _ _ _ h => h) (Or.inl ⟨by kernel_rfl, ?_⟩) (by assumption) ?_
      rotate_left
      · (intro w hSw; (try dsimp only at hSw); go_simp) <;> with_reducible rfl
      (try simp only [Act.put, List.getElem_toArray, List.getElem_cons_zero, List.getElem_cons_succ, List.setIfInBounds_toArray, List.set_cons_zero, List.set_cons_succ])
      refine wpAnyH_take (i := 14) (v := ?_) rfl (by kernel_rfl) (by kernel_rfl) (by kernel_rfl) (fun _ _ _ h => h) (Or.inl ⟨by kernel_rfl, ?_⟩) (by assumption) ?_
      rotate_left
      · (intro w hSw; (try dsimp only at hSw); go_simp) <;> with_reducible rfl
      (try simp only [Act.put, List.getElem_toArray, List.getElem_cons_zero, List.getElem_cons_succ, List.setIfInBounds_toArray, List.set_cons_zero, List.set_cons_succ])
      refine wpAnyH_take (i := 15) (v := ?_) rfl (by kernel_rfl) (by kernel_rfl) (by kernel_rfl) (fun _ _ _ h => h) (Or.inl ⟨by kernel_rfl, ?_⟩) (by assumption) ?_
      rotate_left
      · (intro w hSw; (try dsimp only at hSw); go_simp) <;> with_reducible rfl
      (try simp only [Act.put, List.getElem_toArray, List.getElem_cons_zero, List.getElem_cons_succ, List.setIfInBounds_toArray, List.set_cons_zero, List.set_cons_succ])
      refine wpAnyH_ready (rs := [17]) (by kernel_rfl) (by simp) ?_
      refine AllReadyH.cons rfl (fun K hK => ?_) (AllReadyH.nil)
      refine step_store_row rfl 39 (.tmp 6) (.tmp 44) rfl fb (reR ao2) rfl rfl 39 (reR Ou.zero) P2.out reSize rfl (by simp [Value.oneCell']) ?_
      have HQ : Hid ((v2.setRow fb (reR ao2)).heap[fb]? = some (.cells (reR ao2) 39)) := setRow_heap _ fb _ _ _ _ P2.out
      have HE : Hid (UT L.lo wb1 (v2.setRow fb (reR ao2))) := H2.out.far HL.out
      have HAe : Hid (UnAt (v2.setRow fb (reR ao2)) L (UnQ [])) := A2.out.row P2.out rfl (by decide) (by decide)
      refine hK.out _ _ (hS _ HE.out) (fun hHeld => ?_)
      clear hK K
      (try simp only [Act.put, List.getElem_toArray, List.getElem_cons_zero, List.getElem_cons_succ, List.setIfInBounds_toArray, List.set_cons_zero, List.set_cons_succ])
      refine wpAnyH_take (i := 18) (v := ?_) rfl (by kernel_rfl) (by kernel_rfl) (by kernel_rfl) (fun _ _ _ h => h) (Or.inl ⟨by kernel_rfl, ?_⟩) (by assumption) ?_
      rotate_left
      · (intro w hSw; (try dsimp only at hSw); go_simp) <;> with_reducible rfl
      (try simp only [Act.put, List.getElem_toArray, List.getElem_cons_zero, List.getElem_cons_succ, List.setIfInBounds_toArray, List.set_cons_zero, List.set_cons_succ])
      refine wpAnyH_take (i := 19) (v := ?_) rfl (by kernel_rfl) (by kernel_rfl) (by kernel_rfl) (fun _ _ _ h => h) (Or.inl ⟨by kernel_rfl, ?_⟩) (by assumption) ?_
      rotate_left
      · (intro w hSw; (try dsimp only at hSw); go_simp) <;> with_reducible rfl
      (try simp only [Act.put, List.getElem_toArray, List.getElem_cons_zero, List.getElem_cons_succ, List.setIfInBounds_toArray, List.set_cons_zero, List.set_cons_succ])
      refine wpAnyH_take (i := 20) (v := ?_) rfl (by kernel_rfl) (by kernel_rfl) (by kernel_rfl) (fun _ _ _ h => h) (Or.inl ⟨by kernel_rfl, ?_⟩) (by assumption) ?_
      rotate_left
      · (intro w hSw; (try dsimp only at hSw); go_simp) <;> with_reducible rfl
      (try simp only [Act.put, List.getElem_toArray, List.getElem_cons_zero, List.getElem_cons_succ, List.setIfInBounds_toArray, List.set_cons_zero, List.set_cons_succ])
      refine wpAnyH_done (by kernel_rfl) ?_ _
      clear hS hDo
      go_wp2_with fail
      go_meet
      case rel => exact ⟨fb, rfl, rfl, rfl, rfl, by rw [← HWB.out]; exact HL.out, HQ.out, HAe.out, by rw [← HWB.out]; exact HE.out⟩
  case rest =>
  obtain ⟨f1, rfl, rfl, rfl, rfl, hfb, hfr, hac, huc⟩ := hcut
  obtain ⟨w1, hwn⟩ : ∃ V, V = wc := ⟨_, rfl⟩
  rw [← hwn] at hfr hac huc ⊢
  have hut : UT L.lo w0 w1 := (UT.of_below (Di.drewN_below (w := w0) ⟨1, rfl⟩)).trans huc
  have HP1_1 : Hid (w1.heap[f1]? = some (.cells (reR ao2) 39)) := hfr
  have HX1 : Hid (w1.heap[bb]? = some (.cells #[ptr cc, ptr B, ptr x, ptr y] 44)) := hut.other HX0.out rfl
  have HA1 : Hid (UnAt w1 L (UnQ [])) := hac
  have HO1 : Hid (Below w.heap.size w w1) := HO0.out.trans (hut.below HLo.out HO0.out.size)
  clear hwn wc hS hDo hBd hfb hfr hac huc hut  
  have d3 : w1.cell? ⟨f1, 3, none⟩ = some (.int .i64 3) := by rw [cell_of_heap HP1_1.out]; rfl
  have d4 : w1.cell? ⟨f1, 4, none⟩ = some (.int .i64 4) := by rw [cell_of_heap HP1_1.out]; rfl
  have hT : ∀ W, (binOp .neq 37 (.agg #[.int .i64 3, .int .i64 4]) (.agg #[.int .i64 3, .int .i64 4])).run Tryz.prog W = .ok (.bool false) W := fun W => by kernel_rfl
  obtain ⟨n, hn⟩ : ∃ n : Int, Max.max 1 (Min.min nn 20) = n := ⟨_, rfl⟩
  have Hn : Hid (1 ≤ n ∧ n ≤ 20) := by
    show _ ∧ _
    rw [← hn]
    omega
  go_upto_region 8 with fail
  clear hT d3 d4 hn HP1_1
  have HL1 : Hid (Lks w w1 bb cc B x y L []) := ⟨HX1.out, HA1.out, HO1.out⟩
  clear HX1 HA1 HO1 HX0 HA0 HO0
  go_wp2_with fail
  go_loopw [10, 11, 12] (fun s t i wr => ∃ (k : Nat) (O Lp : List UInt8), k ≤ len ∧ k ≤ 30 ∧ s = Pp.tx (O ++ Lp) ∧ t = Pp.tx O ∧ i = .int .i64 k ∧ (O ++ Lp).length ≤ 50 * k ∧ Hid (Lks w wr bb cc B x y L Lp)) (fun _ _ i _ => 30 - (intOf i).toNat)
  case atStart => exact ⟨0, [], [], by omega, by omega, rfl, rfl, rfl, by simp, HL1⟩
  case round =>
    clear HL1
    obtain ⟨k, O, Lp, hk, hk2, rfl, rfl, rfl, hbd, HR⟩ := hrel
    have hbd2 : O.length + Lp.length ≤ 50 * k := by rw [List.length_append] at hbd; exact hbd
    clear hbd
    by_cases hlt : k < len ∧ k < 30
    · obtain ⟨l1, l2⟩ := hlt
      have g1 : decide ((k : Int) < (len : Int)) = true := decide_eq_true (by omega)
      have g2 : decide ((k : Int) < 30) = true := decide_eq_true (by omega)
      have hki : (k : Int) < (len : Int) := by omega
      obtain ⟨gb, off, ds, rfl, hc, hdl⟩ := HI.out k l1
      have c0 : wr.cell? ⟨gb, off + k, none⟩ = some (Pp.tx ds) := (HR.out.2.2.cell (cell_lt hc)).trans hc
      have hsz : (ByteArray.mk ds.toArray).size = ds.length := by simp [ByteArray.size]
      by_cases h0 : ds = []
      · subst h0
        have hs0 : ((⟨#[]⟩ : ByteArray) == ⟨#[]⟩) = true := by decide
        clear hc hdl
        go_wp2
        go_roundw
        case rel => exact ⟨k + 1, O, Lp, by omega, by omega, rfl, rfl, by go_num, by rw [List.length_append]; omega, HR⟩
        case measure => simp [intOf]; omega
      · have hs0 := beq_nil_of h0
        by_cases hlong : 50 < ds.length
        · have g3 : decide (50 < (ds.length : Int)) = true := decide_eq_true (by omega)
          clear hc hdl h0
          go_wp2
          all_goals go_roundw
          all_goals first
            | exact ⟨k + 1, O, Lp, by omega, by omega, rfl, rfl, by go_num, by rw [List.length_append]; omega, HR⟩
            | (simp [intOf]; omega)
        · have g3 : decide (50 < (ds.length : Int)) = false := decide_eq_false (by omega)
          obtain ⟨w2, hw2⟩ : ∃ V, V = wr := ⟨_, rfl⟩
          rw [← hw2] at HR c0 ⊢
          have HX2 : Hid (w2.heap[bb]? = some (.cells #[ptr cc, ptr B, ptr x, ptr y] 44)) := HR.out.1
          have HA2 : Hid (UnAt w2 L (UnQ Lp)) := HR.out.2.1
          have HO2 : Hid (Below w.heap.size w w2) := HR.out.2.2
          have HT2 : Hid (w2.cell? ⟨gb, off + k, none⟩ = some (Pp.tx ds)) := c0
          have Hgb : Hid (gb < L.lo) := by have h1 : gb < w.heap.size := cell_lt hc; have h2 := HLo.out; show _ < _; omega
          have Hds : Hid (ds ≠ []) := h0
          have HTw : Hid (w.cell? ⟨gb, off + k, none⟩ = some (Pp.tx ds)) := hc
          have Hl50 : Hid (ds.length ≤ 50) := by show _ ≤ _; omega
          have Hbd : Hid (O.length + Lp.length ≤ 50 * k ∧ k < 30 ∧ k < len) := ⟨hbd2, l2, l1⟩
          obtain ⟨o, ho⟩ : ∃ o, o = pwO Lp ds := ⟨_, rfl⟩
          obtain ⟨Lq, hLq⟩ : ∃ M, M = Lp ++ ds.take (Pp.putN Lp ds) := ⟨_, rfl⟩
          have Hoo : Hid (o = pwO Lp ds) := ho
          have HLq : Hid (Lq = Lp ++ ds.take (Pp.putN Lp ds)) := hLq
          clear hw2 wr HR hc hdl h0 hlong ho hLq hbd2
          go_upto_region 13 with fail
          case roundEnd =>
            have hb := Hbd.out
            refine ⟨⟨k + 1, O, Lp, by omega, by omega, rfl, rfl, by go_num, by rw [List.length_append]; omega, ⟨HX2.out, HA2.out, HO2.out⟩⟩, ?_⟩
            simp [intOf]
            omega
          clear g1 g2 g3 hs0 hsz c0
          have hS : ∀ W, UT L.lo w2.drew W → W.cell? ⟨bb, 0, none⟩ = some (ptr cc) ∧ W.cell? ⟨bb, 1, none⟩ = some (ptr B) ∧ W.cell? ⟨gb, off + k, none⟩ = some (Pp.tx ds) := fun W hW => by
            have hb := hW.other HX2.out rfl
            exact ⟨by rw [cell_of_heap hb]; rfl, by rw [cell_of_heap hb]; rfl, hW.cell (HT2.out : w2.drew.cell? ⟨gb, off + k, none⟩ = some (Pp.tx ds)) Hgb.out⟩
          have hDo : ∀ W, UnAt W L (UnQ Lp) → Calls Tryz.prog 12 #[ptr cc, .iface 41 (ptr B), .int .i64 1, .agg (clR (⟨8, 4, 0, 0, ds, []⟩ : Cl)), Pp.tx []] W (DoIs L o (UnQ Lq) W) := fun W hW => by rw [Hcc.out]; exact by rw [Hoo.out, HLq.out]; exact pq_write hW B ds Hds.out
          have hBd : ∀ W, (Instr.build 48 ([(0, .int .i64 8), (1, .int .u64 4), (4, Pp.tx ds)] : List (Nat × Value)).toArray).run Tryz.prog W = .ok (.agg (clR (⟨8, 4, 0, 0, ds, []⟩ : Cl))) W := fun W => by kernel_rfl
          unfold DoIs at hDo
          go_upto_region 13 with fail
          go_cut [13, 14, 15, 16] (fun p o2 o3 o4 wc => ∃ fb, p = ptr fb ∧ o2 = Pp.tx (o).o ∧ o3 = .int .i64 (o).k ∧ o4 = .bool (o).w ∧ w2.drew.heap.size ≤ fb ∧ wc.heap[fb]? = some (.cells (reR o) 39) ∧ UnAt wc L (UnQ Lq) ∧ UT L.lo w2.drew wc)
          case first => as_aux_lemma =>
            refine wp_region_held_drew (S := fun w' => w'.cell? ⟨bb, 0, none⟩ = some (ptr cc) ∧ w'.cell? ⟨bb, 1, none⟩ = some (ptr B) ∧ w'.cell? ⟨gb, off + k, none⟩ = some (Pp.tx ds)) (by kernel_rfl) (hS _ (UT.refl _ _)) (fun hHeld => ?_)
            obtain ⟨wb3, hwb⟩ : ∃ V, V = w2.drew := ⟨_, rfl⟩
            have A0 : Hid (UnAt wb3 L (UnQ Lp)) := by rw [hwb]; exact HA2.out.below (Di.drewN_below (w := w2) ⟨1, rfl⟩)
            rw [← hwb] at hS hHeld ⊢
            have HWB : Hid (wb3 = w2.drew) := hwb
            clear hwb
            refine wpAnyH_take (i := 0) (v := ?_) rfl (by kernel_rfl) (by kernel_rfl) (by kernel_rfl) (fun _ _ _ h => h) (Or.inl ⟨by kernel_rfl, ?_⟩) (by assumption) ?_
            rotate_left
            · (intro w hSw; (try dsimp only at hSw); go_simp) <;> with_reducible rfl
            (try simp only [Act.put, List.getElem_toArray, List.getElem_cons_zero, List.setIfInBounds_toArray, List.set_cons_zero, List.set_cons_succ])
            refine wpAnyH_take (i := 1) (v := ?_) rfl (by kernel_rfl) (by kernel_rfl) (by kernel_rfl) (fun _ _ _ h => h) (Or.inl ⟨by kernel_rfl, ?_⟩) (by assumption) ?_
            rotate_left
            · (intro w hSw; (try dsimp only at hSw); go_simp) <;> with_reducible rfl
            (try simp only [Act.put, List.getElem_toArray, List.getElem_cons_zero, List.getElem_cons_succ, List.setIfInBounds_toArray, List.set_cons_zero, List.set_cons_succ])
            refine wpAnyH_take (i := 2) (v := ?_) rfl (by kernel_rfl) (by kernel_rfl) (by kernel_rfl) (fun _ _ _ h => h) (Or.inl ⟨by kernel_rfl, ?_⟩) (by assumption) ?_
            rotate_left
            · (intro w hSw; (try dsimp only at hSw); go_simp) <;> with_reducible rfl
            (try simp only [Act.put, List.getElem_toArray, List.getElem_cons_zero, List.getElem_cons_succ, List.setIfInBounds_toArray, List.set_cons_zero, List.set_cons_succ])
            refine wpAnyH_take (i := 3) (v := ?_) rfl (by kernel_rfl) (by kernel_rfl) (by kernel_rfl) (fun _ _ _ h => h) (Or.inl ⟨by kernel_rfl, ?_⟩) (by assumption) ?_
            rotate_left
            · (intro w hSw; (try dsimp only at hSw); go_simp) <;> with_reducible rfl
            (try simp only [Act.put, List.getElem_toArray, List.getElem_cons_zero, List.getElem_cons_succ, List.setIfInBounds_toArray, List.set_cons_zero, List.set_cons_succ])
            refine wpAnyH_take (i := 4) (v := ?_) rfl (by kernel_rfl) (by kernel_rfl) (by kernel_rfl) (fun _ _ _ h => h) (Or.inl ⟨by kernel_rfl, ?_⟩) (by assumption) ?_
            rotate_left
            · (intro w hSw; (try dsimp only at hSw); go_simp) <;> with_reducible rfl
            (try simp only [Act.put, List.getElem_toArray, List.getElem_cons_zero, List.getElem_cons_succ, List.setIfInBounds_toArray, List.set_cons_zero, List.set_cons_succ])
            refine wpAnyH_take (i := 5) (v := ?_) rfl (by kernel_rfl) (by kernel_rfl) (by kernel_rfl) (fun _ _ _ h => h) (Or.inl ⟨by kernel_rfl, ?_⟩) (by assumption) ?_
            rotate_left
            · (intro w hSw; (try dsimp only at hSw); go_simp) <;> with_reducible rfl
            (try simp only [Act.put, List.getElem_toArray, List.getElem_cons_zero, List.getElem_cons_succ, List.setIfInBounds_toArray, List.set_cons_zero, List.set_cons_succ])
            refine wpAnyH_take (i := 6) (v := ?_) rfl (by kernel_rfl) (by kernel_rfl) (by kernel_rfl) (fun _ _ _ h => h) (Or.inl ⟨by kernel_rfl, ?_⟩) (by assumption) ?_
            rotate_left
            · (intro w hSw; (try dsimp only at hSw); go_simp) <;> with_reducible rfl
            (try simp only [Act.put, List.getElem_toArray, List.getElem_cons_zero, List.getElem_cons_succ, List.setIfInBounds_toArray, List.set_cons_zero, List.set_cons_succ])
            refine wpAnyH_take (i := 7) (v := ?_) rfl (by kernel_rfl) (by kernel_rfl) (by kernel_rfl) (fun _ _ _ h => h) (Or.inl ⟨by kernel_rfl, ?_⟩) (by assumption) ?_
            rotate_left
            · (intro w hSw; (try dsimp only at hSw); go_simp) <;> with_reducible rfl
            (try simp only [Act.put, List.getElem_toArray, List.getElem_cons_zero, List.getElem_cons_succ, List.setIfInBounds_toArray, List.set_cons_zero, List.set_cons_succ])
            refine wpAnyH_take (i := 8) (v := ?_) rfl (by kernel_rfl) (by kernel_rfl) (by kernel_rfl) (fun _ _ _ h => h) (Or.inl ⟨by kernel_rfl, ?_⟩) (by assumption) ?_
            rotate_left
            · (intro w hSw; (try dsimp only at hSw); go_simp) <;> with_reducible rfl
            (try simp only [Act.put, List.getElem_toArray, List.getElem_cons_zero, List.getElem_cons_succ, List.setIfInBounds_toArray, List.set_cons_zero, List.set_cons_succ])
            refine wpAnyH_take (i := 9) (v := ?_) rfl (by kernel_rfl) (by kernel_rfl) (by kernel_rfl) (fun _ _ _ h => h) (Or.inl ⟨by kernel_rfl, ?_⟩) (by assumption) ?_
            rotate_left
            · (intro w hSw; (try dsimp only at hSw); go_simp) <;> with_reducible rfl
            (try simp only [Act.put, List.getElem_toArray, List.getElem_cons_zero, List.getElem_cons_succ, List.setIfInBounds_toArray, List.set_cons_zero, List.set_cons_succ])
            refine wpAnyH_take (i := 10) (v := ?_) rfl (by kernel_rfl) (by kernel_rfl) (by kernel_rfl) (fun _ _ _ h => h) (Or.inl ⟨by kernel_rfl, ?_⟩) (by assumption) ?_
            rotate_left
            · (intro w hSw; (try dsimp only at hSw); go_simp) <;> with_reducible rfl
            (try simp only [Act.put, List.getElem_toArray, List.getElem_cons_zero, List.getElem_cons_succ, List.setIfInBounds_toArray, List.set_cons_zero, List.set_cons_succ])
            refine wpAnyH_take (i := 11) (v := ?_) rfl (by kernel_rfl) (by kernel_rfl) (by kernel_rfl) (fun _ _ _ h => h) (Or.inl ⟨by kernel_rfl, ?_⟩) (by assumption) ?_
            rotate_left
            · (intro w hSw; (try dsimp only at hSw); go_simp) <;> with_reducible rfl
            (try simp only [Act.put, List.getElem_toArray, List.getElem_cons_zero, List.getElem_cons_succ, List.setIfInBounds_toArray, List.set_cons_zero, List.set_cons_succ])
            refine wpAnyH_take (i := 12) (v := ?_) rfl (by kernel_rfl) (by kernel_rfl) (by kernel_rfl) (fun _ _ _ h => h) (Or.inl ⟨by kernel_rfl, ?_⟩) (by assumption) ?_
            rotate_left
            · (intro w hSw; (try dsimp only at hSw); go_simp) <;> with_reducible rfl
            (try simp only [Act.put, List.getElem_toArray, List.getElem_cons_zero, List.getElem_cons_succ, List.setIfInBounds_toArray, List.set_cons_zero, List.set_cons_succ])
            refine wpAnyH_take (i := 13) (v := .agg (clR (⟨8, 4, 0, 0, ds, []⟩ : Cl))) rfl (by kernel_rfl) (by kernel_rfl) (by kernel_rfl) (fun _ _ _ h => h) (yieldsIf_build (by kernel_rfl) 48 [(0, .const (.int .i64 8)), (1, .const (.int .u64 4)), (4, .tmp 91)] rfl [(0, .int .i64 8), (1, .int .u64 4), (4, Pp.tx ds)] rfl _ hBd) (by assumption) ?_
            (try simp only [Act.put, List.getElem_toArray, List.getElem_cons_zero, List.getElem_cons_succ, List.setIfInBounds_toArray, List.set_cons_zero, List.set_cons_succ])
            obtain ⟨v0, hv0⟩ : ∃ V, V = wb3 := ⟨_, rfl⟩
            have H0 : Hid (UT L.lo wb3 v0) := by rw [hv0]; exact UT.refl _ _
            have A0' : Hid (UnAt v0 L (UnQ Lp)) := by rw [hv0]; exact A0.out
            rw [← hv0]
            clear hv0 A0 hBd
            have A0 : Hid (UnAt v0 L (UnQ Lp)) := A0'.out
            clear A0'
            refine wpAnyH_ready (rs := [14, 20]) (by kernel_rfl) (by simp) ?_
            refine AllReadyH.cons rfl (fun K hK => ?_) (AllReadyH.cons rfl (fun K hK => ?_) (AllReadyH.nil))
            · go_simp
              refine (hDo v0 A0.out).mono ?_
              rintro e v1 ⟨rfl, ha, hu⟩
              have H1 : Hid (UT L.lo wb3 v1) := H0.out.trans hu
              have A1 : Hid (UnAt v1 L (UnQ Lq)) := ha
              clear hu ha
              refine hK.out _ _ (hS _ H1.out) (fun hHeld => ?_)
              clear hK K
              (try simp only [Act.put, List.getElem_toArray, List.getElem_cons_zero, List.getElem_cons_succ, List.setIfInBounds_toArray, List.set_cons_zero, List.set_cons_succ])
              refine wpAnyH_take (i := 15) (v := ?_) rfl (by kernel_rfl) (by kernel_rfl) (by kernel_rfl) (fun _ _ _ h => h) (Or.inl ⟨by kernel_rfl, ?_⟩) (by assumption) ?_
              rotate_left
              · (intro w hSw; (try dsimp only at hSw); go_simp) <;> with_reducible rfl
              (try simp only [Act.put, List.getElem_toArray, List.getElem_cons_zero, List.getElem_cons_succ, List.setIfInBounds_toArray, List.set_cons_zero, List.set_cons_succ])
              refine wpAnyH_take (i := 16) (v := ?_) rfl (by kernel_rfl) (by kernel_rfl) (by kernel_rfl) (fun _ _ _ h => h) (Or.inl ⟨by kernel_rfl, ?_⟩) (by assumption) ?_
              rotate_left
              · (intro w hSw; (try dsimp only at hSw); go_simp) <;> with_reducible rfl
              (try simp only [Act.put, List.getElem_toArray, List.getElem_cons_zero, List.getElem_cons_succ, List.setIfInBounds_toArray, List.set_cons_zero, List.set_cons_succ])
              refine wpAnyH_take (i := 17) (v := ?_) rfl (by kernel_rfl) (by kernel_rfl) (by kernel_rfl) (fun _ _ _ h => h) (Or.inl ⟨by kernel_rfl, ?_⟩) (by assumption) ?_
              rotate_left
              · (intro w hSw; (try dsimp only at hSw); go_simp) <;> with_reducible rfl
              (try simp only [Act.put, List.getElem_toArray, List.getElem_cons_zero, List.getElem_cons_succ, List.setIfInBounds_toArray, List.set_cons_zero, List.set_cons_succ])
              refine wpAnyH_take (i := 18) (v := ?_) rfl (by kernel_rfl) (by kernel_rfl) (by kernel_rfl) (fun _ _ _ h => h) (Or.inl ⟨by kernel_rfl, ?_⟩) (by assumption) ?_
              rotate_left
              · (intro w hSw; (try dsimp only at hSw); go_simp) <;> with_reducible rfl
              (try simp only [Act.put, List.getElem_toArray, List.getElem_cons_zero, List.getElem_cons_succ, List.setIfInBounds_toArray, List.set_cons_zero, List.set_cons_succ])
              refine wpAnyH_take (i := 19) (v := ?_) rfl (by kernel_rfl) (by kernel_rfl) (by kernel_rfl) (fun _ _ _ h => h) (Or.inl ⟨by kernel_rfl, ?_⟩) (by assumption) ?_
              rotate_left
              · (intro w hSw; (try dsimp only at hSw); go_simp) <;> with_reducible rfl
              (try simp only [Act.put, List.getElem_toArray, List.getElem_cons_zero, List.getElem_cons_succ, List.setIfInBounds_toArray, List.set_cons_zero, List.set_cons_succ])
              refine wpAnyH_ready (rs := [20]) (by kernel_rfl) (by simp) ?_
              refine AllReadyH.cons rfl (fun K hK => ?_) (AllReadyH.nil)
              refine step_alloc rfl 39 rfl (reR Ou.zero) ret_alloc ?_
              obtain ⟨v2, hv⟩ : ∃ V, V = v1.alloc (.cells (reR Ou.zero) 39) := ⟨_, rfl⟩
              obtain ⟨fb, hfb⟩ : ∃ k, k = v1.heap.size := ⟨_, rfl⟩
              have H2 : Hid (UT L.lo wb3 v2) := by rw [hv]; exact H1.out.trans (UT.of_below (below_alloc v1 _))
              have A2 : Hid (UnAt v2 L (UnQ Lq)) := by rw [hv]; exact A1.out.below (below_alloc v1 _)
              have P2 : Hid (v2.heap[fb]? = some (.cells (reR Ou.zero) 39)) := by rw [hv, hfb]; exact heap_alloc_new _ _
              have HL : Hid (wb3.heap.size ≤ fb) := by rw [hfb]; exact H1.out.size
              rw [← hv, ← hfb]
              clear hv hfb
              refine hK.out _ _ (hS _ H2.out) (fun hHeld => ?_)
              clear hK K
              (try simp only [Act.put, List.getElem_toArray, List.getElem_cons_zero, List.getElem_cons_succ, List.setIfInBounds_toArray, List.set_cons_zero, List.set_cons_succ])
              refine wpAnyH_ready (rs := [21]) (by kernel_rfl) (by simp) ?_
              refine AllReadyH.cons rfl (fun K hK => ?_) (AllReadyH.nil)
              refine step_store_row rfl 39 (.tmp 13) (.tmp 94) rfl fb (reR o) rfl rfl 39 (reR Ou.zero) P2.out reSize rfl (by simp [Value.oneCell']) ?_
              have HQ : Hid ((v2.setRow fb (reR o)).heap[fb]? = some (.cells (reR o) 39)) := setRow_heap _ fb _ _ _ _ P2.out
              have HE : Hid (UT L.lo wb3 (v2.setRow fb (reR o))) := H2.out.far HL.out
              have HAe : Hid (UnAt (v2.setRow fb (reR o)) L (UnQ Lq)) := A2.out.row P2.out rfl (by decide) (by decide)
              refine hK.out _ _ (hS _ HE.out) (fun hHeld => ?_)
              clear hK K
              (try simp only [Act.put, List.getElem_toArray, List.getElem_cons_zero, List.getElem_cons_succ, List.setIfInBounds_toArray, List.set_cons_zero, List.set_cons_succ])
              refine wpAnyH_take (i := 22) (v := ?_) rfl (by kernel_rfl) (by kernel_rfl) (by kernel_rfl) (fun _ _ _ h => h) (Or.inl ⟨by kernel_rfl, ?_⟩) (by assumption) ?_
              rotate_left
              · (intro w hSw; (try dsimp only at hSw); go_simp) <;> with_reducible rfl
              (try simp only [Act.put, List.getElem_toArray, List.getElem_cons_zero, List.getElem_cons_succ, List.setIfInBounds_toArray, List.set_cons_zero, List.set_cons_succ])
              refine wpAnyH_take (i := 23) (v := ?_) rfl (by kernel_rfl) (by kernel_rfl) (by kernel_rfl) (fun _ _ _ h => h) (Or.inl ⟨by kernel_rfl, ?_⟩) (by assumption) ?_
              rotate_left
              · (intro w hSw; (try dsimp only at hSw); go_simp) <;> with_reducible rfl
              (try simp only [Act.put, List.getElem_toArray, List.getElem_cons_zero, List.getElem_cons_succ, List.setIfInBounds_toArray, List.set_cons_zero, List.set_cons_succ])
              refine wpAnyH_take (i := 24) (v := ?_) rfl (by kernel_rfl) (by kernel_rfl) (by kernel_rfl) (fun _ _ _ h => h) (Or.inl ⟨by kernel_rfl, ?_⟩) (by assumption) ?_
              rotate_left
              · (intro w hSw; (try dsimp only at hSw); go_simp) <;> with_reducible rfl
              (try simp only [Act.put, List.getElem_toArray, List.getElem_cons_zero, List.getElem_cons_succ, List.setIfInBounds_toArray, List.set_cons_zero, List.set_cons_succ])
              refine wpAnyH_done (by kernel_rfl) ?_ _
              clear hS hDo
              go_wp2_with fail
              go_meet
              case rel => exact ⟨fb, rfl, rfl, rfl, rfl, by rw [← HWB.out]; exact HL.out, HQ.out, HAe.out, by rw [← HWB.out]; exact HE.out⟩
            · refine step_alloc rfl 39 rfl (reR Ou.zero) ret_alloc ?_
              obtain ⟨v1, hv⟩ : ∃ V, V = v0.alloc (.cells (reR Ou.zero) 39) := ⟨_, rfl⟩
              obtain ⟨fb, hfb⟩ : ∃ k, k = v0.heap.size := ⟨_, rfl⟩
              have H1 : Hid (UT L.lo wb3 v1) := by rw [hv]; exact H0.out.trans (UT.of_below (below_alloc v0 _))
              have A1 : Hid (UnAt v1 L (UnQ Lp)) := by rw [hv]; exact A0.out.below (below_alloc v0 _)
              have P1 : Hid (v1.heap[fb]? = some (.cells (reR Ou.zero) 39)) := by rw [hv, hfb]; exact heap_alloc_new _ _
              have HL : Hid (wb3.heap.size ≤ fb) := by rw [hfb]; exact H0.out.size
              rw [← hv, ← hfb]
              clear hv hfb
              refine hK.out _ _ (hS _ H1.out) (fun hHeld => ?_)
              clear hK K
              (try simp only [Act.put, List.getElem_toArray, List.getElem_cons_zero, List.getElem_cons_succ, List.setIfInBounds_toArray, List.set_cons_zero, List.set_cons_succ])
              refine wpAnyH_ready (rs := [14]) (by kernel_rfl) (by simp) ?_
              refine AllReadyH.cons rfl (fun K hK => ?_) (AllReadyH.nil)
              go_simp
              refine (hDo v1 A1.out).mono ?_
              rintro e v2 ⟨rfl, ha, hu⟩
              have H2 : Hid (UT L.lo wb3 v2) := H1.out.trans hu
              have A2 : Hid (UnAt v2 L (UnQ Lq)) := ha
              have P2 : Hid (v2.heap[fb]? = some (.cells (reR Ou.zero) 39)) := hu.other P1.out rfl
              clear hu ha
              refine hK.out _ _ (hS _ H2.out) (fun hHeld => ?_)
              clear hK K
              (try simp only [Act.put, List.getElem_toArray, List.getElem_cons_zero, List.getElem_cons_succ, List.setIfInBounds_toArray, List.set_cons_zero, List.set_cons_succ])
              refine wpAnyH_take (i := 15) (v := ?_) rfl (by kernel_rfl) (by kernel_rfl) (by kernel_rfl) (fun _ _ _ h => h) (Or.inl ⟨by kernel_rfl, ?_⟩) (by assumption) ?_
              rotate_left
              · (intro w hSw; (try dsimp only at hSw); go_simp) <;> with_reducible rfl
              (try simp only [Act.put, List.getElem_toArray, List.getElem_cons_zero, List.getElem_cons_succ, List.setIfInBounds_toArray, List.set_cons_zero, List.set_cons_succ])
              refine wpAnyH_take (i := 16) (v := ?_) rfl (by kernel_rfl) (by kernel_rfl) (by kernel_rfl) (fun _ _ _ h => h) (Or.inl ⟨by kernel_rfl, ?_⟩) (by assumption) ?_
              rotate_left
              · (intro w hSw; (try dsimp only at hSw); go_simp) <;> with_reducible rfl
              (try simp only [Act.put, List.getElem_toArray, List.getElem_cons_zero, List.getElem_cons_succ, List.setIfInBounds_toArray, List.set_cons_zero, List.set_cons_succ])
              refine wpAnyH_take (i := 17) (v := ?_) rfl (by kernel_rfl) (by kernel_rfl) (by kernel_rfl) (fun _ _ _ h => h) (Or.inl ⟨by kernel_rfl, ?_⟩) (by assumption) ?_
              rotate_left
              · (intro w hSw; (try dsimp only at hSw); go_simp) <;> with_reducible rfl
              (try simp only [Act.put, List.getElem_toArray, List.getElem_cons_zero, List.getElem_cons_succ, List.setIfInBounds_toArray, List.set_cons_zero, List.set_cons_succ])
              refine wpAnyH_take (i := 18) (v := ?_) rfl (by kernel_rfl) (by kernel_rfl) (by kernel_rfl) (fun _ _ _ h => h) (Or.inl ⟨by kernel_rfl, ?_⟩) (by assumption) ?_
              rotate_left
              · (intro w hSw; (try dsimp only at hSw); go_simp) <;> with_reducible rfl
              (try simp only [Act.put, List.getElem_toArray, List.getElem_cons_zero, List.getElem_cons_succ, List.setIfInBounds_toArray, List.set_cons_zero, List.set_cons_succ])
              refine wpAnyH_take (i := 19) (v := ?_) rfl (by kernel_rfl) (by kernel_rfl) (by kernel_rfl) (fun _ _ _ h => h) (Or.inl ⟨by kernel_rfl, ?_⟩) (by assumption) ?_
              rotate_left
              · (intro w hSw; (try dsimp only at hSw); go_simp) <;> with_reducible rfl
              (try simp only [Act.put, List.getElem_toArray, List.getElem_cons_zero, List.getElem_cons_succ, List.setIfInBounds_toArray, List.set_cons_zero, List.set_cons_succ])
              refine wpAnyH_ready (rs := [21]) (by kernel_rfl) (by simp) ?_
              refine AllReadyH.cons rfl (fun K hK => ?_) (AllReadyH.nil)
              refine step_store_row rfl 39 (.tmp 13) (.tmp 94) rfl fb (reR o) rfl rfl 39 (reR Ou.zero) P2.out reSize rfl (by simp [Value.oneCell']) ?_
              have HQ : Hid ((v2.setRow fb (reR o)).heap[fb]? = some (.cells (reR o) 39)) := setRow_heap _ fb _ _ _ _ P2.out
              have HE : Hid (UT L.lo wb3 (v2.setRow fb (reR o))) := H2.out.far HL.out
              have HAe : Hid (UnAt (v2.setRow fb (reR o)) L (UnQ Lq)) := A2.out.row P2.out rfl (by decide) (by decide)
              refine hK.out _ _ (hS _ HE.out) (fun hHeld => ?_)
              clear hK K
              (try simp only [Act.put, List.getElem_toArray, List.getElem_cons_zero, List.getElem_cons_succ, List.setIfInBounds_toArray, List.set_cons_zero, List.set_cons_succ])
              refine wpAnyH_take (i := 22) (v := ?_) rfl (by kernel_rfl) (by kernel_rfl) (by kernel_rfl) (fun _ _ _ h => h) (Or.inl ⟨by kernel_rfl, ?_⟩) (by assumption) ?_
              rotate_left
              · (intro w hSw; (try dsimp only at hSw); go_simp) <;> with_reducible rfl
              (try simp only [Act.put, List.getElem_toArray, List.getElem_cons_zero, List.getElem_cons_succ, List.setIfInBounds_toArray, List.set_cons_zero, List.set_cons_succ])
              refine wpAnyH_take (i := 23) (v := ?_) rfl (by kernel_rfl) (by kernel_rfl) (by kernel_rfl) (fun _ _ _ h => h) (Or.inl ⟨by kernel_rfl, ?_⟩) (by assumption) ?_
              rotate_left
              · (intro w hSw; (try dsimp only at hSw); go_simp) <;> with_reducible rfl
              (try simp only [Act.put, List.getElem_toArray, List.getElem_cons_zero, List.getElem_cons_succ, List.setIfInBounds_toArray, List.set_cons_zero, List.set_cons_succ])
              refine wpAnyH_take (i := 24) (v := ?_) rfl (by kernel_rfl) (by kernel_rfl) (by kernel_rfl) (fun _ _ _ h => h) (Or.inl ⟨by kernel_rfl, ?_⟩) (by assumption) ?_
              rotate_left
              · (intro w hSw; (try dsimp only at hSw); go_simp) <;> with_reducible rfl
              (try simp only [Act.put, List.getElem_toArray, List.getElem_cons_zero, List.getElem_cons_succ, List.setIfInBounds_toArray, List.set_cons_zero, List.set_cons_succ])
              refine wpAnyH_done (by kernel_rfl) ?_ _
              clear hS hDo
              go_wp2_with fail
              go_meet
              case rel => exact ⟨fb, rfl, rfl, rfl, rfl, by rw [← HWB.out]; exact HL.out, HQ.out, HAe.out, by rw [← HWB.out]; exact HE.out⟩
          case rest =>
          obtain ⟨f3, rfl, rfl, rfl, rfl, hfb, hfr, hac, huc⟩ := hcut
          obtain ⟨w3, hwn⟩ : ∃ V, V = wc := ⟨_, rfl⟩
          rw [← hwn] at hfr hac huc ⊢
          have hut : UT L.lo w2 w3 := (UT.of_below (Di.drewN_below (w := w2) ⟨1, rfl⟩)).trans huc
          have HP3_3 : Hid (w3.heap[f3]? = some (.cells (reR o) 39)) := hfr
          have HX3 : Hid (w3.heap[bb]? = some (.cells #[ptr cc, ptr B, ptr x, ptr y] 44)) := hut.other HX2.out rfl
          have HA3 : Hid (UnAt w3 L (UnQ Lq)) := hac
          have HO3 : Hid (Below w.heap.size w w3) := HO2.out.trans (hut.below HLo.out HO2.out.size)
          clear hwn wc hS hDo hBd hfb hfr hac huc hut  
          have hpn : Pp.putN Lp ds ≤ ds.length := by unfold Pp.putN; omega
          by_cases hp0 : Pp.putN Lp ds = 0
          · have ho : o = Ou.wait := by rw [Hoo.out]; exact if_pos hp0
            have hLL : Lq = Lp := by rw [HLq.out, hp0, List.take_zero, List.append_nil]
            have hne : Lp ≠ [] := fun q => by
              have h1 := List.length_pos_iff.2 Hds.out
              have h2 : Lp.length = 0 := by rw [q]; rfl
              unfold Pp.putN at hp0
              omega
            have gw : o.w = true := by rw [ho]; rfl
            have hR := bread_at (by rw [← Hcc.out]; exact HX3.out) (by rw [← hLL]; exact HA3.out) hne Hn.out.1 Hn.out.2
            have HXY : Hid (Lp.take (Pp.tk Lp n) ++ Lp.drop (Pp.tk Lp n) = Lp) := List.take_append_drop _ _
            obtain ⟨X, hX⟩ : ∃ X, X = Lp.take (Pp.tk Lp n) := ⟨_, rfl⟩
            obtain ⟨Y, hY⟩ : ∃ Y, Y = Lp.drop (Pp.tk Lp n) := ⟨_, rfl⟩
            rw [← hX, ← hY] at hR HXY
            have hgl := glue O X
            have hll : Lp.length = X.length + Y.length := by rw [← HXY.out, List.length_append]
            have hno : ¬ 9223372036854775807 < O.length + X.length := by have := Hbd.out; omega
            rw [gw]
            clear hX hY ho hLL hne hp0 hpn hll gw
            go_wp2_with fail
            refine hR.mono ?_
            rintro e w4 ⟨rfl, ha4, hu4⟩
            have HA4 : Hid (UnAt w4 L (UnQ Y)) := ha4
            have HX4 : Hid (w4.heap[bb]? = some (.cells #[ptr cc, ptr B, ptr x, ptr y] 44)) := hu4.other HX3.out rfl
            have HO4 : Hid (Below w.heap.size w w4) := HO3.out.trans (hu4.below HLo.out HO3.out.size)
            clear ha4 hu4 hR
            go_wp2
            all_goals go_roundw
            case rel =>
              have hb := Hbd.out
              exact ⟨k + 1, O ++ X, Y, by omega, by omega, by rw [List.append_assoc, HXY.out], rfl, by go_num, by rw [List.append_assoc, HXY.out, List.length_append]; omega, ⟨HX4.out, HA4.out, HO4.out⟩⟩
            case measure =>
              have hb := Hbd.out
              simp [intOf]
              omega
          · have ho : o = Ou.num (Pp.putN Lp ds : Nat) := by rw [Hoo.out]; exact if_neg hp0
            obtain ⟨q, hq⟩ : ∃ q, q = Pp.putN Lp ds := ⟨_, rfl⟩
            have hLL : Lq = Lp ++ ds.take q := by rw [HLq.out, hq]
            rw [← hq] at ho hp0 hpn
            have gw : o.w = false := by rw [ho]; rfl
            have c3 := (HO3.out.cell (cell_lt HTw.out)).trans HTw.out
            have e0 : w3.cell? ⟨f3, 0, none⟩ = some (.int .i64 (q : Int)) := by rw [cell_of_heap HP3_3.out, ho]; rfl
            have e1 : w3.cell? ⟨f3, 1, none⟩ = some (.int .i64 0) := by rw [cell_of_heap HP3_3.out, ho]; rfl
            have gq1 : decide ((q : Int) < 1) = false := decide_eq_false (by omega)
            have gq2 : decide ((ds.length : Int) < (q : Int)) = false := decide_eq_false (by omega)
            have gq3 : decide (ds.length < q) = false := decide_eq_false (by omega)
            have gq4 : decide (q < 1) = false := decide_eq_false (by omega)
            have gq5 : decide (q = 0) = false := decide_eq_false (by omega)
            have hsz : (ByteArray.mk ds.toArray).size = ds.length := by simp [ByteArray.size]
            have hcut := cut_to ds q hpn
            have hki : (k : Int) < (len : Int) := by have := Hbd.out; omega
            have hgl := glue (O ++ Lp) (ds.take q)
            have hno : ¬ 9223372036854775807 < (O ++ Lp).length + (ds.take q).length := by
              have h1 := Hbd.out
              have h2 := Hl50.out
              rw [List.length_append, List.length_take]
              omega
            have HSm : Hid ((O ++ Lp) ++ ds.take q = O ++ Lq) := by show _ = _; rw [List.append_assoc, hLL]
            have HLn : Hid ((O ++ Lq).length ≤ 50 * (k + 1)) := by
              have h1 := Hbd.out
              have h2 := Hl50.out
              show _ ≤ _
              rw [hLL, List.length_append, List.length_append, List.length_take]
              omega
            obtain ⟨X, hX⟩ : ∃ X, X = ds.take q := ⟨_, rfl⟩
            rw [← hX] at hcut hgl hno HSm
            obtain ⟨OL, hOL⟩ : ∃ V, V = O ++ Lp := ⟨_, rfl⟩
            rw [← hOL] at hgl hno HSm
            rw [gw, ← hOL]
            clear ho hLL hp0 hpn hq gw hX hOL
            go_upto_region 19 with fail
            go_quiet (fail)
            go_upto_region 21 with fail
            go_quiet (fail)
            go_wp2
            all_goals go_roundw
            case rel =>
              have hb := Hbd.out
              have hd := fun m => Di.drewN_below (w := w3) ⟨m, rfl⟩
              exact ⟨k + 1, O, Lq, by omega, by omega, by rw [HSm.out], rfl, by go_num, HLn.out, ⟨((hd _).block _ (lt_of_heap HX3.out)).trans HX3.out, HA3.out.below (hd _), HO3.out.trans ((hd _).mono HO3.out.size)⟩⟩
            case measure =>
              have hb := Hbd.out
              simp [intOf]
              omega
    · have hkl : (decide ((k : Int) < (len : Int)) = true ∧ (k : Int) < (len : Int) ∧ decide ((k : Int) < 30) = false) ∨ (decide ((k : Int) < (len : Int)) = false ∧ ¬ (k : Int) < (len : Int)) := by
        by_cases q : k < len
        · exact Or.inl ⟨decide_eq_true (by omega), by omega, decide_eq_false (by omega)⟩
        · exact Or.inr ⟨decide_eq_false (by omega), by omega⟩
      obtain ⟨I, hI⟩ : ∃ I, I = O ++ Lp := ⟨_, rfl⟩
      rw [← hI]
      have HI1 : Hid (I = O ++ Lp) := hI
      have HIl : Hid (I.length ≤ 1500) := by show _ ≤ _; rw [hI, List.length_append]; omega
      clear hI hbd2 hk hk2 hlt
      rcases hkl with ⟨g1, g1', g2⟩ | ⟨g1, g1'⟩
      all_goals
        go_wp2_with fail
        go_loopw [11] (fun t wr2 => ∃ (O1 M : List UInt8), I = O1 ++ M ∧ t = Pp.tx O1 ∧ Hid (Lks w wr2 bb cc B x y L M)) (fun t _ => I.length - txN t)
        case atStart => exact ⟨O, Lp, HI1.out, rfl, HR⟩
        case round =>
          clear HR HI1
          obtain ⟨O1, M, hIM, rfl, HR1⟩ := hrel
          have hl : I.length = O1.length + M.length := by rw [hIM, List.length_append]
          have HIM : Hid (I = O1 ++ M) := hIM
          have hs1 : (ByteArray.mk O1.toArray).size = O1.length := by simp [ByteArray.size]
          have hs2 : (ByteArray.mk I.toArray).size = I.length := by simp [ByteArray.size]
          clear hIM
          obtain ⟨w4, hw4⟩ : ∃ V, V = wr := ⟨_, rfl⟩
          rw [← hw4] at HR1 ⊢
          have HX4 : Hid (w4.heap[bb]? = some (.cells #[ptr cc, ptr B, ptr x, ptr y] 44)) := HR1.out.1
          have HA4 : Hid (UnAt w4 L (UnQ M)) := HR1.out.2.1
          have HO4 : Hid (Below w.heap.size w w4) := HR1.out.2.2
          clear hw4 wr HR1
          by_cases hM : M = []
          · have g4 : decide (O1.length < I.length) = false := decide_eq_false (by have h1 : M.length = 0 := (by rw [hM]; rfl); omega)
            have hEq : I = O1 := by rw [HIM.out, hM, List.append_nil]
            rw [hM] at HA4
            subst hEq
            clear hM hl HIM
            have hS : ∀ W, UT L.lo w4.drew W → W.cell? ⟨bb, 0, none⟩ = some (ptr cc) ∧ W.cell? ⟨bb, 1, none⟩ = some (ptr B) := fun W hW => by
              have hb := hW.other HX4.out rfl
              exact ⟨by rw [cell_of_heap hb]; rfl, by rw [cell_of_heap hb]; rfl⟩
            have hDo : ∀ W, UnAt W L (UnQ []) → Calls Tryz.prog 12 #[ptr cc, .iface 41 (ptr B), .int .i64 1, .agg (clR (⟨7, 3, 0, 1, [], []⟩ : Cl)), Pp.tx []] W (DoIs L Ou.wait (UnQ []) W) := fun W hW => by rw [Hcc.out]; exact pq_empty hW B
            have hBd : ∀ W, (Instr.build 48 ([(0, .int .i64 7), (1, .int .u64 3), (3, .int .u64 1)] : List (Nat × Value)).toArray).run Tryz.prog W = .ok (.agg (clR (⟨7, 3, 0, 1, [], []⟩ : Cl))) W := fun W => by kernel_rfl
            unfold DoIs at hDo
            go_upto_region 27 with fail
            go_cut [21, 22, 23, 24] (fun p o2 o3 o4 wc => ∃ fb, p = ptr fb ∧ o2 = Pp.tx (Ou.wait).o ∧ o3 = .int .i64 (Ou.wait).k ∧ o4 = .bool (Ou.wait).w ∧ w4.drew.heap.size ≤ fb ∧ wc.heap[fb]? = some (.cells (reR Ou.wait) 39) ∧ UnAt wc L (UnQ []) ∧ UT L.lo w4.drew wc)
            case first => as_aux_lemma =>
              refine wp_region_held_drew (S := fun w' => w'.cell? ⟨bb, 0, none⟩ = some (ptr cc) ∧ w'.cell? ⟨bb, 1, none⟩ = some (ptr B)) (by kernel_rfl) (hS _ (UT.refl _ _)) (fun hHeld => ?_)
              obtain ⟨wb5, hwb⟩ : ∃ V, V = w4.drew := ⟨_, rfl⟩
              have A0 : Hid (UnAt wb5 L (UnQ [])) := by rw [hwb]; exact HA4.out.below (Di.drewN_below (w := w4) ⟨1, rfl⟩)
              rw [← hwb] at hS hHeld ⊢
              have HWB : Hid (wb5 = w4.drew) := hwb
              clear hwb
              refine wpAnyH_take (i := 0) (v := ?_) rfl (by kernel_rfl) (by kernel_rfl) (by kernel_rfl) (fun _ _ _ h => h) (Or.inl ⟨by kernel_rfl, ?_⟩) (by assumption) ?_
              rotate_left
              · (intro w hSw; (try dsimp only at hSw); go_simp) <;> with_reducible rfl
              (try simp only [Act.put, List.getElem_toArray, List.getElem_cons_zero, List.setIfInBounds_toArray, List.set_cons_zero, List.set_cons_succ])
              refine wpAnyH_take (i := 1) (v := ?_) rfl (by kernel_rfl) (by kernel_rfl) (by kernel_rfl) (fun _ _ _ h => h) (Or.inl ⟨by kernel_rfl, ?_⟩) (by assumption) ?_
              rotate_left
              · (intro w hSw; (try dsimp only at hSw); go_simp) <;> with_reducible rfl
              (try simp only [Act.put, List.getElem_toArray, List.getElem_cons_zero, List.getElem_cons_succ, List.setIfInBounds_toArray, List.set_cons_zero, List.set_cons_succ])
              refine wpAnyH_take (i := 2) (v := ?_) rfl (by kernel_rfl) (by kernel_rfl) (by kernel_rfl) (fun _ _ _ h => h) (Or.inl ⟨by kernel_rfl, ?_⟩) (by assumption) ?_
              rotate_left
              · (intro w hSw; (try dsimp only at hSw); go_simp) <;> with_reducible rfl
              (try simp only [Act.put, List.getElem_toArray, List.getElem_cons_zero, List.getElem_cons_succ, List.setIfInBounds_toArray, List.set_cons_zero, List.set_cons_succ])
              refine wpAnyH_take (i := 3) (v := ?_) rfl (by kernel_rfl) (by kernel_rfl) (by kernel_rfl) (fun _ _ _ h => h) (Or.inl ⟨by kernel_rfl, ?_⟩) (by assumption) ?_
              rotate_left
              · (intro w hSw; (try dsimp only at hSw); go_simp) <;> with_reducible rfl
              (try simp only [Act.put, List.getElem_toArray, List.getElem_cons_zero, List.getElem_cons_succ, List.setIfInBounds_toArray, List.set_cons_zero, List.set_cons_succ])
              refine wpAnyH_take (i := 4) (v := ?_) rfl (by kernel_rfl) (by kernel_rfl) (by kernel_rfl) (fun _ _ _ h => h) (Or.inl ⟨by kernel_rfl, ?_⟩) (by assumption) ?_
              rotate_left
              · (intro w hSw; (try dsimp only at hSw); go_simp) <;> with_reducible rfl
              (try simp only [Act.put, List.getElem_toArray, List.getElem_cons_zero, List.getElem_cons_succ, List.setIfInBounds_toArray, List.set_cons_zero, List.set_cons_succ])
              refine wpAnyH_take (i := 5) (v := ?_) rfl (by kernel_rfl) (by kernel_rfl) (by kernel_rfl) (fun _ _ _ h => h) (Or.inl ⟨by kernel_rfl, ?_⟩) (by assumption) ?_
              rotate_left
              · (intro w hSw; (try dsimp only at hSw); go_simp) <;> with_reducible rfl
              (try simp only [Act.put, List.getElem_toArray, List.getElem_cons_zero, List.getElem_cons_succ, List.setIfInBounds_toArray, List.set_cons_zero, List.set_cons_succ])
              refine wpAnyH_take (i := 6) (v := ?_) rfl (by kernel_rfl) (by kernel_rfl) (by kernel_rfl) (fun _ _ _ h => h) (Or.inl ⟨by kernel_rfl, ?_⟩) (by assumption) ?_
              rotate_left
              · (intro w hSw; (try dsimp only at hSw); go_simp) <;> with_reducible rfl
              (try simp only [Act.put, List.getElem_toArray, List.getElem_cons_zero, List.getElem_cons_succ, List.setIfInBounds_toArray, List.set_cons_zero, List.set_cons_succ])
              refine wpAnyH_take (i := 7) (v := ?_) rfl (by kernel_rfl) (by kernel_rfl) (by kernel_rfl) (fun _ _ _ h => h) (Or.inl ⟨by kernel_rfl, ?_⟩) (by assumption) ?_
              rotate_left
              · (intro w hSw; (try dsimp only at hSw); go_simp) <;> with_reducible rfl
              (try simp only [Act.put, List.getElem_toArray, List.getElem_cons_zero, List.getElem_cons_succ, List.setIfInBounds_toArray, List.set_cons_zero, List.set_cons_succ])
              refine wpAnyH_take (i := 8) (v := ?_) rfl (by kernel_rfl) (by kernel_rfl) (by kernel_rfl) (fun _ _ _ h => h) (Or.inl ⟨by kernel_rfl, ?_⟩) (by assumption) ?_
              rotate_left
              · (intro w hSw; (try dsimp only at hSw); go_simp) <;> with_reducible rfl
              (try simp only [Act.put, List.getElem_toArray, List.getElem_cons_zero, List.getElem_cons_succ, List.setIfInBounds_toArray, List.set_cons_zero, List.set_cons_succ])
              refine wpAnyH_take (i := 9) (v := .agg (clR (⟨7, 3, 0, 1, [], []⟩ : Cl))) rfl (by kernel_rfl) (by kernel_rfl) (by kernel_rfl) (fun _ _ _ h => h) (yieldsIf_build (by kernel_rfl) 48 [(0, .const (.int .i64 7)), (1, .const (.int .u64 3)), (3, .const (.int .u64 1))] rfl [(0, .int .i64 7), (1, .int .u64 3), (3, .int .u64 1)] rfl _ hBd) (by assumption) ?_
              (try simp only [Act.put, List.getElem_toArray, List.getElem_cons_zero, List.getElem_cons_succ, List.setIfInBounds_toArray, List.set_cons_zero, List.set_cons_succ])
              obtain ⟨v0, hv0⟩ : ∃ V, V = wb5 := ⟨_, rfl⟩
              have H0 : Hid (UT L.lo wb5 v0) := by rw [hv0]; exact UT.refl _ _
              have A0' : Hid (UnAt v0 L (UnQ [])) := by rw [hv0]; exact A0.out
              rw [← hv0]
              clear hv0 A0 hBd
              have A0 : Hid (UnAt v0 L (UnQ [])) := A0'.out
              clear A0'
              refine wpAnyH_ready (rs := [10, 16]) (by kernel_rfl) (by simp) ?_
              refine AllReadyH.cons rfl (fun K hK => ?_) (AllReadyH.cons rfl (fun K hK => ?_) (AllReadyH.nil))
              · go_simp
                refine (hDo v0 A0.out).mono ?_
                rintro e v1 ⟨rfl, ha, hu⟩
                have H1 : Hid (UT L.lo wb5 v1) := H0.out.trans hu
                have A1 : Hid (UnAt v1 L (UnQ [])) := ha
                clear hu ha
                refine hK.out _ _ (hS _ H1.out) (fun hHeld => ?_)
                clear hK K
                (try simp only [Act.put, List.getElem_toArray, List.getElem_cons_zero, List.getElem_cons_succ, List.setIfInBounds_toArray, List.set_cons_zero, List.set_cons_succ])
                refine wpAnyH_take (i := 11) (v := ?_) rfl (by kernel_rfl) (by kernel_rfl) (by kernel_rfl) (fun _ _ _ h => h) (Or.inl ⟨by kernel_rfl, ?_⟩) (by assumption) ?_
                rotate_left
                · (intro w hSw; (try dsimp only at hSw); go_simp) <;> with_reducible rfl
                (try simp only [Act.put, List.getElem_toArray, List.getElem_cons_zero, List.getElem_cons_succ, List.setIfInBounds_toArray, List.set_cons_zero, List.set_cons_succ])
                refine wpAnyH_take (i := 12) (v := ?_) rfl (by kernel_rfl) (by kernel_rfl) (by kernel_rfl) (fun _ _ _ h => h) (Or.inl ⟨by kernel_rfl, ?_⟩) (by assumption) ?_
                rotate_left
                · (intro w hSw; (try dsimp only at hSw); go_simp) <;> with_reducible rfl
                (try simp only [Act.put, List.getElem_toArray, List.getElem_cons_zero, List.getElem_cons_succ, List.setIfInBounds_toArray, List.set_cons_zero, List.set_cons_succ])
                refine wpAnyH_take (i := 13) (v := ?_) rfl (by kernel_rfl) (by kernel_rfl) (by kernel_rfl) (fun _ _ _ h => h) (Or.inl ⟨by kernel_rfl, ?_⟩) (by assumption) ?_
                rotate_left
                · (intro w hSw; (try dsimp only at hSw); go_simp) <;> with_reducible rfl
                (try simp only [Act.put, List.getElem_toArray, List.getElem_cons_zero, List.getElem_cons_succ, List.setIfInBounds_toArray, List.set_cons_zero, List.set_cons_succ])
                refine wpAnyH_take (i := 14) (v := ?_) rfl (by kernel_rfl) (by kernel_rfl) (by kernel_rfl) (fun _ _ _ h => h) (Or.inl ⟨by kernel_rfl, ?_⟩) (by assumption) ?_
                rotate_left
                · (intro w hSw; (try dsimp only at hSw); go_simp) <;> with_reducible rfl
                (try simp only [Act.put, List.getElem_toArray, List.getElem_cons_zero, List.getElem_cons_succ, List.setIfInBounds_toArray, List.set_cons_zero, List.set_cons_succ])
                refine wpAnyH_take (i := 15) (v := ?_) rfl (by kernel_rfl) (by kernel_rfl) (by kernel_rfl) (fun _ _ _ h => h) (Or.inl ⟨by kernel_rfl, ?_⟩) (by assumption) ?_
                rotate_left
                · (intro w hSw; (try dsimp only at hSw); go_simp) <;> with_reducible rfl
                (try simp only [Act.put, List.getElem_toArray, List.getElem_cons_zero, List.getElem_cons_succ, List.setIfInBounds_toArray, List.set_cons_zero, List.set_cons_succ])
                refine wpAnyH_ready (rs := [16]) (by kernel_rfl) (by simp) ?_
                refine AllReadyH.cons rfl (fun K hK => ?_) (AllReadyH.nil)
                refine step_alloc rfl 39 rfl (reR Ou.zero) ret_alloc ?_
                obtain ⟨v2, hv⟩ : ∃ V, V = v1.alloc (.cells (reR Ou.zero) 39) := ⟨_, rfl⟩
                obtain ⟨fb, hfb⟩ : ∃ k, k = v1.heap.size := ⟨_, rfl⟩
                have H2 : Hid (UT L.lo wb5 v2) := by rw [hv]; exact H1.out.trans (UT.of_below (below_alloc v1 _))
                have A2 : Hid (UnAt v2 L (UnQ [])) := by rw [hv]; exact A1.out.below (below_alloc v1 _)
                have P2 : Hid (v2.heap[fb]? = some (.cells (reR Ou.zero) 39)) := by rw [hv, hfb]; exact heap_alloc_new _ _
                have HL : Hid (wb5.heap.size ≤ fb) := by rw [hfb]; exact H1.out.size
                rw [← hv, ← hfb]
                clear hv hfb
                refine hK.out _ _ (hS _ H2.out) (fun hHeld => ?_)
                clear hK K
                (try simp only [Act.put, List.getElem_toArray, List.getElem_cons_zero, List.getElem_cons_succ, List.setIfInBounds_toArray, List.set_cons_zero, List.set_cons_succ])
                refine wpAnyH_ready (rs := [17]) (by kernel_rfl) (by simp) ?_
                refine AllReadyH.cons rfl (fun K hK => ?_) (AllReadyH.nil)
                refine step_store_row rfl 39 (.tmp 21) (.tmp 165) rfl fb (reR Ou.wait) rfl rfl 39 (reR Ou.zero) P2.out reSize rfl (by simp [Value.oneCell']) ?_
                have HQ : Hid ((v2.setRow fb (reR Ou.wait)).heap[fb]? = some (.cells (reR Ou.wait) 39)) := setRow_heap _ fb _ _ _ _ P2.out
                have HE : Hid (UT L.lo wb5 (v2.setRow fb (reR Ou.wait))) := H2.out.far HL.out
                have HAe : Hid (UnAt (v2.setRow fb (reR Ou.wait)) L (UnQ [])) := A2.out.row P2.out rfl (by decide) (by decide)
                refine hK.out _ _ (hS _ HE.out) (fun hHeld => ?_)
                clear hK K
                (try simp only [Act.put, List.getElem_toArray, List.getElem_cons_zero, List.getElem_cons_succ, List.setIfInBounds_toArray, List.set_cons_zero, List.set_cons_succ])
                refine wpAnyH_take (i := 18) (v := ?_) rfl (by kernel_rfl) (by kernel_rfl) (by kernel_rfl) (fun _ _ _ h => h) (Or.inl ⟨by kernel_rfl, ?_⟩) (by assumption) ?_
                rotate_left
                · (intro w hSw; (try dsimp only at hSw); go_simp) <;> with_reducible rfl
                (try simp only [Act.put, List.getElem_toArray, List.getElem_cons_zero, List.getElem_cons_succ, List.setIfInBounds_toArray, List.set_cons_zero, List.set_cons_succ])
                refine wpAnyH_take (i := 19) (v := ?_) rfl (by kernel_rfl) (by kernel_rfl) (by kernel_rfl) (fun _ _ _ h => h) (Or.inl ⟨by kernel_rfl, ?_⟩) (by assumption) ?_
                rotate_left
                · (intro w hSw; (try dsimp only at hSw); go_simp) <;> with_reducible rfl
                (try simp only [Act.put, List.getElem_toArray, List.getElem_cons_zero, List.getElem_cons_succ, List.setIfInBounds_toArray, List.set_cons_zero, List.set_cons_succ])
                refine wpAnyH_take (i := 20) (v := ?_) rfl (by kernel_rfl) (by kernel_rfl) (by kernel_rfl) (fun _ _ _ h => h) (Or.inl ⟨by kernel_rfl, ?_⟩) (by assumption) ?_
                rotate_left
                · (intro w hSw; (try dsimp only at hSw); go_simp) <;> with_reducible rfl
                (try simp only [Act.put, List.getElem_toArray, List.getElem_cons_zero, List.getElem_cons_succ, List.setIfInBounds_toArray, List.set_cons_zero, List.set_cons_succ])
                refine wpAnyH_done (by kernel_rfl) ?_ _
                clear hS hDo
                go_wp2_with fail
                go_meet
                case rel => exact ⟨fb, rfl, rfl, rfl, rfl, by rw [← HWB.out]; exact HL.out, HQ.out, HAe.out, by rw [← HWB.out]; exact HE.out⟩
              · refine step_alloc rfl 39 rfl (reR Ou.zero) ret_alloc ?_
                obtain ⟨v1, hv⟩ : ∃ V, V = v0.alloc (.cells (reR Ou.zero) 39) := ⟨_, rfl⟩
                obtain ⟨fb, hfb⟩ : ∃ k, k = v0.heap.size := ⟨_, rfl⟩
                have H1 : Hid (UT L.lo wb5 v1) := by rw [hv]; exact H0.out.trans (UT.of_below (below_alloc v0 _))
                have A1 : Hid (UnAt v1 L (UnQ [])) := by rw [hv]; exact A0.out.below (below_alloc v0 _)
                have P1 : Hid (v1.heap[fb]? = some (.cells (reR Ou.zero) 39)) := by rw [hv, hfb]; exact heap_alloc_new _ _
                have HL : Hid (wb5.heap.size ≤ fb) := by rw [hfb]; exact H0.out.size
                rw [← hv, ← hfb]
                clear hv hfb
                refine hK.out _ _ (hS _ H1.out) (fun hHeld => ?_)
                clear hK K
                (try simp only [Act.put, List.getElem_toArray, List.getElem_cons_zero, List.getElem_cons_succ, List.setIfInBounds_toArray, List.set_cons_zero, List.set_cons_succ])
                refine wpAnyH_ready (rs := [10]) (by kernel_rfl) (by simp) ?_
                refine AllReadyH.cons rfl (fun K hK => ?_) (AllReadyH.nil)
                go_simp
                refine (hDo v1 A1.out).mono ?_
                rintro e v2 ⟨rfl, ha, hu⟩
                have H2 : Hid (UT L.lo wb5 v2) := H1.out.trans hu
                have A2 : Hid (UnAt v2 L (UnQ [])) := ha
                have P2 : Hid (v2.heap[fb]? = some (.cells (reR Ou.zero) 39)) := hu.other P1.out rfl
                clear hu ha
                refine hK.out _ _ (hS _ H2.out) (fun hHeld => ?_)
                clear hK K
                (try simp only [Act.put, List.getElem_toArray, List.getElem_cons_zero, List.getElem_cons_succ, List.setIfInBounds_toArray, List.set_cons_zero, List.set_cons_succ])
                refine wpAnyH_take (i := 11) (v := ?_) rfl (by kernel_rfl) (by kernel_rfl) (by kernel_rfl) (fun _ _ _ h => h) (Or.inl ⟨by kernel_rfl, ?_⟩) (by assumption) ?_
                rotate_left
                · (intro w hSw; (try dsimp only at hSw); go_simp) <;> with_reducible rfl
                (try simp only [Act.put, List.getElem_toArray, List.getElem_cons_zero, List.getElem_cons_succ, List.setIfInBounds_toArray, List.set_cons_zero, List.set_cons_succ])
                refine wpAnyH_take (i := 12) (v := ?_) rfl (by kernel_rfl) (by kernel_rfl) (by kernel_rfl) (fun _ _ _ h => h) (Or.inl ⟨by kernel_rfl, ?_⟩) (by assumption) ?_
                rotate_left
                · (intro w hSw; (try dsimp only at hSw); go_simp) <;> with_reducible rfl
                (try simp only [Act.put, List.getElem_toArray, List.getElem_cons_zero, List.getElem_cons_succ, List.setIfInBounds_toArray, List.set_cons_zero, List.set_cons_succ])
                refine wpAnyH_take (i := 13) (v := ?_) rfl (by kernel_rfl) (by kernel_rfl) (by kernel_rfl) (fun _ _ _ h => h) (Or.inl ⟨by kernel_rfl, ?_⟩) (by assumption) ?_
                rotate_left
                · (intro w hSw; (try dsimp only at hSw); go_simp) <;> with_reducible rfl
                (try simp only [Act.put, List.getElem_toArray, List.getElem_cons_zero, List.getElem_cons_succ, List.setIfInBounds_toArray, List.set_cons_zero, List.set_cons_succ])
                refine wpAnyH_take (i := 14) (v := ?_) rfl (by kernel_rfl) (by kernel_rfl) (by kernel_rfl) (fun _ _ _ h => h) (Or.inl ⟨by kernel_rfl, ?_⟩) (by assumption) ?_
                rotate_left
                · (intro w hSw; (try dsimp only at hSw); go_simp) <;> with_reducible rfl
                (try simp only [Act.put, List.getElem_toArray, List.getElem_cons_zero, List.getElem_cons_succ, List.setIfInBounds_toArray, List.set_cons_zero, List.set_cons_succ])
                refine wpAnyH_take (i := 15) (v := ?_) rfl (by kernel_rfl) (by kernel_rfl) (by kernel_rfl) (fun _ _ _ h => h) (Or.inl ⟨by kernel_rfl, ?_⟩) (by assumption) ?_
                rotate_left
                · (intro w hSw; (try dsimp only at hSw); go_simp) <;> with_reducible rfl
                (try simp only [Act.put, List.getElem_toArray, List.getElem_cons_zero, List.getElem_cons_succ, List.setIfInBounds_toArray, List.set_cons_zero, List.set_cons_succ])
                refine wpAnyH_ready (rs := [17]) (by kernel_rfl) (by simp) ?_
                refine AllReadyH.cons rfl (fun K hK => ?_) (AllReadyH.nil)
                refine step_store_row rfl 39 (.tmp 21) (.tmp 165) rfl fb (reR Ou.wait) rfl rfl 39 (reR Ou.zero) P2.out reSize rfl (by simp [Value.oneCell']) ?_
                have HQ : Hid ((v2.setRow fb (reR Ou.wait)).heap[fb]? = some (.cells (reR Ou.wait) 39)) := setRow_heap _ fb _ _ _ _ P2.out
                have HE : Hid (UT L.lo wb5 (v2.setRow fb (reR Ou.wait))) := H2.out.far HL.out
                have HAe : Hid (UnAt (v2.setRow fb (reR Ou.wait)) L (UnQ [])) := A2.out.row P2.out rfl (by decide) (by decide)
                refine hK.out _ _ (hS _ HE.out) (fun hHeld => ?_)
                clear hK K
                (try simp only [Act.put, List.getElem_toArray, List.getElem_cons_zero, List.getElem_cons_succ, List.setIfInBounds_toArray, List.set_cons_zero, List.set_cons_succ])
                refine wpAnyH_take (i := 18) (v := ?_) rfl (by kernel_rfl) (by kernel_rfl) (by kernel_rfl) (fun _ _ _ h => h) (Or.inl ⟨by kernel_rfl, ?_⟩) (by assumption) ?_
                rotate_left
                · (intro w hSw; (try dsimp only at hSw); go_simp) <;> with_reducible rfl
                (try simp only [Act.put, List.getElem_toArray, List.getElem_cons_zero, List.getElem_cons_succ, List.setIfInBounds_toArray, List.set_cons_zero, List.set_cons_succ])
                refine wpAnyH_take (i := 19) (v := ?_) rfl (by kernel_rfl) (by kernel_rfl) (by kernel_rfl) (fun _ _ _ h => h) (Or.inl ⟨by kernel_rfl, ?_⟩) (by assumption) ?_
                rotate_left
                · (intro w hSw; (try dsimp only at hSw); go_simp) <;> with_reducible rfl
                (try simp only [Act.put, List.getElem_toArray, List.getElem_cons_zero, List.getElem_cons_succ, List.setIfInBounds_toArray, List.set_cons_zero, List.set_cons_succ])
                refine wpAnyH_take (i := 20) (v := ?_) rfl (by kernel_rfl) (by kernel_rfl) (by kernel_rfl) (fun _ _ _ h => h) (Or.inl ⟨by kernel_rfl, ?_⟩) (by assumption) ?_
                rotate_left
                · (intro w hSw; (try dsimp only at hSw); go_simp) <;> with_reducible rfl
                (try simp only [Act.put, List.getElem_toArray, List.getElem_cons_zero, List.getElem_cons_succ, List.setIfInBounds_toArray, List.set_cons_zero, List.set_cons_succ])
                refine wpAnyH_done (by kernel_rfl) ?_ _
                clear hS hDo
                go_wp2_with fail
                go_meet
                case rel => exact ⟨fb, rfl, rfl, rfl, rfl, by rw [← HWB.out]; exact HL.out, HQ.out, HAe.out, by rw [← HWB.out]; exact HE.out⟩
            case rest =>
            obtain ⟨f5, rfl, rfl, rfl, rfl, hfb, hfr, hac, huc⟩ := hcut
            obtain ⟨w5, hwn⟩ : ∃ V, V = wc := ⟨_, rfl⟩
            rw [← hwn] at hfr hac huc ⊢
            have hut : UT L.lo w4 w5 := (UT.of_below (Di.drewN_below (w := w4) ⟨1, rfl⟩)).trans huc
            have HP5_5 : Hid (w5.heap[f5]? = some (.cells (reR Ou.wait) 39)) := hfr
            have HX5 : Hid (w5.heap[bb]? = some (.cells #[ptr cc, ptr B, ptr x, ptr y] 44)) := hut.other HX4.out rfl
            have HA5 : Hid (UnAt w5 L (UnQ [])) := hac
            have HO5 : Hid (Below w.heap.size w w5) := HO4.out.trans (hut.below HLo.out HO4.out.size)
            clear hwn wc hS hDo hBd hfb hfr hac huc hut  
            have gw5 : Ou.wait.w = true := rfl
            rw [gw5]
            clear HP5_5 gw5
            have hS : ∀ W, UT L.lo w5.drew W → W.cell? ⟨bb, 0, none⟩ = some (ptr cc) ∧ W.cell? ⟨bb, 1, none⟩ = some (ptr B) := fun W hW => by
              have hb := hW.other HX5.out rfl
              exact ⟨by rw [cell_of_heap hb]; rfl, by rw [cell_of_heap hb]; rfl⟩
            have hDo : ∀ W, UnAt W L (UnQ []) → Calls Tryz.prog 12 #[ptr cc, .iface 41 (ptr B), .int .i64 1, .agg (clR (⟨6, 4, 0, 0, [], []⟩ : Cl)), Pp.tx []] W (DoIs L (Ou.num 0) UnC W) := fun W hW => by rw [Hcc.out]; exact pq_close hW B
            have hBd : ∀ W, (Instr.build 48 ([(0, .int .i64 6), (1, .int .u64 4)] : List (Nat × Value)).toArray).run Tryz.prog W = .ok (.agg (clR (⟨6, 4, 0, 0, [], []⟩ : Cl))) W := fun W => by kernel_rfl
            unfold DoIs at hDo
            go_upto_region 28 with fail
            go_cut [10] (fun t wc => t = Pp.tx I ∧ UnAt wc L UnC ∧ UT L.lo w5.drew wc)
            case first => as_aux_lemma =>
              refine wp_region_held_drew (S := fun w' => w'.cell? ⟨bb, 0, none⟩ = some (ptr cc) ∧ w'.cell? ⟨bb, 1, none⟩ = some (ptr B)) (by kernel_rfl) (hS _ (UT.refl _ _)) (fun hHeld => ?_)
              obtain ⟨wb6, hwb⟩ : ∃ V, V = w5.drew := ⟨_, rfl⟩
              have A0 : Hid (UnAt wb6 L (UnQ [])) := by rw [hwb]; exact HA5.out.below (Di.drewN_below (w := w5) ⟨1, rfl⟩)
              rw [← hwb] at hS hHeld ⊢
              have HWB : Hid (wb6 = w5.drew) := hwb
              clear hwb
              refine wpAnyH_take (i := 0) (v := ?_) rfl (by kernel_rfl) (by kernel_rfl) (by kernel_rfl) (fun _ _ _ h => h) (Or.inl ⟨by kernel_rfl, ?_⟩) (by assumption) ?_
              rotate_left
              · (intro w hSw; (try dsimp only at hSw); go_simp) <;> with_reducible rfl
              (try simp only [Act.put, List.getElem_toArray, List.getElem_cons_zero, List.setIfInBounds_toArray, List.set_cons_zero, List.set_cons_succ])
              refine wpAnyH_take (i := 1) (v := ?_) rfl (by kernel_rfl) (by kernel_rfl) (by kernel_rfl) (fun _ _ _ h => h) (Or.inl ⟨by kernel_rfl, ?_⟩) (by assumption) ?_
              rotate_left
              · (intro w hSw; (try dsimp only at hSw); go_simp) <;> with_reducible rfl
              (try simp only [Act.put, List.getElem_toArray, List.getElem_cons_zero, List.getElem_cons_succ, List.setIfInBounds_toArray, List.set_cons_zero, List.set_cons_succ])
              refine wpAnyH_take (i := 2) (v := ?_) rfl (by kernel_rfl) (by kernel_rfl) (by kernel_rfl) (fun _ _ _ h => h) (Or.inl ⟨by kernel_rfl, ?_⟩) (by assumption) ?_
              rotate_left
              · (intro w hSw; (try dsimp only at hSw); go_simp) <;> with_reducible rfl
              (try simp only [Act.put, List.getElem_toArray, List.getElem_cons_zero, List.getElem_cons_succ, List.setIfInBounds_toArray, List.set_cons_zero, List.set_cons_succ])
              refine wpAnyH_take (i := 3) (v := ?_) rfl (by kernel_rfl) (by kernel_rfl) (by kernel_rfl) (fun _ _ _ h => h) (Or.inl ⟨by kernel_rfl, ?_⟩) (by assumption) ?_
              rotate_left
              · (intro w hSw; (try dsimp only at hSw); go_simp) <;> with_reducible rfl
              (try simp only [Act.put, List.getElem_toArray, List.getElem_cons_zero, List.getElem_cons_succ, List.setIfInBounds_toArray, List.set_cons_zero, List.set_cons_succ])
              refine wpAnyH_take (i := 4) (v := ?_) rfl (by kernel_rfl) (by kernel_rfl) (by kernel_rfl) (fun _ _ _ h => h) (Or.inl ⟨by kernel_rfl, ?_⟩) (by assumption) ?_
              rotate_left
              · (intro w hSw; (try dsimp only at hSw); go_simp) <;> with_reducible rfl
              (try simp only [Act.put, List.getElem_toArray, List.getElem_cons_zero, List.getElem_cons_succ, List.setIfInBounds_toArray, List.set_cons_zero, List.set_cons_succ])
              refine wpAnyH_take (i := 5) (v := ?_) rfl (by kernel_rfl) (by kernel_rfl) (by kernel_rfl) (fun _ _ _ h => h) (Or.inl ⟨by kernel_rfl, ?_⟩) (by assumption) ?_
              rotate_left
              · (intro w hSw; (try dsimp only at hSw); go_simp) <;> with_reducible rfl
              (try simp only [Act.put, List.getElem_toArray, List.getElem_cons_zero, List.getElem_cons_succ, List.setIfInBounds_toArray, List.set_cons_zero, List.set_cons_succ])
              refine wpAnyH_take (i := 6) (v := ?_) rfl (by kernel_rfl) (by kernel_rfl) (by kernel_rfl) (fun _ _ _ h => h) (Or.inl ⟨by kernel_rfl, ?_⟩) (by assumption) ?_
              rotate_left
              · (intro w hSw; (try dsimp only at hSw); go_simp) <;> with_reducible rfl
              (try simp only [Act.put, List.getElem_toArray, List.getElem_cons_zero, List.getElem_cons_succ, List.setIfInBounds_toArray, List.set_cons_zero, List.set_cons_succ])
              refine wpAnyH_take (i := 7) (v := ?_) rfl (by kernel_rfl) (by kernel_rfl) (by kernel_rfl) (fun _ _ _ h => h) (Or.inl ⟨by kernel_rfl, ?_⟩) (by assumption) ?_
              rotate_left
              · (intro w hSw; (try dsimp only at hSw); go_simp) <;> with_reducible rfl
              (try simp only [Act.put, List.getElem_toArray, List.getElem_cons_zero, List.getElem_cons_succ, List.setIfInBounds_toArray, List.set_cons_zero, List.set_cons_succ])
              refine wpAnyH_take (i := 8) (v := ?_) rfl (by kernel_rfl) (by kernel_rfl) (by kernel_rfl) (fun _ _ _ h => h) (Or.inl ⟨by kernel_rfl, ?_⟩) (by assumption) ?_
              rotate_left
              · (intro w hSw; (try dsimp only at hSw); go_simp) <;> with_reducible rfl
              (try simp only [Act.put, List.getElem_toArray, List.getElem_cons_zero, List.getElem_cons_succ, List.setIfInBounds_toArray, List.set_cons_zero, List.set_cons_succ])
              refine wpAnyH_take (i := 9) (v := .agg (clR (⟨6, 4, 0, 0, [], []⟩ : Cl))) rfl (by kernel_rfl) (by kernel_rfl) (by kernel_rfl) (fun _ _ _ h => h) (yieldsIf_build (by kernel_rfl) 48 [(0, .const (.int .i64 6)), (1, .const (.int .u64 4))] rfl [(0, .int .i64 6), (1, .int .u64 4)] rfl _ hBd) (by assumption) ?_
              (try simp only [Act.put, List.getElem_toArray, List.getElem_cons_zero, List.getElem_cons_succ, List.setIfInBounds_toArray, List.set_cons_zero, List.set_cons_succ])
              refine wpAnyH_ready (rs := [10]) (by kernel_rfl) (by simp) ?_
              refine AllReadyH.cons rfl (fun K hK => ?_) (AllReadyH.nil)
              go_simp
              refine (hDo wb6 A0.out).mono ?_
              rintro e v1 ⟨rfl, ha, hu⟩
              have H1 : Hid (UT L.lo wb6 v1) := hu
              have A1 : Hid (UnAt v1 L UnC) := ha
              clear hu ha
              refine hK.out _ _ (hS _ H1.out) (fun hHeld => ?_)
              clear hK K
              (try simp only [Act.put, List.getElem_toArray, List.getElem_cons_zero, List.getElem_cons_succ, List.setIfInBounds_toArray, List.set_cons_zero, List.set_cons_succ])
              refine wpAnyH_done (by kernel_rfl) ?_ _
              clear hS hDo hBd
              go_wp2_with fail
              go_meet
              case rel => exact ⟨rfl, A1.out, by rw [← HWB.out]; exact H1.out⟩
            case rest =>
            obtain ⟨rfl, hac, huc⟩ := hcut
            obtain ⟨w6, hwn⟩ : ∃ V, V = wc := ⟨_, rfl⟩
            rw [← hwn] at hac huc ⊢
            have hut : UT L.lo w5 w6 := (UT.of_below (Di.drewN_below (w := w5) ⟨1, rfl⟩)).trans huc
            have HX6 : Hid (w6.heap[bb]? = some (.cells #[ptr cc, ptr B, ptr x, ptr y] 44)) := hut.other HX5.out rfl
            have HA6 : Hid (UnAt w6 L UnC) := hac
            have HO6 : Hid (Below w.heap.size w w6) := HO5.out.trans (hut.below HLo.out HO5.out.size)
            clear hwn wc hS hDo hBd hac huc hut
            have hS : ∀ W, UT L.lo w6.drew W → W.cell? ⟨bb, 0, none⟩ = some (ptr cc) ∧ W.cell? ⟨bb, 1, none⟩ = some (ptr B) := fun W hW => by
              have hb := hW.other HX6.out rfl
              exact ⟨by rw [cell_of_heap hb]; rfl, by rw [cell_of_heap hb]; rfl⟩
            have hDo : ∀ W, UnAt W L UnC → Calls Tryz.prog 12 #[ptr cc, .iface 41 (ptr B), .int .i64 1, .agg (clR (⟨7, 3, 0, 1, [], []⟩ : Cl)), Pp.tx []] W (DoIs L (Ou.got []) (rpU UnC 0 1) W) := fun W hW => by rw [Hcc.out]; exact pq_end hW B
            have hBd : ∀ W, (Instr.build 48 ([(0, .int .i64 7), (1, .int .u64 3), (3, .int .u64 1)] : List (Nat × Value)).toArray).run Tryz.prog W = .ok (.agg (clR (⟨7, 3, 0, 1, [], []⟩ : Cl))) W := fun W => by kernel_rfl
            unfold DoIs at hDo
            go_upto_region 29 with fail
            go_cut [25, 26, 27, 28] (fun p o2 o3 o4 wc => ∃ fb, p = ptr fb ∧ o2 = Pp.tx ((Ou.got [])).o ∧ o3 = .int .i64 ((Ou.got [])).k ∧ o4 = .bool ((Ou.got [])).w ∧ w6.drew.heap.size ≤ fb ∧ wc.heap[fb]? = some (.cells (reR (Ou.got [])) 39) ∧ UnAt wc L (rpU UnC 0 1) ∧ UT L.lo w6.drew wc)
            case first => as_aux_lemma =>
              refine wp_region_held_drew (S := fun w' => w'.cell? ⟨bb, 0, none⟩ = some (ptr cc) ∧ w'.cell? ⟨bb, 1, none⟩ = some (ptr B)) (by kernel_rfl) (hS _ (UT.refl _ _)) (fun hHeld => ?_)
              obtain ⟨wb7, hwb⟩ : ∃ V, V = w6.drew := ⟨_, rfl⟩
              have A0 : Hid (UnAt wb7 L UnC) := by rw [hwb]; exact HA6.out.below (Di.drewN_below (w := w6) ⟨1, rfl⟩)
              rw [← hwb] at hS hHeld ⊢
              have HWB : Hid (wb7 = w6.drew) := hwb
              clear hwb
              refine wpAnyH_take (i := 0) (v := ?_) rfl (by kernel_rfl) (by kernel_rfl) (by kernel_rfl) (fun _ _ _ h => h) (Or.inl ⟨by kernel_rfl, ?_⟩) (by assumption) ?_
              rotate_left
              · (intro w hSw; (try dsimp only at hSw); go_simp) <;> with_reducible rfl
              (try simp only [Act.put, List.getElem_toArray, List.getElem_cons_zero, List.setIfInBounds_toArray, List.set_cons_zero, List.set_cons_succ])
              refine wpAnyH_take (i := 1) (v := ?_) rfl (by kernel_rfl) (by kernel_rfl) (by kernel_rfl) (fun _ _ _ h => h) (Or.inl ⟨by kernel_rfl, ?_⟩) (by assumption) ?_
              rotate_left
              · (intro w hSw; (try dsimp only at hSw); go_simp) <;> with_reducible rfl
              (try simp only [Act.put, List.getElem_toArray, List.getElem_cons_zero, List.getElem_cons_succ, List.setIfInBounds_toArray, List.set_cons_zero, List.set_cons_succ])
              refine wpAnyH_take (i := 2) (v := ?_) rfl (by kernel_rfl) (by kernel_rfl) (by kernel_rfl) (fun _ _ _ h => h) (Or.inl ⟨by kernel_rfl, ?_⟩) (by assumption) ?_
              rotate_left
              · (intro w hSw; (try dsimp only at hSw); go_simp) <;> with_reducible rfl
              (try simp only [Act.put, List.getElem_toArray, List.getElem_cons_zero, List.getElem_cons_succ, List.setIfInBounds_toArray, List.set_cons_zero, List.set_cons_succ])
              refine wpAnyH_take (i := 3) (v := ?_) rfl (by kernel_rfl) (by kernel_rfl) (by kernel_rfl) (fun _ _ _ h => h) (Or.inl ⟨by kernel_rfl, ?_⟩) (by assumption) ?_
              rotate_left
              · (intro w hSw; (try dsimp only at hSw); go_simp) <;> with_reducible rfl
              (try simp only [Act.put, List.getElem_toArray, List.getElem_cons_zero, List.getElem_cons_succ, List.setIfInBounds_toArray, List.set_cons_zero, List.set_cons_succ])
              refine wpAnyH_take (i := 4) (v := ?_) rfl (by kernel_rfl) (by kernel_rfl) (by kernel_rfl) (fun _ _ _ h => h) (Or.inl ⟨by kernel_rfl, ?_⟩) (by assumption) ?_
              rotate_left
              · (intro w hSw; (try dsimp only at hSw); go_simp) <;> with_reducible rfl
              (try simp only [Act.put, List.getElem_toArray, List.getElem_cons_zero, List.getElem_cons_succ, List.setIfInBounds_toArray, List.set_cons_zero, List.set_cons_succ])
              refine wpAnyH_take (i := 5) (v := ?_) rfl (by kernel_rfl) (by kernel_rfl) (by kernel_rfl) (fun _ _ _ h => h) (Or.inl ⟨by kernel_rfl, ?_⟩) (by assumption) ?_
              rotate_left
              · (intro w hSw; (try dsimp only at hSw); go_simp) <;> with_reducible rfl
              (try simp only [Act.put, List.getElem_toArray, List.getElem_cons_zero, List.getElem_cons_succ, List.setIfInBounds_toArray, List.set_cons_zero, List.set_cons_succ])
              refine wpAnyH_take (i := 6) (v := ?_) rfl (by kernel_rfl) (by kernel_rfl) (by kernel_rfl) (fun _ _ _ h => h) (Or.inl ⟨by kernel_rfl, ?_⟩) (by assumption) ?_
              rotate_left
              · (intro w hSw; (try dsimp only at hSw); go_simp) <;> with_reducible rfl
              (try simp only [Act.put, List.getElem_toArray, List.getElem_cons_zero, List.getElem_cons_succ, List.setIfInBounds_toArray, List.set_cons_zero, List.set_cons_succ])
              refine wpAnyH_take (i := 7) (v := ?_) rfl (by kernel_rfl) (by kernel_rfl) (by kernel_rfl) (fun _ _ _ h => h) (Or.inl ⟨by kernel_rfl, ?_⟩) (by assumption) ?_
              rotate_left
              · (intro w hSw; (try dsimp only at hSw); go_simp) <;> with_reducible rfl
              (try simp only [Act.put, List.getElem_toArray, List.getElem_cons_zero, List.getElem_cons_succ, List.setIfInBounds_toArray, List.set_cons_zero, List.set_cons_succ])
              refine wpAnyH_take (i := 8) (v := ?_) rfl (by kernel_rfl) (by kernel_rfl) (by kernel_rfl) (fun _ _ _ h => h) (Or.inl ⟨by kernel_rfl, ?_⟩) (by assumption) ?_
              rotate_left
              · (intro w hSw; (try dsimp only at hSw); go_simp) <;> with_reducible rfl
              (try simp only [Act.put, List.getElem_toArray, List.getElem_cons_zero, List.getElem_cons_succ, List.setIfInBounds_toArray, List.set_cons_zero, List.set_cons_succ])
              refine wpAnyH_take (i := 9) (v := .agg (clR (⟨7, 3, 0, 1, [], []⟩ : Cl))) rfl (by kernel_rfl) (by kernel_rfl) (by kernel_rfl) (fun _ _ _ h => h) (yieldsIf_build (by kernel_rfl) 48 [(0, .const (.int .i64 7)), (1, .const (.int .u64 3)), (3, .const (.int .u64 1))] rfl [(0, .int .i64 7), (1, .int .u64 3), (3, .int .u64 1)] rfl _ hBd) (by assumption) ?_
              (try simp only [Act.put, List.getElem_toArray, List.getElem_cons_zero, List.getElem_cons_succ, List.setIfInBounds_toArray, List.set_cons_zero, List.set_cons_succ])
              obtain ⟨v0, hv0⟩ : ∃ V, V = wb7 := ⟨_, rfl⟩
              have H0 : Hid (UT L.lo wb7 v0) := by rw [hv0]; exact UT.refl _ _
              have A0' : Hid (UnAt v0 L UnC) := by rw [hv0]; exact A0.out
              rw [← hv0]
              clear hv0 A0 hBd
              have A0 : Hid (UnAt v0 L UnC) := A0'.out
              clear A0'
              refine wpAnyH_ready (rs := [10, 16]) (by kernel_rfl) (by simp) ?_
              refine AllReadyH.cons rfl (fun K hK => ?_) (AllReadyH.cons rfl (fun K hK => ?_) (AllReadyH.nil))
              · go_simp
                refine (hDo v0 A0.out).mono ?_
                rintro e v1 ⟨rfl, ha, hu⟩
                have H1 : Hid (UT L.lo wb7 v1) := H0.out.trans hu
                have A1 : Hid (UnAt v1 L (rpU UnC 0 1)) := ha
                clear hu ha
                refine hK.out _ _ (hS _ H1.out) (fun hHeld => ?_)
                clear hK K
                (try simp only [Act.put, List.getElem_toArray, List.getElem_cons_zero, List.getElem_cons_succ, List.setIfInBounds_toArray, List.set_cons_zero, List.set_cons_succ])
                refine wpAnyH_take (i := 11) (v := ?_) rfl (by kernel_rfl) (by kernel_rfl) (by kernel_rfl) (fun _ _ _ h => h) (Or.inl ⟨by kernel_rfl, ?_⟩) (by assumption) ?_
                rotate_left
                · (intro w hSw; (try dsimp only at hSw); go_simp) <;> with_reducible rfl
                (try simp only [Act.put, List.getElem_toArray, List.getElem_cons_zero, List.getElem_cons_succ, List.setIfInBounds_toArray, List.set_cons_zero, List.set_cons_succ])
                refine wpAnyH_take (i := 12) (v := ?_) rfl (by kernel_rfl) (by kernel_rfl) (by kernel_rfl) (fun _ _ _ h => h) (Or.inl ⟨by kernel_rfl, ?_⟩) (by assumption) ?_
                rotate_left
                · (intro w hSw; (try dsimp only at hSw); go_simp) <;> with_reducible rfl
                (try simp only [Act.put, List.getElem_toArray, List.getElem_cons_zero, List.getElem_cons_succ, List.setIfInBounds_toArray, List.set_cons_zero, List.set_cons_succ])
                refine wpAnyH_take (i := 13) (v := ?_) rfl (by kernel_rfl) (by kernel_rfl) (by kernel_rfl) (fun _ _ _ h => h) (Or.inl ⟨by kernel_rfl, ?_⟩) (by assumption) ?_
                rotate_left
                · (intro w hSw; (try dsimp only at hSw); go_simp) <;> with_reducible rfl
                (try simp only [Act.put, List.getElem_toArray, List.getElem_cons_zero, List.getElem_cons_succ, List.setIfInBounds_toArray, List.set_cons_zero, List.set_cons_succ])
                refine wpAnyH_take (i := 14) (v := ?_) rfl (by kernel_rfl) (by kernel_rfl) (by kernel_rfl) (fun _ _ _ h => h) (Or.inl ⟨by kernel_rfl, ?_⟩) (by assumption) ?_
                rotate_left
                · (intro w hSw; (try dsimp only at hSw); go_simp) <;> with_reducible rfl
                (try simp only [Act.put, List.getElem_toArray, List.getElem_cons_zero, List.getElem_cons_succ, List.setIfInBounds_toArray, List.set_cons_zero, List.set_cons_succ])
                refine wpAnyH_take (i := 15) (v := ?_) rfl (by kernel_rfl) (by kernel_rfl) (by kernel_rfl) (fun _ _ _ h => h) (Or.inl ⟨by kernel_rfl, ?_⟩) (by assumption) ?_
                rotate_left
                · (intro w hSw; (try dsimp only at hSw); go_simp) <;> with_reducible rfl
                (try simp only [Act.put, List.getElem_toArray, List.getElem_cons_zero, List.getElem_cons_succ, List.setIfInBounds_toArray, List.set_cons_zero, List.set_cons_succ])
                refine wpAnyH_ready (rs := [16]) (by kernel_rfl) (by simp) ?_
                refine AllReadyH.cons rfl (fun K hK => ?_) (AllReadyH.nil)
                refine step_alloc rfl 39 rfl (reR Ou.zero) ret_alloc ?_
                obtain ⟨v2, hv⟩ : ∃ V, V = v1.alloc (.cells (reR Ou.zero) 39) := ⟨_, rfl⟩
                obtain ⟨fb, hfb⟩ : ∃ k, k = v1.heap.size := ⟨_, rfl⟩
                have H2 : Hid (UT L.lo wb7 v2) := by rw [hv]; exact H1.out.trans (UT.of_below (below_alloc v1 _))
                have A2 : Hid (UnAt v2 L (rpU UnC 0 1)) := by rw [hv]; exact A1.out.below (below_alloc v1 _)
                have P2 : Hid (v2.heap[fb]? = some (.cells (reR Ou.zero) 39)) := by rw [hv, hfb]; exact heap_alloc_new _ _
                have HL : Hid (wb7.heap.size ≤ fb) := by rw [hfb]; exact H1.out.size
                rw [← hv, ← hfb]
                clear hv hfb
                refine hK.out _ _ (hS _ H2.out) (fun hHeld => ?_)
                clear hK K
                (try simp only [Act.put, List.getElem_toArray, List.getElem_cons_zero, List.getElem_cons_succ, List.setIfInBounds_toArray, List.set_cons_zero, List.set_cons_succ])
                refine wpAnyH_ready (rs := [17]) (by kernel_rfl) (by simp) ?_
                refine AllReadyH.cons rfl (fun K hK => ?_) (AllReadyH.nil)
                refine step_store_row rfl 39 (.tmp 25) (.tmp 192) rfl fb (reR (Ou.got [])) rfl rfl 39 (reR Ou.zero) P2.out reSize rfl (by simp [Value.oneCell']) ?_
                have HQ : Hid ((v2.setRow fb (reR (Ou.got []))).heap[fb]? = some (.cells (reR (Ou.got [])) 39)) := setRow_heap _ fb _ _ _ _ P2.out
                have HE : Hid (UT L.lo wb7 (v2.setRow fb (reR (Ou.got [])))) := H2.out.far HL.out
                have HAe : Hid (UnAt (v2.setRow fb (reR (Ou.got []))) L (rpU UnC 0 1)) := A2.out.row P2.out rfl (by decide) (by decide)
                refine hK.out _ _ (hS _ HE.out) (fun hHeld => ?_)
                clear hK K
                (try simp only [Act.put, List.getElem_toArray, List.getElem_cons_zero, List.getElem_cons_succ, List.setIfInBounds_toArray, List.set_cons_zero, List.set_cons_succ])
                refine wpAnyH_take (i := 18) (v := ?_) rfl (by kernel_rfl) (by kernel_rfl) (by kernel_rfl) (fun _ _ _ h => h) (Or.inl ⟨by kernel_rfl, ?_⟩) (by assumption) ?_
                rotate_left
                · (intro w hSw; (try dsimp only at hSw); go_simp) <;> with_reducible rfl
                (try simp only [Act.put, List.getElem_toArray, List.getElem_cons_zero, List.getElem_cons_succ, List.setIfInBounds_toArray, List.set_cons_zero, List.set_cons_succ])
                refine wpAnyH_take (i := 19) (v := ?_) rfl (by kernel_rfl) (by kernel_rfl) (by kernel_rfl) (fun _ _ _ h => h) (Or.inl ⟨by kernel_rfl, ?_⟩) (by assumption) ?_
                rotate_left
                · (intro w hSw; (try dsimp only at hSw); go_simp) <;> with_reducible rfl
                (try simp only [Act.put, List.getElem_toArray, List.getElem_cons_zero, List.getElem_cons_succ, List.setIfInBounds_toArray, List.set_cons_zero, List.set_cons_succ])
                refine wpAnyH_take (i := 20) (v := ?_) rfl (by kernel_rfl) (by kernel_rfl) (by kernel_rfl) (fun _ _ _ h => h) (Or.inl ⟨by kernel_rfl, ?_⟩) (by assumption) ?_
                rotate_left
                · (intro w hSw; (try dsimp only at hSw); go_simp) <;> with_reducible rfl
                (try simp only [Act.put, List.getElem_toArray, List.getElem_cons_zero, List.getElem_cons_succ, List.setIfInBounds_toArray, List.set_cons_zero, List.set_cons_succ])
                refine wpAnyH_done (by kernel_rfl) ?_ _
                clear hS hDo
                go_wp2_with fail
                go_meet
                case rel => exact ⟨fb, rfl, rfl, rfl, rfl, by rw [← HWB.out]; exact HL.out, HQ.out, HAe.out, by rw [← HWB.out]; exact HE.out⟩
              · refine step_alloc rfl 39 rfl (reR Ou.zero) ret_alloc ?_
                obtain ⟨v1, hv⟩ : ∃ V, V = v0.alloc (.cells (reR Ou.zero) 39) := ⟨_, rfl⟩
                obtain ⟨fb, hfb⟩ : ∃ k, k = v0.heap.size := ⟨_, rfl⟩
                have H1 : Hid (UT L.lo wb7 v1) := by rw [hv]; exact H0.out.trans (UT.of_below (below_alloc v0 _))
                have A1 : Hid (UnAt v1 L UnC) := by rw [hv]; exact A0.out.below (below_alloc v0 _)
                have P1 : Hid (v1.heap[fb]? = some (.cells (reR Ou.zero) 39)) := by rw [hv, hfb]; exact heap_alloc_new _ _
                have HL : Hid (wb7.heap.size ≤ fb) := by rw [hfb]; exact H0.out.size
                rw [← hv, ← hfb]
                clear hv hfb
                refine hK.out _ _ (hS _ H1.out) (fun hHeld => ?_)
                clear hK K
                (try simp only [Act.put, List.getElem_toArray, List.getElem_cons_zero, List.getElem_cons_succ, List.setIfInBounds_toArray, List.set_cons_zero, List.set_cons_succ])
                refine wpAnyH_ready (rs := [10]) (by kernel_rfl) (by simp) ?_
                refine AllReadyH.cons rfl (fun K hK => ?_) (AllReadyH.nil)
                go_simp
                refine (hDo v1 A1.out).mono ?_
                rintro e v2 ⟨rfl, ha, hu⟩
                have H2 : Hid (UT L.lo wb7 v2) := H1.out.trans hu
                have A2 : Hid (UnAt v2 L (rpU UnC 0 1)) := ha
                have P2 : Hid (v2.heap[fb]? = some (.cells (reR Ou.zero) 39)) := hu.other P1.out rfl
                clear hu ha
                refine hK.out _ _ (hS _ H2.out) (fun hHeld => ?_)
                clear hK K
                (try simp only [Act.put, List.getElem_toArray, List.getElem_cons_zero, List.getElem_cons_succ, List.setIfInBounds_toArray, List.set_cons_zero, List.set_cons_succ])
                refine wpAnyH_take (i := 11) (v := ?_) rfl (by kernel_rfl) (by kernel_rfl) (by kernel_rfl) (fun _ _ _ h => h) (Or.inl ⟨by kernel_rfl, ?_⟩) (by assumption) ?_
                rotate_left
                · (intro w hSw; (try dsimp only at hSw); go_simp) <;> with_reducible rfl
                (try simp only [Act.put, List.getElem_toArray, List.getElem_cons_zero, List.getElem_cons_succ, List.setIfInBounds_toArray, List.set_cons_zero, List.set_cons_succ])
                refine wpAnyH_take (i := 12) (v := ?_) rfl (by kernel_rfl) (by kernel_rfl) (by kernel_rfl) (fun _ _ _ h => h) (Or.inl ⟨by kernel_rfl, ?_⟩) (by assumption) ?_
                rotate_left
                · (intro w hSw; (try dsimp only at hSw); go_simp) <;> with_reducible rfl
                (try simp only [Act.put, List.getElem_toArray, List.getElem_cons_zero, List.getElem_cons_succ, List.setIfInBounds_toArray, List.set_cons_zero, List.set_cons_succ])
                refine wpAnyH_take (i := 13) (v := ?_) rfl (by kernel_rfl) (by kernel_rfl) (by kernel_rfl) (fun _ _ _ h => h) (Or.inl ⟨by kernel_rfl, ?_⟩) (by assumption) ?_
                rotate_left
                · (intro w hSw; (try dsimp only at hSw); go_simp) <;> with_reducible rfl
                (try simp only [Act.put, List.getElem_toArray, List.getElem_cons_zero, List.getElem_cons_succ, List.setIfInBounds_toArray, List.set_cons_zero, List.set_cons_succ])
                refine wpAnyH_take (i := 14) (v := ?_) rfl (by kernel_rfl) (by kernel_rfl) (by kernel_rfl) (fun _ _ _ h => h) (Or.inl ⟨by kernel_rfl, ?_⟩) (by assumption) ?_
                rotate_left
                · (intro w hSw; (try dsimp only at hSw); go_simp) <;> with_reducible rfl
                (try simp only [Act.put, List.getElem_toArray, List.getElem_cons_zero, List.getElem_cons_succ, List.setIfInBounds_toArray, List.set_cons_zero, List.set_cons_succ])
                refine wpAnyH_take (i := 15) (v := ?_) rfl (by kernel_rfl) (by kernel_rfl) (by kernel_rfl) (fun _ _ _ h => h) (Or.inl ⟨by kernel_rfl, ?_⟩) (by assumption) ?_
                rotate_left
                · (intro w hSw; (try dsimp only at hSw); go_simp) <;> with_reducible rfl
                (try simp only [Act.put, List.getElem_toArray, List.getElem_cons_zero, List.getElem_cons_succ, List.setIfInBounds_toArray, List.set_cons_zero, List.set_cons_succ])
                refine wpAnyH_ready (rs := [17]) (by kernel_rfl) (by simp) ?_
                refine AllReadyH.cons rfl (fun K hK => ?_) (AllReadyH.nil)
                refine step_store_row rfl 39 (.tmp 25) (.tmp 192) rfl fb (reR (Ou.got [])) rfl rfl 39 (reR Ou.zero) P2.out reSize rfl (by simp [Value.oneCell']) ?_
                have HQ : Hid ((v2.setRow fb (reR (Ou.got []))).heap[fb]? = some (.cells (reR (Ou.got [])) 39)) := setRow_heap _ fb _ _ _ _ P2.out
                have HE : Hid (UT L.lo wb7 (v2.setRow fb (reR (Ou.got [])))) := H2.out.far HL.out
                have HAe : Hid (UnAt (v2.setRow fb (reR (Ou.got []))) L (rpU UnC 0 1)) := A2.out.row P2.out rfl (by decide) (by decide)
                refine hK.out _ _ (hS _ HE.out) (fun hHeld => ?_)
                clear hK K
                (try simp only [Act.put, List.getElem_toArray, List.getElem_cons_zero, List.getElem_cons_succ, List.setIfInBounds_toArray, List.set_cons_zero, List.set_cons_succ])
                refine wpAnyH_take (i := 18) (v := ?_) rfl (by kernel_rfl) (by kernel_rfl) (by kernel_rfl) (fun _ _ _ h => h) (Or.inl ⟨by kernel_rfl, ?_⟩) (by assumption) ?_
                rotate_left
                · (intro w hSw; (try dsimp only at hSw); go_simp) <;> with_reducible rfl
                (try simp only [Act.put, List.getElem_toArray, List.getElem_cons_zero, List.getElem_cons_succ, List.setIfInBounds_toArray, List.set_cons_zero, List.set_cons_succ])
                refine wpAnyH_take (i := 19) (v := ?_) rfl (by kernel_rfl) (by kernel_rfl) (by kernel_rfl) (fun _ _ _ h => h) (Or.inl ⟨by kernel_rfl, ?_⟩) (by assumption) ?_
                rotate_left
                · (intro w hSw; (try dsimp only at hSw); go_simp) <;> with_reducible rfl
                (try simp only [Act.put, List.getElem_toArray, List.getElem_cons_zero, List.getElem_cons_succ, List.setIfInBounds_toArray, List.set_cons_zero, List.set_cons_succ])
                refine wpAnyH_take (i := 20) (v := ?_) rfl (by kernel_rfl) (by kernel_rfl) (by kernel_rfl) (fun _ _ _ h => h) (Or.inl ⟨by kernel_rfl, ?_⟩) (by assumption) ?_
                rotate_left
                · (intro w hSw; (try dsimp only at hSw); go_simp) <;> with_reducible rfl
                (try simp only [Act.put, List.getElem_toArray, List.getElem_cons_zero, List.getElem_cons_succ, List.setIfInBounds_toArray, List.set_cons_zero, List.set_cons_succ])
                refine wpAnyH_done (by kernel_rfl) ?_ _
                clear hS hDo
                go_wp2_with fail
                go_meet
                case rel => exact ⟨fb, rfl, rfl, rfl, rfl, by rw [← HWB.out]; exact HL.out, HQ.out, HAe.out, by rw [← HWB.out]; exact HE.out⟩
            case rest =>
            obtain ⟨f7, rfl, rfl, rfl, rfl, hfb, hfr, hac, huc⟩ := hcut
            obtain ⟨w7, hwn⟩ : ∃ V, V = wc := ⟨_, rfl⟩
            rw [← hwn] at hfr hac huc ⊢
            have hut : UT L.lo w6 w7 := (UT.of_below (Di.drewN_below (w := w6) ⟨1, rfl⟩)).trans huc
            have HP7_7 : Hid (w7.heap[f7]? = some (.cells (reR (Ou.got [])) 39)) := hfr
            have HX7 : Hid (w7.heap[bb]? = some (.cells #[ptr cc, ptr B, ptr x, ptr y] 44)) := hut.other HX6.out rfl
            have HA7 : Hid (UnAt w7 L (rpU UnC 0 1)) := hac
            have HO7 : Hid (Below w.heap.size w w7) := HO6.out.trans (hut.below HLo.out HO6.out.size)
            clear hwn wc hS hDo hBd hfb hfr hac huc hut  
            have gw7 : (Ou.got []).w = false := rfl
            rw [gw7]
            have HQ7 : Hid (w7.heap[f7]? = some (.cells #[.int .i64 0, .int .i64 0, .string ⟨#[]⟩, .int .i64 0, .int .i64 0] 39)) := HP7_7.out
            have r0 : w7.cell? ⟨f7, 0, none⟩ = some (.int .i64 0) := by rw [cell_of_heap HQ7.out]; rfl
            have r1 : w7.cell? ⟨f7, 1, none⟩ = some (.int .i64 0) := by rw [cell_of_heap HQ7.out]; rfl
            have r2 : w7.cell? ⟨f7, 2, none⟩ = some (.string ⟨#[]⟩) := by rw [cell_of_heap HQ7.out]; rfl
            have r3 : w7.cell? ⟨f7, 3, none⟩ = some (.int .i64 0) := by rw [cell_of_heap HQ7.out]; rfl
            have r4 : w7.cell? ⟨f7, 4, none⟩ = some (.int .i64 0) := by rw [cell_of_heap HQ7.out]; rfl
            have heq : ∀ V, (binOp .eql 39 (.agg #[.int .i64 0, .int .i64 0, .string ⟨#[]⟩, .int .i64 0, .int .i64 0]) (.agg #[.int .i64 0, .int .i64 0, .string ⟨#[]⟩, .int .i64 0, .int .i64 0])).run Tryz.prog V = .ok (.bool true) V := fun V => by kernel_rfl
            clear gw7 HP7_7 HQ7
            go_wp2_with fail
            refine (awake_at _).mono ?_
            rintro e w8 ⟨rfl, hb8⟩
            have HB8 : Hid (Below w.heap.size w w8) := HO7.out.trans (hb8.mono HO7.out.size)
            clear hb8 r0 r1 r2 r3 r4 heq
            go_wp2
            go_ret
            exact ⟨rfl, HB8.out⟩
          · have g4 : decide (O1.length < I.length) = true := decide_eq_true (by have := List.length_pos_iff.2 hM; omega)
            have hR := bread_at (by rw [← Hcc.out]; exact HX4.out) HA4.out hM Hn.out.1 Hn.out.2
            have HXY : Hid (M.take (Pp.tk M n) ++ M.drop (Pp.tk M n) = M) := List.take_append_drop _ _
            obtain ⟨X, hX⟩ : ∃ X, X = M.take (Pp.tk M n) := ⟨_, rfl⟩
            obtain ⟨Y, hY⟩ : ∃ Y, Y = M.drop (Pp.tk M n) := ⟨_, rfl⟩
            have hXp : 1 ≤ X.length := by
              have a1 := tk_pos hM Hn.out.1
              have a2 := Pp.tk_le M n
              rw [hX, List.length_take]
              omega
            rw [← hX, ← hY] at hR HXY
            have hgl := glue O1 X
            have hll : M.length = X.length + Y.length := by rw [← HXY.out, List.length_append]
            have hno : ¬ 9223372036854775807 < O1.length + X.length := by have := HIl.out; omega
            have HXp : Hid (1 ≤ X.length ∧ I.length = O1.length + (X.length + Y.length)) := ⟨hXp, by rw [hl, hll]⟩
            clear hX hY hM hll hXp hl
            go_wp2_with fail
            refine hR.mono ?_
            rintro e w5 ⟨rfl, ha5, hu5⟩
            have HA5 : Hid (UnAt w5 L (UnQ Y)) := ha5
            have HX5 : Hid (w5.heap[bb]? = some (.cells #[ptr cc, ptr B, ptr x, ptr y] 44)) := hu5.other HX4.out rfl
            have HO5 : Hid (Below w.heap.size w w5) := HO4.out.trans (hu5.below HLo.out HO4.out.size)
            clear ha5 hu5 hR
            go_wp2
            all_goals go_roundw
            case rel => exact ⟨O1 ++ X, Y, by rw [List.append_assoc, HXY.out]; exact HIM.out, rfl, ⟨HX5.out, HA5.out, HO5.out⟩⟩
            case measure =>
              have hx := HXp.out
              rw [txN_tx, txN_tx, List.length_append]
              omega
end Go.Proofs.YtikjfdihocgfpaaGreatDoor
