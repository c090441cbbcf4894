/- Proved: januslaw01.MemOwn answers true for every number (a page that was handed out is not the memory's), at the commit of this claim; no condition beyond the row's own. -/
import Derived.Test.YtnpgkhlidngngaaMemE
import Derived.ProofKit
import Derived.OpenShut
import Derived.ChangeOld
import Derived.Below
namespace Go.Proofs.Ytnpgkhlidngngaa
open Go.ChangeShapes Go.WideShapes Go.ChangeAt Go.RowKit
set_option linter.unusedVariables false

set_option maxHeartbeats 1000000 in
theorem own_walk (v : Int) (w : World) :
    Calls Try.prog 6 #[.int .u64 v] w fun e w' => e = .returned (.bool true) ∧ Below w.heap.size w w' := by
  go_enter Try.func6, Try.ntmps6
  go_wp2_with fail
  refine (new_at 1 _ (by omega) (by omega)).mono ?_
  rintro e w1 ⟨rfl, hm1, hb1, hs1⟩
  have HS1 : Hid _ := hs1
  clear hs1
  go_wp2_with fail
  refine (page_at _ _ _ _ 0 _ hm1 (by omega) (by simp)).mono ?_
  rintro e w2 ⟨rfl, hp2, hb2, hs2⟩
  have HS2 : Hid _ := hs2
  clear hs2
  have hc3 : w2.cell? ⟨w1.heap.size, 3, none⟩ = some (.int .u64 0) := by rw [cell_of_heap hp2]; rfl
  have hf3 : w2.frozen? ⟨w1.heap.size, 3, none⟩ = false := frozen_of_heap hp2
  have hm2 := hm1.below hb2
  go_wp2_with fail
  have hm3 := hm2.other w1.heap.size 3 (.int .u64 (bits BinOp.or .u64 v 1)) (by have := HS1.out; omega) (by have := HS1.out; omega)
  refine (read_at _ _ _ _ 0 3 _ hm3 (by omega) (by simp) (by omega) (by omega)).mono ?_
  rintro e w4 ⟨rfl, rfl⟩
  go_wp2_with fail
  refine (awake_any _).mono ?_
  rintro e w5 ⟨rfl, hb5⟩
  go_wp2_with fail
  go_ret
  have hs1 := HS1.out
  have hs2 := HS2.out
  refine ⟨rfl, ((hb1.trans (hb2.mono (by omega))).setCell (p := ⟨w1.heap.size, 3, none⟩) (by simp; omega) _).trans (hb5.mono ?_)⟩
  simp [World.setCell]
  omega

theorem own : ownKnob Try.prog.godebug = none := by kernel_rfl
theorem laidOut : laidOutB Try.prog = true := by kernel_rfl

set_option maxRecDepth 100000 in
theorem own_lifted (os : Os) (started : os.Started) (H : Type) (enc : TypeId × Value → H) :
    ReturnsInHanded {} Try.checked os 6 .any (Rows.memOwnSpec.pre6 enc Try.prog Try.f6 Rows.memOwnRow.domain false) (Rows.memOwnSpec.post enc Try.prog Try.f6 false true false false) := by
  refine returnsInHanded_of_change (C := Try.checked) own started (by kernel_rfl) Try.func6
    (ChangeSpec.witness6 (enc := enc) (C := Try.checked) false ⟨#[], #[.int .u64 0], []⟩ 8 (by kernel_rfl) (by kernel_rfl) (by kernel_rfl) (by kernel_rfl)) ?_
  intro W base args ds gs before hval0 hW hcnd _
  have hval : ∀ (j : Nat) t v, Try.f6.params[j]? = some t → args[j]? = some v → Value.okWide Try.prog W .any base t v := hval0
  have hW' := hW
  obtain ⟨p, q, hA0, hV, rfl, hfz, hnd⟩ := hW
  have hA : DataW.TrodAll enc Try.prog W 0 (fun _ => true) true Try.f6.params.toList args.toList ds p := hA0
  rw [Try.params6] at hA hval
  obtain ⟨v0, vs0, d0, ds0, p0, q0, hargs, rfl, rfl, h0, r0⟩ := trodAll_cons hA
  obtain ⟨rfl, rfl, rfl⟩ := trodAll_nil r0
  obtain rfl : args = #[v0] := by cases args; simp_all
  obtain ⟨rfl, rfl⟩ := trodVars_none hV
  obtain ⟨a0, rfl, rfl, rfl, w0⟩ := open_int Try.underlying27 (hval 0 27 v0 rfl rfl) h0
  clear hA0 hval0
  refine (own_walk a0 W).mono fun e W' ⟨he, bel⟩ => ?_
  subst he
  exact ⟨_, rfl, _, _, _, [], _, [], hW', trodAll_mk1 (shut_bool Try.underlying4 _), (trodAll_cons_mk (shut_int Try.underlying27 w0) trodAll_mk0), rfl, bel.frame _, fun h => by cases h⟩

theorem own_holds : Rows.MemOwnSaid :=
  OpenClaim.holds_of_wide 6 Try.f6 rfl rfl rfl rfl rfl rfl rfl ⟨rfl, rfl, rfl, rfl, rfl⟩ rfl rfl rfl rfl rfl (by kernel_rfl) Try.func6 (by kernel_rfl)
    (of_decide_eq_true (by kernel_rfl)) (by unfold Func.isWrapper; first | (rw [if_pos (by decide +kernel)]; kernel_rfl) | (rw [if_neg (by decide +kernel)]; exact ⟨rfl, rfl⟩))
    (fun os started H enc _ => own_lifted os started H enc)
#print axioms own_holds

end Go.Proofs.Ytnpgkhlidngngaa
