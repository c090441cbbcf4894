/- Proved: januslaw14.BitmapNone answers true for every deed (a bitmap that is none refuses all), at the commit of this claim; no condition beyond the row's own. -/
import Derived.Test.YtahcbehbpadjaaaBitW
import Derived.ProofKit
import Derived.OpenShut
import Derived.ChangeOld
import Derived.Below
namespace Go.Proofs.Ytahcbehbpadjaaa
open Go.ChangeShapes Go.WideShapes Go.ChangeAt Go.RowKit Go.Lib
set_option linter.unusedVariables false

set_option maxHeartbeats 1000000 in
theorem none_walk (d : Deed) (w : World) :
    Calls Try.prog 6 #[.agg (deedRow d)] w fun e w' => e = .returned (.bool true) ∧ Below w.heap.size w w' := by
  obtain ⟨W, hW⟩ : ∃ W, W = w.alloc (.cells (deedRow d) 28) := ⟨_, rfl⟩
  have hbox : W.heap[w.heap.size]? = some (.cells (deedRow d) 28) := by rw [hW]; exact heap_alloc_new _ _
  have HO : Hid (Below w.heap.size w W) := by rw [hW]; exact below_alloc _ _
  have HX : Hid _ := hbox
  obtain ⟨c0, c1, c2⟩ := deedCells hbox
  clear hbox
  obtain ⟨k, i, on⟩ := d
  dsimp only [deedRow] at *
  go_enter Try.func6, Try.ntmps6
  go_wp2_with fail
  rw [← hW]
  clear hW
  refine (len_nil _).mono ?_
  rintro e1 w1 ⟨rfl, hw⟩
  rw [hw]
  clear hw w1
  go_wp2_with fail
  refine (used_nil _ _).mono ?_
  rintro e1 w1 ⟨rfl, q, hw⟩
  rw [hw]
  clear hw w1 c0 c1 c2
  obtain ⟨c0, c1, c2⟩ := deedCells (w := W.drewN q) (d := ⟨k, i, on⟩) HX.out
  dsimp only at c0 c1 c2
  go_wp2_with fail
  refine (take_nil _).mono ?_
  rintro e1 w1 ⟨rfl, hw⟩
  rw [hw]
  clear hw w1
  go_wp2_with fail
  refine (mark_nil _ _ _).mono ?_
  rintro e1 w1 ⟨rfl, hw⟩
  rw [hw]
  clear hw w1
  go_wp2_with fail
  refine (left_nil _).mono ?_
  rintro e1 w1 ⟨rfl, hw⟩
  rw [hw]
  clear hw w1
  go_wp2_with fail
  refine (words_nil _).mono ?_
  rintro e1 w1 ⟨rfl, hw⟩
  rw [hw]
  clear hw w1
  go_wp2_with fail
  refine (awake_at _).mono ?_
  rintro e2 w3 ⟨rfl, hb3⟩
  go_wp2
  go_ret
  exact ⟨rfl, HO.out.trans (((drewN_below (w := W) ⟨q, rfl⟩).trans hb3).mono HO.out.size)⟩

theorem own : ownKnob Try.prog.godebug = none := by kernel_rfl
theorem laidOut : laidOutB Try.prog = true := by kernel_rfl

set_option maxRecDepth 100000 in
theorem none_lifted (os : Os) (started : os.Started) (H : Type) (enc : TypeId × Value → H) :
    ReturnsInHanded {} Try.checked os 6 .any (Rows.bitmapNoneSpec.pre6 enc Try.prog Try.f6 Rows.bitmapNoneRow.domain false) (Rows.bitmapNoneSpec.post enc Try.prog Try.f6 false true false false) := by
  refine returnsInHanded_of_change (C := Try.checked) own started (by kernel_rfl) Try.func6
    (ChangeSpec.witness6 (enc := enc) (C := Try.checked) false ⟨#[], #[.agg #[.int .i64 0, .int .i64 0, .bool false]], []⟩ 8 (by kernel_rfl) (by kernel_rfl) (by kernel_rfl) (by kernel_rfl)) ?_
  intro W base args ds gs before hval0 hW hcnd _
  have hval : ∀ (j : Nat) t v, Try.f6.params[j]? = some t → args[j]? = some v → Value.okWide Try.prog W .any base t v := hval0
  have hW' := hW
  obtain ⟨p, q, hA0, hV, rfl, hfz, hnd⟩ := hW
  have hA : DataW.TrodAll enc Try.prog W 0 (fun _ => true) true Try.f6.params.toList args.toList ds p := hA0
  rw [Try.params6] at hA hval
  obtain ⟨v0, vs0, d0, ds0, p0, q0, hargs, rfl, rfl, h0, r0⟩ := trodAll_cons hA
  obtain ⟨rfl, rfl, rfl⟩ := trodAll_nil r0
  obtain rfl : args = #[v0] := by cases args; simp_all
  obtain ⟨rfl, rfl⟩ := trodVars_none hV
  have k0 := h0
  have lt0 : ∀ x ∈ p0, x.block < W.heap.size := by obtain ⟨m, hm⟩ := k0; exact DataW.trod_lt m _ _ _ hm
  obtain ⟨cs0, rfl, fit0⟩ := agg_fits Try.underlying28 deedKinds (hval 0 28 v0 rfl rfl) h0
  clear hA0 hval0
  obtain ⟨d, hcs⟩ := deedOf fit0
  obtain rfl : cs0 = deedRow d := Array.toList_inj.1 hcs
  have hwalk : Calls Try.prog 6 #[.agg (deedRow d)] W fun e w' => e = .returned (.bool true) ∧ Below W.heap.size W w' := none_walk d W
  refine hwalk.mono fun e W' ⟨he, bel⟩ => ?_
  subst he
  exact ⟨_, rfl, _, _, _, [], _, [], hW', trodAll_mk1 (shut_bool Try.underlying4 _), (trodAll_cons_mk (Below.trod laidOut (by kernel_rfl) (of_decide_eq_true (by kernel_rfl)) k0 bel lt0) trodAll_mk0), rfl, bel.frame _, fun h => by cases h⟩

theorem none_holds : Rows.BitmapNoneSaid :=
  OpenClaim.holds_of_wide 6 Try.f6 rfl rfl rfl rfl rfl rfl rfl ⟨rfl, rfl, rfl, rfl, rfl⟩ rfl rfl rfl rfl rfl (by kernel_rfl) Try.func6 (by kernel_rfl)
    (of_decide_eq_true (by kernel_rfl)) (by unfold Func.isWrapper; first | (rw [if_pos (by decide +kernel)]; kernel_rfl) | (rw [if_neg (by decide +kernel)]; exact ⟨rfl, rfl⟩))
    (fun os started H enc _ => none_lifted os started H enc)
#print axioms none_holds
end Go.Proofs.Ytahcbehbpadjaaa
