/- Proved: januslaw12.ExodiskNone answers true for every deed (a kernel that is none refuses all), at the commit of this claim; no condition beyond the row's own. -/
import Derived.Test.YtfnafjddajgahabXdN
import Derived.ProofKit
import Derived.OpenShut
import Derived.ChangeOld
import Derived.Below
namespace Go.Proofs.Ytfnafjddajgahab
open Go.ChangeShapes Go.WideShapes Go.ChangeAt Go.RowKit Go.Lib Ca
set_option linter.unusedVariables false

set_option maxRecDepth 100000 in
set_option maxHeartbeats 2000000 in
theorem none_walk (d : De) (w : World) :
    Calls Try.prog 4 #[.agg (deRow d)] w fun e w' => e = .returned (.bool true) ∧ Below w.heap.size w w' := by
  obtain ⟨W, hW⟩ : ∃ W, W = w.alloc (.cells (deRow d) 32) := ⟨_, rfl⟩
  have hbox : W.heap[w.heap.size]? = some (.cells (deRow d) 32) := by rw [hW]; exact heap_alloc_new _ _
  have HO : Hid (Below w.heap.size w W) := by rw [hW]; exact below_alloc _ _
  obtain ⟨⟨c0, c1, c2, c3⟩, c4, c5, c6⟩ := deCells hbox
  simp only [Nat.zero_add] at c0 c1 c2 c3 c4 c5 c6
  clear hbox
  obtain ⟨k, e, s, t, f, r, v⟩ := d
  dsimp only [deRow] at *
  go_enter Try.func4, Try.ntmps4
  go_wp2_with fail
  rw [← hW]
  clear hW
  refine (xalloc_nil _ _ _ W).mono ?_
  rintro e1 w1 ⟨rfl, hw⟩
  rw [hw]
  clear hw w1
  go_wp2_with fail
  refine (xgrant_nil _ _ _ _ _).mono ?_
  rintro e2 w2 ⟨rfl, hw⟩
  rw [hw]
  clear hw w2
  go_wp2_with fail
  refine (xget_nil _ _ _ _).mono ?_
  rintro e2 w2 ⟨rfl, hw⟩
  rw [hw]
  clear hw w2
  go_wp2_with fail
  refine (xview_nil _ _ _).mono ?_
  rintro e2 w2 ⟨rfl, hw⟩
  rw [hw]
  clear hw w2
  go_wp2_with fail
  refine (xvget_nil _ _).mono ?_
  rintro e2 w2 ⟨rfl, hw⟩
  rw [hw]
  clear hw w2
  go_wp2_with fail
  refine (xgone_nil _ _).mono ?_
  rintro e2 w2 ⟨rfl, hw⟩
  rw [hw]
  clear hw w2
  go_wp2_with fail
  refine (xrevoke_nil _ _ _).mono ?_
  rintro e2 w2 ⟨rfl, hw⟩
  rw [hw]
  clear hw w2
  go_wp2_with fail
  refine (xput_nil _ _ _ _ _).mono ?_
  rintro e2 w2 ⟨rfl, hw⟩
  rw [hw]
  clear hw w2
  go_wp2_with fail
  refine (xsync_nil _).mono ?_
  rintro e2 w2 ⟨rfl, hw⟩
  rw [hw]
  clear hw w2
  go_wp2_with fail
  refine (xcached_nil _).mono ?_
  rintro e2 w2 ⟨rfl, hw⟩
  rw [hw]
  clear hw w2
  go_wp2_with fail
  refine (xdisk_nil _ _).mono ?_
  rintro e2 w2 ⟨rfl, hw⟩
  rw [hw]
  clear hw w2
  go_wp2_with fail
  refine (xvput_nil _ _ _).mono ?_
  rintro e2 w2 ⟨rfl, hw⟩
  rw [hw]
  clear hw w2
  go_wp2_with fail
  refine (Go.Proofs.Ytfnafjddajgahab.awake_at _).mono ?_
  rintro e2 w3 ⟨rfl, hb3⟩
  go_wp2
  go_ret
  exact ⟨rfl, HO.out.trans (hb3.mono HO.out.size)⟩

theorem own : ownKnob Try.prog.godebug = none := by kernel_rfl
theorem laidOut : laidOutB Try.prog = true := by kernel_rfl

set_option maxRecDepth 100000 in
theorem none_lifted (os : Os) (started : os.Started) (H : Type) (enc : TypeId × Value → H) :
    ReturnsInHanded {} Try.checked os 4 .any (Rows.exodiskNoneSpec.pre6 enc Try.prog Try.f4 Rows.exodiskNoneRow.domain false) (Rows.exodiskNoneSpec.post enc Try.prog Try.f4 false true false false) := by
  refine returnsInHanded_of_change (C := Try.checked) own started (by kernel_rfl) Try.func4
    (ChangeSpec.witness6 (enc := enc) (C := Try.checked) false ⟨#[], #[.agg #[.int .i64 0, .int .i64 0, .int .i64 0, .int .i64 0, .int .i64 0, .int .i64 0, .int .u64 0]], []⟩ 8 (by kernel_rfl) (by kernel_rfl) (by kernel_rfl) (by kernel_rfl)) ?_
  intro W base args ds gs before hval0 hW hcnd _
  have hval : ∀ (j : Nat) t v, Try.f4.params[j]? = some t → args[j]? = some v → Value.okWide Try.prog W .any base t v := hval0
  have hW' := hW
  obtain ⟨p, q, hA0, hV, rfl, hfz, hnd⟩ := hW
  have hA : DataW.TrodAll enc Try.prog W 0 (fun _ => true) true Try.f4.params.toList args.toList ds p := hA0
  rw [Try.params4] at hA hval
  obtain ⟨v0, vs0, d0, ds0, p0, q0, hargs, rfl, rfl, h0, r0⟩ := trodAll_cons hA
  obtain ⟨rfl, rfl, rfl⟩ := trodAll_nil r0
  obtain rfl : args = #[v0] := by cases args; simp_all
  obtain ⟨rfl, rfl⟩ := trodVars_none hV
  have k0 := h0
  have lt0 : ∀ x ∈ p0, x.block < W.heap.size := by obtain ⟨m, hm⟩ := k0; exact DataW.trod_lt m _ _ _ hm
  obtain ⟨cs0, rfl, fit0⟩ := agg_fits Try.underlying32 deKinds (hval 0 32 v0 rfl rfl) h0
  clear hA0 hval0
  obtain ⟨d, hd, hcs⟩ := deOf fit0
  obtain rfl : cs0 = deRow d := by cases cs0; simp_all
  have hwalk : Calls Try.prog 4 #[.agg (deRow d)] W fun e w' => e = .returned (.bool true) ∧ Below W.heap.size W w' := none_walk d W
  refine hwalk.mono fun e W' ⟨he, bel⟩ => ?_
  subst he
  exact ⟨_, rfl, _, _, _, [], _, [], hW', trodAll_mk1 (shut_bool Try.underlying4 _), (trodAll_cons_mk (Below.trod laidOut (by kernel_rfl) (of_decide_eq_true (by kernel_rfl)) k0 bel lt0) trodAll_mk0), rfl, bel.frame _, fun h => by cases h⟩

theorem none_holds : Rows.ExodiskNoneSaid :=
  OpenClaim.holds_of_wide 4 Try.f4 rfl rfl rfl rfl rfl rfl rfl ⟨rfl, rfl, rfl, rfl, rfl⟩ rfl rfl rfl rfl rfl (by kernel_rfl) Try.func4 (by kernel_rfl)
    (of_decide_eq_true (by kernel_rfl)) (by unfold Func.isWrapper; first | (rw [if_pos (by decide +kernel)]; kernel_rfl) | (rw [if_neg (by decide +kernel)]; exact ⟨rfl, rfl⟩))
    (fun os started H enc _ => none_lifted os started H enc)
#print axioms none_holds
end Go.Proofs.Ytfnafjddajgahab
