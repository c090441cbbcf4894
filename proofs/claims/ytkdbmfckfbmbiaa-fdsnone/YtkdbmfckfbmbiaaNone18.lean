/- Proved: januslaw18.FdsNone answers true for every deed (descriptors that are none refuse all), at the commit of this claim; no condition beyond the row's own. -/
import Derived.Test.YtkdbmfckfbmbiaaDeed18
import Derived.ProofKit
import Derived.OpenShut
import Derived.ChangeOld
import Derived.Below
namespace Go.Proofs.Ytkdbmfckfbmbiaa
open Go.ChangeShapes Go.WideShapes Go.ChangeAt Go.RowKit Go.Lib
set_option linter.unusedVariables false

set_option maxHeartbeats 4000000 in
theorem none_walk (d : Deed) (w : World) :
    Calls Try.prog 7 #[.agg (deedRow d)] w fun e w' => e = .returned (.bool true) ∧ Below w.heap.size w w' := by
  obtain ⟨W, hW⟩ : ∃ W, W = w.alloc (.cells (deedRow d) 32) := ⟨_, rfl⟩
  obtain ⟨D, hD⟩ : ∃ D, D = w.heap.size := ⟨_, rfl⟩
  have HX0 : Hid (Box W D d) := by rw [hW, hD]; exact heap_alloc_new _ _
  have HB0 : Hid (Below w.heap.size w W) := by rw [hW]; exact below_alloc _ _
  have HW : Hid _ := hW
  have HD : Hid _ := hD
  clear hW hD
  obtain ⟨dk, dp, df, dn, ⟨xk, xi, xo, xa, xr⟩⟩ := d
  obtain ⟨c0, c1, c2, c3, c4, c5, c6, c7, c8⟩ := Box.cells HX0.out
  dsimp only [deedRow] at *
  have hbx : ∀ V, Below W.heap.size W V → V.cell? ⟨D, 1, none⟩ = some (.int .i64 dp) ∧ V.cell? ⟨D, 2, none⟩ = some (.int .i64 df) ∧ V.cell? ⟨D, 3, none⟩ = some (.int .i64 dn) := fun V hV => ⟨(Box.cells (Box.below HX0.out hV)).2.1, (Box.cells (Box.below HX0.out hV)).2.2.1, (Box.cells (Box.below HX0.out hV)).2.2.2.1⟩
  have HBX : Hid _ := hbx
  clear hbx
  have hgo : ∀ V V' : World, Below W.heap.size W V → Below V.heap.size V V' → Below W.heap.size W V' := fun V V' h h' => h.trans (h'.mono h.size)
  have HGO : Hid _ := hgo
  clear hgo
  go_enter Try.func7, Try.ntmps7
  go_wp2_with fail
  rw [← Hid.out HW, ← Hid.out HD]
  clear HW HD
  refine (open_nil _ ⟨xk, xi, xo, xa, xr⟩ _).mono ?_
  rintro e1 w1 ⟨rfl, hb1⟩
  obtain ⟨c1', c2', c3'⟩ := HBX.out w1 hb1
  have HB1 : Hid (Below W.heap.size W w1) := hb1
  clear c0 c1 c2 c3 c4 c5 c6 c7 c8 hb1
  go_wp2_with fail
  refine (dup_nil _ _ _).mono ?_
  rintro e1 w2 ⟨rfl, hw⟩
  rw [hw]
  clear hw w2
  go_wp2_with fail
  refine (close_nil _ _ _).mono ?_
  rintro e1 w2 ⟨rfl, hb2⟩
  unfold Fl.row Fl.no
  dsimp only
  have hb2' := HGO.out w1 w2 HB1.out hb2
  obtain ⟨W2, hW2⟩ : ∃ W2, W2 = w2.alloc (.cells nor 30) := ⟨_, rfl⟩
  have HB2 : Hid (Below W.heap.size W W2) := by rw [hW2]; exact hb2'.alloc hb2'.size _
  obtain ⟨d1, d2, d3⟩ := HBX.out w2 hb2'
  have hl2 : D < w2.heap.size := cell_lt d1
  have HW2 : Hid _ := hW2
  clear hb2 hb2' hW2 c1' c2' c3' HB1
  go_wp2_with fail
  rw [← Hid.out HW2]
  clear HW2
  refine (get_nil _ _ _).mono ?_
  rintro e1 w3 ⟨rfl, hb3⟩
  unfold Fl.row Fl.no
  dsimp only
  have hb3' := HGO.out W2 w3 HB2.out hb3
  obtain ⟨W3, hW3⟩ : ∃ W3, W3 = w3.alloc (.cells nor 30) := ⟨_, rfl⟩
  have HB3 : Hid (Below W.heap.size W W3) := by rw [hW3]; exact hb3'.alloc hb3'.size _
  obtain ⟨c1, c2, c3⟩ := HBX.out w3 hb3'
  have hl3 : D < w3.heap.size := cell_lt c1
  have HW3 : Hid _ := hW3
  clear hb3 hb3' hW3 d1 d2 d3 HB2 hl2
  go_wp2_with fail
  rw [← Hid.out HW3]
  clear HW3 c1 c2 c3
  obtain ⟨c1, c2, c3⟩ := HBX.out W3 HB3.out
  refine (fork_nil _ _ _).mono ?_
  rintro e1 w4 ⟨rfl, hw⟩
  rw [hw]
  clear hw w4
  go_wp2_with fail
  refine (seek_nil _ _ _ _).mono ?_
  rintro e1 w4 ⟨rfl, hw⟩
  rw [hw]
  clear hw w4
  go_wp2_with fail
  refine (gone_nil _ _).mono ?_
  rintro e1 w4 ⟨rfl, hb4⟩
  have HB4 : Hid (Below W.heap.size W w4) := HGO.out W3 w4 HB3.out hb4
  obtain ⟨d1, d2, d3⟩ := HBX.out w4 HB4.out
  clear hb4 c1 c2 c3 HB3
  go_wp2_with fail
  refine (leftA_nil _ _).mono ?_
  rintro e1 w5 ⟨rfl, hw⟩
  rw [hw]
  clear hw w5
  go_wp2_with fail
  refine (ids_nil _ _).mono ?_
  rintro e1 w5 ⟨rfl, hw⟩
  rw [hw]
  clear hw w5
  go_wp2_with fail
  refine (encode_nil _).mono ?_
  rintro e1 w5 ⟨rfl, hw⟩
  rw [hw]
  clear hw w5
  go_wp2_with fail
  refine (awake_at _).mono ?_
  rintro e2 w5 ⟨rfl, hb5⟩
  have hb := HGO.out w4 w5 HB4.out hb5
  clear hb5
  go_wp2
  go_ret
  exact ⟨rfl, HB0.out.trans (hb.mono HB0.out.size)⟩

theorem own : ownKnob Try.prog.godebug = none := by kernel_rfl
theorem laidOut : laidOutB Try.prog = true := by kernel_rfl

set_option maxRecDepth 100000 in
theorem none_lifted (os : Os) (started : os.Started) (H : Type) (enc : TypeId × Value → H) :
    ReturnsInHanded {} Try.checked os 7 .any (Rows.fdsNoneSpec.pre6 enc Try.prog Try.f7 Rows.fdsNoneRow.domain false) (Rows.fdsNoneSpec.post enc Try.prog Try.f7 false true false false) := by
  refine returnsInHanded_of_change (C := Try.checked) own started (by kernel_rfl) Try.func7
    (ChangeSpec.witness6 (enc := enc) (C := Try.checked) false ⟨#[], #[.agg #[.int .i64 0, .int .i64 0, .int .i64 0, .int .i64 0, .int .i64 0, .int .i64 0, .int .i64 0, .bool false, .int .i64 0]], []⟩ 8 (by kernel_rfl) (by kernel_rfl) (by kernel_rfl) (by kernel_rfl)) ?_
  intro W base args ds gs before hval0 hW hcnd _
  have hval : ∀ (j : Nat) t v, Try.f7.params[j]? = some t → args[j]? = some v → Value.okWide Try.prog W .any base t v := hval0
  have hW' := hW
  obtain ⟨p, q, hA0, hV, rfl, hfz, hnd⟩ := hW
  have hA : DataW.TrodAll enc Try.prog W 0 (fun _ => true) true Try.f7.params.toList args.toList ds p := hA0
  rw [Try.params7] at hA hval
  obtain ⟨v0, vs0, d0, ds0, p0, q0, hargs, rfl, rfl, h0, r0⟩ := trodAll_cons hA
  obtain ⟨rfl, rfl, rfl⟩ := trodAll_nil r0
  obtain rfl : args = #[v0] := by cases args; simp_all
  obtain ⟨rfl, rfl⟩ := trodVars_none hV
  have k0 := h0
  have lt0 : ∀ x ∈ p0, x.block < W.heap.size := by obtain ⟨m, hm⟩ := k0; exact DataW.trod_lt m _ _ _ hm
  obtain ⟨cs0, rfl, fit0⟩ := agg_fits Try.underlying32 deedKinds (hval 0 32 v0 rfl rfl) h0
  clear hA0 hval0
  obtain ⟨d, hcs⟩ := deedOf fit0
  obtain rfl : cs0 = deedRow d := Array.toList_inj.1 hcs
  have hwalk : Calls Try.prog 7 #[.agg (deedRow d)] W fun e w' => e = .returned (.bool true) ∧ Below W.heap.size W w' := none_walk d W
  refine hwalk.mono fun e W' ⟨he, bel⟩ => ?_
  subst he
  exact ⟨_, rfl, _, _, _, [], _, [], hW', trodAll_mk1 (shut_bool Try.underlying4 _), (trodAll_cons_mk (Below.trod laidOut (by kernel_rfl) (of_decide_eq_true (by kernel_rfl)) k0 bel lt0) trodAll_mk0), rfl, bel.frame _, fun h => by cases h⟩

theorem none_holds : Rows.FdsNoneSaid :=
  OpenClaim.holds_of_wide 7 Try.f7 rfl rfl rfl rfl rfl rfl rfl ⟨rfl, rfl, rfl, rfl, rfl⟩ rfl rfl rfl rfl rfl (by kernel_rfl) Try.func7 (by kernel_rfl)
    (of_decide_eq_true (by kernel_rfl)) (by unfold Func.isWrapper; first | (rw [if_pos (by decide +kernel)]; kernel_rfl) | (rw [if_neg (by decide +kernel)]; exact ⟨rfl, rfl⟩))
    (fun os started H enc _ => none_lifted os started H enc)
#print axioms none_holds
end Go.Proofs.Ytkdbmfckfbmbiaa
