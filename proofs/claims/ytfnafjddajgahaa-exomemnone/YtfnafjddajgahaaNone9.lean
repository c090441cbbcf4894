/- Proved: januslaw09.ExomemNone answers true for every deed (a kernel that is none refuses all), at the commit of this claim; no condition beyond the row's own. -/
import Derived.Test.YtfnafjddajgahaaDeed9
import Derived.ProofKit
import Derived.OpenShut
import Derived.ChangeOld
import Derived.Below
namespace Go.Proofs.Ytfnafjddajgahaa
open Go.ChangeShapes Go.WideShapes Go.ChangeAt Go.RowKit Go.Lib Ca
set_option linter.unusedVariables false

set_option maxRecDepth 100000 in
set_option maxHeartbeats 2000000 in
theorem none_walk (d : Dd) (w : World) :
    Calls Try.prog 4 #[.agg (ddRow d)] w fun e w' => e = .returned (.bool true) ∧ Below w.heap.size w w' := by
  obtain ⟨W, hW⟩ : ∃ W, W = w.alloc (.cells (ddRow d) 36) := ⟨_, rfl⟩
  have hbox : W.heap[w.heap.size]? = some (.cells (ddRow d) 36) := by rw [hW]; exact heap_alloc_new _ _
  have HO : Hid (Below w.heap.size w W) := by rw [hW]; exact below_alloc _ _
  have HX : Hid (∀ V, Below W.heap.size W V → V.heap[w.heap.size]? = some (.cells (ddRow d) 36)) := fun V hV => (hV.block _ (lt_of_heap hbox)).trans hbox
  obtain ⟨⟨c0, c1, c2, c3⟩, c4, c5, c6, c7⟩ := ddCells hbox
  clear hbox
  obtain ⟨k, e, s, t, r, b, a, v⟩ := d
  dsimp only [ddRow] at *
  go_enter Try.func4, Try.ntmps4
  go_wp2_with fail
  rw [← hW]
  clear hW
  refine (kalloc_nil _ W).mono ?_
  rintro e1 w1 ⟨rfl, hw⟩
  rw [hw]
  clear hw w1
  go_wp2_with fail
  refine (kgrant_nil _ _ _ _ _).mono ?_
  rintro e2 w2 ⟨rfl, hw⟩
  rw [hw]
  clear hw w2
  go_wp2_with fail
  refine (kload_nil _ _ _).mono ?_
  rintro e2 w2 ⟨rfl, hw⟩
  rw [hw]
  clear hw w2
  go_wp2_with fail
  refine (kread_nil _ _ _ _).mono ?_
  rintro e2 w2 ⟨rfl, hw⟩
  rw [hw]
  clear hw w2
  go_wp2_with fail
  refine (kpage_nil _ _ _).mono ?_
  rintro e2 w2 ⟨rfl, hb2⟩
  clear c0 c1 c2 c3 c4 c5 c6 c7
  obtain ⟨V, hV⟩ : ∃ V, V = w2.alloc (.cells #[.int .i64 0, .bool false] 39) := ⟨_, rfl⟩
  have hbV : Below w2.heap.size w2 V := by rw [hV]; exact below_alloc _ _
  have HBV : Hid (Below W.heap.size W V) := hb2.trans (hbV.mono hb2.size)
  obtain ⟨⟨c0, c1, c2, c3⟩, c4, c5, c6, c7⟩ := ddCells (d := ⟨k, e, s, t, r, b, a, v⟩) (HX.out V HBV.out)
  dsimp only at c0 c1 c2 c3 c4 c5 c6 c7
  have HVV : Hid _ := hV
  have c1' := c1
  rw [hV] at c1'
  clear hbV hb2 hV
  unfold Mu.pv
  go_wp2_with fail
  rw [← HVV.out]
  clear c1' HVV
  refine (kgone_nil _ _).mono ?_
  rintro e2 w3 ⟨rfl, hw⟩
  rw [hw]
  clear hw w3
  go_wp2_with fail
  refine (kfree_nil _ _ _).mono ?_
  rintro e2 w3 ⟨rfl, hw⟩
  rw [hw]
  clear hw w3
  go_wp2_with fail
  refine (krevoke_nil _ _ _).mono ?_
  rintro e2 w3 ⟨rfl, hw⟩
  rw [hw]
  clear hw w3
  go_wp2_with fail
  refine (kmap_nil _ _ _ _ _).mono ?_
  rintro e2 w3 ⟨rfl, hw⟩
  rw [hw]
  clear hw w3
  go_wp2_with fail
  refine (kunmap_nil _ _ _).mono ?_
  rintro e2 w3 ⟨rfl, hw⟩
  rw [hw]
  clear hw w3
  go_wp2_with fail
  refine (kstore_nil _ _ _ _).mono ?_
  rintro e2 w3 ⟨rfl, hw⟩
  rw [hw]
  clear hw w3
  go_wp2_with fail
  refine (kcopy_nil _ _ _ _).mono ?_
  rintro e2 w3 ⟨rfl, hw⟩
  rw [hw]
  clear hw w3
  go_wp2_with fail
  refine (kwrite_nil _ _ _ _ _).mono ?_
  rintro e2 w3 ⟨rfl, hw⟩
  rw [hw]
  clear hw w3
  go_wp2_with fail
  refine (kleft_nil _).mono ?_
  rintro e2 w3 ⟨rfl, hw⟩
  rw [hw]
  clear hw w3
  go_wp2_with fail
  refine (krefsN_nil _ _ _).mono ?_
  rintro e2 w4 ⟨rfl, hb4⟩
  have HB4 : Hid (Below W.heap.size W w4) := HBV.out.trans (hb4.mono HBV.out.size)
  clear c0 c1 c2 c3 c4 c5 c6 c7 hb4
  obtain ⟨⟨c0, c1, c2, c3⟩, c4, c5, c6, c7⟩ := ddCells (d := ⟨k, e, s, t, r, b, a, v⟩) (HX.out w4 HB4.out)
  dsimp only at c0 c1 c2 c3 c4 c5 c6 c7
  go_wp2_with fail
  refine (kslot_nil _ _ _).mono ?_
  rintro e2 w5 ⟨rfl, hb5⟩
  have HB5 : Hid (Below W.heap.size W w5) := HB4.out.trans (hb5.mono HB4.out.size)
  clear hb5
  go_wp2_with fail
  refine (Go.Proofs.Ytfnafjddajgahaa.awake_at _).mono ?_
  rintro e2 w3 ⟨rfl, hb3⟩
  go_wp2
  go_ret
  have h1 := HO.out.trans (HB5.out.mono HO.out.size)
  exact ⟨rfl, h1.trans (hb3.mono h1.size)⟩

theorem own : ownKnob Try.prog.godebug = none := by kernel_rfl
theorem laidOut : laidOutB Try.prog = true := by kernel_rfl

set_option maxRecDepth 100000 in
theorem none_lifted (os : Os) (started : os.Started) (H : Type) (enc : TypeId × Value → H) :
    ReturnsInHanded {} Try.checked os 4 .any (Rows.exomemNoneSpec.pre6 enc Try.prog Try.f4 Rows.exomemNoneRow.domain false) (Rows.exomemNoneSpec.post enc Try.prog Try.f4 false true false false) := by
  refine returnsInHanded_of_change (C := Try.checked) own started (by kernel_rfl) Try.func4
    (ChangeSpec.witness6 (enc := enc) (C := Try.checked) false ⟨#[], #[.agg #[.int .i64 0, .int .i64 0, .int .i64 0, .int .i64 0, .int .i64 0, .bool false, .int .u64 0, .int .u64 0]], []⟩ 8 (by kernel_rfl) (by kernel_rfl) (by kernel_rfl) (by kernel_rfl)) ?_
  intro W base args ds gs before hval0 hW hcnd _
  have hval : ∀ (j : Nat) t v, Try.f4.params[j]? = some t → args[j]? = some v → Value.okWide Try.prog W .any base t v := hval0
  have hW' := hW
  obtain ⟨p, q, hA0, hV, rfl, hfz, hnd⟩ := hW
  have hA : DataW.TrodAll enc Try.prog W 0 (fun _ => true) true Try.f4.params.toList args.toList ds p := hA0
  rw [Try.params4] at hA hval
  obtain ⟨v0, vs0, d0, ds0, p0, q0, hargs, rfl, rfl, h0, r0⟩ := trodAll_cons hA
  obtain ⟨rfl, rfl, rfl⟩ := trodAll_nil r0
  obtain rfl : args = #[v0] := by cases args; simp_all
  obtain ⟨rfl, rfl⟩ := trodVars_none hV
  have k0 := h0
  have lt0 : ∀ x ∈ p0, x.block < W.heap.size := by obtain ⟨m, hm⟩ := k0; exact DataW.trod_lt m _ _ _ hm
  obtain ⟨cs0, rfl, fit0⟩ := agg_fits Try.underlying36 ddKinds (hval 0 36 v0 rfl rfl) h0
  clear hA0 hval0
  obtain ⟨d, _, hcs⟩ := ddOf fit0
  obtain rfl : cs0 = ddRow d := Array.toList_inj.1 hcs
  have hwalk : Calls Try.prog 4 #[.agg (ddRow d)] W fun e w' => e = .returned (.bool true) ∧ Below W.heap.size W w' := none_walk d W
  refine hwalk.mono fun e W' ⟨he, bel⟩ => ?_
  subst he
  exact ⟨_, rfl, _, _, _, [], _, [], hW', trodAll_mk1 (shut_bool Try.underlying4 _), (trodAll_cons_mk (Below.trod laidOut (by kernel_rfl) (of_decide_eq_true (by kernel_rfl)) k0 bel lt0) trodAll_mk0), rfl, bel.frame _, fun h => by cases h⟩

theorem none_holds : Rows.ExomemNoneSaid :=
  OpenClaim.holds_of_wide 4 Try.f4 rfl rfl rfl rfl rfl rfl rfl ⟨rfl, rfl, rfl, rfl, rfl⟩ rfl rfl rfl rfl rfl (by kernel_rfl) Try.func4 (by kernel_rfl)
    (of_decide_eq_true (by kernel_rfl)) (by unfold Func.isWrapper; first | (rw [if_pos (by decide +kernel)]; kernel_rfl) | (rw [if_neg (by decide +kernel)]; exact ⟨rfl, rfl⟩))
    (fun os started H enc _ => none_lifted os started H enc)
#print axioms none_holds
end Go.Proofs.Ytfnafjddajgahaa
