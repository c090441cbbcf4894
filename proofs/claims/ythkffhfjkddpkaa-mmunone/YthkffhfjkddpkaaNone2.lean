/- Proved: januslaw02.MmuNone answers true for every deed (a table and a TLB that are none refuse all), at the commit of this claim; no condition beyond the row's own. -/
import Derived.Test.YthkffhfjkddpkaaDeed2
namespace Go.Proofs.Ythkffhfjkddpkaa
open Go.ChangeShapes Go.WideShapes Go.ChangeAt Go.RowKit Go.Joins
set_option linter.unusedVariables false

set_option maxHeartbeats 2000000 in
theorem none_walk (k pg fr : Int) (wt : Bool) (a : Int) (wr : Bool) (w : World) (h0 : 0 ≤ a) :
    Calls Try.prog 6 #[.agg (deedRow k pg fr wt a wr)] w fun e w' => e = .returned (.bool true) ∧ Below w.heap.size w w' := by
  obtain ⟨W, hW⟩ : ∃ W, W = w.alloc (.cells (deedRow k pg fr wt a wr) 40) := ⟨_, rfl⟩
  have hx0 : Hid _ := heap_alloc_new w (.cells (deedRow k pg fr wt a wr) 40)
  have B0 : Below w.heap.size w W := by rw [hW]; exact (Below.refl _ _).alloc (Nat.le_refl _) _
  rw [← hW] at hx0
  obtain ⟨c0, c1, c2, c3, c4, c5⟩ := deedCells hx0.out
  unfold deedRow at hW ⊢
  go_enter Try.func6, Try.ntmps6
  go_wp2_with fail
  rw [← hW]
  have HW : Hid _ := hW
  clear hW
  refine (walk_nil a wr _ h0).mono ?_
  rintro e w1 ⟨rfl, b1⟩
  have hx1 : Hid _ := (b1.block _ (lt_of_heap hx0.out)).trans hx0.out
  obtain ⟨c0, c1, c2, c3, c4, c5⟩ := deedCells hx1.out
  unfold t3
  go_wp2_with fail
  refine (twalk_nil none a wr _ h0).mono ?_
  rintro e w2 ⟨rfl, rfl⟩
  unfold t4
  go_wp2_with fail
  refine (at_nil _ _).mono ?_
  rintro e w3 ⟨rfl, b3⟩
  have hx3 : Hid _ := (b3.block _ (lt_of_heap hx1.out)).trans hx1.out
  have hl3 := lt_of_heap hx3.out
  obtain ⟨c0, c1, c2, c3, c4, c5⟩ := deedCells hx3.out
  unfold pv
  go_wp2_with fail
  have b3' := b3.alloc b3.size (.cells #[.int .i64 0, .bool false] 29)
  have hx3' : Hid _ := (b3'.block _ (lt_of_heap hx1.out)).trans hx1.out
  refine (drop_nil _ _).mono ?_
  rintro e w4 ⟨rfl, b4⟩
  have hx4 : Hid _ := (b4.block _ (lt_of_heap hx3'.out)).trans hx3'.out
  obtain ⟨c0, c1, c2, c3, c4, c5⟩ := deedCells hx4.out
  go_wp2_with fail
  refine (flush_nil _).mono ?_
  rintro e w5 ⟨rfl, rfl⟩
  go_wp2_with fail
  refine (map_nil _ (fr, wt) _).mono ?_
  rintro e w6 ⟨rfl, b6⟩
  have hx6 : Hid _ := (b6.block _ (lt_of_heap hx4.out)).trans hx4.out
  obtain ⟨c0, c1, c2, c3, c4, c5⟩ := deedCells hx6.out
  go_wp2_with fail
  refine (unmap_nil _ _).mono ?_
  rintro e w7 ⟨rfl, rfl⟩
  go_wp2_with fail
  refine (frames_nil _).mono ?_
  rintro e w8 ⟨rfl, b8⟩
  go_wp2_with fail
  refine (pages_nil _).mono ?_
  rintro e w9 ⟨rfl, rfl⟩
  go_wp2_with fail
  refine (awake_any _).mono ?_
  rintro e w10 ⟨rfl, b10⟩
  go_wp2
  go_ret
  have s0 := B0.size
  have s1 := b1.size
  have s3 := b3'.size
  have s4 := b4.size
  have s6 := b6.size
  have s8 := b8.size
  have s10 := b10.size
  exact ⟨rfl, (((((B0.trans (b1.mono (by omega))).trans (b3'.mono (by omega))).trans (b4.mono (by omega))).trans (b6.mono (by omega))).trans (b8.mono (by omega))).trans (b10.mono (by omega))⟩

theorem own : ownKnob Try.prog.godebug = none := by kernel_rfl
theorem laidOut : laidOutB Try.prog = true := by kernel_rfl

set_option maxRecDepth 100000 in
theorem none_lifted (os : Os) (started : os.Started) (H : Type) (enc : TypeId × Value → H) :
    ReturnsInHanded {} Try.checked os 6 .any (Rows.mmuNoneSpec.pre6 enc Try.prog Try.f6 Rows.mmuNoneRow.domain false) (Rows.mmuNoneSpec.post enc Try.prog Try.f6 false true false false) := by
  refine returnsInHanded_of_change (C := Try.checked) own started (by kernel_rfl) Try.func6
    (ChangeSpec.witness6 (enc := enc) (C := Try.checked) false ⟨#[], #[.agg #[.int .i64 0, .int .i64 0, .int .i64 0, .bool false, .int .u64 0, .bool false]], []⟩ 8 (by kernel_rfl) (by kernel_rfl) (by kernel_rfl) (by kernel_rfl)) ?_
  intro W base args ds gs before hval0 hW hcnd _
  have hval : ∀ (j : Nat) t v, Try.f6.params[j]? = some t → args[j]? = some v → Value.okWide Try.prog W .any base t v := hval0
  have hW' := hW
  obtain ⟨p, q, hA0, hV, rfl, hfz, hnd⟩ := hW
  have hA : DataW.TrodAll enc Try.prog W 0 (fun _ => true) true Try.f6.params.toList args.toList ds p := hA0
  rw [Try.params6] at hA hval
  obtain ⟨v0, vs0, d0, ds0, p0, q0, hargs, rfl, rfl, h0, r0⟩ := trodAll_cons hA
  obtain ⟨rfl, rfl, rfl⟩ := trodAll_nil r0
  obtain rfl : args = #[v0] := by cases args; simp_all
  obtain ⟨rfl, rfl⟩ := trodVars_none hV
  have k0 := h0
  have lt0 : ∀ x ∈ p0, x.block < W.heap.size := by obtain ⟨m, hm⟩ := k0; exact DataW.trod_lt m _ _ _ hm
  obtain ⟨cs, rfl, hfit⟩ := agg_fits Try.underlying40 deedKinds (hval 0 40 v0 rfl rfl) h0
  obtain ⟨k, pg, fr, wt, a, wr, hcs, ha⟩ := deedOf hfit
  obtain rfl : cs = deedRow k pg fr wt a wr := Array.toList_inj.1 hcs
  clear hA0 hval0
  refine (none_walk k pg fr wt a wr W ha).mono fun e W' ⟨he, bel⟩ => ?_
  subst he
  exact ⟨_, rfl, _, _, _, [], _, [], hW', trodAll_mk1 (shut_bool Try.underlying4 _), (trodAll_cons_mk (Below.trod laidOut (by kernel_rfl) (of_decide_eq_true (by kernel_rfl)) k0 bel lt0) trodAll_mk0), rfl, bel.frame _, fun h => by cases h⟩

theorem none_holds : Rows.MmuNoneSaid :=
  OpenClaim.holds_of_wide 6 Try.f6 rfl rfl rfl rfl rfl rfl rfl ⟨rfl, rfl, rfl, rfl, rfl⟩ rfl rfl rfl rfl rfl (by kernel_rfl) Try.func6 (by kernel_rfl)
    (of_decide_eq_true (by kernel_rfl)) (by unfold Func.isWrapper; first | (rw [if_pos (by decide +kernel)]; kernel_rfl) | (rw [if_neg (by decide +kernel)]; exact ⟨rfl, rfl⟩))
    (fun os started H enc _ => none_lifted os started H enc)
#print axioms none_holds
end Go.Proofs.Ythkffhfjkddpkaa
