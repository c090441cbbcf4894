/- Proved: januslaw03.BlocksNone answers true for every deed (a disk that is none refuses all), at the commit of this claim; no condition beyond the row's own. -/
import Derived.Test.YtoceadcifgkimaaDeed3
import Derived.BigQuiet
import Derived.Deep.QuietTactic
import Derived.Deep.RegionHeld3
import Derived.ProofKit
import Derived.OpenShut
import Derived.ChangeOld
import Derived.Below
namespace Go.Proofs.Ytoceadcifgkimaa
open Go.ChangeShapes Go.WideShapes Go.ChangeAt Go.RowKit
set_option linter.unusedVariables false

/-- A deed in block H, and all below B as it was. -/
structure Box (w W : World) (H : Nat) (p : Bool) (b n v : Int) : Prop where
  box : W.heap[H]? = some (.cells (deedRow p b n v) 29)
  old : Below w.heap.size w W
theorem Box.below {w W W' : World} {H : Nat} {p : Bool} {b n v : Int} (h : Box w W H p b n v) (k : Below W.heap.size W W') : Box w W' H p b n v :=
  ⟨(k.block _ (lt_of_heap h.box)).trans h.box, h.old.trans (k.mono h.old.size)⟩

set_option maxHeartbeats 2000000 in
theorem none_walk (p : Bool) (b n v : Int) (w : World) :
    Calls Try.prog 6 #[.agg (deedRow p b n v)] w fun e w' => e = .returned (.bool true) ∧ Below w.heap.size w w' := by
  have hbox : Box w (w.alloc (.cells (deedRow p b n v) 29)) w.heap.size p b n v := ⟨heap_alloc_new _ _, (Below.refl _ _).alloc (Nat.le_refl _) _⟩
  obtain ⟨W0, hW0⟩ : ∃ W, W = w.alloc (.cells (deedRow p b n v) 29) := ⟨_, rfl⟩
  rw [← hW0] at hbox
  obtain ⟨_, c1, _, c3⟩ := deedCells hbox.box
  unfold deedRow at hW0 ⊢
  go_enter Try.func6, Try.ntmps6
  go_wp2_with fail
  rw [← hW0]
  clear hW0
  refine (get_nil _ _).mono ?_
  rintro e w1 ⟨rfl, rfl⟩
  go_wp2_with fail
  refine (moves_nil _).mono ?_
  rintro e w1 ⟨rfl, rfl⟩
  have hbd : Box w w1.drew w.heap.size p b n v := hbox.below ⟨rfl, rfl, rfl, Nat.le_refl _, fun _ _ => rfl⟩
  go_wp2_with fail
  go_region_held3 (fun w' => w'.cell? ⟨w.heap.size, 1, none⟩ = some (.int .i64 b) ∧ w'.cell? ⟨w.heap.size, 3, none⟩ = some (.int .u64 v))
    (first | go_keep | (exact ⟨(deedCells hq.box).2.1, (deedCells hq.box).2.2.2⟩))
    (first
      | (go_at_call 10; refine (block_row 32 _ _).mono ?_; rintro e wq ⟨u, rfl, hr, hbq⟩; have hq := hbd.below hbq; obtain ⟨a, c, rfl⟩ := hr.is)
      | (go_at_call 9; refine (put_nil _ _ _ _ _).mono ?_; rintro e wz ⟨rfl, rfl⟩)
      | (go_at_call 16; refine (len_nil _).mono ?_; rintro e wz ⟨rfl, rfl⟩)
      | (go_at_call 17; refine (awake_any _).mono ?_; rintro e wq2 ⟨rfl, hbq2⟩; have hq2 := hq.below hbq2; have hq := hq2))
  all_goals
    go_wp2_with fail
    go_ret
    exact ⟨rfl, hq.old⟩
theorem own : ownKnob Try.prog.godebug = none := by kernel_rfl
theorem laidOut : laidOutB Try.prog = true := by kernel_rfl

set_option maxRecDepth 100000 in
theorem none_lifted (os : Os) (started : os.Started) (H : Type) (enc : TypeId × Value → H) :
    ReturnsInHanded {} Try.checked os 6 .any (Rows.blocksNoneSpec.pre6 enc Try.prog Try.f6 Rows.blocksNoneRow.domain false) (Rows.blocksNoneSpec.post enc Try.prog Try.f6 false true false false) := by
  refine returnsInHanded_of_change (C := Try.checked) own started (by kernel_rfl) Try.func6
    (ChangeSpec.witness6 (enc := enc) (C := Try.checked) false ⟨#[], #[.agg #[.bool false, .int .i64 0, .int .i64 0, .int .u64 0]], []⟩ 8 (by kernel_rfl) (by kernel_rfl) (by kernel_rfl) (by kernel_rfl)) ?_
  intro W base args ds gs before hval0 hW hcnd _
  have hval : ∀ (j : Nat) t v, Try.f6.params[j]? = some t → args[j]? = some v → Value.okWide Try.prog W .any base t v := hval0
  have hW' := hW
  obtain ⟨p, q, hA0, hV, rfl, hfz, hnd⟩ := hW
  have hA : DataW.TrodAll enc Try.prog W 0 (fun _ => true) true Try.f6.params.toList args.toList ds p := hA0
  rw [Try.params6] at hA hval
  obtain ⟨v0, vs0, d0, ds0, p0, q0, hargs, rfl, rfl, h0, r0⟩ := trodAll_cons hA
  obtain ⟨rfl, rfl, rfl⟩ := trodAll_nil r0
  obtain rfl : args = #[v0] := by cases args; simp_all
  obtain ⟨rfl, rfl⟩ := trodVars_none hV
  have k0 := h0
  have lt0 : ∀ x ∈ p0, x.block < W.heap.size := by obtain ⟨m, hm⟩ := k0; exact DataW.trod_lt m _ _ _ hm
  obtain ⟨cs0, rfl, fit0⟩ := agg_fits Try.underlying29 deedKinds (hval 0 29 v0 rfl rfl) h0
  clear hA0 hval0
  obtain ⟨p, b, n, v, hcs⟩ := deedOf fit0
  obtain rfl : cs0 = deedRow p b n v := Array.toList_inj.1 hcs
  have hwalk : Calls Try.prog 6 #[.agg (deedRow p b n v)] W fun e w' => e = .returned (.bool true) ∧ Below W.heap.size W w' := none_walk p b n v W
  refine hwalk.mono fun e W' ⟨he, bel⟩ => ?_
  subst he
  exact ⟨_, rfl, _, _, _, [], _, [], hW', trodAll_mk1 (shut_bool Try.underlying4 _), (trodAll_cons_mk (Below.trod laidOut (by kernel_rfl) (of_decide_eq_true (by kernel_rfl)) k0 bel lt0) trodAll_mk0), rfl, bel.frame _, fun h => by cases h⟩

theorem none_holds : Rows.BlocksNoneSaid :=
  OpenClaim.holds_of_wide 6 Try.f6 rfl rfl rfl rfl rfl rfl rfl ⟨rfl, rfl, rfl, rfl, rfl⟩ rfl rfl rfl rfl rfl (by kernel_rfl) Try.func6 (by kernel_rfl)
    (of_decide_eq_true (by kernel_rfl)) (by unfold Func.isWrapper; first | (rw [if_pos (by decide +kernel)]; kernel_rfl) | (rw [if_neg (by decide +kernel)]; exact ⟨rfl, rfl⟩))
    (fun os started H enc _ => none_lifted os started H enc)
#print axioms none_holds
end Go.Proofs.Ytoceadcifgkimaa
