/- Proved: januslaw05.CodeMoves answers true for every instruction (what it takes and puts, and every call's arguments, are the document's), at the commit of this claim; no condition beyond the form's own. -/
import Derived.Test.YtbdmiigicpmhiaaIns5
import Derived.Test.YtbdmiigicpmhiaaAwake5
import Derived.Deep.DeepCutAuto
import Derived.Deep.CutBlock
import Derived.ChangeOld
import Derived.Below
namespace Go.Proofs.Ytbdmiigicpmhiaa
open Go.ChangeShapes Go.WideShapes Go.ChangeAt Go.RowKit
set_option linter.unusedVariables false

set_option maxRecDepth 100000 in
set_option maxHeartbeats 2000000 in
theorem moves_walk (i : Ins) (hi : i.Fit) (w : World) :
    Calls Try.prog 6 #[.agg (insRow i)] w fun e w' => e = .returned (.bool true) ∧ Below w.heap.size w w' := by
  have hm := moves_at i hi
  have hr := rmoves_at i hi
  dsimp only [insRow] at *
  generalize movesOf i.op i.arg = M at *
  obtain ⟨W, hW⟩ : ∃ W, W = w.alloc (.cells #[.int .i64 i.op, .int .u64 i.arg, .int .i64 i.pos, .int .i64 i.len] 36) := ⟨_, rfl⟩
  have hbel : Below w.heap.size w W := by rw [hW]; exact (Below.refl _ _).alloc (Nat.le_refl _) _
  have hbox : W.heap[w.heap.size]? = some (.cells #[.int .i64 i.op, .int .u64 i.arg, .int .i64 i.pos, .int .i64 i.len] 36) := by rw [hW]; exact heap_alloc_new _ _
  have HB : Hid _ := hbox
  clear hbox
  go_enter Try.func6, Try.ntmps6
  go_wp2_with fail
  rw [← hW]
  clear hW
  refine (hm W).mono ?_
  rintro e w1 ⟨rfl, hb1⟩
  have HB1 : Hid _ := (hb1.block _ (lt_of_heap HB.out)).trans HB.out
  have hbw1 := hbel.trans (hb1.mono hbel.size)
  have c0 : w1.cell? ⟨w.heap.size, 0, none⟩ = some (.int .i64 i.op) := by rw [cell_of_heap HB1.out]; rfl
  have c1 : w1.cell? ⟨w.heap.size, 1, none⟩ = some (.int .u64 i.arg) := by rw [cell_of_heap HB1.out]; rfl
  have c2 : w1.cell? ⟨w.heap.size, 2, none⟩ = some (.int .i64 i.pos) := by rw [cell_of_heap HB1.out]; rfl
  have c3 : w1.cell? ⟨w.heap.size, 3, none⟩ = some (.int .i64 i.len) := by rw [cell_of_heap HB1.out]; rfl
  clear HB hb1 hbel hm
  go_wp2_with fail
  refine (hr w1).mono ?_
  rintro e w2 ⟨rfl, hb2⟩
  have HB2 : Hid _ := (hb2.block _ (lt_of_heap HB1.out)).trans HB1.out
  have hbw2 := hbw1.trans (hb2.mono hbw1.size)
  have d1 : w2.cell? ⟨w.heap.size, 1, none⟩ = some (.int .u64 i.arg) := by rw [cell_of_heap HB2.out]; rfl
  clear HB1 c0 c1 c2 c3 hb2 hbw1 hr
  go_wp2_with fail
  refine (args_at _ _).mono ?_
  rintro e w3 ⟨rfl, rfl⟩
  go_wp2_with fail
  refine (rargs_at _ _).mono ?_
  rintro e w3 ⟨rfl, rfl⟩
  go_wp2_with fail
  refine (args_at _ _).mono ?_
  rintro e w3 ⟨rfl, rfl⟩
  go_wp2_with fail
  refine (rargs_at _ _).mono ?_
  rintro e w3 ⟨rfl, rfl⟩
  go_wp2_with fail
  refine (awake_at _).mono ?_
  rintro e w4 ⟨rfl, hb4⟩
  go_wp2
  go_ret
  exact ⟨rfl, hbw2.trans (hb4.mono hbw2.size)⟩
theorem own : ownKnob Try.prog.godebug = none := by kernel_rfl
theorem laidOut : laidOutB Try.prog = true := by kernel_rfl

set_option maxRecDepth 100000 in
theorem moves_lifted (os : Os) (started : os.Started) (H : Type) (enc : TypeId × Value → H) :
    ReturnsInHanded {} Try.checked os 6 .any (Rows.codeMovesSpec.pre6 enc Try.prog Try.f6 Rows.codeMovesRow.domain false) (Rows.codeMovesSpec.post enc Try.prog Try.f6 false true false false) := by
  refine returnsInHanded_of_change (C := Try.checked) own started (by kernel_rfl) Try.func6
    (ChangeSpec.witness6 (enc := enc) (C := Try.checked) false ⟨#[], #[.agg #[.int .i64 0, .int .u64 0, .int .i64 0, .int .i64 0]], []⟩ 8 (by kernel_rfl) (by kernel_rfl) (by kernel_rfl) (by kernel_rfl)) ?_
  intro W base args ds gs before hval0 hW hcnd _
  have hval : ∀ (j : Nat) t v, Try.f6.params[j]? = some t → args[j]? = some v → Value.okWide Try.prog W .any base t v := hval0
  have hW' := hW
  obtain ⟨p, q, hA0, hV, rfl, hfz, hnd⟩ := hW
  have hA : DataW.TrodAll enc Try.prog W 0 (fun _ => true) true Try.f6.params.toList args.toList ds p := hA0
  rw [Try.params6] at hA hval
  obtain ⟨v0, vs0, d0, ds0, p0, q0, hargs, rfl, rfl, h0, r0⟩ := trodAll_cons hA
  obtain ⟨rfl, rfl, rfl⟩ := trodAll_nil r0
  obtain rfl : args = #[v0] := by cases args; simp_all
  obtain ⟨rfl, rfl⟩ := trodVars_none hV
  have k0 := h0
  have lt0 : ∀ x ∈ p0, x.block < W.heap.size := by obtain ⟨m, hm⟩ := k0; exact DataW.trod_lt m _ _ _ hm
  obtain ⟨cs0, rfl, fit0⟩ := agg_fits Try.underlying36 insKinds (hval 0 36 v0 rfl rfl) h0
  clear hA0 hval0
  obtain ⟨i, hi, hcs⟩ := insOf fit0
  obtain rfl : cs0 = insRow i := Array.toList_inj.1 hcs
  have hwalk : Calls Try.prog 6 #[.agg (insRow i)] W fun e w' => e = .returned (.bool true) ∧ Below W.heap.size W w' := moves_walk i hi W
  refine hwalk.mono fun e W' ⟨he, bel⟩ => ?_
  subst he
  exact ⟨_, rfl, _, _, _, [], _, [], hW', trodAll_mk1 (shut_bool Try.underlying4 _), (trodAll_cons_mk (Below.trod laidOut (by kernel_rfl) (of_decide_eq_true (by kernel_rfl)) k0 bel lt0) trodAll_mk0), rfl, bel.frame _, fun h => by cases h⟩

theorem moves_holds : Rows.CodeMovesSaid :=
  OpenClaim.holds_of_wide 6 Try.f6 rfl rfl rfl rfl rfl rfl rfl ⟨rfl, rfl, rfl, rfl, rfl⟩ rfl rfl rfl rfl rfl (by kernel_rfl) Try.func6 (by kernel_rfl)
    (of_decide_eq_true (by kernel_rfl)) (by unfold Func.isWrapper; first | (rw [if_pos (by decide +kernel)]; kernel_rfl) | (rw [if_neg (by decide +kernel)]; exact ⟨rfl, rfl⟩))
    (fun os started H enc _ => moves_lifted os started H enc)
#print axioms moves_holds
end Go.Proofs.Ytbdmiigicpmhiaa
