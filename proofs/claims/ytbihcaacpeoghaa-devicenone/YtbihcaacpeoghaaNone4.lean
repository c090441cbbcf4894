/- Proved: januslaw04.DeviceNone answers true for every deed (devices that are none refuse all), at the commit of this claim; no condition beyond the row's own. -/
import Derived.Test.YtbihcaacpeoghaaAwake4
import Derived.Test.YtbihcaacpeoghaaKinds
import Derived.ProofKit
import Derived.OpenShut
import Derived.ChangeOld
import Derived.Below
namespace Go.Proofs.Ytbihcaacpeoghaa
open Go.ChangeShapes Go.WideShapes Go.ChangeAt Go.RowKit Go.Lib
set_option linter.unusedVariables false

/-- A deed as cells. -/
def deedRow (p : Bool) (n : Int) (s : ByteArray) : Array Value := #[.bool p, .int .i64 n, .string s]
theorem deedCells {w : World} {g : Nat} {p : Bool} {n : Int} {s : ByteArray} {t : TypeId} (h : w.heap[g]? = some (.cells (deedRow p n s) t)) :
    w.cell? ⟨g, 0, none⟩ = some (.bool p) ∧ w.cell? ⟨g, 1, none⟩ = some (.int .i64 n) ∧ w.cell? ⟨g, 2, none⟩ = some (.string s) := by
  refine ⟨?_, ?_, ?_⟩ <;> (rw [cell_of_heap h]; rfl)
theorem deedKinds : kindsOf Try.prog 9 29 = some [.b, .i .i64, .s] := by kernel_rfl
theorem deedOf {l : List Value} (h : Fits [.b, .i .i64, .s] l) : ∃ (p : Bool) (n : Int) (s : ByteArray), l = (deedRow p n s).toList ∧ s.size ≤ maxLen := by
  obtain ⟨_, _, rfl, ⟨p, rfl⟩, _, _, rfl, ⟨n, rfl, _⟩, _, _, rfl, ⟨s, rfl, hs⟩, rfl⟩ := h
  exact ⟨p, n, s, rfl, hs⟩

set_option maxHeartbeats 1000000 in
theorem none_walk (p : Bool) (n : Int) (s : ByteArray) (w : World) :
    Calls Try.prog 7 #[.agg (deedRow p n s)] w fun e w' => e = .returned (.bool true) ∧ Below w.heap.size w w' := by
  have hst := same_text
  have hbox : (w.alloc (.cells (deedRow p n s) 29)).heap[w.heap.size]? = some (.cells (deedRow p n s) 29) := heap_alloc_new _ _
  have HO : Hid (Below w.heap.size w (w.alloc (.cells (deedRow p n s) 29))) := (Below.refl _ _).alloc (Nat.le_refl _) _
  obtain ⟨W0, hW0⟩ : ∃ W, W = w.alloc (.cells (deedRow p n s) 29) := ⟨_, rfl⟩
  rw [← hW0] at hbox HO
  obtain ⟨_, c1, c2⟩ := deedCells hbox
  clear hbox
  unfold deedRow at hW0 ⊢
  go_enter Try.func7, Try.ntmps7
  go_wp2_with fail
  rw [← hW0]
  clear hW0
  go_wp2_with fail
  refine (put_nil _ _).mono ?_
  rintro e w1 ⟨rfl, rfl⟩
  go_wp2_with fail
  refine (get_nil _ _).mono ?_
  rintro e w1 ⟨rfl, rfl⟩
  go_wp2_with fail
  refine (left_nil _).mono ?_
  rintro e w1 ⟨rfl, rfl⟩
  go_wp2_with fail
  refine (out_nil _).mono ?_
  rintro e w1 ⟨rfl, rfl⟩
  go_wp2_with fail
  refine (tset_nil _ _).mono ?_
  rintro e w1 ⟨rfl, rfl⟩
  go_wp2_with fail
  refine (tick_nil _).mono ?_
  rintro e w1 ⟨rfl, rfl⟩
  go_wp2_with fail
  refine (tleft_nil _).mono ?_
  rintro e w1 ⟨rfl, rfl⟩
  go_wp2_with fail
  refine (awake_any _).mono ?_
  rintro e w2 ⟨rfl, hb⟩
  go_wp2_with fail
  go_ret
  exact ⟨rfl, HO.out.trans (hb.mono HO.out.size)⟩

theorem own : ownKnob Try.prog.godebug = none := by kernel_rfl
theorem laidOut : laidOutB Try.prog = true := by kernel_rfl

set_option maxRecDepth 100000 in
theorem none_lifted (os : Os) (started : os.Started) (H : Type) (enc : TypeId × Value → H) :
    ReturnsInHanded {} Try.checked os 7 .any (Rows.deviceNoneSpec.pre6 enc Try.prog Try.f7 Rows.deviceNoneRow.domain false) (Rows.deviceNoneSpec.post enc Try.prog Try.f7 false true false false) := by
  refine returnsInHanded_of_change (C := Try.checked) own started (by kernel_rfl) Try.func7
    (ChangeSpec.witness6 (enc := enc) (C := Try.checked) false ⟨#[], #[.agg #[.bool false, .int .i64 0, .string ⟨#[]⟩]], []⟩ 8 (by kernel_rfl) (by kernel_rfl) (by kernel_rfl) (by kernel_rfl)) ?_
  intro W base args ds gs before hval0 hW hcnd _
  have hval : ∀ (j : Nat) t v, Try.f7.params[j]? = some t → args[j]? = some v → Value.okWide Try.prog W .any base t v := hval0
  have hW' := hW
  obtain ⟨p, q, hA0, hV, rfl, hfz, hnd⟩ := hW
  have hA : DataW.TrodAll enc Try.prog W 0 (fun _ => true) true Try.f7.params.toList args.toList ds p := hA0
  rw [Try.params7] at hA hval
  obtain ⟨v0, vs0, d0, ds0, p0, q0, hargs, rfl, rfl, h0, r0⟩ := trodAll_cons hA
  obtain ⟨rfl, rfl, rfl⟩ := trodAll_nil r0
  obtain rfl : args = #[v0] := by cases args; simp_all
  obtain ⟨rfl, rfl⟩ := trodVars_none hV
  have k0 := h0
  have lt0 : ∀ x ∈ p0, x.block < W.heap.size := by obtain ⟨m, hm⟩ := k0; exact DataW.trod_lt m _ _ _ hm
  obtain ⟨cs0, rfl, fit0⟩ := agg_fits Try.underlying29 deedKinds (hval 0 29 v0 rfl rfl) h0
  clear hA0 hval0
  obtain ⟨p, n, s, hcs, _⟩ := deedOf fit0
  obtain rfl : cs0 = deedRow p n s := Array.toList_inj.1 hcs
  have hwalk : Calls Try.prog 7 #[.agg (deedRow p n s)] W fun e w' => e = .returned (.bool true) ∧ Below W.heap.size W w' := none_walk p n s W
  refine hwalk.mono fun e W' ⟨he, bel⟩ => ?_
  subst he
  exact ⟨_, rfl, _, _, _, [], _, [], hW', trodAll_mk1 (shut_bool Try.underlying4 _), (trodAll_cons_mk (Below.trod laidOut (by kernel_rfl) (of_decide_eq_true (by kernel_rfl)) k0 bel lt0) trodAll_mk0), rfl, bel.frame _, fun h => by cases h⟩

theorem none_holds : Rows.DeviceNoneSaid :=
  OpenClaim.holds_of_wide 7 Try.f7 rfl rfl rfl rfl rfl rfl rfl ⟨rfl, rfl, rfl, rfl, rfl⟩ rfl rfl rfl rfl rfl (by kernel_rfl) Try.func7 (by kernel_rfl)
    (of_decide_eq_true (by kernel_rfl)) (by unfold Func.isWrapper; first | (rw [if_pos (by decide +kernel)]; kernel_rfl) | (rw [if_neg (by decide +kernel)]; exact ⟨rfl, rfl⟩))
    (fun os started H enc _ => none_lifted os started H enc)
#print axioms none_holds
end Go.Proofs.Ytbihcaacpeoghaa
