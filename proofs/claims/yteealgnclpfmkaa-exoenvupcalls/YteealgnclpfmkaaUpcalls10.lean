/- Proved: januslaw10.ExoenvUpcalls answers true for every environment, address and whether it is killed (an upcall is told once, and gone with its environment), at the commit of this claim; no condition beyond the row's own. -/
import Derived.Test.YteealgnclpfmkaaEnvW
import Derived.ProofKit
import Derived.OpenShut
import Derived.ChangeOld
import Derived.Below
namespace Go.Proofs.Yteealgnclpfmkaa
open Go.ChangeShapes Go.WideShapes Go.ChangeAt Go.RowKit Go.Lib
set_option linter.unusedVariables false

/-- One lives, with an upcall or without. -/
def one (m : Nat) (x : Ev) : ES := E0.set m x
theorem one_isB (m : Nat) (x : Ev) (h : m < 12) : isB (one m x) m = x.lives := by rw [isB_of h, one, ES.set_same]
theorem one_at (m : Nat) (x : Ev) : one m x m = x := ES.set_same _ _ _
theorem p_create (m : Nat) (h : m < 12) : createR E0 m = 0 ∧ createT E0 m = one m ⟨true, false, 0⟩ := by
  unfold createR createT one
  rw [isE_of h]
  exact ⟨rfl, rfl⟩
theorem p_fault (m : Nat) (h : m < 12) (a : Int) : faultR (one m ⟨true, false, 0⟩) m = 0 ∧ faultT (one m ⟨true, false, 0⟩) m a = one m ⟨true, true, a⟩ := by
  have e : (one m ⟨true, false, 0⟩) (m : Int).toNat = ⟨true, false, 0⟩ := one_at m _
  unfold faultR faultT
  rw [one_isB m _ h, e]
  refine ⟨rfl, ?_⟩
  show (one m ⟨true, false, 0⟩).set m ⟨true, true, a⟩ = _
  exact ES.set_set _ _ _ _
theorem p_kill (m : Nat) (h : m < 12) (a : Int) : killR (one m ⟨true, true, a⟩) m = 0 ∧ killT (one m ⟨true, true, a⟩) m = one m Ev.no := by
  unfold killR killT
  rw [one_isB m _ h]
  exact ⟨rfl, ES.set_set _ _ _ _⟩
theorem p_again (m : Nat) (h : m < 12) : createR (one m Ev.no) m = 0 ∧ createT (one m Ev.no) m = one m ⟨true, false, 0⟩ := by
  have e : (one m Ev.no) (m : Int).toNat = Ev.no := one_at m _
  unfold createR createT
  rw [isE_of h, e]
  exact ⟨rfl, ES.set_set _ _ _ _⟩
theorem p_none (m : Nat) (h : m < 12) : upA (one m ⟨true, false, 0⟩) m = 0 ∧ upB (one m ⟨true, false, 0⟩) m = false := by
  have e : (one m ⟨true, false, 0⟩) (m : Int).toNat = ⟨true, false, 0⟩ := one_at m _
  unfold upA upB
  rw [one_isB m _ h, e]
  exact ⟨rfl, rfl⟩
theorem p_up (m : Nat) (h : m < 12) (a : Int) : upA (one m ⟨true, true, a⟩) m = a ∧ upB (one m ⟨true, true, a⟩) m = true ∧ upT (one m ⟨true, true, a⟩) m = one m ⟨true, false, 0⟩ := by
  have e : (one m ⟨true, true, a⟩) (m : Int).toNat = ⟨true, true, a⟩ := one_at m _
  unfold upA upB upT
  rw [one_isB m _ h, e]
  exact ⟨rfl, rfl, ES.set_set _ _ _ _⟩

set_option maxHeartbeats 1000000 in
theorem upcalls_yes (m : Nat) (a : Int) (k : Bool) (w : World) (hm : m < 12) :
    Calls Try.prog 5 #[.int .i64 m, .int .u64 a, .bool k] w fun e w' => e = .returned (.bool true) ∧ Below w.heap.size w w' := by
  go_enter Try.func5, Try.ntmps5
  go_wp2_with fail
  refine (new_yes 1 w (by omega) (by omega)).mono ?_
  rintro e w1 ⟨rfl, hE, hB, hsz⟩
  obtain ⟨b, hbq⟩ : ∃ b, b = w.heap.size + 1 := ⟨_, rfl⟩
  obtain ⟨g, hgq⟩ : ∃ g, g = w.heap.size := ⟨_, rfl⟩
  rw [← hbq] at hE ⊢
  obtain ⟨V, hV⟩ : ∃ V : List Int, V = List.replicate 1 (-1) := ⟨_, rfl⟩
  have HE0 : Hid (EnvAt w1 b g E0 V) := by rw [hgq, hV]; exact hE
  have hbb : w.heap.size ≤ b := by omega
  have hgg : w.heap.size ≤ g := by omega
  have HB0 : Hid (Below w.heap.size w w1) := hB
  have hne := ptr_eq b
  clear hE hB hsz hbq hgq hV
  go_wp2_with fail
  refine (create_at b g E0 V m w1 HE0.out).mono ?_
  rw [(p_create m hm).1, (p_create m hm).2]
  rintro e w2 ⟨rfl, hE, hU⟩
  have HE : Hid _ := hE
  have HB : Hid (Below w.heap.size w w2) := mine_below HB0.out hU hbb hgg
  clear hE hU HE0 HB0
  go_wp2_with fail
  refine (fault_at b g _ V m a w2 HE.out).mono ?_
  rw [(p_fault m hm a).1, (p_fault m hm a).2]
  rintro e w3 ⟨rfl, hE, hU⟩
  have HE3 : Hid _ := hE
  have HB3 : Hid (Below w.heap.size w w3) := mine_below HB.out hU hbb hgg
  clear hE hU HE HB
  cases k with
  | true =>
    go_wp2_with fail
    refine (kill_at b g _ V m w3 HE3.out).mono ?_
    rw [(p_kill m hm a).1, (p_kill m hm a).2]
    rintro e w4 ⟨rfl, hE, hU⟩
    have HE : Hid _ := hE
    have HB : Hid (Below w.heap.size w w4) := mine_below HB3.out hU hbb hgg
    clear hE hU HE3 HB3
    go_wp2_with fail
    refine (create_at b g _ _ m w4 HE.out).mono ?_
    rw [(p_again m hm).1, (p_again m hm).2]
    rintro e w5 ⟨rfl, hE, hU⟩
    have HE5 : Hid _ := hE
    have HB5 : Hid (Below w.heap.size w w5) := mine_below HB.out hU hbb hgg
    clear hE hU HE HB
    go_wp2_with fail
    refine (upcall_at b g _ _ m w5 HE5.out).mono ?_
    rw [(p_none m hm).1, (p_none m hm).2]
    rintro e w6 ⟨rfl, hE, hU⟩
    have HB6 : Hid (Below w.heap.size w w6) := mine_below HB5.out hU hbb hgg
    clear hE hU HE5 HB5
    go_wp2_with fail
    refine (awake_at _).mono ?_
    rintro e w7 ⟨rfl, hb7⟩
    go_wp2
    go_ret
    exact ⟨rfl, HB6.out.trans (hb7.mono HB6.out.size)⟩
  | false =>
    go_wp2_with fail
    refine (upcall_at b g _ V m w3 HE3.out).mono ?_
    rw [(p_up m hm a).1, (p_up m hm a).2.1, (p_up m hm a).2.2]
    rintro e w4 ⟨rfl, hE, hU⟩
    have HE : Hid _ := hE
    have HB : Hid (Below w.heap.size w w4) := mine_below HB3.out hU hbb hgg
    clear hE hU HE3 HB3
    go_wp2_with fail
    refine (upcall_at b g _ V m w4 HE.out).mono ?_
    rw [(p_none m hm).1, (p_none m hm).2]
    rintro e w6 ⟨rfl, hE, hU⟩
    have HB6 : Hid (Below w.heap.size w w6) := mine_below HB.out hU hbb hgg
    clear hE hU HE HB
    go_wp2_with fail
    refine (awake_at _).mono ?_
    rintro e w7 ⟨rfl, hb7⟩
    go_wp2
    go_ret
    exact ⟨rfl, HB6.out.trans (hb7.mono HB6.out.size)⟩

theorem upcalls_no (n a : Int) (k : Bool) (w : World) (hn : isE n = false) :
    Calls Try.prog 5 #[.int .i64 n, .int .u64 a, .bool k] w fun e w' => e = .returned (.bool true) ∧ Below w.heap.size w w' := by
  have HR : Hid (createR E0 n = 101) := by show _ = _; simp [createR, hn]
  have HT : Hid (createT E0 n = E0) := by show _ = _; simp [createT, hn]
  have HF : Hid (faultR E0 n = 106) := by show _ = _; simp [faultR, isB, hn]
  have hc : n < 0 ∨ 12 ≤ n := by simp [isE] at hn; omega
  clear hn
  go_enter Try.func5, Try.ntmps5
  go_wp2_with fail
  refine (new_yes 1 w (by omega) (by omega)).mono ?_
  rintro e w1 ⟨rfl, hE, hB, hsz⟩
  obtain ⟨b, hbq⟩ : ∃ b, b = w.heap.size + 1 := ⟨_, rfl⟩
  obtain ⟨g, hgq⟩ : ∃ g, g = w.heap.size := ⟨_, rfl⟩
  rw [← hbq] at hE ⊢
  obtain ⟨V, hV⟩ : ∃ V : List Int, V = List.replicate 1 (-1) := ⟨_, rfl⟩
  have HE0 : Hid (EnvAt w1 b g E0 V) := by rw [hgq, hV]; exact hE
  have hbb : w.heap.size ≤ b := by omega
  have hgg : w.heap.size ≤ g := by omega
  have HB0 : Hid (Below w.heap.size w w1) := hB
  have hne := ptr_eq b
  clear hE hB hsz hbq hgq hV
  go_wp2_with fail
  refine (create_at b g E0 V n w1 HE0.out).mono ?_
  rw [HR.out, HT.out]
  rintro e w2 ⟨rfl, hE, hU⟩
  have HE : Hid _ := hE
  have HB : Hid (Below w.heap.size w w2) := mine_below HB0.out hU hbb hgg
  clear hE hU HE0 HB0
  rcases hc with hc | hc
  · have g0 : decide (n < 0) = true := decide_eq_true hc
    go_wp2_with fail
    refine (fault_at b g _ V n a w2 HE.out).mono ?_
    rw [HF.out]
    rintro e w3 ⟨rfl, hE, hU⟩
    have HB6 : Hid (Below w.heap.size w w3) := mine_below HB.out hU hbb hgg
    clear hE hU HE HB
    go_wp2_with fail
    refine (awake_at _).mono ?_
    rintro e w7 ⟨rfl, hb7⟩
    go_wp2
    go_ret
    exact ⟨rfl, HB6.out.trans (hb7.mono HB6.out.size)⟩
  · have g0 : decide (n < 0) = false := decide_eq_false (by omega)
    have g1 : decide (12 ≤ n) = true := decide_eq_true hc
    go_wp2_with fail
    refine (fault_at b g _ V n a w2 HE.out).mono ?_
    rw [HF.out]
    rintro e w3 ⟨rfl, hE, hU⟩
    have HB6 : Hid (Below w.heap.size w w3) := mine_below HB.out hU hbb hgg
    clear hE hU HE HB
    go_wp2_with fail
    refine (awake_at _).mono ?_
    rintro e w7 ⟨rfl, hb7⟩
    go_wp2
    go_ret
    exact ⟨rfl, HB6.out.trans (hb7.mono HB6.out.size)⟩

theorem own : ownKnob Try.prog.godebug = none := by kernel_rfl
theorem laidOut : laidOutB Try.prog = true := by kernel_rfl

set_option maxRecDepth 100000 in
theorem upcalls_lifted (os : Os) (started : os.Started) (H : Type) (enc : TypeId × Value → H) :
    ReturnsInHanded {} Try.checked os 5 .any (Rows.exoenvUpcallsSpec.pre6 enc Try.prog Try.f5 Rows.exoenvUpcallsRow.domain false) (Rows.exoenvUpcallsSpec.post enc Try.prog Try.f5 false true false false) := by
  refine returnsInHanded_of_change (C := Try.checked) own started (by kernel_rfl) Try.func5
    (ChangeSpec.witness6 (enc := enc) (C := Try.checked) false ⟨#[], #[.int .i64 0, .int .u64 0, .bool false], []⟩ 8 (by kernel_rfl) (by kernel_rfl) (by kernel_rfl) (by kernel_rfl)) ?_
  intro W base args ds gs before hval0 hW hcnd _
  have hval : ∀ (j : Nat) t v, Try.f5.params[j]? = some t → args[j]? = some v → Value.okWide Try.prog W .any base t v := hval0
  have hW' := hW
  obtain ⟨p, q, hA0, hV, rfl, hfz, hnd⟩ := hW
  have hA : DataW.TrodAll enc Try.prog W 0 (fun _ => true) true Try.f5.params.toList args.toList ds p := hA0
  rw [Try.params5] at hA hval
  obtain ⟨v0, vs0, d0, ds0, p0, q0, hargs, rfl, rfl, h0, r0⟩ := trodAll_cons hA
  obtain ⟨v1, vs1, d1, ds1, p1, q1, rfl, rfl, rfl, h1, r1⟩ := trodAll_cons r0
  obtain ⟨v2, vs2, d2, ds2, p2, q2, rfl, rfl, rfl, h2, r2⟩ := trodAll_cons r1
  obtain ⟨rfl, rfl, rfl⟩ := trodAll_nil r2
  obtain rfl : args = #[v0, v1, v2] := by cases args; simp_all
  obtain ⟨rfl, rfl⟩ := trodVars_none hV
  obtain ⟨a0, rfl, rfl, rfl, w0⟩ := open_int Try.underlying3 (hval 0 3 v0 rfl rfl) h0
  obtain ⟨a1, rfl, rfl, rfl, w1⟩ := open_int Try.underlying27 (hval 1 27 v1 rfl rfl) h1
  obtain ⟨a2, rfl, rfl, rfl⟩ := open_bool Try.underlying4 (hval 2 4 v2 rfl rfl) h2
  clear hA0 hval0
  have hwalk : Calls Try.prog 5 #[.int .i64 a0, .int .u64 a1, .bool a2] W fun e w' => e = .returned (.bool true) ∧ Below W.heap.size W w' := by
    cases hn : isE a0 with
    | false => exact upcalls_no a0 a1 a2 W hn
    | true =>
      obtain ⟨m, rfl, hm⟩ := isE_nat hn
      exact upcalls_yes m a1 a2 W hm
  refine hwalk.mono fun e W' ⟨he, bel⟩ => ?_
  subst he
  exact ⟨_, rfl, _, _, _, [], _, [], hW', trodAll_mk1 (shut_bool Try.underlying4 _), (trodAll_cons_mk (shut_int Try.underlying3 w0) (trodAll_cons_mk (shut_int Try.underlying27 w1) (trodAll_cons_mk (shut_bool Try.underlying4 _) trodAll_mk0))), rfl, bel.frame _, fun h => by cases h⟩

theorem upcalls_holds : Rows.ExoenvUpcallsSaid :=
  OpenClaim.holds_of_wide 5 Try.f5 rfl rfl rfl rfl rfl rfl rfl ⟨rfl, rfl, rfl, rfl, rfl⟩ rfl rfl rfl rfl rfl (by kernel_rfl) Try.func5 (by kernel_rfl)
    (of_decide_eq_true (by kernel_rfl)) (by unfold Func.isWrapper; first | (rw [if_pos (by decide +kernel)]; kernel_rfl) | (rw [if_neg (by decide +kernel)]; exact ⟨rfl, rfl⟩))
    (fun os started H enc _ => upcalls_lifted os started H enc)
#print axioms upcalls_holds
end Go.Proofs.Yteealgnclpfmkaa
