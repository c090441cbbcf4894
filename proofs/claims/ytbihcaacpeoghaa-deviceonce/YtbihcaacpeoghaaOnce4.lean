/- Proved: januslaw04.DeviceOnce answers true for every number (a timer that is set fires once, at that tick), at the commit of this claim; no condition beyond the row's own. -/
import Derived.Test.YtbihcaacpeoghaaAwake4
import Derived.ProofKit
import Derived.OpenShut
import Derived.ChangeOld
import Derived.Below
namespace Go.Proofs.Ytbihcaacpeoghaa
open Go.ChangeShapes Go.WideShapes Go.ChangeAt Go.RowKit Go.Lib
set_option linter.unusedVariables false

/-- How often it has fired ahead of round i, and when. -/
def firedBy (n i : Int) : Int := if 0 < n ∧ n < i then 1 else 0
def firedAt (n i : Int) : Int := if 0 < n ∧ n < i then n else 0
def leftAt (n i : Int) : Int := max (n + 1 - i) 0

set_option maxHeartbeats 1000000 in
theorem once_no (n : Int) (w : World) (h : okSet n = false) :
    Calls Try.prog 5 #[.int .i64 n] w fun e w' => e = .returned (.bool true) ∧ Below w.heap.size w w' := by
  have hn := okSet_no h
  by_cases h3 : n < 0
  all_goals
    have H : Hid _ := h
    have HN : Hid _ := hn
    try (have h4 : 200 < n := by omega)
    clear h hn
    go_enter Try.func5, Try.ntmps5
    go_wp2_with fail
    refine (newTimer_at _).mono ?_
    rintro e w1 ⟨rfl, ht1, hb1, hs1⟩
    have HS : Hid _ := hs1
    clear hs1
    go_wp2_with fail
    refine (tset_no _ n _ H.out).mono ?_
    rintro e w2 ⟨rfl, rfl⟩
    go_wp2_with fail
    refine (awake_any _).mono ?_
    rintro e w3 ⟨rfl, hb3⟩
    go_wp2_with fail
    go_ret
    exact ⟨rfl, hb1.trans (hb3.mono hb1.size)⟩

set_option maxHeartbeats 2000000 in
theorem once_yes (n : Int) (w : World) (h : okSet n = true) :
    Calls Try.prog 5 #[.int .i64 n] w fun e w' => e = .returned (.bool true) ∧ Below w.heap.size w w' := by
  obtain ⟨h0, h200⟩ := okSet_yes h
  have H : Hid _ := h
  clear h
  go_enter Try.func5, Try.ntmps5
  go_wp2_with fail
  refine (newTimer_at _).mono ?_
  rintro e w1 ⟨rfl, ht1, hb1, hs1⟩
  have HS : Hid _ := hs1
  clear hs1
  obtain ⟨b, hb⟩ : ∃ b, b = w.heap.size := ⟨_, rfl⟩
  rw [← hb] at ht1 ⊢
  have HB : Hid _ := hb
  clear hb
  go_wp2_with fail
  refine (tset_yes b 0 n _ H.out ht1).mono ?_
  rintro e w2 ⟨rfl, ht2, hu2⟩
  have hb2 : Below w.heap.size w w2 := hb1.trans (hu2.below (by have := HB.out; omega) hb1.size)
  clear hu2 hb1 ht1 HS
  go_wp2_with fail
  go_loopw [4, 5, 6] (fun f a i wr => ∃ k : Int, 1 ≤ k ∧ k ≤ n + 6 ∧ f = .int .i64 (firedBy n k) ∧ a = .int .i64 (firedAt n k) ∧ i = .int .i64 k ∧ TimAt wr b (leftAt n k) ∧ Below w.heap.size w wr) (fun _ _ i _ => (n + 6 - intOf i).toNat)
  case atStart =>
    refine ⟨1, by omega, by omega, ?_, ?_, rfl, ?_, hb2⟩
    · rw [show firedBy n 1 = 0 by unfold firedBy; split <;> omega]
    · rw [show firedAt n 1 = 0 by unfold firedAt; split <;> omega]
    · rw [show leftAt n 1 = n by unfold leftAt; omega]
      exact ht2
  case round =>
    obtain ⟨k, hk1, hk2, rfl, rfl, rfl, ht, hb⟩ := hrel
    clear hb2 ht2
    by_cases hlt : k ≤ n + 5
    · by_cases hkn : k = n
      · have e1 : firedBy n k = 0 := by unfold firedBy; split <;> omega
        have e2 : firedAt n k = 0 := by unfold firedAt; split <;> omega
        have e3 : leftAt n k = 1 := by unfold leftAt; omega
        rw [e1, e2]
        rw [e3] at ht
        have HK : Hid _ := hkn
        clear e1 e2 e3 hkn
        go_wp2_with fail
        refine (tick_at b 1 _ ht (by omega) (by omega)).mono ?_
        rintro e w3 ⟨rfl, ht3, hu3⟩
        have HT : Hid (TimAt w3 b 0) := ht3
        clear ht3
        go_wp2_with fail
        go_roundw
        case rel =>
          have hkn := HK.out
          refine ⟨k + 1, by omega, by omega, ?_, ?_, by go_num, ?_, hb.trans (hu3.below (by have := HB.out; omega) hb.size)⟩
          · rw [show firedBy n (k + 1) = 1 by unfold firedBy; split <;> omega]
          · rw [show firedAt n (k + 1) = k by unfold firedAt; split <;> omega]
          · rw [show leftAt n (k + 1) = 0 by unfold leftAt; omega]
            exact HT.out
        case measure => simp [intOf]; omega
      · have HF : Hid (firedBy n (k + 1) = firedBy n k ∧ firedAt n (k + 1) = firedAt n k ∧ leftAt n (k + 1) = max (leftAt n k - 1) 0 ∧ decide (leftAt n k = 1) = false ∧ 0 ≤ leftAt n k ∧ leftAt n k ≤ 200) := by
          refine ⟨?_, ?_, ?_, ?_, ?_, ?_⟩
          · unfold firedBy; split <;> split <;> omega
          · unfold firedAt; split <;> split <;> omega
          · unfold leftAt; omega
          · have : ¬ leftAt n k = 1 := by unfold leftAt; intro h; omega
            exact decide_eq_false this
          · unfold leftAt; omega
          · unfold leftAt; omega
        have HK : Hid _ := hkn
        clear hkn
        generalize firedBy n k = fv at *
        generalize firedAt n k = av at *
        generalize leftAt n k = lv at *
        go_wp2_with fail
        refine (tick_at b lv _ ht HF.out.2.2.2.2.1 HF.out.2.2.2.2.2).mono ?_
        rintro e w3 ⟨rfl, ht3, hu3⟩
        rw [HF.out.2.2.2.1]
        rw [← HF.out.2.2.1] at ht3
        go_wp2_with fail
        go_roundw
        case rel => exact ⟨k + 1, by omega, by omega, by rw [HF.out.1], by rw [HF.out.2.1], by go_num, ht3, hb.trans (hu3.below (by have := HB.out; omega) hb.size)⟩
        case measure => simp [intOf]; omega
    · have hk : k = n + 6 := by omega
      by_cases hn : n = 0
      · have e1 : firedBy n k = 0 := by unfold firedBy; split <;> omega
        have e2 : firedAt n k = n := by unfold firedAt; split <;> omega
        rw [e1, e2]
        clear e1 e2 hk
        go_wp2_with fail
        refine (awake_any _).mono ?_
        rintro e w3 ⟨rfl, hb3⟩
        go_wp2_with fail
        go_ret
        exact ⟨rfl, hb.trans (hb3.mono hb.size)⟩
      · have e1 : firedBy n k = 1 := by unfold firedBy; split <;> omega
        have e2 : firedAt n k = n := by unfold firedAt; split <;> omega
        have hn2 : 0 < n := by omega
        rw [e1, e2]
        clear e1 e2 hk
        go_wp2_with fail
        refine (awake_any _).mono ?_
        rintro e w3 ⟨rfl, hb3⟩
        go_wp2_with fail
        go_ret
        exact ⟨rfl, hb.trans (hb3.mono hb.size)⟩

theorem own : ownKnob Try.prog.godebug = none := by kernel_rfl
theorem laidOut : laidOutB Try.prog = true := by kernel_rfl

set_option maxRecDepth 100000 in
theorem once_lifted (os : Os) (started : os.Started) (H : Type) (enc : TypeId × Value → H) :
    ReturnsInHanded {} Try.checked os 5 .any (Rows.deviceOnceSpec.pre6 enc Try.prog Try.f5 Rows.deviceOnceRow.domain false) (Rows.deviceOnceSpec.post enc Try.prog Try.f5 false true false false) := by
  refine returnsInHanded_of_change (C := Try.checked) own started (by kernel_rfl) Try.func5
    (ChangeSpec.witness6 (enc := enc) (C := Try.checked) false ⟨#[], #[.int .i64 0], []⟩ 8 (by kernel_rfl) (by kernel_rfl) (by kernel_rfl) (by kernel_rfl)) ?_
  intro W base args ds gs before hval0 hW hcnd _
  have hval : ∀ (j : Nat) t v, Try.f5.params[j]? = some t → args[j]? = some v → Value.okWide Try.prog W .any base t v := hval0
  have hW' := hW
  obtain ⟨p, q, hA0, hV, rfl, hfz, hnd⟩ := hW
  have hA : DataW.TrodAll enc Try.prog W 0 (fun _ => true) true Try.f5.params.toList args.toList ds p := hA0
  rw [Try.params5] at hA hval
  obtain ⟨v0, vs0, d0, ds0, p0, q0, hargs, rfl, rfl, h0, r0⟩ := trodAll_cons hA
  obtain ⟨rfl, rfl, rfl⟩ := trodAll_nil r0
  obtain rfl : args = #[v0] := by cases args; simp_all
  obtain ⟨rfl, rfl⟩ := trodVars_none hV
  obtain ⟨a0, rfl, rfl, rfl, w0⟩ := open_int Try.underlying3 (hval 0 3 v0 rfl rfl) h0
  clear hA0 hval0
  have hwalk : Calls Try.prog 5 #[.int .i64 a0] W fun e w' => e = .returned (.bool true) ∧ Below W.heap.size W w' := by
    cases h : okSet a0
    · exact once_no a0 W h
    · exact once_yes a0 W h
  refine hwalk.mono fun e W' ⟨he, bel⟩ => ?_
  subst he
  exact ⟨_, rfl, _, _, _, [], _, [], hW', trodAll_mk1 (shut_bool Try.underlying4 _), (trodAll_cons_mk (shut_int Try.underlying3 w0) trodAll_mk0), rfl, bel.frame _, fun h => by cases h⟩

theorem once_holds : Rows.DeviceOnceSaid :=
  OpenClaim.holds_of_wide 5 Try.f5 rfl rfl rfl rfl rfl rfl rfl ⟨rfl, rfl, rfl, rfl, rfl⟩ rfl rfl rfl rfl rfl (by kernel_rfl) Try.func5 (by kernel_rfl)
    (of_decide_eq_true (by kernel_rfl)) (by unfold Func.isWrapper; first | (rw [if_pos (by decide +kernel)]; kernel_rfl) | (rw [if_neg (by decide +kernel)]; exact ⟨rfl, rfl⟩))
    (fun os started H enc _ => once_lifted os started H enc)
#print axioms once_holds
end Go.Proofs.Ytbihcaacpeoghaa
