/- Proved: januslaw15.InodeShrinks answers true for every text and every two numbers (what is cut off is 0 when a file grows again), at the commit of this claim; no condition beyond the row's own. -/
import Derived.Test.YtinjllnoonbjmaaLwE
import Derived.Test.YtinjllnoonbjmaaKinds
import Derived.BigQuiet
import Derived.ProofKit
import Derived.OpenShut
import Derived.ChangeOld
import Derived.ChangeMaps5
import Derived.ChangeSlices
import Derived.Below
namespace Go.Proofs.Ytinjllnoonbjmaa
open Go.ChangeShapes Go.WideShapes Go.ChangeAt Go.RowKit Go.Lib
set_option linter.unusedVariables false

theorem text_of (s : ByteArray) : ∃ l : List UInt8, s = ⟨l.toArray⟩ ∧ s.size = l.length := ⟨s.data.toList, by simp, by show s.data.size = s.data.toList.length; simp⟩
set_option maxHeartbeats 4000000 in
set_option maxRecDepth 100000 in
theorem shrinks_walk (l : List UInt8) (hl : l.length ≤ 9223372036854775807) (to again : Int) (w : World) :
    Calls Try.prog 7 #[tx l, .int .i64 to, .int .i64 again] w fun e w' => e = .returned (.bool true) ∧ Below w.heap.size w w' := by
  have hP := pair_at 40 w (by omega) (by omega)
  have hln := run_len_text l
  have HLe : Hid _ := hl
  clear hl
  go_enter Try.func7, Try.ntmps7
  go_wp2_with fail
  refine hP.mono ?_
  rintro e w1 ⟨B, bx, rfl, ⟨G, gx, hpr⟩, hb1⟩
  have HL : Hid (w.heap.size ≤ B ∧ w.heap.size ≤ G) := ⟨hpr.lo.1, hpr.lo.2.1⟩
  have HB1 : Hid (Below w.heap.size w w1) := hb1
  have hC := alloc_all hpr.fs (by omega) 1 ⟨by omega, by omega⟩
  rw [alI0, alR0, show alF (F0 40) 1 = C1 40 from rfl] at hC
  clear hP hpr hb1
  go_wp2_with fail
  refine hC.mono ?_
  rintro e w2 ⟨rfl, hf, hbg⟩
  have HB2 : Hid (Below w.heap.size w w2) := HB1.out.trans (bg_below hbg HL.out.1 HL.out.2 HB1.out.size)
  have H2 : Hid (Fs w2 B G (C1 40) 4000) := hf
  have HI : Hid (FInv (C1 40)) := hf.inv
  clear hC hf hbg HB1
  have hA := awake_at w2
  have hcase : (192 < (l.length : Int)) ∨ (¬ 192 < (l.length : Int) ∧ to < 0) ∨ (¬ 192 < (l.length : Int) ∧ ¬ to < 0 ∧ (l.length : Int) < to) ∨ (¬ 192 < (l.length : Int) ∧ ¬ to < 0 ∧ ¬ (l.length : Int) < to ∧ again < to) ∨ (¬ 192 < (l.length : Int) ∧ ¬ to < 0 ∧ ¬ (l.length : Int) < to ∧ ¬ again < to ∧ 192 < again) ∨ (¬ 192 < (l.length : Int) ∧ ¬ to < 0 ∧ ¬ (l.length : Int) < to ∧ ¬ again < to ∧ ¬ 192 < again) := by omega
  rcases hcase with q1 | ⟨q1, q2⟩ | ⟨q1, q2, q3⟩ | ⟨q1, q2, q3, q4⟩ | ⟨q1, q2, q3, q4, q5⟩ | ⟨q1, q2, q3, q4, q5⟩
  rotate_right
  · obtain ⟨t0, rfl⟩ : ∃ t : Nat, to = (t : Int) := ⟨to.toNat, by omega⟩
    obtain ⟨g0, rfl⟩ : ∃ g : Nat, again = (g : Int) := ⟨again.toNat, by omega⟩
    have HS : Hid (Shr l t0 g0) := shr HI.out l t0 g0 (by omega) (by omega) (by omega) (by omega)
    have hC := write_all H2.out (by omega) 1 (by omega) C1_us 0 l HLe.out
    rw [HS.out.a] at hC
    have HU2 : Hid (Bi.bt (wrF (C1 40) 1 0 l).iw 1 = true) := by rw [(wrF_iw _ _ _ _).1]; exact C1_us
    have HS1 := HS.out.b
    have HS2 := HS.out.c
    have HTl := HS.out.len
    have HLow := HS.out.low
    have HHi := HS.out.high
    generalize wrF (C1 40) 1 0 l = F2 at *
    clear hA H2 HS
    go_wp2_with fail
    refine hC.mono ?_
    rintro e w3 ⟨rfl, hf, hbg⟩
    have HB3 : Hid (Below w.heap.size w w3) := HB2.out.trans (bg_below hbg HL.out.1 HL.out.2 HB2.out.size)
    clear hC HB2 hbg
    have hC := resize_all hf (by omega) 1 (by omega) HU2.out (t0 : Int)
    rw [HS1] at hC
    have HU3 : Hid (Bi.bt (rsF F2 1 (t0 : Int)).iw 1 = true) := by rw [(rsF_iw _ _ _).1]; exact HU2.out
    generalize rsF F2 1 (t0 : Int) = F3 at *
    clear hf
    go_wp2_with fail
    refine hC.mono ?_
    rintro e w4 ⟨rfl, hf, hbg⟩
    have HB4 : Hid (Below w.heap.size w w4) := HB3.out.trans (bg_below hbg HL.out.1 HL.out.2 HB3.out.size)
    clear hC HB3 hbg
    have hC := resize_all hf (by omega) 1 (by omega) HU3.out (g0 : Int)
    rw [HS2] at hC
    generalize rsF F3 1 (g0 : Int) = F4 at *
    clear hf
    go_wp2_with fail
    refine hC.mono ?_
    rintro e w5 ⟨rfl, hf, hbg⟩
    have HB5 : Hid (Below w.heap.size w w5) := HB4.out.trans (bg_below hbg HL.out.1 HL.out.2 HB4.out.size)
    clear hC HB4 hbg
    have hC := read_all hf (by omega) 1 0 192 (by omega) (by omega)
    rw [show rdR 1 0 192 = 0 from rfl] at hC
    generalize rdT F4 1 0 192 = t at *
    have HLow' : Hid _ := HLow
    have HHi' : Hid _ := HHi
    have HTl' : Hid _ := HTl
    have hlt := run_len_text t
    rw [HTl] at hlt
    clear hf HLow HHi HTl HS1 HS2
    go_wp2_with fail
    refine hC.mono ?_
    rintro e w6 ⟨rfl, hf, hbg⟩
    have HB6 : Hid (Below w.heap.size w w6) := HB5.out.trans (bg_below hbg HL.out.1 HL.out.2 HB5.out.size)
    clear hC HB5 hbg hf
    go_wp2
    go_loopw [17] (fun s wr => ∃ (k : Nat), k ≤ g0 ∧ s = .int .i64 k ∧ Below w.heap.size w wr) (fun s _ => g0 - (intOf s).toNat)
    case atStart => exact ⟨0, by omega, rfl, HB6.out⟩
    case round =>
      obtain ⟨k, hk, rfl, hb⟩ := hrel
      by_cases hlt2 : k < g0
      · have hint : (k : Int) < (g0 : Int) := by omega
        have hi1 := fun W => tx_index t k (by have := HTl'.out; omega) W
        by_cases hkt : k < t0
        · have hi2 := fun W => tx_index l k (by omega) W
          have he := HLow'.out k hkt
          rw [he] at hi1
          generalize (nums l).getD k 0 = z at *
          have hd1 : decide (k < t0) = true := decide_eq_true hkt
          have hd2 : decide (t0 ≤ k) = false := decide_eq_false (by omega)
          clear he
          go_wp2_with fail
          go_quiet (fail)
          go_wp2
          go_roundw
          case rel => exact ⟨k + 1, by omega, by go_num, below_drewN hb _⟩
          case measure => simp [intOf]; omega
        · have he := HHi'.out k (by omega) hlt2
          rw [he] at hi1
          have hd1 : decide (k < t0) = false := decide_eq_false hkt
          have hd2 : decide (t0 ≤ k) = true := decide_eq_true (by omega)
          clear he
          go_wp2_with fail
          go_quiet (fail)
          go_wp2
          go_roundw
          case rel => exact ⟨k + 1, by omega, by go_num, below_drewN hb _⟩
          case measure => simp [intOf]; omega
      · obtain rfl : k = g0 := by omega
        have HBr : Hid _ := hb
        have hA := awake_at wr
        go_wp2_with (first | (go_at_call 26; refine hA.mono ?_; rintro e w7 ⟨rfl, hb7⟩) | go_in)
        go_ret
        exact ⟨rfl, HBr.out.trans (hb7.mono HBr.out.size)⟩
  all_goals
    go_wp2_with (first | (go_at_call 26; refine hA.mono ?_; rintro e w7 ⟨rfl, hb7⟩) | go_in)
    go_ret
    exact ⟨rfl, HB2.out.trans (hb7.mono HB2.out.size)⟩

theorem own : ownKnob Try.prog.godebug = none := by kernel_rfl
theorem laidOut : laidOutB Try.prog = true := by kernel_rfl

set_option maxRecDepth 100000 in
theorem shrinks_lifted (os : Os) (started : os.Started) (H : Type) (enc : TypeId × Value → H) :
    ReturnsInHanded {} Try.checked os 7 .any (Rows.inodeShrinksSpec.pre6 enc Try.prog Try.f7 Rows.inodeShrinksRow.domain false) (Rows.inodeShrinksSpec.post enc Try.prog Try.f7 false true false false) := by
  refine returnsInHanded_of_change (C := Try.checked) own started (by kernel_rfl) Try.func7
    (ChangeSpec.witness6 (enc := enc) (C := Try.checked) false ⟨#[], #[.string ⟨#[]⟩, .int .i64 0, .int .i64 0], []⟩ 8 (by kernel_rfl) (by kernel_rfl) (by kernel_rfl) (by kernel_rfl)) ?_
  intro W base args ds gs before hval0 hW hcnd _
  have hval : ∀ (j : Nat) t v, Try.f7.params[j]? = some t → args[j]? = some v → Value.okWide Try.prog W .any base t v := hval0
  have hW' := hW
  obtain ⟨p, q, hA0, hV, rfl, hfz, hnd⟩ := hW
  have hA : DataW.TrodAll enc Try.prog W 0 (fun _ => true) true Try.f7.params.toList args.toList ds p := hA0
  rw [Try.params7] at hA hval
  obtain ⟨v0, vs0, d0, ds0, p0, q0, hargs, rfl, rfl, h0, r0⟩ := trodAll_cons hA
  obtain ⟨v1, vs1, d1, ds1, p1, q1, rfl, rfl, rfl, h1, r1⟩ := trodAll_cons r0
  obtain ⟨v2, vs2, d2, ds2, p2, q2, rfl, rfl, rfl, h2, r2⟩ := trodAll_cons r1
  obtain ⟨rfl, rfl, rfl⟩ := trodAll_nil r2
  obtain rfl : args = #[v0, v1, v2] := by cases args; simp_all
  obtain ⟨rfl, rfl⟩ := trodVars_none hV
  obtain ⟨s0, rfl, rfl, rfl, len0⟩ := Go.ChangeMaps.open_string Try.underlying9 (hval 0 9 v0 rfl rfl) h0
  obtain ⟨a1, rfl, rfl, rfl, w1⟩ := open_int Try.underlying3 (hval 1 3 v1 rfl rfl) h1
  obtain ⟨a2, rfl, rfl, rfl, w2⟩ := open_int Try.underlying3 (hval 2 3 v2 rfl rfl) h2
  clear hA0 hval0
  obtain ⟨s, rfl, hsl⟩ := text_of s0
  have hwalk : Calls Try.prog 7 #[tx s, .int .i64 a1, .int .i64 a2] W fun e w' => e = .returned (.bool true) ∧ Below W.heap.size W w' := shrinks_walk s (by unfold maxLen at len0; omega) a1 a2 W
  refine hwalk.mono fun e W' ⟨he, bel⟩ => ?_
  subst he
  exact ⟨_, rfl, _, _, _, [], _, [], hW', trodAll_mk1 (shut_bool Try.underlying4 _), (trodAll_cons_mk (Go.ChangeMaps.shut_string Try.underlying9 len0) (trodAll_cons_mk (shut_int Try.underlying3 w1) (trodAll_cons_mk (shut_int Try.underlying3 w2) trodAll_mk0))), rfl, bel.frame _, fun h => by cases h⟩

theorem shrinks_holds : Rows.InodeShrinksSaid :=
  OpenClaim.holds_of_wide 7 Try.f7 rfl rfl rfl rfl rfl rfl rfl ⟨rfl, rfl, rfl, rfl, rfl⟩ rfl rfl rfl rfl rfl (by kernel_rfl) Try.func7 (by kernel_rfl)
    (of_decide_eq_true (by kernel_rfl)) (by unfold Func.isWrapper; first | (rw [if_pos (by decide +kernel)]; kernel_rfl) | (rw [if_neg (by decide +kernel)]; exact ⟨rfl, rfl⟩))
    (fun os started H enc _ => shrinks_lifted os started H enc)
#print axioms shrinks_holds
end Go.Proofs.Ytinjllnoonbjmaa
