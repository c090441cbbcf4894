/- Proved: januslaw08.CapsNever answers true for all rights and every list of deeds (nobody has a right that was not given on), at the commit of this claim; no condition beyond the row's own. -/
import Derived.Test.YtfhkdcbhkjkkgaaNevM8
import Derived.Lib.MinMax
import Derived.ProofKit
import Derived.OpenShut
import Derived.ChangeOld
import Derived.Below
import Derived.Deep.Slices
namespace Go.Proofs.Ytfhkdcbhkjkkgaa
open Go.ChangeShapes Go.WideShapes Go.ChangeAt Go.RowKit Go.Lib
set_option linter.unusedVariables false

theorem nev_add {R : Int} (h1 : 1 ≤ R) (h2 : R ≤ 7) : addR a0 1 ⟨1, 5, 1, R⟩ = 0 := by
  have ho : addOK 1 ⟨1, 5, 1, R⟩ = true := by
    simp [addOK, isE, mayB, longOk, areR]
    omega
  have hp : putE a0 (Int.toNat 1) = 0 := by kernel_rfl
  unfold addR
  rw [if_pos ho, hp]

set_option maxRecDepth 100000 in
set_option maxHeartbeats 8000000 in
theorem never_walk (n : Int) (a0' : Option Addr) (len cap : Nat) (w : World) (hlen : len ≤ 9223372036854775807) (hdeeds : Hid (DeedsAt w a0' len)) :
    Calls Try.prog 4 #[.int .i64 n, .slice a0' len cap] w fun e w' => e = .returned (.bool true) ∧ Below w.heap.size w w' := by
  obtain ⟨R, hR, hR1, hR7⟩ : ∃ R : Int, max 1 (min n 7) = R ∧ 1 ≤ R ∧ R ≤ 7 := ⟨_, rfl, by omega, by omega⟩
  go_enter Try.func4, Try.ntmps4
  go_wp2_with fail
  refine (new_at w).mono ?_
  rintro e w1 ⟨rfl, hC, hB, hsz⟩
  obtain ⟨b, hbq⟩ : ∃ b, b = w.heap.size := ⟨_, rfl⟩
  rw [← hbq] at hC ⊢
  have hbb : w.heap.size ≤ b := by omega
  have HC : Hid (CapsAt w1 b a0) := hC
  have HB : Hid (Below w.heap.size w w1) := hB
  have hne : ∀ W, (binOp .eql 23 (.pointer (some ⟨b, 0, none⟩)) (.pointer none)).run Try.prog W = .ok (.bool false) W := fun W => by go_simp
  clear hC hB hsz hbq hR
  go_wp2_with fail
  refine (frame_at 5 R w1).mono ?_
  rintro e w2 ⟨rfl, hb2⟩
  have ha := add_at b a0 1 ⟨1, 5, 1, R⟩ w2 (HC.out.below hb2)
  rw [nev_add hR1 hR7] at ha
  have HT0 : Hid (NevI R (addT a0 1 ⟨1, 5, 1, R⟩)) := NevI.start hR1 hR7
  generalize addA a0 1 ⟨1, 5, 1, R⟩ = A at *
  generalize addT a0 1 ⟨1, 5, 1, R⟩ = T0 at *
  go_wp2_with fail
  refine ha.mono ?_
  rintro e w3 ⟨rfl, hC3, hU3⟩
  have HC3 : Hid _ := hC3
  have HB3 : Hid (Below w.heap.size w w3) := upd_below (HB.out.trans (hb2.mono HB.out.size)) hU3 hbb
  clear ha hC3 hU3 hb2 HC HB
  go_wp2
  go_loopw [8] (fun s wr => ∃ (k : Nat) (T : Tab), k ≤ len ∧ k ≤ 150 ∧ s = .int .i64 k ∧ CapsAt wr b T ∧ Hid (NevI R T) ∧ Below w.heap.size w wr) (fun s _ => 150 - (intOf s).toNat)
  case atStart => exact ⟨0, T0, by omega, by omega, rfl, HC3.out, HT0, HB3.out⟩
  case round =>
    clear HC3 HT0 HB3
    obtain ⟨k, T, hk, hk1, rfl, hC, HN, hB⟩ := hrel
    by_cases hlt : k < len ∧ k < 150
    · obtain ⟨hkl, hk150⟩ := hlt
      obtain ⟨gb, off, d, rfl, hfit, ⟨e0, e1, e2, e3, e4⟩, e5, e6, e7, e8⟩ := (hdeeds.out.below hB) k hkl
      obtain ⟨kd, env, slot, to, r, x0, x1, x2, x3⟩ := d
      dsimp only at *
      have g0 : decide ((k : Int) < (len : Int)) = true := decide_eq_true (by omega)
      have g1 : decide ((k : Int) < 150) = true := decide_eq_true (by omega)
      have ik : (k : Int) < (len : Int) := by omega
      obtain ⟨W, hW⟩ : ∃ W, W = wr.alloc (.cells #[.int .i64 kd, .int .i64 env, .int .i64 slot, .int .i64 to, .int .i64 r, .int .i64 x0, .int .i64 x1, .int .i64 x2, .int .i64 x3] 32) := ⟨_, rfl⟩
      have hbW : Below wr.heap.size wr W := by rw [hW]; exact below_alloc _ _
      have hCW := hC.below hbW
      have HBW : Hid (Below w.heap.size w W) := hB.trans (hbW.mono hB.size)
      have hg := give_at b T env slot to r W hCW
      have hdr := drop_at b T env slot W hCW HN.out.sanes
      have hrn := revoke_no b T env slot W hCW
      have hry := revoke_yes b T env slot W hCW
      have HG : Hid (NevI R (giveT T env slot to r)) := HN.out.give ⟨by omega, hR7⟩ _ _ _ _
      have HD : Hid (NevI R (dropT T env slot)) := HN.out.drop _ _
      have HRV : Hid (∀ i, NevI R (revS T (env, slot) i).1) := fun i => HN.out.rev _ i
      have HCW : Hid _ := hCW
      have HW : Hid _ := hW
      generalize giveA T env slot to r = gA at *
      generalize giveR T env slot to r = gR at *
      generalize giveT T env slot to r = gT at *
      generalize dropB T env slot = dB at *
      generalize dropR T env slot = dR at *
      generalize dropT T env slot = dT at *
      clear hW hbW hC hB hCW
      have kinds : (kd == 1) = true ∨ ((kd == 1) = false ∧ (kd == 2) = true) ∨ ((kd == 1) = false ∧ (kd == 2) = false ∧ (kd == 3) = true) ∨ ((kd == 1) = false ∧ (kd == 2) = false ∧ (kd == 3) = false) := by
        simp only [beq_iff_eq, beq_eq_false_iff_ne]
        omega
      rcases kinds with t0 | ⟨t0, t1⟩ | ⟨t0, t1, t2⟩ | ⟨t0, t1, t2⟩
      focus
        clear hdr hrn hry
        go_wp2_with fail
        rw [← HW.out]
        refine hg.mono ?_
        rintro e w4 ⟨rfl, hC4, hU4⟩
        have HC4 : Hid (∃ T4, CapsAt w4 b T4 ∧ NevI R T4 ∧ Below w.heap.size w w4) := ⟨_, hC4, HG.out, upd_below HBW.out hU4 hbb⟩
        clear hg hC4 hU4 HG HD HRV HN HCW HBW HW e0 e1 e2 e3 e4 e5 e6 e7 e8
        go_wp2
      rotate_left
      focus
        clear hrn hry hg
        go_wp2_with fail
        rw [← HW.out]
        refine hdr.mono ?_
        rintro e w4 ⟨rfl, hC4, hU4⟩
        have HC4 : Hid (∃ T4, CapsAt w4 b T4 ∧ NevI R T4 ∧ Below w.heap.size w w4) := ⟨_, hC4, HD.out, upd_below HBW.out hU4 hbb⟩
        clear hdr hC4 hU4 HG HD HRV HN HCW HBW HW e0 e1 e2 e3 e4 e5 e6 e7 e8
        go_wp2
      rotate_left
      focus
        clear hdr hg
        by_cases hq : (getT T env slot).is = true
        focus
          have hr := hry hq
          clear hrn hry hq
          go_wp2_with fail
          rw [← HW.out]
          refine hr.mono ?_
          rintro e w4 ⟨N, _, rfl, hC4, hU4⟩
          have HC4 : Hid (∃ T4, CapsAt w4 b T4 ∧ NevI R T4 ∧ Below w.heap.size w w4) := ⟨_, hC4, HRV.out _, upd_below HBW.out hU4 hbb⟩
          clear hr hC4 hU4 HG HD HRV HN HCW HBW HW e0 e1 e2 e3 e4 e5 e6 e7 e8
          go_wp2
        rotate_left
        focus
          have hq2 : (getT T env slot).is = false := by simpa using hq
          have hr := hrn hq2
          clear hrn hry hq hq2
          go_wp2_with fail
          rw [← HW.out]
          refine hr.mono ?_
          rintro e w4 ⟨rfl, hb4⟩
          have HC4 : Hid (∃ T4, CapsAt w4 b T4 ∧ NevI R T4 ∧ Below w.heap.size w w4) := ⟨_, HCW.out.below hb4, HN.out, HBW.out.trans (hb4.mono HBW.out.size)⟩
          clear hr hb4 HG HD HRV HN HCW HBW HW e0 e1 e2 e3 e4 e5 e6 e7 e8
          go_wp2
      rotate_left 2
      focus
        clear hdr hrn hry hg
        have HC4 : Hid (∃ T4, CapsAt W b T4 ∧ NevI R T4 ∧ Below w.heap.size w W) := ⟨_, HCW.out, HN.out, HBW.out⟩
        clear HG HD HRV HN HCW HBW
        go_wp2
        rw [← HW.out]
        clear HW
        obtain ⟨w4, rfl⟩ : ∃ w4, W = w4 := ⟨_, rfl⟩
        clear e0 e1 e2 e3 e4 e5 e6 e7 e8
      all_goals
        obtain ⟨T4, hC4, hN4, hB4⟩ := HC4.out
        have H1 : Hid _ := hC4
        have H2 : Hid (NevI R T4) := hN4
        have H3 : Hid _ := hB4
        clear hC4 hN4 hB4 HC4
        go_loopw [10] (fun s wr => ∃ (m : Nat), m ≤ 12 ∧ s = .int .i64 m ∧ CapsAt wr b T4 ∧ Below w.heap.size w wr) (fun s _ => 12 - (intOf s).toNat)
        case atStart => exact ⟨0, by omega, rfl, H1.out, H3.out⟩
        case round =>
          clear H1 H3
          obtain ⟨m, hm, rfl, hC5, hB5⟩ := hrel
          by_cases hm12 : m < 12
          · have H1 : Hid _ := hC5
            have H3 : Hid _ := hB5
            have gm : decide ((m : Int) < 12) = true := decide_eq_true (by omega)
            clear hC5 hB5
            go_wp2
            go_loopw [11] (fun s wr => ∃ (q : Nat), (q = 1 ∨ q = 2 ∨ q = 4 ∨ q = 8) ∧ s = .int .i64 q ∧ CapsAt wr b T4 ∧ Below w.heap.size w wr) (fun s _ => 8 - (intOf s).toNat)
            case atStart => exact ⟨1, by omega, rfl, H1.out, H3.out⟩
            case round =>
              clear H1 H3
              obtain ⟨q, hq, rfl, hC6, hB6⟩ := hrel
              by_cases hq4 : q ≤ 4
              · have gq : decide ((q : Int) ≤ 4) = true := decide_eq_true (by omega)
                have h5 := has_yes b T4 m 1 5 q wr hC6 H2.out.sanes ⟨by decide, by decide⟩ hm12
                have H6 : Hid (∀ V, CapsAt V b T4 → Calls Try.prog 10 #[.pointer (some ⟨b, 0, none⟩), .int .i64 m, .int .i64 1, .int .i64 6, .int .i64 q] V fun e w' => e = .returned (.bool false) ∧ Below V.heap.size V w') := by
                  intro V hV
                  have := has_yes b T4 m 1 6 q V hV H2.out.sanes ⟨by decide, by decide⟩ hm12
                  rwa [H2.out.has6 m hm12 q] at this
                have HA : Hid (hasN T4 m 1 5 q = true → (bits .and .i64 R q == 0) = false) := fun hh => H2.out.has ⟨by omega, hR7⟩ m hm12 q (by omega) hh
                have H1 : Hid _ := hC6
                have H3 : Hid _ := hB6
                clear hC6 hB6
                have iq : (q : Int) ≤ 4 := by omega
                go_wp2_with fail
                refine h5.mono ?_
                rintro e w5 ⟨rfl, hb5⟩
                clear h5
                have H5 : Hid (CapsAt w5 b T4) := H1.out.below hb5
                have H4 : Hid (Below w.heap.size w w5) := H3.out.trans (hb5.mono H3.out.size)
                clear hb5 H1 H3
                cases hh : hasN T4 m 1 5 q with
                | true =>
                  have hand := HA.out hh
                  have h6 := H6.out w5 H5.out
                  clear HA hh H6
                  go_wp2_with fail
                  refine h6.mono ?_
                  rintro e w6 ⟨rfl, hb6⟩
                  clear h6
                  have H7 : Hid (CapsAt w6 b T4) := H5.out.below hb6
                  have H8 : Hid (Below w.heap.size w w6) := H4.out.trans (hb6.mono H4.out.size)
                  clear hb6 H5 H4
                  go_wp2
                  go_roundw
                  case rel => exact ⟨2 * q, by omega, by first | go_num | (congr 1; omega), H7.out, H8.out⟩
                  case measure => simp [intOf]; omega
                | false =>
                  have h6 := H6.out w5 H5.out
                  clear HA hh H6
                  go_wp2_with fail
                  refine h6.mono ?_
                  rintro e w6 ⟨rfl, hb6⟩
                  clear h6
                  have H7 : Hid (CapsAt w6 b T4) := H5.out.below hb6
                  have H8 : Hid (Below w.heap.size w w6) := H4.out.trans (hb6.mono H4.out.size)
                  clear hb6 H5 H4
                  go_wp2
                  go_roundw
                  case rel => exact ⟨2 * q, by omega, by first | go_num | (congr 1; omega), H7.out, H8.out⟩
                  case measure => simp [intOf]; omega
              · obtain rfl : q = 8 := by omega
                have H1 : Hid _ := hC6
                have H3 : Hid _ := hB6
                clear hC6 hB6
                go_wp2
                go_roundw
                case rel => exact ⟨m + 1, by omega, by go_num, H1.out, H3.out⟩
                case measure => simp [intOf]; omega
          · obtain rfl : m = 12 := by omega
            have H1 : Hid _ := hC5
            have H3 : Hid _ := hB5
            clear hC5 hB5
            go_wp2
            go_roundw
            case rel => exact ⟨k + 1, T4, by omega, by omega, by go_num, H1.out, H2, H3.out⟩
            case measure => simp [intOf]; omega
    · clear hC HN
      by_cases hkl : k < len
      · have g0 : decide ((k : Int) < (len : Int)) = true := decide_eq_true (by omega)
        have g1 : decide ((k : Int) < 150) = false := decide_eq_false (by omega)
        go_wp2_with fail
        refine (awake_at _).mono ?_
        rintro e w5 ⟨rfl, hb5⟩
        go_wp2
        go_ret
        exact ⟨rfl, hB.trans (hb5.mono hB.size)⟩
      · have g0 : decide ((k : Int) < (len : Int)) = false := decide_eq_false (by omega)
        go_wp2_with fail
        refine (awake_at _).mono ?_
        rintro e w5 ⟨rfl, hb5⟩
        go_wp2
        go_ret
        exact ⟨rfl, hB.trans (hb5.mono hB.size)⟩

theorem own : ownKnob Try.prog.godebug = none := by kernel_rfl
theorem laidOut : laidOutB Try.prog = true := by kernel_rfl

set_option maxRecDepth 100000 in
theorem never_lifted (os : Os) (started : os.Started) (H : Type) (enc : TypeId × Value → H) :
    ReturnsInHanded {} Try.checked os 4 .any (Rows.capsNeverSpec.pre6 enc Try.prog Try.f4 Rows.capsNeverRow.domain false) (Rows.capsNeverSpec.post enc Try.prog Try.f4 false true false false) := by
  refine returnsInHanded_of_change (C := Try.checked) own started (by kernel_rfl) Try.func4
    (ChangeSpec.witness6 (enc := enc) (C := Try.checked) false ⟨#[], #[.int .i64 0, .slice none 0 0], []⟩ 8 (by kernel_rfl) (by kernel_rfl) (by kernel_rfl) (by kernel_rfl)) ?_
  intro W base args ds gs before hval0 hW hcnd _
  have hval : ∀ (j : Nat) t v, Try.f4.params[j]? = some t → args[j]? = some v → Value.okWide Try.prog W .any base t v := hval0
  have hW' := hW
  obtain ⟨p, q, hA0, hV, rfl, hfz, hnd⟩ := hW
  have hA : DataW.TrodAll enc Try.prog W 0 (fun _ => true) true Try.f4.params.toList args.toList ds p := hA0
  rw [Try.params4] at hA hval
  obtain ⟨v0, vs0, d0, ds0, p0, q0, hargs, rfl, rfl, h0, r0⟩ := trodAll_cons hA
  obtain ⟨v1, vs1, d1, ds1, p1, q1, rfl, rfl, rfl, h1, r1⟩ := trodAll_cons r0
  obtain ⟨rfl, rfl, rfl⟩ := trodAll_nil r1
  obtain rfl : args = #[v0, v1] := by cases args; simp_all
  obtain ⟨rfl, rfl⟩ := trodVars_none hV
  obtain ⟨a0, rfl, rfl, rfl, w0⟩ := open_int Try.underlying3 (hval 0 3 v0 rfl rfl) h0
  have k1 := h1
  have lt1 : ∀ x ∈ p1, x.block < W.heap.size := by obtain ⟨m, hm⟩ := k1; exact DataW.trod_lt m _ _ _ hm
  obtain ⟨a1, len1, cap1, rfl⟩ := okWide_slice Try.underlying22 (hval 1 22 v1 rfl rfl)
  clear hA0 hval0
  have hdeeds : len1 ≤ 9223372036854775807 ∧ DeedsAt W a1 len1 := by
    obtain ⟨fuel, hf⟩ := h1
    obtain ⟨hl, hc⟩ := slice_fits (l := deedCK) Try.underlying22 deedKinds (by simp) deedSize (by simpa [Value.cells] using hf)
    exact ⟨hl, deeds_of hc⟩
  have hwalk : Calls Try.prog 4 #[.int .i64 a0, .slice a1 len1 cap1] W fun e w' => e = .returned (.bool true) ∧ Below W.heap.size W w' := never_walk a0 a1 len1 cap1 W hdeeds.1 hdeeds.2
  refine hwalk.mono fun e W' ⟨he, bel⟩ => ?_
  subst he
  exact ⟨_, rfl, _, _, _, [], _, [], hW', trodAll_mk1 (shut_bool Try.underlying4 _), (trodAll_cons_mk (shut_int Try.underlying3 w0) (trodAll_cons_mk (Below.trod laidOut (by kernel_rfl) (of_decide_eq_true (by kernel_rfl)) k1 bel lt1) trodAll_mk0)), rfl, bel.frame _, fun h => by cases h⟩

theorem never_holds : Rows.CapsNeverSaid :=
  OpenClaim.holds_of_wide 4 Try.f4 rfl rfl rfl rfl rfl rfl rfl ⟨rfl, rfl, rfl, rfl, rfl⟩ rfl rfl rfl rfl rfl (by kernel_rfl) Try.func4 (by kernel_rfl)
    (of_decide_eq_true (by kernel_rfl)) (by unfold Func.isWrapper; first | (rw [if_pos (by decide +kernel)]; kernel_rfl) | (rw [if_neg (by decide +kernel)]; exact ⟨rfl, rfl⟩))
    (fun os started H enc _ => never_lifted os started H enc)
#print axioms never_holds
end Go.Proofs.Ytfhkdcbhkjkkgaa
