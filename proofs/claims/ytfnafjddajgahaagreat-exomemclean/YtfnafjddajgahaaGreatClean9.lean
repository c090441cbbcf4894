/- Proved: januslaw09.ExomemClean answers true for every list of deeds (a frame that was freed by all is free, and all 0 when it is had again), at the commit of this claim; no condition beyond the row's own. -/
import Derived.Test.YtfnafjddajgahaaGreatDoD9
import Derived.Test.YtfnafjddajgahaaGreatCleanM9
import Derived.ProofKit
import Derived.OpenShut
import Derived.ChangeOld
import Derived.Below
import Derived.Deep.Slices
namespace Go.Proofs.YtfnafjddajgahaaGreat
open Go.ChangeShapes Go.WideShapes Go.ChangeAt Go.RowKit Go.Lib Ca
set_option linter.unusedVariables false

set_option maxRecDepth 100000 in
set_option maxHeartbeats 8000000 in
theorem clean_walk (a0' : Option Addr) (len cap : Nat) (w : World) (hlen : len ≤ 9223372036854775807) (hdeeds : Hid (DdsAt w a0' len)) :
    Calls Tryz.prog 5 #[.slice a0' len cap] w fun e w' => e = .returned (.bool true) ∧ Below w.heap.size w w' := by
  go_enter Tryz.func5, Tryz.ntmps5
  go_wp2_with fail
  refine (knew_at 4 w (by decide) (by decide)).mono ?_
  rintro x w1 ⟨K, Y, rfl, hK1, hb1, _, hf1⟩
  go_wp2_with fail
  refine (rknew_at 4 w1 (by decide) (by decide)).mono ?_
  rintro x w2 ⟨X, Q, rfl, hR2, hb2, hl2⟩
  obtain ⟨hD0, hO⟩ := duo_new 4 w (by decide) (by decide) hK1 hb1 hf1 hR2 hb2 hl2
  have HD : Hid (Duo w2 K Y X Q 4 w1.heap.size (List.replicate 128 0) (fun _ => Hd.no) (fun _ _ => none) [] 0) := hD0
  have HO : Hid (Own2 w Y X Q 4 w1.heap.size) := hO
  have HB : Hid (Below w.heap.size w w2) := hb1.trans (hb2.mono hb1.size)
  clear hK1 hb1 hf1 hR2 hb2 hl2 hD0 hO
  generalize w1.heap.size = R at *
  go_wp2
  go_loopw [5] (fun s wr => ∃ (k : Nat) (vs : List Int) (T : Tab) (F : Pages) (L : List Ce) (last : Int), k ≤ len ∧ k ≤ 100 ∧ s = .int .i64 k ∧ Duo wr K Y X Q 4 R vs T F L last ∧ L.length ≤ k ∧ last ≤ k ∧ Below w.heap.size w wr) (fun s _ => 100 - (intOf s).toNat)
  case atStart => exact ⟨0, _, _, _, [], 0, by omega, by omega, rfl, HD.out, by simp, by simp, HB.out⟩
  case round =>
    clear HD HB
    obtain ⟨k, vs, T, F, L, last, hk, hk1, rfl, hDu, hL, hla, hB⟩ := hrel
    by_cases hlt : k < len ∧ k < 100
    · obtain ⟨hkl, hk100⟩ := hlt
      obtain ⟨gb, off, d, rfl, hfit, ⟨e0, e1, e2, e3⟩, e4, e5, e6, e7⟩ := (hdeeds.out.below hB) k hkl
      have hdo := do_at hDu (by omega) (by omega) d hfit
      have g0 : decide ((k : Int) < (len : Int)) = true := decide_eq_true (by omega)
      have g1 : decide ((k : Int) < 100) = true := decide_eq_true (by omega)
      have ik : (k : Int) < (len : Int) := by omega
      have HDu : Hid _ := hDu
      have HB : Hid _ := hB
      clear hDu hB hfit
      dsimp only [ddRow] at hdo
      go_wp2_with fail
      refine hdo.mono ?_
      rintro x w3 ⟨rfl, L', last', hD3, hL3, hl3, hu3⟩
      have HD3 : Hid _ := hD3
      have HB3 : Hid _ := both_below HO.out HDu.out HB.out hu3
      clear hD3 hu3 hdo e0 e1 e2 e3 e4 e5 e6 e7
      go_wp2
      go_roundw
      case rel => exact ⟨k + 1, _, _, _, L', last', by omega, by omega, by go_num, HD3.out, by omega, by omega, HB3.out⟩
      case measure => simp [intOf]; omega
    · have gg : (k < len ∧ decide ((k : Int) < (len : Int)) = true ∧ decide ((k : Int) < 100) = false) ∨ (¬ k < len ∧ decide ((k : Int) < (len : Int)) = false) := by
        by_cases hkl : k < len
        · exact Or.inl ⟨hkl, decide_eq_true (by omega), decide_eq_false (by omega)⟩
        · exact Or.inr ⟨hkl, decide_eq_false (by omega)⟩
      have HKer : Hid _ := hDu.ker
      have HB : Hid _ := hB
      have HF : Hid _ := HO.out.o1
      clear hDu hB HO
      rcases gg with ⟨hkl, g0, g1⟩ | ⟨hkl, g0⟩
      all_goals
        go_wp2
        go_loopw [6] (fun s wr => ∃ (m : Nat) (T : Tab) (F : Pages), m ≤ 12 ∧ s = .int .i64 m ∧ KerAt wr K Y 4 vs T F ∧ Cl T m ∧ Below w.heap.size w wr) (fun s _ => 12 - (intOf s).toNat)
        case atStart => exact ⟨0, T, F, by omega, rfl, HKer.out, Cl.zero T, HB.out⟩
        case round =>
          clear HKer HB
          obtain ⟨m, T, F, hm, rfl, hKe, hCl, hB⟩ := hrel
          by_cases hm12 : m < 12
          · have hg := kgone_at hKe m
            have HC : Hid _ := hCl.step hKe.inv hm12
            have HB : Hid _ := hB
            have i1 : decide ((m : Int) < 12) = true := decide_eq_true (by omega)
            clear hKe hCl hB
            go_wp2_with fail
            refine hg.mono ?_
            rintro x w3 ⟨rfl, hK3, hu3⟩
            have HK3 : Hid _ := hK3
            have HB3 : Hid _ := feet_below HB.out HF.out hu3
            clear hK3 hu3 hg
            go_wp2
            go_roundw
            case rel => exact ⟨m + 1, _, _, by omega, by go_num, HK3.out, HC.out, HB3.out⟩
            case measure => simp [intOf]; omega
          · obtain rfl : m = 12 := by omega
            have HS : Hid _ := St5.start hCl
            have hlf := kleft_at hKe
            rw [cl_left HS.out] at hlf
            have HKe : Hid _ := hKe
            have HB : Hid _ := hB
            clear hKe hCl hB
            go_wp2_with fail
            refine hlf.mono ?_
            rintro x w3 ⟨rfl, hb3⟩
            have HK3 : Hid _ := HKe.out.below hb3
            have HB3 : Hid (Below w.heap.size w w3) := HB.out.trans (hb3.mono HB.out.size)
            clear hb3 hlf HKe HB
            go_wp2
            go_loopw [7] (fun s wr => ∃ (i : Nat) (vs : List Int) (T : Tab), i ≤ 4 ∧ s = .int .i64 i ∧ KerAt wr K Y 4 vs T F ∧ St5 T i ∧ Below w.heap.size w wr) (fun s _ => 4 - (intOf s).toNat)
            case atStart => exact ⟨0, vs, T, by omega, rfl, HK3.out, HS.out, HB3.out⟩
            case round =>
              clear HK3 HS HB3
              obtain ⟨i, vs, T, hi, rfl, hKe, hS, hB⟩ := hrel
              by_cases hi4 : i < 4
              · obtain ⟨q1, q2, q3, q4⟩ := cl_alloc hS hi4 vs
                have hal := kalloc_at hKe 5
                rw [q1, q2, q4] at hal
                have HS1 : Hid _ := q3
                have HR : Hid _ := fun (j : Nat) (hj : j < 32) => cl_read (vs := vs) q3 hi4 hKe.mem.len hj
                have HB : Hid _ := hB
                have i1 : decide ((i : Int) < 4) = true := decide_eq_true (by omega)
                clear hKe hS hB q1 q2 q3 q4
                generalize allocT T 4 5 = T' at *
                generalize Me.putZ 4 vs i = vs' at *
                go_wp2_with fail
                refine hal.mono ?_
                rintro x w4 ⟨rfl, hK4, hu4⟩
                have HK4 : Hid _ := hK4
                have HB4 : Hid _ := feet_below HB.out HF.out hu4
                clear hK4 hu4 hal HB
                go_wp2
                go_loopw [10] (fun s wr => ∃ (j : Nat), j ≤ 32 ∧ s = .int .i64 j ∧ KerAt wr K Y 4 vs' T' F ∧ Below w.heap.size w wr) (fun s _ => 32 - (intOf s).toNat)
                case atStart => exact ⟨0, by omega, rfl, HK4.out, HB4.out⟩
                case round =>
                  clear HK4 HB4
                  obtain ⟨j, hj, rfl, hKe, hB⟩ := hrel
                  by_cases hj32 : j < 32
                  · have hrd := kread_at hKe 5 ((i + 1 : Nat) : Int) j
                    rw [HR.out j hj32] at hrd
                    dsimp only at hrd
                    have i2 : decide ((j : Int) < 32) = true := decide_eq_true (by omega)
                    have HKe : Hid _ := hKe
                    have HB : Hid _ := hB
                    clear hKe hB
                    go_wp2_with fail
                    refine hrd.mono ?_
                    rintro x w5 ⟨rfl, hb5⟩
                    have HK5 : Hid _ := HKe.out.below hb5
                    have HB5 : Hid (Below w.heap.size w w5) := HB.out.trans (hb5.mono HB.out.size)
                    clear hb5 hrd HKe HB
                    go_wp2
                    go_roundw
                    case rel => exact ⟨j + 1, by omega, by go_num, HK5.out, HB5.out⟩
                    case measure => simp [intOf]; omega
                  · obtain rfl : j = 32 := by omega
                    go_wp2
                    go_roundw
                    case rel => exact ⟨i + 1, vs', T', by omega, by go_num, hKe, HS1.out, hB⟩
                    case measure => simp [intOf]; omega
              · obtain rfl : i = 4 := by omega
                have hal := kalloc_at hKe 5
                obtain ⟨q1, q2⟩ := cl_last hS vs
                rw [q1, q2] at hal
                have HB : Hid _ := hB
                clear hKe hS hB q1 q2
                go_wp2_with fail
                refine hal.mono ?_
                rintro x w4 ⟨rfl, hK4, hu4⟩
                have HB4 : Hid _ := feet_below HB.out HF.out hu4
                clear hK4 hu4 hal HB
                go_wp2_with fail
                refine (Go.Proofs.YtfnafjddajgahaaGreat.awake_at _).mono ?_
                rintro x w5 ⟨rfl, hb5⟩
                go_wp2_with fail
                go_ret
                exact ⟨rfl, HB4.out.trans (hb5.mono HB4.out.size)⟩

theorem own : ownKnob Tryz.prog.godebug = none := by kernel_rfl
theorem laidOut : laidOutB Tryz.prog = true := by kernel_rfl

set_option maxRecDepth 100000 in
theorem clean_lifted (os : Os) (started : os.Started) (H : Type) (enc : TypeId × Value → H) :
    ReturnsInHanded {} Tryz.checked os 5 .any (Rows.exomemCleanSpec.pre6 enc Tryz.prog Tryz.f5 Rows.exomemCleanRow.domain false) (Rows.exomemCleanSpec.post enc Tryz.prog Tryz.f5 false true false false) := by
  refine returnsInHanded_of_change (C := Tryz.checked) own started (by kernel_rfl) Tryz.func5
    (ChangeSpec.witness6 (enc := enc) (C := Tryz.checked) false ⟨#[], #[.slice none 0 0], []⟩ 8 (by kernel_rfl) (by kernel_rfl) (by kernel_rfl) (by kernel_rfl)) ?_
  intro W base args ds gs before hval0 hW hcnd _
  have hval : ∀ (j : Nat) t v, Tryz.f5.params[j]? = some t → args[j]? = some v → Value.okWide Tryz.prog W .any base t v := hval0
  have hW' := hW
  obtain ⟨p, q, hA0, hV, rfl, hfz, hnd⟩ := hW
  have hA : DataW.TrodAll enc Tryz.prog W 0 (fun _ => true) true Tryz.f5.params.toList args.toList ds p := hA0
  rw [Tryz.params5] at hA hval
  obtain ⟨v0, vs0, d0, ds0, p0, q0, hargs, rfl, rfl, h0, r0⟩ := trodAll_cons hA
  obtain ⟨rfl, rfl, rfl⟩ := trodAll_nil r0
  obtain rfl : args = #[v0] := by cases args; simp_all
  obtain ⟨rfl, rfl⟩ := trodVars_none hV
  have k0 := h0
  have lt0 : ∀ x ∈ p0, x.block < W.heap.size := by obtain ⟨m, hm⟩ := k0; exact DataW.trod_lt m _ _ _ hm
  obtain ⟨a0, len0, cap0, rfl⟩ := okWide_slice Tryz.underlying22 (hval 0 22 v0 rfl rfl)
  clear hA0 hval0
  have hdeeds : len0 ≤ 9223372036854775807 ∧ DdsAt W a0 len0 := by
    obtain ⟨fuel, hf⟩ := h0
    obtain ⟨hl, hc⟩ := slice_fits (l := ddCK) Tryz.underlying22 ddKinds (by simp) ddSize (by simpa [Value.cells] using hf)
    exact ⟨hl, dds_of hc⟩
  have hwalk : Calls Tryz.prog 5 #[.slice a0 len0 cap0] W fun e w' => e = .returned (.bool true) ∧ Below W.heap.size W w' := clean_walk a0 len0 cap0 W hdeeds.1 hdeeds.2
  refine hwalk.mono fun e W' ⟨he, bel⟩ => ?_
  subst he
  exact ⟨_, rfl, _, _, _, [], _, [], hW', trodAll_mk1 (shut_bool Tryz.underlying4 _), (trodAll_cons_mk (Below.trod laidOut (by kernel_rfl) (of_decide_eq_true (by kernel_rfl)) k0 bel lt0) trodAll_mk0), rfl, bel.frame _, fun h => by cases h⟩

theorem clean_holds : Rows.ExomemCleanSaid :=
  OpenClaim.holds_of_wide 5 Tryz.f5 rfl rfl rfl rfl rfl rfl rfl ⟨rfl, rfl, rfl, rfl, rfl⟩ rfl rfl rfl rfl rfl (by kernel_rfl) Tryz.func5 (by kernel_rfl)
    (of_decide_eq_true (by kernel_rfl)) (by unfold Func.isWrapper; first | (rw [if_pos (by decide +kernel)]; kernel_rfl) | (rw [if_neg (by decide +kernel)]; exact ⟨rfl, rfl⟩))
    (fun os started H enc _ => clean_lifted os started H enc)
#print axioms clean_holds
end Go.Proofs.YtfnafjddajgahaaGreat
