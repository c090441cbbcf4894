/- Proved: januslaw09.ExomemGuards answers true for every list of deeds and every number (whatever others do that have no capability for it, the words of a frame are what its one holder wrote), at the commit of this claim; no condition beyond the row's own. -/
import Derived.Test.YtfnafjddajgahaaGreatGuardM9
import Derived.ProofKit
import Derived.OpenShut
import Derived.ChangeOld
import Derived.Below
import Derived.Deep.Slices
namespace Go.Proofs.YtfnafjddajgahaaGreat
open Go.ChangeShapes Go.WideShapes Go.ChangeAt Go.RowKit Go.Lib Ca
set_option linter.unusedVariables false

set_option maxRecDepth 100000 in
set_option maxHeartbeats 8000000 in
theorem guards_walk (a0' : Option Addr) (len cap : Nat) (v : Int) (w : World) (hlen : len ≤ 9223372036854775807) (hdeeds : Hid (DdsAt w a0' len)) :
    Calls Tryz.prog 4 #[.slice a0' len cap, .int .u64 v] w fun e w' => e = .returned (.bool true) ∧ Below w.heap.size w w' := by
  go_enter Tryz.func4, Tryz.ntmps4
  go_wp2_with fail
  refine (knew_at 6 w (by decide) (by decide)).mono ?_
  rintro x w1 ⟨K, Y, rfl, hK0, hb1, _, hf1⟩
  have hK1 : KerAt w1 K Y 6 (List.replicate 192 0) T0 F0 := hK0
  have HB1 : Hid _ := hb1
  have HF : Hid _ := hf1
  obtain ⟨q1, q2, q3, q4⟩ := gd_alloc
  have hal := kalloc_at hK1 0
  rw [q1, q2, q3, q4] at hal
  clear hK0 hK1 hb1 hf1
  go_wp2_with fail
  refine hal.mono ?_
  rintro x w2 ⟨rfl, hK2, hu2⟩
  have HB2 : Hid _ := feet_below HB1.out HF.out hu2
  have hwr := kwrite_at hK2 0 1 7 v
  rw [(gd_write v).1, (gd_write v).2] at hwr
  clear hK2 hu2 HB1 hal
  go_wp2_with fail
  refine hwr.mono ?_
  rintro x w3 ⟨rfl, hK3, hu3⟩
  have HB3 : Hid _ := feet_below HB2.out HF.out hu3
  have HK3 : Hid _ := hK3
  clear hK3 hu3 HB2 hwr
  go_wp2_with fail
  refine (rknew_at 6 w3 (by decide) (by decide)).mono ?_
  rintro x w4 ⟨X, Q, rfl, hR0, hb4, hl4⟩
  have hR4 : RkAt w4 X Q 6 (List.replicate 192 0) [] 0 F0 := hR0
  have hlk : Lnk T0 [] 0 6 F0 := ⟨Rel.zero, KInv.zero 6, by decide, by decide, fun e he p x hx => (by cases hx), by decide, by simp, by decide⟩
  have hra := rkalloc_at hR4 hlk 0
  rw [q1, q2, q3, q4] at hra
  have HL4 : Hid (RLow Q 6 w3.heap.size) := hl4
  have HFt : Hid _ := hR4.feet hl4
  have HK4 : Hid _ := HK3.out.below hb4
  have HB4 : Hid (Below w.heap.size w w4) := HB3.out.trans (hb4.mono HB3.out.size)
  have HS4 : Hid _ := HB3.out.size
  have HLow : Hid _ := HK3.out.low
  clear hR0 hR4 hb4 hl4 hlk q1 q2 q3 q4 HK3 HB3
  generalize w3.heap.size = R at *
  go_wp2_with fail
  refine hra.mono ?_
  rintro x w5 ⟨rfl, ⟨L5, last5, hR5, hr5, hp5, hl5, ht5⟩, hu5⟩
  have hK5 := HK4.out.keepR HLow.out hu5 HFt.out
  have hlk5 : Lnk Tg L5 last5 6 F0 := ⟨hr5, hK5.inv, by decide, by decide, fun e he p x hx => (by cases hx), hp5, by simp at hl5; omega, by omega⟩
  have hrw := rkwrite_at hR5 hlk5 0 1 7 v
  rw [(gd_write v).1, (gd_write v).2] at hrw
  have HB5 : Hid (Below w.heap.size w w5) := HB4.out.trans (hu5.below (fun b hb => by have := HFt.out b hb; have := HS4.out; omega) HB4.out.size)
  have HK5 : Hid _ := hK5
  have HR5 : Hid _ := And.intro hr5 (And.intro hp5 (And.intro hl5 ht5))
  clear hR5 hr5 hp5 hl5 ht5 hu5 hK5 hlk5 hra HK4 HB4
  go_wp2_with fail
  refine hrw.mono ?_
  rintro x w6 ⟨rfl, hR6, hu6⟩
  obtain ⟨hr5, hp5, hl5, ht5⟩ := HR5.out
  have HD : Hid (Duo w6 K Y X Q 6 R ((List.replicate 192 0).set 7 v) Tg F0 L5 last5) := ⟨HK5.out.keepR HLow.out hu6 HFt.out, hR6, hr5, hp5, HLow.out, HL4.out⟩
  have HB : Hid (Below w.heap.size w w6) := HB5.out.trans (hu6.below (fun b hb => by have := HFt.out b hb; have := HS4.out; omega) HB5.out.size)
  have HO : Hid (Own2 w Y X Q 6 R) := ⟨HF.out, HS4.out⟩
  have HG : Hid _ := gd_start v
  have HLL : Hid (L5.length ≤ 1 ∧ last5 ≤ 1) := ⟨by simpa using hl5, by omega⟩
  clear hR6 hu6 hr5 hp5 hl5 ht5 HR5 HK5 HB5 hrw HF HFt HS4 HLow HL4
  generalize (List.replicate 192 (0 : Int)).set 7 v = vs0 at *
  go_wp2
  go_loopw [9] (fun s wr => ∃ (k : Nat) (vs : List Int) (T : Tab) (F : Pages) (L : List Ce) (last : Int), k ≤ len ∧ k ≤ 100 ∧ s = .int .i64 k ∧ Duo wr K Y X Q 6 R vs T F L last ∧ GI v vs T F ∧ L.length ≤ k + 1 ∧ last ≤ k + 1 ∧ Below w.heap.size w wr) (fun s _ => 100 - (intOf s).toNat)
  case atStart => exact ⟨0, vs0, Tg, F0, L5, last5, by omega, by omega, rfl, HD.out, HG.out, by have := HLL.out.1; omega, by have := HLL.out.2; omega, HB.out⟩
  case round =>
    clear HD HB HG HLL
    obtain ⟨k, vs, T, F, L, last, hk, hk1, rfl, hDu, hG, hL, hla, hB⟩ := hrel
    by_cases hlt : k < len ∧ k < 100
    · obtain ⟨hkl, hk100⟩ := hlt
      obtain ⟨gb, off, d, rfl, hfit, ⟨e0, e1, e2, e3⟩, e4, e5, e6, e7⟩ := (hdeeds.out.below hB) k hkl
      have hdo := do_at hDu (by omega) (by omega) d hfit
      have g0 : decide ((k : Int) < (len : Int)) = true := decide_eq_true (by omega)
      have g1 : decide ((k : Int) < 100) = true := decide_eq_true (by omega)
      have ik : (k : Int) < (len : Int) := by omega
      have HDu : Hid _ := hDu
      have HB : Hid _ := hB
      have HG : Hid _ := hG
      clear hDu hB hfit hG
      by_cases henv : d.env = 0
      · rw [henv] at e1
        clear hdo henv e0 e2 e3 e4 e5 e6 e7
        go_wp2
        go_loopw [10] (fun s wz => ∃ (j : Nat), j ≤ 32 ∧ s = .int .i64 j ∧ Duo wz K Y X Q 6 R vs T F L last ∧ Below w.heap.size w wz) (fun s _ => 32 - (intOf s).toNat)
        case atStart => exact ⟨0, by omega, rfl, HDu.out, HB.out⟩
        case round =>
          clear HDu HB e1
          obtain ⟨j, hj, rfl, hDz, hBz⟩ := hrel
          by_cases hj32 : j < 32
          · have hrd := kread_at hDz.ker 0 1 j
            rw [HG.out.read 6 (by decide) hj32] at hrd
            have i2 : decide ((j : Int) < 32) = true := decide_eq_true (by omega)
            have HDz : Hid _ := hDz
            have HBz : Hid _ := hBz
            clear hDz hBz
            by_cases h7 : j = 7
            · subst h7
              dsimp only at hrd
              rw [if_pos rfl] at hrd
              go_wp2_with fail
              refine hrd.mono ?_
              rintro x w5 ⟨rfl, hb5⟩
              have HD5 : Hid _ := HDz.out.below hb5
              have HB5 : Hid (Below w.heap.size w w5) := HBz.out.trans (hb5.mono HBz.out.size)
              clear hb5 hrd HDz HBz
              go_wp2
              go_roundw
              case rel => exact ⟨8, by omega, by go_num, HD5.out, HB5.out⟩
              case measure => simp [intOf]
            · have i7 : decide ((j : Int) = 7) = false := decide_eq_false (by omega)
              have i7b : ((j : Int) == 7) = false := beq_eq_false_iff_ne.2 (by omega)
              have i7c : ¬ ((j : Int) = 7) := by omega
              dsimp only at hrd
              rw [if_neg h7] at hrd
              go_wp2_with fail
              refine hrd.mono ?_
              rintro x w5 ⟨rfl, hb5⟩
              have HD5 : Hid _ := HDz.out.below hb5
              have HB5 : Hid (Below w.heap.size w w5) := HBz.out.trans (hb5.mono HBz.out.size)
              clear hb5 hrd HDz HBz
              go_wp2
              go_roundw
              case rel => exact ⟨j + 1, by omega, by go_num, HD5.out, HB5.out⟩
              case measure => simp [intOf]; omega
          · obtain rfl : j = 32 := by omega
            go_wp2
            go_roundw
            case rel => exact ⟨k + 1, vs, T, F, L, last, by omega, by omega, by go_num, hDz, HG.out, by omega, by omega, hBz⟩
            case measure => simp [intOf]; omega
      · have i8b : (d.env == 0) = false := beq_eq_false_iff_ne.2 henv
        have HG3 : Hid _ := HG.out.step 6 HDu.out.ker.mem.len d henv
        dsimp only [ddRow] at hdo
        go_wp2_with fail
        refine hdo.mono ?_
        rintro x w3 ⟨rfl, L', last', hD3, hL3, hl3, hu3⟩
        have HD3 : Hid _ := hD3
        have HB3 : Hid _ := both_below HO.out HDu.out HB.out hu3
        clear hD3 hu3 hdo e0 e1 e2 e3 e4 e5 e6 e7 HDu HB HG henv i8b
        generalize stV 6 d vs T F = vs' at *
        generalize stF d T F = F' at *
        generalize stT 6 d T = T' at *
        go_wp2
        go_loopw [10] (fun s wz => ∃ (j : Nat), j ≤ 32 ∧ s = .int .i64 j ∧ Duo wz K Y X Q 6 R vs' T' F' L' last' ∧ Below w.heap.size w wz) (fun s _ => 32 - (intOf s).toNat)
        case atStart => exact ⟨0, by omega, rfl, HD3.out, HB3.out⟩
        case round =>
          clear HD3 HB3
          obtain ⟨j, hj, rfl, hDz, hBz⟩ := hrel
          by_cases hj32 : j < 32
          · have hrd := kread_at hDz.ker 0 1 j
            rw [HG3.out.read 6 (by decide) hj32] at hrd
            have i2 : decide ((j : Int) < 32) = true := decide_eq_true (by omega)
            have HDz : Hid _ := hDz
            have HBz : Hid _ := hBz
            clear hDz hBz
            by_cases h7 : j = 7
            · subst h7
              dsimp only at hrd
              rw [if_pos rfl] at hrd
              go_wp2_with fail
              refine hrd.mono ?_
              rintro x w5 ⟨rfl, hb5⟩
              have HD5 : Hid _ := HDz.out.below hb5
              have HB5 : Hid (Below w.heap.size w w5) := HBz.out.trans (hb5.mono HBz.out.size)
              clear hb5 hrd HDz HBz
              go_wp2
              go_roundw
              case rel => exact ⟨8, by omega, by go_num, HD5.out, HB5.out⟩
              case measure => simp [intOf]
            · have i7 : decide ((j : Int) = 7) = false := decide_eq_false (by omega)
              have i7b : ((j : Int) == 7) = false := beq_eq_false_iff_ne.2 (by omega)
              have i7c : ¬ ((j : Int) = 7) := by omega
              dsimp only at hrd
              rw [if_neg h7] at hrd
              go_wp2_with fail
              refine hrd.mono ?_
              rintro x w5 ⟨rfl, hb5⟩
              have HD5 : Hid _ := HDz.out.below hb5
              have HB5 : Hid (Below w.heap.size w w5) := HBz.out.trans (hb5.mono HBz.out.size)
              clear hb5 hrd HDz HBz
              go_wp2
              go_roundw
              case rel => exact ⟨j + 1, by omega, by go_num, HD5.out, HB5.out⟩
              case measure => simp [intOf]; omega
          · obtain rfl : j = 32 := by omega
            go_wp2
            go_roundw
            case rel => exact ⟨k + 1, vs', T', F', L', last', by omega, by omega, by go_num, hDz, HG3.out, by omega, by omega, hBz⟩
            case measure => simp [intOf]; omega
    · have gg : (k < len ∧ decide ((k : Int) < (len : Int)) = true ∧ decide ((k : Int) < 100) = false) ∨ (¬ k < len ∧ decide ((k : Int) < (len : Int)) = false) := by
        by_cases hkl : k < len
        · exact Or.inl ⟨hkl, decide_eq_true (by omega), decide_eq_false (by omega)⟩
        · exact Or.inr ⟨hkl, decide_eq_false (by omega)⟩
      have HB : Hid _ := hB
      clear hDu hB hG
      rcases gg with ⟨hkl, g0, g1⟩ | ⟨hkl, g0⟩
      all_goals
        go_wp2_with fail
        refine (Go.Proofs.YtfnafjddajgahaaGreat.awake_at _).mono ?_
        rintro e w7 ⟨rfl, hb7⟩
        go_wp2
        go_ret
        exact ⟨rfl, HB.out.trans (hb7.mono HB.out.size)⟩

theorem own : ownKnob Tryz.prog.godebug = none := by kernel_rfl
theorem laidOut : laidOutB Tryz.prog = true := by kernel_rfl

set_option maxRecDepth 100000 in
theorem guards_lifted (os : Os) (started : os.Started) (H : Type) (enc : TypeId × Value → H) :
    ReturnsInHanded {} Tryz.checked os 4 .any (Rows.exomemGuardsSpec.pre6 enc Tryz.prog Tryz.f4 Rows.exomemGuardsRow.domain false) (Rows.exomemGuardsSpec.post enc Tryz.prog Tryz.f4 false true false false) := by
  refine returnsInHanded_of_change (C := Tryz.checked) own started (by kernel_rfl) Tryz.func4
    (ChangeSpec.witness6 (enc := enc) (C := Tryz.checked) false ⟨#[], #[.slice none 0 0, .int .u64 0], []⟩ 8 (by kernel_rfl) (by kernel_rfl) (by kernel_rfl) (by kernel_rfl)) ?_
  intro W base args ds gs before hval0 hW hcnd _
  have hval : ∀ (j : Nat) t v, Tryz.f4.params[j]? = some t → args[j]? = some v → Value.okWide Tryz.prog W .any base t v := hval0
  have hW' := hW
  obtain ⟨p, q, hA0, hV, rfl, hfz, hnd⟩ := hW
  have hA : DataW.TrodAll enc Tryz.prog W 0 (fun _ => true) true Tryz.f4.params.toList args.toList ds p := hA0
  rw [Tryz.params4] at hA hval
  obtain ⟨v0, vs0, d0, ds0, p0, q0, hargs, rfl, rfl, h0, r0⟩ := trodAll_cons hA
  obtain ⟨v1, vs1, d1, ds1, p1, q1, rfl, rfl, rfl, h1, r1⟩ := trodAll_cons r0
  obtain ⟨rfl, rfl, rfl⟩ := trodAll_nil r1
  obtain rfl : args = #[v0, v1] := by cases args; simp_all
  obtain ⟨rfl, rfl⟩ := trodVars_none hV
  have k0 := h0
  have lt0 : ∀ x ∈ p0, x.block < W.heap.size := by obtain ⟨m, hm⟩ := k0; exact DataW.trod_lt m _ _ _ hm
  obtain ⟨a0, len0, cap0, rfl⟩ := okWide_slice Tryz.underlying22 (hval 0 22 v0 rfl rfl)
  obtain ⟨a1, rfl, rfl, rfl, w1⟩ := open_int Tryz.underlying28 (hval 1 28 v1 rfl rfl) h1
  clear hA0 hval0
  have hdeeds : len0 ≤ 9223372036854775807 ∧ DdsAt W a0 len0 := by
    obtain ⟨fuel, hf⟩ := h0
    obtain ⟨hl, hc⟩ := slice_fits (l := ddCK) Tryz.underlying22 ddKinds (by simp) ddSize (by simpa [Value.cells] using hf)
    exact ⟨hl, dds_of hc⟩
  have hwalk : Calls Tryz.prog 4 #[.slice a0 len0 cap0, .int .u64 a1] W fun e w' => e = .returned (.bool true) ∧ Below W.heap.size W w' := guards_walk a0 len0 cap0 a1 W hdeeds.1 hdeeds.2
  refine hwalk.mono fun e W' ⟨he, bel⟩ => ?_
  subst he
  exact ⟨_, rfl, _, _, _, [], _, [], hW', trodAll_mk1 (shut_bool Tryz.underlying4 _), (trodAll_cons_mk (Below.trod laidOut (by kernel_rfl) (of_decide_eq_true (by kernel_rfl)) k0 bel lt0) (trodAll_cons_mk (shut_int Tryz.underlying28 w1) trodAll_mk0)), rfl, bel.frame _, fun h => by cases h⟩

theorem guards_holds : Rows.ExomemGuardsSaid :=
  OpenClaim.holds_of_wide 4 Tryz.f4 rfl rfl rfl rfl rfl rfl rfl ⟨rfl, rfl, rfl, rfl, rfl⟩ rfl rfl rfl rfl rfl (by kernel_rfl) Tryz.func4 (by kernel_rfl)
    (of_decide_eq_true (by kernel_rfl)) (by unfold Func.isWrapper; first | (rw [if_pos (by decide +kernel)]; kernel_rfl) | (rw [if_neg (by decide +kernel)]; exact ⟨rfl, rfl⟩))
    (fun os started H enc _ => guards_lifted os started H enc)
#print axioms guards_holds
end Go.Proofs.YtfnafjddajgahaaGreat
