/- Proved: januslaw12.ExodiskGuards answers true for every list of deeds and every number (whatever others do that have no capability for it, a block is what its one holder put), at the commit of this claim; no condition beyond the row's own. -/
import Derived.Test.YtfnafjddajgahaaGuardM12
import Derived.ProofKit
import Derived.OpenShut
import Derived.ChangeOld
import Derived.Below
import Derived.Deep.Slices
namespace Go.Proofs.Ytfnafjddajgahaa
open Go.ChangeShapes Go.WideShapes Go.ChangeAt Go.RowKit Go.Lib Ca
set_option linter.unusedVariables false

set_option maxRecDepth 100000 in
set_option maxHeartbeats 8000000 in
theorem guards_walk (a0' : Option Addr) (len cap : Nat) (v : Int) (w : World) (hlen : len ≤ 9223372036854775807) (hdeeds : Hid (DesAt w a0' len)) :
    Calls Try.prog 5 #[.slice a0' len cap, .int .u64 v] w fun e w' => e = .returned (.bool true) ∧ Below w.heap.size w w' := by
  go_enter Try.func5, Try.ntmps5
  go_wp2_with fail
  refine (xnew_at 6 w (by decide) (by decide)).mono ?_
  rintro x w1 ⟨K0, Y, rfl, hK0, hb1, -, hf1⟩
  have HK1 : Hid (KAt w1 K0 Y 6 0 (V0 6) L0 T0) := hK0
  have HB1 : Hid _ := hb1
  have HF : Hid _ := hf1
  clear hK0 hb1 hf1
  go_wp2_with fail
  refine (rxnew_at 6 w1 (by decide) (by decide)).mono ?_
  rintro x w2 ⟨X, Q, rfl, hR0, hb2, hf2⟩
  have hR2 : RkX w2 X Q 6 0 (V0 6) L0 [] 0 := hR0
  have hK2 := HK1.out.below hb2
  have HFR : Hid (∀ k, RF X Q k → w.heap.size ≤ k) := fun k hk => Nat.le_trans HB1.out.size (hf2 k hk)
  have HB2 : Hid (Below w.heap.size w w2) := HB1.out.trans (hb2.mono HB1.out.size)
  have hD2 : Duo w2 K0 Y X Q 6 0 (V0 6) L0 T0 [] 0 := ⟨hK2, hR2, Rel.zero, by decide, by decide⟩
  have HLk : Hid _ := hD2.lx (by simp) (by decide)
  have h1 := xalloc_at hK2 0 2 1 ⟨by decide, by decide⟩ ⟨by decide, by decide⟩
  obtain ⟨e1, e2, e3⟩ := first_alloc 6 0 (by decide) (by decide) 2 1 (by decide) (by decide) (by decide)
  replace e1 : xallocA T0 6 0 2 1 = 1 := e1
  replace e2 : xallocR T0 6 0 2 1 = 0 := e2
  replace e3 : xallocT T0 6 0 2 1 = T2g := e3
  rw [e1, e2, e3] at h1
  have HD2 : Hid _ := hD2
  have HE : Hid (xallocA T0 6 0 2 1 = 1 ∧ xallocR T0 6 0 2 1 = 0 ∧ xallocT T0 6 0 2 1 = T2g) := ⟨e1, e2, e3⟩
  clear hR0 hb2 hf2 hR2 hK2 hD2 HK1 HB1 e1 e2 e3
  go_wp2_with fail
  refine h1.mono ?_
  rintro x w3 ⟨rfl, hK3, hu3⟩
  have hR3 := HD2.out.other hu3
  have HK3 : Hid _ := hK3
  have HR3 : Hid _ := hR3
  have HB3 : Hid _ := feet_below HB2.out HF.out hu3
  have h3 := rxalloc_at hR3 HLk.out 0 2 1 ⟨by decide, by decide⟩ ⟨by decide, by decide⟩
  rw [HE.out.1, HE.out.2.1, HE.out.2.2] at h3
  clear hK3 hR3 hu3 h1 HB2 HLk HE
  go_wp2_with fail
  refine h3.mono ?_
  rintro x w4 ⟨rfl, ⟨L4, la4, hR4, hr4, hp4, hl4, ht4⟩, hu4⟩
  have hK4 := keepR HK3.out HR3.out hu4
  have HB4 : Hid (Below w.heap.size w w4) := HB3.out.trans (hu4.below HFR.out HB3.out.size)
  have HD4 : Hid (Duo w4 K0 Y X Q 6 0 (V0 6) L0 T2g L4 la4) := ⟨hK4, hR4, hr4, hp4, by decide⟩
  have HLL : Hid (L4.length ≤ 1 ∧ la4 ≤ 1) := ⟨by simpa using hl4, by omega⟩
  clear hR4 hr4 hp4 hl4 ht4 hu4 hK4 h3 HK3 HR3 HB3 HD2
  go_wp2_with fail
  refine (Di.block_row 32 v w4).mono ?_
  rintro x w5 ⟨u5, rfl, hr5, hb5⟩
  have hws := aw_block v
  have HBk : Hid (∀ W : World, Calls Try.prog 29 #[.int .i64 32, .int .u64 v] W fun e w' => ∃ u, e = .returned u ∧ URow W.heap.size w' u (Di.blk v (Di.cnt 32)) ∧ Below W.heap.size W w') := fun W => Di.block_row 32 v W
  generalize Di.blk v (Di.cnt 32) = ws at *
  have hD5 := HD4.out.below hb5
  have h5 := xput_at hD5.ker 0 1 2 ⟨by decide, by decide⟩ hr5
  rw [(gd_put L0 ws hws).1, (gd_put L0 ws hws).2] at h5
  have HL : Hid _ := hws
  have HD5 : Hid _ := hD5
  have HB5 : Hid (Below w.heap.size w w5) := HB4.out.trans (hb5.mono HB4.out.size)
  clear hr5 hb5 hws hD5 HB4 HD4
  go_wp2_with fail
  refine h5.mono ?_
  rintro x w6 ⟨rfl, hK6, hu6⟩
  have HR6 : Hid _ := HD5.out.other hu6
  have HK6 : Hid _ := hK6
  have HB6 : Hid _ := feet_below HB5.out HF.out hu6
  clear hK6 hu6 h5 HB5
  go_wp2_with fail
  refine (HBk.out w6).mono ?_
  rintro x w7 ⟨u7, rfl, hr7, hb7⟩
  have hK7 := HK6.out.below hb7
  have hR7 := HR6.out.below hb7
  have hlk7 : Lx T2g L4 la4 6 := HD5.out.lx (by have := HLL.out.1; omega) (by have := HLL.out.2; omega)
  have h7 := rxput_at hR7 hlk7 0 1 2 ⟨by decide, by decide⟩ hr7
  rw [(gd_put L0 ws HL.out).1, (gd_put L0 ws HL.out).2] at h7
  have HK7 : Hid _ := hK7
  have HR7 : Hid _ := hR7
  have HB7 : Hid (Below w.heap.size w w7) := HB6.out.trans (hb7.mono HB6.out.size)
  clear hK7 hR7 hb7 hr7 hlk7 HK6 HR6 HB6
  go_wp2_with fail
  refine h7.mono ?_
  rintro x w8 ⟨rfl, hR8, hu8⟩
  have HD8 : Hid (Duo w8 K0 Y X Q 6 0 (V0 6) (putL L0 2 ws) T2g L4 la4) := ⟨keepR HK7.out HR7.out hu8, hR8, HD5.out.rel, HD5.out.pos, by decide⟩
  have HB8 : Hid (Below w.heap.size w w8) := HB7.out.trans (hu8.below HFR.out HB7.out.size)
  have HG8 : Hid _ := gd_start ws (V0 6)
  have HBF : Hid (∀ k, BF Y X Q k → w.heap.size ≤ k) := fun k hk => by rcases hk with e | e; exact HF.out k e; exact HFR.out k e
  clear hR8 hu8 h7 HK7 HR7 HB7 HD5 HFR
  generalize putL L0 2 ws = l8 at *
  generalize hv0 : V0 6 = vs8 at *
  clear hv0
  generalize hT2 : T2g = T8 at *
  clear hT2
  go_wp2
  go_loopw [9] (fun s wr => ∃ (k m : Nat) (vs : List Int) (l : Lines) (T : Tab) (L : List Ce) (last : Int), k ≤ 100 ∧ s = .int .i64 k ∧ Duo wr K0 Y X Q 6 m vs l T L last ∧ GI ws 6 T l vs ∧ (L.length ≤ k + 1 ∧ last ≤ k + 1 ∧ m ≤ 7 * k) ∧ Below w.heap.size w wr) (fun s _ => 100 - (intOf s).toNat)
  case atStart => exact ⟨0, 0, vs8, l8, T8, L4, la4, by omega, rfl, HD8.out, HG8.out, ⟨by have := HLL.out.1; omega, by have := HLL.out.2; omega, by omega⟩, HB8.out⟩
  case round =>
    clear HD8 HB8 HG8 HLL
    obtain ⟨k, m, vs1, l1, T1, L, last, hk, rfl, hDu, hG, ⟨hL, hla, hm⟩, hB⟩ := hrel
    by_cases hlt : k < len ∧ k < 100
    · obtain ⟨hkl, hk100⟩ := hlt
      obtain ⟨gb, off, d, rfl, hfit, ⟨e0, e1, e2, e3⟩, e4, e5, e6⟩ := (hdeeds.out.below hB) k hkl
      have hdo := do_at hDu (by omega) (by omega) (by omega) d hfit
      have g0 : decide ((k : Int) < (len : Int)) = true := decide_eq_true (by omega)
      have g1 : decide ((k : Int) < 100) = true := decide_eq_true (by omega)
      have ik : (k : Int) < (len : Int) := by omega
      have ik2 : (k : Int) < 100 := by omega
      by_cases henv : d.env = 0
      · rw [henv] at e1
        have HDu : Hid _ := hDu
        have HB : Hid _ := hB
        have HG : Hid _ := hG
        clear hDu hB hfit hG hdo henv e0 e2 e3 e4 e5 e6
        have hgt := xget_at HDu.out.ker 0 1 2 ⟨by decide, by decide⟩ (by omega)
        rw [HG.out.get.1, HG.out.get.2.1, HG.out.get.2.2] at hgt
        go_wp2_with fail
        refine hgt.mono ?_
        rintro x w6 ⟨v6, rfl, hr6, hK6, hu6⟩
        have HD6 : Hid (Duo w6 K0 Y X Q 6 (m + 1) vs1 l1 T1 L last) := ⟨hK6, (HDu.out.other hu6).mono (by omega), HDu.out.rel, HDu.out.pos, HDu.out.n2⟩
        have HB6 : Hid (Below w.heap.size w w6) := feet_below HB.out HF.out hu6
        have HR6 : Hid (URow _ w6 v6 ws) := hr6
        clear hr6 hK6 hu6 hgt HDu HB
        go_wp2_with fail
        refine (HBk.out w6).mono ?_
        rintro x w7 ⟨u7, rfl, hr7, hb7⟩
        have hvs := Di.words_same _ w6.heap.size v6 u7 ws w7 (URow.keepB HR6.out hb7) hr7 (by rw [HL.out]; omega)
        have HD7 : Hid _ := HD6.out.below hb7
        have HB7 : Hid (Below w.heap.size w w7) := HB6.out.trans (hb7.mono HB6.out.size)
        clear hr7 hb7 HD6 HB6 HR6
        go_wp2_with fail
        refine hvs.mono ?_
        rintro x w8 ⟨rfl, hq8⟩
        have hb8 := Di.drewN_below hq8
        have HD8 : Hid _ := HD7.out.below hb8
        have HB8 : Hid (Below w.heap.size w w8) := HB7.out.trans (hb8.mono HB7.out.size)
        clear hq8 hb8 hvs HD7 HB7
        go_wp2
        go_roundw
        case rel => exact ⟨k + 1, _, _, _, _, _, _, by omega, by go_num, HD8.out, HG.out, ⟨by omega, by omega, by omega⟩, HB8.out⟩
        case measure => simp [intOf]; omega
      · have i8b : (d.env == 0) = false := beq_eq_false_iff_ne.2 henv
        have i8c : (d.env != 0) = true := by simpa using henv
        have HGs : Hid _ := (fun {T' : Tab} {vs' : List Int} {l' : Lines} (hs : Step 6 d.env T1 T' vs1 vs' l1 l') => hG.step henv (by decide) hDu.ker.linv hDu.ker.len hs : ∀ {T' : Tab} {vs' : List Int} {l' : Lines}, Step 6 d.env T1 T' vs1 vs' l1 l' → GI ws 6 T' l' vs')
        have HB0 : Hid _ := hB
        dsimp only [deRow] at hdo
        clear hDu hB hfit hG
        go_wp2_with fail
        refine hdo.mono ?_
        rintro x w3 ⟨b3, rfl, vs2, l2, T2, L2, la2, hD3, hL3, hl3, hu3, hst⟩
        have HG : Hid (GI ws 6 T2 l2 vs2) := HGs.out hst
        have HDu : Hid _ := hD3
        have HB : Hid (Below w.heap.size w w3) := HB0.out.trans (hu3.below HBF.out HB0.out.size)
        clear hD3 hu3 hst hdo e0 e1 e2 e3 e4 e5 e6 henv i8b i8c HGs HB0
        have hgt := xget_at HDu.out.ker 0 1 2 ⟨by decide, by decide⟩ (by omega)
        rw [HG.out.get.1, HG.out.get.2.1, HG.out.get.2.2] at hgt
        go_wp2_with fail
        refine hgt.mono ?_
        rintro x w6 ⟨v6, rfl, hr6, hK6, hu6⟩
        have HD6 : Hid (Duo w6 K0 Y X Q 6 (m + 6 + 1) vs2 l2 T2 L2 la2) := ⟨hK6, (HDu.out.other hu6).mono (by omega), HDu.out.rel, HDu.out.pos, HDu.out.n2⟩
        have HB6 : Hid (Below w.heap.size w w6) := feet_below HB.out HF.out hu6
        have HR6 : Hid (URow _ w6 v6 ws) := hr6
        clear hr6 hK6 hu6 hgt HDu HB
        go_wp2_with fail
        refine (HBk.out w6).mono ?_
        rintro x w7 ⟨u7, rfl, hr7, hb7⟩
        have hvs := Di.words_same _ w6.heap.size v6 u7 ws w7 (URow.keepB HR6.out hb7) hr7 (by rw [HL.out]; omega)
        have HD7 : Hid _ := HD6.out.below hb7
        have HB7 : Hid (Below w.heap.size w w7) := HB6.out.trans (hb7.mono HB6.out.size)
        clear hr7 hb7 HD6 HB6 HR6
        go_wp2_with fail
        refine hvs.mono ?_
        rintro x w8 ⟨rfl, hq8⟩
        have hb8 := Di.drewN_below hq8
        have HD8 : Hid _ := HD7.out.below hb8
        have HB8 : Hid (Below w.heap.size w w8) := HB7.out.trans (hb8.mono HB7.out.size)
        clear hq8 hb8 hvs HD7 HB7
        go_wp2
        go_roundw
        case rel => exact ⟨k + 1, _, _, _, _, _, _, by omega, by go_num, HD8.out, HG.out, ⟨by omega, by omega, by omega⟩, HB8.out⟩
        case measure => simp [intOf]; omega
    · have gg : (k < len ∧ decide ((k : Int) < (len : Int)) = true ∧ decide ((k : Int) < 100) = false) ∨ (¬ k < len ∧ decide ((k : Int) < (len : Int)) = false) := by
        by_cases hkl : k < len
        · exact Or.inl ⟨hkl, decide_eq_true (by omega), decide_eq_false (by omega)⟩
        · exact Or.inr ⟨hkl, decide_eq_false (by omega)⟩
      have hsy := xsync_at hDu.ker (by omega)
      have HW2 : Hid (diskW 6 (syncV l1 vs1 6) 2 = ws) := by
        show _ = _
        have h1 := disk_sync hG.tidy hDu.ker.linv hDu.ker.len 2 (by decide)
        have h2 : diskW 6 (syncV l1 vs1 6) 2 = frameOf (syncV l1 vs1 6) 2 := by
          unfold diskW
          rw [if_pos (by decide)]
          rfl
        rw [h2, h1, hG.look]
      have HB : Hid _ := hB
      clear hDu hB hG
      rcases gg with ⟨hkl, g0, g1⟩ | ⟨hkl, g0⟩
      all_goals
        go_wp2_with fail
        refine hsy.mono ?_
        rintro x w3 ⟨rfl, hK3, hu3⟩
        have hdk := xdisk_at hK3 2 (by omega)
        rw [HW2.out] at hdk
        have HB3 : Hid (Below w.heap.size w w3) := feet_below HB.out HF.out hu3
        clear hK3 hu3 hsy
        go_wp2_with fail
        refine hdk.mono ?_
        rintro x w4 ⟨v4, rfl, hr4, hK4, hu4⟩
        have HB4 : Hid (Below w.heap.size w w4) := feet_below HB3.out HF.out hu4
        have HR4 : Hid (URow w3.heap.size w4 v4 ws) := hr4
        clear hK4 hu4 hdk hr4 HB3
        go_wp2_with fail
        refine (HBk.out w4).mono ?_
        rintro x w5 ⟨u5, rfl, hr5, hb5⟩
        have hvs := Di.words_same w3.heap.size w4.heap.size v4 u5 ws w5 (URow.keepB HR4.out hb5) hr5 (by rw [HL.out]; omega)
        have HB5 : Hid (Below w.heap.size w w5) := HB4.out.trans (hb5.mono HB4.out.size)
        clear hr5 hb5 HB4 HR4
        go_wp2_with fail
        refine hvs.mono ?_
        rintro x w6 ⟨rfl, hq6⟩
        have hb6 := Di.drewN_below hq6
        have HB6 : Hid (Below w.heap.size w w6) := HB5.out.trans (hb6.mono HB5.out.size)
        clear hq6 hb6 hvs HB5
        go_wp2_with fail
        refine (Go.Proofs.Ytfnafjddajgahaa.awake_at _).mono ?_
        rintro x w7 ⟨rfl, hb7⟩
        go_wp2
        go_ret
        exact ⟨rfl, HB6.out.trans (hb7.mono HB6.out.size)⟩

theorem own : ownKnob Try.prog.godebug = none := by kernel_rfl
theorem laidOut : laidOutB Try.prog = true := by kernel_rfl

set_option maxRecDepth 100000 in
theorem guards_lifted (os : Os) (started : os.Started) (H : Type) (enc : TypeId × Value → H) :
    ReturnsInHanded {} Try.checked os 5 .any (Rows.exodiskGuardsSpec.pre6 enc Try.prog Try.f5 Rows.exodiskGuardsRow.domain false) (Rows.exodiskGuardsSpec.post enc Try.prog Try.f5 false true false false) := by
  refine returnsInHanded_of_change (C := Try.checked) own started (by kernel_rfl) Try.func5
    (ChangeSpec.witness6 (enc := enc) (C := Try.checked) false ⟨#[], #[.slice none 0 0, .int .u64 0], []⟩ 8 (by kernel_rfl) (by kernel_rfl) (by kernel_rfl) (by kernel_rfl)) ?_
  intro W base args ds gs before hval0 hW hcnd _
  have hval : ∀ (j : Nat) t v, Try.f5.params[j]? = some t → args[j]? = some v → Value.okWide Try.prog W .any base t v := hval0
  have hW' := hW
  obtain ⟨p, q, hA0, hV, rfl, hfz, hnd⟩ := hW
  have hA : DataW.TrodAll enc Try.prog W 0 (fun _ => true) true Try.f5.params.toList args.toList ds p := hA0
  rw [Try.params5] at hA hval
  obtain ⟨v0, vs0, d0, ds0, p0, q0, hargs, rfl, rfl, h0, r0⟩ := trodAll_cons hA
  obtain ⟨v1, vs1, d1, ds1, p1, q1, rfl, rfl, rfl, h1, r1⟩ := trodAll_cons r0
  obtain ⟨rfl, rfl, rfl⟩ := trodAll_nil r1
  obtain rfl : args = #[v0, v1] := by cases args; simp_all
  obtain ⟨rfl, rfl⟩ := trodVars_none hV
  have k0 := h0
  have lt0 : ∀ x ∈ p0, x.block < W.heap.size := by obtain ⟨m, hm⟩ := k0; exact DataW.trod_lt m _ _ _ hm
  obtain ⟨a0, len0, cap0, rfl⟩ := okWide_slice Try.underlying49 (hval 0 49 v0 rfl rfl)
  obtain ⟨a1, rfl, rfl, rfl, w1⟩ := open_int Try.underlying22 (hval 1 22 v1 rfl rfl) h1
  clear hA0 hval0
  have hdeeds : len0 ≤ 9223372036854775807 ∧ DesAt W a0 len0 := by
    obtain ⟨fuel, hf⟩ := h0
    obtain ⟨hl, hc⟩ := slice_fits (l := deCK) Try.underlying49 deKinds (by simp) deSize (by simpa [Value.cells] using hf)
    exact ⟨hl, des_of hc⟩
  have hwalk : Calls Try.prog 5 #[.slice a0 len0 cap0, .int .u64 a1] W fun e w' => e = .returned (.bool true) ∧ Below W.heap.size W w' := guards_walk a0 len0 cap0 a1 W hdeeds.1 hdeeds.2
  refine hwalk.mono fun e W' ⟨he, bel⟩ => ?_
  subst he
  exact ⟨_, rfl, _, _, _, [], _, [], hW', trodAll_mk1 (shut_bool Try.underlying4 _), (trodAll_cons_mk (Below.trod laidOut (by kernel_rfl) (of_decide_eq_true (by kernel_rfl)) k0 bel lt0) (trodAll_cons_mk (shut_int Try.underlying22 w1) trodAll_mk0)), rfl, bel.frame _, fun h => by cases h⟩

theorem guards_holds : Rows.ExodiskGuardsSaid :=
  OpenClaim.holds_of_wide 5 Try.f5 rfl rfl rfl rfl rfl rfl rfl ⟨rfl, rfl, rfl, rfl, rfl⟩ rfl rfl rfl rfl rfl (by kernel_rfl) Try.func5 (by kernel_rfl)
    (of_decide_eq_true (by kernel_rfl)) (by unfold Func.isWrapper; first | (rw [if_pos (by decide +kernel)]; kernel_rfl) | (rw [if_neg (by decide +kernel)]; exact ⟨rfl, rfl⟩))
    (fun os started H enc _ => guards_lifted os started H enc)
#print axioms guards_holds
end Go.Proofs.Ytfnafjddajgahaa
