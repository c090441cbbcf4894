/- Proved: januslaw08.CapsRevokes answers true for every list of deeds (behind a Revoke of one that all others were made of nobody else has one), at the commit of this claim; no condition beyond the row's own. -/
import Derived.Test.YtfhkdcbhkjkkgaaInvM8
import Derived.ProofKit
import Derived.OpenShut
import Derived.ChangeOld
import Derived.Below
import Derived.Deep.Slices
namespace Go.Proofs.Ytfhkdcbhkjkkgaa
open Go.ChangeShapes Go.WideShapes Go.ChangeAt Go.RowKit Go.Lib
set_option linter.unusedVariables false

/-- Nothing but slot 64 is taken. -/
structure Lone (T : Tab) : Prop where
  top : T 64 = ⟨⟨1, 5, 1, 7⟩, 0, 0⟩
  rest : ∀ j, j < 768 → j ≠ 64 → T j = Hd.no
theorem Lone.sanes {T : Tab} (h : Lone T) : Sanes T := by
  intro j hj
  by_cases e : j = 64
  · rw [e, h.top]
    constructor <;> decide
  · rw [h.rest j hj e]
    exact Sane.no
theorem Lone.get {T : Tab} (h : Lone T) (k : Nat) (hk : k < 64) : (getT T 1 ((k : Int) + 1)).is = decide (k = 0) := by
  have e := getT_nat T 1 k (by omega) hk
  have e2 : getT T 1 ((k : Int) + 1) = (T (1 * 64 + k)).x := e
  rw [e2]
  by_cases hk0 : k = 0
  · subst hk0
    rw [h.top]
    rfl
  · rw [h.rest (1 * 64 + k) (by omega) (by omega)]
    simp [hk0, Cp.is]
theorem Lone.hits {T : Tab} (h : Lone T) (m : Nat) (hm : m < 12) : hasN T m 1 5 0 = decide (m = 1) := by
  by_cases e : m = 1
  · subst e
    rw [show decide (1 = 1) = true from rfl]
    refine hasN_hit (s := 0) (by omega) ?_
    rw [h.top]
    kernel_rfl
  · rw [show decide (m = 1) = false from decide_eq_false e]
    refine hasN_miss (fun s hs => ?_)
    rw [h.rest (m * 64 + s) (by omega) (by omega)]
    simp [hitB, coversB]
theorem Lone.hold {T : Tab} (h : Lone T) : holdTo T 1 5 12 = [1] := by
  have key : (List.range 12).filter (fun m => hasN T m 1 5 0) = (List.range 12).filter (fun m => decide (m = 1)) := by
    refine List.filter_congr (fun m hm => ?_)
    rw [List.mem_range] at hm
    exact h.hits m hm
  unfold holdTo
  rw [key]
  rfl
theorem one_rev (T : Tab) (h : One T) (N : Nat) (hN : (revS T (1, 1) (N + 1)).2.length = N + 1) : Lone (revS T (1, 1) (N + 1)).1 := by
  have he := revEnd T (1, 1) (by decide) (N + 1) hN
  obtain ⟨h1, h2⟩ := h.rev he
  exact ⟨h1, h2⟩
/-- How many of the first m slots are taken. -/
def seen (m : Nat) : Int := if m = 0 then 0 else 1
theorem seen_more {m : Nat} (h : m ≠ 0) : seen (m + 1) = seen m := by simp [seen, h]
theorem One.is {T : Tab} (h : One T) : (getT T 1 1).is = true := by
  have e := getT_nat T 1 0 (by omega) (by omega)
  have e2 : getT T 1 1 = (T (1 * 64 + 0)).x := e
  rw [e2, h.top]
  rfl

set_option maxRecDepth 100000 in
set_option maxHeartbeats 8000000 in
theorem revokes_walk (a0' : Option Addr) (len cap : Nat) (w : World) (hlen : len ≤ 9223372036854775807) (hdeeds : Hid (DeedsAt w a0' len)) :
    Calls Try.prog 5 #[.slice a0' len cap] w fun e w' => e = .returned (.bool true) ∧ Below w.heap.size w w' := by
  go_enter Try.func5, Try.ntmps5
  go_wp2_with fail
  refine (new_at w).mono ?_
  rintro e w1 ⟨rfl, hC, hB, hsz⟩
  obtain ⟨b, hbq⟩ : ∃ b, b = w.heap.size := ⟨_, rfl⟩
  rw [← hbq] at hC ⊢
  have hbb : w.heap.size ≤ b := by omega
  have HC : Hid (CapsAt w1 b a0) := hC
  have HB : Hid (Below w.heap.size w w1) := hB
  have hne : ∀ W, (binOp .eql 23 (.pointer (some ⟨b, 0, none⟩)) (.pointer none)).run Try.prog W = .ok (.bool false) W := fun W => by go_simp
  clear hC hB hsz hbq
  go_wp2_with fail
  refine (frame_at 5 7 w1).mono ?_
  rintro e w2 ⟨rfl, hb2⟩
  have ha := add_at b a0 1 ⟨1, 5, 1, 7⟩ w2 (HC.out.below hb2)
  rw [w_add.1, w_add.2] at ha
  go_wp2_with fail
  refine ha.mono ?_
  rintro e w3 ⟨rfl, hC3, hU3⟩
  have HC3 : Hid (CapsAt w3 b a1) := hC3
  have HB3 : Hid (Below w.heap.size w w3) := upd_below (HB.out.trans (hb2.mono HB.out.size)) hU3 hbb
  clear ha hC3 hU3 hb2 HC HB
  go_wp2
  go_loopw [6] (fun s wr => ∃ (k : Nat) (T : Tab), k ≤ len ∧ k ≤ 150 ∧ s = .int .i64 k ∧ CapsAt wr b T ∧ Hid (One T) ∧ Below w.heap.size w wr) (fun s _ => 150 - (intOf s).toNat)
  case atStart => exact ⟨0, a1, by omega, by omega, rfl, HC3.out, (show Hid _ from One.start), HB3.out⟩
  case round =>
    clear HC3 HB3
    obtain ⟨k, T, hk, hk1, rfl, hC, HN, hB⟩ := hrel
    by_cases hlt : k < len ∧ k < 150
    · obtain ⟨hkl, hk150⟩ := hlt
      obtain ⟨gb, off, d, rfl, hfit, ⟨e0, e1, e2, e3, e4⟩, e5, e6, e7, e8⟩ := (hdeeds.out.below hB) k hkl
      obtain ⟨kd, env, slot, to, r, x0, x1, x2, x3⟩ := d
      dsimp only at *
      have g0 : decide ((k : Int) < (len : Int)) = true := decide_eq_true (by omega)
      have g1 : decide ((k : Int) < 150) = true := decide_eq_true (by omega)
      have ik : (k : Int) < (len : Int) := by omega
      obtain ⟨W, hW⟩ : ∃ W, W = wr.alloc (.cells #[.int .i64 kd, .int .i64 env, .int .i64 slot, .int .i64 to, .int .i64 r, .int .i64 x0, .int .i64 x1, .int .i64 x2, .int .i64 x3] 32) := ⟨_, rfl⟩
      have hbW : Below wr.heap.size wr W := by rw [hW]; exact below_alloc _ _
      have hCW := hC.below hbW
      have HBW : Hid (Below w.heap.size w W) := hB.trans (hbW.mono hB.size)
      have hg := give_at b T env slot to r W hCW
      have hdr := drop_at b T env slot W hCW HN.out.inv.sanes
      have HG : Hid (One (giveT T env slot to r)) := HN.out.give _ _ _ _
      have HD : Hid (env ≠ 1 ∨ slot ≠ 1 → One (dropT T env slot)) := HN.out.drop _ _
      have HCW : Hid _ := hCW
      have HW : Hid _ := hW
      generalize giveA T env slot to r = gA at *
      generalize giveR T env slot to r = gR at *
      generalize giveT T env slot to r = gT at *
      generalize dropB T env slot = dB at *
      generalize dropR T env slot = dR at *
      generalize dropT T env slot = dT at *
      clear hW hbW hC hB hCW
      have kinds : (kd == 1) = true ∨ ((kd == 1) = false ∧ (kd == 2) = false) ∨ ((kd == 1) = false ∧ (kd == 2) = true ∧ (env == 1) = false) ∨ ((kd == 1) = false ∧ (kd == 2) = true ∧ (env == 1) = true ∧ (slot == 1) = false) ∨ ((kd == 1) = false ∧ (kd == 2) = true ∧ (env == 1) = true ∧ (slot == 1) = true) := by
        simp only [beq_iff_eq, beq_eq_false_iff_ne]
        omega
      rcases kinds with t0 | ⟨t0, t1⟩ | ⟨t0, t1, t2⟩ | ⟨t0, t1, t2, t3⟩ | ⟨t0, t1, t2, t3⟩
      · clear hdr
        go_wp2_with fail
        rw [← HW.out]
        refine hg.mono ?_
        rintro e w4 ⟨rfl, hC4, hU4⟩
        have HB4 : Hid _ := upd_below HBW.out hU4 hbb
        clear hg hU4 HD HN HCW HBW HW e0 e1 e2 e3 e4 e5 e6 e7 e8
        go_wp2
        go_roundw
        case rel => exact ⟨k + 1, gT, by omega, by omega, by go_num, hC4, HG, HB4.out⟩
        case measure => simp [intOf]; omega
      · clear hdr hg
        go_wp2
        go_roundw
        case rel => exact ⟨k + 1, T, by omega, by omega, by go_num, by rw [← HW.out]; exact HCW.out, HN, by rw [← HW.out]; exact HBW.out⟩
        case measure => simp [intOf]; omega
      · clear hg
        go_wp2_with fail
        rw [← HW.out]
        refine hdr.mono ?_
        rintro e w4 ⟨rfl, hC4, hU4⟩
        have HB4 : Hid _ := upd_below HBW.out hU4 hbb
        have HD2 : Hid (One dT) := HD.out (Or.inl (by simpa using t2))
        clear hdr hU4 HD HG HN HCW HBW HW e0 e1 e2 e3 e4 e5 e6 e7 e8
        go_wp2
        go_roundw
        case rel => exact ⟨k + 1, dT, by omega, by omega, by go_num, hC4, HD2, HB4.out⟩
        case measure => simp [intOf]; omega
      · obtain rfl : env = 1 := by simpa using t2
        clear hg t2
        go_wp2_with fail
        rw [← HW.out]
        refine hdr.mono ?_
        rintro e w4 ⟨rfl, hC4, hU4⟩
        have HB4 : Hid _ := upd_below HBW.out hU4 hbb
        have HD2 : Hid (One dT) := HD.out (Or.inr (by simpa using t3))
        clear hdr hU4 HD HG HN HCW HBW HW e0 e1 e2 e3 e4 e5 e6 e7 e8
        go_wp2
        go_roundw
        case rel => exact ⟨k + 1, dT, by omega, by omega, by go_num, hC4, HD2, HB4.out⟩
        case measure => simp [intOf]; omega
      · obtain rfl : env = 1 := by simpa using t2
        obtain rfl : slot = 1 := by simpa using t3
        clear hdr hg t2 t3
        go_wp2
        go_roundw
        case rel => exact ⟨k + 1, T, by omega, by omega, by go_num, by rw [← HW.out]; exact HCW.out, HN, by rw [← HW.out]; exact HBW.out⟩
        case measure => simp [intOf]; omega
    · have hrv := revoke_yes b T 1 1 wr hC HN.out.is
      have HL : Hid (∀ N, (revS T (1, 1) (N + 1)).2.length = N + 1 → Lone (revS T (1, 1) (N + 1)).1) := one_rev T HN.out
      have HB : Hid _ := hB
      have gg : (k < len ∧ decide ((k : Int) < (len : Int)) = true ∧ decide ((k : Int) < 150) = false) ∨ (¬ k < len ∧ decide ((k : Int) < (len : Int)) = false) := by
        by_cases hkl : k < len
        · exact Or.inl ⟨hkl, decide_eq_true (by omega), decide_eq_false (by omega)⟩
        · exact Or.inr ⟨hkl, decide_eq_false (by omega)⟩
      clear hC HN hB
      rcases gg with ⟨hkl, g0, g1⟩ | ⟨hkl, g0⟩
      all_goals
        go_wp2_with fail
        refine hrv.mono ?_
        rintro e w4 ⟨N, hN, rfl, hC4, hU4⟩
        have HL4 : Hid _ := HL.out N hN
        generalize (revS T (1, 1) (N + 1)).1 = T4 at *
        have HC4 : Hid (CapsAt w4 b T4) := hC4
        have HB4 : Hid (Below w.heap.size w w4) := upd_below HB.out hU4 hbb
        clear hrv HL HB hC4 hU4 hN
        go_wp2
        go_loopw [10, 11] (fun c s wr => ∃ (m : Nat), m ≤ 64 ∧ s = .int .i64 ((m : Int) + 1) ∧ c = .int .i64 (seen m) ∧ CapsAt wr b T4 ∧ Below w.heap.size w wr) (fun _ s _ => 65 - (intOf s).toNat)
        case atStart => exact ⟨0, by omega, rfl, rfl, HC4.out, HB4.out⟩
        case round =>
          clear HC4 HB4
          obtain ⟨m, hm, rfl, rfl, hC5, hB5⟩ := hrel
          by_cases hm64 : m < 64
          · have gm : decide ((m : Int) + 1 ≤ 64) = true := decide_eq_true (by omega)
            have hgt := get_at b T4 1 ((m : Int) + 1) wr hC5
            rw [Lone.get HL4.out m hm64] at hgt
            have H1 : Hid _ := hC5
            have H3 : Hid _ := hB5
            generalize getT T4 1 ((m : Int) + 1) = x at *
            obtain ⟨y0, y1, y2, y3⟩ := x
            dsimp only [cpRow] at *
            clear hC5 hB5
            go_wp2_with fail
            refine hgt.mono ?_
            rintro e w5 ⟨rfl, hb5⟩
            clear hgt
            have hb6 := hb5.trans ((below_alloc w5 (.cells #[.int .i64 y0, .int .i64 y1, .int .i64 y2, .int .i64 y3] 30)).mono hb5.size)
            have H5 : Hid _ := H1.out.below hb6
            have H6 : Hid _ := H3.out.trans (hb6.mono H3.out.size)
            clear hb5 hb6 H1 H3
            by_cases hm0 : m = 0
            · subst hm0
              rw [show decide ((0 : Nat) = 0) = true from rfl]
              rw [show seen 0 = 0 from rfl]
              go_wp2
              go_roundw
              case rel => exact ⟨1, by omega, by go_num, rfl, H5.out, H6.out⟩
              case measure => simp [intOf]
            · rw [show decide (m = 0) = false from decide_eq_false hm0]
              go_wp2
              go_roundw
              case rel => exact ⟨m + 1, by omega, by go_num, by rw [seen_more hm0], H5.out, H6.out⟩
              case measure => simp [intOf]; omega
          · obtain rfl : m = 64 := by omega
            have hho := holders_at b T4 1 5 wr hC5 (Lone.sanes HL4.out) ⟨by decide, by decide⟩
            rw [Lone.hold HL4.out] at hho
            have H3 : Hid _ := hB5
            clear hC5 hB5
            rw [show seen 64 = 1 from rfl]
            go_wp2_with fail
            refine hho.mono ?_
            rintro e w5 ⟨v, rfl, hown, hb5⟩
            obtain ⟨a, cap2, rfl, hrow⟩ := own_irow (D := [1]) hown
            have HR : Hid _ := hrow
            have H5 : Hid _ := H3.out.trans (hb5.mono H3.out.size)
            clear hho hown hb5 H3 hrow
            go_wp2_with fail
            have hba := below_alloc w5 (.cells #[.int .i64 1] 3)
            refine (ints_same [1] a (some ⟨w5.heap.size, 0, none⟩) cap2 1 _ (IRow.below (D := [1]) HR.out hba) ?_ (by decide)).mono ?_
            · intro j x hj
              refine ⟨_, _, rfl, ?_⟩
              rw [cell_of_heap (heap_alloc_new w5 _), Nat.zero_add]
              have hjl : j < 1 := (List.getElem?_eq_some_iff.1 hj).1
              obtain rfl : j = 0 := by omega
              simp at hj
              subst hj
              rfl
            rintro e w6 ⟨rfl, hb6⟩
            have H6 : Hid _ := H5.out.trans ((hba.trans (hb6.mono hba.size)).mono H5.out.size)
            clear hb6 hba H5
            go_wp2_with fail
            refine (awake_at _).mono ?_
            rintro e w7 ⟨rfl, hb7⟩
            go_wp2
            go_ret
            exact ⟨rfl, H6.out.trans (hb7.mono H6.out.size)⟩

theorem own : ownKnob Try.prog.godebug = none := by kernel_rfl
theorem laidOut : laidOutB Try.prog = true := by kernel_rfl

set_option maxRecDepth 100000 in
theorem revokes_lifted (os : Os) (started : os.Started) (H : Type) (enc : TypeId × Value → H) :
    ReturnsInHanded {} Try.checked os 5 .any (Rows.capsRevokesSpec.pre6 enc Try.prog Try.f5 Rows.capsRevokesRow.domain false) (Rows.capsRevokesSpec.post enc Try.prog Try.f5 false true false false) := by
  refine returnsInHanded_of_change (C := Try.checked) own started (by kernel_rfl) Try.func5
    (ChangeSpec.witness6 (enc := enc) (C := Try.checked) false ⟨#[], #[.slice none 0 0], []⟩ 8 (by kernel_rfl) (by kernel_rfl) (by kernel_rfl) (by kernel_rfl)) ?_
  intro W base args ds gs before hval0 hW hcnd _
  have hval : ∀ (j : Nat) t v, Try.f5.params[j]? = some t → args[j]? = some v → Value.okWide Try.prog W .any base t v := hval0
  have hW' := hW
  obtain ⟨p, q, hA0, hV, rfl, hfz, hnd⟩ := hW
  have hA : DataW.TrodAll enc Try.prog W 0 (fun _ => true) true Try.f5.params.toList args.toList ds p := hA0
  rw [Try.params5] at hA hval
  obtain ⟨v0, vs0, d0, ds0, p0, q0, hargs, rfl, rfl, h0, r0⟩ := trodAll_cons hA
  obtain ⟨rfl, rfl, rfl⟩ := trodAll_nil r0
  obtain rfl : args = #[v0] := by cases args; simp_all
  obtain ⟨rfl, rfl⟩ := trodVars_none hV
  have k0 := h0
  have lt0 : ∀ x ∈ p0, x.block < W.heap.size := by obtain ⟨m, hm⟩ := k0; exact DataW.trod_lt m _ _ _ hm
  obtain ⟨a0, len0, cap0, rfl⟩ := okWide_slice Try.underlying22 (hval 0 22 v0 rfl rfl)
  clear hA0 hval0
  have hdeeds : len0 ≤ 9223372036854775807 ∧ DeedsAt W a0 len0 := by
    obtain ⟨fuel, hf⟩ := h0
    obtain ⟨hl, hc⟩ := slice_fits (l := deedCK) Try.underlying22 deedKinds (by simp) deedSize (by simpa [Value.cells] using hf)
    exact ⟨hl, deeds_of hc⟩
  have hwalk : Calls Try.prog 5 #[.slice a0 len0 cap0] W fun e w' => e = .returned (.bool true) ∧ Below W.heap.size W w' := revokes_walk a0 len0 cap0 W hdeeds.1 hdeeds.2
  refine hwalk.mono fun e W' ⟨he, bel⟩ => ?_
  subst he
  exact ⟨_, rfl, _, _, _, [], _, [], hW', trodAll_mk1 (shut_bool Try.underlying4 _), (trodAll_cons_mk (Below.trod laidOut (by kernel_rfl) (of_decide_eq_true (by kernel_rfl)) k0 bel lt0) trodAll_mk0), rfl, bel.frame _, fun h => by cases h⟩

theorem revokes_holds : Rows.CapsRevokesSaid :=
  OpenClaim.holds_of_wide 5 Try.f5 rfl rfl rfl rfl rfl rfl rfl ⟨rfl, rfl, rfl, rfl, rfl⟩ rfl rfl rfl rfl rfl (by kernel_rfl) Try.func5 (by kernel_rfl)
    (of_decide_eq_true (by kernel_rfl)) (by unfold Func.isWrapper; first | (rw [if_pos (by decide +kernel)]; kernel_rfl) | (rw [if_neg (by decide +kernel)]; exact ⟨rfl, rfl⟩))
    (fun os started H enc _ => revokes_lifted os started H enc)
#print axioms revokes_holds
end Go.Proofs.Ytfhkdcbhkjkkgaa
