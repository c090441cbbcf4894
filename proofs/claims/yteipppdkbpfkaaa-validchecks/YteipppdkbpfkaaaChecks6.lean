/- Proved: januslaw06.ValidChecks answers true for every text and place (whether it is a program that may be run, its depths, whether the place is an entry, are the document's), at the commit of this claim; no condition beyond the form's own. -/
import Derived.Test.YteipppdkbpfkaaaValR
import Derived.ProofKit
import Derived.OpenShut
import Derived.ChangeMaps5
import Derived.ChangeOld
import Derived.Below
namespace Go.Proofs.Yteipppdkbpfkaaa
open Go.ChangeShapes Go.WideShapes Go.ChangeAt Go.RowKit
set_option linter.unusedVariables false

theorem rdepths_yes {s : List UInt8} {l : List Ins} {D : List Int} (hv : Valid s l D) (w : World) :
    Calls Try.prog 10 #[tx s] w fun e w' => (∃ b0 cb, e = .returned (.tuple #[.slice b0 l.length cb, .int .i64 0]) ∧ IRow w' b0 D) ∧ Below w.heap.size w w' := by
  refine (rdepths_at s (by have := hv.size; omega) w).mono ?_
  rintro e w' ⟨h, hb⟩
  refine ⟨?_, hb⟩
  rcases h with ⟨l', D', b0, cb, hv', rfl, h2⟩ | ⟨h, _⟩
  · obtain ⟨rfl, rfl⟩ := hv.unique hv'
    exact ⟨b0, cb, rfl, h2⟩
  · exact absurd hv (h l D)
theorem rdepths_no {s : List UInt8} (hv : Bad s) (hs : s.length ≤ 1000) (w : World) :
    Calls Try.prog 10 #[tx s] w fun e w' => e = .returned (.tuple #[.slice none 0 0, .int .i64 8]) ∧ Below w.heap.size w w' := by
  refine (rdepths_at s hs w).mono ?_
  rintro e w' ⟨h, hb⟩
  refine ⟨?_, hb⟩
  rcases h with ⟨l', D', b0, cb, hv', _⟩ | ⟨_, h⟩
  · exact absurd hv' (hv l' D')
  · exact h
theorem rentry_no {s : List UInt8} (hv : Bad s) (hs : s.length ≤ 1000) (a : Int) (w : World) :
    Calls Try.prog 13 #[tx s, .int .i64 a] w fun e w' => e = .returned (.bool false) ∧ Below w.heap.size w w' := by
  go_enter Try.func13, Try.ntmps13
  go_wp2_with fail
  refine (rdepths_no hv hs w).mono ?_
  rintro e w1 ⟨rfl, hb⟩
  go_wp2
  go_ret
  exact ⟨rfl, hb⟩
theorem rentry_yes {s : List UInt8} {l : List Ins} {D : List Int} (hv : Valid s l D) (a : Int) (ha : -9223372036854775808 ≤ a ∧ a ≤ 9223372036854775807) (w : World) :
    Calls Try.prog 13 #[tx s, .int .i64 a] w fun e w' => e = .returned (.bool (entryB l D a)) ∧ Below w.heap.size w w' := by
  have hlen := hv.lens
  have HE : Hid (entryB l D a = (decide (0 ≤ findP l a) && decide (D.getD (findP l a).toNat (-1) = 0))) := by exact rfl
  generalize entryB l D a = B at *
  have HP : Hid _ := hv.prog
  by_cases hneg : a < 0
  · have hm : findP l a = -1 := findP_miss (fun j x hx => by have := HP.out.inside j x hx; omega)
    have hB : B = false := by rw [HE.out, hm]; rfl
    subst hB
    clear hm
    go_enter Try.func13, Try.ntmps13
    go_wp2_with fail
    refine (rdepths_yes hv w).mono ?_
    rintro e w1 ⟨⟨b0, cb, rfl, _⟩, hb⟩
    go_wp2
    go_ret
    exact ⟨rfl, hb⟩
  · have hwa : IntKind.u64.wrap a = a := by
      have := uwrap_nat a.toNat (by omega)
      rwa [Int.toNat_of_nonneg (by omega)] at this
    go_enter Try.func13, Try.ntmps13
    go_wp2_with fail
    refine (rdepths_yes hv w).mono ?_
    rintro e w1 ⟨⟨b0, cb, rfl, h2⟩, hb⟩
    have H2 : Hid _ := h2
    clear h2
    go_wp2_with fail
    refine (rdecode_yes hv w1).mono ?_
    rintro e w2 ⟨⟨a0, ca, rfl, h1⟩, hb2⟩
    have hfind := rfind_at l a a0 ca w2 h1 (by omega) (fun y hy => by have := HP.out.fine y hy; exact ⟨this.2.2.1, by have := this.2.2.2; omega⟩)
    have hbw2 := hb.trans (hb2.mono hb.size)
    have H3 : Hid _ := IRow.below H2.out hb2
    clear h1 hb2 H2 hb
    rcases findP_cases l a with ⟨hm, _⟩ | ⟨k, i, hk, hki, _, _⟩
    · rw [hm] at hfind
      have hB : B = false := by rw [HE.out, hm]; rfl
      subst hB
      clear hm
      go_wp2_with fail
      refine hfind.mono ?_
      rintro e w3 ⟨rfl, hb3⟩
      go_wp2
      go_ret
      exact ⟨rfl, hbw2.trans (hb3.mono hbw2.size)⟩
    · have hkl := (List.getElem?_eq_some_iff.1 hki).1
      obtain ⟨x, hx⟩ : ∃ x, D[k]? = some x := ⟨D[k]'(by omega), List.getElem?_eq_getElem _⟩
      have hB : B = (x == 0) := by
        rw [HE.out, hk]
        simp [hx]
        by_cases h : x = 0 <;> simp [h]
      rw [hk] at hfind
      have HX : Hid _ := hx
      clear hk hki HE hx
      go_wp2_with fail
      refine hfind.mono ?_
      rintro e w3 ⟨rfl, hb3⟩
      obtain ⟨gb, off, rfl, c0⟩ := (IRow.below H3.out hb3) k x HX.out
      subst hB
      go_wp2
      all_goals
        go_ret
        exact ⟨rfl, hbw2.trans (hb3.mono hbw2.size)⟩

set_option maxRecDepth 100000 in
set_option maxHeartbeats 2000000 in
theorem checks_walk (s : List UInt8) (a : Int) (w : World) (hs : s.length ≤ 9223372036854775807) (ha : -9223372036854775808 ≤ a ∧ a ≤ 9223372036854775807) :
    Calls Try.prog 3 #[tx s, .int .i64 a] w fun e w' => e = .returned (.bool true) ∧ Below w.heap.size w w' := by
  have hsz : (ByteArray.mk s.toArray).size = s.length := by simp [ByteArray.size]
  by_cases hlong : 1000 < s.length
  · have hbad : Bad s := fun l D h => by have := h.size; omega
    have hc := check_no hbad hs w
    go_enter Try.func3, Try.ntmps3
    go_wp2_with fail
    refine hc.mono ?_
    rintro e w1 ⟨rfl, hb1⟩
    go_wp2_with fail
    refine (awake_at _).mono ?_
    rintro e w2 ⟨rfl, hb2⟩
    go_wp2
    go_ret
    exact ⟨rfl, hb1.trans (hb2.mono hb1.size)⟩
  rcases valid_or s with ⟨l, D, hv⟩ | hbad
  · have hlen := hv.lens
    have h1 := depths_yes hv w
    have h2 := fun w => rdepths_yes hv w
    have h3 := fun w => check_yes hv w
    have h4 := fun w => entry_yes hv a w
    have h5 := fun w => rentry_yes hv a ha w
    have hll := hlen.2.2
    have HLL : Hid _ := hll
    clear hv hll
    generalize entryB l D a = B at *
    go_enter Try.func3, Try.ntmps3
    go_wp2_with fail
    refine h1.mono ?_
    rintro e w1 ⟨⟨b0, cb, rfl, hr1⟩, hb1⟩
    have H1 : Hid _ := hr1
    clear hr1 h1
    go_wp2_with fail
    refine (h2 w1).mono ?_
    rintro e w2 ⟨⟨b1, cb1, rfl, hr2⟩, hb2⟩
    have hbw2 := hb1.trans (hb2.mono hb1.size)
    have hints := ints_same D b0 b1 cb cb1 w2 (IRow.below H1.out hb2) hr2 (by omega)
    rw [HLL.out] at hints
    clear H1 hr2 hb2 hb1 h2
    go_wp2_with fail
    refine hints.mono ?_
    rintro e w3 ⟨rfl, hb3⟩
    have hbw3 := hbw2.trans (hb3.mono hbw2.size)
    clear hints hb3 hbw2
    go_wp2_with fail
    refine (h3 w3).mono ?_
    rintro e w4 ⟨rfl, hb4⟩
    have hbw4 := hbw3.trans (hb4.mono hbw3.size)
    clear hb4 hbw3
    go_wp2_with fail
    refine (h4 w4).mono ?_
    rintro e w5 ⟨rfl, hb5⟩
    have hbw5 := hbw4.trans (hb5.mono hbw4.size)
    clear hb5 hbw4
    go_wp2_with fail
    refine (h5 w5).mono ?_
    rintro e w6 ⟨rfl, hb6⟩
    have hbw6 := hbw5.trans (hb6.mono hbw5.size)
    clear hb6 hbw5
    go_wp2_with fail
    refine (awake_at w6).mono ?_
    rintro e w7 ⟨rfl, hb7⟩
    go_wp2
    go_ret
    exact ⟨rfl, hbw6.trans (hb7.mono hbw6.size)⟩
  · have h1 := depths_no hbad hs w
    have h2 := fun w => rdepths_no hbad (by omega) w
    have h3 := fun w => check_no hbad hs w
    have h4 := fun w => entry_no hbad hs a w
    have h5 := fun w => rentry_no hbad (by omega) a w
    have h6 := fun w => ints_same [] none none 0 0 w (fun j x h => by simp at h) (fun j x h => by simp at h) (by simp)
    clear hbad
    go_enter Try.func3, Try.ntmps3
    go_wp2_with fail
    refine h1.mono ?_
    rintro e w1 ⟨rfl, hb1⟩
    go_wp2_with fail
    refine (h2 w1).mono ?_
    rintro e w2 ⟨rfl, hb2⟩
    have hbw2 := hb1.trans (hb2.mono hb1.size)
    clear hb2 hb1 h1 h2
    go_wp2_with fail
    refine (h6 w2).mono ?_
    rintro e w3 ⟨rfl, hb3⟩
    have hbw3 := hbw2.trans (hb3.mono hbw2.size)
    clear hb3 hbw2
    go_wp2_with fail
    refine (h3 w3).mono ?_
    rintro e w4 ⟨rfl, hb4⟩
    have hbw4 := hbw3.trans (hb4.mono hbw3.size)
    clear hb4 hbw3
    go_wp2_with fail
    refine (h4 w4).mono ?_
    rintro e w5 ⟨rfl, hb5⟩
    have hbw5 := hbw4.trans (hb5.mono hbw4.size)
    clear hb5 hbw4
    go_wp2_with fail
    refine (h5 w5).mono ?_
    rintro e w6 ⟨rfl, hb6⟩
    have hbw6 := hbw5.trans (hb6.mono hbw5.size)
    clear hb6 hbw5
    go_wp2_with fail
    refine (awake_at w6).mono ?_
    rintro e w7 ⟨rfl, hb7⟩
    go_wp2
    go_ret
    exact ⟨rfl, hbw6.trans (hb7.mono hbw6.size)⟩
theorem own : ownKnob Try.prog.godebug = none := by kernel_rfl
theorem laidOut : laidOutB Try.prog = true := by kernel_rfl

set_option maxRecDepth 100000 in
theorem checks_lifted (os : Os) (started : os.Started) (H : Type) (enc : TypeId × Value → H) :
    ReturnsInHanded {} Try.checked os 3 .any (Rows.validChecksSpec.pre6 enc Try.prog Try.f3 Rows.validChecksRow.domain false) (Rows.validChecksSpec.post enc Try.prog Try.f3 false true false false) := by
  refine returnsInHanded_of_change (C := Try.checked) own started (by kernel_rfl) Try.func3
    (ChangeSpec.witness6 (enc := enc) (C := Try.checked) false ⟨#[], #[.string ⟨#[]⟩, .int .i64 0], []⟩ 8 (by kernel_rfl) (by kernel_rfl) (by kernel_rfl) (by kernel_rfl)) ?_
  intro W base args ds gs before hval0 hW hcnd _
  have hval : ∀ (j : Nat) t v, Try.f3.params[j]? = some t → args[j]? = some v → Value.okWide Try.prog W .any base t v := hval0
  have hW' := hW
  obtain ⟨p, q, hA0, hV, rfl, hfz, hnd⟩ := hW
  have hA : DataW.TrodAll enc Try.prog W 0 (fun _ => true) true Try.f3.params.toList args.toList ds p := hA0
  rw [Try.params3] at hA hval
  obtain ⟨v0, vs0, d0, ds0, p0, q0, hargs, rfl, rfl, h0, r0⟩ := trodAll_cons hA
  obtain ⟨v1, vs1, d1, ds1, p1, q1, rfl, rfl, rfl, h1, r1⟩ := trodAll_cons r0
  obtain ⟨rfl, rfl, rfl⟩ := trodAll_nil r1
  obtain rfl : args = #[v0, v1] := by cases args; simp_all
  obtain ⟨rfl, rfl⟩ := trodVars_none hV
  obtain ⟨s0, rfl, rfl, rfl, len0⟩ := Go.ChangeMaps.open_string Try.underlying9 (hval 0 9 v0 rfl rfl) h0
  obtain ⟨a1, rfl, rfl, rfl, w1⟩ := open_int Try.underlying3 (hval 1 3 v1 rfl rfl) h1
  clear hA0 hval0
  obtain ⟨s, rfl, hsl⟩ := text_of s0
  have hwalk : Calls Try.prog 3 #[tx s, .int .i64 a1] W fun e w' => e = .returned (.bool true) ∧ Below W.heap.size W w' := checks_walk s a1 W (by unfold maxLen at len0; omega) (bounds_i64 w1)
  refine hwalk.mono fun e W' ⟨he, bel⟩ => ?_
  subst he
  exact ⟨_, rfl, _, _, _, [], _, [], hW', trodAll_mk1 (shut_bool Try.underlying4 _), (trodAll_cons_mk (Go.ChangeMaps.shut_string Try.underlying9 len0) (trodAll_cons_mk (shut_int Try.underlying3 w1) trodAll_mk0)), rfl, bel.frame _, fun h => by cases h⟩

theorem checks_holds : Rows.ValidChecksSaid :=
  OpenClaim.holds_of_wide 3 Try.f3 rfl rfl rfl rfl rfl rfl rfl ⟨rfl, rfl, rfl, rfl, rfl⟩ rfl rfl rfl rfl rfl (by kernel_rfl) Try.func3 (by kernel_rfl)
    (of_decide_eq_true (by kernel_rfl)) (by unfold Func.isWrapper; first | (rw [if_pos (by decide +kernel)]; kernel_rfl) | (rw [if_neg (by decide +kernel)]; exact ⟨rfl, rfl⟩))
    (fun os started H enc _ => checks_lifted os started H enc)
#print axioms checks_holds
end Go.Proofs.Yteipppdkbpfkaaa
