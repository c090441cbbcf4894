/- Proved: januslaw06.ValidEntries answers true for every text (just the instructions with depth 0 are entries), at the commit of this claim; no condition beyond the form's own. -/
import Derived.Test.YteipppdkbpfkaaaDec6
import Derived.ProofKit
import Derived.OpenShut
import Derived.ChangeMaps5
import Derived.ChangeOld
import Derived.Below
namespace Go.Proofs.Yteipppdkbpfkaaa
open Go.ChangeShapes Go.WideShapes Go.ChangeAt Go.RowKit
set_option linter.unusedVariables false

theorem entryB_hit {s : List UInt8} {l : List Ins} {D : List Int} (hp : Prog s l) {m : Nat} {y : Ins} {x : Int} (hy : l[m]? = some y) (hx : D[m]? = some x) : entryB l D y.pos = (x == 0) := by
  unfold entryB
  rw [hp.find hy]
  simp [hx]
  by_cases h : x = 0 <;> simp [h]
theorem entryB_miss {l : List Ins} {D : List Int} {a : Int} (h : ∀ (j : Nat) (y : Ins), l[j]? = some y → y.pos ≠ a) : entryB l D a = false := by
  unfold entryB
  rw [findP_miss h]
  rfl
/-- The first m instructions begin ahead of a, the others not. -/
def Cut (l : List Ins) (m a : Nat) : Prop := ∀ (j : Nat) (y : Ins), l[j]? = some y → (j < m → y.pos < a) ∧ (m ≤ j → (a : Int) ≤ y.pos)
theorem Cut.hit {s : List UInt8} {l : List Ins} (hp : Prog s l) {m a : Nat} {y : Ins} (h : Cut l m a) (hy : l[m]? = some y) (e : y.pos = a) : Cut l (m + 1) (a + 1) := by
  intro j z hz
  refine ⟨fun hj => ?_, fun hj => ?_⟩
  · by_cases e2 : j = m
    · subst e2
      rw [hy] at hz
      cases hz
      omega
    · have := (h j z hz).1 (by omega)
      omega
  · have := hp.up m j y z (by omega) hy hz
    omega
theorem Cut.pass {s : List UInt8} {l : List Ins} (hp : Prog s l) {m a : Nat} (h : Cut l m a) (hn : ∀ y, l[m]? = some y → y.pos ≠ a) : Cut l m (a + 1) ∧ ∀ (j : Nat) (y : Ins), l[j]? = some y → y.pos ≠ a := by
  have hall : ∀ (j : Nat) (y : Ins), l[j]? = some y → y.pos ≠ a := by
    intro j z hz
    rcases Nat.lt_trichotomy j m with hj | rfl | hj
    · have := (h j z hz).1 hj
      omega
    · exact hn z hz
    · have hm : m < l.length := by have := (List.getElem?_eq_some_iff.1 hz).1; omega
      have hy : l[m]? = some l[m] := List.getElem?_eq_getElem hm
      have h1 := hp.up m j _ z hj hy hz
      have h2 := (h m _ hy).2 (Nat.le_refl _)
      omega
  refine ⟨fun j z hz => ⟨fun hj => ?_, fun hj => ?_⟩, hall⟩
  · have := (h j z hz).1 hj
    omega
  · have h1 := (h j z hz).2 hj
    have h2 := hall j z hz
    omega

set_option maxRecDepth 100000 in
set_option maxHeartbeats 4000000 in
theorem entries_walk (s : List UInt8) (w : World) (hs : s.length ≤ 9223372036854775807) :
    Calls Try.prog 6 #[tx s] w fun e w' => e = .returned (.bool true) ∧ Below w.heap.size w w' := by
  have hsz : (ByteArray.mk s.toArray).size = s.length := by simp [ByteArray.size]
  rcases valid_or s with ⟨l, D, hv⟩ | hbad
  · have hlen := hv.lens
    have hsl := hv.size
    have HV : Hid _ := hv
    have hdep := depths_yes hv w
    have hrd := fun w => rdecode_yes hv w
    have hen := fun a w => entry_yes hv a w
    have HP : Hid _ := hv.prog
    clear hv
    go_enter Try.func6, Try.ntmps6
    go_wp2_with fail
    refine hdep.mono ?_
    rintro e w1 ⟨⟨b0, cb, rfl, hr1⟩, hb1⟩
    have H1 : Hid _ := hr1
    clear hr1 hdep
    go_wp2_with fail
    refine (hrd w1).mono ?_
    rintro e w2 ⟨⟨a0, ca, rfl, hr2⟩, hb2⟩
    have H2 : Hid _ := And.intro hr2 (IRow.below H1.out hb2)
    have hbw2 := hb1.trans (hb2.mono hb1.size)
    clear hr2 H1 hb2 hb1 hrd
    go_wp2
    go_loopw [7, 8] (fun b c wr => ∃ (m a : Nat), m ≤ l.length ∧ a ≤ s.length ∧ b = .int .i64 m ∧ c = .int .i64 a ∧ Hid (Cut l m a) ∧ Below w2.heap.size w2 wr) (fun _ c _ => s.length - (intOf c).toNat)
    case atStart => exact ⟨0, 0, by omega, by omega, rfl, rfl, (fun j y hy => ⟨fun h => absurd h (Nat.not_lt_zero _), fun _ => (HP.out.inside j y hy).1⟩), Below.refl _ _⟩
    case round =>
      obtain ⟨m, a, hm, ha, rfl, rfl, HC, hb⟩ := hrel
      by_cases hlt : a < s.length
      · have hea := hen a
        by_cases hml : m < l.length
        · obtain ⟨y, hy⟩ : ∃ y, l[m]? = some y := ⟨l[m], List.getElem?_eq_getElem hml⟩
          obtain ⟨x, hx⟩ : ∃ x, D[m]? = some x := ⟨D[m]'(by omega), List.getElem?_eq_getElem _⟩
          obtain ⟨ga, oa, rfl, c0, c1, c2, c3⟩ := (Row.below H2.out.1 hb) m y hy
          obtain ⟨gb, off, rfl, cx⟩ := (IRow.below H2.out.2 hb) m x hx
          by_cases he : y.pos = a
          · have hE := entryB_hit HP.out hy hx
            rw [he] at hE
            rw [hE] at hea
            have HC2 : Hid _ := Cut.hit HP.out HC.out hy he
            have hbe : (y.pos == (a : Int)) = true := by simp [he]
            clear he hE hy hx
            go_wp2_with fail
            refine (hea _).mono ?_
            rintro e w3 ⟨rfl, hb3⟩
            cases hx0 : (x == 0) with
            | true =>
              go_wp2
              go_roundw
              case rel => exact ⟨m + 1, a + 1, by omega, by omega, by go_num, by go_num, HC2, hb.trans (hb3.mono hb.size)⟩
              case measure => simp [intOf]; omega
            | false =>
              go_wp2
              go_roundw
              case rel => exact ⟨m + 1, a + 1, by omega, by omega, by go_num, by go_num, HC2, hb.trans (hb3.mono hb.size)⟩
              case measure => simp [intOf]; omega
          · obtain ⟨hc1, hc2⟩ := Cut.pass HP.out HC.out (fun z hz => by rw [hy] at hz; cases hz; exact he)
            rw [entryB_miss hc2] at hea
            have HC2 : Hid _ := hc1
            have hbe : (y.pos == (a : Int)) = false := by simp [he]
            clear he hy hx hc1 hc2
            go_wp2_with fail
            refine (hea _).mono ?_
            rintro e w3 ⟨rfl, hb3⟩
            go_wp2
            go_roundw
            case rel => exact ⟨m, a + 1, by omega, by omega, rfl, by go_num, HC2, hb.trans (hb3.mono hb.size)⟩
            case measure => simp [intOf]; omega
        · obtain rfl : m = l.length := by omega
          obtain ⟨hc1, hc2⟩ := Cut.pass HP.out HC.out (fun z hz => by have := (List.getElem?_eq_some_iff.1 hz).1; omega)
          rw [entryB_miss hc2] at hea
          have HC2 : Hid _ := hc1
          clear hc1 hc2
          go_wp2_with fail
          refine (hea _).mono ?_
          rintro e w3 ⟨rfl, hb3⟩
          go_wp2
          go_roundw
          case rel => exact ⟨l.length, a + 1, by omega, by omega, rfl, by go_num, HC2, hb.trans (hb3.mono hb.size)⟩
          case measure => simp [intOf]; omega
      · obtain rfl : a = s.length := by omega
        have hm1 := hen (-1)
        have hm2 := hen s.length
        rw [entryB_miss (fun j y hy => by have := HP.out.inside j y hy; omega)] at hm1
        rw [entryB_miss (fun j y hy => by have := HP.out.inside j y hy; omega)] at hm2
        go_wp2_with fail
        refine (hm1 _).mono ?_
        rintro e w3 ⟨rfl, hb3⟩
        have hbw3 := hb.trans (hb3.mono hb.size)
        go_wp2_with fail
        refine (hm2 _).mono ?_
        rintro e w4 ⟨rfl, hb4⟩
        have hbw4 := hbw3.trans (hb4.mono hbw3.size)
        go_wp2_with fail
        refine (awake_at _).mono ?_
        rintro e w5 ⟨rfl, hb5⟩
        have hbw5 := hbw4.trans (hb5.mono hbw4.size)
        go_wp2
        go_ret
        exact ⟨rfl, hbw2.trans (hbw5.mono hbw2.size)⟩
  · have hdep := depths_no hbad hs w
    have hen := entry_no hbad hs 0
    go_enter Try.func6, Try.ntmps6
    go_wp2_with fail
    refine hdep.mono ?_
    rintro e w1 ⟨rfl, hb1⟩
    go_wp2_with fail
    refine (hen w1).mono ?_
    rintro e w2 ⟨rfl, hb2⟩
    have hbw2 := hb1.trans (hb2.mono hb1.size)
    go_wp2_with fail
    refine (awake_at w2).mono ?_
    rintro e w3 ⟨rfl, hb3⟩
    go_wp2
    go_ret
    exact ⟨rfl, hbw2.trans (hb3.mono hbw2.size)⟩
theorem own : ownKnob Try.prog.godebug = none := by kernel_rfl
theorem laidOut : laidOutB Try.prog = true := by kernel_rfl

set_option maxRecDepth 100000 in
theorem entries_lifted (os : Os) (started : os.Started) (H : Type) (enc : TypeId × Value → H) :
    ReturnsInHanded {} Try.checked os 6 .any (Rows.validEntriesSpec.pre6 enc Try.prog Try.f6 Rows.validEntriesRow.domain false) (Rows.validEntriesSpec.post enc Try.prog Try.f6 false true false false) := by
  refine returnsInHanded_of_change (C := Try.checked) own started (by kernel_rfl) Try.func6
    (ChangeSpec.witness6 (enc := enc) (C := Try.checked) false ⟨#[], #[.string ⟨#[]⟩], []⟩ 8 (by kernel_rfl) (by kernel_rfl) (by kernel_rfl) (by kernel_rfl)) ?_
  intro W base args ds gs before hval0 hW hcnd _
  have hval : ∀ (j : Nat) t v, Try.f6.params[j]? = some t → args[j]? = some v → Value.okWide Try.prog W .any base t v := hval0
  have hW' := hW
  obtain ⟨p, q, hA0, hV, rfl, hfz, hnd⟩ := hW
  have hA : DataW.TrodAll enc Try.prog W 0 (fun _ => true) true Try.f6.params.toList args.toList ds p := hA0
  rw [Try.params6] at hA hval
  obtain ⟨v0, vs0, d0, ds0, p0, q0, hargs, rfl, rfl, h0, r0⟩ := trodAll_cons hA
  obtain ⟨rfl, rfl, rfl⟩ := trodAll_nil r0
  obtain rfl : args = #[v0] := by cases args; simp_all
  obtain ⟨rfl, rfl⟩ := trodVars_none hV
  obtain ⟨s0, rfl, rfl, rfl, len0⟩ := Go.ChangeMaps.open_string Try.underlying9 (hval 0 9 v0 rfl rfl) h0
  clear hA0 hval0
  obtain ⟨s, rfl, hsl⟩ := text_of s0
  have hwalk : Calls Try.prog 6 #[tx s] W fun e w' => e = .returned (.bool true) ∧ Below W.heap.size W w' := entries_walk s W (by unfold maxLen at len0; omega)
  refine hwalk.mono fun e W' ⟨he, bel⟩ => ?_
  subst he
  exact ⟨_, rfl, _, _, _, [], _, [], hW', trodAll_mk1 (shut_bool Try.underlying4 _), (trodAll_cons_mk (Go.ChangeMaps.shut_string Try.underlying9 len0) trodAll_mk0), rfl, bel.frame _, fun h => by cases h⟩

theorem entries_holds : Rows.ValidEntriesSaid :=
  OpenClaim.holds_of_wide 6 Try.f6 rfl rfl rfl rfl rfl rfl rfl ⟨rfl, rfl, rfl, rfl, rfl⟩ rfl rfl rfl rfl rfl (by kernel_rfl) Try.func6 (by kernel_rfl)
    (of_decide_eq_true (by kernel_rfl)) (by unfold Func.isWrapper; first | (rw [if_pos (by decide +kernel)]; kernel_rfl) | (rw [if_neg (by decide +kernel)]; exact ⟨rfl, rfl⟩))
    (fun os started H enc _ => entries_lifted os started H enc)
#print axioms entries_holds
end Go.Proofs.Yteipppdkbpfkaaa
