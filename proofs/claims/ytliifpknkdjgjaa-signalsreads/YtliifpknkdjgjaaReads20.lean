/- Proved: januslaw20.SignalsReads answers true for all words (they are read as signals, or the error is told, as the reference does; what is read is written again), at the commit of this claim; no condition beyond the row's own. -/
import Derived.Test.YtliifpknkdjgjaaRsG
namespace Go.Proofs.Ytliifpknkdjgjaa
open Go.ChangeShapes Go.WideShapes Go.ChangeAt Go.RowKit Go.Lib
set_option linter.unusedVariables false

set_option maxRecDepth 100000 in
set_option maxHeartbeats 4000000 in
theorem reads_walk (a0 : Option Addr) (len cap : Nat) (D : List Int) (w : World) (hlen : len ≤ 9223372036854775807) (hcap : len ≤ cap) (hl : len = D.length) (hr : Rd w a0 D) (hu : U64 D) :
    Calls Try.prog 4 #[.slice a0 len cap] w fun e w' => e = .returned (.bool true) ∧ Below w.heap.size w w' := by
  by_cases h1 : 2000 < len
  · have g0 : decide (2000 < (len : Int)) = true := decide_eq_true (by omega)
    clear hl hr hu
    go_enter Try.func4, Try.ntmps4
    go_wp2_with fail
    refine (awake_at _).mono ?_
    rintro x w2 ⟨rfl, hb2⟩
    go_wp2
    go_ret
    exact ⟨rfl, hb2⟩
  · have g0 : decide (2000 < (len : Int)) = false := decide_eq_false (by omega)
    have hDe := decode_at a0 len cap D w hr hl hcap hu (by omega)
    have HR : Hid (Rd w a0 D) := hr
    have HU : Hid (U64 D) := hu
    have HL : Hid (len = D.length) := hl
    clear hl hr hu
    go_enter Try.func4, Try.ntmps4
    go_wp2_with fail
    refine hDe.mono ?_
    rintro x w1 ⟨hx1, hx2, hb1⟩
    have HB1 : Hid (Below w.heap.size w w1) := hb1
    have hXd := xdecode_at a0 len cap D w1 (HR.out.below hb1) HL.out hcap HU.out (by omega)
    cases hd : decS D with
    | none =>
      have hx := hx1 hd
      subst hx
      rw [deE_no hd] at hXd
      clear hx1 hx2 hb1 hd hDe
      go_wp2_with fail
      refine hXd.mono ?_
      rintro x w2 ⟨⟨p, rfl⟩, hb2⟩
      have HB2 : Hid (Below w.heap.size w w2) := HB1.out.trans (hb2.mono HB1.out.size)
      clear hb2 hXd HB1
      go_wp2_with fail
      refine (awake_at _).mono ?_
      rintro x w3 ⟨rfl, hb3⟩
      go_wp2
      go_ret
      exact ⟨rfl, HB2.out.trans (hb3.mono HB2.out.size)⟩
    | some S =>
      obtain ⟨hx, hA⟩ := hx2 S hd
      subst hx
      have hE : deE D = 0 := by unfold deE; rw [hd]; rfl
      rw [hE] at hXd
      have HEn : Hid (encS S = D) := (dec_back HU.out hd).1
      have HOk : Hid (SOk S) := (dec_back HU.out hd).2.1
      have HA : Hid (SgAt w1 w.heap.size S) := hA
      obtain ⟨b, hb⟩ : ∃ b, b = w.heap.size := ⟨_, rfl⟩
      rw [← hb] at HA ⊢
      have hne := ptr_eq b 0
      have HBb : Hid (b = w.heap.size) := hb
      clear hx1 hx2 hb1 hd hDe hA hE hb
      go_wp2_with fail
      refine hXd.mono ?_
      rintro x w2 ⟨⟨p, rfl⟩, hb2⟩
      have HB2 : Hid (Below w.heap.size w w2) := HB1.out.trans (hb2.mono HB1.out.size)
      have hEc := encode_at b S w2 (HA.out.below hb2) HOk.out
      rw [HEn.out] at hEc
      clear hb2 hXd HB1
      go_wp2_with fail
      refine hEc.mono ?_
      rintro x w3 ⟨v, rfl, hown, hb3⟩
      have HB3 : Hid (Below w.heap.size w w3) := HB2.out.trans (hb3.mono HB2.out.size)
      obtain ⟨av, cv, rfl, _, hrd⟩ := own_rd hown
      have hWo := words_same D av a0 cv cap w3 hrd (HR.out.below HB3.out) (by rw [← HL.out]; omega)
      rw [← HL.out] at hWo
      rw [← HL.out]
      clear hEc hown hrd hb3 HB2
      go_wp2_with fail
      refine hWo.mono ?_
      rintro x w4 ⟨rfl, hb4⟩
      have HB4 : Hid (Below w.heap.size w w4) := HB3.out.trans (hb4.mono HB3.out.size)
      clear hWo hb4 HB3
      go_wp2_with fail
      refine (awake_at _).mono ?_
      rintro x w5 ⟨rfl, hb5⟩
      go_wp2
      go_ret
      exact ⟨rfl, HB4.out.trans (hb5.mono HB4.out.size)⟩

theorem own : ownKnob Try.prog.godebug = none := by kernel_rfl
theorem laidOut : laidOutB Try.prog = true := by kernel_rfl

set_option maxRecDepth 100000 in
theorem reads_lifted (os : Os) (started : os.Started) (H : Type) (enc : TypeId × Value → H) :
    ReturnsInHanded {} Try.checked os 4 .any (Rows.signalsReadsSpec.pre6 enc Try.prog Try.f4 Rows.signalsReadsRow.domain false) (Rows.signalsReadsSpec.post enc Try.prog Try.f4 false true false false) := by
  refine returnsInHanded_of_change (C := Try.checked) own started (by kernel_rfl) Try.func4
    (ChangeSpec.witness6 (enc := enc) (C := Try.checked) false ⟨#[], #[.slice none 0 0], []⟩ 8 (by kernel_rfl) (by kernel_rfl) (by kernel_rfl) (by kernel_rfl)) ?_
  intro W base args ds gs before hval0 hW hcnd _
  have hval : ∀ (j : Nat) t v, Try.f4.params[j]? = some t → args[j]? = some v → Value.okWide Try.prog W .any base t v := hval0
  have hW' := hW
  obtain ⟨p, q, hA0, hV, rfl, hfz, hnd⟩ := hW
  have hA : DataW.TrodAll enc Try.prog W 0 (fun _ => true) true Try.f4.params.toList args.toList ds p := hA0
  rw [Try.params4] at hA hval
  obtain ⟨v0, vs0, d0, ds0, p0, q0, hargs, rfl, rfl, h0, r0⟩ := trodAll_cons hA
  obtain ⟨rfl, rfl, rfl⟩ := trodAll_nil r0
  obtain rfl : args = #[v0] := by cases args; simp_all
  obtain ⟨rfl, rfl⟩ := trodVars_none hV
  have k0 := h0
  have lt0 : ∀ x ∈ p0, x.block < W.heap.size := by obtain ⟨m, hm⟩ := k0; exact DataW.trod_lt m _ _ _ hm
  obtain ⟨a0, len0, cap0, rfl⟩ := okWide_slice Try.underlying28 (hval 0 28 v0 rfl rfl)
  clear hA0 hval0
  have hin : len0 ≤ 9223372036854775807 ∧ len0 ≤ cap0 ∧ ∃ D : List Int, len0 = D.length ∧ Rd W a0 D ∧ U64 D := by
    obtain ⟨fuel, hf⟩ := h0
    exact words_in (by simpa [Value.cells] using hf)
  obtain ⟨hq1, hq2, D, hq3, hq4, hq5⟩ := hin
  have hwalk : Calls Try.prog 4 #[.slice a0 len0 cap0] W fun e w' => e = .returned (.bool true) ∧ Below W.heap.size W w' := reads_walk a0 len0 cap0 D W hq1 hq2 hq3 hq4 hq5
  refine hwalk.mono fun e W' ⟨he, bel⟩ => ?_
  subst he
  exact ⟨_, rfl, _, _, _, [], _, [], hW', trodAll_mk1 (shut_bool Try.underlying4 _), (trodAll_cons_mk (Below.trod laidOut (by kernel_rfl) (of_decide_eq_true (by kernel_rfl)) k0 bel lt0) trodAll_mk0), rfl, bel.frame _, fun h => by cases h⟩

theorem reads_holds : Rows.SignalsReadsSaid :=
  OpenClaim.holds_of_wide 4 Try.f4 rfl rfl rfl rfl rfl rfl rfl ⟨rfl, rfl, rfl, rfl, rfl⟩ rfl rfl rfl rfl rfl (by kernel_rfl) Try.func4 (by kernel_rfl)
    (of_decide_eq_true (by kernel_rfl)) (by unfold Func.isWrapper; first | (rw [if_pos (by decide +kernel)]; kernel_rfl) | (rw [if_neg (by decide +kernel)]; exact ⟨rfl, rfl⟩))
    (fun os started H enc _ => reads_lifted os started H enc)
#print axioms reads_holds
end Go.Proofs.Ytliifpknkdjgjaa
