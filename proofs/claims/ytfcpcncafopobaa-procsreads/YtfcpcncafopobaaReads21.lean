/- Proved: januslaw21.ProcsReads answers true for every list of words (any words as processes, or the error; what is read is written again), at the commit of this claim; no condition beyond the row's own. -/
import Derived.Test.YtfcpcncafopobaaRqF
namespace Go.Proofs.Ytfcpcncafopobaa
open Go.ChangeShapes Go.WideShapes Go.ChangeAt Go.RowKit Go.Lib Go.Joins
set_option linter.unusedVariables false

theorem nil_procs (W : World) : (binOp .eql 23 (.pointer none) (.pointer none)).run Try.prog W = .ok (.bool true) W := by kernel_rfl
set_option maxRecDepth 100000 in
set_option maxHeartbeats 4000000 in
theorem reads_walk (a : Option Addr) (n cap : Nat) (ws : List Int) (w : World) (hr : Rd w a ws) (hn : n = ws.length) (hcap : n ≤ cap) (hw : Words ws) (hn9 : n ≤ 9223372036854775807) :
    Calls Try.prog 4 #[.slice a n cap] w fun e w' => e = .returned (.bool true) ∧ Below w.heap.size w w' := by
  by_cases hl : 1000 < n
  · have g0 : decide ((1000 : Int) < (n : Int)) = true := decide_eq_true (by omega)
    have hA := awake_at w
    clear hr hn hw hcap
    go_enter Try.func4, Try.ntmps4
    go_wp2_with fail
    refine hA.mono ?_
    rintro e w1 ⟨rfl, hb⟩
    have HB : Hid (Below w.heap.size w w1) := hb
    clear hA hb
    go_wp2
    go_ret
    exact ⟨rfl, HB.out⟩
  · have g0 : decide ((1000 : Int) < (n : Int)) = false := decide_eq_false (by omega)
    have hD := decode_at a n cap ws w hr hn hcap hw (by omega)
    have HRd : Hid (Rd w a ws) := hr
    have HN : Hid (n = ws.length) := hn
    have HWo : Hid (Words ws) := hw
    have hRD := fun W (hb : Below w.heap.size w W) => rdecode_at a n cap ws W (HRd.out.below hb) HN.out hcap HWo.out (by omega)
    clear hr hn hw
    go_enter Try.func4, Try.ntmps4
    go_wp2_with fail
    refine hD.mono ?_
    rintro e w1 ⟨hdr, hb1⟩
    have HB1 : Hid (Below w.heap.size w w1) := hb1
    have hRD1 := hRD w1 hb1
    clear hD hb1 hRD
    rcases hdr with ⟨hok, rfl, hA⟩ | ⟨hok, rfl⟩
    · have HA1 : Hid (PrAt w1 w.heap.size w.heap.size (decS ws)) := hA
      obtain ⟨B, hB⟩ : ∃ B, B = w.heap.size := ⟨_, rfl⟩
      rw [← hB] at HA1 ⊢
      have HBs : Hid (B = w.heap.size) := hB
      have HOk : Hid (okW ws = true) := hok
      have hq := eq_procs B
      clear hA hB hok
      go_wp2_with fail
      refine hRD1.mono ?_
      rintro e w2 ⟨hrr, hb2⟩
      have HB2 : Hid (Below w.heap.size w w2) := HB1.out.trans (hb2.mono HB1.out.size)
      have hA2 := HA1.out.below hb2
      have hE := encode_at B B (decS ws) w2 hA2
      have HEn : Hid (encW (decS ws) = ws) := by
        have h := HOk.out
        unfold okW at h
        rw [Bool.and_eq_true, Bool.and_eq_true, decide_eq_true_eq] at h
        exact enc_dec HWo.out h.1 h.2.1
      rw [HEn.out] at hE
      rcases hrr with ⟨_, c, rfl⟩ | ⟨hno, _⟩
      · clear hRD1 hb2 hA2 HA1
        go_wp2_with fail
        refine hE.mono ?_
        rintro e w3 ⟨v3, rfl, ho3, hb3⟩
        obtain ⟨a3, c3, rfl, _, hr3⟩ := own_rd ho3
        have HB3 : Hid (Below w.heap.size w w3) := HB2.out.trans (hb3.mono HB2.out.size)
        have hWo := words_same ws a3 a c3 cap w3 hr3 (HRd.out.below HB3.out) (by have := HN.out; omega)
        rw [← HN.out] at hWo ⊢
        clear ho3 hb3 hr3 hE
        go_wp2_with fail
        refine hWo.mono ?_
        rintro e w4 ⟨rfl, hb4⟩
        have HB4 : Hid (Below w.heap.size w w4) := HB3.out.trans (hb4.mono HB3.out.size)
        clear hb4 hWo
        go_wp2_with fail
        refine (awake_at _).mono ?_
        rintro e w5 ⟨rfl, hb5⟩
        have HB5 : Hid (Below w.heap.size w w5) := HB4.out.trans (hb5.mono HB4.out.size)
        clear hb5
        go_wp2
        go_ret
        exact ⟨rfl, HB5.out⟩
      · rw [HOk.out] at hno
        cases hno
    · have HOk : Hid (okW ws = false) := hok
      have hq := nil_procs
      clear hok
      go_wp2_with fail
      refine hRD1.mono ?_
      rintro e w2 ⟨hrr, hb2⟩
      have HB2 : Hid (Below w.heap.size w w2) := HB1.out.trans (hb2.mono HB1.out.size)
      rcases hrr with ⟨hyes, _⟩ | ⟨_, rfl⟩
      · rw [HOk.out] at hyes
        cases hyes
      · clear hRD1 hb2
        go_wp2_with fail
        refine (awake_at _).mono ?_
        rintro e w5 ⟨rfl, hb5⟩
        have HB5 : Hid (Below w.heap.size w w5) := HB2.out.trans (hb5.mono HB2.out.size)
        clear hb5
        go_wp2
        go_ret
        exact ⟨rfl, HB5.out⟩

theorem own : ownKnob Try.prog.godebug = none := by kernel_rfl
theorem laidOut : laidOutB Try.prog = true := by kernel_rfl

set_option maxRecDepth 100000 in
theorem reads_lifted (os : Os) (started : os.Started) (H : Type) (enc : TypeId × Value → H) :
    ReturnsInHanded {} Try.checked os 4 .any (Rows.procsReadsSpec.pre6 enc Try.prog Try.f4 Rows.procsReadsRow.domain false) (Rows.procsReadsSpec.post enc Try.prog Try.f4 false true false false) := by
  refine returnsInHanded_of_change (C := Try.checked) own started (by kernel_rfl) Try.func4
    (ChangeSpec.witness6 (enc := enc) (C := Try.checked) false ⟨#[], #[.slice none 0 0], []⟩ 8 (by kernel_rfl) (by kernel_rfl) (by kernel_rfl) (by kernel_rfl)) ?_
  intro W base args ds gs before hval0 hW hcnd _
  have hval : ∀ (j : Nat) t v, Try.f4.params[j]? = some t → args[j]? = some v → Value.okWide Try.prog W .any base t v := hval0
  have hW' := hW
  obtain ⟨p, q, hA0, hV, rfl, hfz, hnd⟩ := hW
  have hA : DataW.TrodAll enc Try.prog W 0 (fun _ => true) true Try.f4.params.toList args.toList ds p := hA0
  rw [Try.params4] at hA hval
  obtain ⟨v0, vs0, d0, ds0, p0, q0, hargs, rfl, rfl, h0, r0⟩ := trodAll_cons hA
  obtain ⟨rfl, rfl, rfl⟩ := trodAll_nil r0
  obtain rfl : args = #[v0] := by cases args; simp_all
  obtain ⟨rfl, rfl⟩ := trodVars_none hV
  have k0 := h0
  have lt0 : ∀ x ∈ p0, x.block < W.heap.size := by obtain ⟨m, hm⟩ := k0; exact DataW.trod_lt m _ _ _ hm
  obtain ⟨a0, len0, cap0, rfl⟩ := okWide_slice Try.underlying47 (hval 0 47 v0 rfl rfl)
  clear hA0 hval0
  have hin : len0 ≤ 9223372036854775807 ∧ len0 ≤ cap0 ∧ ∃ D : List Int, len0 = D.length ∧ Rd W a0 D ∧ Words D := by
    obtain ⟨fuel, hf⟩ := h0
    exact words_in (by simpa [Value.cells] using hf)
  obtain ⟨hle, hcp, D, hD, hR, hU⟩ := hin
  have hwalk : Calls Try.prog 4 #[.slice a0 len0 cap0] W fun e w' => e = .returned (.bool true) ∧ Below W.heap.size W w' := reads_walk a0 len0 cap0 D W hR hD hcp hU hle
  refine hwalk.mono fun e W' ⟨he, bel⟩ => ?_
  subst he
  exact ⟨_, rfl, _, _, _, [], _, [], hW', trodAll_mk1 (shut_bool Try.underlying4 _), (trodAll_cons_mk (Below.trod laidOut (by kernel_rfl) (of_decide_eq_true (by kernel_rfl)) k0 bel lt0) trodAll_mk0), rfl, bel.frame _, fun h => by cases h⟩

theorem reads_holds : Rows.ProcsReadsSaid :=
  OpenClaim.holds_of_wide 4 Try.f4 rfl rfl rfl rfl rfl rfl rfl ⟨rfl, rfl, rfl, rfl, rfl⟩ rfl rfl rfl rfl rfl (by kernel_rfl) Try.func4 (by kernel_rfl)
    (of_decide_eq_true (by kernel_rfl)) (by unfold Func.isWrapper; first | (rw [if_pos (by decide +kernel)]; kernel_rfl) | (rw [if_neg (by decide +kernel)]; exact ⟨rfl, rfl⟩))
    (fun os started H enc _ => reads_lifted os started H enc)
#print axioms reads_holds
end Go.Proofs.Ytfcpcncafopobaa
