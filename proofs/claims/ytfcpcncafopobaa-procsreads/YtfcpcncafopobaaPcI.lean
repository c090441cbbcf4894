/- Package procs: Decode. -/
import Derived.Test.YtfcpcncafopobaaPcH
namespace Go.Proofs.Ytfcpcncafopobaa
open Go.RowKit Go.Lib Go.Maps
set_option linter.unusedVariables false

theorem rdS_no {S : St} {k m a s : Int} (h : rdB m a s = false) : rdS S k m a s = S := by unfold rdS; rw [h, if_neg (by simp)]
theorem rd_next (ws : List Int) {k : Nat} (hk : k < 8) (h : rdAt ws k = true) : rdS (decTo ws k) ((k : Int) + 1) (wd ws (3 * k)) (wd ws (3 * k + 1)) (wd ws (3 * k + 2)) = decTo ws (k + 1) := by
  unfold rdS
  rw [show rdB (wd ws (3 * k)) (wd ws (3 * k + 1)) (wd ws (3 * k + 2)) = true from h, if_pos rfl, ← decS_at ws hk]
  cases e : decS ws ((k : Int) + 1) with
  | none => exact (decTo_none ws hk e).symm
  | some p => exact (decTo_some ws hk e).symm
/-- What Decode answers. -/
def DecR (ws : List Int) (B : Nat) (e : Ending) (w' : World) : Prop :=
  (okW ws = true ∧ e = .returned (.tuple #[ptr B, .int .i64 0]) ∧ PrAt w' B B (decS ws)) ∨ (okW ws = false ∧ e = .returned (.tuple #[.pointer none, .int .i64 101]))
set_option maxRecDepth 100000 in
set_option maxHeartbeats 4000000 in
theorem decode_at (a : Option Addr) (n cap : Nat) (ws : List Int) (w : World) (hr : Rd w a ws) (hn : n = ws.length) (hcap : n ≤ cap) (hw : Words ws) (hn9 : n ≤ 1000000) :
    Calls Try.prog 17 #[.slice a n cap] w fun e w' => DecR ws w.heap.size e w' ∧ Below w.heap.size w w' := by
  by_cases h24 : n = 24
  · subst h24
    have HRd : Hid (Rd w a ws) := hr
    have HWo : Hid (Words ws) := hw
    have HN : Hid (ws.length = 24) := hn.symm
    have hNew := new_at w
    obtain ⟨B, hB⟩ : ∃ B, B = w.heap.size := ⟨_, rfl⟩
    have HBs : Hid (B = w.heap.size) := hB
    rw [← hB] at hNew
    clear hr hw hn hB
    go_enter Try.func17, Try.ntmps17
    go_wp2_with fail
    refine hNew.mono ?_
    rintro e w1 ⟨rfl, hA, hb⟩
    have HA : Hid (PrAt w1 B B (decTo ws 0)) := by
      show PrAt w1 B B (decTo ws 0)
      rw [decTo_0]; exact hA
    have HB1 : Hid (Below w.heap.size w w1) := by rw [← HBs.out]; exact hb
    clear hA hb hNew
    go_wp2
    go_loopw [5] (fun i wr => ∃ k : Nat, k ≤ 8 ∧ i = .int .i64 ((k : Int) + 1) ∧ PrAt wr B B (decTo ws k) ∧ rdK ws k = true ∧ Below w.heap.size w wr) (fun i _ => 9 - (intOf i).toNat)
    case atStart => exact ⟨0, by omega, rfl, HA.out, rfl, HB1.out⟩
    case round =>
      clear HA HB1
      obtain ⟨k, hk, rfl, hA, hrd, hB⟩ := hrel
      have HA : Hid (PrAt wr B B (decTo ws k)) := hA
      have HK : Hid (rdK ws k = true) := hrd
      have HB : Hid (Below w.heap.size w wr) := hB
      by_cases hlt : k < 8
      · have i1 : decide ((k : Int) + 1 ≤ 8) = true := decide_eq_true (by omega)
        have hki : (k : Int) + 1 ≤ 8 := by omega
        obtain ⟨a2, c2, hcut, hc2, hrd2⟩ := cut_wl ws a 24 cap (3 * k) HN.out.symm (by omega) hcap
        have hcut' : ∀ V, (Instr.slice 47 (.slice a 24 cap) (some (.int .i64 ((k : Int) * 3))) none none).run Try.prog V = .ok (.slice a2 (24 - 3 * k) c2) V := by
          intro V
          have := hcut V
          rw [show ((3 * k : Nat) : Int) = (k : Int) * 3 by omega] at this
          exact this
        have hR2 : Rd wr a2 (ws.drop (3 * k)) := (hrd2 w HRd.out).below hB
        have gt : ∀ j, j < 3 → (ws.drop (3 * k))[j]? = some (wd ws (3 * k + j)) := fun j hj => by
          rw [List.getElem?_drop, List.getElem?_eq_getElem (by have := HN.out; omega)]
          unfold wd
          rw [List.getD_eq_getElem?_getD, List.getElem?_eq_getElem (by have := HN.out; omega)]
          rfl
        obtain ⟨g, off, rfl, c0⟩ := hR2 0 _ (gt 0 (by omega))
        obtain ⟨_, _, q1, c1⟩ := hR2 1 _ (gt 1 (by omega))
        obtain ⟨_, _, q2, c2'⟩ := hR2 2 _ (gt 2 (by omega))
        simp only [Option.some.injEq, Addr.mk.injEq, and_true] at q1 q2
        obtain ⟨rfl, rfl⟩ := q1
        obtain ⟨rfl, rfl⟩ := q2
        rw [Nat.add_zero, Nat.add_zero] at c0
        have hRe := read_at B B g off (24 - 3 * k) c2 (decTo ws k) ((k : Int) + 1) _ _ _ wr hA (by omega) (by omega) (decTo_new ws k) (by omega) c0 c1 c2' (wd_word HWo.out _).1 (wd_word HWo.out _).1
        have hw1 : IntKind.i64.wrap (k : Int) = (k : Int) := by simp [IntKind.wrap, IntKind.bits, IntKind.signed]; omega
        have hw2 : IntKind.i64.wrap ((k : Int) * 3) = (k : Int) * 3 := by simp [IntKind.wrap, IntKind.bits, IntKind.signed]; omega
        cases hat : rdAt ws k with
        | true =>
          rw [rd_next ws hlt hat, show rdB (wd ws (3 * k)) (wd ws (3 * k + 1)) (wd ws (3 * k + 2)) = true from hat] at hRe
          have HK2 : Hid (rdK ws (k + 1) = true) := by show (rdK ws k && rdAt ws k) = true; rw [HK.out, hat]; rfl
          clear hA hrd hB hcut hrd2 hR2 gt c0 c1 c2' hat hc2 HA HK
          generalize 24 - 3 * k = nn at *
          go_wp2_with fail
          refine hRe.mono ?_
          rintro e w2 ⟨rfl, hA2, hT2⟩
          have HA2 : Hid (PrAt w2 B B (decTo ws (k + 1))) := hA2
          have HB2 : Hid (Below w.heap.size w w2) := HB.out.trans (hT2.below (by have := HB.out.size; have := HBs.out; omega) |>.mono (by have := HBs.out; omega))
          clear hA2 hT2 hRe
          go_wp2
          go_roundw
          case rel => exact ⟨k + 1, by omega, by go_num, HA2.out, HK2.out, HB2.out⟩
          case measure => simp [intOf]; omega
        | false =>
          rw [show rdB (wd ws (3 * k)) (wd ws (3 * k + 1)) (wd ws (3 * k + 2)) = false from hat] at hRe
          have HE : Hid (okW ws = false) := by
            show okW ws = false
            cases e : okW ws with
            | false => rfl
            | true =>
              unfold okW at e
              rw [Bool.and_eq_true, Bool.and_eq_true] at e
              have := rdK_at e.2.1 hlt
              rw [hat] at this
              cases this
          clear hA hrd hB hcut hrd2 hR2 gt c0 c1 c2' hat hc2 HA HK
          generalize 24 - 3 * k = nn at *
          go_wp2_with fail
          refine hRe.mono ?_
          rintro e w2 ⟨rfl, hA2, hT2⟩
          have HB2 : Hid (Below w.heap.size w w2) := HB.out.trans (hT2.below (by have := HB.out.size; have := HBs.out; omega) |>.mono (by have := HBs.out; omega))
          clear hA2 hT2 hRe
          go_wp2
          go_ret2
          exact ⟨Or.inr ⟨HE.out, rfl⟩, HB2.out⟩
      · have i1 : decide ((k : Int) + 1 ≤ 8) = false := decide_eq_false (by omega)
        have hk8 : k = 8 := by omega
        rw [hk8, decTo_8] at hA
        rw [hk8] at hrd
        have hF := isForest_at B B (decS ws) wr hA
        have HA8 : Hid (PrAt wr B B (decS ws)) := hA
        have HK8 : Hid (rdK ws 8 = true) := hrd
        clear hA hrd hB hk8 HA HK
        cases hf : frB (decS ws) with
        | true =>
          have HE : Hid (okW ws = true) := by
            show okW ws = true
            unfold okW
            rw [decide_eq_true HN.out, HK8.out, hf]
            rfl
          rw [hf] at hF
          clear hf
          go_wp2_with fail
          refine hF.mono ?_
          rintro e w2 ⟨rfl, hb2⟩
          have HA2 : Hid (PrAt w2 B B (decS ws)) := HA8.out.below hb2
          have HB2 : Hid (Below w.heap.size w w2) := HB.out.trans (hb2.mono HB.out.size)
          clear hb2 hF
          go_wp2
          go_ret2
          refine ⟨Or.inl ⟨HE.out, ?_, ?_⟩, HB2.out⟩
          · rw [← HBs.out]; rfl
          · rw [← HBs.out]; exact HA2.out
        | false =>
          have HE : Hid (okW ws = false) := by
            show okW ws = false
            unfold okW
            rw [hf, Bool.and_false, Bool.and_false]
          rw [hf] at hF
          clear hf
          go_wp2_with fail
          refine hF.mono ?_
          rintro e w2 ⟨rfl, hb2⟩
          have HB2 : Hid (Below w.heap.size w w2) := HB.out.trans (hb2.mono HB.out.size)
          clear hb2 hF
          go_wp2
          go_ret2
          exact ⟨Or.inr ⟨HE.out, rfl⟩, HB2.out⟩
  · have g0 : ((n : Int) != 24) = true := by simp; omega
    have HE : Hid (okW ws = false) := by
      show okW ws = false
      unfold okW
      rw [decide_eq_false (by omega)]
      rfl
    clear hr hn hw h24
    go_enter Try.func17, Try.ntmps17
    go_wp2
    go_ret2
    exact ⟨Or.inr ⟨HE.out, rfl⟩, Below.refl _ _⟩
end Go.Proofs.Ytfcpcncafopobaa
