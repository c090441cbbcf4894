/- Proved: januslaw05.CodeBack answers true for every list of instructions and every text (what was encoded is decoded as it was; what is decoded of a text is encoded as that text), at the commit of this claim; no condition beyond the form's own. -/
import Derived.Test.YtbdmiigicpmhiaaDec5
import Derived.Deep.RegionLaw
import Derived.Deep.DrawnRows
import Derived.ChangeMaps5
import Derived.ChangeOld
import Derived.Below
namespace Go.Proofs.Ytbdmiigicpmhiaa
open Go.ChangeShapes Go.WideShapes Go.ChangeAt Go.RowKit
set_option linter.unusedVariables false

theorem dec_fit (s : List UInt8) (hs : s.length ≤ 9223372036854775807) : ∀ (n k : Nat), s.length - k ≤ n → ∀ l, decAt s k = some l → ∀ i ∈ l, i.Fit
  | n, k, hn, l, h => by
    by_cases hlt : k < s.length
    · cases hb : isIns s k with
      | false => rw [decAt_bad s k hlt hb] at h; cases h
      | true =>
        rw [decAt_step s k hlt hb] at h
        obtain ⟨l', hl', rfl⟩ := Option.map_eq_some_iff.1 h
        match n, hn with
        | 0, hn => omega
        | n + 1, hn =>
          intro i hi
          rcases List.mem_cons.1 hi with rfl | hi
          · exact insAt_fit s k hb hs
          · exact dec_fit s hs n (k + 1 + wAt s k) (by omega) l' hl' i hi
    · rw [decAt_end s k hlt] at h
      cases h
      intro i hi
      cases hi
theorem place_get : ∀ (l : List Ins) (k j : Nat) (i : Ins), l[j]? = some i → (place l k)[j]? = some ⟨i.op, i.arg, ((k + (encs (l.take j)).length : Nat) : Int), 1 + opw i.op⟩
  | [], k, j, i, h => by simp at h
  | x :: l, k, 0, i, h => by
    simp at h
    subst h
    simp [place, encs]
  | x :: l, k, j + 1, i, h => by
    have h' : l[j]? = some i := by simpa using h
    have hr := place_get l (k + 1 + opw x.op) j i h'
    have e : encs ((x :: l).take (j + 1)) = enc1 x ++ encs (l.take j) := rfl
    rw [e, List.length_append, enc1_len]
    have e2 : (place (x :: l) k)[j + 1]? = (place l (k + 1 + opw x.op))[j]? := by simp [place]
    rw [e2, hr]
    congr 2
    omega
/-- The place of the j-th instruction. -/
def posOf (l : List Ins) (j : Nat) : Nat := (encs (l.take j)).length
theorem posOf_succ {l : List Ins} {j : Nat} {i : Ins} (h : l[j]? = some i) : posOf l (j + 1) = posOf l j + (1 + opw i.op) := by
  unfold posOf
  rw [take_snoc h, encs_snoc, List.length_append, enc1_len]
theorem posOf_le (l : List Ins) (j : Nat) (hl : l.length ≤ 2000) : posOf l j ≤ 18000 := by
  have h := encs_len (l.take j)
  have h2 : (l.take j).length ≤ l.length := by simp; omega
  unfold posOf
  omega

set_option maxRecDepth 100000 in
set_option maxHeartbeats 8000000 in
theorem back_walk (l : List Ins) (a0 : Option Addr) (cap : Nat) (s : List UInt8) (w : World) (hrow : Row w a0 l) (hfit : ∀ i ∈ l, i.Fit) (hl : l.length ≤ 9223372036854775807) (hs : s.length ≤ 9223372036854775807) :
    Calls Try.prog 5 #[.slice a0 l.length cap, tx s] w fun e w' => e = .returned (.bool true) ∧ Below w.heap.size w w' := by
  have hst := same_text
  have hsz : (ByteArray.mk s.toArray).size = s.length := by simp [ByteArray.size]
  by_cases hlong : 2000 < l.length
  · clear hrow hfit
    go_enter Try.func5, Try.ntmps5
    go_wp2_with fail
    refine (awake_at w).mono ?_
    rintro e w1 ⟨rfl, hb1⟩
    go_wp2
    go_ret
    exact ⟨rfl, hb1⟩
  by_cases hslong : 2000 < s.length
  · clear hrow hfit
    go_enter Try.func5, Try.ntmps5
    go_wp2_with fail
    refine (awake_at w).mono ?_
    rintro e w1 ⟨rfl, hb1⟩
    go_wp2
    go_ret
    exact ⟨rfl, hb1⟩
  have h1 := encode_at l a0 cap w hrow hfit (by omega)
  have hdec := decode_at s (by omega)
  cases hall : l.all good with
  | false =>
    have e1 : encT l = [] := by unfold encT; rw [hall]; rfl
    have e2 : encE l = 101 := by unfold encE; rw [hall]; rfl
    rw [e1, e2] at h1
    clear hrow hfit e1 e2 hall
    go_enter Try.func5, Try.ntmps5
    go_wp2_with fail
    refine h1.mono ?_
    rintro e w1 ⟨rfl, hb1⟩
    clear h1
    go_wp2_with fail
    refine (hdec w1).mono ?_
    rintro e wd ⟨hd1, hbd⟩
    have hbwd := hb1.trans (hbd.mono hb1.size)
    unfold Decoded at hd1
    cases hd : decAt s 0 with
    | none =>
      rw [hd] at hd1
      obtain rfl := hd1
      clear hd hdec hbd
      go_wp2_with fail
      refine (awake_at _).mono ?_
      rintro e wa ⟨rfl, hba⟩
      go_wp2
      go_ret
      exact ⟨rfl, hbwd.trans (hba.mono hbwd.size)⟩
    | some m =>
      rw [hd] at hd1
      obtain ⟨a2, cap2, rfl, hr2⟩ := hd1
      have hml := dec_len hd
      obtain ⟨hmg, hme⟩ := enc_dec s _ 0 (Nat.le_refl _) (by omega) m hd
      obtain ⟨hmt, hmz⟩ := enc_yes (List.all_eq_true.2 hmg)
      rw [List.drop_zero] at hme
      have hen := encode_at m a2 cap2 wd hr2 (dec_fit s hs _ 0 (Nat.le_refl _) m hd) (by omega)
      rw [hmt, hmz, hme] at hen
      clear hd hdec hbd hr2 hmg hme hmt hmz
      go_wp2_with fail
      refine hen.mono ?_
      rintro e we ⟨rfl, hbe⟩
      have hbwe := hbwd.trans (hbe.mono hbwd.size)
      clear hen hbe
      go_wp2_with fail
      refine (awake_at _).mono ?_
      rintro e wa ⟨rfl, hba⟩
      go_wp2
      go_ret
      exact ⟨rfl, hbwe.trans (hba.mono hbwe.size)⟩
  | true =>
    obtain ⟨e1, e2⟩ := enc_yes hall
    rw [e1, e2] at h1
    have hdl : decAt (encs l) 0 = some (place l 0) := by
      have := dec_enc l [] (fun i hi => ⟨List.all_eq_true.1 hall i hi, (hfit i hi).2.1.1⟩)
      simpa using this
    have hle := encs_len l
    have hd1 := decode_at (encs l) (by omega)
    have hpl := place_len l 0
    have hszl : (ByteArray.mk (encs l).toArray).size = (encs l).length := by simp [ByteArray.size]
    have HR : Hid _ := hrow
    have HP : Hid _ := place_get l 0
    have HE : Hid ((encs l).length = posOf l l.length) := by show _ = _; unfold posOf; rw [List.take_length]
    have HDL : Hid _ := hdl
    clear hrow hfit e1 e2 hall hdl
    go_enter Try.func5, Try.ntmps5
    go_wp2_with fail
    refine h1.mono ?_
    rintro e w1 ⟨rfl, hb1⟩
    clear h1
    go_wp2_with fail
    refine (hd1 w1).mono ?_
    rintro e w2 ⟨hq, hb2⟩
    unfold Decoded at hq
    rw [HDL.out] at hq
    obtain ⟨a1, c1, rfl, hr1⟩ := hq
    rw [hpl]
    have hbw2 := hb1.trans (hb2.mono hb1.size)
    have HM : Hid _ := hr1
    clear hd1 hr1 hb1 hb2
    generalize encs l = T at *
    go_wp2
    go_loopw [9, 10] (fun b c wr => ∃ (j : Nat), j ≤ l.length ∧ b = .int .i64 (posOf l j) ∧ c = .int .i64 j ∧ Below w2.heap.size w2 wr) (fun _ c _ => l.length - (intOf c).toNat)
    case atStart => exact ⟨0, by omega, rfl, rfl, Below.refl _ _⟩
    case round =>
      obtain ⟨j, hj, rfl, rfl, hb⟩ := hrel
      have hpj := posOf_le l j (by omega)
      by_cases hlt : j < l.length
      · obtain ⟨i, hki⟩ : ∃ i, l[j]? = some i := ⟨l[j], List.getElem?_eq_getElem hlt⟩
        obtain ⟨ga, oa, ea, c0, c1', c2, c3⟩ := (Row.below HR.out (hbw2.trans (hb.mono hbw2.size))) j i hki
        have hp := HP.out j i hki
        rw [Nat.zero_add] at hp
        obtain ⟨gb, ob, eb, d0, d1, d2, d3⟩ := (Row.below HM.out hb) j _ hp
        subst ea
        subst eb
        have HS : Hid _ := posOf_succ hki
        change wr.cell? _ = some (.int .i64 ((posOf l j : Nat) : Int)) at d2
        dsimp only at d0 d1 d3
        have hw8 := opw_le i.op
        clear hki hp
        generalize posOf l j = p at *
        generalize opw i.op = v at *
        go_wp2_with fail
        go_region
        all_goals
          go_wp2
          go_roundw
          case rel =>
            refine ⟨j + 1, by omega, ?_, by go_num, hb.drew⟩
            rw [HS.out]
            congr 1
          case measure => simp [intOf]; omega
      · obtain rfl : j = l.length := by omega
        rw [← HE.out] at *
        have hbwr := hbw2.trans (hb.mono hbw2.size)
        go_wp2_with fail
        refine (hdec wr).mono ?_
        rintro e wd ⟨hd1, hbd⟩
        have hbwd := hbwr.trans (hbd.mono hbwr.size)
        unfold Decoded at hd1
        cases hd : decAt s 0 with
        | none =>
          rw [hd] at hd1
          obtain rfl := hd1
          clear hd hdec hbd
          go_wp2_with fail
          refine (awake_at _).mono ?_
          rintro e wa ⟨rfl, hba⟩
          go_wp2
          go_ret
          exact ⟨rfl, hbwd.trans (hba.mono hbwd.size)⟩
        | some m =>
          rw [hd] at hd1
          obtain ⟨a2, cap2, rfl, hr2⟩ := hd1
          have hml := dec_len hd
          obtain ⟨hmg, hme⟩ := enc_dec s _ 0 (Nat.le_refl _) (by omega) m hd
          obtain ⟨hmt, hmz⟩ := enc_yes (List.all_eq_true.2 hmg)
          rw [List.drop_zero] at hme
          have hen := encode_at m a2 cap2 wd hr2 (dec_fit s hs _ 0 (Nat.le_refl _) m hd) (by omega)
          rw [hmt, hmz, hme] at hen
          clear hd hdec hbd hr2 hmg hme hmt hmz
          go_wp2_with fail
          refine hen.mono ?_
          rintro e we ⟨rfl, hbe⟩
          have hbwe := hbwd.trans (hbe.mono hbwd.size)
          clear hen hbe
          go_wp2_with fail
          refine (awake_at _).mono ?_
          rintro e wa ⟨rfl, hba⟩
          go_wp2
          go_ret
          exact ⟨rfl, hbwe.trans (hba.mono hbwe.size)⟩
theorem own : ownKnob Try.prog.godebug = none := by kernel_rfl
theorem laidOut : laidOutB Try.prog = true := by kernel_rfl

set_option maxRecDepth 100000 in
theorem back_lifted (os : Os) (started : os.Started) (H : Type) (enc : TypeId × Value → H) :
    ReturnsInHanded {} Try.checked os 5 .any (Rows.codeBackSpec.pre6 enc Try.prog Try.f5 Rows.codeBackRow.domain false) (Rows.codeBackSpec.post enc Try.prog Try.f5 false true false false) := by
  refine returnsInHanded_of_change (C := Try.checked) own started (by kernel_rfl) Try.func5
    (ChangeSpec.witness6 (enc := enc) (C := Try.checked) false ⟨#[], #[.slice none 0 0, .string ⟨#[]⟩], []⟩ 8 (by kernel_rfl) (by kernel_rfl) (by kernel_rfl) (by kernel_rfl)) ?_
  intro W base args ds gs before hval0 hW hcnd _
  have hval : ∀ (j : Nat) t v, Try.f5.params[j]? = some t → args[j]? = some v → Value.okWide Try.prog W .any base t v := hval0
  have hW' := hW
  obtain ⟨p, q, hA0, hV, rfl, hfz, hnd⟩ := hW
  have hA : DataW.TrodAll enc Try.prog W 0 (fun _ => true) true Try.f5.params.toList args.toList ds p := hA0
  rw [Try.params5] at hA hval
  obtain ⟨v0, vs0, d0, ds0, p0, q0, hargs, rfl, rfl, h0, r0⟩ := trodAll_cons hA
  obtain ⟨v1, vs1, d1, ds1, p1, q1, rfl, rfl, rfl, h1, r1⟩ := trodAll_cons r0
  obtain ⟨rfl, rfl, rfl⟩ := trodAll_nil r1
  obtain rfl : args = #[v0, v1] := by cases args; simp_all
  obtain ⟨rfl, rfl⟩ := trodVars_none hV
  have k0 := h0
  have lt0 : ∀ x ∈ p0, x.block < W.heap.size := by obtain ⟨m, hm⟩ := k0; exact DataW.trod_lt m _ _ _ hm
  obtain ⟨a0, len0, cap0, rfl⟩ := okWide_slice Try.underlying22 (hval 0 22 v0 rfl rfl)
  obtain ⟨s1, rfl, rfl, rfl, len1⟩ := Go.ChangeMaps.open_string Try.underlying9 (hval 1 9 v1 rfl rfl) h1
  clear hA0 hval0
  obtain ⟨l, hlen, hrow, hfit, hl63⟩ : ∃ l : List Ins, l.length = len0 ∧ Row W a0 l ∧ (∀ i ∈ l, i.Fit) ∧ len0 ≤ 9223372036854775807 := by
    obtain ⟨fuel, hf⟩ := h0
    obtain ⟨hl, hc⟩ := slice_fits (l := [.i .i64, .i .u64, .i .i64, .i .i64]) Try.underlying22 insKinds (by simp) insSize (by simpa [Value.cells] using hf)
    obtain ⟨l, h1, h2, h3⟩ := ins_list hc
    exact ⟨l, h1, h2, h3, hl⟩
  subst hlen
  obtain ⟨s, rfl, hsl⟩ := text_of s1
  have hwalk : Calls Try.prog 5 #[.slice a0 l.length cap0, tx s] W fun e w' => e = .returned (.bool true) ∧ Below W.heap.size W w' := back_walk l a0 cap0 s W hrow hfit hl63 (by unfold maxLen at len1; omega)
  refine hwalk.mono fun e W' ⟨he, bel⟩ => ?_
  subst he
  exact ⟨_, rfl, _, _, _, [], _, [], hW', trodAll_mk1 (shut_bool Try.underlying4 _), (trodAll_cons_mk (Below.trod laidOut (by kernel_rfl) (of_decide_eq_true (by kernel_rfl)) k0 bel lt0) (trodAll_cons_mk (Go.ChangeMaps.shut_string Try.underlying9 len1) trodAll_mk0)), rfl, bel.frame _, fun h => by cases h⟩

theorem back_holds : Rows.CodeBackSaid :=
  OpenClaim.holds_of_wide 5 Try.f5 rfl rfl rfl rfl rfl rfl rfl ⟨rfl, rfl, rfl, rfl, rfl⟩ rfl rfl rfl rfl rfl (by kernel_rfl) Try.func5 (by kernel_rfl)
    (of_decide_eq_true (by kernel_rfl)) (by unfold Func.isWrapper; first | (rw [if_pos (by decide +kernel)]; kernel_rfl) | (rw [if_neg (by decide +kernel)]; exact ⟨rfl, rfl⟩))
    (fun os started H enc _ => back_lifted os started H enc)
#print axioms back_holds
end Go.Proofs.Ytbdmiigicpmhiaa
