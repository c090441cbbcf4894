/- Proved: januslaw14.BitmapBack answers true for every number of bits and every words (a bitmap that was made of words has these words; of others there is none), at the commit of this claim; no condition beyond the row's own. -/
import Derived.Test.YtahcbehbpadjaaaBitW
import Derived.Test.YtahcbehbpadjaaaBitO
namespace Go.Proofs.Ytahcbehbpadjaaa
open Go.ChangeShapes Go.WideShapes Go.ChangeAt Go.RowKit Go.Lib
set_option linter.unusedVariables false

set_option maxHeartbeats 2000000 in
set_option maxRecDepth 100000 in
theorem back_walk (n : Int) (a : Option Addr) (cap : Nat) (ws : List Nat) (w : World) (hlen : ws.length ≤ 9223372036854775807) (h : NRd w (.slice a ws.length cap) ws) (hlt : ∀ x ∈ ws, x < 18446744073709551616) :
    Calls Try.prog 4 #[.int .i64 n, .slice a ws.length cap] w fun e w' => e = .returned (.bool true) ∧ Below w.heap.size w w' := by
  have H : Hid (NRd w (.slice a ws.length cap) ws) := h
  have HT : Hid _ := hlt
  clear h hlt
  by_cases hb : 100 < ws.length
  · have g0 : decide (100 < (ws.length : Int)) = true := decide_eq_true (by omega)
    clear H HT
    generalize ws.length = L at *
    go_enter Try.func4, Try.ntmps4
    go_wp2_with fail
    refine (awake_at _).mono ?_
    rintro e w1 ⟨rfl, hb1⟩
    go_wp2
    go_ret
    exact ⟨rfl, hb1⟩
  · have g0 : decide (100 < (ws.length : Int)) = false := decide_eq_false (by omega)
    have hO := of_at n ws _ w H.out HT.out (by omega)
    obtain ⟨L, hL⟩ : ∃ L, L = ws.length := ⟨_, rfl⟩
    have HL : Hid (L = ws.length) := hL
    rw [← hL] at g0 hb hlen hO ⊢
    clear hL
    go_enter Try.func4, Try.ntmps4
    go_wp2_with fail
    refine hO.mono ?_
    rintro e w1 ⟨p, r, rfl, hb1, hr⟩
    have Hb1 : Hid (Below w.heap.size w w1) := hb1
    have HN1 : Hid (NRd w1 (.slice a L cap) ws) := by rw [HL.out]; exact NRd.below H.out hb1
    have hR := rof_at n ws _ w1 HN1.out HT.out (by have := HL.out; omega)
    clear hb1 hO
    rcases hr with ⟨rfl, hok, b, g, rfl, hbb, hgg, hBm⟩ | ⟨rfl, hno, rfl⟩
    · have HO : Hid (ofOK n ws) := hok
      have HB : Hid (BmAt w1 b g n.toNat ws) := hBm
      have hpe := ptr_eq b
      clear hBm hok
      go_wp2_with fail
      refine hR.mono ?_
      rintro e w2 ⟨p2, r2, rfl, hb2, hr2⟩
      obtain ⟨rfl, -⟩ := hr2.resolve_right (fun k => k.2 HO.out)
      have Hb2 : Hid (Below w.heap.size w w2) := Hb1.out.trans (hb2.mono Hb1.out.size)
      have HB2 : Hid (BmAt w2 b g n.toNat ws) := BmAt.below HB.out hb2
      have HN2 : Hid (NRd w2 (.slice a L cap) ws) := NRd.below HN1.out hb2
      have hWd := words_at b g n.toNat ws w2 HB2.out
      clear hr2 hb2 hR HB Hb1 HN1
      go_wp2_with fail
      refine hWd.mono ?_
      rintro e w3 ⟨v3, rfl, hn3, hb3⟩
      obtain ⟨a3, c3, rfl⟩ := hn3.is
      have Hb3 : Hid (Below w.heap.size w w3) := Hb2.out.trans (hb3.mono Hb2.out.size)
      have HB3 : Hid (BmAt w3 b g n.toNat ws) := BmAt.below HB2.out hb3
      have hS := words_same _ _ ws w3 hn3 (NRd.below HN2.out hb3) (by have := HL.out; omega)
      rw [← HL.out] at hS ⊢
      clear hn3 hb3 hWd HN2 HB2 Hb2
      go_wp2_with fail
      refine hS.mono ?_
      rintro e w4 ⟨rfl, hq⟩
      have hb4 := drewN_below hq
      have Hb4 : Hid (Below w.heap.size w w4) := Hb3.out.trans (hb4.mono Hb3.out.size)
      have hLn := len_at b g n.toNat ws w4 (BmAt.below HB3.out hb4)
      have hnn : ((n.toNat : Nat) : Int) = n := by have := HO.out.1; omega
      rw [hnn] at hLn
      clear hq hb4 hS HB3 Hb3 hnn
      go_wp2_with fail
      refine hLn.mono ?_
      rintro e w5 ⟨rfl, hw⟩
      rw [hw]
      clear hw w5 hLn
      go_wp2_with fail
      refine (awake_at _).mono ?_
      rintro e w6 ⟨rfl, hb6⟩
      go_wp2
      go_ret
      exact ⟨rfl, Hb4.out.trans (hb6.mono Hb4.out.size)⟩
    · have HO : Hid (¬ ofOK n ws) := hno
      clear hno
      go_wp2_with fail
      refine hR.mono ?_
      rintro e w2 ⟨p2, r2, rfl, hb2, hr2⟩
      obtain ⟨rfl, -⟩ := hr2.resolve_left (fun k => HO.out k.2)
      have Hb2 : Hid (Below w.heap.size w w2) := Hb1.out.trans (hb2.mono Hb1.out.size)
      clear hr2 hb2 hR Hb1 HN1
      go_wp2_with fail
      refine (awake_at _).mono ?_
      rintro e w6 ⟨rfl, hb6⟩
      go_wp2
      go_ret
      exact ⟨rfl, Hb2.out.trans (hb6.mono Hb2.out.size)⟩

theorem own : ownKnob Try.prog.godebug = none := by kernel_rfl
theorem laidOut : laidOutB Try.prog = true := by kernel_rfl

set_option maxRecDepth 100000 in
theorem back_lifted (os : Os) (started : os.Started) (H : Type) (enc : TypeId × Value → H) :
    ReturnsInHanded {} Try.checked os 4 .any (Rows.bitmapBackSpec.pre6 enc Try.prog Try.f4 Rows.bitmapBackRow.domain false) (Rows.bitmapBackSpec.post enc Try.prog Try.f4 false true false false) := by
  refine returnsInHanded_of_change (C := Try.checked) own started (by kernel_rfl) Try.func4
    (ChangeSpec.witness6 (enc := enc) (C := Try.checked) false ⟨#[], #[.int .i64 0, .slice none 0 0], []⟩ 8 (by kernel_rfl) (by kernel_rfl) (by kernel_rfl) (by kernel_rfl)) ?_
  intro W base args ds gs before hval0 hW hcnd _
  have hval : ∀ (j : Nat) t v, Try.f4.params[j]? = some t → args[j]? = some v → Value.okWide Try.prog W .any base t v := hval0
  have hW' := hW
  obtain ⟨p, q, hA0, hV, rfl, hfz, hnd⟩ := hW
  have hA : DataW.TrodAll enc Try.prog W 0 (fun _ => true) true Try.f4.params.toList args.toList ds p := hA0
  rw [Try.params4] at hA hval
  obtain ⟨v0, vs0, d0, ds0, p0, q0, hargs, rfl, rfl, h0, r0⟩ := trodAll_cons hA
  obtain ⟨v1, vs1, d1, ds1, p1, q1, rfl, rfl, rfl, h1, r1⟩ := trodAll_cons r0
  obtain ⟨rfl, rfl, rfl⟩ := trodAll_nil r1
  obtain rfl : args = #[v0, v1] := by cases args; simp_all
  obtain ⟨rfl, rfl⟩ := trodVars_none hV
  obtain ⟨a0, rfl, rfl, rfl, w0⟩ := open_int Try.underlying3 (hval 0 3 v0 rfl rfl) h0
  have k1 := h1
  have lt1 : ∀ x ∈ p1, x.block < W.heap.size := by obtain ⟨m, hm⟩ := k1; exact DataW.trod_lt m _ _ _ hm
  obtain ⟨a1, len1, cap1, rfl⟩ := okWide_slice Try.underlying38 (hval 1 38 v1 rfl rfl)
  clear hA0 hval0
  have hwalk : Calls Try.prog 4 #[.int .i64 a0, .slice a1 len1 cap1] W fun e w' => e = .returned (.bool true) ∧ Below W.heap.size W w' := by
    obtain ⟨fuel, hf⟩ := h1
    obtain ⟨hl, ws, rfl, hn, hlt⟩ := words_in (by simpa [Value.cells] using hf)
    exact back_walk a0 a1 cap1 ws W hl hn hlt
  refine hwalk.mono fun e W' ⟨he, bel⟩ => ?_
  subst he
  exact ⟨_, rfl, _, _, _, [], _, [], hW', trodAll_mk1 (shut_bool Try.underlying4 _), (trodAll_cons_mk (shut_int Try.underlying3 w0) (trodAll_cons_mk (Below.trod laidOut (by kernel_rfl) (of_decide_eq_true (by kernel_rfl)) k1 bel lt1) trodAll_mk0)), rfl, bel.frame _, fun h => by cases h⟩

theorem back_holds : Rows.BitmapBackSaid :=
  OpenClaim.holds_of_wide 4 Try.f4 rfl rfl rfl rfl rfl rfl rfl ⟨rfl, rfl, rfl, rfl, rfl⟩ rfl rfl rfl rfl rfl (by kernel_rfl) Try.func4 (by kernel_rfl)
    (of_decide_eq_true (by kernel_rfl)) (by unfold Func.isWrapper; first | (rw [if_pos (by decide +kernel)]; kernel_rfl) | (rw [if_neg (by decide +kernel)]; exact ⟨rfl, rfl⟩))
    (fun os started H enc _ => back_lifted os started H enc)
#print axioms back_holds
end Go.Proofs.Ytahcbehbpadjaaa
