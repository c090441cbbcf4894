/- Proved: januslaw07.VmPieces answers true for every text, machine, memory and fuel (so many steps at once are as many one by one), at the commit of this claim; no condition beyond the statement's own. -/
import Derived.Test.YtedkijionpkmmaaPieces7
import Derived.Test.YtedkijionpkmmaaPiecesN7
import Derived.Test.YtedkijionpkmmaaArgs7
import Derived.ChangeMaps5
namespace Go.Proofs.Ytedkijionpkmmaa
open Go.ChangeShapes Go.WideShapes Go.ChangeAt Go.RowKit Go.Lib Go.Joins
set_option linter.unusedVariables false

theorem pieces_walk (s : List UInt8) (hs : s.length ≤ 9223372036854775807) (pc : Int) (sv : Value) (xs : List Int) (mv : Value) (ms : List Int) (fuel : Int) (w : World) (hsv : URd w sv xs) (hmv : URd w mv ms) (hxs : Wds xs) (hms : Wds ms)
    (hf1 : ∃ a k c, sv = .slice a k c ∧ k = xs.length ∧ k ≤ 9223372036854775807) (hf2 : ∃ a k c, mv = .slice a k c ∧ k = ms.length ∧ k ≤ 9223372036854775807) :
    Calls Try.prog 5 #[tx s, .agg #[.int .i64 pc, sv], .agg #[mv, .int .i64 fuel]] w fun e w' => e = .returned (.bool true) ∧ Below w.heap.size w w' := by
  obtain ⟨a0, k0, c0, rfl, hk0, hl0⟩ := hf1
  obtain ⟨ma, mn, mc, rfl, hmn, hl1⟩ := hf2
  cases hsm : smallB pc k0 with
  | false => exact pieces_no s hs pc a0 k0 c0 hl0 ma mn mc hl1 fuel w (Or.inl hsm)
  | true =>
    by_cases h1 : 2000 < s.length
    · exact pieces_no s hs pc a0 k0 c0 hl0 ma mn mc hl1 fuel w (Or.inr (Or.inl ⟨hsm, h1⟩))
    · by_cases h2 : 500 < mn
      · exact pieces_no s hs pc a0 k0 c0 hl0 ma mn mc hl1 fuel w (Or.inr (Or.inr ⟨hsm, by omega, h2⟩))
      · unfold smallB at hsm
        simp only [Bool.and_eq_true, decide_eq_true_eq] at hsm
        refine pieces_yes s (by omega) pc ⟨hsm.1.2, hsm.2⟩ _ xs.reverse (by simp; omega) _ ms (by omega) fuel w (by rw [List.reverse_reverse]; exact hsv) hmv (fun x hx => hxs x (by simpa using hx)) hms

theorem own : ownKnob Try.prog.godebug = none := by kernel_rfl
theorem laidOut : laidOutB Try.prog = true := by kernel_rfl

set_option maxRecDepth 100000 in
theorem pieces_lifted (os : Os) (started : os.Started) (H : Type) (enc : TypeId × Value → H) :
    ReturnsInHanded {} Try.checked os 5 .any (Rows.vmPiecesSpec.pre6 enc Try.prog Try.f5 Rows.vmPiecesRow.domain false) (Rows.vmPiecesSpec.post enc Try.prog Try.f5 false true false false) := by
  refine returnsInHanded_of_change (C := Try.checked) own started (by kernel_rfl) Try.func5
    (ChangeSpec.witness6 (enc := enc) (C := Try.checked) false ⟨#[], #[.string ⟨#[]⟩, .agg #[.int .i64 0, .slice none 0 0], .agg #[.slice none 0 0, .int .i64 0]], []⟩ 8 (by kernel_rfl) (by kernel_rfl) (by kernel_rfl) (by kernel_rfl)) ?_
  intro W base args ds gs before hval0 hW hcnd _
  have hval : ∀ (j : Nat) t v, Try.f5.params[j]? = some t → args[j]? = some v → Value.okWide Try.prog W .any base t v := hval0
  have hW' := hW
  obtain ⟨p, q, hA0, hV, rfl, hfz, hnd⟩ := hW
  have hA : DataW.TrodAll enc Try.prog W 0 (fun _ => true) true Try.f5.params.toList args.toList ds p := hA0
  rw [Try.params5] at hA hval
  obtain ⟨v0, vs0, d0, ds0, p0, q0, hargs, rfl, rfl, h0, r0⟩ := trodAll_cons hA
  obtain ⟨v1, vs1, d1, ds1, p1, q1, rfl, rfl, rfl, h1, r1⟩ := trodAll_cons r0
  obtain ⟨v2, vs2, d2, ds2, p2, q2, rfl, rfl, rfl, h2, r2⟩ := trodAll_cons r1
  obtain ⟨rfl, rfl, rfl⟩ := trodAll_nil r2
  obtain rfl : args = #[v0, v1, v2] := by cases args; simp_all
  obtain ⟨rfl, rfl⟩ := trodVars_none hV
  obtain ⟨s0, rfl, rfl, rfl, len0⟩ := Go.ChangeMaps.open_string Try.underlying9 (hval 0 9 v0 rfl rfl) h0
  have k1 := h1
  have lt1 : ∀ x ∈ p1, x.block < W.heap.size := by obtain ⟨m, hm⟩ := k1; exact DataW.trod_lt m _ _ _ hm
  have k2 := h2
  have lt2 : ∀ x ∈ p2, x.block < W.heap.size := by obtain ⟨m, hm⟩ := k2; exact DataW.trod_lt m _ _ _ hm
  clear hA0 hval0
  obtain ⟨c0, c1, y0, y1, m, rfl, rfl, rfl, hy0, hy1⟩ := open_agg2 Try.underlying24 (by kernel_rfl) (by kernel_rfl) (hval 1 24 v1 rfl rfl) h1
  obtain ⟨e0, e1, z0, z1, m2, rfl, rfl, rfl, hz0, hz1⟩ := open_agg2 Try.underlying51 (by kernel_rfl) (by kernel_rfl) (hval 2 51 v2 rfl rfl) h2
  obtain ⟨pc, rfl, _⟩ := int_in hy0
  obtain ⟨xs, hx1, hx2, hx3⟩ := words_in hy1
  obtain ⟨ms, hm1, hm2, hm3⟩ := words_in hz0
  obtain ⟨fuel, rfl, _⟩ := int_in hz1
  obtain ⟨l, rfl, hl⟩ := text_in s0
  have hl9 : l.length ≤ 9223372036854775807 := by unfold maxLen at len0; omega
  have hwalk : Calls Try.prog 5 #[tx l, .agg #[.int .i64 pc, c1], .agg #[e0, .int .i64 fuel]] W fun e w' => e = .returned (.bool true) ∧ Below W.heap.size W w' :=
    pieces_walk l hl9 pc c1 xs e0 ms fuel W hx1 hm1 hx2 hm2 hx3 hm3
  refine hwalk.mono fun e W' ⟨he, bel⟩ => ?_
  subst he
  exact ⟨_, rfl, _, _, _, [], _, [], hW', trodAll_mk1 (shut_bool Try.underlying4 _), (trodAll_cons_mk (Go.ChangeMaps.shut_string Try.underlying9 len0) (trodAll_cons_mk (Below.trod laidOut (by kernel_rfl) (of_decide_eq_true (by kernel_rfl)) k1 bel lt1) (trodAll_cons_mk (Below.trod laidOut (by kernel_rfl) (of_decide_eq_true (by kernel_rfl)) k2 bel lt2) trodAll_mk0))), rfl, bel.frame _, fun h => by cases h⟩

theorem pieces_holds : Rows.VmPiecesSaid :=
  OpenClaim.holds_of_wide 5 Try.f5 rfl rfl rfl rfl rfl rfl rfl ⟨rfl, rfl, rfl, rfl, rfl⟩ rfl rfl rfl rfl rfl (by kernel_rfl) Try.func5 (by kernel_rfl)
    (of_decide_eq_true (by kernel_rfl)) (by unfold Func.isWrapper; first | (rw [if_pos (by decide +kernel)]; kernel_rfl) | (rw [if_neg (by decide +kernel)]; exact ⟨rfl, rfl⟩))
    (fun os started H enc _ => pieces_lifted os started H enc)
#print axioms pieces_holds
end Go.Proofs.Ytedkijionpkmmaa
