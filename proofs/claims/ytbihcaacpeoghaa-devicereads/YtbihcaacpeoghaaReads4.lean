/- Proved: januslaw04.DeviceReads answers true for every input and every list of numbers (what is taken, piece by piece, is the input), at the commit of this claim; no condition beyond the row's own. -/
import Derived.Test.YtbihcaacpeoghaaAwake4
import Derived.Test.YtbihcaacpeoghaaKinds
import Derived.ProofKit
import Derived.OpenShut
import Derived.ChangeOld
import Derived.ChangeMaps5
import Derived.Below
namespace Go.Proofs.Ytbihcaacpeoghaa
open Go.ChangeShapes Go.WideShapes Go.ChangeAt Go.RowKit Go.Lib
set_option linter.unusedVariables false

theorem tk_all (l : List UInt8) : tk l (l.length : Int) = l.length := by unfold tk; omega
theorem glue (x y : List UInt8) : ByteArray.mk x.toArray ++ ByteArray.mk y.toArray = ByteArray.mk (x ++ y).toArray := ByteArray.mk_append_mk x y
set_option maxRecDepth 100000 in
set_option maxHeartbeats 2000000 in
theorem reads_walk (T : List UInt8) (a0 : Option Addr) (len cap : Nat) (w : World) (hT : T.length ≤ 9223372036854775807) (hlen : len ≤ 9223372036854775807)
    (HC : Hid (∀ j, j < len → ∃ gb off v, a0 = some ⟨gb, off, none⟩ ∧ w.cell? ⟨gb, off + j, none⟩ = some (.int .i64 v))) :
    Calls Try.prog 6 #[tx T, .slice a0 len cap] w fun e w' => e = .returned (.bool true) ∧ Below w.heap.size w w' := by
  have hst := same_text
  have HT : Hid _ := hT
  clear hT
  go_enter Try.func6, Try.ntmps6
  go_wp2_with fail
  refine (new_at T _).mono ?_
  rintro e w1 ⟨rfl, hc1, hb1, hs1⟩
  obtain ⟨B, hB⟩ : ∃ B, B = w.heap.size := ⟨_, rfl⟩
  rw [← hB] at hc1 ⊢
  have HB : Hid _ := hB
  clear hs1 hB
  go_wp2_with fail
  go_loopw [6, 7] (fun g i wr => ∃ (k : Nat) (G L : List UInt8), k ≤ len ∧ k ≤ 100 ∧ g = tx G ∧ i = .int .i64 k ∧ Hid (G ++ L = T) ∧ Con wr B B [] L ∧ Below w.heap.size w wr) (fun _ i _ => 100 - (intOf i).toNat)
  case atStart => exact ⟨0, [], T, Nat.zero_le _, Nat.zero_le _, rfl, rfl, List.nil_append _, hc1, hb1⟩
  case round =>
    obtain ⟨k, G, L, hk, hk2, rfl, rfl, hgl, hc, hb⟩ := hrel
    clear hc1 hb1
    have HL : Hid (G.length + L.length ≤ 9223372036854775807) := by
      have h1 := HT.out
      rw [← hgl.out, List.length_append] at h1
      exact h1
    by_cases hlt : k < len ∧ k < 100
    · obtain ⟨l1, l2⟩ := hlt
      obtain ⟨gb, off, v, rfl, c0⟩ := HC.out k l1
      have c1 := (hb.cell (cell_lt c0)).trans c0
      clear c0 HC
      go_wp2_with fail
      refine (get_at B B [] L v _ hc).mono ?_
      rintro e w2 ⟨rfl, hc2, hu2⟩
      have e1 : Hid (L.take (tk L v) ++ L.drop (tk L v) = L) := List.take_append_drop _ _
      have HL2 : (L.take (tk L v)).length ≤ L.length := by simp; omega
      generalize L.take (tk L v) = X at *
      generalize L.drop (tk L v) = Y at *
      have hno : ¬ 9223372036854775807 < G.length + X.length := by have := HL.out; omega
      have hgl2 := glue G X
      clear HL2
      go_wp2_with fail
      go_roundw
      case rel => exact ⟨k + 1, G ++ X, Y, by omega, by omega, rfl, by go_num, by show (G ++ X) ++ Y = T; rw [List.append_assoc, e1.out]; exact hgl.out, hc2, hb.trans (hu2.below (by have := HB.out; omega) hb.size)⟩
      case measure => simp [intOf]; omega
    · clear HC
      have hkl : k < len ∨ len ≤ k := by omega
      rcases hkl with hkl | hkl
      all_goals
        go_wp2_with fail
        refine (left_at B B [] L _ hc).mono ?_
        rintro e w2 ⟨rfl, rfl⟩
        go_wp2_with fail
        refine (get_at B B [] L L.length _ hc).mono ?_
        rintro e w3 ⟨rfl, hc3, hu3⟩
        rw [tk_all, List.take_length]
        rw [tk_all, List.drop_length] at hc3
        have hno : ¬ 9223372036854775807 < G.length + L.length := by have := HL.out; omega
        have hgl2 := glue G L
        rw [hgl.out] at hgl2
        go_wp2_with fail
        refine (left_at B B [] [] _ hc3).mono ?_
        rintro e w4 ⟨rfl, rfl⟩
        go_wp2_with fail
        refine (get_at B B [] [] 5 _ hc3).mono ?_
        rintro e w5 ⟨rfl, hc5, hu5⟩
        go_wp2_with fail
        refine (awake_any _).mono ?_
        rintro e w6 ⟨rfl, hb6⟩
        go_wp2_with fail
        go_ret
        have b3 := hb.trans (hu3.below (B := w.heap.size) (by have := HB.out; omega) hb.size)
        have b5 := b3.trans (hu5.below (B := w.heap.size) (by have := HB.out; omega) b3.size)
        exact ⟨rfl, b5.trans (hb6.mono b5.size)⟩

theorem intKinds : kindsOf Try.prog 9 3 = some [.i .i64] := by kernel_rfl
theorem intSize : Try.prog.cellsOf 3 = 1 := by kernel_rfl
theorem own : ownKnob Try.prog.godebug = none := by kernel_rfl
theorem laidOut : laidOutB Try.prog = true := by kernel_rfl

set_option maxRecDepth 100000 in
theorem reads_lifted (os : Os) (started : os.Started) (H : Type) (enc : TypeId × Value → H) :
    ReturnsInHanded {} Try.checked os 6 .any (Rows.deviceReadsSpec.pre6 enc Try.prog Try.f6 Rows.deviceReadsRow.domain false) (Rows.deviceReadsSpec.post enc Try.prog Try.f6 false true false false) := by
  refine returnsInHanded_of_change (C := Try.checked) own started (by kernel_rfl) Try.func6
    (ChangeSpec.witness6 (enc := enc) (C := Try.checked) false ⟨#[], #[.string ⟨#[]⟩, .slice none 0 0], []⟩ 8 (by kernel_rfl) (by kernel_rfl) (by kernel_rfl) (by kernel_rfl)) ?_
  intro W base args ds gs before hval0 hW hcnd _
  have hval : ∀ (j : Nat) t v, Try.f6.params[j]? = some t → args[j]? = some v → Value.okWide Try.prog W .any base t v := hval0
  have hW' := hW
  obtain ⟨p, q, hA0, hV, rfl, hfz, hnd⟩ := hW
  have hA : DataW.TrodAll enc Try.prog W 0 (fun _ => true) true Try.f6.params.toList args.toList ds p := hA0
  rw [Try.params6] at hA hval
  obtain ⟨v0, vs0, d0, ds0, p0, q0, hargs, rfl, rfl, h0, r0⟩ := trodAll_cons hA
  obtain ⟨v1, vs1, d1, ds1, p1, q1, rfl, rfl, rfl, h1, r1⟩ := trodAll_cons r0
  obtain ⟨rfl, rfl, rfl⟩ := trodAll_nil r1
  obtain rfl : args = #[v0, v1] := by cases args; simp_all
  obtain ⟨rfl, rfl⟩ := trodVars_none hV
  obtain ⟨s0, rfl, rfl, rfl, len0⟩ := Go.ChangeMaps.open_string Try.underlying9 (hval 0 9 v0 rfl rfl) h0
  have k1 := h1
  have lt1 : ∀ x ∈ p1, x.block < W.heap.size := by obtain ⟨m, hm⟩ := k1; exact DataW.trod_lt m _ _ _ hm
  obtain ⟨a1, len1, cap1, rfl⟩ := okWide_slice Try.underlying36 (hval 1 36 v1 rfl rfl)
  clear hA0 hval0
  have hints : len1 ≤ 9223372036854775807 ∧ ∀ j, j < len1 → ∃ gb off v, a1 = some ⟨gb, off, none⟩ ∧ W.cell? ⟨gb, off + j, none⟩ = some (.int .i64 v) := by
    obtain ⟨fuel, hf⟩ := h1
    obtain ⟨hl, hc⟩ := slice_fits (l := [.i .i64]) Try.underlying36 intKinds (by simp) intSize (by simpa [Value.cells] using hf)
    refine ⟨hl, fun j hj => ?_⟩
    obtain ⟨gb, off, cs, ea, hfit, hcell⟩ := hc j hj
    obtain ⟨_, _, rfl, ⟨v, rfl, _⟩, rfl⟩ := hfit
    have := hcell 0 _ rfl
    exact ⟨gb, off, v, ea, by simpa using this⟩
  have hwalk : Calls Try.prog 6 #[.string s0, .slice a1 len1 cap1] W fun e w' => e = .returned (.bool true) ∧ Below W.heap.size W w' := by
    obtain ⟨T, hs, hT⟩ := text_of s0
    have hT2 : T.length ≤ 9223372036854775807 := by rw [← hT]; exact len0
    rw [hs]
    exact reads_walk T a1 len1 cap1 W hT2 hints.1 hints.2
  refine hwalk.mono fun e W' ⟨he, bel⟩ => ?_
  subst he
  exact ⟨_, rfl, _, _, _, [], _, [], hW', trodAll_mk1 (shut_bool Try.underlying4 _), (trodAll_cons_mk (Go.ChangeMaps.shut_string Try.underlying9 len0) (trodAll_cons_mk (Below.trod laidOut (by kernel_rfl) (of_decide_eq_true (by kernel_rfl)) k1 bel lt1) trodAll_mk0)), rfl, bel.frame _, fun h => by cases h⟩

theorem reads_holds : Rows.DeviceReadsSaid :=
  OpenClaim.holds_of_wide 6 Try.f6 rfl rfl rfl rfl rfl rfl rfl ⟨rfl, rfl, rfl, rfl, rfl⟩ rfl rfl rfl rfl rfl (by kernel_rfl) Try.func6 (by kernel_rfl)
    (of_decide_eq_true (by kernel_rfl)) (by unfold Func.isWrapper; first | (rw [if_pos (by decide +kernel)]; kernel_rfl) | (rw [if_neg (by decide +kernel)]; exact ⟨rfl, rfl⟩))
    (fun os started H enc _ => reads_lifted os started H enc)
#print axioms reads_holds
end Go.Proofs.Ytbihcaacpeoghaa
