/- The reference of package procs: root, Decode. -/
import Derived.Test.YtfcpcncafopobaaRqM
import Derived.Test.YtfcpcncafopobaaRqD
import Derived.BigQuiet
namespace Go.Proofs.Ytfcpcncafopobaa
open Go.RowKit Go.Lib
set_option linter.unusedVariables false

theorem tr_eq (a b c : Int) (W : World) : (binOp .eql 27 (.agg #[.int .i64 a, .int .i64 b, .int .i64 c]) (.agg #[.int .i64 0, .int .i64 0, .int .i64 0])).run Try.prog W = .ok (.bool (a == 0 && (b == 0 && c == 0))) W := by
  go_simp
  by_cases ha : a = 0 <;> by_cases hb : b = 0 <;> by_cases hc : c = 0 <;> simp [ha, hb, hc]
set_option maxHeartbeats 2000000 in
theorem rroot_at (b : Nat) (T : TS) (k0 : Int) (w : World) (h : RT w b T) (hp : Pars T) (h0 : 0 ≤ k0) (h8 : k0 ≤ 8) :
    Calls Try.prog 42 #[ptr b, .int .i64 k0] w fun e w' => e = .returned (.bool (rootR T 9 k0)) ∧ w' = w := by
  have HH : Hid (RT w b T) := h
  have HP : Hid (Pars T) := hp
  have H0 : Hid (0 ≤ k0 ∧ k0 ≤ 8) := ⟨h0, h8⟩
  clear h hp h0 h8
  go_enter Try.func42, Try.ntmps42
  go_wp2
  go_loopw [1, 5] (fun t s wr => ∃ (n : Nat) (k : Int), n ≤ 9 ∧ s = .int .i64 n ∧ t = .int .i64 k ∧ (0 ≤ k ∧ k ≤ 8) ∧ rootR T 9 k0 = rootR T (9 - n) k ∧ wr = w) (fun _ s _ => 9 - (intOf s).toNat)
  case atStart => exact ⟨0, k0, by omega, rfl, rfl, H0.out, rfl, rfl⟩
  case round =>
    obtain ⟨n, k, hn, rfl, rfl, ⟨k1, k8⟩, hr, hw⟩ := hrel
    subst hw
    have HR : Hid (rootR T 9 k0 = rootR T (9 - n) k) := hr
    clear hr
    by_cases hlt : n ≤ 8
    · have i1 : decide ((n : Int) ≤ 8) = true := decide_eq_true (by omega)
      have ni : (n : Int) ≤ 8 := by omega
      rw [show 9 - n = (9 - (n + 1)) + 1 by omega] at HR
      by_cases hz : k = 0
      · have g0 : (k == 0) = true := by simp [hz]
        have HT : Hid (rootR T 9 k0 = true) := by show _ = _; rw [HR.out]; unfold rootR; rw [decide_eq_true hz]; rfl
        clear hz
        go_wp2
        go_ret
        exact ⟨by rw [HT.out]; rfl, rfl⟩
      · have g0 : (k == 0) = false := beq_false_of_ne hz
        obtain ⟨i, hi⟩ : ∃ i : Nat, (i : Int) = k - 1 := ⟨(k - 1).toNat, by omega⟩
        have hi8 : i < 8 := by omega
        have c1 := HH.out.par hi8
        have HT : Hid (rootR T 9 k0 = rootR T (9 - (n + 1)) (T i).par) := by
          show _ = _
          rw [HR.out]
          show (decide (k = 0) || rootR T (9 - (n + 1)) (T (k - 1).toNat).par) = _
          rw [decide_eq_false hz, show (k - 1).toNat = i by omega]
          rfl
        have HPi : Hid (0 ≤ (T i).par ∧ (T i).par ≤ 8) := HP.out i hi8
        have hw1 : IntKind.i64.wrap (k - 1) = (i : Int) := by rw [← hi]; simp [IntKind.wrap, IntKind.bits, IntKind.signed]; omega
        have n0 : (0 : Int) ≤ (i : Int) := by omega
        have n1 : (i : Int) < 8 := by omega
        generalize (T i).par = y at *
        clear hi hz
        go_wp2
        go_roundw
        case rel => exact ⟨n + 1, y, by omega, by go_num, rfl, HPi.out, HT.out, by first | rfl | trivial⟩
        case measure => simp [intOf]; omega
    · have i1 : decide ((n : Int) ≤ 8) = false := decide_eq_false (by omega)
      have HT : Hid (rootR T 9 k0 = false) := by show _ = _; rw [HR.out, show 9 - n = 0 by omega]; rfl
      go_wp2
      go_ret
      exact ⟨by rw [HT.out]; rfl, rfl⟩
end Go.Proofs.Ytfcpcncafopobaa
