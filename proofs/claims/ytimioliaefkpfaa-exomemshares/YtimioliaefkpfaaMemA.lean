/- The contracts of package mem's methods that only read: what each call answers, and that the world stands. -/
import Derived.Test.YtimioliaefkpfaaRows
import Derived.WalkKit
import Derived.WalkSpells
import Derived.WalkLawsBesides
namespace Go.Proofs.Ytimioliaefkpfaa
open Go.RowKit
namespace Me
set_option linter.unusedVariables false

set_option maxHeartbeats 400000 in
theorem frames_nil (w : World) :
    Calls Try.prog 47 #[.pointer none] w fun e w' => e = .returned (.int .i64 0) ∧ w' = w := by
  go_enter Try.func47, Try.ntmps47
  go_wp2
  go_ret
  exact ⟨rfl, rfl⟩

set_option maxHeartbeats 400000 in
theorem frames_at (b : Nat) (a : Option Addr) (n c : Nat) (w : World) (h : w.cell? ⟨b, 0, none⟩ = some (.slice a n c)) :
    Calls Try.prog 47 #[.pointer (some ⟨b, 0, none⟩)] w fun e w' => e = .returned (.int .i64 n) ∧ w' = w := by
  go_enter Try.func47, Try.ntmps47
  go_wp2
  go_ret
  exact ⟨rfl, rfl⟩

set_option maxHeartbeats 400000 in
theorem hasFrame_nil (f : Int) (w : World) :
    Calls Try.prog 51 #[.pointer none, .int .i64 f] w fun e w' => e = .returned (.bool false) ∧ w' = w := by
  by_cases h : 0 ≤ f
  all_goals
    go_enter Try.func51, Try.ntmps51
    go_wp2_with (go_at_call 47; refine (frames_nil _).mono ?_; rintro e w' ⟨rfl, rfl⟩)
    go_ret
    refine ⟨?_, rfl⟩
    simp <;> omega

def inB (f : Int) (n : Nat) : Bool := decide (0 ≤ f ∧ f < n)

set_option maxHeartbeats 400000 in
theorem hasFrame_at (b : Nat) (a : Option Addr) (n c : Nat) (f : Int) (w : World) (h : w.cell? ⟨b, 0, none⟩ = some (.slice a n c)) :
    Calls Try.prog 51 #[.pointer (some ⟨b, 0, none⟩), .int .i64 f] w fun e w' => e = .returned (.bool (inB f n)) ∧ w' = w := by
  by_cases h0 : 0 ≤ f
  all_goals
    go_enter Try.func51, Try.ntmps51
    go_wp2_with (go_at_call 47; refine (frames_at b a n c _ h).mono ?_; rintro e w' ⟨rfl, rfl⟩)
    go_ret
    refine ⟨?_, rfl⟩
    first | (simp [inB, h0]; done) | (simp [inB]; omega)

set_option maxHeartbeats 400000 in
theorem hasWord_nil (f k : Int) (w : World) :
    Calls Try.prog 54 #[.pointer none, .int .i64 f, .int .i64 k] w fun e w' => e = .returned (.bool false) ∧ w' = w := by
  go_enter Try.func54, Try.ntmps54
  go_wp2_with (go_at_call 51; refine (hasFrame_nil _ _).mono ?_; rintro e w' ⟨rfl, rfl⟩)
  go_ret
  exact ⟨rfl, rfl⟩

set_option maxHeartbeats 400000 in
theorem hasWord_at (b : Nat) (a : Option Addr) (n c : Nat) (f k : Int) (w : World) (h : w.cell? ⟨b, 0, none⟩ = some (.slice a n c)) :
    Calls Try.prog 54 #[.pointer (some ⟨b, 0, none⟩), .int .i64 f, .int .i64 k] w fun e w' => e = .returned (.bool (inB f n && inB k 32)) ∧ w' = w := by
  cases hf : inB f n
  all_goals
    by_cases h0 : 0 ≤ k
    all_goals
      have hc : ∀ w : World, w.cell? ⟨b, 0, none⟩ = some (.slice a n c) → Calls Try.prog 51 #[.pointer (some ⟨b, 0, none⟩), .int .i64 f] w fun e w' => e = .returned (.bool (inB f n)) ∧ w' = w := fun w h => hasFrame_at b a n c f w h
      rw [hf] at hc
      have HC : Hid _ := hc
      clear hc
      have HF : Hid _ := hf
      clear hf
      go_enter Try.func54, Try.ntmps54
      go_wp2_with (go_at_call 51; refine (HC.out _ h).mono ?_; rintro e w' ⟨rfl, rfl⟩)
      go_ret
      refine ⟨?_, rfl⟩
      first | rfl | (simp [inB, h0]; done) | (simp [inB]; omega)

set_option maxHeartbeats 400000 in
theorem read_nil (f k : Int) (w : World) :
    Calls Try.prog 34 #[.pointer none, .int .i64 f, .int .i64 k] w fun e w' => e = .returned (.tuple #[.int .u64 0, .int .i64 101]) ∧ w' = w := by
  go_enter Try.func34, Try.ntmps34
  go_wp2_with (go_at_call 54; refine (hasWord_nil _ _ _).mono ?_; rintro e w' ⟨rfl, rfl⟩)
  go_ret2
  exact ⟨rfl, rfl⟩

theorem hasWord_no (b : Nat) (a : Option Addr) (n c : Nat) (f k : Int) (w : World) (h : w.cell? ⟨b, 0, none⟩ = some (.slice a n c)) (hno : (inB f n && inB k 32) = false) :
    Calls Try.prog 54 #[.pointer (some ⟨b, 0, none⟩), .int .i64 f, .int .i64 k] w fun e w' => e = .returned (.bool false) ∧ w' = w := by
  have := hasWord_at b a n c f k w h
  rwa [hno] at this

theorem hasWord_yes (b : Nat) (a : Option Addr) (n c : Nat) (f k : Int) (w : World) (h : w.cell? ⟨b, 0, none⟩ = some (.slice a n c)) (h0 : 0 ≤ f) (h1 : f < n) (h2 : 0 ≤ k) (h3 : k < 32) :
    Calls Try.prog 54 #[.pointer (some ⟨b, 0, none⟩), .int .i64 f, .int .i64 k] w fun e w' => e = .returned (.bool true) ∧ w' = w := by
  have := hasWord_at b a n c f k w h
  rwa [show (inB f n && inB k 32) = true from by simp [inB, h0, h1, h2, h3]] at this

set_option maxHeartbeats 400000 in
theorem read_no (b : Nat) (a : Option Addr) (n c : Nat) (f k : Int) (w : World) (h : w.cell? ⟨b, 0, none⟩ = some (.slice a n c)) (hno : Hid ((inB f n && inB k 32) = false)) :
    Calls Try.prog 34 #[.pointer (some ⟨b, 0, none⟩), .int .i64 f, .int .i64 k] w fun e w' => e = .returned (.tuple #[.int .u64 0, .int .i64 101]) ∧ w' = w := by
  go_enter Try.func34, Try.ntmps34
  go_wp2_with (go_at_call 54; refine (hasWord_no b a n c f k _ h hno).mono ?_; rintro e w' ⟨rfl, rfl⟩)
  go_ret2
  exact ⟨rfl, rfl⟩

set_option maxHeartbeats 400000 in
theorem read_yes (b g : Nat) (n c f k : Nat) (v : Int) (w : World) (h : w.cell? ⟨b, 0, none⟩ = some (.slice (some ⟨g, 0, none⟩) n c)) (h1 : f < n) (h3 : k < 32)
    (hv : w.cell? ⟨g, f * 32 + k, none⟩ = some (.int .u64 v)) :
    Calls Try.prog 34 #[.pointer (some ⟨b, 0, none⟩), .int .i64 f, .int .i64 k] w fun e w' => e = .returned (.tuple #[.int .u64 v, .int .i64 0]) ∧ w' = w := by
  go_enter Try.func34, Try.ntmps34
  go_wp2_with (go_at_call 54; refine (hasWord_yes b _ n c f k _ h (by omega) (by omega) (by omega) (by omega)).mono ?_; rintro e w' ⟨rfl, rfl⟩)
  go_ret2
  exact ⟨rfl, rfl⟩

end Me
end Go.Proofs.Ytimioliaefkpfaa
