/- The contracts of package mem's methods that write or make memory: what each call answers, and what the memory's blocks hold behind it. -/
import Derived.Test.YtimioliaefkpfaaMemA
import Derived.BigRegion
namespace Go.Proofs.Ytimioliaefkpfaa
open Go.RowKit
namespace Me
set_option linter.unusedVariables false

theorem write_nil (f k v : Int) (w : World) :
    Calls Try.prog 33 #[.pointer none, .int .i64 f, .int .i64 k, .int .u64 v] w fun e w' => e = .returned (.int .i64 101) ∧ w' = w := by
  go_enter Try.func33, Try.ntmps33
  go_wp2_with (go_at_call 54; refine (hasWord_nil _ _ _).mono ?_; rintro e w' ⟨rfl, rfl⟩)
  go_ret
  exact ⟨rfl, rfl⟩

theorem write_no (b : Nat) (a : Option Addr) (n c : Nat) (f k v : Int) (w : World) (h : w.cell? ⟨b, 0, none⟩ = some (.slice a n c)) (hno : Hid ((inB f n && inB k 32) = false)) :
    Calls Try.prog 33 #[.pointer (some ⟨b, 0, none⟩), .int .i64 f, .int .i64 k, .int .u64 v] w fun e w' => e = .returned (.int .i64 101) ∧ w' = w := by
  go_enter Try.func33, Try.ntmps33
  go_wp2_with (go_at_call 54; refine (hasWord_no b a n c f k _ h hno).mono ?_; rintro e w' ⟨rfl, rfl⟩)
  go_ret
  exact ⟨rfl, rfl⟩

theorem write_yes (b g : Nat) (n c f k : Nat) (v : Int) (u : Value) (w : World) (h : w.cell? ⟨b, 0, none⟩ = some (.slice (some ⟨g, 0, none⟩) n c)) (h1 : f < n) (h3 : k < 32)
    (hv : w.cell? ⟨g, f * 32 + k, none⟩ = some u) (hf : w.frozen? ⟨g, f * 32 + k, none⟩ = false) :
    Calls Try.prog 33 #[.pointer (some ⟨b, 0, none⟩), .int .i64 f, .int .i64 k, .int .u64 v] w fun e w' => e = .returned (.int .i64 0) ∧ w' = w.setCell ⟨g, f * 32 + k, none⟩ (.int .u64 v) := by
  go_enter Try.func33, Try.ntmps33
  go_wp2_with (go_at_call 54; refine (hasWord_yes b _ n c f k _ h (by omega) (by omega) (by omega) (by omega)).mono ?_; rintro e w' ⟨rfl, rfl⟩)
  go_ret
  exact ⟨rfl, rfl⟩

theorem hasFrame_no (b : Nat) (a : Option Addr) (n c : Nat) (f : Int) (w : World) (h : w.cell? ⟨b, 0, none⟩ = some (.slice a n c)) (hno : inB f n = false) :
    Calls Try.prog 51 #[.pointer (some ⟨b, 0, none⟩), .int .i64 f] w fun e w' => e = .returned (.bool false) ∧ w' = w := by
  have := hasFrame_at b a n c f w h
  rwa [hno] at this
theorem hasFrame_yes (b : Nat) (a : Option Addr) (n c : Nat) (f : Nat) (w : World) (h : w.cell? ⟨b, 0, none⟩ = some (.slice a n c)) (h1 : f < n) :
    Calls Try.prog 51 #[.pointer (some ⟨b, 0, none⟩), .int .i64 f] w fun e w' => e = .returned (.bool true) ∧ w' = w := by
  have := hasFrame_at b a n c f w h
  rwa [show inB f n = true from by simp [inB, h1]] at this

theorem zero_nil (f : Int) (w : World) :
    Calls Try.prog 30 #[.pointer none, .int .i64 f] w fun e w' => e = .returned (.int .i64 101) ∧ w' = w := by
  go_enter Try.func30, Try.ntmps30
  go_wp2_with (go_at_call 51; refine (hasFrame_nil _ _).mono ?_; rintro e w' ⟨rfl, rfl⟩)
  go_ret
  exact ⟨rfl, rfl⟩

theorem zero_no (b : Nat) (a : Option Addr) (n c : Nat) (f : Int) (w : World) (h : w.cell? ⟨b, 0, none⟩ = some (.slice a n c)) (hno : Hid (inB f n = false)) :
    Calls Try.prog 30 #[.pointer (some ⟨b, 0, none⟩), .int .i64 f] w fun e w' => e = .returned (.int .i64 101) ∧ w' = w := by
  go_enter Try.func30, Try.ntmps30
  go_wp2_with (go_at_call 51; refine (hasFrame_no b a n c f _ h hno).mono ?_; rintro e w' ⟨rfl, rfl⟩)
  go_ret
  exact ⟨rfl, rfl⟩

theorem copy_nil (f g : Int) (w : World) :
    Calls Try.prog 46 #[.pointer none, .int .i64 f, .int .i64 g] w fun e w' => e = .returned (.int .i64 101) ∧ w' = w := by
  go_enter Try.func46, Try.ntmps46
  go_wp2_with (go_at_call 51; refine (hasFrame_nil _ _).mono ?_; rintro e w' ⟨rfl, rfl⟩)
  go_ret
  exact ⟨rfl, rfl⟩

theorem copy_no1 (b : Nat) (a : Option Addr) (n c : Nat) (f g : Int) (w : World) (h : w.cell? ⟨b, 0, none⟩ = some (.slice a n c)) (hno : Hid (inB f n = false)) :
    Calls Try.prog 46 #[.pointer (some ⟨b, 0, none⟩), .int .i64 f, .int .i64 g] w fun e w' => e = .returned (.int .i64 101) ∧ w' = w := by
  go_enter Try.func46, Try.ntmps46
  go_wp2_with (go_at_call 51; refine (hasFrame_no b a n c f _ h hno).mono ?_; rintro e w' ⟨rfl, rfl⟩)
  go_ret
  exact ⟨rfl, rfl⟩

theorem copy_no2 (b : Nat) (a : Option Addr) (n c : Nat) (f : Nat) (g : Int) (w : World) (h : w.cell? ⟨b, 0, none⟩ = some (.slice a n c)) (hf : f < n) (hno : Hid (inB g n = false)) :
    Calls Try.prog 46 #[.pointer (some ⟨b, 0, none⟩), .int .i64 f, .int .i64 g] w fun e w' => e = .returned (.int .i64 101) ∧ w' = w := by
  go_enter Try.func46, Try.ntmps46
  go_wp2_with fail
  refine (hasFrame_yes b a n c f _ h hf).mono ?_
  rintro e w' ⟨rfl, rfl⟩
  go_wp2_with fail
  refine (hasFrame_no b a n c g _ h hno).mono ?_
  rintro e w' ⟨rfl, rfl⟩
  go_wp2_with fail
  go_ret
  exact ⟨rfl, rfl⟩

theorem new_no (n : Int) (w : World) (h : n < 1 ∨ 1024 < n) :
    Calls Try.prog 23 #[.int .i64 n] w fun e w' => e = .returned (.pointer none) ∧ w' = w := by
  rcases h with h | h
  · go_enter Try.func23, Try.ntmps23
    go_wp2
    go_ret
    exact ⟨rfl, rfl⟩
  · have h' : ¬ n < 1 := by omega
    go_enter Try.func23, Try.ntmps23
    go_wp2
    go_ret
    exact ⟨rfl, rfl⟩

end Me
end Go.Proofs.Ytimioliaefkpfaa
