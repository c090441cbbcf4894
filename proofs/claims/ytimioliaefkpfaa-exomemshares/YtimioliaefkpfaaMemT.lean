/- The contracts of package mem as functions of any numbers. -/
import Derived.Test.YtimioliaefkpfaaMemE
namespace Go.Proofs.Ytimioliaefkpfaa
open Go.RowKit
namespace Me
set_option linter.unusedVariables false

def errW (n : Nat) (f k : Int) : Int := if 0 ≤ f ∧ f < n ∧ 0 ≤ k ∧ k < 32 then 0 else 101
def valR (n : Nat) (vs : List Int) (f k : Int) : Int := if 0 ≤ f ∧ f < n ∧ 0 ≤ k ∧ k < 32 then vs.getD (f.toNat * 32 + k.toNat) 0 else 0
def putW (n : Nat) (vs : List Int) (f k v : Int) : List Int := if 0 ≤ f ∧ f < n ∧ 0 ≤ k ∧ k < 32 then vs.set (f.toNat * 32 + k.toNat) v else vs
def errC (n : Nat) (t f : Int) : Int := if 0 ≤ t ∧ t < n ∧ 0 ≤ f ∧ f < n then 0 else 101
def putC (n : Nat) (vs : List Int) (t f : Int) : List Int := if 0 ≤ t ∧ t < n ∧ 0 ≤ f ∧ f < n then splice vs (t.toNat * 32) (frameOf vs f.toNat) else vs
def errZ (n : Nat) (f : Int) : Int := if 0 ≤ f ∧ f < n then 0 else 101
def putZ (n : Nat) (vs : List Int) (f : Int) : List Int := if 0 ≤ f ∧ f < n then splice vs (f.toNat * 32) (List.replicate 32 0) else vs

section
variable {W : World} {b g n : Nat} {vs : List Int}
theorem read_all (h : MemAt W b g n vs) (f d : Int) : Calls Try.prog 34 #[.pointer (some ⟨b, 0, none⟩), .int .i64 f, .int .i64 d] W fun e w' => e = .returned (.tuple #[.int .u64 (valR n vs f d), .int .i64 (errW n f d)]) ∧ w' = W := by
  by_cases hc : 0 ≤ f ∧ f < n ∧ 0 ≤ d ∧ d < 32
  · rw [valR, errW, if_pos hc, if_pos hc]
    exact read_at _ _ _ _ f d W h hc.1 hc.2.1 hc.2.2.1 hc.2.2.2
  · rw [valR, errW, if_neg hc, if_neg hc]
    exact readno_at _ _ _ _ f d W h hc
theorem write_all (h : MemAt W b g n vs) (f d x : Int) : Calls Try.prog 33 #[.pointer (some ⟨b, 0, none⟩), .int .i64 f, .int .i64 d, .int .u64 x] W fun e w' => e = .returned (.int .i64 (errW n f d)) ∧ MemAt w' b g n (putW n vs f d x) ∧ Upd g W w' := by
  by_cases hc : 0 ≤ f ∧ f < n ∧ 0 ≤ d ∧ d < 32
  · rw [putW, errW, if_pos hc, if_pos hc]
    exact write_at _ _ _ _ f d x W h hc.1 hc.2.1 hc.2.2.1 hc.2.2.2
  · rw [putW, errW, if_neg hc, if_neg hc]
    refine (writeno_at _ _ _ _ f d x W h hc).mono fun e w' ⟨he, hw⟩ => ⟨he, ?_⟩
    subst hw
    exact ⟨h, Upd.refl _ _⟩
theorem copy_all (h : MemAt W b g n vs) (f d : Int) : Calls Try.prog 46 #[.pointer (some ⟨b, 0, none⟩), .int .i64 f, .int .i64 d] W fun e w' => e = .returned (.int .i64 (errC n f d)) ∧ MemAt w' b g n (putC n vs f d) ∧ Upd g W w' := by
  by_cases hc : 0 ≤ f ∧ f < n ∧ 0 ≤ d ∧ d < n
  · rw [putC, errC, if_pos hc, if_pos hc]
    exact copy_at _ _ _ _ f d W h hc.1 hc.2.1 hc.2.2.1 hc.2.2.2
  · rw [putC, errC, if_neg hc, if_neg hc]
    refine (copyno_at _ _ _ _ f d W h hc).mono fun e w' ⟨he, hw⟩ => ⟨he, ?_⟩
    subst hw
    exact ⟨h, Upd.refl _ _⟩
theorem zero_all (h : MemAt W b g n vs) (f : Int) : Calls Try.prog 30 #[.pointer (some ⟨b, 0, none⟩), .int .i64 f] W fun e w' => e = .returned (.int .i64 (errZ n f)) ∧ MemAt w' b g n (putZ n vs f) ∧ Upd g W w' := by
  by_cases hc : 0 ≤ f ∧ f < n
  · rw [putZ, errZ, if_pos hc, if_pos hc]
    exact zero_at _ _ _ _ f W h hc.1 hc.2
  · rw [putZ, errZ, if_neg hc, if_neg hc]
    refine (zerono_at _ _ _ _ f W h hc).mono fun e w' ⟨he, hw⟩ => ⟨he, ?_⟩
    subst hw
    exact ⟨h, Upd.refl _ _⟩
end
end Me
end Go.Proofs.Ytimioliaefkpfaa
