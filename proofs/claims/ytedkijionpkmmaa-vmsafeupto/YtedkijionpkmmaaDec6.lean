/- What the laws of januslaw06 take: texts, and the reference's Decode of a program that may be run. -/
import Derived.Test.YtedkijionpkmmaaAwake6
namespace Go.Proofs.Ytedkijionpkmmaa
open Go.RowKit
set_option linter.unusedVariables false

theorem text_of (s : ByteArray) : ∃ l : List UInt8, s = ⟨l.toArray⟩ ∧ s.size = l.length := ⟨s.data.toList, by simp, by show s.data.size = s.data.toList.length; simp⟩
theorem rdecode_yes {s : List UInt8} {l : List Ins} {D : List Int} (hv : Valid s l D) (w : World) :
    Calls Try.prog 20 #[tx s] w fun e w' => (∃ a0 cap, e = .returned (.tuple #[.slice a0 l.length cap, .int .i64 0]) ∧ Row w' a0 l) ∧ Below w.heap.size w w' := by
  refine (rdecode_at s (by have := hv.size; omega) w).mono ?_
  rintro e w' ⟨h, hb⟩
  unfold Decoded at h
  rw [hv.dec] at h
  exact ⟨h, hb⟩
theorem valid_or (s : List UInt8) : (∃ l D, Valid s l D) ∨ Bad s := by
  by_cases h : ∃ l D, Valid s l D
  · exact Or.inl h
  · exact Or.inr (fun l D hv => h ⟨l, D, hv⟩)
theorem rmv_at (i : Ins) (hi : i.Fit) (w : World) :
    Calls Try.prog 26 #[.agg (insRow i)] w fun e w' => e = .returned (.tuple #[.int .i64 (mv i).1, .int .i64 (mv i).2]) ∧ Below w.heap.size w w' := rmoves_at i hi w
end Go.Proofs.Ytedkijionpkmmaa
