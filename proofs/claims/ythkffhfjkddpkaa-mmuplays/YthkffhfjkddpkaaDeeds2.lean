/- A list of deeds that came in, for the laws of package mmu. -/
import Derived.Test.YthkffhfjkddpkaaFresh2
namespace Go.Proofs.Ythkffhfjkddpkaa
open Go.ChangeShapes Go.WideShapes Go.ChangeAt Go.RowKit Go.Joins
set_option linter.unusedVariables false

theorem own : ownKnob Try.prog.godebug = none := by kernel_rfl
theorem laidOut : laidOutB Try.prog = true := by kernel_rfl
theorem cellsDeed : Try.prog.cellsOf 40 = 6 := by kernel_rfl

theorem deeds_of {H : Type} {enc : TypeId × Value → H} {w : World} {base : Nat} {spare : Nat → Bool} {held : Bool} {a0 : Option Addr} {len cap : Nat} {d : DataW H} {p : List MemPlace}
    (h : DataW.Trod enc Try.prog w base spare held 22 (.slice a0 len cap) d p) : len ≤ 9223372036854775807 ∧ DeedsAt w a0 len := by
  obtain ⟨fuel, hf⟩ := h
  obtain ⟨hl, hc⟩ := slice_fits (l := [.i .i64, .i .i64, .i .i64, .b, .i .u64, .b]) Try.underlying22 deedKinds (by simp) cellsDeed (by simpa [Value.cells] using hf)
  refine ⟨hl, fun j hj => ?_⟩
  obtain ⟨gb, off, cs, e, hfit, hcell⟩ := hc j hj
  obtain ⟨k, pg, fr, wt, a, wr, rfl, ha⟩ := deedOf hfit
  exact ⟨gb, off, e, k, pg, fr, wt, a, wr, ha, hcell 0 _ rfl, hcell 1 _ rfl, hcell 2 _ rfl, hcell 3 _ rfl, hcell 4 _ rfl, hcell 5 _ rfl⟩

end Go.Proofs.Ythkffhfjkddpkaa
