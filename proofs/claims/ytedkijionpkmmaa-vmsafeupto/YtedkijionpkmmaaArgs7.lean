/- What januslaw07's statements take: machines, spaces, texts. -/
import Derived.Test.YtedkijionpkmmaaVmI
import Derived.ProofKit
import Derived.OpenShut
import Derived.ChangeOld
import Derived.ChangeSlices
import Derived.Lib.SmallJoins
import Derived.Below
namespace Go.Proofs.Ytedkijionpkmmaa
open Go.ChangeShapes Go.WideShapes Go.ChangeAt Go.RowKit Go.Lib
set_option linter.unusedVariables false

section
variable {H : Type} {enc : TypeId × Value → H} {w : World} {base : Nat} {held : Bool}
/-- A slice of words that came in. -/
theorem words_in {n : Nat} {v : Value} {y : DataW H × List MemPlace} (h : DataW.trod enc Try.prog w base (fun _ => true) held n 22 [v] = some y) :
    ∃ xs, URd w v xs ∧ Wds xs ∧ ∃ a k c, v = .slice a k c ∧ k = xs.length ∧ k ≤ 9223372036854775807 := by
  rcases open_ints Try.underlying22 Try.underlying25 (by kernel_rfl) h with ⟨hcs, _⟩ | ⟨ad, l, c, zs, hcs, _, hl, hm, hz, _, hcell, hwz⟩
  · simp only [List.cons.injEq, and_true] at hcs
    subst hcs
    exact ⟨[], Or.inl ⟨rfl, rfl⟩, fun x hx => by simp at hx, none, 0, 0, rfl, rfl, by omega⟩
  · simp only [List.cons.injEq, and_true] at hcs
    subst hcs
    have hz' : zs.length = c := by simpa using hz
    have hlen : (zs.take l).length = l := by simp; omega
    have hw : Wds (zs.take l) := fun x hx => by
      have := hwz x (List.mem_of_mem_take hx)
      have hb := bounds_u64 this
      exact ⟨hb.1, by have := hb.2; omega⟩
    have hm' : l ≤ 9223372036854775807 := by unfold maxLen at hm; omega
    by_cases h0 : l = 0
    · subst h0
      exact ⟨[], Or.inr (Or.inr ⟨ad, c, rfl, rfl⟩), fun x hx => by simp at hx, some ad, 0, c, rfl, rfl, by omega⟩
    · obtain ⟨gb, off, rfl, hc⟩ := ints_at hcell (by omega)
      refine ⟨zs.take l, Or.inr (Or.inl ⟨gb, off, c, by rw [hlen], by rw [hlen]; exact hl, fun j x hj => ?_⟩), hw, _, l, c, rfl, hlen.symm, hm'⟩
      rw [List.getElem?_take] at hj
      split at hj
      · rw [hc j (by omega), List.getD_eq_getElem?_getD, hj]
        rfl
      · cases hj
theorem int_in {n : Nat} {v : Value} {y : DataW H × List MemPlace} (h : DataW.trod enc Try.prog w base (fun _ => true) held n 3 [v] = some y) : ∃ x : Int, v = .int .i64 x ∧ -9223372036854775808 ≤ x ∧ x ≤ 9223372036854775807 := by
  obtain ⟨x, e, _, hw⟩ := DataW.trod_int Try.underlying3 h
  simp only [List.cons.injEq, and_true] at e
  exact ⟨x, e, bounds_i64 hw⟩
end
theorem text_in (s : ByteArray) : ∃ l : List UInt8, s = ⟨l.toArray⟩ ∧ s.size = l.length := ⟨s.data.toList, by simp, by show s.data.size = s.data.toList.length; simp⟩
end Go.Proofs.Ytedkijionpkmmaa
