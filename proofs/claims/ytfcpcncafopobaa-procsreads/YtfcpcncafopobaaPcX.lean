/- What came in: words, numbers, deeds of januslaw21. -/
import Derived.Test.YtfcpcncafopobaaPcW
import Derived.ProofKit
import Derived.OpenShut
import Derived.ChangeOld
import Derived.ChangeSlices
import Derived.Lib.SmallJoins
import Derived.Deep.Slices
import Derived.Below
namespace Go.Proofs.Ytfcpcncafopobaa
open Go.ChangeShapes Go.WideShapes Go.ChangeAt Go.RowKit Go.Lib Go.Joins
set_option linter.unusedVariables false

section
variable {H : Type} {enc : TypeId × Value → H} {w : World} {base : Nat} {held : Bool}
theorem words_in {n : Nat} {a : Option Addr} {len cap : Nat} {y : DataW H × List MemPlace} (h : DataW.trod enc Try.prog w base (fun _ => true) held n 47 [.slice a len cap] = some y) :
    len ≤ 9223372036854775807 ∧ len ≤ cap ∧ ∃ D : List Int, len = D.length ∧ Rd w a D ∧ Words D := by
  rcases open_ints Try.underlying47 Try.underlying76 (by kernel_rfl) h with ⟨hcs, _⟩ | ⟨ad, l, c, zs, hcs, _, hl, hm, hz, _, hcell, hwz⟩
  · simp only [List.cons.injEq, and_true, Value.slice.injEq] at hcs
    obtain ⟨rfl, rfl, rfl⟩ := hcs
    exact ⟨by omega, Nat.le_refl _, [], rfl, Rd.nil _ _, fun x hx => by simp at hx⟩
  · simp only [List.cons.injEq, and_true, Value.slice.injEq] at hcs
    obtain ⟨rfl, rfl, rfl⟩ := hcs
    have hz' : zs.length = cap := by simpa using hz
    refine ⟨by unfold maxLen at hm; omega, hl, zs.take len, by rw [List.length_take]; omega, fun j x hj => ?_, fun x hx => ?_⟩
    · have hlt := (List.getElem?_eq_some_iff.1 hj).1
      rw [List.length_take] at hlt
      rw [List.getElem?_take_of_lt (by omega)] at hj
      obtain ⟨gb, off, rfl, hc⟩ := ints_at hcell (by omega)
      refine ⟨gb, off, rfl, ?_⟩
      rw [hc j (by omega), List.getD_eq_getElem?_getD, hj]
      rfl
    · have := bounds_u64 (hwz x (List.mem_of_mem_take hx))
      exact ⟨this.1, by have := this.2; omega⟩
theorem ints_in {n : Nat} {a : Option Addr} {len cap : Nat} {y : DataW H × List MemPlace} (h : DataW.trod enc Try.prog w base (fun _ => true) held n 52 [.slice a len cap] = some y) :
    len ≤ 9223372036854775807 ∧ ∃ D : List Int, len = D.length ∧ IRow w a D := by
  rcases open_ints Try.underlying52 Try.underlying3 (by kernel_rfl) h with ⟨hcs, _⟩ | ⟨ad, l, c, zs, hcs, _, hl, hm, hz, _, hcell, hwz⟩
  · simp only [List.cons.injEq, and_true, Value.slice.injEq] at hcs
    obtain ⟨rfl, rfl, rfl⟩ := hcs
    exact ⟨by omega, [], rfl, fun j x hx => by simp at hx⟩
  · simp only [List.cons.injEq, and_true, Value.slice.injEq] at hcs
    obtain ⟨rfl, rfl, rfl⟩ := hcs
    have hz' : zs.length = cap := by simpa using hz
    refine ⟨by unfold maxLen at hm; omega, zs.take len, by rw [List.length_take]; omega, fun j x hj => ?_⟩
    have hlt := (List.getElem?_eq_some_iff.1 hj).1
    rw [List.length_take] at hlt
    rw [List.getElem?_take_of_lt (by omega)] at hj
    obtain ⟨gb, off, rfl, hc⟩ := ints_at hcell (by omega)
    refine ⟨gb, off, rfl, ?_⟩
    rw [hc j (by omega), List.getD_eq_getElem?_getD, hj]
    rfl
end
/-- Deeds that came in. -/
def DeedsIn (w : World) (a : Option Addr) (len : Nat) : Prop := ∀ j, j < len → ∃ (gb off : Nat) (d : Deed), a = some ⟨gb, off, none⟩ ∧ (-9223372036854775808 ≤ d.n ∧ d.n < 9223372036854775808) ∧ (w.cell? ⟨gb, off + j * 3, none⟩ = some (.int .i64 d.kind) ∧ w.cell? ⟨gb, off + j * 3 + 1, none⟩ = some (.int .i64 d.pid) ∧ w.cell? ⟨gb, off + j * 3 + 2, none⟩ = some (.int .i64 d.n))
end Go.Proofs.Ytfcpcncafopobaa
