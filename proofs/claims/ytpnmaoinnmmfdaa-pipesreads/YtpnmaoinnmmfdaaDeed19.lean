/- Deeds of januslaw19 that came in; texts. -/
import Derived.Test.YtpnmaoinnmmfdaaPpW
namespace Go.Proofs.Ytpnmaoinnmmfdaa
open Go.ChangeShapes Go.WideShapes Go.ChangeAt Go.RowKit Go.Lib
set_option linter.unusedVariables false

theorem deedOf {l : List Value} (h : Fits deedCK l) : ∃ d : Deed, l = (deedRow d).toList ∧ d.s.length ≤ maxLen := by
  obtain ⟨_, _, rfl, ⟨a0, rfl, -⟩, _, _, rfl, ⟨a1, rfl, -⟩, _, _, rfl, ⟨a2, rfl, -⟩, _, _, rfl, ⟨s, rfl, hs⟩, rfl⟩ := h
  obtain ⟨T, hT, hl⟩ := text_of s
  exact ⟨⟨a0, a1, a2, T⟩, by rw [hT], by rw [← hl]; exact hs⟩
theorem glue (x y : List UInt8) : ByteArray.mk x.toArray ++ ByteArray.mk y.toArray = ByteArray.mk (x ++ y).toArray := ByteArray.mk_append_mk x y
theorem same_text (l : List UInt8) : (ByteArray.mk l.toArray).toList = l := ByteArray.toList_mk l
theorem cut_to (l : List UInt8) (k : Nat) (h : k ≤ l.length) (w : World) : (Instr.slice 9 (tx l) none (some (.int .i64 k)) none).run Try.prog w = .ok (tx (l.take k)) w := by
  rw [run_slice_string_to_if w _ _ _ _ Try.underlying9, if_pos (by simp [ByteArray.size]; omega), ByteArray.extract_mk]
  simp
/-- Deeds that came in. -/
def DeedsIn (w : World) (a : Option Addr) (len : Nat) : Prop := ∀ j, j < len → ∃ (gb off : Nat) (d : Deed), a = some ⟨gb, off, none⟩ ∧ d.s.length ≤ maxLen ∧ (w.cell? ⟨gb, off + j * 4, none⟩ = some (.int .i64 d.kind) ∧ w.cell? ⟨gb, off + j * 4 + 1, none⟩ = some (.int .i64 d.id) ∧ w.cell? ⟨gb, off + j * 4 + 2, none⟩ = some (.int .i64 d.n) ∧ w.cell? ⟨gb, off + j * 4 + 3, none⟩ = some (tx d.s))
end Go.Proofs.Ytpnmaoinnmmfdaa
