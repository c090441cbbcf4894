/- The contracts of package valid: read, Check, Depths, Entry. -/
import Derived.Test.YtedkijionpkmmaaValD
namespace Go.Proofs.Ytedkijionpkmmaa
open Go.RowKit
set_option linter.unusedVariables false

/-- A text that is a program that may be run: its instructions, their depths. -/
structure Valid (s : List UInt8) (l : List Ins) (D : List Int) : Prop where
  size : 1 ≤ s.length ∧ s.length ≤ 192
  dec : decAt s 0 = some l
  stand : Stand l
  sol : Sol l D
def Bad (s : List UInt8) : Prop := ∀ l D, ¬ Valid s l D
theorem Valid.unique {s : List UInt8} {l l' : List Ins} {D D' : List Int} (h : Valid s l D) (k : Valid s l' D') : l = l' ∧ D = D' := by
  have e : l = l' := by have := h.dec; rw [k.dec] at this; cases this; rfl
  subst e
  exact ⟨rfl, h.sol.unique k.sol⟩
theorem Valid.prog {s : List UInt8} {l : List Ins} {D : List Int} (h : Valid s l D) : Prog s l := prog_of (by have := h.size; omega) h.dec
theorem Valid.lens {s : List UInt8} {l : List Ins} {D : List Int} (h : Valid s l D) : 1 ≤ l.length ∧ l.length ≤ 192 ∧ D.length = l.length := by
  have h1 := h.prog.some (by have := h.size; omega)
  have h2 : 0 < l.length := List.length_pos_iff.2 h1
  have h3 : l.length ≤ s.length := by
    have e1 := (enc_dec s _ 0 (Nat.le_refl _) (by omega) l h.dec).2
    have e2 : ∀ (l : List Ins), l.length ≤ (encs l).length := by
      intro l
      induction l with
      | nil => simp
      | cons i l ih =>
        have e : encs (i :: l) = enc1 i ++ encs l := rfl
        rw [e, List.length_append, enc1_len, List.length_cons]
        omega
    have e3 := e2 l
    rw [e1] at e3
    simpa using e3
  have := h.size
  exact ⟨h2, by omega, h.sol.len⟩
/-- What read answers. -/
def Told (s : List UInt8) (e : Ending) (w' : World) : Prop :=
  (∃ l D a0 ca b0 cb, Valid s l D ∧ e = .returned (.tuple #[.slice a0 l.length ca, .slice b0 l.length cb, .int .i64 0]) ∧ Row w' a0 l ∧ IRow w' b0 D) ∨
  (Bad s ∧ e = .returned (.tuple #[.slice none 0 0, .slice none 0 0, .int .i64 8]))

/-- Whether an instruction of depth 0 begins at a place. -/
def entryB (l : List Ins) (D : List Int) (a : Int) : Bool := decide (0 ≤ findP l a) && decide (D.getD (findP l a).toNat (-1) = 0)
end Go.Proofs.Ytedkijionpkmmaa
