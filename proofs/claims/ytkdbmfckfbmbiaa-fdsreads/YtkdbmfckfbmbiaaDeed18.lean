/- A deed of januslaw18 as cells. -/
import Derived.Test.YtkdbmfckfbmbiaaFdW
namespace Go.Proofs.Ytkdbmfckfbmbiaa
open Go.ChangeShapes Go.WideShapes Go.ChangeAt Go.RowKit
set_option linter.unusedVariables false

structure Deed where
  kind : Int
  pid : Int
  fd : Int
  n : Int
  x : Fl
abbrev deedRow (d : Deed) : Array Value := #[.int .i64 d.kind, .int .i64 d.pid, .int .i64 d.fd, .int .i64 d.n, .int .i64 d.x.kind, .int .i64 d.x.id, .int .i64 d.x.off, .bool d.x.app, .int .i64 d.x.refs]
def deedGet (d : Deed) : Nat → Value
  | 0 => .int .i64 d.kind
  | 1 => .int .i64 d.pid
  | 2 => .int .i64 d.fd
  | 3 => .int .i64 d.n
  | k + 4 => d.x.get k
/-- A deed in its block. -/
def Box (w : World) (D : Nat) (d : Deed) : Prop := w.heap[D]? = some (.cells (deedRow d) 32)
theorem Box.cells {w : World} {D : Nat} {d : Deed} (h : Box w D d) : w.cell? ⟨D, 0, none⟩ = some (.int .i64 d.kind) ∧ w.cell? ⟨D, 1, none⟩ = some (.int .i64 d.pid) ∧ w.cell? ⟨D, 2, none⟩ = some (.int .i64 d.fd) ∧ w.cell? ⟨D, 3, none⟩ = some (.int .i64 d.n) ∧ w.cell? ⟨D, 4, none⟩ = some (.int .i64 d.x.kind) ∧ w.cell? ⟨D, 5, none⟩ = some (.int .i64 d.x.id) ∧ w.cell? ⟨D, 6, none⟩ = some (.int .i64 d.x.off) ∧ w.cell? ⟨D, 7, none⟩ = some (.bool d.x.app) ∧ w.cell? ⟨D, 8, none⟩ = some (.int .i64 d.x.refs) := by
  refine ⟨?_, ?_, ?_, ?_, ?_, ?_, ?_, ?_, ?_⟩ <;> (rw [cell_of_heap h]; rfl)
theorem Box.below {w w' : World} {D : Nat} {d : Deed} (h : Box w D d) (hb : Below w.heap.size w w') : Box w' D d := (hb.block _ (lt_of_heap h)).trans h
theorem Box.upd {w w' : World} {b D : Nat} {d : Deed} (h : Box w D d) (hu : Upd b w w') (hp : D ≠ b) : Box w' D d := (hu.block _ (lt_of_heap h) hp).trans h
abbrev deedCK : List CK := [.i .i64, .i .i64, .i .i64, .i .i64, .i .i64, .i .i64, .i .i64, .b, .i .i64]
theorem deedKinds : kindsOf Try.prog 9 32 = some deedCK := by kernel_rfl
theorem deedSize : Try.prog.cellsOf 32 = 9 := by kernel_rfl
theorem deedOf {l : List Value} (h : Fits deedCK l) : ∃ d : Deed, l = (deedRow d).toList := by
  obtain ⟨_, _, rfl, ⟨a0, rfl, -⟩, _, _, rfl, ⟨a1, rfl, -⟩, _, _, rfl, ⟨a2, rfl, -⟩, _, _, rfl, ⟨a3, rfl, -⟩, _, _, rfl, ⟨a4, rfl, -⟩, _, _, rfl, ⟨a5, rfl, -⟩, _, _, rfl, ⟨a6, rfl, -⟩, _, _, rfl, ⟨a7, rfl⟩, _, _, rfl, ⟨a8, rfl, -⟩, rfl⟩ := h
  exact ⟨⟨a0, a1, a2, a3, ⟨a4, a5, a6, a7, a8⟩⟩, rfl⟩
/-- A deed's cells somewhere. -/
def DeedAt (w : World) (gb o : Nat) (d : Deed) : Prop := ∀ k, k < 9 → w.cell? ⟨gb, o + k, none⟩ = some (deedGet d k)
theorem DeedAt.below {w w' : World} {gb o : Nat} {d : Deed} (h : DeedAt w gb o d) (hb : Below w.heap.size w w') : DeedAt w' gb o d := fun k hk => (hb.cell (cell_lt (h k hk))).trans (h k hk)
def DeedsAt (w : World) (a0 : Option Addr) (len : Nat) : Prop := ∀ j, j < len → ∃ gb off d, a0 = some ⟨gb, off, none⟩ ∧ DeedAt w gb (off + j * 9) d
theorem DeedsAt.below {w w' : World} {a0 : Option Addr} {len : Nat} (h : DeedsAt w a0 len) (hb : Below w.heap.size w w') : DeedsAt w' a0 len := by
  intro j hj
  obtain ⟨gb, off, d, e, hc⟩ := h j hj
  exact ⟨gb, off, d, e, hc.below hb⟩
theorem deeds_of {w : World} {a0 : Option Addr} {len : Nat} (h : ∀ j, j < len → ∃ gb off cs, a0 = some ⟨gb, off, none⟩ ∧ Fits deedCK cs ∧ ∀ i u, cs[i]? = some u → w.cell? ⟨gb, off + j * 9 + i, none⟩ = some u) : DeedsAt w a0 len := by
  intro j hj
  obtain ⟨gb, off, cs, ea, hfit, hcell⟩ := h j hj
  obtain ⟨d, rfl⟩ := deedOf hfit
  refine ⟨gb, off, d, ea, fun k hk => hcell k _ ?_⟩
  obtain rfl | rfl | rfl | rfl | rfl | rfl | rfl | rfl | rfl : k = 0 ∨ k = 1 ∨ k = 2 ∨ k = 3 ∨ k = 4 ∨ k = 5 ∨ k = 6 ∨ k = 7 ∨ k = 8 := by omega
  all_goals rfl
theorem DeedAt.cells {w : World} {gb o : Nat} {d : Deed} (h : DeedAt w gb o d) : w.cell? ⟨gb, o, none⟩ = some (.int .i64 d.kind) ∧ w.cell? ⟨gb, o + 1, none⟩ = some (.int .i64 d.pid) ∧ w.cell? ⟨gb, o + 2, none⟩ = some (.int .i64 d.fd) ∧ w.cell? ⟨gb, o + 3, none⟩ = some (.int .i64 d.n) ∧ w.cell? ⟨gb, o + 4, none⟩ = some (.int .i64 d.x.kind) ∧ w.cell? ⟨gb, o + 5, none⟩ = some (.int .i64 d.x.id) ∧ w.cell? ⟨gb, o + 6, none⟩ = some (.int .i64 d.x.off) ∧ w.cell? ⟨gb, o + 7, none⟩ = some (.bool d.x.app) ∧ w.cell? ⟨gb, o + 8, none⟩ = some (.int .i64 d.x.refs) :=
  ⟨h 0 (by omega), h 1 (by omega), h 2 (by omega), h 3 (by omega), h 4 (by omega), h 5 (by omega), h 6 (by omega), h 7 (by omega), h 8 (by omega)⟩
end Go.Proofs.Ytkdbmfckfbmbiaa
