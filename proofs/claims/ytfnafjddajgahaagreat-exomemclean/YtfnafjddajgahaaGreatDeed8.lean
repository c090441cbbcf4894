/- A deed as cells. -/
import Derived.Test.YtfnafjddajgahaaGreatCapK
import Derived.Test.YtfnafjddajgahaaGreatKinds
namespace Go.Proofs.YtfnafjddajgahaaGreat
open Go.ChangeShapes Go.WideShapes Go.ChangeAt Go.RowKit
namespace Ca
set_option linter.unusedVariables false

structure Deed where
  kind : Int
  env : Int
  slot : Int
  to : Int
  rights : Int
  x : Cp
/-- All its numbers are ints. -/
structure Deed.Fit (d : Deed) : Prop where
  fk : I64 d.kind
  fe : I64 d.env
  fs : I64 d.slot
  ft : I64 d.to
  fr : I64 d.rights
  x0 : I64 d.x.kind
  x1 : I64 d.x.id
  x2 : I64 d.x.len
  x3 : I64 d.x.rights
abbrev deedRow (d : Deed) : Array Value := #[.int .i64 d.kind, .int .i64 d.env, .int .i64 d.slot, .int .i64 d.to, .int .i64 d.rights, .int .i64 d.x.kind, .int .i64 d.x.id, .int .i64 d.x.len, .int .i64 d.x.rights]
theorem deedCells {w : World} {g : Nat} {d : Deed} {t : TypeId} (h : w.heap[g]? = some (.cells (deedRow d) t)) :
    (w.cell? ⟨g, 0, none⟩ = some (.int .i64 d.kind) ∧ w.cell? ⟨g, 1, none⟩ = some (.int .i64 d.env) ∧ w.cell? ⟨g, 2, none⟩ = some (.int .i64 d.slot) ∧ w.cell? ⟨g, 3, none⟩ = some (.int .i64 d.to) ∧ w.cell? ⟨g, 4, none⟩ = some (.int .i64 d.rights)) ∧
    w.cell? ⟨g, 5, none⟩ = some (.int .i64 d.x.kind) ∧ w.cell? ⟨g, 6, none⟩ = some (.int .i64 d.x.id) ∧ w.cell? ⟨g, 7, none⟩ = some (.int .i64 d.x.len) ∧ w.cell? ⟨g, 8, none⟩ = some (.int .i64 d.x.rights) := by
  refine ⟨⟨?_, ?_, ?_, ?_, ?_⟩, ?_, ?_, ?_, ?_⟩ <;> (rw [cell_of_heap h]; rfl)
abbrev deedCK : List CK := [.i .i64, .i .i64, .i .i64, .i .i64, .i .i64, .i .i64, .i .i64, .i .i64, .i .i64]
theorem i64_of {n : Int} (h : (Lit.int .i64 n).wf = true) : I64 n := bounds_i64 h
theorem deedOf {l : List Value} (h : Fits deedCK l) : ∃ d : Deed, d.Fit ∧ l = (deedRow d).toList := by
  obtain ⟨_, _, rfl, ⟨a, rfl, ha⟩, _, _, rfl, ⟨b, rfl, hb⟩, _, _, rfl, ⟨c, rfl, hc⟩, _, _, rfl, ⟨d, rfl, hd⟩, _, _, rfl, ⟨e, rfl, he⟩, _, _, rfl, ⟨f, rfl, hf⟩, _, _, rfl, ⟨g, rfl, hg⟩, _, _, rfl, ⟨i, rfl, hi⟩, _, _, rfl, ⟨j, rfl, hj⟩, rfl⟩ := h
  exact ⟨⟨a, b, c, d, e, ⟨f, g, i, j⟩⟩, ⟨i64_of ha, i64_of hb, i64_of hc, i64_of hd, i64_of he, i64_of hf, i64_of hg, i64_of hi, i64_of hj⟩, rfl⟩
/-- A slice at a0 holds so many deeds. -/
def DeedAt (w : World) (gb o : Nat) (d : Deed) : Prop :=
  (w.cell? ⟨gb, o, none⟩ = some (.int .i64 d.kind) ∧ w.cell? ⟨gb, o + 1, none⟩ = some (.int .i64 d.env) ∧ w.cell? ⟨gb, o + 2, none⟩ = some (.int .i64 d.slot) ∧ w.cell? ⟨gb, o + 3, none⟩ = some (.int .i64 d.to) ∧ w.cell? ⟨gb, o + 4, none⟩ = some (.int .i64 d.rights)) ∧
    w.cell? ⟨gb, o + 5, none⟩ = some (.int .i64 d.x.kind) ∧ w.cell? ⟨gb, o + 6, none⟩ = some (.int .i64 d.x.id) ∧ w.cell? ⟨gb, o + 7, none⟩ = some (.int .i64 d.x.len) ∧ w.cell? ⟨gb, o + 8, none⟩ = some (.int .i64 d.x.rights)
theorem DeedAt.below {w w' : World} {gb o : Nat} {d : Deed} (h : DeedAt w gb o d) (hb : Below w.heap.size w w') : DeedAt w' gb o d := by
  obtain ⟨⟨a0, a1, a2, a3, a4⟩, a5, a6, a7, a8⟩ := h
  exact ⟨⟨(hb.cell (cell_lt a0)).trans a0, (hb.cell (cell_lt a1)).trans a1, (hb.cell (cell_lt a2)).trans a2, (hb.cell (cell_lt a3)).trans a3, (hb.cell (cell_lt a4)).trans a4⟩, (hb.cell (cell_lt a5)).trans a5, (hb.cell (cell_lt a6)).trans a6, (hb.cell (cell_lt a7)).trans a7, (hb.cell (cell_lt a8)).trans a8⟩
def DeedsAt (w : World) (a0 : Option Addr) (len : Nat) : Prop := ∀ j, j < len → ∃ gb off d, a0 = some ⟨gb, off, none⟩ ∧ d.Fit ∧ DeedAt w gb (off + j * 9) d
theorem DeedsAt.below {w w' : World} {a0 : Option Addr} {len : Nat} (h : DeedsAt w a0 len) (hb : Below w.heap.size w w') : DeedsAt w' a0 len := by
  intro j hj
  obtain ⟨gb, off, d, e, hf, hc⟩ := h j hj
  exact ⟨gb, off, d, e, hf, hc.below hb⟩
theorem deeds_of {w : World} {a0 : Option Addr} {len : Nat} (h : ∀ j, j < len → ∃ gb off cs, a0 = some ⟨gb, off, none⟩ ∧ Fits deedCK cs ∧ ∀ i u, cs[i]? = some u → w.cell? ⟨gb, off + j * 9 + i, none⟩ = some u) : DeedsAt w a0 len := by
  intro j hj
  obtain ⟨gb, off, cs, ea, hfit, hcell⟩ := h j hj
  obtain ⟨d, hd, rfl⟩ := deedOf hfit
  exact ⟨gb, off, d, ea, hd, ⟨hcell 0 _ rfl, hcell 1 _ rfl, hcell 2 _ rfl, hcell 3 _ rfl, hcell 4 _ rfl⟩, hcell 5 _ rfl, hcell 6 _ rfl, hcell 7 _ rfl, hcell 8 _ rfl⟩
end Ca
end Go.Proofs.YtfnafjddajgahaaGreat
