/- A deed of januslaw09 as cells. -/
import Derived.Test.YtfnafjddajgahaaGreatExW
import Derived.Test.YtfnafjddajgahaaGreatKinds
namespace Go.Proofs.YtfnafjddajgahaaGreat
open Go.ChangeShapes Go.WideShapes Go.ChangeAt Go.RowKit Ca
set_option linter.unusedVariables false

structure Dd where
  kind : Int
  env : Int
  slot : Int
  dst : Int
  n : Int
  w : Bool
  addr : Int
  v : Int
structure Dd.Fit (d : Dd) : Prop where
  fk : I64 d.kind
  fe : I64 d.env
  fs : I64 d.slot
  ft : I64 d.dst
  fn : I64 d.n
  fa : 0 ≤ d.addr
abbrev ddRow (d : Dd) : Array Value := #[.int .i64 d.kind, .int .i64 d.env, .int .i64 d.slot, .int .i64 d.dst, .int .i64 d.n, .bool d.w, .int .u64 d.addr, .int .u64 d.v]
theorem ddCells {w : World} {g : Nat} {d : Dd} {t : TypeId} (h : w.heap[g]? = some (.cells (ddRow d) t)) :
    (w.cell? ⟨g, 0, none⟩ = some (.int .i64 d.kind) ∧ w.cell? ⟨g, 1, none⟩ = some (.int .i64 d.env) ∧ w.cell? ⟨g, 2, none⟩ = some (.int .i64 d.slot) ∧ w.cell? ⟨g, 3, none⟩ = some (.int .i64 d.dst)) ∧
    w.cell? ⟨g, 4, none⟩ = some (.int .i64 d.n) ∧ w.cell? ⟨g, 5, none⟩ = some (.bool d.w) ∧ w.cell? ⟨g, 6, none⟩ = some (.int .u64 d.addr) ∧ w.cell? ⟨g, 7, none⟩ = some (.int .u64 d.v) := by
  refine ⟨⟨?_, ?_, ?_, ?_⟩, ?_, ?_, ?_, ?_⟩ <;> (rw [cell_of_heap h]; rfl)
abbrev ddCK : List CK := [.i .i64, .i .i64, .i .i64, .i .i64, .i .i64, .b, .i .u64, .i .u64]
theorem ddKinds : kindsOf Tryz.prog 9 30 = some ddCK := by kernel_rfl
theorem ddSize : Tryz.prog.cellsOf 30 = 8 := by kernel_rfl
theorem ddOf {l : List Value} (h : Fits ddCK l) : ∃ d : Dd, d.Fit ∧ l = (ddRow d).toList := by
  obtain ⟨_, _, rfl, ⟨a, rfl, ha⟩, _, _, rfl, ⟨b, rfl, hb⟩, _, _, rfl, ⟨c, rfl, hc⟩, _, _, rfl, ⟨d, rfl, hd⟩, _, _, rfl, ⟨e, rfl, he⟩, _, _, rfl, ⟨f, rfl⟩, _, _, rfl, ⟨g, rfl, hg⟩, _, _, rfl, ⟨i, rfl, hi⟩, rfl⟩ := h
  exact ⟨⟨a, b, c, d, e, f, g, i⟩, ⟨bounds_i64 ha, bounds_i64 hb, bounds_i64 hc, bounds_i64 hd, bounds_i64 he, (bounds_u64 hg).1⟩, rfl⟩
/-- A deed at a place of a block. -/
def DdAt (w : World) (gb o : Nat) (d : Dd) : Prop :=
  (w.cell? ⟨gb, o, none⟩ = some (.int .i64 d.kind) ∧ w.cell? ⟨gb, o + 1, none⟩ = some (.int .i64 d.env) ∧ w.cell? ⟨gb, o + 2, none⟩ = some (.int .i64 d.slot) ∧ w.cell? ⟨gb, o + 3, none⟩ = some (.int .i64 d.dst)) ∧
    w.cell? ⟨gb, o + 4, none⟩ = some (.int .i64 d.n) ∧ w.cell? ⟨gb, o + 5, none⟩ = some (.bool d.w) ∧ w.cell? ⟨gb, o + 6, none⟩ = some (.int .u64 d.addr) ∧ w.cell? ⟨gb, o + 7, none⟩ = some (.int .u64 d.v)
theorem DdAt.below {w w' : World} {gb o : Nat} {d : Dd} (h : DdAt w gb o d) (hb : Below w.heap.size w w') : DdAt w' gb o d := by
  obtain ⟨⟨a0, a1, a2, a3⟩, a4, a5, a6, a7⟩ := h
  exact ⟨⟨(hb.cell (cell_lt a0)).trans a0, (hb.cell (cell_lt a1)).trans a1, (hb.cell (cell_lt a2)).trans a2, (hb.cell (cell_lt a3)).trans a3⟩, (hb.cell (cell_lt a4)).trans a4, (hb.cell (cell_lt a5)).trans a5, (hb.cell (cell_lt a6)).trans a6, (hb.cell (cell_lt a7)).trans a7⟩
/-- A slice at a0 holds so many deeds. -/
def DdsAt (w : World) (a0 : Option Addr) (len : Nat) : Prop := ∀ j, j < len → ∃ gb off d, a0 = some ⟨gb, off, none⟩ ∧ d.Fit ∧ DdAt w gb (off + j * 8) d
theorem DdsAt.below {w w' : World} {a0 : Option Addr} {len : Nat} (h : DdsAt w a0 len) (hb : Below w.heap.size w w') : DdsAt w' a0 len := by
  intro j hj
  obtain ⟨gb, off, d, e, hf, hc⟩ := h j hj
  exact ⟨gb, off, d, e, hf, hc.below hb⟩
theorem dds_of {w : World} {a0 : Option Addr} {len : Nat} (h : ∀ j, j < len → ∃ gb off cs, a0 = some ⟨gb, off, none⟩ ∧ Fits ddCK cs ∧ ∀ i u, cs[i]? = some u → w.cell? ⟨gb, off + j * 8 + i, none⟩ = some u) : DdsAt w a0 len := by
  intro j hj
  obtain ⟨gb, off, cs, ea, hfit, hcell⟩ := h j hj
  obtain ⟨d, hd, rfl⟩ := ddOf hfit
  exact ⟨gb, off, d, ea, hd, ⟨hcell 0 _ rfl, hcell 1 _ rfl, hcell 2 _ rfl, hcell 3 _ rfl⟩, hcell 4 _ rfl, hcell 5 _ rfl, hcell 6 _ rfl, hcell 7 _ rfl⟩
end Go.Proofs.YtfnafjddajgahaaGreat
