/- Instructions in slices, and what Encode's answer is: helpers of both programs' contracts. -/
import Derived.Test.YtedkijionpkmmaaCodA
import Derived.Lib.AppendStr
import Derived.Laws.AppendOwn
import Derived.Deep.AppendLies
import Derived.Laws.IdiomStrings
import Derived.BigQuiet
namespace Go.Proofs.Ytedkijionpkmmaa
open Go.RowKit
set_option linter.unusedVariables false

abbrev tx (l : List UInt8) : Value := .string ⟨l.toArray⟩
theorem byteInfo : (Try.prog.info? 5).map (fun i => (i.zero, i.size, i.bytes)) = some (some (.int .u8 0), 1, 1) := by kernel_rfl
/-- A slice at a0 holds these instructions. -/
def Row (w : World) (a0 : Option Addr) (l : List Ins) : Prop := ∀ j i, l[j]? = some i → ∃ gb off, a0 = some ⟨gb, off, none⟩ ∧
  w.cell? ⟨gb, off + j * 4, none⟩ = some (.int .i64 i.op) ∧ w.cell? ⟨gb, off + j * 4 + 1, none⟩ = some (.int .u64 i.arg) ∧ w.cell? ⟨gb, off + j * 4 + 2, none⟩ = some (.int .i64 i.pos) ∧ w.cell? ⟨gb, off + j * 4 + 3, none⟩ = some (.int .i64 i.len)
theorem Row.below {w w' : World} {a0 : Option Addr} {l : List Ins} (h : Row w a0 l) (hb : Below w.heap.size w w') : Row w' a0 l := by
  intro j i hj
  obtain ⟨gb, off, ha, c0, c1, c2, c3⟩ := h j i hj
  refine ⟨gb, off, ha, ?_, ?_, ?_, ?_⟩
  · rw [hb.cell (cell_lt c0)]; exact c0
  · rw [hb.cell (cell_lt c1)]; exact c1
  · rw [hb.cell (cell_lt c2)]; exact c2
  · rw [hb.cell (cell_lt c3)]; exact c3

/-- Encode's answer. -/
def encT (l : List Ins) : List UInt8 := if l.all good then encs l else []
def encE (l : List Ins) : Int := if l.all good then 0 else 101
theorem enc_yes {l : List Ins} (h : l.all good = true) : encT l = encs l ∧ encE l = 0 := by unfold encT encE; rw [if_pos h, if_pos h]; exact ⟨rfl, rfl⟩
theorem enc_no {l : List Ins} {j : Nat} {i : Ins} (hj : l[j]? = some i) (h : good i = false) : encT l = [] ∧ encE l = 101 := by
  have hn : l.all good = false := by
    rw [List.all_eq_false]
    exact ⟨i, List.mem_of_getElem? hj, by simp [h]⟩
  unfold encT encE
  rw [hn]
  exact ⟨rfl, rfl⟩
theorem take_snoc {l : List Ins} {k : Nat} {i : Ins} (hk : l[k]? = some i) : l.take (k + 1) = l.take k ++ [i] := by
  rw [List.take_add_one, hk]
  rfl
theorem take_good {l : List Ins} {k : Nat} {i : Ins} (hk : l[k]? = some i) (h : (l.take k).all good = true) (hi : good i = true) : (l.take (k + 1)).all good = true := by
  rw [take_snoc hk, List.all_append, h]
  simp [hi]
theorem byteCells_snoc (x : List UInt8) (b : UInt8) : Lib.byteCells x ++ [.int .u8 (b.toNat : Int)] = Lib.byteCells (x ++ [b]) := by simp [Lib.byteCells]
theorem wrapByte (a : Int) : IntKind.u8.wrap a = ((byteOf a).toNat : Int) := by
  rw [byteOf_toNat]
  simp [IntKind.wrap, IntKind.bits, IntKind.signed]
/-- What is written when j bytes of the operand stand. -/
def accT (l : List Ins) (k j : Nat) (i : Ins) : List UInt8 := encs (l.take k) ++ (byteOf i.op :: leB j i.arg)
theorem accT_zero (l : List Ins) (k : Nat) (i : Ins) : encs (l.take k) ++ [byteOf i.op] = accT l k 0 i := rfl
theorem accT_succ (l : List Ins) (k j : Nat) (i : Ins) : accT l k j i ++ [byteOf (i.arg / 256 ^ j)] = accT l k (j + 1) i := by
  unfold accT
  rw [leB_snoc]
  simp
theorem accT_full {l : List Ins} {k : Nat} {i : Ins} (hk : l[k]? = some i) : accT l k (opw i.op) i = encs (l.take (k + 1)) := by
  rw [take_snoc hk, encs_snoc]
  rfl
theorem accT_len (l : List Ins) (k j : Nat) (i : Ins) (hj : j ≤ 8) (hl : l.length ≤ 1000000) : (accT l k j i).length ≤ 10000000 := by
  have := encs_len (l.take k)
  have h2 : (l.take k).length ≤ l.length := by simp; omega
  unfold accT
  simp [leB_len]
  omega

theorem wide_zero {i : Ins} (h : i.Fit) : i.arg / 256 ^ 8 = 0 := by
  have h8 : (256 : Int) ^ 8 = 18446744073709551616 := by decide
  obtain ⟨_, h2, _, _⟩ := h
  rw [h8]
  omega
theorem uwrap8 (k : Nat) (h : k ≤ 8) : IntKind.u64.wrap (8 * (k : Int)) = 8 * (k : Int) := by
  have : k = 0 ∨ k = 1 ∨ k = 2 ∨ k = 3 ∨ k = 4 ∨ k = 5 ∨ k = 6 ∨ k = 7 ∨ k = 8 := by omega
  rcases this with rfl | rfl | rfl | rfl | rfl | rfl | rfl | rfl | rfl <;> decide
theorem below_grown {B : Nat} {w w' : World} {v : Value} (h : w.grownBy w' v.ownBlock) (hs : B ≤ w.heap.size) (hv : ∀ g, v.ownBlock = some g → B ≤ g) : Below B w w' :=
  ⟨h.os, h.tape, h.output, h.size, fun k hk => h.block k (by omega) (fun e => by have := hv k e.symm; omega)⟩
theorem ownsRow_low {w : World} {base : Nat} {e : TypeId} {size : Nat} {v : Value} {n : Nat} {xs : List Value} (h : w.ownsRow base e size v n xs) : ∀ g, v.ownBlock = some g → base ≤ g := by
  intro g hg
  rcases h.2 with ⟨e2, _⟩ | ⟨g', cap, cur, e2, hb, _⟩
  · rw [e2] at hg; simp [Value.ownBlock] at hg
  · rw [e2] at hg; simp [Value.ownBlock] at hg; omega
theorem own_slice {w : World} {B : Nat} {e : TypeId} {size : Nat} {v : Value} {n : Nat} {xs : List Value} (h : w.ownsRow B e size v n xs) : ∃ a k c, v = .slice a k c := by
  rcases h.2 with ⟨rfl, _⟩ | ⟨g, cap, cur, rfl, _⟩ <;> exact ⟨_, _, _, rfl⟩

end Go.Proofs.Ytedkijionpkmmaa
