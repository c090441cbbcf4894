/- Rows of bools, and of numbers that came in. -/
import Derived.Test.YtinjllnoonbjmaaBitC
import Derived.ProofKit
import Derived.OpenShut
import Derived.ChangeOld
import Derived.ChangeSlices
import Derived.Below
import Derived.Lib.SmallJoins
namespace Go.Proofs.Ytinjllnoonbjmaa
open Go.ChangeShapes Go.WideShapes Go.ChangeAt Go.RowKit Go.Lib
namespace Bi
set_option linter.unusedVariables false

theorem upd_belowR {B g : Nat} {w w1 w2 : World} (h : Below B w w1) (hu : Upd g w1 w2) (hg : B ≤ g) (hs : B ≤ w1.heap.size) : Below B w w2 := h.trans (hu.below hg hs)
/-- Bools as a block's cells. -/
def brow (L : List Bool) : Array Value := (L.map Value.bool).toArray
theorem brow_zero (n : Nat) : Array.replicate (n * 1) (Value.bool false) = brow (List.replicate n false) := by simp [brow]
theorem brow_set (L : List Bool) (f : Nat) (v : Bool) : (brow L).setIfInBounds f (.bool v) = brow (L.set f v) := by
  apply Array.ext'
  simp [brow, List.map_set]
theorem brow_get (L : List Bool) (i : Nat) (h : i < L.length) : (brow L)[i]? = some (.bool (L.getD i false)) := by
  simp [brow, h]
theorem boolInfo : (Try.prog.info? 4).map (fun i => (i.zero, i.size, i.bytes)) = some (some (.bool false), 1, 1) := by kernel_rfl
theorem make_bools (n : Nat) (h : n ≤ 1024) (w : World) :
    (Instr.makeSlice 123 (.int .i64 (n : Int)) (.int .i64 (n : Int))).run Try.prog w = .ok (.slice (some ⟨w.heap.size, 0, none⟩) n n) (w.alloc (.cells (brow (List.replicate n false)) 4)) := by
  have := run_make_flat 123 4 (.bool false) (.bool false) 1 1 Try.underlying123 boolInfo rfl (by omega) .i64 .i64 n (by omega) (by omega) w
  rwa [brow_zero] at this
/-- Block c holds the bools L. -/
structure BlAt (w : World) (c : Nat) (L : List Bool) : Prop where
  row : w.heap[c]? = some (.cells (brow L) 4)
theorem BlAt.cell {w : World} {c : Nat} {L : List Bool} (h : BlAt w c L) {i : Nat} (hi : i < L.length) : w.cell? ⟨c, i, none⟩ = some (.bool (L.getD i false)) := by rw [cell_of_heap h.row]; exact brow_get L i hi
theorem BlAt.free {w : World} {c : Nat} {L : List Bool} (h : BlAt w c L) (i : Nat) : w.frozen? ⟨c, i, none⟩ = false := frozen_of_heap h.row
theorem BlAt.set {w : World} {c : Nat} {L : List Bool} (h : BlAt w c L) (i : Nat) (v : Bool) : BlAt (w.setCell ⟨c, i, none⟩ (.bool v)) c (L.set i v) := by
  constructor
  rw [setCell_eq_setRow w c _ _ _ _ _ h.row, setRow_heap w c _ _ _ _ h.row, brow_set]
theorem BlAt.upd {w w' : World} {c g : Nat} {L : List Bool} (h : BlAt w c L) (hu : Upd g w w') (hne : c ≠ g) : BlAt w' c L := ⟨(hu.block c (lt_of_heap h.row) hne).trans h.row⟩
theorem BlAt.below {w w' : World} {c : Nat} {L : List Bool} (h : BlAt w c L) (hb : Below w.heap.size w w') : BlAt w' c L := ⟨(hb.block c (lt_of_heap h.row)).trans h.row⟩
theorem bgetD_set (L : List Bool) (k j : Nat) (x : Bool) (hk : k < L.length) : (L.set k x).getD j false = if j = k then x else L.getD j false := by
  simp only [List.getD_eq_getElem?_getD, List.getElem?_set]
  by_cases h : j = k
  · subst h; simp [hk]
  · rw [if_neg (fun e => h e.symm), if_neg h]

/-- A slice at a0 holds so many numbers. -/
def IntsAt (w : World) (a0 : Option Addr) (len : Nat) : Prop := ∀ j, j < len → ∃ gb off x, a0 = some ⟨gb, off, none⟩ ∧ w.cell? ⟨gb, off + j, none⟩ = some (.int .i64 x)
theorem IntsAt.below {w w' : World} {a0 : Option Addr} {len : Nat} (h : IntsAt w a0 len) (hb : Below w.heap.size w w') : IntsAt w' a0 len := by
  intro j hj
  obtain ⟨gb, off, x, e, hc⟩ := h j hj
  exact ⟨gb, off, x, e, (hb.cell (cell_lt hc)).trans hc⟩
section
variable {H : Type} {enc : TypeId × Value → H} {w : World} {base : Nat} {held : Bool}
theorem ints_in {n : Nat} {a : Option Addr} {len cap : Nat} {y : DataW H × List MemPlace} (h : DataW.trod enc Try.prog w base (fun _ => true) held n 61 [.slice a len cap] = some y) : len ≤ 9223372036854775807 ∧ IntsAt w a len := by
  rcases open_ints Try.underlying61 Try.underlying3 (by kernel_rfl) h with ⟨hcs, _⟩ | ⟨ad, l, c, zs, hcs, _, hl, hm, hz, _, hcell, hwz⟩
  · simp only [List.cons.injEq, and_true, Value.slice.injEq] at hcs
    obtain ⟨rfl, rfl, rfl⟩ := hcs
    exact ⟨by omega, fun j hj => by omega⟩
  · simp only [List.cons.injEq, and_true, Value.slice.injEq] at hcs
    obtain ⟨rfl, rfl, rfl⟩ := hcs
    have hz' : zs.length = cap := by simpa using hz
    refine ⟨by unfold maxLen at hm; omega, fun j hj => ?_⟩
    obtain ⟨gb, off, rfl, hc⟩ := ints_at hcell (by omega)
    exact ⟨gb, off, _, rfl, hc j (by omega)⟩
theorem words_in {n : Nat} {a : Option Addr} {len cap : Nat} {y : DataW H × List MemPlace} (h : DataW.trod enc Try.prog w base (fun _ => true) held n 100 [.slice a len cap] = some y) :
    len ≤ 9223372036854775807 ∧ ∃ ws : List Nat, ws.length = len ∧ NRd w (.slice a len cap) ws ∧ ∀ x ∈ ws, x < 18446744073709551616 := by
  rcases open_ints Try.underlying100 Try.underlying99 (by kernel_rfl) h with ⟨hcs, _⟩ | ⟨ad, l, c, zs, hcs, _, hl, hm, hz, _, hcell, hwz⟩
  · simp only [List.cons.injEq, and_true, Value.slice.injEq] at hcs
    obtain ⟨rfl, rfl, rfl⟩ := hcs
    exact ⟨by omega, [], rfl, ⟨none, 0, rfl, Nat.le_refl _, fun j x hj => by simp at hj⟩, fun x hx => by simp at hx⟩
  · simp only [List.cons.injEq, and_true, Value.slice.injEq] at hcs
    obtain ⟨rfl, rfl, rfl⟩ := hcs
    have hz' : zs.length = cap := by simpa using hz
    have hlen : ((zs.take len).map Int.toNat).length = len := by simp; omega
    have hb : ∀ x ∈ zs, 0 ≤ x ∧ x < 18446744073709551616 := fun x hx => by
      have := bounds_u64 (hwz x hx)
      exact ⟨this.1, by have := this.2; omega⟩
    refine ⟨by unfold maxLen at hm; omega, (zs.take len).map Int.toNat, hlen, ⟨_, cap, by rw [hlen], by rw [hlen]; exact hl, fun j x hj => ?_⟩, fun x hx => ?_⟩
    · simp only [List.getElem?_map, Option.map_eq_some_iff, List.getElem?_take] at hj
      obtain ⟨z, hj, rfl⟩ := hj
      split at hj
      · obtain ⟨gb, off, rfl, hc⟩ := ints_at hcell (by omega)
        refine ⟨gb, off, rfl, ?_⟩
        have hz2 := (hb z (List.mem_of_getElem? hj)).1
        rw [hc j (by omega), List.getD_eq_getElem?_getD, hj, Int.toNat_of_nonneg hz2]
        rfl
      · cases hj
    · simp only [List.mem_map] at hx
      obtain ⟨z, hz2, rfl⟩ := hx
      have := hb z (List.mem_of_mem_take hz2)
      omega
end
end Bi
end Go.Proofs.Ytinjllnoonbjmaa
