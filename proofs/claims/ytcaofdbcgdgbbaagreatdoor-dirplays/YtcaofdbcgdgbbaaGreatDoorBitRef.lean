/- Rows of bools, and of numbers that came in. -/
/- The reference of layer 14 in the heap: New, Used, Take, Mark, Left, Words, Of. -/
/- The reference of layer 14: Of. -/
/- The reference of layer 14: Words, Of. -/
/- The reference of layer 14: a map as the words that it is made of; Of, Take, Mark, Left, Used, Words by these words. -/
import Derived.Test.YtcaofdbcgdgbbaaGreatDoorBitAll
import Derived.ProofKit
import Derived.OpenShut
import Derived.ChangeOld
import Derived.ChangeSlices
import Derived.Below
import Derived.Lib.SmallJoins
namespace Go.Proofs.YtcaofdbcgdgbbaaGreatDoor
open Go.ChangeShapes Go.WideShapes Go.ChangeAt Go.RowKit Go.Lib
namespace Bi
set_option linter.unusedVariables false

theorem upd_belowR {B g : Nat} {w w1 w2 : World} (h : Below B w w1) (hu : Upd g w1 w2) (hg : B ≤ g) (hs : B ≤ w1.heap.size) : Below B w w2 := h.trans (hu.below hg hs)
/-- Bools as a block's cells. -/
def brow (L : List Bool) : Array Value := (L.map Value.bool).toArray
theorem brow_zero (n : Nat) : Array.replicate (n * 1) (Value.bool false) = brow (List.replicate n false) := by simp [brow]
theorem brow_set (L : List Bool) (f : Nat) (v : Bool) : (brow L).setIfInBounds f (.bool v) = brow (L.set f v) := by
  apply Array.ext'
  simp [brow, List.map_set]
theorem brow_get (L : List Bool) (i : Nat) (h : i < L.length) : (brow L)[i]? = some (.bool (L.getD i false)) := by
  simp [brow, h]
theorem boolInfo : (Tryz.prog.info? 4).map (fun i => (i.zero, i.size, i.bytes)) = some (some (.bool false), 1, 1) := by kernel_rfl
theorem make_bools (n : Nat) (h : n ≤ 1024) (w : World) :
    (Instr.makeSlice 130 (.int .i64 (n : Int)) (.int .i64 (n : Int))).run Tryz.prog w = .ok (.slice (some ⟨w.heap.size, 0, none⟩) n n) (w.alloc (.cells (brow (List.replicate n false)) 4)) := by
  have := run_make_flat 130 4 (.bool false) (.bool false) 1 1 Tryz.underlying130 boolInfo rfl (by omega) .i64 .i64 n (by omega) (by omega) w
  rwa [brow_zero] at this
/-- Block c holds the bools L. -/
structure BlAt (w : World) (c : Nat) (L : List Bool) : Prop where
  row : w.heap[c]? = some (.cells (brow L) 4)
theorem BlAt.cell {w : World} {c : Nat} {L : List Bool} (h : BlAt w c L) {i : Nat} (hi : i < L.length) : w.cell? ⟨c, i, none⟩ = some (.bool (L.getD i false)) := by rw [cell_of_heap h.row]; exact brow_get L i hi
theorem BlAt.free {w : World} {c : Nat} {L : List Bool} (h : BlAt w c L) (i : Nat) : w.frozen? ⟨c, i, none⟩ = false := frozen_of_heap h.row
theorem BlAt.set {w : World} {c : Nat} {L : List Bool} (h : BlAt w c L) (i : Nat) (v : Bool) : BlAt (w.setCell ⟨c, i, none⟩ (.bool v)) c (L.set i v) := by
  constructor
  rw [setCell_eq_setRow w c _ _ _ _ _ h.row, setRow_heap w c _ _ _ _ h.row, brow_set]
theorem BlAt.upd {w w' : World} {c g : Nat} {L : List Bool} (h : BlAt w c L) (hu : Upd g w w') (hne : c ≠ g) : BlAt w' c L := ⟨(hu.block c (lt_of_heap h.row) hne).trans h.row⟩
theorem BlAt.below {w w' : World} {c : Nat} {L : List Bool} (h : BlAt w c L) (hb : Below w.heap.size w w') : BlAt w' c L := ⟨(hb.block c (lt_of_heap h.row)).trans h.row⟩
theorem bgetD_set (L : List Bool) (k j : Nat) (x : Bool) (hk : k < L.length) : (L.set k x).getD j false = if j = k then x else L.getD j false := by
  simp only [List.getD_eq_getElem?_getD, List.getElem?_set]
  by_cases h : j = k
  · subst h; simp [hk]
  · rw [if_neg (fun e => h e.symm), if_neg h]

/-- A slice at a0 holds so many numbers. -/
def IntsAt (w : World) (a0 : Option Addr) (len : Nat) : Prop := ∀ j, j < len → ∃ gb off x, a0 = some ⟨gb, off, none⟩ ∧ w.cell? ⟨gb, off + j, none⟩ = some (.int .i64 x)
theorem IntsAt.below {w w' : World} {a0 : Option Addr} {len : Nat} (h : IntsAt w a0 len) (hb : Below w.heap.size w w') : IntsAt w' a0 len := by
  intro j hj
  obtain ⟨gb, off, x, e, hc⟩ := h j hj
  exact ⟨gb, off, x, e, (hb.cell (cell_lt hc)).trans hc⟩
section
variable {H : Type} {enc : TypeId × Value → H} {w : World} {base : Nat} {held : Bool}
theorem ints_in {n : Nat} {a : Option Addr} {len cap : Nat} {y : DataW H × List MemPlace} (h : DataW.trod enc Tryz.prog w base (fun _ => true) held n 54 [.slice a len cap] = some y) : len ≤ 9223372036854775807 ∧ IntsAt w a len := by
  rcases open_ints Tryz.underlying54 Tryz.underlying3 (by kernel_rfl) h with ⟨hcs, _⟩ | ⟨ad, l, c, zs, hcs, _, hl, hm, hz, _, hcell, hwz⟩
  · simp only [List.cons.injEq, and_true, Value.slice.injEq] at hcs
    obtain ⟨rfl, rfl, rfl⟩ := hcs
    exact ⟨by omega, fun j hj => by omega⟩
  · simp only [List.cons.injEq, and_true, Value.slice.injEq] at hcs
    obtain ⟨rfl, rfl, rfl⟩ := hcs
    have hz' : zs.length = cap := by simpa using hz
    refine ⟨by unfold maxLen at hm; omega, fun j hj => ?_⟩
    obtain ⟨gb, off, rfl, hc⟩ := ints_at hcell (by omega)
    exact ⟨gb, off, _, rfl, hc j (by omega)⟩
theorem words_in {n : Nat} {a : Option Addr} {len cap : Nat} {y : DataW H × List MemPlace} (h : DataW.trod enc Tryz.prog w base (fun _ => true) held n 113 [.slice a len cap] = some y) :
    len ≤ 9223372036854775807 ∧ ∃ ws : List Nat, ws.length = len ∧ NRd w (.slice a len cap) ws ∧ ∀ x ∈ ws, x < 18446744073709551616 := by
  rcases open_ints Tryz.underlying113 Tryz.underlying120 (by kernel_rfl) h with ⟨hcs, _⟩ | ⟨ad, l, c, zs, hcs, _, hl, hm, hz, _, hcell, hwz⟩
  · simp only [List.cons.injEq, and_true, Value.slice.injEq] at hcs
    obtain ⟨rfl, rfl, rfl⟩ := hcs
    exact ⟨by omega, [], rfl, ⟨none, 0, rfl, Nat.le_refl _, fun j x hj => by simp at hj⟩, fun x hx => by simp at hx⟩
  · simp only [List.cons.injEq, and_true, Value.slice.injEq] at hcs
    obtain ⟨rfl, rfl, rfl⟩ := hcs
    have hz' : zs.length = cap := by simpa using hz
    have hlen : ((zs.take len).map Int.toNat).length = len := by simp; omega
    have hb : ∀ x ∈ zs, 0 ≤ x ∧ x < 18446744073709551616 := fun x hx => by
      have := bounds_u64 (hwz x hx)
      exact ⟨this.1, by have := this.2; omega⟩
    refine ⟨by unfold maxLen at hm; omega, (zs.take len).map Int.toNat, hlen, ⟨_, cap, by rw [hlen], by rw [hlen]; exact hl, fun j x hj => ?_⟩, fun x hx => ?_⟩
    · simp only [List.getElem?_map, Option.map_eq_some_iff, List.getElem?_take] at hj
      obtain ⟨z, hj, rfl⟩ := hj
      split at hj
      · obtain ⟨gb, off, rfl, hc⟩ := ints_at hcell (by omega)
        refine ⟨gb, off, rfl, ?_⟩
        have hz2 := (hb z (List.mem_of_getElem? hj)).1
        rw [hc j (by omega), List.getD_eq_getElem?_getD, hj, Int.toNat_of_nonneg hz2]
        rfl
      · cases hj
    · simp only [List.mem_map] at hx
      obtain ⟨z, hz2, rfl⟩ := hx
      have := hb z (List.mem_of_mem_take hz2)
      omega
end
end Bi
end Go.Proofs.YtcaofdbcgdgbbaaGreatDoor

namespace Go.Proofs.YtcaofdbcgdgbbaaGreatDoor
open Go.ChangeShapes Go.WideShapes Go.ChangeAt Go.RowKit Go.Lib
namespace Bi
set_option linter.unusedVariables false

/-- Block c holds a reference map, block h its bools. -/
structure RbAt (w : World) (c h : Nat) (L : List Bool) : Prop where
  head : w.heap[c]? = some (.cells #[.slice (some ⟨h, 0, none⟩) L.length L.length] 132)
  bl : BlAt w h L
  pos : 1 ≤ L.length
  le : L.length ≤ 1024
section
variable {w w' : World} {c h : Nat} {L : List Bool}
theorem RbAt.ne (k : RbAt w c h L) : c ≠ h := by
  intro e
  subst e
  have q := k.head
  rw [k.bl.row] at q
  injection q with q1
  injection q1 with _ q2
  exact absurd q2 (by decide)
theorem RbAt.c0 (k : RbAt w c h L) : w.cell? ⟨c, 0, none⟩ = some (.slice (some ⟨h, 0, none⟩) L.length L.length) := by rw [cell_of_heap k.head]; rfl
theorem RbAt.ltc (k : RbAt w c h L) : c < w.heap.size := lt_of_heap k.head
theorem RbAt.lth (k : RbAt w c h L) : h < w.heap.size := lt_of_heap k.bl.row
theorem RbAt.below (k : RbAt w c h L) (hb : Below w.heap.size w w') : RbAt w' c h L := ⟨(hb.block c k.ltc).trans k.head, k.bl.below hb, k.pos, k.le⟩
theorem RbAt.upd {g : Nat} (k : RbAt w c h L) (hu : Upd g w w') (h1 : c ≠ g) (h2 : h ≠ g) : RbAt w' c h L := ⟨(hu.block c k.ltc h1).trans k.head, k.bl.upd hu h2, k.pos, k.le⟩
theorem RbAt.set (k : RbAt w c h L) (i : Nat) (v : Bool) : RbAt (w.setCell ⟨h, i, none⟩ (.bool v)) c h (L.set i v) :=
  ⟨by rw [Below.heap_setCell _ _ _ _ k.ne, k.head, List.length_set], k.bl.set i v, by rw [List.length_set]; exact k.pos, by rw [List.length_set]; exact k.le⟩
end
/-- The bools as a function. -/
def bf (L : List Bool) (i : Nat) : Bool := L.getD i false
theorem bf_set (L : List Bool) (k j : Nat) (x : Bool) (hk : k < L.length) : bf (L.set k x) j = if j = k then x else bf L j := bgetD_set L k j x hk

theorem rnew_no (n : Int) (w : World) (h : n < 1 ∨ 1024 < n) :
    Calls Tryz.prog 99 #[.int .i64 n] w fun e w' => e = .returned (.pointer none) ∧ w' = w := by
  rcases h with h | h
  · go_enter Tryz.func99, Tryz.ntmps99
    go_wp2
    go_ret
    exact ⟨rfl, rfl⟩
  · have h' : ¬ n < 1 := by omega
    go_enter Tryz.func99, Tryz.ntmps99
    go_wp2
    go_ret
    exact ⟨rfl, rfl⟩
theorem rnew_at (n : Nat) (w : World) (h : 1 ≤ n) (h2 : n ≤ 1024) :
    Calls Tryz.prog 99 #[.int .i64 (n : Int)] w fun e w' => e = .returned (.pointer (some ⟨w.heap.size + 1, 0, none⟩)) ∧
      RbAt w' (w.heap.size + 1) w.heap.size (List.replicate n false) ∧ Below w.heap.size w w' ∧ w'.heap.size = w.heap.size + 2 := by
  have hmk := fun w => make_bools n h2 w
  go_enter Tryz.func99, Tryz.ntmps99
  go_wp2
  go_ret
  refine ⟨rfl, ⟨?_, ⟨?_⟩, by simpa using h, by simpa using h2⟩, below_alloc2 _ _ _, by simp⟩
  · have := heap_alloc_new (w.alloc (.cells (brow (List.replicate n false)) 4)) (.cells #[.slice (some ⟨w.heap.size, 0, none⟩) n n] 132)
    simpa using this
  · rw [Below.heap_alloc _ _ _ (by simp)]
    exact heap_alloc_new _ _

/-- Whether there is such a bit, and it is used. -/
def rusedB (L : List Bool) (i : Int) : Bool := inB i L.length && bf L i.toNat
theorem rused_at (c h : Nat) (L : List Bool) (f : Int) (w : World) (k : RbAt w c h L) :
    Calls Tryz.prog 39 #[.pointer (some ⟨c, 0, none⟩), .int .i64 f] w fun e w' => e = .returned (.bool (rusedB L f)) ∧ w' = w := by
  have c0 := k.c0
  by_cases h0 : 0 ≤ f
  · have g0 : decide (0 ≤ f) = true := decide_eq_true h0
    by_cases h1 : f < L.length
    · obtain ⟨i, rfl⟩ : ∃ i : Nat, f = (i : Int) := ⟨f.toNat, by omega⟩
      have hi : i < L.length := by omega
      have c1 := k.bl.cell hi
      have HR : Hid (rusedB L i = L.getD i false) := by show _ = _; unfold rusedB; rw [inB_nat hi]; rfl
      have g1 : decide ((i : Int) < (L.length : Int)) = true := decide_eq_true h1
      clear k
      generalize L.getD i false = x at *
      generalize L.length = N at *
      go_enter Tryz.func39, Tryz.ntmps39
      go_wp2
      all_goals
        go_ret
        exact ⟨by rw [HR.out]; rfl, rfl⟩
    · have g1 : decide (f < (L.length : Int)) = false := decide_eq_false h1
      have HR : Hid (rusedB L f = false) := by show _ = _; unfold rusedB; rw [inB_no (by omega)]; rfl
      clear k
      generalize L.length = N at *
      go_enter Tryz.func39, Tryz.ntmps39
      go_wp2
      all_goals
        go_ret
        exact ⟨by rw [HR.out]; rfl, rfl⟩
  · have g0 : decide (0 ≤ f) = false := decide_eq_false h0
    have HR : Hid (rusedB L f = false) := by show _ = _; unfold rusedB; rw [inB_no (by omega)]; rfl
    clear k
    generalize L.length = N at *
    go_enter Tryz.func39, Tryz.ntmps39
    go_wp2
    all_goals
      go_ret
      exact ⟨by rw [HR.out]; rfl, rfl⟩

/-- What Mark leaves. -/
def rmarkL (L : List Bool) (f : Int) (on : Bool) : List Bool := if inB f L.length = true then L.set f.toNat on else L
theorem rmark_at (c h : Nat) (L : List Bool) (f : Int) (on : Bool) (w : World) (k : RbAt w c h L) :
    Calls Tryz.prog 93 #[.pointer (some ⟨c, 0, none⟩), .int .i64 f, .bool on] w fun e w' => e = .returned (.int .i64 (markR L.length f)) ∧ RbAt w' c h (rmarkL L f on) ∧ Upd h w w' := by
  have c0 := k.c0
  have HK : Hid _ := k
  by_cases hin : 0 ≤ f ∧ f < L.length
  · obtain ⟨i, rfl⟩ : ∃ i : Nat, f = (i : Int) := ⟨f.toNat, by omega⟩
    have hi : i < L.length := by omega
    have c1 := k.bl.cell hi
    have f1 := k.bl.free i
    have HR : Hid (markR L.length i = 0) := by show _ = _; unfold markR; rw [inB_nat hi]; rfl
    have HL : Hid (rmarkL L i on = L.set i on) := by show _ = _; unfold rmarkL; rw [inB_nat hi]; rfl
    have g0 : decide ((i : Int) < 0) = false := decide_eq_false (by omega)
    have g1 : decide ((L.length : Int) ≤ (i : Int)) = false := decide_eq_false (by omega)
    have hiN : (i : Int) < (L.length : Int) := by omega
    clear k hin
    generalize L.getD i false = x at *
    generalize hN : L.length = N at *
    clear hN
    go_enter Tryz.func93, Tryz.ntmps93
    go_wp2
    go_ret
    exact ⟨by rw [HR.out]; rfl, by rw [HL.out]; exact RbAt.set HK.out i on, Upd.setCell _ _ _ _⟩
  · have HR : Hid (markR L.length f = 101) := by show _ = _; unfold markR; rw [inB_no hin]; rfl
    have HL : Hid (rmarkL L f on = L) := by show _ = _; unfold rmarkL; rw [inB_no hin]; rfl
    have hor : (decide (f < 0) = true) ∨ (decide (f < 0) = false ∧ decide ((L.length : Int) ≤ f) = true) := by
      rcases Int.lt_or_le f 0 with q | q
      · exact Or.inl (decide_eq_true q)
      · exact Or.inr ⟨decide_eq_false (by omega), decide_eq_true (by omega)⟩
    clear k hin
    generalize hN : L.length = N at *
    clear hN
    rcases hor with g0 | ⟨g0, g1⟩
    all_goals
      go_enter Tryz.func93, Tryz.ntmps93
      go_wp2
      go_ret
      exact ⟨by rw [HR.out]; rfl, by rw [HL.out]; exact HK.out, Upd.refl _ _⟩

/-- What Take leaves, if it answers r. -/
def rtakeL (L : List Bool) (r : Int) : List Bool := if 0 ≤ r then L.set r.toNat true else L
set_option maxHeartbeats 800000 in
theorem rtake_at (c h : Nat) (L : List Bool) (w : World) (k : RbAt w c h L) :
    Calls Tryz.prog 45 #[.pointer (some ⟨c, 0, none⟩)] w fun e w' => ∃ r, e = .returned (.int .i64 r) ∧ Low (bf L) L.length r ∧ RbAt w' c h (rtakeL L r) ∧ Upd h w w' := by
  have c0 := k.c0
  have HK : Hid _ := k
  have hle := k.le
  have HC : Hid (∀ i, i < L.length → w.cell? ⟨h, i, none⟩ = some (.bool (bf L i))) := fun i hi => k.bl.cell hi
  have HF : Hid (∀ i, w.frozen? ⟨h, i, none⟩ = false) := k.bl.free
  clear k
  obtain ⟨N, hN⟩ : ∃ N, N = L.length := ⟨_, rfl⟩
  rw [← hN] at c0 HC hle ⊢
  clear hN
  go_enter Tryz.func45, Tryz.ntmps45
  go_wp2
  go_loopw [3] (fun s wr => ∃ (i : Nat), i ≤ N ∧ s = .int .i64 i ∧ (∀ j, j < i → bf L j = true) ∧ wr = w) (fun s _ => N - (intOf s).toNat)
  case atStart => exact ⟨0, by omega, rfl, fun j hj => by omega, rfl⟩
  case round =>
    obtain ⟨i, hi, rfl, hA, rfl⟩ := hrel
    have HA : Hid _ := hA
    clear hA
    by_cases hlt : i < N
    · have hii : (i : Int) < (N : Int) := by omega
      have c1 := HC.out i hlt
      have f1 := HF.out i
      cases hB : bf L i with
      | true =>
        rw [hB] at c1
        have HB : Hid (bf L i = true) := hB
        clear hB
        go_wp2
        go_roundw
        case rel =>
          refine ⟨i + 1, by omega, by go_num, fun j hj => ?_, by trivial⟩
          by_cases e : j = i
          · rw [e]; exact HB.out
          · exact HA.out j (by omega)
        case measure => simp [intOf]; omega
      | false =>
        rw [hB] at c1
        have HB : Hid (bf L i = false) := hB
        clear hB
        have HT : Hid (rtakeL L i = L.set i true) := by show _ = _; simp [rtakeL]
        go_wp2
        go_ret
        exact ⟨_, rfl, Or.inl ⟨i, rfl, hlt, HA.out, HB.out⟩, by rw [HT.out]; exact RbAt.set HK.out i true, Upd.setCell _ _ _ _⟩
    · obtain rfl : i = N := by omega
      have HT : Hid (rtakeL L (-1) = L) := by show _ = _; simp [rtakeL]
      go_wp2
      go_ret
      exact ⟨_, rfl, Or.inr ⟨rfl, HA.out⟩, by rw [HT.out]; exact HK.out, Upd.refl _ _⟩

set_option maxHeartbeats 800000 in
theorem rleft_at (c h : Nat) (L : List Bool) (w : World) (k : RbAt w c h L) :
    Calls Tryz.prog 92 #[.pointer (some ⟨c, 0, none⟩)] w fun e w' => e = .returned (.int .i64 ((cntF (bf L) L.length : Nat) : Int)) ∧ w' = w := by
  have c0 := k.c0
  have hle := k.le
  have HC : Hid (∀ i, i < L.length → w.cell? ⟨h, i, none⟩ = some (.bool (bf L i))) := fun i hi => k.bl.cell hi
  clear k
  obtain ⟨N, hN⟩ : ∃ N, N = L.length := ⟨_, rfl⟩
  rw [← hN] at c0 HC hle ⊢
  clear hN
  go_enter Tryz.func92, Tryz.ntmps92
  go_wp2
  go_loopw [3, 4] (fun u s wr => ∃ (i m : Nat), i ≤ N ∧ s = .int .i64 i ∧ u = .int .i64 m ∧ Hid (m = cntF (bf L) i) ∧ m ≤ i ∧ wr = w) (fun _ s _ => N - (intOf s).toNat)
  case atStart => exact ⟨0, 0, by omega, rfl, rfl, rfl, by omega, rfl⟩
  case round =>
    obtain ⟨i, m, hi, rfl, rfl, HA, hm, rfl⟩ := hrel
    by_cases hlt : i < N
    · have hii : (i : Int) < (N : Int) := by omega
      have c1 := HC.out i hlt
      cases hB : bf L i with
      | true =>
        rw [hB] at c1
        have HB : Hid (bf L i = true) := hB
        clear hB
        go_wp2
        go_roundw
        case rel =>
          refine ⟨i + 1, m, by omega, by go_num, rfl, ?_, by omega, by trivial⟩
          show _ = _
          unfold cntF
          rw [HB.out, ← HA.out]
          rfl
        case measure => simp [intOf]; omega
      | false =>
        rw [hB] at c1
        have HB : Hid (bf L i = false) := hB
        clear hB
        go_wp2
        go_roundw
        case rel =>
          refine ⟨i + 1, m + 1, by omega, by go_num, by go_num, ?_, by omega, by trivial⟩
          show _ = _
          unfold cntF
          rw [HB.out, ← HA.out]
          rfl
        case measure => simp [intOf]; omega
    · obtain rfl : i = N := by omega
      go_wp2
      go_ret
      exact ⟨by rw [← HA.out]; rfl, rfl⟩
end Bi
end Go.Proofs.YtcaofdbcgdgbbaaGreatDoor

namespace Go.Proofs.YtcaofdbcgdgbbaaGreatDoor
open Go.ChangeShapes Go.WideShapes Go.ChangeAt Go.RowKit Go.Lib
namespace Bi
set_option linter.unusedVariables false

theorem and_one (x r : Nat) (hx : x < 18446744073709551616) : bits .and .u64 (((x : Nat) : Int) / 2 ^ r) 1 = ((x / 2 ^ r % 2 : Nat) : Int) := by
  have e : ((x : Nat) : Int) / 2 ^ r = ((x / 2 ^ r : Nat) : Int) := by simp
  have h := u64_and_nat (x / 2 ^ r) 1 (Nat.lt_of_le_of_lt (Nat.div_le_self _ _) hx) (by omega)
  rw [nat_mask1] at h
  rw [e]
  exact h
theorem one_bit (x r : Nat) : ((((x / 2 ^ r % 2 : Nat)) : Int) == 0) = !(x.testBit r) := by
  rw [Nat.testBit_eq_decide_div_mod_eq]
  generalize x / 2 ^ r = y
  rcases (by omega : y % 2 = 0 ∨ y % 2 = 1) with e | e <;> rw [e] <;> rfl

set_option maxHeartbeats 1000000 in
theorem rof_at (n : Int) (ws : List Nat) (v : Value) (w : World) (h : NRd w v ws) (hlt : ∀ x ∈ ws, x < 18446744073709551616) (hsz : ws.length ≤ 100) :
    Calls Tryz.prog 68 #[.int .i64 n, v] w fun e w' => ∃ p r, e = .returned (.tuple #[p, .int .i64 r]) ∧ Below w.heap.size w w' ∧
      ((r = 0 ∧ ofOK n ws) ∨ (r = 101 ∧ ¬ ofOK n ws)) := by
  have H : Hid (NRd w v ws) := h
  obtain ⟨a, cap, rfl⟩ := h.is
  clear h
  by_cases hn : 1 ≤ n ∧ n ≤ 1024
  · obtain ⟨n, rfl⟩ : ∃ m : Nat, n = (m : Int) := ⟨n.toNat, by omega⟩
    have hN := rnew_at n w (by omega) (by omega)
    have hd : ((n : Int) + 63).tdiv 64 = (((n + 63) / 64 : Nat) : Int) := by
      rw [Int.tdiv_eq_ediv_of_nonneg (by omega)]
      omega
    by_cases hl : ws.length = (n + 63) / 64
    · have HL : Hid (ws.length = (n + 63) / 64) := hl
      have hpos : 0 < ws.length := by omega
      rw [← hl] at hd
      have hWL : Hid (∀ i, i / 64 < ws.length → ws.getD (i / 64) 0 < 18446744073709551616) := fun i hi => by
        rw [List.getD_eq_getElem?_getD, List.getElem?_eq_getElem hi]
        exact hlt _ (List.getElem_mem hi)
      have HLt : Hid _ := hlt
      obtain ⟨L, hLq⟩ : ∃ L, L = ws.length := ⟨_, rfl⟩
      have HLq : Hid (L = ws.length) := hLq
      obtain ⟨g, o, cap', hv, hcell⟩ := NRd.has H.out hpos
      simp only [Value.slice.injEq] at hv
      obtain ⟨rfl, -, rfl⟩ := hv
      have HC : Hid (∀ i, i / 64 < ws.length → w.cell? ⟨g, o + i / 64, none⟩ = some (.int .u64 ((ws.getD (i / 64) 0 : Nat) : Int))) := fun i hi => hcell _ _ (by rw [List.getD_eq_getElem?_getD, List.getElem?_eq_getElem hi]; rfl)
      rw [← hLq] at hd hpos hsz ⊢
      clear hLq hcell hlt H hl
      go_enter Tryz.func68, Tryz.ntmps68
      go_wp2_with fail
      refine hN.mono ?_
      rintro e w1 ⟨rfl, hB, hb, hs⟩
      have HB : Hid _ := hB
      have Hb : Hid (Below w.heap.size w w1) := hb
      obtain ⟨c, hcq⟩ : ∃ b, b = w.heap.size + 1 := ⟨_, rfl⟩
      obtain ⟨h, hhq⟩ : ∃ gg, gg = w.heap.size := ⟨_, rfl⟩
      have HHQ : Hid (h = w.heap.size) := hhq
      have hwr := wrap_small L (by omega)
      rw [← hcq] at HB ⊢
      rw [← hhq] at HB
      clear hB hb hs hN hcq hhq
      go_wp2
      go_loopw [7] (fun s wr => ∃ (i : Nat) (B : List Bool), i ≤ 64 * L ∧ s = .int .i64 i ∧ RbAt wr c h B ∧ Hid (B.length = n) ∧ Below w.heap.size w wr ∧ ∀ j, j < i → n ≤ j → bt ws j = false) (fun s _ => 64 * L - (intOf s).toNat)
      case atStart => exact ⟨0, _, by omega, rfl, HB.out, by simp [Hid], Hb.out, fun j hj => by omega⟩
      case round =>
        clear HB Hb
        obtain ⟨i, B, hi, rfl, hB, HBl, hb, hA⟩ := hrel
        have HB : Hid _ := hB
        have Hb : Hid (Below w.heap.size w wr) := hb
        have HA : Hid _ := hA
        clear hA
        by_cases hlt : i < 64 * L
        · have hii : (i : Int) < 64 * (L : Int) := by omega
          have hq : i / 64 < L := by omega
          have hqw : i / 64 < ws.length := by rw [← HLq.out]; exact hq
          have c1 := HC.out i hqw
          have c1 : wr.cell? ⟨g, o + i / 64, none⟩ = _ := (hb.cell (cell_lt c1)).trans c1
          have ha := and_one (ws.getD (i / 64) 0) (i % 64) (hWL.out i hqw)
          have ho := one_bit (ws.getD (i / 64) 0) (i % 64)
          have hbt : (ws.getD (i / 64) 0).testBit (i % 64) = bt ws i := rfl
          rw [hbt] at ho
          have hd1 := tdiv64 i
          have ht1 := tmod64 i
          have hr64 : i % 64 < 64 := Nat.mod_lt _ (by omega)
          have c0 := hB.c0
          rw [HBl.out] at c0
          generalize ws.getD (i / 64) 0 / 2 ^ (i % 64) % 2 = t at *
          generalize ws.getD (i / 64) 0 = x at *
          obtain ⟨p, hp⟩ : ∃ p, p = i / 64 := ⟨_, rfl⟩
          obtain ⟨r, hr⟩ : ∃ r, r = i % 64 := ⟨_, rfl⟩
          have hwr := wrap_small p (by omega)
          rw [← hp] at hd1 hq c1
          rw [← hr] at ht1 hr64 ha
          clear hbt
          cases hB2 : bt ws i with
          | false =>
            rw [hB2] at ho
            have HBF : Hid (bt ws i = false) := hB2
            have ho : ((t : Int) == 0) = true := ho
            clear hp hr hB hb hqw hB2 HC hWL
            go_wp2
            go_roundw
            case rel =>
              refine ⟨i + 1, B, by omega, by go_num, HB.out, HBl, Hb.out, fun j hj hnj => ?_⟩
              by_cases e : j = i
              · rw [e]; exact HBF.out
              · exact HA.out j (by omega) hnj
            case measure => simp [intOf]; omega
          | true =>
            rw [hB2] at ho
            have HBF : Hid (bt ws i = true) := hB2
            have ho : ((t : Int) == 0) = false := ho
            by_cases hin : i < n
            · have g1 : decide ((n : Int) ≤ (i : Int)) = false := decide_eq_false (by omega)
              have hiN : (i : Int) < (n : Int) := by omega
              have c2 := hB.bl.cell (i := i) (by rw [HBl.out]; exact hin)
              have f2 := hB.bl.free i
              generalize B.getD i false = y at *
              clear hp hr hB hb hqw hB2 HC hWL
              go_wp2
              go_roundw
              case rel =>
                refine ⟨i + 1, _, by omega, by go_num, RbAt.set HB.out i true, by show _ = _; rw [List.length_set]; exact HBl.out, upd_belowR Hb.out (Upd.setCell h i wr _) (by have := HHQ.out; omega) Hb.out.size, fun j hj hnj => HA.out j (by omega) hnj⟩
              case measure => simp [intOf]; omega
            · have g1 : decide ((n : Int) ≤ (i : Int)) = true := decide_eq_true (by omega)
              have HNo : Hid (¬ Wf n ws) := fun k => by
                have := k.past i (by omega)
                rw [HBF.out] at this
                cases this
              clear hp hr hB hb hqw hB2 HC hWL
              go_wp2
              go_ret2
              exact ⟨_, _, rfl, Hb.out, Or.inr ⟨rfl, fun k => HNo.out k.2.2⟩⟩
        · have HY : Hid (Wf n ws) := ⟨HL.out, HLt.out, fun j hj => by
            by_cases q : j < i
            · exact HA.out j q hj
            · exact bt_far ws j (by rw [← HLq.out]; omega)⟩
          have hii : decide ((i : Int) < 64 * (L : Int)) = false := decide_eq_false (by omega)
          clear hB hb HC hWL
          go_wp2
          go_ret2
          exact ⟨_, _, rfl, Hb.out, Or.inl ⟨rfl, by omega, by omega, HY.out⟩⟩
    · have HNo : Hid (¬ Wf n ws) := fun k => hl k.len
      have hne : ((ws.length : Int) != (((n + 63) / 64 : Nat) : Int)) = true := by simp only [bne_iff_ne, ne_eq]; omega
      have hwr := wrap_small ((n + 63) / 64) (by omega)
      generalize (n + 63) / 64 = L at *
      clear hl H
      go_enter Tryz.func68, Tryz.ntmps68
      go_wp2_with fail
      refine hN.mono ?_
      rintro e w1 ⟨rfl, hB, hb, hs⟩
      have Hb : Hid (Below w.heap.size w w1) := hb
      clear hB hb hs hN
      go_wp2
      go_ret2
      exact ⟨_, _, rfl, Hb.out, Or.inr ⟨rfl, fun k => HNo.out k.2.2⟩⟩
  · have hN := rnew_no n w (by omega)
    go_enter Tryz.func68, Tryz.ntmps68
    go_wp2_with fail
    refine hN.mono ?_
    rintro e w1 ⟨rfl, hw⟩
    rw [hw]
    clear hw w1 hN
    go_wp2
    go_ret2
    exact ⟨_, _, rfl, Below.refl _ _, Or.inr ⟨rfl, fun k => hn ⟨k.1, k.2.1⟩⟩⟩
end Bi
end Go.Proofs.YtcaofdbcgdgbbaaGreatDoor

namespace Go.Proofs.YtcaofdbcgdgbbaaGreatDoor
open Go.ChangeShapes Go.WideShapes Go.ChangeAt Go.RowKit Go.Lib
namespace Bi
set_option linter.unusedVariables false

/-- Words whose bits below k are the bools', and no others are set. -/
structure WTo (L : List Bool) (k : Nat) (ws : List Nat) : Prop where
  len : ws.length = (L.length + 63) / 64
  lt : ∀ x ∈ ws, x < 18446744073709551616
  bits : ∀ i, bt ws i = (decide (i < k) && bf L i)
theorem wto_zero (L : List Bool) : WTo L 0 (List.replicate ((L.length + 63) / 64) 0) :=
  ⟨by simp, (wf_zero L.length).lt, fun i => by rw [bt_zero]; simp⟩
theorem WTo.hit {L : List Bool} {k : Nat} {ws : List Nat} (h : WTo L k ws) (hk : k < L.length) (hb : bf L k = true) : WTo L (k + 1) (mkW ws k true) := by
  have hw : k / 64 < ws.length := by rw [h.len]; omega
  refine ⟨by rw [← h.len]; simp [mkW], fun x hx => ?_, fun i => ?_⟩
  · rcases List.mem_or_eq_of_mem_set hx with hx | hx
    · exact h.lt x hx
    · rw [hx]
      refine wd_lt _ _ _ ?_
      rw [List.getD_eq_getElem?_getD, List.getElem?_eq_getElem hw]
      exact h.lt _ (List.getElem_mem hw)
  · rw [bt_mkW _ _ _ _ hw, h.bits]
    by_cases e : i = k
    · subst e; rw [if_pos rfl, hb]; simp
    · rw [if_neg e]
      congr 1
      by_cases q : i < k
      · rw [decide_eq_true q, decide_eq_true (by omega)]
      · rw [decide_eq_false q, decide_eq_false (by omega)]
theorem WTo.miss {L : List Bool} {k : Nat} {ws : List Nat} (h : WTo L k ws) (hb : bf L k = false) : WTo L (k + 1) ws := by
  refine ⟨h.len, h.lt, fun i => ?_⟩
  rw [h.bits]
  by_cases e : i = k
  · subst e; rw [hb]; simp
  · congr 1
    by_cases q : i < k
    · rw [decide_eq_true q, decide_eq_true (by omega)]
    · rw [decide_eq_false q, decide_eq_false (by omega)]
theorem WTo.word {L : List Bool} {k : Nat} {ws : List Nat} (h : WTo L k ws) (i : Nat) : ws.getD i 0 < 18446744073709551616 := by
  rw [List.getD_eq_getElem?_getD]
  cases e : ws[i]? with
  | none => simp
  | some x => exact h.lt x (List.mem_of_getElem? e)
theorem WTo.all {L : List Bool} {ws : List Nat} (h : WTo L L.length ws) : Wf L.length ws ∧ ∀ i, i < L.length → bt ws i = bf L i :=
  ⟨⟨h.len, h.lt, fun i hi => by rw [h.bits, decide_eq_false (by omega)]; rfl⟩, fun i hi => by rw [h.bits, decide_eq_true hi]; rfl⟩

/-- Block g holds the words ws. -/
structure WsAt (w : World) (g : Nat) (ws : List Nat) : Prop where
  row : w.heap[g]? = some (.cells (nrow ws) 120)
theorem WsAt.cell {w : World} {g : Nat} {ws : List Nat} (h : WsAt w g ws) {i : Nat} (hi : i < ws.length) : w.cell? ⟨g, i, none⟩ = some (.int .u64 ((ws.getD i 0 : Nat) : Int)) := by rw [cell_of_heap h.row]; exact nrow_get ws i hi
theorem WsAt.set {w : World} {g : Nat} {ws : List Nat} (h : WsAt w g ws) (i x : Nat) : WsAt (w.setCell ⟨g, i, none⟩ (.int .u64 ((x : Nat) : Int))) g (ws.set i x) := by
  constructor
  rw [setCell_eq_setRow w g _ _ _ _ _ h.row, setRow_heap w g _ _ _ _ h.row, nrow_set]

theorem shl_one' (i : Nat) : IntKind.u64.wrap (2 ^ (i % 64)) = ((mk i : Nat) : Int) := by
  have := shl_one i
  rwa [Nat.min_eq_left (by have := Nat.mod_lt i (show 0 < 64 by omega); omega)] at this

set_option maxHeartbeats 1000000 in
theorem rwords_at (c h : Nat) (L : List Bool) (w : World) (k : RbAt w c h L) :
    Calls Tryz.prog 78 #[.pointer (some ⟨c, 0, none⟩)] w fun e w' => ∃ v ws, e = .returned v ∧ NRd w' v ws ∧ Wf L.length ws ∧ (∀ i, i < L.length → bt ws i = bf L i) ∧ Below w.heap.size w w' := by
  have c0 := k.c0
  have hle := k.le
  have hpos := k.pos
  have HK : Hid (RbAt w c h L) := k
  clear k
  obtain ⟨N, hN⟩ : ∃ N, N = L.length := ⟨_, rfl⟩
  have HN : Hid (N = L.length) := hN
  obtain ⟨m, hm⟩ : ∃ m, m = (N + 63) / 64 := ⟨_, rfl⟩
  have HM : Hid (m = (N + 63) / 64) := hm
  have hm2 : m ≤ 1024 := by omega
  have hd : ((N : Int) + 63).tdiv 64 = ((m : Nat) : Int) := by
    rw [Int.tdiv_eq_ediv_of_nonneg (by omega)]
    omega
  have hmk := fun w => make_words m hm2 w
  obtain ⟨W, hW⟩ : ∃ W, W = w.alloc (.cells (nrow (List.replicate m 0)) 120) := ⟨_, rfl⟩
  obtain ⟨g, hg⟩ : ∃ g, g = w.heap.size := ⟨_, rfl⟩
  have HS : Hid (WsAt W g (List.replicate m 0)) := ⟨by rw [hW, hg]; exact heap_alloc_new _ _⟩
  have HB : Hid (Below w.heap.size w W) := by rw [hW]; exact below_alloc _ _
  have HZ : Hid (WTo L 0 (List.replicate m 0)) := by rw [hm, hN]; exact wto_zero L
  rw [← hN] at c0 hle hpos ⊢
  have HW : Hid _ := hW
  have HG : Hid (g = w.heap.size) := hg
  clear hN hm hW hg
  go_enter Tryz.func78, Tryz.ntmps78
  go_wp2
  rw [← HW.out, ← HG.out]
  clear HW hmk c0
  go_loopw [4] (fun s wr => ∃ (i : Nat) (ws : List Nat), i ≤ N ∧ s = .int .i64 i ∧ WTo L i ws ∧ WsAt wr g ws ∧ Below w.heap.size w wr) (fun s _ => N - (intOf s).toNat)
  case atStart => exact ⟨0, _, by omega, rfl, HZ.out, HS.out, HB.out⟩
  case round =>
    clear HZ HS HB
    obtain ⟨i, ws, hi, rfl, hZ, hS, hB⟩ := hrel
    have HZ : Hid _ := hZ
    have HS : Hid _ := hS
    have HB : Hid _ := hB
    have hwl : ws.length = m := by rw [hZ.len, HM.out, HN.out]
    have hKr := HK.out.below hB
    have c0 := hKr.c0
    rw [← HN.out] at c0
    by_cases hlt : i < N
    · have hii : (i : Int) < (N : Int) := by omega
      have c1 := hKr.bl.cell (i := i) (by rw [← HN.out]; exact hlt)
      have hb : L.getD i false = bf L i := rfl
      rw [hb] at c1
      clear hb
      cases hB2 : bf L i with
      | false =>
        rw [hB2] at c1
        have HBF : Hid (bf L i = false) := hB2
        clear hZ hS hB hKr hwl hB2
        go_wp2
        go_roundw
        case rel => exact ⟨i + 1, ws, by omega, by go_num, WTo.miss HZ.out HBF.out, HS.out, HB.out⟩
        case measure => simp [intOf]; omega
      | true =>
        rw [hB2] at c1
        have HBF : Hid (bf L i = true) := hB2
        have hq : i / 64 < m := by have := HM.out; omega
        have c2 := hS.cell (i := i / 64) (by omega)
        have f2 : wr.frozen? ⟨g, i / 64, none⟩ = false := frozen_of_heap hS.row
        have ha := set_bit (ws.getD (i / 64) 0) i (hZ.word _)
        have hd1 := tdiv64 i
        have ht1 := tmod64 i
        have hsh := shl_one' i
        have HF : Hid (WsAt (wr.setCell ⟨g, i / 64, none⟩ (.int .u64 ((wd (ws.getD (i / 64) 0) i true : Nat) : Int))) g (mkW ws i true)) := hS.set _ _
        have hr64 : i % 64 < 64 := Nat.mod_lt _ (by omega)
        generalize wd (ws.getD (i / 64) 0) i true = r1 at *
        generalize ws.getD (i / 64) 0 = x at *
        generalize mk i = M at *
        obtain ⟨p, hp⟩ : ∃ p, p = i / 64 := ⟨_, rfl⟩
        obtain ⟨r, hr⟩ : ∃ r, r = i % 64 := ⟨_, rfl⟩
        have hwr := wrap_small p (by omega)
        rw [← hp] at hd1 hq c2 f2 HF
        rw [← hr] at ht1 hsh hr64
        clear hp hr hZ hS hB hKr hwl hB2
        go_wp2
        go_roundw
        case rel => exact ⟨i + 1, _, by omega, by go_num, WTo.hit HZ.out (by rw [← HN.out]; exact hlt) HBF.out, HF.out, upd_belowR HB.out (Upd.setCell g p wr _) (by have := HG.out; omega) HB.out.size⟩
        case measure => simp [intOf]; omega
    · obtain rfl : i = N := by omega
      have HE : Hid (Wf L.length ws ∧ ∀ j, j < L.length → bt ws j = bf L j) := WTo.all (by rw [← HN.out]; exact HZ.out)
      rw [← HN.out] at HE
      have HR : Hid (NRd wr (.slice (some ⟨g, 0, none⟩) m m) ws) := by
        have := nrd_of_row HS.out.row
        rwa [hwl] at this
      clear hZ hS hB hKr hwl
      go_wp2
      go_ret
      exact ⟨_, ws, rfl, HR.out, HE.out.1, HE.out.2, HB.out⟩
end Bi
end Go.Proofs.YtcaofdbcgdgbbaaGreatDoor

namespace Go.Proofs.YtcaofdbcgdgbbaaGreatDoor
open Go.ChangeShapes Go.WideShapes Go.ChangeAt Go.RowKit Go.Lib
namespace Bi
set_option linter.unusedVariables false

/-- Block c holds a reference map whose bits are those of the words ws; its blocks lie from base on. -/
structure RmAt (w : World) (base c h n : Nat) (L : List Bool) (ws : List Nat) : Prop where
  at_ : RbAt w c h L
  len : L.length = n
  same : ∀ j, j < n → bf L j = bt ws j
  wf : Wf n ws
  lo : base ≤ c ∧ base ≤ h
section
variable {w w' : World} {base c h n : Nat} {L : List Bool} {ws : List Nat}
theorem RmAt.below (k : RmAt w base c h n L ws) (hb : Below w.heap.size w w') : RmAt w' base c h n L ws := ⟨k.at_.below hb, k.len, k.same, k.wf, k.lo⟩
theorem RmAt.keep {P : Nat → Prop} (k : RmAt w base c h n L ws) (hu : ∀ g, base ≤ g → g < w.heap.size → w'.heap[g]? = w.heap[g]?) : RmAt w' base c h n L ws := by
  refine ⟨⟨(hu c k.lo.1 k.at_.ltc).trans k.at_.head, ⟨(hu h k.lo.2 k.at_.lth).trans k.at_.bl.row⟩, k.at_.pos, k.at_.le⟩, k.len, k.same, k.wf, k.lo⟩
theorem low_same {f g : Nat → Bool} {r : Int} (hs : ∀ j, j < n → f j = g j) (hl : Low f n r) : Low g n r := by
  rcases hl with ⟨k, e, h1, h2, h3⟩ | ⟨e, h1⟩
  · exact Or.inl ⟨k, e, h1, fun j hj => by rw [← hs j (by omega)]; exact h2 j hj, by rw [← hs k h1]; exact h3⟩
  · exact Or.inr ⟨e, fun j hj => by rw [← hs j hj]; exact h1 j hj⟩
theorem cnt_same {f g : Nat → Bool} : ∀ n, (∀ j, j < n → f j = g j) → cntF f n = cntF g n
  | 0, _ => rfl
  | n + 1, h => by
    have ih := cnt_same n (fun j hj => h j (by omega))
    show cntF f n + (if f n = true then 0 else 1) = cntF g n + (if g n = true then 0 else 1)
    rw [ih, h n (by omega)]
theorem RmAt.set (k : RmAt w base c h n L ws) {b : Nat} (hb : b < n) (v : Bool) (ha : RbAt w' c h (L.set b v)) : RmAt w' base c h n (L.set b v) (mkW ws b v) := by
  refine ⟨ha, by rw [List.length_set]; exact k.len, fun j hj => ?_, k.wf.mark hb v, k.lo⟩
  rw [bf_set L b j v (by rw [k.len]; exact hb), bt_mkW ws b j v (k.wf.at hb)]
  split
  · rfl
  · exact k.same j hj
theorem rm_take (k : RmAt w base c h n L ws) (b : Nat) (hl : Low (bt ws) n (b : Int)) :
    Calls Tryz.prog 45 #[.pointer (some ⟨c, 0, none⟩)] w fun e w' => e = .returned (.int .i64 (b : Int)) ∧ (∃ L', RmAt w' base c h n L' (mkW ws b true)) ∧ Upd h w w' := by
  refine (rtake_at c h L w k.at_).mono ?_
  rintro e w' ⟨r, rfl, hr, ha, hu⟩
  rw [k.len] at hr
  obtain rfl := hl.one (low_same k.same hr)
  have hb : b < n := by
    rcases hl with ⟨j, e, h1, _⟩ | ⟨e, _⟩ <;> omega
  have e : rtakeL L (b : Int) = L.set b true := by
    unfold rtakeL
    rw [if_pos (by omega), Int.toNat_natCast]
  rw [e] at ha
  exact ⟨rfl, ⟨_, k.set hb true ha⟩, hu⟩
theorem rm_none (k : RmAt w base c h n L ws) (hl : ∀ j, j < n → bt ws j = true) :
    Calls Tryz.prog 45 #[.pointer (some ⟨c, 0, none⟩)] w fun e w' => e = .returned (.int .i64 (-1)) ∧ RmAt w' base c h n L ws ∧ Upd h w w' := by
  refine (rtake_at c h L w k.at_).mono ?_
  rintro e w' ⟨r, rfl, hr, ha, hu⟩
  rw [k.len] at hr
  obtain rfl := Low.one (s := -1) (low_same k.same hr) (Or.inr ⟨rfl, hl⟩)
  have e : rtakeL L (-1) = L := rfl
  rw [e] at ha
  exact ⟨rfl, ⟨ha, k.len, k.same, k.wf, k.lo⟩, hu⟩
theorem rm_mark (k : RmAt w base c h n L ws) (b : Nat) (hb : b < n) (on : Bool) :
    Calls Tryz.prog 93 #[.pointer (some ⟨c, 0, none⟩), .int .i64 (b : Int), .bool on] w fun e w' => ∃ r, e = .returned (.int .i64 r) ∧ (∃ L', RmAt w' base c h n L' (mkW ws b on)) ∧ Upd h w w' := by
  refine (rmark_at c h L (b : Int) on w k.at_).mono ?_
  rintro e w' ⟨he, ha, hu⟩
  have e : rmarkL L (b : Int) on = L.set b on := by
    unfold rmarkL
    rw [if_pos (by unfold inB; rw [k.len]; simp; omega), Int.toNat_natCast]
  rw [e] at ha
  exact ⟨_, he, ⟨_, k.set hb on ha⟩, hu⟩
theorem rm_left (k : RmAt w base c h n L ws) :
    Calls Tryz.prog 92 #[.pointer (some ⟨c, 0, none⟩)] w fun e w' => e = .returned (.int .i64 ((cntF (bt ws) n : Nat) : Int)) ∧ w' = w := by
  have := rleft_at c h L w k.at_
  rwa [k.len, cnt_same n k.same] at this
theorem rm_used (k : RmAt w base c h n L ws) (i : Nat) (hi : i < n) :
    Calls Tryz.prog 39 #[.pointer (some ⟨c, 0, none⟩), .int .i64 (i : Int)] w fun e w' => e = .returned (.bool (bt ws i)) ∧ w' = w := by
  have := rused_at c h L (i : Int) w k.at_
  have e : rusedB L (i : Int) = bt ws i := by
    unfold rusedB inB
    rw [k.len, Int.toNat_natCast, k.same i hi]
    simp [hi]
  rwa [e] at this
theorem rm_words (k : RmAt w base c h n L ws) :
    Calls Tryz.prog 78 #[.pointer (some ⟨c, 0, none⟩)] w fun e w' => ∃ v, e = .returned v ∧ NRd w' v ws ∧ Below w.heap.size w w' := by
  refine (rwords_at c h L w k.at_).mono ?_
  rintro e w' ⟨v, us, he, hn, hw, hs, hb⟩
  rw [k.len] at hw hs
  obtain rfl : us = ws := hw.ext k.wf (fun i hi => by rw [hs i hi, k.same i hi])
  exact ⟨v, he, hn, hb⟩
end
set_option maxHeartbeats 1000000 in
theorem rof_yes (n : Nat) (hn1 : 1 ≤ n) (hn2 : n ≤ 1024) (ws : List Nat) (v : Value) (w : World) (h : NRd w v ws) (hw : Wf n ws) :
    Calls Tryz.prog 68 #[.int .i64 (n : Int), v] w fun e w' => ∃ c, e = .returned (.tuple #[.pointer (some ⟨c, 0, none⟩), .int .i64 0]) ∧ (∃ h L, RmAt w' w.heap.size c h n L ws) ∧ Below w.heap.size w w' := by
  have H : Hid (NRd w v ws) := h
  have HWf : Hid (Wf n ws) := hw
  obtain ⟨a, cap, rfl⟩ := h.is
  clear h
  have hN := rnew_at n w hn1 hn2
  have hd : ((n : Int) + 63).tdiv 64 = (((n + 63) / 64 : Nat) : Int) := by
    rw [Int.tdiv_eq_ediv_of_nonneg (by omega)]
    omega
  have hl : ws.length = (n + 63) / 64 := hw.len
  have hpos : 0 < ws.length := by omega
  have hsz : ws.length ≤ 100 := by omega
  rw [← hl] at hd
  have hWL : Hid (∀ i, i / 64 < ws.length → ws.getD (i / 64) 0 < 18446744073709551616) := fun i hi => by
    rw [List.getD_eq_getElem?_getD, List.getElem?_eq_getElem hi]
    exact hw.lt _ (List.getElem_mem hi)
  obtain ⟨L, hLq⟩ : ∃ L, L = ws.length := ⟨_, rfl⟩
  have HLq : Hid (L = ws.length) := hLq
  have hLn : n ≤ 64 * L := by omega
  obtain ⟨g, o, cap', hv, hcell⟩ := NRd.has H.out hpos
  simp only [Value.slice.injEq] at hv
  obtain ⟨rfl, -, rfl⟩ := hv
  have HC : Hid (∀ i, i / 64 < ws.length → w.cell? ⟨g, o + i / 64, none⟩ = some (.int .u64 ((ws.getD (i / 64) 0 : Nat) : Int))) := fun i hi => hcell _ _ (by rw [List.getD_eq_getElem?_getD, List.getElem?_eq_getElem hi]; rfl)
  rw [← hLq] at hd hpos hsz ⊢
  clear hLq hcell H hl hw
  go_enter Tryz.func68, Tryz.ntmps68
  go_wp2_with fail
  refine hN.mono ?_
  rintro e w1 ⟨rfl, hB, hb, hs⟩
  have HB : Hid _ := hB
  have Hb : Hid (Below w.heap.size w w1) := hb
  obtain ⟨c, hcq⟩ : ∃ b, b = w.heap.size + 1 := ⟨_, rfl⟩
  obtain ⟨h, hhq⟩ : ∃ gg, gg = w.heap.size := ⟨_, rfl⟩
  have HHQ : Hid (h = w.heap.size) := hhq
  have HCQ : Hid (c = w.heap.size + 1) := hcq
  have hwr := wrap_small L (by omega)
  rw [← hcq] at HB ⊢
  rw [← hhq] at HB
  clear hB hb hs hN hcq hhq
  go_wp2
  go_loopw [7] (fun s wr => ∃ (i : Nat) (B : List Bool), i ≤ 64 * L ∧ s = .int .i64 i ∧ RbAt wr c h B ∧ Hid (B.length = n) ∧ Below w.heap.size w wr ∧ Hid (∀ j, j < n → bf B j = (decide (j < i) && bt ws j))) (fun s _ => 64 * L - (intOf s).toNat)
  case atStart => exact ⟨0, _, by omega, rfl, HB.out, by simp [Hid], Hb.out, fun j hj => by unfold bf; simp [List.getD_eq_getElem?_getD, List.getElem?_replicate]; split <;> rfl⟩
  case round =>
    clear HB Hb
    obtain ⟨i, B, hi, rfl, hB, HBl, hb, HA⟩ := hrel
    have HB : Hid _ := hB
    have Hb : Hid (Below w.heap.size w wr) := hb
    by_cases hlt : i < 64 * L
    · have hii : (i : Int) < 64 * (L : Int) := by omega
      have hq : i / 64 < L := by omega
      have hqw : i / 64 < ws.length := by rw [← HLq.out]; exact hq
      have c1 := HC.out i hqw
      have c1 : wr.cell? ⟨g, o + i / 64, none⟩ = _ := (hb.cell (cell_lt c1)).trans c1
      have ha := and_one (ws.getD (i / 64) 0) (i % 64) (hWL.out i hqw)
      have ho := one_bit (ws.getD (i / 64) 0) (i % 64)
      have hbt : (ws.getD (i / 64) 0).testBit (i % 64) = bt ws i := rfl
      rw [hbt] at ho
      have hd1 := tdiv64 i
      have ht1 := tmod64 i
      have hr64 : i % 64 < 64 := Nat.mod_lt _ (by omega)
      have c0 := hB.c0
      rw [HBl.out] at c0
      generalize ws.getD (i / 64) 0 / 2 ^ (i % 64) % 2 = t at *
      generalize ws.getD (i / 64) 0 = x at *
      obtain ⟨p, hp⟩ : ∃ p, p = i / 64 := ⟨_, rfl⟩
      obtain ⟨r, hr⟩ : ∃ r, r = i % 64 := ⟨_, rfl⟩
      have hwr := wrap_small p (by omega)
      rw [← hp] at hd1 hq c1
      rw [← hr] at ht1 hr64 ha
      clear hbt
      cases hB2 : bt ws i with
      | false =>
        rw [hB2] at ho
        have HBF : Hid (bt ws i = false) := hB2
        have ho : ((t : Int) == 0) = true := ho
        clear hp hr hB hb hqw hB2 HC hWL
        go_wp2
        go_roundw
        case rel =>
          refine ⟨i + 1, B, by omega, by go_num, HB.out, HBl, Hb.out, fun j hj => ?_⟩
          rw [HA.out j hj]
          by_cases e : j = i
          · rw [e, HBF.out, Bool.and_false, Bool.and_false]
          · congr 1
            exact decide_eq_decide.2 (by omega)
        case measure => simp [intOf]; omega
      | true =>
        rw [hB2] at ho
        have HBF : Hid (bt ws i = true) := hB2
        have ho : ((t : Int) == 0) = false := ho
        have hin : i < n := by
          rcases Nat.lt_or_ge i n with q | q
          · exact q
          · rw [HWf.out.past i q] at hB2
            cases hB2
        have g1 : decide ((n : Int) ≤ (i : Int)) = false := decide_eq_false (by omega)
        have hiN : (i : Int) < (n : Int) := by omega
        have c2 := hB.bl.cell (i := i) (by rw [HBl.out]; exact hin)
        have f2 := hB.bl.free i
        generalize B.getD i false = y at *
        clear hp hr hB hb hqw hB2 HC hWL
        go_wp2
        go_roundw
        case rel =>
          refine ⟨i + 1, _, by omega, by go_num, RbAt.set HB.out i true, by show _ = _; rw [List.length_set]; exact HBl.out, upd_belowR Hb.out (Upd.setCell h i wr _) (by have := HHQ.out; omega) Hb.out.size, fun j hj => ?_⟩
          rw [bf_set _ _ _ _ (by rw [HBl.out]; exact hin), HA.out j hj]
          by_cases e : j = i
          · rw [if_pos e, e, HBF.out, Bool.and_true]
            exact (decide_eq_true (by omega)).symm
          · rw [if_neg e]
            congr 1
            exact decide_eq_decide.2 (by omega)
        case measure => simp [intOf]; omega
    · have hii : decide ((i : Int) < 64 * (L : Int)) = false := decide_eq_false (by omega)
      have HY : Hid (∀ j, j < n → bf B j = bt ws j) := fun j hj => by rw [HA.out j hj, decide_eq_true (by omega), Bool.true_and]
      clear hB hb HC hWL
      go_wp2
      go_ret2
      exact ⟨c, rfl, ⟨h, B, HB.out, HBl.out, HY.out, HWf.out, by have := HCQ.out; omega, by have := HHQ.out; omega⟩, Hb.out⟩
end Bi
end Go.Proofs.YtcaofdbcgdgbbaaGreatDoor
