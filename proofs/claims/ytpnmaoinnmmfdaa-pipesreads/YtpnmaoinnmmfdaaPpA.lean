/- Package pipes: a ring in the heap; at, length. -/
import Derived.Test.YtpnmaoinnmmfdaaRows
import Derived.Test.YtpnmaoinnmmfdaaOwnR
import Derived.Test.YtpnmaoinnmmfdaaPpM
import Derived.WalkKit
import Derived.WalkSpells
import Derived.WalkLawsBesides
import Derived.Deep.RegionHeld3
import Derived.Deep.QuietTactic
import Derived.Deep.AppendLies
import Derived.Deep.MidRow
import Derived.Lib.MinMax
import Derived.BigRegion
import Derived.BigQuiet
namespace Go.Proofs.Ytpnmaoinnmmfdaa
open Go.RowKit
set_option linter.unusedVariables false

/-- A ring at place o of a row: its eldest place is e, in it are the bytes l. -/
structure Ring (row : Array Value) (o e : Nat) (l : List UInt8) : Prop where
  size : o + 17 ≤ row.size
  el : e < 8
  len : l.length ≤ 8
  eld : row[o + 16]? = some (.int .i64 (e : Nat))
  used : ∀ j, j < 8 → row[o + (e + j) % 8 * 2]? = some (.bool (decide (j < l.length)))
  val : ∀ j, j < 8 → row[o + (e + j) % 8 * 2 + 1]? = some (.int .u8 (byt l j))
theorem Ring.keep {row row' : Array Value} {o e : Nat} {l : List UInt8} (h : Ring row o e l) (hs : row'.size = row.size) (hk : ∀ k, o ≤ k → k < o + 17 → row'[k]? = row[k]?) : Ring row' o e l := by
  refine ⟨by rw [hs]; exact h.size, h.el, h.len, ?_, fun j hj => ?_, fun j hj => ?_⟩
  · rw [hk _ (by omega) (by omega)]; exact h.eld
  · rw [hk _ (by omega) (by omega)]; exact h.used j hj
  · rw [hk _ (by omega) (by omega)]; exact h.val j hj
/-- A byte is laid behind those that are there. -/
theorem Ring.snoc {row : Array Value} {o e : Nat} {l : List UInt8} (h : Ring row o e l) (x : UInt8) (hl : l.length < 8) :
    Ring ((row.setIfInBounds (o + (e + l.length) % 8 * 2) (.bool true)).setIfInBounds (o + (e + l.length) % 8 * 2 + 1) (.int .u8 (x.toNat : Int))) o e (l ++ [x]) := by
  have hs := h.size
  have he := h.el
  refine ⟨by simpa using hs, he, by simp; omega, ?_, fun j hj => ?_, fun j hj => ?_⟩
  · rw [Array.getElem?_setIfInBounds, if_neg (by omega), Array.getElem?_setIfInBounds, if_neg (by omega)]; exact h.eld
  · rw [Array.getElem?_setIfInBounds, if_neg (by omega), Array.getElem?_setIfInBounds]
    by_cases ej : j = l.length
    · subst ej
      rw [if_pos rfl, if_pos (by omega)]
      simp
    · have h2 : decide (j < (l ++ [x]).length) = decide (j < l.length) := by
        rw [List.length_append]
        simp only [List.length_cons, List.length_nil, decide_eq_decide]
        omega
      rw [if_neg (by omega), h.used j hj, h2]
  · rw [Array.getElem?_setIfInBounds]
    by_cases ej : j = l.length
    · subst ej
      rw [if_pos rfl, if_pos (by rw [Array.size_setIfInBounds]; omega), byt_snoc]
    · rw [if_neg (by omega), Array.getElem?_setIfInBounds, if_neg (by omega), h.val j hj]
      rcases Nat.lt_or_ge j l.length with q | q
      · rw [byt_app_lt q]
      · rw [byt_no q, byt_no (by simp; omega)]
/-- The eldest byte goes. -/
theorem Ring.pop {row : Array Value} {o e : Nat} {x : UInt8} {l : List UInt8} (h : Ring row o e (x :: l)) :
    Ring (((row.setIfInBounds (o + e * 2) (.bool false)).setIfInBounds (o + e * 2 + 1) (.int .u8 0)).setIfInBounds (o + 16) (.int .i64 (((e + 1) % 8 : Nat) : Int))) o ((e + 1) % 8) l := by
  have hs := h.size
  have he := h.el
  have hl := h.len
  rw [List.length_cons] at hl
  refine ⟨by simpa using hs, by omega, by omega, ?_, fun j hj => ?_, fun j hj => ?_⟩
  · rw [Array.getElem?_setIfInBounds, if_pos rfl, if_pos (by rw [Array.size_setIfInBounds, Array.size_setIfInBounds]; omega)]
  · rw [Array.getElem?_setIfInBounds, if_neg (by omega), Array.getElem?_setIfInBounds, if_neg (by omega), Array.getElem?_setIfInBounds]
    by_cases ej : j = 7
    · subst ej
      rw [if_pos (by omega), if_pos (by omega), decide_eq_false (by omega)]
    · have := h.used (j + 1) (by omega)
      rw [if_neg (by omega), show ((e + 1) % 8 + j) % 8 = (e + (j + 1)) % 8 by omega, this, List.length_cons]
      simp only [Nat.add_lt_add_iff_right]
  · rw [Array.getElem?_setIfInBounds, if_neg (by omega), Array.getElem?_setIfInBounds]
    by_cases ej : j = 7
    · subst ej
      rw [if_pos (by omega), if_pos (by rw [Array.size_setIfInBounds]; omega), byt_no (by omega)]
    · have := h.val (j + 1) (by omega)
      rw [if_neg (by omega), Array.getElem?_setIfInBounds, if_neg (by omega), show ((e + 1) % 8 + j) % 8 = (e + (j + 1)) % 8 by omega, this, byt_cons]
/-- Block b holds this row. -/
def PB (w : World) (b : Nat) (row : Array Value) : Prop := w.heap[b]? = some (.cells row 60)
section
variable {w w' : World} {b : Nat} {row : Array Value}
theorem PB.lt (h : PB w b row) : b < w.heap.size := lt_of_heap h
theorem PB.keep (h : PB w b row) (hb : w'.heap[b]? = w.heap[b]?) : PB w' b row := hb.trans h
theorem PB.below (h : PB w b row) (hb : Below w.heap.size w w') : PB w' b row := h.keep (hb.block _ h.lt)
theorem PB.drew (h : PB w b row) : PB w.drew b row := h
theorem PB.cell (h : PB w b row) (i : Nat) : w.cell? ⟨b, i, none⟩ = row[i]? := cell_of_heap h
theorem PB.free (h : PB w b row) (i : Nat) : w.frozen? ⟨b, i, none⟩ = false := frozen_of_heap h
theorem PB.set (h : PB w b row) (i : Nat) (v : Value) : PB (w.setCell ⟨b, i, none⟩ v) b (row.setIfInBounds i v) := by
  unfold PB at *
  rw [setCell_eq_setRow w b i _ _ _ _ h, setRow_heap w b _ _ _ _ h]
end

set_option maxHeartbeats 2000000 in
theorem at_at (b o e i : Nat) (l : List UInt8) (row : Array Value) (w : World) (hb : PB w b row) (hr : Ring row o e l) (hi : i ≤ 16) :
    Calls Try.prog 34 #[.pointer (some ⟨b, o, none⟩), .int .i64 i] w fun x w' => x = .returned (.pointer (some ⟨b, o + (e + i) % 8 * 2, none⟩)) ∧ w' = w.drew := by
  have c0 := (hb.cell (o + 16)).trans hr.eld
  have c1 := (hb.drew.cell (o + 16)).trans hr.eld
  have he := hr.el
  have hsum : IntKind.i64.wrap ((e : Int) + (i : Int)) = (e : Int) + (i : Int) := by simp [IntKind.wrap, IntKind.bits, IntKind.signed]; omega
  obtain ⟨p, hp⟩ : ∃ p, p = (e + i) % 8 := ⟨_, rfl⟩
  have hp8 : p < 8 := by omega
  have hrem : ((e : Int) + (i : Int)).tmod 8 = (p : Int) := by rw [hp, Int.tmod_eq_emod_of_nonneg (by omega)]; omega
  have hrem2 : ((e : Int) + (i : Int)) % 8 = (p : Int) := by rw [hp]; omega
  have hpi : (p : Int) < 8 := by omega
  rw [← hp]
  clear hb hr hp
  go_enter Try.func34, Try.ntmps34
  go_wp2_with fail
  go_region
  all_goals
    go_wp2
    go_ret
    exact ⟨rfl, rfl⟩

set_option maxHeartbeats 2000000 in
theorem length_at (b o e : Nat) (l : List UInt8) (row : Array Value) (w : World) (hb : PB w b row) (hr : Ring row o e l) :
    Calls Try.prog 33 #[.pointer (some ⟨b, o, none⟩)] w fun x w' => x = .returned (.int .i64 l.length) ∧ Below w.heap.size w w' := by
  have HH : Hid (PB w b row) := hb
  have HR : Hid (Ring row o e l) := hr
  have hl := hr.len
  generalize hL : l.length = L at *
  have HL : Hid (l.length = L) := hL
  clear hb hr hL
  go_enter Try.func33, Try.ntmps33
  go_wp2
  go_loopw [3] (fun s wr => ∃ (k : Nat), k ≤ L ∧ s = .int .i64 k ∧ Below w.heap.size w wr) (fun s _ => 8 - (intOf s).toNat)
  case atStart => exact ⟨0, by omega, rfl, Below.refl _ _⟩
  case round =>
    obtain ⟨k, hk, rfl, hB⟩ := hrel
    have HB : Hid (Below w.heap.size w wr) := hB
    by_cases h8 : k < 8
    · have hP := HH.out.below hB
      have g0 : decide ((k : Int) < 8) = true := decide_eq_true (by omega)
      have hA := at_at b o e k l row wr hP HR.out (by omega)
      have c0 := (hP.drew.cell _).trans (HR.out.used k h8)
      generalize (e + k) % 8 = p at *
      rw [HL.out] at c0
      by_cases hlt : k < L
      · rw [decide_eq_true hlt] at c0
        clear hP hB
        go_wp2_with fail
        refine hA.mono ?_
        rintro x w1 ⟨rfl, hw⟩
        rw [hw]
        clear hw w1 hA
        go_wp2
        go_roundw
        case rel => exact ⟨k + 1, by omega, by go_num, HB.out.drew⟩
        case measure => simp [intOf]; omega
      · rw [decide_eq_false hlt] at c0
        obtain rfl : k = L := by omega
        clear hP hB hlt
        go_wp2_with fail
        refine hA.mono ?_
        rintro x w1 ⟨rfl, hw⟩
        rw [hw]
        clear hw w1 hA
        go_wp2
        go_ret
        exact ⟨rfl, HB.out.drew⟩
    · have g0 : decide ((k : Int) < 8) = false := decide_eq_false (by omega)
      obtain rfl : k = L := by omega
      clear hB
      go_wp2
      go_ret
      exact ⟨rfl, HB.out⟩
end Go.Proofs.Ytpnmaoinnmmfdaa
