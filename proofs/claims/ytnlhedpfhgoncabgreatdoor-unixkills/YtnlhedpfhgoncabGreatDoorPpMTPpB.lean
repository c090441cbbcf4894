/- Pipes as plain data: what each call answers and leaves, their words, and what any words say. -/
/- Package pipes: a ring in the heap; at, length. -/
/- Package pipes: a ring's put, bytes, take, empty. -/
import Derived.Test.YtnlhedpfhgoncabGreatDoorPlain
import Derived.Test.YtnlhedpfhgoncabGreatDoorRows
import Derived.Test.YtnlhedpfhgoncabGreatDoorOwnR
import Derived.WalkKit
import Derived.WalkSpells
import Derived.WalkLawsBesides
import Derived.Deep.RegionHeld3
import Derived.Deep.QuietTactic
import Derived.Deep.AppendLies
import Derived.Deep.MidRow
import Derived.Lib.MinMax
import Derived.BigRegion
import Derived.BigQuiet
import Derived.Laws.IdiomStrings
set_option linter.all false
namespace Go.Proofs.YtnlhedpfhgoncabGreatDoor
open Go.RowKit
namespace Ow
end Ow
namespace Pp
open Ow
/-- The bytes of a text as numbers. -/
def nums (l : List UInt8) : List Int := l.map (fun b => (b.toNat : Int))
theorem nums_len (l : List UInt8) : (nums l).length = l.length := by simp [nums]
theorem nums_get? {l : List UInt8} {j : Nat} {x : UInt8} (h : l[j]? = some x) : (nums l)[j]? = some (x.toNat : Int) := by simp [nums, h]
theorem nums_app (l m : List UInt8) : nums (l ++ m) = nums l ++ nums m := by simp [nums]
/-- The byte at a place, 0 where there is none. -/
def byt (l : List UInt8) (j : Nat) : Int := (nums l).getD j 0
theorem byt_get {l : List UInt8} {j : Nat} {x : UInt8} (h : l[j]? = some x) : byt l j = (x.toNat : Int) := by
  unfold byt
  rw [List.getD_eq_getElem?_getD, nums_get? h]
  rfl
theorem byt_no {l : List UInt8} {j : Nat} (h : l.length ≤ j) : byt l j = 0 := by
  unfold byt
  rw [List.getD_eq_getElem?_getD, List.getElem?_eq_none (by rw [nums_len]; exact h)]
  rfl
theorem byt_app_lt {l m : List UInt8} {j : Nat} (h : j < l.length) : byt (l ++ m) j = byt l j := by
  unfold byt
  rw [nums_app, List.getD_eq_getElem?_getD, List.getElem?_append_left (by rw [nums_len]; exact h), List.getD_eq_getElem?_getD]
theorem byt_snoc (l : List UInt8) (x : UInt8) : byt (l ++ [x]) l.length = (x.toNat : Int) := byt_get (by simp)
theorem byt_cons (l : List UInt8) (x : UInt8) (j : Nat) : byt (x :: l) (j + 1) = byt l j := by simp [byt, nums]
/-- Pipes: none, or what is in it. -/
abbrev PS := Nat → Option (List UInt8)
def PS.none : PS := fun _ => Option.none
def PS.set (S : PS) (i : Nat) (o : Option (List UInt8)) : PS := fun k => if k = i then o else S k
theorem PS.set_same (S : PS) (i : Nat) (o : Option (List UInt8)) : S.set i o i = o := if_pos rfl
theorem PS.set_other (S : PS) (i k : Nat) (o : Option (List UInt8)) (h : k ≠ i) : S.set i o k = S k := if_neg h
/-- Numbers of pipes that are. -/
def has (S : PS) (n : Int) : Bool := decide (0 ≤ n) && decide (n < 16) && (S n.toNat).isSome
theorem has_nat {S : PS} {n : Int} (h : has S n = true) : ∃ (i : Nat) (l : List UInt8), n = (i : Int) ∧ i < 16 ∧ S i = some l := by
  unfold has at h
  simp only [Bool.and_eq_true, decide_eq_true_eq] at h
  obtain ⟨⟨h1, h2⟩, h3⟩ := h
  obtain ⟨l, hl⟩ := Option.isSome_iff_exists.1 h3
  exact ⟨n.toNat, l, by omega, by omega, hl⟩
theorem has_of {S : PS} {i : Nat} {l : List UInt8} (hi : i < 16) (hl : S i = some l) : has S (i : Int) = true := by
  unfold has
  rw [decide_eq_true (show (0 : Int) ≤ (i : Int) by omega), decide_eq_true (show (i : Int) < 16 by omega), Int.toNat_natCast, hl]
  rfl
theorem has_no {S : PS} {n : Int} (h : has S n = false) : n < 0 ∨ 16 ≤ n ∨ ∃ i : Nat, n = (i : Int) ∧ i < 16 ∧ S i = Option.none := by
  by_cases h1 : n < 0
  · exact Or.inl h1
  · by_cases h2 : 16 ≤ n
    · exact Or.inr (Or.inl h2)
    · refine Or.inr (Or.inr ⟨n.toNat, by omega, by omega, ?_⟩)
      unfold has at h
      rw [decide_eq_true (show 0 ≤ n by omega), decide_eq_true (show n < 16 by omega)] at h
      cases hs : S n.toNat with
      | none => rfl
      | some l => rw [hs] at h; cases h
/-- What is in it, nothing where there is none. -/
def inn (S : PS) (n : Int) : List UInt8 := if has S n then (S n.toNat).getD [] else []
theorem inn_of {S : PS} {i : Nat} {l : List UInt8} (hi : i < 16) (hl : S i = some l) : inn S (i : Int) = l := by
  unfold inn
  rw [if_pos (has_of hi hl), Int.toNat_natCast, hl]
  rfl
theorem inn_no {S : PS} {n : Int} (h : has S n = false) : inn S n = [] := by
  unfold inn
  rw [h]
  rfl
/-- The lowest number that is free, 16 where there is none. -/
def lowF (S : PS) : Nat → Nat → Nat
  | _, 0 => 16
  | i, k + 1 => if (S i).isNone then i else lowF S (i + 1) k
def free (S : PS) : Nat := lowF S 0 16
theorem lowF_here {S : PS} {i k : Nat} (h : S i = Option.none) : lowF S i (k + 1) = i := by
  unfold lowF
  rw [h]
  rfl
theorem lowF_next {S : PS} {i k : Nat} {l : List UInt8} (h : S i = some l) : lowF S i (k + 1) = lowF S (i + 1) k := by
  conv => lhs; unfold lowF
  rw [h]
  rfl
/-- Make: the number, the error, what is there then. -/
def mkI (S : PS) : Int := if free S < 16 then (free S : Int) else 0
def mkE (S : PS) : Int := if free S < 16 then 0 else 11
def mkS (S : PS) : PS := if free S < 16 then S.set (free S) (some []) else S
/-- Put: how many, what is there then. -/
def putN (l s : List UInt8) : Nat := min s.length (8 - l.length)
def putL (l s : List UInt8) : List UInt8 := l ++ s.take (8 - l.length)
def puI (S : PS) (n : Int) (s : List UInt8) : Int := if has S n then (putN (inn S n) s : Int) else 0
def puS (S : PS) (n : Int) (s : List UInt8) : PS := if has S n then S.set n.toNat (some (putL (inn S n) s)) else S
/-- How many bytes are taken. -/
def tk (l : List UInt8) (n : Int) : Nat := (min (max n 0) (l.length : Int)).toNat
theorem tk_le (l : List UInt8) (n : Int) : tk l n ≤ l.length := by unfold tk; omega
def taT (S : PS) (n k : Int) : List UInt8 := (inn S n).take (tk (inn S n) k)
def taS (S : PS) (n k : Int) : PS := if has S n then S.set n.toNat (some ((inn S n).drop (tk (inn S n) k))) else S
/-- No pipe has more than its size. -/
def Fit8 (S : PS) : Prop := ∀ i l, i < 16 → S i = some l → l.length ≤ 8
end Pp
end Go.Proofs.YtnlhedpfhgoncabGreatDoor
namespace Go.Proofs.YtnlhedpfhgoncabGreatDoor
open Go.RowKit
namespace Ow
end Ow
namespace Pp
open Ow
/-- A ring at place o of a row: its eldest place is e, in it are the bytes l. -/
structure Ring (row : Array Value) (o e : Nat) (l : List UInt8) : Prop where
  size : o + 17 ≤ row.size
  el : e < 8
  len : l.length ≤ 8
  eld : row[o + 16]? = some (.int .i64 (e : Nat))
  used : ∀ j, j < 8 → row[o + (e + j) % 8 * 2]? = some (.bool (decide (j < l.length)))
  val : ∀ j, j < 8 → row[o + (e + j) % 8 * 2 + 1]? = some (.int .u8 (byt l j))
theorem Ring.keep {row row' : Array Value} {o e : Nat} {l : List UInt8} (h : Ring row o e l) (hs : row'.size = row.size) (hk : ∀ k, o ≤ k → k < o + 17 → row'[k]? = row[k]?) : Ring row' o e l := by
  refine ⟨by rw [hs]; exact h.size, h.el, h.len, ?_, fun j hj => ?_, fun j hj => ?_⟩
  · rw [hk _ (by omega) (by omega)]; exact h.eld
  · rw [hk _ (by omega) (by omega)]; exact h.used j hj
  · rw [hk _ (by omega) (by omega)]; exact h.val j hj
/-- A byte is laid behind those that are there. -/
theorem Ring.snoc {row : Array Value} {o e : Nat} {l : List UInt8} (h : Ring row o e l) (x : UInt8) (hl : l.length < 8) :
    Ring ((row.setIfInBounds (o + (e + l.length) % 8 * 2) (.bool true)).setIfInBounds (o + (e + l.length) % 8 * 2 + 1) (.int .u8 (x.toNat : Int))) o e (l ++ [x]) := by
  have hs := h.size
  have he := h.el
  refine ⟨by simpa using hs, he, by simp; omega, ?_, fun j hj => ?_, fun j hj => ?_⟩
  · rw [Array.getElem?_setIfInBounds, if_neg (by omega), Array.getElem?_setIfInBounds, if_neg (by omega)]; exact h.eld
  · rw [Array.getElem?_setIfInBounds, if_neg (by omega), Array.getElem?_setIfInBounds]
    by_cases ej : j = l.length
    · subst ej
      rw [if_pos rfl, if_pos (by omega)]
      simp
    · have h2 : decide (j < (l ++ [x]).length) = decide (j < l.length) := by
        rw [List.length_append]
        simp only [List.length_cons, List.length_nil, decide_eq_decide]
        omega
      rw [if_neg (by omega), h.used j hj, h2]
  · rw [Array.getElem?_setIfInBounds]
    by_cases ej : j = l.length
    · subst ej
      rw [if_pos rfl, if_pos (by rw [Array.size_setIfInBounds]; omega), byt_snoc]
    · rw [if_neg (by omega), Array.getElem?_setIfInBounds, if_neg (by omega), h.val j hj]
      rcases Nat.lt_or_ge j l.length with q | q
      · rw [byt_app_lt q]
      · rw [byt_no q, byt_no (by simp; omega)]
/-- The eldest byte goes. -/
theorem Ring.pop {row : Array Value} {o e : Nat} {x : UInt8} {l : List UInt8} (h : Ring row o e (x :: l)) :
    Ring (((row.setIfInBounds (o + e * 2) (.bool false)).setIfInBounds (o + e * 2 + 1) (.int .u8 0)).setIfInBounds (o + 16) (.int .i64 (((e + 1) % 8 : Nat) : Int))) o ((e + 1) % 8) l := by
  have hs := h.size
  have he := h.el
  have hl := h.len
  rw [List.length_cons] at hl
  refine ⟨by simpa using hs, by omega, by omega, ?_, fun j hj => ?_, fun j hj => ?_⟩
  · rw [Array.getElem?_setIfInBounds, if_pos rfl, if_pos (by rw [Array.size_setIfInBounds, Array.size_setIfInBounds]; omega)]
  · rw [Array.getElem?_setIfInBounds, if_neg (by omega), Array.getElem?_setIfInBounds, if_neg (by omega), Array.getElem?_setIfInBounds]
    by_cases ej : j = 7
    · subst ej
      rw [if_pos (by omega), if_pos (by omega), decide_eq_false (by omega)]
    · have := h.used (j + 1) (by omega)
      rw [if_neg (by omega), show ((e + 1) % 8 + j) % 8 = (e + (j + 1)) % 8 by omega, this, List.length_cons]
      simp only [Nat.add_lt_add_iff_right]
  · rw [Array.getElem?_setIfInBounds, if_neg (by omega), Array.getElem?_setIfInBounds]
    by_cases ej : j = 7
    · subst ej
      rw [if_pos (by omega), if_pos (by rw [Array.size_setIfInBounds]; omega), byt_no (by omega)]
    · have := h.val (j + 1) (by omega)
      rw [if_neg (by omega), Array.getElem?_setIfInBounds, if_neg (by omega), show ((e + 1) % 8 + j) % 8 = (e + (j + 1)) % 8 by omega, this, byt_cons]
/-- Block b holds this row. -/
def PB (w : World) (b : Nat) (row : Array Value) : Prop := w.heap[b]? = some (.cells row 157)
section
variable {w w' : World} {b : Nat} {row : Array Value}
theorem PB.lt (h : PB w b row) : b < w.heap.size := lt_of_heap h
theorem PB.keep (h : PB w b row) (hb : w'.heap[b]? = w.heap[b]?) : PB w' b row := hb.trans h
theorem PB.below (h : PB w b row) (hb : Below w.heap.size w w') : PB w' b row := h.keep (hb.block _ h.lt)
theorem PB.drew (h : PB w b row) : PB w.drew b row := h
theorem PB.cell (h : PB w b row) (i : Nat) : w.cell? ⟨b, i, none⟩ = row[i]? := cell_of_heap h
theorem PB.free (h : PB w b row) (i : Nat) : w.frozen? ⟨b, i, none⟩ = false := frozen_of_heap h
theorem PB.set (h : PB w b row) (i : Nat) (v : Value) : PB (w.setCell ⟨b, i, none⟩ v) b (row.setIfInBounds i v) := by
  unfold PB at *
  rw [setCell_eq_setRow w b i _ _ _ _ h, setRow_heap w b _ _ _ _ h]
end
set_option maxHeartbeats 2000000 in
theorem at_at (b o e i : Nat) (l : List UInt8) (row : Array Value) (w : World) (hb : PB w b row) (hr : Ring row o e l) (hi : i ≤ 16) :
    Calls Tryz.prog 282 #[.pointer (some ⟨b, o, none⟩), .int .i64 i] w fun x w' => x = .returned (.pointer (some ⟨b, o + (e + i) % 8 * 2, none⟩)) ∧ w' = w.drew := by
  have c0 := (hb.cell (o + 16)).trans hr.eld
  have c1 := (hb.drew.cell (o + 16)).trans hr.eld
  have he := hr.el
  have hsum : IntKind.i64.wrap ((e : Int) + (i : Int)) = (e : Int) + (i : Int) := by simp [IntKind.wrap, IntKind.bits, IntKind.signed]; omega
  obtain ⟨p, hp⟩ : ∃ p, p = (e + i) % 8 := ⟨_, rfl⟩
  have hp8 : p < 8 := by omega
  have hrem : ((e : Int) + (i : Int)).tmod 8 = (p : Int) := by rw [hp, Int.tmod_eq_emod_of_nonneg (by omega)]; omega
  have hrem2 : ((e : Int) + (i : Int)) % 8 = (p : Int) := by rw [hp]; omega
  have hpi : (p : Int) < 8 := by omega
  rw [← hp]
  clear hb hr hp
  go_enter Tryz.func282, Tryz.ntmps282
  go_wp2_with fail
  go_region
  all_goals
    go_wp2
    go_ret
    exact ⟨rfl, rfl⟩
set_option maxHeartbeats 2000000 in
theorem length_at (b o e : Nat) (l : List UInt8) (row : Array Value) (w : World) (hb : PB w b row) (hr : Ring row o e l) :
    Calls Tryz.prog 284 #[.pointer (some ⟨b, o, none⟩)] w fun x w' => x = .returned (.int .i64 l.length) ∧ Below w.heap.size w w' := by
  have HH : Hid (PB w b row) := hb
  have HR : Hid (Ring row o e l) := hr
  have hl := hr.len
  generalize hL : l.length = L at *
  have HL : Hid (l.length = L) := hL
  clear hb hr hL
  go_enter Tryz.func284, Tryz.ntmps284
  go_wp2
  go_loopw [3] (fun s wr => ∃ (k : Nat), k ≤ L ∧ s = .int .i64 k ∧ Below w.heap.size w wr) (fun s _ => 8 - (intOf s).toNat)
  case atStart => exact ⟨0, by omega, rfl, Below.refl _ _⟩
  case round =>
    obtain ⟨k, hk, rfl, hB⟩ := hrel
    have HB : Hid (Below w.heap.size w wr) := hB
    by_cases h8 : k < 8
    · have hP := HH.out.below hB
      have g0 : decide ((k : Int) < 8) = true := decide_eq_true (by omega)
      have hA := at_at b o e k l row wr hP HR.out (by omega)
      have c0 := (hP.drew.cell _).trans (HR.out.used k h8)
      generalize (e + k) % 8 = p at *
      rw [HL.out] at c0
      by_cases hlt : k < L
      · rw [decide_eq_true hlt] at c0
        clear hP hB
        go_wp2_with fail
        refine hA.mono ?_
        rintro x w1 ⟨rfl, hw⟩
        rw [hw]
        clear hw w1 hA
        go_wp2
        go_roundw
        case rel => exact ⟨k + 1, by omega, by go_num, HB.out.drew⟩
        case measure => simp [intOf]; omega
      · rw [decide_eq_false hlt] at c0
        obtain rfl : k = L := by omega
        clear hP hB hlt
        go_wp2_with fail
        refine hA.mono ?_
        rintro x w1 ⟨rfl, hw⟩
        rw [hw]
        clear hw w1 hA
        go_wp2
        go_ret
        exact ⟨rfl, HB.out.drew⟩
    · have g0 : decide ((k : Int) < 8) = false := decide_eq_false (by omega)
      obtain rfl : k = L := by omega
      clear hB
      go_wp2
      go_ret
      exact ⟨rfl, HB.out⟩
end Pp
end Go.Proofs.YtnlhedpfhgoncabGreatDoor
namespace Go.Proofs.YtnlhedpfhgoncabGreatDoor
open Go.RowKit Go.Lib
namespace Ow
end Ow
namespace Pp
open Ow
/-- A text as a value. -/
abbrev tx (l : List UInt8) : Value := .string ⟨l.toArray⟩
theorem tx_index (l : List UInt8) (j : Nat) (h : j < l.length) (W : World) : (Instr.index 9 (tx l) (.int .i64 (j : Int))).run Tryz.prog W = .ok (.int .u8 (byt l j)) W := by
  rw [run_index_string W _ _ _ _ Tryz.underlying9]
  rw [dif_pos (by simp [ByteArray.size]; omega)]
  rw [byt_get (List.getElem?_eq_getElem h)]
  have h1 : (ByteArray.mk l.toArray)[((j : Int)).toNat]'(by simp [ByteArray.size]; omega) = l[j] := by
    show l.toArray[((j : Int)).toNat]'_ = _
    simp
  rw [h1]
/-- Two rows are the same but for the ring at o. -/
def Same (o : Nat) (row row' : Array Value) : Prop := row'.size = row.size ∧ ∀ i, (i < o ∨ o + 17 ≤ i) → row'[i]? = row[i]?
theorem Same.refl (o : Nat) (row : Array Value) : Same o row row := ⟨rfl, fun _ _ => rfl⟩
theorem Same.trans {o : Nat} {a b c : Array Value} (h : Same o a b) (k : Same o b c) : Same o a c := ⟨k.1.trans h.1, fun i hi => (k.2 i hi).trans (h.2 i hi)⟩
theorem Same.set {o : Nat} (row : Array Value) (i : Nat) (v : Value) (h1 : o ≤ i) (h2 : i < o + 17) : Same o row (row.setIfInBounds i v) :=
  ⟨by simp, fun k hk => by rw [Array.getElem?_setIfInBounds, if_neg (by omega)]⟩
theorem take_snoc {s : List UInt8} {k : Nat} {x : UInt8} (h : s[k]? = some x) : s.take (k + 1) = s.take k ++ [x] := by
  rw [List.take_add_one, h]
  rfl
set_option maxRecDepth 100000 in
set_option maxHeartbeats 4000000 in
theorem rput_at (b o e : Nat) (l s : List UInt8) (row : Array Value) (w : World) (hb : PB w b row) (hr : Ring row o e l) :
    Calls Tryz.prog 231 #[.pointer (some ⟨b, o, none⟩), tx s] w fun x w' => x = .returned (.int .i64 (putN l s)) ∧ ∃ row', PB w' b row' ∧ Ring row' o e (putL l s) ∧ Same o row row' ∧ Upd b w w' := by
  have hL := length_at b o e l row w hb hr
  have HH : Hid (PB w b row) := hb
  have HR : Hid (Ring row o e l) := hr
  have hl8 := hr.len
  have hsz : (ByteArray.mk s.toArray).size = s.length := by simp [ByteArray.size]
  have hN : min (s.length : Int) (8 - (l.length : Int)) = (putN l s : Int) := by unfold putN; omega
  have HP : Hid (putL l s = l ++ s.take (putN l s)) := by
    show _ = _
    unfold putL putN
    rw [List.append_cancel_left_eq]
    rcases Nat.le_total s.length (8 - l.length) with q | q
    · rw [Nat.min_eq_left q, List.take_of_length_le q, List.take_length]
    · rw [Nat.min_eq_right q]
  have hn8 : putN l s ≤ 8 - l.length ∧ putN l s ≤ s.length := by unfold putN; omega
  have hwl : IntKind.i64.wrap (8 - (l.length : Int)) = 8 - (l.length : Int) := by simp [IntKind.wrap, IntKind.bits, IntKind.signed]; omega
  generalize putN l s = n at *
  generalize hq : l.length = L at *
  have HQ : Hid (l.length = L) := hq
  generalize hq2 : s.length = sl at *
  have HQ2 : Hid (s.length = sl) := hq2
  obtain ⟨hn8, hns⟩ := hn8
  clear hb hr hq hq2
  go_enter Tryz.func231, Tryz.ntmps231
  go_wp2_with fail
  refine hL.mono ?_
  rintro x w1 ⟨rfl, hb1⟩
  have HB1 : Hid (Below w.heap.size w w1) := hb1
  clear hL hb1
  go_wp2
  go_loopw [16] (fun i wr => ∃ (k : Nat) (row' : Array Value), k ≤ n ∧ i = .int .i64 k ∧ PB wr b row' ∧ Ring row' o e (l ++ s.take k) ∧ Same o row row' ∧ Upd b w wr) (fun i _ => n - (intOf i).toNat)
  case atStart => exact ⟨0, row, by omega, rfl, HH.out.below HB1.out, by simpa using HR.out, Same.refl _ _, Upd.of_below HB1.out⟩
  case round =>
    clear HB1 hN
    obtain ⟨k, row', hk, rfl, hP, hRg, hSm, hU⟩ := hrel
    have HPB : Hid (PB wr b row') := hP
    have HRg : Hid (Ring row' o e (l ++ s.take k)) := hRg
    have HSm : Hid (Same o row row') := hSm
    have HU : Hid (Upd b w wr) := hU
    by_cases hlt : k < n
    · have g0 : decide ((k : Int) < (n : Int)) = true := decide_eq_true (by omega)
      have hks : k < s.length := by rw [HQ2.out]; omega
      have hlen : (l ++ s.take k).length = L + k := by rw [List.length_append, List.length_take, HQ.out]; omega
      have hA := at_at b o e (L + k) _ row' wr.drew hP.drew hRg (by omega)
      have hix := tx_index s k hks
      have hsum : IntKind.i64.wrap ((L : Int) + (k : Int)) = (L : Int) + (k : Int) := by simp [IntKind.wrap, IntKind.bits, IntKind.signed]; omega
      have c0 : wr.drew.drew.cell? ⟨b, o + (e + (L + k)) % 8 * 2, none⟩ = _ := (hP.drew.drew.cell _).trans (hRg.used (L + k) (by omega))
      have c1 : wr.drew.drew.cell? ⟨b, o + (e + (L + k)) % 8 * 2 + 1, none⟩ = _ := (hP.drew.drew.cell _).trans (hRg.val (L + k) (by omega))
      have f0 : wr.drew.drew.frozen? ⟨b, o + (e + (L + k)) % 8 * 2, none⟩ = false := hP.drew.drew.free _
      have f1 : wr.drew.drew.frozen? ⟨b, o + (e + (L + k)) % 8 * 2 + 1, none⟩ = false := hP.drew.drew.free _
      obtain ⟨x, hx⟩ : ∃ x, s[k]? = some x := ⟨s[k], List.getElem?_eq_getElem hks⟩
      have HT : Hid (s.take (k + 1) = s.take k ++ [x]) := take_snoc hx
      rw [byt_get hx] at hix
      have HNew := hRg.snoc x (by omega)
      rw [hlen] at HNew
      rw [decide_eq_false (by omega)] at c0
      rw [byt_no (by omega)] at c1
      rw [Int.natCast_add] at hA
      have hpp : (e + (L + k)) % 8 < 8 := by omega
      generalize (e + (L + k)) % 8 = p at *
      generalize hxx : (x.toNat : Int) = xn at *
      have HN : Hid (Ring ((row'.setIfInBounds (o + p * 2) (.bool true)).setIfInBounds (o + p * 2 + 1) (.int .u8 xn)) o e ((l ++ s.take k) ++ [x])) := HNew
      clear hP hRg hSm hU hx hlen HNew hxx
      go_wp2_with fail
      have c0' : wr.cell? ⟨b, o + p * 2, none⟩ = _ := c0
      have c1' : wr.cell? ⟨b, o + p * 2 + 1, none⟩ = _ := c1
      have f0' : wr.frozen? ⟨b, o + p * 2, none⟩ = false := f0
      have f1' : wr.frozen? ⟨b, o + p * 2 + 1, none⟩ = false := f1
      go_region_with (go_at_call 282; refine hA.mono ?_; rintro x2 w2 ⟨rfl, hw⟩; rw [hw]; clear hw w2)
      all_goals
        go_wp2
        go_roundw
        case rel =>
          refine ⟨k + 1, _, by omega, by go_num, PB.set (PB.set (PB.drew (PB.drew HPB.out)) _ _) _ _, ?_, HSm.out.trans ((Same.set _ _ _ (by omega) (by omega)).trans (Same.set _ _ _ (by omega) (by omega))), HU.out.trans (((Upd.drew b _).trans (Upd.drew b _)).trans ((Upd.setCell _ _ _ _).trans (Upd.setCell _ _ _ _)))⟩
          rw [HT.out, ← List.append_assoc]
          exact HN.out
        case measure => simp [intOf]; omega
    · obtain rfl : k = n := by omega
      have g0 : decide ((k : Int) < (k : Int)) = false := decide_eq_false (by omega)
      clear hP hRg hSm hU
      go_wp2
      go_ret
      refine ⟨rfl, row', HPB.out, ?_, HSm.out, HU.out⟩
      rw [HP.out]
      exact HRg.out
end Pp
end Go.Proofs.YtnlhedpfhgoncabGreatDoor
