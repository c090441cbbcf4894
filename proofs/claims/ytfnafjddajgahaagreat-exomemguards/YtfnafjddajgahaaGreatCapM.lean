/- Capabilities as plain data (no program): what one is, the slots of all environments as a table, and what the calls answer. -/
import Derived.Test.YtfnafjddajgahaaGreatPlain
namespace Go.Proofs.YtfnafjddajgahaaGreat
open Go.RowKit
namespace Ca
set_option linter.unusedVariables false

/-- A capability. -/
structure Cp where
  kind : Int
  id : Int
  len : Int
  rights : Int
/-- What a slot has: a capability, and the place of that one of which it was made. -/
structure Hd where
  x : Cp
  e : Int
  s : Int
abbrev Cp.no : Cp := ⟨0, 0, 0, 0⟩
abbrev Hd.no : Hd := ⟨⟨0, 0, 0, 0⟩, 0, 0⟩
abbrev Tab := Nat → Hd
def Tab.set (T : Tab) (j : Nat) (h : Hd) : Tab := fun i => if i = j then h else T i
theorem Tab.set_same (T : Tab) (j : Nat) (h : Hd) : T.set j h j = h := by simp [Tab.set]
theorem Tab.set_other (T : Tab) (j i : Nat) (h : Hd) (hn : i ≠ j) : T.set j h i = T i := by simp [Tab.set, hn]
def Hd.get (h : Hd) : Nat → Int
  | 0 => h.x.kind
  | 1 => h.x.id
  | 2 => h.x.len
  | 3 => h.x.rights
  | 4 => h.e
  | _ => h.s

def isE (n : Int) : Bool := decide (0 ≤ n) && decide (n < 12)
def areR (r : Int) : Bool := decide (1 ≤ r) && decide (r ≤ 7)
def longOk (k n : Int) : Bool := (k == 1 && n == 1) || (k == 2 && decide (1 ≤ n) && decide (n ≤ 1048576))
def mayB (x : Cp) : Bool := longOk x.kind x.len && decide (0 ≤ x.id) && decide (x.id ≤ 1048576) && areR x.rights
/-- Are all of these rights among those? -/
def among (r q : Int) : Bool := bits .andNot .i64 r q == 0
def mayG (x : Cp) (r : Int) : Bool := (bits .and .i64 x.rights 4 != 0) && areR r && among r x.rights
def coversB (x : Cp) (k i : Int) : Bool := x.kind == k && decide (x.id ≤ i) && decide (i - x.id < x.len)
def meetsB (x y : Cp) : Bool := x.kind == y.kind && decide (x.id < y.id + y.len) && decide (y.id < x.id + x.len)
/-- Numbers that are small enough to be reckoned with. -/
structure Sane (x : Cp) : Prop where
  k0 : 0 ≤ x.kind
  k1 : x.kind ≤ 2
  i0 : 0 ≤ x.id
  i1 : x.id ≤ 1048576
  l0 : 0 ≤ x.len
  l1 : x.len ≤ 1048576
  r0 : 0 ≤ x.rights
  r1 : x.rights ≤ 7
theorem Sane.no : Sane Cp.no := ⟨by decide, by decide, by decide, by decide, by decide, by decide, by decide, by decide⟩
theorem mayB_sane {x : Cp} (h : mayB x = true) : Sane x := by
  simp only [mayB, longOk, areR, Bool.and_eq_true, Bool.or_eq_true, decide_eq_true_eq, beq_iff_eq] at h
  obtain ⟨⟨⟨h1, h2⟩, h3⟩, h4, h5⟩ := h
  constructor <;> omega
/-- An int. -/
def I64 (n : Int) : Prop := -9223372036854775808 ≤ n ∧ n ≤ 9223372036854775807
end Ca
end Go.Proofs.YtfnafjddajgahaaGreat
