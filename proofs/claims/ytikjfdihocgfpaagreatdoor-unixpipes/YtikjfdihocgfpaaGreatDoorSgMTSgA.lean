/- Signals as plain data: what each call answers and leaves, their words, and what any words say. -/
/- Package signals: a process in the heap; the small functions. -/
import Derived.Test.YtikjfdihocgfpaaGreatDoorPlain
import Derived.Test.YtikjfdihocgfpaaGreatDoorRows
import Derived.Test.YtikjfdihocgfpaaGreatDoorOwnR
import Derived.Laws.BitsAllLaws
import Derived.WalkKit
import Derived.WalkSpells
import Derived.WalkLawsBesides
import Derived.Deep.RegionHeld3
import Derived.Deep.RegionWith
import Derived.Deep.QuietTactic
import Derived.Deep.AppendLies
import Derived.Deep.MidRow
import Derived.Lib.MinMax
import Derived.BigRegion
import Derived.BigQuiet
set_option linter.all false
namespace Go.Proofs.YtikjfdihocgfpaaGreatDoor
open Go.RowKit
namespace Ow
end Ow
namespace Sg
open Ow
def dfl : Int := 18446744073709551615
/-- What is kept of one process: its handlers, what is pending (a word), the machine if it is in a handler. -/
structure Sg where
  h : List Int
  q : Nat
  k : Option (Int × List Int)
/-- What is kept as its machine. -/
def Sg.pc (p : Sg) : Int := (p.k.getD (0, [])).1
def Sg.st (p : Sg) : List Int := (p.k.getD (0, [])).2
def Sg.first : Sg := ⟨List.replicate 15 dfl, 0, none⟩
/-- Of each process, from 0 on. -/
abbrev SS := Nat → Sg
def SS.first : SS := fun _ => Sg.first
def SS.set (S : SS) (i : Nat) (p : Sg) : SS := fun k => if k = i then p else S k
theorem SS.set_same (S : SS) (i : Nat) (p : Sg) : S.set i p i = p := if_pos rfl
theorem SS.set_other (S : SS) (i k : Nat) (p : Sg) (h : k ≠ i) : S.set i p k = S k := if_neg h
/-- A word of signals. -/
def QOk (q : Nat) : Prop := q < 65536 ∧ q.testBit 0 = false
theorem QOk.zero : QOk 0 := ⟨by omega, by simp⟩
/-- What holds of each process's state. -/
structure Sg.Ok (p : Sg) : Prop where
  len : p.h.length = 15
  nine : p.h[8]? = some dfl
  u64 : ∀ x ∈ p.h, 0 ≤ x ∧ x < 18446744073709551616
  pend : QOk p.q
  vm : ∀ pc st, p.k = some (pc, st) → 0 ≤ pc ∧ pc ≤ 1048576 ∧ st.length ≤ 32 ∧ ∀ x ∈ st, 0 ≤ x ∧ x < 18446744073709551616
def SOk (S : SS) : Prop := ∀ i, i < 8 → (S i).Ok
theorem first_ok : Sg.first.Ok := ⟨rfl, rfl, fun x hx => by
    have : x = dfl := List.eq_of_mem_replicate hx
    rw [this]; unfold dfl; omega, QOk.zero, fun pc st h => by cases h⟩
theorem ok_first : SOk SS.first := fun i _ => first_ok
theorem SOk.set {S : SS} (h : SOk S) {i : Nat} {p : Sg} (hp : p.Ok) : SOk (S.set i p) := by
  intro k hk
  by_cases e : k = i
  · rw [e, SS.set_same]; exact hp
  · rw [SS.set_other _ _ _ _ e]; exact h k hk
end Sg
end Go.Proofs.YtikjfdihocgfpaaGreatDoor
namespace Go.Proofs.YtikjfdihocgfpaaGreatDoor
open Go.RowKit
namespace Ow
end Ow
namespace Sg
open Ow
/-- The words of a slice at a can be read, in a block of words. -/
def TRd (w : World) (a : Option Addr) (ws : List Int) : Prop := ∀ (j : Nat) (x : Int), ws[j]? = some x → ∃ g off cs fr, a = some ⟨g, off, none⟩ ∧ w.heap[g]? = some (.cells cs 46 fr) ∧ cs[off + j]? = some (.int .u64 x)
/-- Blocks of words that were there are as they were. -/
def KeepW (w w' : World) : Prop := ∀ (g : Nat) (cs : Array Value) (fr : Nat × Nat), w.heap[g]? = some (.cells cs 46 fr) → w'.heap[g]? = w.heap[g]?
theorem KeepW.trans {a b c : World} (h : KeepW a b) (k : KeepW b c) : KeepW a c := fun g cs fr hg => by
  have h1 := h g cs fr hg
  exact (k g cs fr (h1.trans hg)).trans h1
theorem KeepW.below {w w' : World} (h : Below w.heap.size w w') : KeepW w w' := fun g cs fr hg => h.block g (lt_of_heap hg)
theorem KeepW.upd {b : Nat} {w w' : World} {row : Array Value} {t : TypeId} (hb : w.heap[b]? = some (.cells row t)) (ht : t ≠ 46) (h : Upd b w w') : KeepW w w' := fun g cs fr hg => h.block g (lt_of_heap hg) (fun e => by
  rw [e, hb] at hg
  simp only [Option.some.injEq, Obj.cells.injEq] at hg
  exact ht hg.2.1)
theorem TRd.kept {w w' : World} {a : Option Addr} {ws : List Int} (h : TRd w a ws) (hk : KeepW w w') : TRd w' a ws := by
  intro j x hj
  obtain ⟨g, off, cs, fr, ha, hh, hc⟩ := h j x hj
  exact ⟨g, off, cs, fr, ha, (hk g cs fr hh).trans hh, hc⟩
theorem TRd.nil (w : World) (a : Option Addr) : TRd w a [] := fun j x h => by simp at h
/-- The process at place o of a row. -/
structure SgR (w : World) (row : Array Value) (o : Nat) (p : Sg) : Prop where
  size : o + 19 ≤ row.size
  hnd : ∀ j, j < 15 → row[o + j]? = some (.int .u64 (p.h.getD j 0))
  pen : row[o + 15]? = some (.int .u64 (p.q : Int))
  inh : row[o + 16]? = some (.bool p.k.isSome)
  pc : row[o + 17]? = some (.int .i64 p.pc)
  stk : ∃ a c, row[o + 18]? = some (.slice a p.st.length c) ∧ p.st.length ≤ c ∧ TRd w a p.st
theorem SgR.keep {w w' : World} {row row' : Array Value} {o : Nat} {p : Sg} (h : SgR w row o p) (hs : row'.size = row.size) (hk : ∀ k, o ≤ k → k < o + 19 → row'[k]? = row[k]?) (hw : KeepW w w') : SgR w' row' o p := by
  obtain ⟨a, c, h1, h2, h3⟩ := h.stk
  refine ⟨by rw [hs]; exact h.size, fun j hj => ?_, ?_, ?_, ?_, ⟨a, c, ?_, h2, h3.kept hw⟩⟩
  · rw [hk _ (by omega) (by omega)]; exact h.hnd j hj
  · rw [hk _ (by omega) (by omega)]; exact h.pen
  · rw [hk _ (by omega) (by omega)]; exact h.inh
  · rw [hk _ (by omega) (by omega)]; exact h.pc
  · rw [hk _ (by omega) (by omega)]; exact h1
theorem SgR.kept {w w' : World} {row : Array Value} {o : Nat} {p : Sg} (h : SgR w row o p) (hw : KeepW w w') : SgR w' row o p := h.keep rfl (fun _ _ _ => rfl) hw
/-- Outside of the process at place o nothing changed. -/
def Same (o : Nat) (row row' : Array Value) : Prop := row'.size = row.size ∧ ∀ k, k < o ∨ o + 19 ≤ k → row'[k]? = row[k]?
theorem Same.trans {o : Nat} {r1 r2 r3 : Array Value} (h : Same o r1 r2) (k : Same o r2 r3) : Same o r1 r3 := ⟨k.1.trans h.1, fun i hi => (k.2 i hi).trans (h.2 i hi)⟩
theorem Same.set {o i : Nat} (row : Array Value) (v : Value) (h : i < 19) : Same o row (row.setIfInBounds (o + i) v) := ⟨by simp, fun k hk => by rw [Array.getElem?_setIfInBounds, if_neg (by omega)]⟩
/-- Block b holds this row. -/
def SB (w : World) (b : Nat) (row : Array Value) : Prop := w.heap[b]? = some (.cells row 144)
section
variable {w w' : World} {b : Nat} {row : Array Value}
theorem SB.lt (h : SB w b row) : b < w.heap.size := lt_of_heap h
theorem SB.keep (h : SB w b row) (hb : w'.heap[b]? = w.heap[b]?) : SB w' b row := hb.trans h
theorem SB.below (h : SB w b row) (hb : Below w.heap.size w w') : SB w' b row := h.keep (hb.block _ h.lt)
theorem SB.drew (h : SB w b row) : SB w.drew b row := h
theorem SB.cell (h : SB w b row) (i : Nat) : w.cell? ⟨b, i, none⟩ = row[i]? := cell_of_heap h
theorem SB.free (h : SB w b row) (i : Nat) : w.frozen? ⟨b, i, none⟩ = false := frozen_of_heap h
theorem SB.set (h : SB w b row) (i : Nat) (v : Value) : SB (w.setCell ⟨b, i, none⟩ v) b (row.setIfInBounds i v) := by
  unfold SB at *
  rw [setCell_eq_setRow w b i _ _ _ _ h, setRow_heap w b _ _ _ _ h]
theorem SB.kw (h : SB w b row) (hu : Upd b w w') : KeepW w w' := KeepW.upd h (by decide) hu
end
end Sg
end Go.Proofs.YtikjfdihocgfpaaGreatDoor
