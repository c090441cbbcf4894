/- Signals as plain data: what each call answers and leaves, their words, and what any words say. -/
/- Package signals: a process in the heap; the small functions. -/
import Derived.Test.YtnlhedpfhgoncabGreatDoorPlain
import Derived.Test.YtnlhedpfhgoncabGreatDoorRows
import Derived.Test.YtnlhedpfhgoncabGreatDoorOwnR
import Derived.Laws.BitsAllLaws
import Derived.WalkKit
import Derived.WalkSpells
import Derived.WalkLawsBesides
import Derived.Deep.RegionHeld3
import Derived.Deep.RegionWith
import Derived.Deep.QuietTactic
import Derived.Deep.AppendLies
import Derived.Deep.MidRow
import Derived.Lib.MinMax
import Derived.BigRegion
import Derived.BigQuiet
set_option linter.all false
namespace Go.Proofs.YtnlhedpfhgoncabGreatDoor
open Go.RowKit
namespace Ow
end Ow
namespace Sg
open Ow
def dfl : Int := 18446744073709551615
def ign : Int := 18446744073709551614
/-- What is kept of one process: its handlers, what is pending (a word), the machine if it is in a handler. -/
structure Sg where
  h : List Int
  q : Nat
  k : Option (Int × List Int)
/-- What is kept as its machine. -/
def Sg.pc (p : Sg) : Int := (p.k.getD (0, [])).1
def Sg.st (p : Sg) : List Int := (p.k.getD (0, [])).2
def Sg.first : Sg := ⟨List.replicate 15 dfl, 0, none⟩
/-- Of each process, from 0 on. -/
abbrev SS := Nat → Sg
def SS.first : SS := fun _ => Sg.first
def SS.set (S : SS) (i : Nat) (p : Sg) : SS := fun k => if k = i then p else S k
theorem SS.set_same (S : SS) (i : Nat) (p : Sg) : S.set i p i = p := if_pos rfl
theorem SS.set_other (S : SS) (i k : Nat) (p : Sg) (h : k ≠ i) : S.set i p k = S k := if_neg h
def isP (n : Int) : Bool := decide (1 ≤ n) && decide (n ≤ 8)
def isS (n : Int) : Bool := decide (1 ≤ n) && decide (n ≤ 15)
theorem isP_nat {n : Int} (h : isP n = true) : ∃ i : Nat, n = (i : Int) + 1 ∧ i < 8 := by
  unfold isP at h
  simp only [Bool.and_eq_true, decide_eq_true_eq] at h
  exact ⟨(n - 1).toNat, by omega, by omega⟩
theorem isP_no {n : Int} (h : isP n = false) : n < 1 ∨ 8 < n := by
  unfold isP at h
  rcases Int.lt_or_le n 1 with q | q
  · exact Or.inl q
  · rcases Int.lt_or_le 8 n with q2 | q2
    · exact Or.inr q2
    · rw [decide_eq_true q, decide_eq_true q2] at h
      cases h
theorem isS_nat {n : Int} (h : isS n = true) : ∃ i : Nat, n = (i : Int) + 1 ∧ i < 15 := by
  unfold isS at h
  simp only [Bool.and_eq_true, decide_eq_true_eq] at h
  exact ⟨(n - 1).toNat, by omega, by omega⟩
theorem isS_no {n : Int} (h : isS n = false) : n < 1 ∨ 15 < n := by
  unfold isS at h
  rcases Int.lt_or_le n 1 with q | q
  · exact Or.inl q
  · rcases Int.lt_or_le 15 n with q2 | q2
    · exact Or.inr q2
    · rw [decide_eq_true q, decide_eq_true q2] at h
      cases h
/-- The word without bit i. -/
def clr (q i : Nat) : Nat := q &&& (18446744073709551615 - 2 ^ i)
theorem bit_lt {i : Nat} (h : i < 64) : 2 ^ i < 18446744073709551616 :=
  Nat.lt_of_lt_of_le (Nat.pow_lt_pow_right (by omega) h) (by decide)
theorem not_bit {i : Nat} (hi : i < 64) (j : Nat) : (18446744073709551615 - 2 ^ i).testBit j = (decide (j < 64) && !decide (i = j)) := by
  have h := Nat.testBit_two_pow_sub_succ (n := 64) (bit_lt hi) j
  rw [Nat.testBit_two_pow] at h
  rw [← h]
  congr 1
  omega
theorem low_bit {q j : Nat} (hq : q < 65536) (h : 16 ≤ j) : q.testBit j = false :=
  Nat.testBit_lt_two_pow (Nat.lt_of_lt_of_le hq (by have := Nat.pow_le_pow_right (n := 2) (by omega) h; simpa using this))
theorem clr_bit {q i : Nat} (hq : q < 65536) (hi : i < 64) (j : Nat) : (clr q i).testBit j = if j = i then false else q.testBit j := by
  unfold clr
  rw [Nat.testBit_and, not_bit hi]
  by_cases e : j = i
  · rw [if_pos e, decide_eq_true e.symm]
    simp
  · rw [if_neg e, decide_eq_false (fun (x : i = j) => e x.symm)]
    by_cases h : j < 64
    · rw [decide_eq_true h]
      simp
    · rw [low_bit hq (by omega)]
      rfl
theorem clr_lt {q i : Nat} (hq : q < 65536) : clr q i < 65536 := Nat.lt_of_le_of_lt Nat.and_le_left hq
def addB (q i : Nat) : Nat := q ||| 2 ^ i
theorem addB_bit (q i j : Nat) : (addB q i).testBit j = (q.testBit j || decide (i = j)) := by
  unfold addB
  rw [Nat.testBit_or, Nat.testBit_two_pow]
theorem addB_lt {q i : Nat} (hq : q < 65536) (hi : i < 16) : addB q i < 65536 := by
  have h : 2 ^ i < 65536 := Nat.lt_of_lt_of_le (Nat.pow_lt_pow_right (by omega) hi) (by decide)
  exact Nat.or_lt_two_pow (n := 16) hq h
/-- A word of signals. -/
def QOk (q : Nat) : Prop := q < 65536 ∧ q.testBit 0 = false
theorem QOk.zero : QOk 0 := ⟨by omega, by simp⟩
theorem QOk.clr {q i : Nat} (h : QOk q) (hi : i < 64) : QOk (clr q i) := ⟨clr_lt h.1, by
  rw [clr_bit h.1 hi]
  split
  · rfl
  · exact h.2⟩
theorem QOk.add {q i : Nat} (h : QOk q) (h1 : 1 ≤ i) (hi : i < 16) : QOk (addB q i) := ⟨addB_lt h.1 hi, by
  rw [addB_bit, h.2, decide_eq_false (by omega)]
  rfl⟩
/-- From signal i on, k of them: the first that is pending and not to be ignored (0: none), and what is pending then. -/
def nxF (h : List Int) : Nat → Nat → Nat → Nat × Nat
  | 0, _, q => (0, q)
  | k + 1, i, q => if q.testBit i then (if h.getD (i - 1) 0 = ign then nxF h k (i + 1) (clr q i) else (i, clr q i)) else nxF h k (i + 1) q
/-- Next of one. -/
def Sg.nx (p : Sg) : Nat × Nat := if p.q.testBit 9 then (9, clr p.q 9) else if p.k.isSome then (0, p.q) else nxF p.h 15 1 p.q
def Sg.q' (p : Sg) (q : Nat) : Sg := ⟨p.h, q, p.k⟩
def Sg.hd (p : Sg) (n : Nat) : Int := p.h.getD (n - 1) 0
/-- Send. -/
def sdE (pid sig : Int) : Int := if isP pid then (if isS sig then 0 else 22) else 3
def sdS (S : SS) (pid sig : Int) : SS := if isP pid && isS sig then S.set (pid - 1).toNat ((S (pid - 1).toNat).q' (addB (S (pid - 1).toNat).q sig.toNat)) else S
/-- Next: the signal, the handler, whether there is one, what is there then. -/
def nxI (S : SS) (pid : Int) : Nat := if isP pid then (S (pid - 1).toNat).nx.1 else 0
def nxH (S : SS) (pid : Int) : Int := if nxI S pid = 0 then 0 else (S (pid - 1).toNat).hd (nxI S pid)
def nxB (S : SS) (pid : Int) : Bool := nxI S pid != 0
def nxS (S : SS) (pid : Int) : SS := if isP pid then S.set (pid - 1).toNat ((S (pid - 1).toNat).q' (S (pid - 1).toNat).nx.2) else S
/-- Fork. -/
def fkS (S : SS) (pid child : Int) : SS := if (isP pid && isP child) && pid != child then S.set (child - 1).toNat ⟨(S (pid - 1).toNat).h, 0, (S (pid - 1).toNat).k⟩ else S
/-- What holds of each process's state. -/
structure Sg.Ok (p : Sg) : Prop where
  len : p.h.length = 15
  nine : p.h[8]? = some dfl
  u64 : ∀ x ∈ p.h, 0 ≤ x ∧ x < 18446744073709551616
  pend : QOk p.q
  vm : ∀ pc st, p.k = some (pc, st) → 0 ≤ pc ∧ pc ≤ 1048576 ∧ st.length ≤ 32 ∧ ∀ x ∈ st, 0 ≤ x ∧ x < 18446744073709551616
def SOk (S : SS) : Prop := ∀ i, i < 8 → (S i).Ok
theorem first_ok : Sg.first.Ok := ⟨rfl, rfl, fun x hx => by
    have : x = dfl := List.eq_of_mem_replicate hx
    rw [this]; unfold dfl; omega, QOk.zero, fun pc st h => by cases h⟩
theorem ok_first : SOk SS.first := fun i _ => first_ok
theorem SOk.set {S : SS} (h : SOk S) {i : Nat} {p : Sg} (hp : p.Ok) : SOk (S.set i p) := by
  intro k hk
  by_cases e : k = i
  · rw [e, SS.set_same]; exact hp
  · rw [SS.set_other _ _ _ _ e]; exact h k hk
theorem nxF_ok (h : List Int) : ∀ k i q, QOk q → i + k ≤ 16 → QOk (nxF h k i q).2 ∧ ((nxF h k i q).1 = 0 ∨ (i ≤ (nxF h k i q).1 ∧ (nxF h k i q).1 < i + k))
  | 0, i, q, hq, _ => ⟨hq, Or.inl rfl⟩
  | k + 1, i, q, hq, hi => by
    have hc := hq.clr (i := i) (by omega)
    have h1 := nxF_ok h k (i + 1) (clr q i) hc (by omega)
    have h2 := nxF_ok h k (i + 1) q hq (by omega)
    unfold nxF
    split
    · split
      · exact ⟨h1.1, by rcases h1.2 with e | e <;> omega⟩
      · exact ⟨hc, Or.inr ⟨Nat.le_refl _, by show i < i + (k + 1); omega⟩⟩
    · exact ⟨h2.1, by rcases h2.2 with e | e <;> omega⟩
theorem nx_ok {p : Sg} (h : p.Ok) : QOk p.nx.2 ∧ p.nx.1 ≤ 15 := by
  unfold Sg.nx
  split
  · exact ⟨h.pend.clr (by omega), by show 9 ≤ 15; omega⟩
  · split
    · exact ⟨h.pend, by show 0 ≤ 15; omega⟩
    · have := nxF_ok p.h 15 1 p.q h.pend (by omega)
      exact ⟨this.1, by omega⟩
theorem ok_sd {S : SS} (h : SOk S) (pid sig : Int) : SOk (sdS S pid sig) := by
  unfold sdS
  split
  · rename_i hc
    simp only [Bool.and_eq_true] at hc
    obtain ⟨hp, hs⟩ := hc
    obtain ⟨i, rfl, hi⟩ := isP_nat hp
    obtain ⟨k, rfl, hk⟩ := isS_nat hs
    rw [show ((i : Int) + 1 - 1).toNat = i by omega, show ((k : Int) + 1).toNat = k + 1 by omega]
    have hq := h i hi
    exact h.set ⟨hq.len, hq.nine, hq.u64, hq.pend.add (by omega) (by omega), hq.vm⟩
  · exact h
theorem ok_nx {S : SS} (h : SOk S) (pid : Int) : SOk (nxS S pid) := by
  unfold nxS
  split
  · rename_i hp
    obtain ⟨i, rfl, hi⟩ := isP_nat hp
    rw [show ((i : Int) + 1 - 1).toNat = i by omega]
    have hq := h i hi
    exact h.set ⟨hq.len, hq.nine, hq.u64, (nx_ok hq).1, hq.vm⟩
  · exact h
theorem ok_fk {S : SS} (h : SOk S) (pid child : Int) : SOk (fkS S pid child) := by
  unfold fkS
  split
  · rename_i hc
    simp only [Bool.and_eq_true] at hc
    obtain ⟨i, rfl, hi⟩ := isP_nat hc.1.1
    rw [show ((i : Int) + 1 - 1).toNat = i by omega]
    have hq := h i hi
    exact h.set ⟨hq.len, hq.nine, hq.u64, QOk.zero, hq.vm⟩
  · exact h
end Sg
end Go.Proofs.YtnlhedpfhgoncabGreatDoor
namespace Go.Proofs.YtnlhedpfhgoncabGreatDoor
open Go.RowKit
namespace Ow
end Ow
namespace Sg
open Ow
/-- The words of a slice at a can be read, in a block of words. -/
def TRd (w : World) (a : Option Addr) (ws : List Int) : Prop := ∀ (j : Nat) (x : Int), ws[j]? = some x → ∃ g off cs fr, a = some ⟨g, off, none⟩ ∧ w.heap[g]? = some (.cells cs 40 fr) ∧ cs[off + j]? = some (.int .u64 x)
/-- Blocks of words that were there are as they were. -/
def KeepW (w w' : World) : Prop := ∀ (g : Nat) (cs : Array Value) (fr : Nat × Nat), w.heap[g]? = some (.cells cs 40 fr) → w'.heap[g]? = w.heap[g]?
theorem KeepW.trans {a b c : World} (h : KeepW a b) (k : KeepW b c) : KeepW a c := fun g cs fr hg => by
  have h1 := h g cs fr hg
  exact (k g cs fr (h1.trans hg)).trans h1
theorem KeepW.below {w w' : World} (h : Below w.heap.size w w') : KeepW w w' := fun g cs fr hg => h.block g (lt_of_heap hg)
theorem KeepW.upd {b : Nat} {w w' : World} {row : Array Value} {t : TypeId} (hb : w.heap[b]? = some (.cells row t)) (ht : t ≠ 40) (h : Upd b w w') : KeepW w w' := fun g cs fr hg => h.block g (lt_of_heap hg) (fun e => by
  rw [e, hb] at hg
  simp only [Option.some.injEq, Obj.cells.injEq] at hg
  exact ht hg.2.1)
theorem TRd.kept {w w' : World} {a : Option Addr} {ws : List Int} (h : TRd w a ws) (hk : KeepW w w') : TRd w' a ws := by
  intro j x hj
  obtain ⟨g, off, cs, fr, ha, hh, hc⟩ := h j x hj
  exact ⟨g, off, cs, fr, ha, (hk g cs fr hh).trans hh, hc⟩
theorem TRd.rd {w : World} {a : Option Addr} {ws : List Int} (h : TRd w a ws) : Rd w a ws := by
  intro j x hj
  obtain ⟨g, off, cs, fr, ha, hh, hc⟩ := h j x hj
  exact ⟨g, off, ha, (cell_of_heap hh).trans hc⟩
theorem TRd.nil (w : World) (a : Option Addr) : TRd w a [] := fun j x h => by simp at h
theorem own_trd {w : World} {base : Nat} {v : Value} {D : List Int} (h : w.ownsRow base 40 1 v D.length (uvs D)) : ∃ a cap, v = .slice a D.length cap ∧ D.length ≤ cap ∧ TRd w a D := by
  rcases h.2 with ⟨rfl, e2⟩ | ⟨g, cap, cur, rfl, _, hh, hle, _, _, ht⟩
  · have : D = [] := List.eq_nil_of_length_eq_zero e2
    subst this
    exact ⟨none, 0, rfl, Nat.le_refl _, TRd.nil _ _⟩
  · refine ⟨_, cap, rfl, hle, fun j x hx => ⟨g, 0, cur, (0, 0), rfl, hh, ?_⟩⟩
    have hj : j < D.length := (List.getElem?_eq_some_iff.1 hx).1
    have hq : (uvs D)[j]? = some (.int .u64 x) := by simp [uvs, hx]
    rw [Nat.zero_add]
    rw [← ht, Nat.mul_one, List.getElem?_take_of_lt hj] at hq
    simpa using hq
/-- The process at place o of a row. -/
structure SgR (w : World) (row : Array Value) (o : Nat) (p : Sg) : Prop where
  size : o + 19 ≤ row.size
  hnd : ∀ j, j < 15 → row[o + j]? = some (.int .u64 (p.h.getD j 0))
  pen : row[o + 15]? = some (.int .u64 (p.q : Int))
  inh : row[o + 16]? = some (.bool p.k.isSome)
  pc : row[o + 17]? = some (.int .i64 p.pc)
  stk : ∃ a c, row[o + 18]? = some (.slice a p.st.length c) ∧ p.st.length ≤ c ∧ TRd w a p.st
theorem SgR.keep {w w' : World} {row row' : Array Value} {o : Nat} {p : Sg} (h : SgR w row o p) (hs : row'.size = row.size) (hk : ∀ k, o ≤ k → k < o + 19 → row'[k]? = row[k]?) (hw : KeepW w w') : SgR w' row' o p := by
  obtain ⟨a, c, h1, h2, h3⟩ := h.stk
  refine ⟨by rw [hs]; exact h.size, fun j hj => ?_, ?_, ?_, ?_, ⟨a, c, ?_, h2, h3.kept hw⟩⟩
  · rw [hk _ (by omega) (by omega)]; exact h.hnd j hj
  · rw [hk _ (by omega) (by omega)]; exact h.pen
  · rw [hk _ (by omega) (by omega)]; exact h.inh
  · rw [hk _ (by omega) (by omega)]; exact h.pc
  · rw [hk _ (by omega) (by omega)]; exact h1
theorem SgR.kept {w w' : World} {row : Array Value} {o : Nat} {p : Sg} (h : SgR w row o p) (hw : KeepW w w') : SgR w' row o p := h.keep rfl (fun _ _ _ => rfl) hw
/-- Outside of the process at place o nothing changed. -/
def Same (o : Nat) (row row' : Array Value) : Prop := row'.size = row.size ∧ ∀ k, k < o ∨ o + 19 ≤ k → row'[k]? = row[k]?
theorem Same.refl (o : Nat) (row : Array Value) : Same o row row := ⟨rfl, fun _ _ => rfl⟩
theorem Same.trans {o : Nat} {r1 r2 r3 : Array Value} (h : Same o r1 r2) (k : Same o r2 r3) : Same o r1 r3 := ⟨k.1.trans h.1, fun i hi => (k.2 i hi).trans (h.2 i hi)⟩
theorem Same.set {o i : Nat} (row : Array Value) (v : Value) (h : i < 19) : Same o row (row.setIfInBounds (o + i) v) := ⟨by simp, fun k hk => by rw [Array.getElem?_setIfInBounds, if_neg (by omega)]⟩
/-- Block b holds this row. -/
def SB (w : World) (b : Nat) (row : Array Value) : Prop := w.heap[b]? = some (.cells row 160)
section
variable {w w' : World} {b : Nat} {row : Array Value}
theorem SB.lt (h : SB w b row) : b < w.heap.size := lt_of_heap h
theorem SB.keep (h : SB w b row) (hb : w'.heap[b]? = w.heap[b]?) : SB w' b row := hb.trans h
theorem SB.below (h : SB w b row) (hb : Below w.heap.size w w') : SB w' b row := h.keep (hb.block _ h.lt)
theorem SB.drew (h : SB w b row) : SB w.drew b row := h
theorem SB.drewN (h : SB w b row) (q : Nat) : SB (w.drewN q) b row := h
theorem SB.cell (h : SB w b row) (i : Nat) : w.cell? ⟨b, i, none⟩ = row[i]? := cell_of_heap h
theorem SB.free (h : SB w b row) (i : Nat) : w.frozen? ⟨b, i, none⟩ = false := frozen_of_heap h
theorem SB.set (h : SB w b row) (i : Nat) (v : Value) : SB (w.setCell ⟨b, i, none⟩ v) b (row.setIfInBounds i v) := by
  unfold SB at *
  rw [setCell_eq_setRow w b i _ _ _ _ h, setRow_heap w b _ _ _ _ h]
theorem SB.kw (h : SB w b row) (hu : Upd b w w') : KeepW w w' := KeepW.upd h (by decide) hu
end
theorem drew_add (w : World) (p q : Nat) : ∃ r, (w.drewN p).drewN q = w.drewN r := ⟨p + q, by simp [World.drewN, Nat.add_assoc]⟩
theorem drewN_below {w w' : World} (h : ∃ q, w' = w.drewN q) : Below w.heap.size w w' := by
  obtain ⟨q, rfl⟩ := h
  exact ⟨rfl, rfl, rfl, Nat.le_refl _, fun _ _ => rfl⟩
theorem drewN_kw {w w' : World} (h : ∃ q, w' = w.drewN q) : KeepW w w' := KeepW.below (drewN_below h)
theorem ptr_eq (b o : Nat) (w : World) : (binOp .eql 72 (.pointer (some ⟨b, o, none⟩)) (.pointer none)).run Tryz.prog w = .ok (.bool false) w := by kernel_rfl
theorem pptr_eq (b o : Nat) (w : World) : (binOp .eql 129 (.pointer (some ⟨b, o, none⟩)) (.pointer none)).run Tryz.prog w = .ok (.bool false) w := by kernel_rfl
theorem isSignal_at (n : Int) (w : World) :
    Calls Tryz.prog 190 #[.int .i64 n] w fun x w' => x = .returned (.bool (isS n)) ∧ w' = w := by
  cases hs : isS n with
  | true =>
    obtain ⟨i, rfl, hi⟩ := isS_nat hs
    have g0 : decide (1 ≤ (i : Int) + 1) = true := decide_eq_true (by omega)
    have g1 : decide ((i : Int) + 1 ≤ 15) = true := decide_eq_true (by omega)
    clear hs
    generalize (i : Int) + 1 = n at *
    go_enter Tryz.func190, Tryz.ntmps190
    go_wp2
    go_ret
    exact ⟨rfl, rfl⟩
  | false =>
    rcases isS_no hs with h | h
    · have g0 : decide (1 ≤ n) = false := decide_eq_false (by omega)
      clear hs
      go_enter Tryz.func190, Tryz.ntmps190
      go_wp2
      go_ret
      exact ⟨rfl, rfl⟩
    · have g0 : decide (1 ≤ n) = true := decide_eq_true (by omega)
      have g1 : decide (n ≤ 15) = false := decide_eq_false (by omega)
      clear hs
      go_enter Tryz.func190, Tryz.ntmps190
      go_wp2
      go_ret
      exact ⟨rfl, rfl⟩
theorem shl_one {i : Nat} (h : i < 64) : IntKind.u64.wrap (2 ^ i) = ((2 ^ i : Nat) : Int) := by
  have hl := bit_lt h
  have e : ((2 : Int) ^ i) = ((2 ^ i : Nat) : Int) := by simp
  rw [e]
  generalize (2 ^ i : Nat) = M at *
  rw [IntKind.wrap_u64]
  omega
theorem bit_at (i : Nat) (hi : i < 16) (w : World) :
    Calls Tryz.prog 133 #[.int .i64 (i : Int)] w fun x w' => x = .returned (.int .u64 ((2 ^ i : Nat) : Int)) ∧ w' = w := by
  have HS : Hid _ := shl_one (i := i) (by omega)
  go_enter Tryz.func133, Tryz.ntmps133
  go_wp2
  go_ret
  refine ⟨?_, rfl⟩
  rw [← HS.out]
  rfl
theorem handler_at (b o m : Nat) (p : Sg) (row : Array Value) (w : World) (hb : SB w b row) (hr : SgR w row o p) (hm : m < 15) :
    Calls Tryz.prog 64 #[.pointer (some ⟨b, o, none⟩), .int .i64 ((m : Int) + 1)] w fun x w' => x = .returned (.int .u64 (p.h.getD m 0)) ∧ w' = w := by
  have c0 := (hb.cell (o + m)).trans (hr.hnd m hm)
  have hw : IntKind.i64.wrap ((m : Int) + 1 - 1) = (m : Int) := by simp [IntKind.wrap, IntKind.bits, IntKind.signed]; omega
  have hmi : (m : Int) < 15 := by omega
  clear hb hr
  generalize (m : Int) + 1 = n at *
  go_enter Tryz.func64, Tryz.ntmps64
  go_wp2
  go_ret
  exact ⟨rfl, rfl⟩
theorem and_bit (x i : Nat) : ((((x &&& 2 ^ i : Nat)) : Int) != 0) = x.testBit i := by
  rw [nat_bit, Nat.testBit_eq_decide_div_mod_eq]
  have hp : 0 < 2 ^ i := Nat.two_pow_pos _
  generalize 2 ^ i = P at *
  rcases (by omega : x / P % 2 = 0 ∨ x / P % 2 = 1) with e | e
  · rw [e]; simp
  · rw [e]
    simp
    omega
theorem isPending_at (b o n : Nat) (p : Sg) (row : Array Value) (w : World) (hb : SB w b row) (hr : SgR w row o p) (hq : p.q < 65536) (hn : n < 16) :
    Calls Tryz.prog 130 #[.pointer (some ⟨b, o, none⟩), .int .i64 (n : Int)] w fun x w' => x = .returned (.bool (p.q.testBit n)) ∧ ∃ q, w' = w.drewN q := by
  have c0 := (hb.cell (o + 15)).trans hr.pen
  have hK := fun q => bit_at n hn (w.drewN q)
  have ha : bits .and .u64 (p.q : Int) ((2 ^ n : Nat) : Int) = ((p.q &&& 2 ^ n : Nat) : Int) := u64_and_nat _ _ (by omega) (bit_lt (by omega))
  have HR : Hid (((((p.q &&& 2 ^ n : Nat)) : Int) != 0) = p.q.testBit n) := and_bit _ _
  clear hb hr
  generalize p.q &&& 2 ^ n = r at *
  generalize p.q.testBit n = R at *
  generalize p.q = x at *
  generalize 2 ^ n = M at *
  go_enter Tryz.func130, Tryz.ntmps130
  go_wp2
  go_quiet (first | (go_at_call 133; refine Calls.quiet_of_same (hK _)))
  go_wp2
  go_ret
  exact ⟨congrArg (fun z => Ending.returned (.bool z)) HR.out, nq, rfl⟩
/-- Is it to be handled: pending, and not to be ignored. -/
def hdB (p : Sg) (n : Nat) : Bool := p.q.testBit n && (p.h.getD (n - 1) 0 != ign)
theorem isHandled_at (b o n : Nat) (p : Sg) (row : Array Value) (w : World) (hb : SB w b row) (hr : SgR w row o p) (hq : p.q < 65536) (h1 : 1 ≤ n) (hn : n < 16) :
    Calls Tryz.prog 132 #[.pointer (some ⟨b, o, none⟩), .int .i64 (n : Int)] w fun x w' => x = .returned (.bool (hdB p n)) ∧ ∃ q, w' = w.drewN q := by
  have hP := isPending_at b o n p row w hb hr hq hn
  cases hx : p.q.testBit n with
  | false =>
    have HD : Hid (hdB p n = false) := by show _ = _; unfold hdB; rw [hx]; rfl
    rw [hx] at hP
    clear hb hr hx
    go_enter Tryz.func132, Tryz.ntmps132
    go_wp2_with fail
    refine hP.mono ?_
    rintro x w1 ⟨rfl, q, hw⟩
    rw [hw]
    clear hw w1 hP
    go_wp2
    go_ret
    exact ⟨by rw [HD.out]; rfl, q, rfl⟩
  | true =>
    have HD : Hid (hdB p n = (p.h.getD (n - 1) 0 != ign)) := by show _ = _; unfold hdB; rw [hx]; rfl
    rw [hx] at hP
    obtain ⟨m, rfl⟩ : ∃ m, n = m + 1 := ⟨n - 1, by omega⟩
    have hH := fun q => handler_at b o m p row (w.drewN q) (hb.drewN q) (hr.kept (drewN_kw ⟨q, rfl⟩)) (by omega)
    have hcast : ((m + 1 : Nat) : Int) = (m : Int) + 1 := by omega
    rw [hcast] at hP ⊢
    rw [show m + 1 - 1 = m by omega] at HD
    unfold ign at HD
    clear hb hr hx hcast
    generalize p.h.getD m 0 = z at *
    generalize (m : Int) + 1 = n at *
    go_enter Tryz.func132, Tryz.ntmps132
    go_wp2_with fail
    refine hP.mono ?_
    rintro x w1 ⟨rfl, q, hw⟩
    rw [hw]
    clear hw w1 hP
    go_wp2_with fail
    refine (hH q).mono ?_
    rintro x w1 ⟨rfl, hw⟩
    rw [hw]
    clear hw w1 hH
    go_wp2
    go_ret
    exact ⟨by rw [HD.out]; rfl, q, rfl⟩
/-- The lowest of k signals from i on of which that is so; 0: none. -/
def lowS (f : Nat → Bool) : Nat → Nat → Nat
  | 0, _ => 0
  | k + 1, i => if f i then i else lowS f k (i + 1)
set_option maxHeartbeats 1000000 in
theorem lowestP_at (b o : Nat) (p : Sg) (row : Array Value) (w : World) (hb : SB w b row) (hr : SgR w row o p) (hq : p.q < 65536) :
    Calls Tryz.prog 131 #[.func (.func 130) #[.pointer (some ⟨b, o, none⟩)] #[]] w fun x w' => x = .returned (.int .i64 (lowS p.q.testBit 15 1 : Nat)) ∧ ∃ q, w' = w.drewN q := by
  have HB : Hid (SB w b row) := hb
  have HR : Hid (SgR w row o p) := hr
  clear hb hr
  go_enter Tryz.func131, Tryz.ntmps131
  go_wp2
  go_loopw [3] (fun s wr => ∃ (k : Nat), k ≤ 15 ∧ s = .int .i64 ((k + 1 : Nat) : Int) ∧ lowS p.q.testBit 15 1 = lowS p.q.testBit (15 - k) (k + 1) ∧ ∃ q, wr = w.drewN q) (fun s _ => 16 - (intOf s).toNat)
  case atStart => exact ⟨0, by omega, rfl, rfl, 0, rfl⟩
  case round =>
    obtain ⟨k, hk, rfl, hl, q, rfl⟩ := hrel
    have HL : Hid (lowS p.q.testBit 15 1 = lowS p.q.testBit (15 - k) (k + 1)) := hl
    clear hl
    by_cases hlt : k < 15
    · have i1 : decide (((k + 1 : Nat) : Int) ≤ 15) = true := decide_eq_true (by omega)
      have hP := isPending_at b o (k + 1) p row (w.drewN q) (HB.out.drewN q) (HR.out.kept (drewN_kw ⟨q, rfl⟩)) hq (by omega)
      have HT : Hid (lowS p.q.testBit (15 - k) (k + 1) = if p.q.testBit (k + 1) then k + 1 else lowS p.q.testBit (15 - (k + 1)) (k + 1 + 1)) := by
        show _ = _
        rw [show 15 - k = (15 - (k + 1)) + 1 by omega]
        rfl
      cases hx : p.q.testBit (k + 1) with
      | true =>
        rw [hx] at hP HT
        have HL2 : Hid (lowS p.q.testBit 15 1 = k + 1) := HL.out.trans HT.out
        clear hx
        generalize hn : (k + 1 : Nat) = n at *
        clear hn
        go_wp2_with fail
        refine hP.mono ?_
        rintro x w1 ⟨rfl, r, hw⟩
        rw [hw]
        clear hw w1 hP
        go_wp2
        go_ret
        exact ⟨by rw [HL2.out]; rfl, q + r, rfl⟩
      | false =>
        rw [hx] at hP HT
        have HL2 : Hid (lowS p.q.testBit 15 1 = lowS p.q.testBit (15 - (k + 1)) (k + 1 + 1)) := HL.out.trans HT.out
        have hs : IntKind.i64.wrap (((k + 1 : Nat) : Int) + 1) = ((k + 1 + 1 : Nat) : Int) := by simp [IntKind.wrap, IntKind.bits, IntKind.signed]; omega
        obtain ⟨n, hn⟩ : ∃ n : Nat, n = k + 1 := ⟨_, rfl⟩
        rw [← hn] at hP hs i1 ⊢
        have HN : Hid (n = k + 1) := hn
        clear hx hn
        go_wp2_with fail
        refine hP.mono ?_
        rintro x w1 ⟨rfl, r, hw⟩
        rw [hw]
        clear hw w1 hP
        go_wp2
        go_roundw
        case rel => exact ⟨k + 1, by omega, by rw [HN.out]; exact congrArg _ (by omega), HL2.out, q + r, rfl⟩
        case measure => have := HN.out; simp [intOf]; omega
    · have i1 : decide (((k + 1 : Nat) : Int) ≤ 15) = false := decide_eq_false (by omega)
      have HL2 : Hid (lowS p.q.testBit 15 1 = 0) := by
        show _ = _
        rw [HL.out, show 15 - k = 0 by omega]
        rfl
      generalize hn : (k + 1 : Nat) = n at *
      clear hn
      go_wp2
      go_ret
      exact ⟨by rw [HL2.out]; rfl, q, rfl⟩
end Sg
end Go.Proofs.YtnlhedpfhgoncabGreatDoor
