/- Package signals: a process in the heap; the small functions. -/
import Derived.Test.YtliifpknkdjgjaaRows
import Derived.Test.YtliifpknkdjgjaaOwnR
import Derived.Test.YtliifpknkdjgjaaSgM
import Derived.WalkKit
import Derived.WalkSpells
import Derived.WalkLawsBesides
import Derived.Deep.RegionHeld3
import Derived.Deep.RegionWith
import Derived.Deep.QuietTactic
import Derived.Deep.AppendLies
import Derived.Deep.MidRow
import Derived.Lib.MinMax
import Derived.BigRegion
import Derived.BigQuiet
namespace Go.Proofs.Ytliifpknkdjgjaa
open Go.RowKit
set_option linter.unusedVariables false

/-- The words of a slice at a can be read, in a block of words. -/
def TRd (w : World) (a : Option Addr) (ws : List Int) : Prop := ∀ (j : Nat) (x : Int), ws[j]? = some x → ∃ g off cs fr, a = some ⟨g, off, none⟩ ∧ w.heap[g]? = some (.cells cs 27 fr) ∧ cs[off + j]? = some (.int .u64 x)
/-- Blocks of words that were there are as they were. -/
def KeepW (w w' : World) : Prop := ∀ (g : Nat) (cs : Array Value) (fr : Nat × Nat), w.heap[g]? = some (.cells cs 27 fr) → w'.heap[g]? = w.heap[g]?
theorem KeepW.refl (w : World) : KeepW w w := fun _ _ _ _ => rfl
theorem KeepW.trans {a b c : World} (h : KeepW a b) (k : KeepW b c) : KeepW a c := fun g cs fr hg => by
  have h1 := h g cs fr hg
  exact (k g cs fr (h1.trans hg)).trans h1
theorem KeepW.below {w w' : World} (h : Below w.heap.size w w') : KeepW w w' := fun g cs fr hg => h.block g (lt_of_heap hg)
theorem KeepW.upd {b : Nat} {w w' : World} {row : Array Value} {t : TypeId} (hb : w.heap[b]? = some (.cells row t)) (ht : t ≠ 27) (h : Upd b w w') : KeepW w w' := fun g cs fr hg => h.block g (lt_of_heap hg) (fun e => by
  rw [e, hb] at hg
  simp only [Option.some.injEq, Obj.cells.injEq] at hg
  exact ht hg.2.1)
theorem TRd.kept {w w' : World} {a : Option Addr} {ws : List Int} (h : TRd w a ws) (hk : KeepW w w') : TRd w' a ws := by
  intro j x hj
  obtain ⟨g, off, cs, fr, ha, hh, hc⟩ := h j x hj
  exact ⟨g, off, cs, fr, ha, (hk g cs fr hh).trans hh, hc⟩
theorem TRd.rd {w : World} {a : Option Addr} {ws : List Int} (h : TRd w a ws) : Rd w a ws := by
  intro j x hj
  obtain ⟨g, off, cs, fr, ha, hh, hc⟩ := h j x hj
  exact ⟨g, off, ha, (cell_of_heap hh).trans hc⟩
theorem TRd.nil (w : World) (a : Option Addr) : TRd w a [] := fun j x h => by simp at h
theorem own_trd {w : World} {base : Nat} {v : Value} {D : List Int} (h : w.ownsRow base 27 1 v D.length (uvs D)) : ∃ a cap, v = .slice a D.length cap ∧ D.length ≤ cap ∧ TRd w a D := by
  rcases h.2 with ⟨rfl, e2⟩ | ⟨g, cap, cur, rfl, _, hh, hle, _, _, ht⟩
  · have : D = [] := List.eq_nil_of_length_eq_zero e2
    subst this
    exact ⟨none, 0, rfl, Nat.le_refl _, TRd.nil _ _⟩
  · refine ⟨_, cap, rfl, hle, fun j x hx => ⟨g, 0, cur, (0, 0), rfl, hh, ?_⟩⟩
    have hj : j < D.length := (List.getElem?_eq_some_iff.1 hx).1
    have hq : (uvs D)[j]? = some (.int .u64 x) := by simp [uvs, hx]
    rw [Nat.zero_add]
    rw [← ht, Nat.mul_one, List.getElem?_take_of_lt hj] at hq
    simpa using hq

/-- The process at place o of a row. -/
structure SgR (w : World) (row : Array Value) (o : Nat) (p : Sg) : Prop where
  size : o + 19 ≤ row.size
  hnd : ∀ j, j < 15 → row[o + j]? = some (.int .u64 (p.h.getD j 0))
  pen : row[o + 15]? = some (.int .u64 (p.q : Int))
  inh : row[o + 16]? = some (.bool p.k.isSome)
  pc : row[o + 17]? = some (.int .i64 p.pc)
  stk : ∃ a c, row[o + 18]? = some (.slice a p.st.length c) ∧ p.st.length ≤ c ∧ TRd w a p.st
theorem SgR.keep {w w' : World} {row row' : Array Value} {o : Nat} {p : Sg} (h : SgR w row o p) (hs : row'.size = row.size) (hk : ∀ k, o ≤ k → k < o + 19 → row'[k]? = row[k]?) (hw : KeepW w w') : SgR w' row' o p := by
  obtain ⟨a, c, h1, h2, h3⟩ := h.stk
  refine ⟨by rw [hs]; exact h.size, fun j hj => ?_, ?_, ?_, ?_, ⟨a, c, ?_, h2, h3.kept hw⟩⟩
  · rw [hk _ (by omega) (by omega)]; exact h.hnd j hj
  · rw [hk _ (by omega) (by omega)]; exact h.pen
  · rw [hk _ (by omega) (by omega)]; exact h.inh
  · rw [hk _ (by omega) (by omega)]; exact h.pc
  · rw [hk _ (by omega) (by omega)]; exact h1
theorem SgR.kept {w w' : World} {row : Array Value} {o : Nat} {p : Sg} (h : SgR w row o p) (hw : KeepW w w') : SgR w' row o p := h.keep rfl (fun _ _ _ => rfl) hw
/-- Outside of the process at place o nothing changed. -/
def Same (o : Nat) (row row' : Array Value) : Prop := row'.size = row.size ∧ ∀ k, k < o ∨ o + 19 ≤ k → row'[k]? = row[k]?
theorem Same.refl (o : Nat) (row : Array Value) : Same o row row := ⟨rfl, fun _ _ => rfl⟩
theorem Same.trans {o : Nat} {r1 r2 r3 : Array Value} (h : Same o r1 r2) (k : Same o r2 r3) : Same o r1 r3 := ⟨k.1.trans h.1, fun i hi => (k.2 i hi).trans (h.2 i hi)⟩
theorem Same.set {o i : Nat} (row : Array Value) (v : Value) (h : i < 19) : Same o row (row.setIfInBounds (o + i) v) := ⟨by simp, fun k hk => by rw [Array.getElem?_setIfInBounds, if_neg (by omega)]⟩
/-- Block b holds this row. -/
def SB (w : World) (b : Nat) (row : Array Value) : Prop := w.heap[b]? = some (.cells row 65)
section
variable {w w' : World} {b : Nat} {row : Array Value}
theorem SB.lt (h : SB w b row) : b < w.heap.size := lt_of_heap h
theorem SB.keep (h : SB w b row) (hb : w'.heap[b]? = w.heap[b]?) : SB w' b row := hb.trans h
theorem SB.below (h : SB w b row) (hb : Below w.heap.size w w') : SB w' b row := h.keep (hb.block _ h.lt)
theorem SB.drew (h : SB w b row) : SB w.drew b row := h
theorem SB.drewN (h : SB w b row) (q : Nat) : SB (w.drewN q) b row := h
theorem SB.cell (h : SB w b row) (i : Nat) : w.cell? ⟨b, i, none⟩ = row[i]? := cell_of_heap h
theorem SB.free (h : SB w b row) (i : Nat) : w.frozen? ⟨b, i, none⟩ = false := frozen_of_heap h
theorem SB.set (h : SB w b row) (i : Nat) (v : Value) : SB (w.setCell ⟨b, i, none⟩ v) b (row.setIfInBounds i v) := by
  unfold SB at *
  rw [setCell_eq_setRow w b i _ _ _ _ h, setRow_heap w b _ _ _ _ h]
theorem SB.kw (h : SB w b row) (hu : Upd b w w') : KeepW w w' := KeepW.upd h (by decide) hu
end
theorem drew_add (w : World) (p q : Nat) : ∃ r, (w.drewN p).drewN q = w.drewN r := ⟨p + q, by simp [World.drewN, Nat.add_assoc]⟩
theorem drewN_below {w w' : World} (h : ∃ q, w' = w.drewN q) : Below w.heap.size w w' := by
  obtain ⟨q, rfl⟩ := h
  exact ⟨rfl, rfl, rfl, Nat.le_refl _, fun _ _ => rfl⟩
theorem drewN_kw {w w' : World} (h : ∃ q, w' = w.drewN q) : KeepW w w' := KeepW.below (drewN_below h)
theorem ptr_eq (b o : Nat) (w : World) : (binOp .eql 23 (.pointer (some ⟨b, o, none⟩)) (.pointer none)).run Try.prog w = .ok (.bool false) w := by kernel_rfl
theorem pptr_eq (b o : Nat) (w : World) : (binOp .eql 84 (.pointer (some ⟨b, o, none⟩)) (.pointer none)).run Try.prog w = .ok (.bool false) w := by kernel_rfl

theorem isSignal_at (n : Int) (w : World) :
    Calls Try.prog 40 #[.int .i64 n] w fun x w' => x = .returned (.bool (isS n)) ∧ w' = w := by
  cases hs : isS n with
  | true =>
    obtain ⟨i, rfl, hi⟩ := isS_nat hs
    have g0 : decide (1 ≤ (i : Int) + 1) = true := decide_eq_true (by omega)
    have g1 : decide ((i : Int) + 1 ≤ 15) = true := decide_eq_true (by omega)
    clear hs
    generalize (i : Int) + 1 = n at *
    go_enter Try.func40, Try.ntmps40
    go_wp2
    go_ret
    exact ⟨rfl, rfl⟩
  | false =>
    rcases isS_no hs with h | h
    · have g0 : decide (1 ≤ n) = false := decide_eq_false (by omega)
      clear hs
      go_enter Try.func40, Try.ntmps40
      go_wp2
      go_ret
      exact ⟨rfl, rfl⟩
    · have g0 : decide (1 ≤ n) = true := decide_eq_true (by omega)
      have g1 : decide (n ≤ 15) = false := decide_eq_false (by omega)
      clear hs
      go_enter Try.func40, Try.ntmps40
      go_wp2
      go_ret
      exact ⟨rfl, rfl⟩
theorem shl_one {i : Nat} (h : i < 64) : IntKind.u64.wrap (2 ^ i) = ((2 ^ i : Nat) : Int) := by
  have hl := bit_lt h
  have e : ((2 : Int) ^ i) = ((2 ^ i : Nat) : Int) := by simp
  rw [e]
  generalize (2 ^ i : Nat) = M at *
  rw [IntKind.wrap_u64]
  omega
theorem bit_at (i : Nat) (hi : i < 16) (w : World) :
    Calls Try.prog 42 #[.int .i64 (i : Int)] w fun x w' => x = .returned (.int .u64 ((2 ^ i : Nat) : Int)) ∧ w' = w := by
  have HS : Hid _ := shl_one (i := i) (by omega)
  go_enter Try.func42, Try.ntmps42
  go_wp2
  go_ret
  refine ⟨?_, rfl⟩
  rw [← HS.out]
  rfl
theorem wrap_less {n : Nat} (h : n < 16) : IntKind.i64.wrap ((n : Int) - 1) = (n : Int) - 1 := by
  simp [IntKind.wrap, IntKind.bits, IntKind.signed]
  omega
theorem handler_at (b o m : Nat) (p : Sg) (row : Array Value) (w : World) (hb : SB w b row) (hr : SgR w row o p) (hm : m < 15) :
    Calls Try.prog 45 #[.pointer (some ⟨b, o, none⟩), .int .i64 ((m : Int) + 1)] w fun x w' => x = .returned (.int .u64 (p.h.getD m 0)) ∧ w' = w := by
  have c0 := (hb.cell (o + m)).trans (hr.hnd m hm)
  have hw : IntKind.i64.wrap ((m : Int) + 1 - 1) = (m : Int) := by simp [IntKind.wrap, IntKind.bits, IntKind.signed]; omega
  have hmi : (m : Int) < 15 := by omega
  clear hb hr
  generalize (m : Int) + 1 = n at *
  go_enter Try.func45, Try.ntmps45
  go_wp2
  go_ret
  exact ⟨rfl, rfl⟩
theorem and_bit (x i : Nat) : ((((x &&& 2 ^ i : Nat)) : Int) != 0) = x.testBit i := by
  rw [nat_bit, Nat.testBit_eq_decide_div_mod_eq]
  have hp : 0 < 2 ^ i := Nat.two_pow_pos _
  generalize 2 ^ i = P at *
  rcases (by omega : x / P % 2 = 0 ∨ x / P % 2 = 1) with e | e
  · rw [e]; simp
  · rw [e]
    simp
    omega
theorem isPending_at (b o n : Nat) (p : Sg) (row : Array Value) (w : World) (hb : SB w b row) (hr : SgR w row o p) (hq : p.q < 65536) (hn : n < 16) :
    Calls Try.prog 50 #[.pointer (some ⟨b, o, none⟩), .int .i64 (n : Int)] w fun x w' => x = .returned (.bool (p.q.testBit n)) ∧ ∃ q, w' = w.drewN q := by
  have c0 := (hb.cell (o + 15)).trans hr.pen
  have hK := fun q => bit_at n hn (w.drewN q)
  have ha : bits .and .u64 (p.q : Int) ((2 ^ n : Nat) : Int) = ((p.q &&& 2 ^ n : Nat) : Int) := u64_and_nat _ _ (by omega) (bit_lt (by omega))
  have HR : Hid (((((p.q &&& 2 ^ n : Nat)) : Int) != 0) = p.q.testBit n) := and_bit _ _
  clear hb hr
  generalize p.q &&& 2 ^ n = r at *
  generalize p.q.testBit n = R at *
  generalize p.q = x at *
  generalize 2 ^ n = M at *
  go_enter Try.func50, Try.ntmps50
  go_wp2
  go_quiet (first | (go_at_call 42; refine Calls.quiet_of_same (hK _)))
  go_wp2
  go_ret
  exact ⟨congrArg (fun z => Ending.returned (.bool z)) HR.out, nq, rfl⟩
/-- Is it to be handled: pending, and not to be ignored. -/
def hdB (p : Sg) (n : Nat) : Bool := p.q.testBit n && (p.h.getD (n - 1) 0 != ign)
theorem isHandled_at (b o n : Nat) (p : Sg) (row : Array Value) (w : World) (hb : SB w b row) (hr : SgR w row o p) (hq : p.q < 65536) (h1 : 1 ≤ n) (hn : n < 16) :
    Calls Try.prog 52 #[.pointer (some ⟨b, o, none⟩), .int .i64 (n : Int)] w fun x w' => x = .returned (.bool (hdB p n)) ∧ ∃ q, w' = w.drewN q := by
  have hP := isPending_at b o n p row w hb hr hq hn
  cases hx : p.q.testBit n with
  | false =>
    have HD : Hid (hdB p n = false) := by show _ = _; unfold hdB; rw [hx]; rfl
    rw [hx] at hP
    clear hb hr hx
    go_enter Try.func52, Try.ntmps52
    go_wp2_with fail
    refine hP.mono ?_
    rintro x w1 ⟨rfl, q, hw⟩
    rw [hw]
    clear hw w1 hP
    go_wp2
    go_ret
    exact ⟨by rw [HD.out]; rfl, q, rfl⟩
  | true =>
    have HD : Hid (hdB p n = (p.h.getD (n - 1) 0 != ign)) := by show _ = _; unfold hdB; rw [hx]; rfl
    rw [hx] at hP
    obtain ⟨m, rfl⟩ : ∃ m, n = m + 1 := ⟨n - 1, by omega⟩
    have hH := fun q => handler_at b o m p row (w.drewN q) (hb.drewN q) (hr.kept (drewN_kw ⟨q, rfl⟩)) (by omega)
    have hcast : ((m + 1 : Nat) : Int) = (m : Int) + 1 := by omega
    rw [hcast] at hP ⊢
    rw [show m + 1 - 1 = m by omega] at HD
    unfold ign at HD
    clear hb hr hx hcast
    generalize p.h.getD m 0 = z at *
    generalize (m : Int) + 1 = n at *
    go_enter Try.func52, Try.ntmps52
    go_wp2_with fail
    refine hP.mono ?_
    rintro x w1 ⟨rfl, q, hw⟩
    rw [hw]
    clear hw w1 hP
    go_wp2_with fail
    refine (hH q).mono ?_
    rintro x w1 ⟨rfl, hw⟩
    rw [hw]
    clear hw w1 hH
    go_wp2
    go_ret
    exact ⟨by rw [HD.out]; rfl, q, rfl⟩
/-- The lowest of k signals from i on of which that is so; 0: none. -/
def lowS (f : Nat → Bool) : Nat → Nat → Nat
  | 0, _ => 0
  | k + 1, i => if f i then i else lowS f k (i + 1)
set_option maxHeartbeats 1000000 in
theorem lowestP_at (b o : Nat) (p : Sg) (row : Array Value) (w : World) (hb : SB w b row) (hr : SgR w row o p) (hq : p.q < 65536) :
    Calls Try.prog 51 #[.func (.func 50) #[.pointer (some ⟨b, o, none⟩)] #[]] w fun x w' => x = .returned (.int .i64 (lowS p.q.testBit 15 1 : Nat)) ∧ ∃ q, w' = w.drewN q := by
  have HB : Hid (SB w b row) := hb
  have HR : Hid (SgR w row o p) := hr
  clear hb hr
  go_enter Try.func51, Try.ntmps51
  go_wp2
  go_loopw [3] (fun s wr => ∃ (k : Nat), k ≤ 15 ∧ s = .int .i64 ((k + 1 : Nat) : Int) ∧ lowS p.q.testBit 15 1 = lowS p.q.testBit (15 - k) (k + 1) ∧ ∃ q, wr = w.drewN q) (fun s _ => 16 - (intOf s).toNat)
  case atStart => exact ⟨0, by omega, rfl, rfl, 0, rfl⟩
  case round =>
    obtain ⟨k, hk, rfl, hl, q, rfl⟩ := hrel
    have HL : Hid (lowS p.q.testBit 15 1 = lowS p.q.testBit (15 - k) (k + 1)) := hl
    clear hl
    by_cases hlt : k < 15
    · have i1 : decide (((k + 1 : Nat) : Int) ≤ 15) = true := decide_eq_true (by omega)
      have hP := isPending_at b o (k + 1) p row (w.drewN q) (HB.out.drewN q) (HR.out.kept (drewN_kw ⟨q, rfl⟩)) hq (by omega)
      have HT : Hid (lowS p.q.testBit (15 - k) (k + 1) = if p.q.testBit (k + 1) then k + 1 else lowS p.q.testBit (15 - (k + 1)) (k + 1 + 1)) := by
        show _ = _
        rw [show 15 - k = (15 - (k + 1)) + 1 by omega]
        rfl
      cases hx : p.q.testBit (k + 1) with
      | true =>
        rw [hx] at hP HT
        have HL2 : Hid (lowS p.q.testBit 15 1 = k + 1) := HL.out.trans HT.out
        clear hx
        generalize hn : (k + 1 : Nat) = n at *
        clear hn
        go_wp2_with fail
        refine hP.mono ?_
        rintro x w1 ⟨rfl, r, hw⟩
        rw [hw]
        clear hw w1 hP
        go_wp2
        go_ret
        exact ⟨by rw [HL2.out]; rfl, q + r, rfl⟩
      | false =>
        rw [hx] at hP HT
        have HL2 : Hid (lowS p.q.testBit 15 1 = lowS p.q.testBit (15 - (k + 1)) (k + 1 + 1)) := HL.out.trans HT.out
        have hs : IntKind.i64.wrap (((k + 1 : Nat) : Int) + 1) = ((k + 1 + 1 : Nat) : Int) := by simp [IntKind.wrap, IntKind.bits, IntKind.signed]; omega
        obtain ⟨n, hn⟩ : ∃ n : Nat, n = k + 1 := ⟨_, rfl⟩
        rw [← hn] at hP hs i1 ⊢
        have HN : Hid (n = k + 1) := hn
        clear hx hn
        go_wp2_with fail
        refine hP.mono ?_
        rintro x w1 ⟨rfl, r, hw⟩
        rw [hw]
        clear hw w1 hP
        go_wp2
        go_roundw
        case rel => exact ⟨k + 1, by omega, by rw [HN.out]; exact congrArg _ (by omega), HL2.out, q + r, rfl⟩
        case measure => have := HN.out; simp [intOf]; omega
    · have i1 : decide (((k + 1 : Nat) : Int) ≤ 15) = false := decide_eq_false (by omega)
      have HL2 : Hid (lowS p.q.testBit 15 1 = 0) := by
        show _ = _
        rw [HL.out, show 15 - k = 0 by omega]
        rfl
      generalize hn : (k + 1 : Nat) = n at *
      clear hn
      go_wp2
      go_ret
      exact ⟨by rw [HL2.out]; rfl, q, rfl⟩
end Go.Proofs.Ytliifpknkdjgjaa
