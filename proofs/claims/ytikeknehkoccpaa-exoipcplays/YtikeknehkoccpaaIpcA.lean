/- Package exoipc: the queues in the heap; what a call may touch; isEnv, length, New, Waiting. -/
import Derived.Test.YtikeknehkoccpaaRows
import Derived.Test.YtikeknehkoccpaaPlain
import Derived.Test.YtikeknehkoccpaaIpcM
import Derived.WalkKit
import Derived.WalkSpells
import Derived.WalkLawsBesides
import Derived.Deep.RegionHeld3
import Derived.Deep.RegionLaw
import Derived.Deep.QuietTactic
import Derived.Deep.AppendLies
import Derived.BigRegion
import Derived.BigQuiet
namespace Go.Proofs.Ytikeknehkoccpaa
open Go.RowKit
set_option linter.unusedVariables false

theorem ret_bool {x y : Bool} (h : x = y) : Ending.returned (.bool x) = Ending.returned (.bool y) := by rw [h]
theorem ret_int {k : IntKind} {x y : Int} (h : x = y) : Ending.returned (.int k x) = Ending.returned (.int k y) := by rw [h]
theorem below_alloc (w : World) (o : Obj) : Below w.heap.size w (w.alloc o) := (Below.refl _ _).alloc (Nat.le_refl _) _
theorem cell_same {w w' : World} {p : Addr} {v : Value} (h : w.cell? p = some v) (hb : w'.heap[p.block]? = w.heap[p.block]?) : w'.cell? p = some v := by
  unfold World.cell? at *
  rw [hb]
  exact h
theorem ownsRow_at {w w' : World} {base : Nat} {e : TypeId} {size : Nat} {v : Value} {n : Nat} {xs : List Value} (h : w.ownsRow base e size v n xs) (hb : ∀ g, v.ownBlock = some g → w'.heap[g]? = w.heap[g]?) : w'.ownsRow base e size v n xs := by
  obtain ⟨h1, h2⟩ := h
  refine ⟨h1, ?_⟩
  rcases h2 with h2 | ⟨g, cap, cur, hv, hg, hh, r⟩
  · exact Or.inl h2
  · exact Or.inr ⟨g, cap, cur, hv, hg, (hb g (by rw [hv]; rfl)).trans hh, r⟩
theorem ownsRow_below {w w' : World} {base : Nat} {e : TypeId} {size : Nat} {v : Value} {n : Nat} {xs : List Value} (h : w.ownsRow base e size v n xs) (hb : Below w.heap.size w w') : w'.ownsRow base e size v n xs :=
  ownsRow_at h (fun g hg => hb.block g (h.lt g hg).2)
theorem ownsRow_low {w : World} {base : Nat} {e : TypeId} {size : Nat} {v : Value} {n : Nat} {xs : List Value} (h : w.ownsRow base e size v n xs) : ∀ g, v.ownBlock = some g → base ≤ g := fun g hg => (h.lt g hg).1
theorem own_slice {w : World} {base : Nat} {e : TypeId} {size : Nat} {v : Value} {n : Nat} {xs : List Value} (h : w.ownsRow base e size v n xs) : ∃ a cap, v = .slice a n cap := by
  rcases h.2 with ⟨rfl, rfl⟩ | ⟨g, cap, cur, rfl, _⟩
  · exact ⟨none, 0, rfl⟩
  · exact ⟨_, cap, rfl⟩
theorem own_type {w : World} {base : Nat} {e : TypeId} {size : Nat} {v : Value} {n : Nat} {xs : List Value} (h : w.ownsRow base e size v n xs) {g : Nat} (hg : v.ownBlock = some g) : ∃ cs, w.heap[g]? = some (.cells cs e (0, 0)) := by
  rcases h.2 with ⟨rfl, _⟩ | ⟨g', cap, cur, rfl, _, hh, _⟩
  · simp [Value.ownBlock] at hg
  · simp [Value.ownBlock] at hg
    subst hg
    exact ⟨cur, hh⟩
theorem below_grown {B : Nat} {w w' : World} {row : Option Nat} (h : w.grownBy w' row) (hs : B ≤ w.heap.size) (hv : ∀ g, row = some g → B ≤ g) : Below B w w' :=
  ⟨h.os, h.tape, h.output, h.size, fun k hk => h.block k (by omega) (fun e => by have := hv k e.symm; omega)⟩
theorem grown_below {w w' : World} (row : Option Nat) (h : Below w.heap.size w w') : w.grownBy w' row := ⟨h.os, h.tape, h.output, h.size, fun k hk _ => h.block k hk⟩
theorem grown_trans {a b c : World} {row : Option Nat} (h : a.grownBy b row) (k : b.grownBy c row) : a.grownBy c row :=
  ⟨k.os.trans h.os, k.tape.trans h.tape, k.output.trans h.output, Nat.le_trans h.size k.size, fun i hi hg => (k.block i (Nat.lt_of_lt_of_le hi h.size) hg).trans (h.block i hi hg)⟩

/-- A block of messages, or of queues. -/
def XB (w : World) (k : Nat) : Prop := ∃ cs t fr, w.heap[k]? = some (.cells cs t fr) ∧ (t = 64 ∨ t = 59)
/-- What a call may touch: blocks of messages and queues, from B on. -/
structure Tch (B : Nat) (w w' : World) : Prop where
  os : w'.os = w.os
  tape : w'.tape = w.tape
  output : w'.output = w.output
  size : w.heap.size ≤ w'.heap.size
  block : ∀ k, k < w.heap.size → (k < B ∨ ¬ XB w k) → w'.heap[k]? = w.heap[k]?
theorem xb_same {w w' : World} {k : Nat} (h : w'.heap[k]? = w.heap[k]?) : XB w' k ↔ XB w k := by unfold XB; rw [h]
theorem Tch.refl (B : Nat) (w : World) : Tch B w w := ⟨rfl, rfl, rfl, Nat.le_refl _, fun _ _ _ => rfl⟩
theorem Tch.trans {B : Nat} {a b c : World} (h : Tch B a b) (k : Tch B b c) : Tch B a c :=
  ⟨k.os.trans h.os, k.tape.trans h.tape, k.output.trans h.output, Nat.le_trans h.size k.size, fun i hi hg => by
    have e := h.block i hi hg
    refine (k.block i (Nat.lt_of_lt_of_le hi h.size) ?_).trans e
    rcases hg with hg | hg
    · exact Or.inl hg
    · exact Or.inr (fun x => hg ((xb_same e).1 x))⟩
theorem Tch.of_below {B : Nat} {w w' : World} (h : Below w.heap.size w w') : Tch B w w' := ⟨h.os, h.tape, h.output, h.size, fun k hk _ => h.block k hk⟩
theorem Tch.below {B : Nat} {w w' : World} (h : Tch B w w') (hs : B ≤ w.heap.size) : Below B w w' := ⟨h.os, h.tape, h.output, h.size, fun k hk => h.block k (by omega) (Or.inl hk)⟩
theorem Tch.other {B : Nat} {w w' : World} (h : Tch B w w') {k : Nat} {cs : Array Value} {t : TypeId} {fr : Nat × Nat} (hk : w.heap[k]? = some (.cells cs t fr)) (h1 : t ≠ 64) (h2 : t ≠ 59) : w'.heap[k]? = some (.cells cs t fr) := by
  rw [h.block k (lt_of_heap hk) (Or.inr ?_)]
  · exact hk
  · rintro ⟨cs', t', fr', e, ht⟩
    rw [hk] at e
    simp only [Option.some.injEq, Obj.cells.injEq] at e
    obtain ⟨_, rfl, _⟩ := e
    rcases ht with ht | ht
    · exact h1 ht
    · exact h2 ht

/-- The words of a slice at a can be read. -/
def Rd (w : World) (a : Option Addr) (ws : List Int) : Prop := ∀ (j : Nat) (x : Int), ws[j]? = some x → ∃ g off, a = some ⟨g, off, none⟩ ∧ w.cell? ⟨g, off + j, none⟩ = some (.int .u64 x)
theorem Rd.below {w w' : World} {a : Option Addr} {ws : List Int} (h : Rd w a ws) (hb : Below w.heap.size w w') : Rd w' a ws := by
  intro j x hj
  obtain ⟨g, off, e, hc⟩ := h j x hj
  exact ⟨g, off, e, (hb.cell (cell_lt hc)).trans hc⟩
theorem Rd.nil (w : World) (a : Option Addr) : Rd w a [] := fun j x h => by simp at h
/-- .. and lie in a block of words. -/
def Wd (w : World) (a : Option Addr) (ws : List Int) : Prop := ∀ (j : Nat) (x : Int), ws[j]? = some x → ∃ g off, a = some ⟨g, off, none⟩ ∧ (∃ cs fr, w.heap[g]? = some (.cells cs 52 fr)) ∧ w.cell? ⟨g, off + j, none⟩ = some (.int .u64 x)
theorem Wd.rd {w : World} {a : Option Addr} {ws : List Int} (h : Wd w a ws) : Rd w a ws := by
  intro j x hj
  obtain ⟨g, off, e, _, hc⟩ := h j x hj
  exact ⟨g, off, e, hc⟩
theorem Wd.nil (w : World) (a : Option Addr) : Wd w a [] := fun j x h => by simp at h
theorem Wd.keep {w w' : World} {a : Option Addr} {ws : List Int} (h : Wd w a ws) (hb : ∀ (k : Nat) (cs : Array Value) (fr : Nat × Nat), w.heap[k]? = some (.cells cs 52 fr) → w'.heap[k]? = some (.cells cs 52 fr)) : Wd w' a ws := by
  intro j x hj
  obtain ⟨g, off, e, ⟨cs, fr, hg⟩, hc⟩ := h j x hj
  have hg' := hb g cs fr hg
  exact ⟨g, off, e, ⟨cs, fr, hg'⟩, cell_same hc (hg'.trans hg.symm)⟩
theorem Wd.tch {B : Nat} {w w' : World} {a : Option Addr} {ws : List Int} (h : Wd w a ws) (hb : Tch B w w') : Wd w' a ws := h.keep (fun k cs fr hk => hb.other hk (by decide) (by decide))
theorem Wd.below {w w' : World} {a : Option Addr} {ws : List Int} (h : Wd w a ws) (hb : Below w.heap.size w w') : Wd w' a ws := h.keep (fun k cs fr hk => (hb.block k (lt_of_heap hk)).trans hk)

/-- Block b holds the queues of Q, at the slices of V. -/
structure IpcIs (w : World) (B b : Nat) (V : Nat → Value) (Q : QS) : Prop where
  head : ∃ row : Array Value, w.heap[b]? = some (.cells row 59) ∧ row.size = 12 ∧ ∀ j, j < 12 → row[j]? = some (V j)
  own : ∀ j, j < 12 → w.ownsRow B 64 2 (V j) (Q j).length (mcells (Q j))
  sep : ∀ i j, i < 12 → j < 12 → i ≠ j → ∀ g, (V i).ownBlock = some g → (V j).ownBlock ≠ some g
  wd : ∀ j, j < 12 → ∀ m ∈ Q j, Wd w m.a m.ws
  len : ∀ j, j < 12 → (Q j).length ≤ 4
  bB : B ≤ b
def IpcAt (w : World) (B b : Nat) (Q : QS) : Prop := ∃ V, IpcIs w B b V Q
section
variable {w w' w1 : World} {B b : Nat} {V : Nat → Value} {Q : QS}
theorem IpcIs.ltb (h : IpcIs w B b V Q) : b < w.heap.size := by
  obtain ⟨row, hr, _⟩ := h.head
  exact lt_of_heap hr
theorem IpcIs.below (h : IpcIs w B b V Q) (hb : Below w.heap.size w w') : IpcIs w' B b V Q := by
  obtain ⟨row, hr, h1⟩ := h.head
  exact ⟨⟨row, (hb.block _ h.ltb).trans hr, h1⟩, fun j hj => ownsRow_below (h.own j hj) hb, h.sep, fun j hj m hm => (h.wd j hj m hm).below hb, h.len, h.bB⟩
theorem IpcIs.cell (h : IpcIs w B b V Q) {j : Nat} (hj : j < 12) : w.cell? ⟨b, j, none⟩ = some (V j) := by
  obtain ⟨row, hr, _, h2⟩ := h.head
  rw [cell_of_heap hr]
  exact h2 j hj
theorem IpcIs.free (h : IpcIs w B b V Q) (o : Nat) : w.frozen? ⟨b, o, none⟩ = false := by
  obtain ⟨row, hr, _⟩ := h.head
  exact frozen_of_heap hr
theorem IpcIs.far (h : IpcIs w B b V Q) {j : Nat} (hj : j < 12) : (V j).ownBlock ≠ some b := by
  intro e
  obtain ⟨cs, hc⟩ := own_type (h.own j hj) e
  obtain ⟨row, hr, _⟩ := h.head
  rw [hr] at hc
  simp only [Option.some.injEq, Obj.cells.injEq] at hc
  exact absurd hc.2.1 (by decide)
/-- A queue's slice is another one: what is left behind the store. -/
theorem IpcIs.put (h : IpcIs w B b V Q) {j : Nat} (hj : j < 12) {v : Value} {M : List Mg} (hg : w.grownBy w1 (V j).ownBlock) (ho : w1.ownsRow B 64 2 v M.length (mcells M))
    (hat : ∀ g, v.ownBlock = some g → (V j).ownBlock = some g ∨ w.heap.size ≤ g) (hw : ∀ m ∈ M, Wd w1 m.a m.ws) (hl : M.length ≤ 4) :
    IpcAt (w1.setCell ⟨b, j, none⟩ v) B b (Q.set j M) := by
  obtain ⟨row, hr, hs, hc⟩ := h.head
  have hb1 : w1.heap[b]? = some (.cells row 59) := (hg.block b h.ltb (fun e => h.far hj e.symm)).trans hr
  have hset : ∀ k, k ≠ b → (w1.setCell ⟨b, j, none⟩ v).heap[k]? = w1.heap[k]? := fun k hk => Below.heap_setCell _ _ _ _ hk
  have hword : ∀ (k : Nat) (cs : Array Value) (fr : Nat × Nat), w1.heap[k]? = some (.cells cs 52 fr) → (w1.setCell ⟨b, j, none⟩ v).heap[k]? = some (.cells cs 52 fr) := by
    intro k cs fr hk
    rw [hset k ?_]
    · exact hk
    · rintro rfl
      rw [hb1] at hk
      simp only [Option.some.injEq, Obj.cells.injEq] at hk
      exact absurd hk.2.1 (by decide)
  have hown : ∀ i, i < 12 → i ≠ j → ∀ g, (V i).ownBlock = some g → w1.heap[g]? = w.heap[g]? := fun i hi hij g hgi => hg.block g ((h.own i hi).lt g hgi).2 (fun e => h.sep i j hi hj hij g hgi e.symm)
  have hnb : v.ownBlock ≠ some b := by
    intro e
    obtain ⟨cs, hcs⟩ := own_type ho e
    rw [hb1] at hcs
    simp only [Option.some.injEq, Obj.cells.injEq] at hcs
    exact absurd hcs.2.1 (by decide)
  refine ⟨fun i => if i = j then v else V i, ⟨row.setIfInBounds j v, ?_, by simp [hs], fun i hi => ?_⟩, fun i hi => ?_, fun i k hi hk hik g hgi => ?_, fun i hi m hm => ?_, fun i hi => ?_, h.bB⟩
  · rw [setCell_eq_setRow w1 b _ _ _ _ _ hb1, setRow_heap w1 b _ _ _ _ hb1]
  · rw [Array.getElem?_setIfInBounds]
    by_cases e : j = i
    · subst e
      rw [if_pos rfl, if_pos (by omega), if_pos rfl]
    · rw [if_neg e, if_neg (fun x => e x.symm)]
      exact hc i hi
  · by_cases e : i = j
    · subst e
      rw [if_pos rfl, QS.set_same]
      exact ownsRow_at ho (fun g hg' => hset g (fun e => hnb (by rw [← e]; exact hg')))
    · rw [if_neg e, QS.set_other _ _ _ _ e]
      exact ownsRow_at (h.own i hi) (fun g hg' => (hset g (fun x => h.far hi (by rw [← x]; exact hg'))).trans (hown i hi e g hg'))
  · by_cases e : i = j
    · subst e
      rw [if_pos rfl] at hgi
      rw [if_neg (fun x => hik x.symm)]
      intro hgk
      rcases hat g hgi with q | q
      · exact h.sep i k hi hk hik g q hgk
      · have := ((h.own k hk).lt g hgk).2
        omega
    · rw [if_neg e] at hgi
      by_cases e2 : k = j
      · subst e2
        rw [if_pos rfl]
        intro hgk
        rcases hat g hgk with q | q
        · exact h.sep i k hi hk e g hgi q
        · have := ((h.own i hi).lt g hgi).2
          omega
      · rw [if_neg e2]
        exact h.sep i k hi hk hik g hgi
  · by_cases e : i = j
    · subst e
      rw [QS.set_same] at hm
      exact (hw m hm).keep hword
    · rw [QS.set_other _ _ _ _ e] at hm
      refine ((h.wd i hi m hm).keep (fun k cs fr hk => ?_)).keep hword
      refine (hg.block k (lt_of_heap hk) (fun e => ?_)).trans hk
      obtain ⟨cs', hcs⟩ := own_type (h.own j hj) e.symm
      rw [hk] at hcs
      simp only [Option.some.injEq, Obj.cells.injEq] at hcs
      exact absurd hcs.2.1 (by decide)
  · by_cases e : i = j
    · subst e
      rw [QS.set_same]
      exact hl
    · rw [QS.set_other _ _ _ _ e]
      exact h.len i hi
theorem IpcIs.tch (h : IpcIs w B b V Q) {j : Nat} (hj : j < 12) {v : Value} (hg : w.grownBy w1 (V j).ownBlock) : Tch B w (w1.setCell ⟨b, j, none⟩ v) := by
  refine ⟨hg.os, hg.tape, hg.output, by simpa [World.setCell] using hg.size, fun k hk hx => ?_⟩
  obtain ⟨row, hr, _⟩ := h.head
  have hkb : k ≠ b := by
    rintro rfl
    rcases hx with hx | hx
    · have := h.bB; omega
    · exact hx ⟨_, _, _, hr, Or.inr rfl⟩
  rw [Below.heap_setCell _ _ _ _ hkb]
  refine hg.block k hk (fun e => ?_)
  rcases hx with hx | hx
  · have := ((h.own j hj).lt k e.symm).1
    omega
  · obtain ⟨cs, hcs⟩ := own_type (h.own j hj) e.symm
    exact hx ⟨_, _, _, hcs, Or.inl rfl⟩
end
theorem IpcAt.below {w w' : World} {B b : Nat} {Q : QS} (h : IpcAt w B b Q) (hb : Below w.heap.size w w') : IpcAt w' B b Q := by
  obtain ⟨V, h⟩ := h
  exact ⟨V, h.below hb⟩
theorem IpcAt.ltb {w : World} {B b : Nat} {Q : QS} (h : IpcAt w B b Q) : b < w.heap.size := by
  obtain ⟨V, h⟩ := h
  exact h.ltb
theorem IpcAt.le {w : World} {B b : Nat} {Q : QS} (h : IpcAt w B b Q) : B ≤ b := by
  obtain ⟨V, h⟩ := h
  exact h.bB
theorem IpcAt.len {w : World} {B b : Nat} {Q : QS} (h : IpcAt w B b Q) (n : Int) : (qat Q n).length ≤ 4 := by
  obtain ⟨V, h⟩ := h
  unfold qat
  split
  · rename_i he
    obtain ⟨m, rfl, hm⟩ := isE_nat he
    exact h.len m hm
  · simp

theorem isEnv_at (n : Int) (w : World) :
    Calls Try.prog 23 #[.int .i64 n] w fun e w' => e = .returned (.bool (isE n)) ∧ w' = w := by
  by_cases h0 : 0 ≤ n
  · have g0 : decide (0 ≤ n) = true := decide_eq_true h0
    have HB : Hid (isE n = decide (n < 12)) := by show _ = _; simp [isE, h0]
    go_enter Try.func23, Try.ntmps23
    go_wp2
    all_goals
      go_ret
      exact ⟨by rw [HB.out]; simp_all, rfl⟩
  · have g0 : decide (0 ≤ n) = false := decide_eq_false h0
    have HB : Hid (isE n = false) := by show _ = _; simp [isE, h0]
    go_enter Try.func23, Try.ntmps23
    go_wp2
    all_goals
      go_ret
      exact ⟨by rw [HB.out]; rfl, rfl⟩
theorem ptr_eq (b : Nat) (W : World) : (binOp .eql 23 (.pointer (some ⟨b, 0, none⟩)) (.pointer none)).run Try.prog W = .ok (.bool false) W := by go_simp
theorem length_at (b j n cap : Nat) (a : Option Addr) (w : World) (h : w.cell? ⟨b, j, none⟩ = some (.slice a n cap)) :
    Calls Try.prog 24 #[.pointer (some ⟨b, j, none⟩)] w fun e w' => e = .returned (.int .i64 n) ∧ w' = w := by
  go_enter Try.func24, Try.ntmps24
  go_wp2
  go_ret
  exact ⟨rfl, rfl⟩

theorem waiting_nil (n : Int) (w : World) :
    Calls Try.prog 16 #[.pointer none, .int .i64 n] w fun e w' => e = .returned (.int .i64 0) ∧ w' = w := by
  go_enter Try.func16, Try.ntmps16
  go_wp2
  go_ret
  exact ⟨rfl, rfl⟩
theorem waiting_at (B b : Nat) (Q : QS) (n : Int) (w : World) (h : IpcAt w B b Q) :
    Calls Try.prog 16 #[.pointer (some ⟨b, 0, none⟩), .int .i64 n] w fun e w' => e = .returned (.int .i64 ((qat Q n).length : Nat)) ∧ w' = w := by
  obtain ⟨V, h⟩ := h
  have hne := ptr_eq b
  have hI := isEnv_at n w
  cases hn : isE n with
  | false =>
    have HQ : Hid (qat Q n = []) := qat_no Q hn
    rw [hn] at hI
    clear h hn
    go_enter Try.func16, Try.ntmps16
    go_wp2_with (go_at_call 23; refine hI.mono ?_; rintro e w1 ⟨rfl, hw⟩; rw [hw]; clear hw w1)
    go_ret
    exact ⟨by rw [HQ.out]; rfl, rfl⟩
  | true =>
    rw [hn] at hI
    obtain ⟨m, rfl, hm⟩ := isE_nat hn
    have HQ : Hid (qat Q m = Q m) := qat_nat Q hm
    have hmi : (m : Int) < 12 := by omega
    have c0 := h.cell hm
    obtain ⟨a, cap, hv⟩ := own_slice (h.own m hm)
    rw [hv] at c0
    have hL := length_at b m (Q m).length cap a w c0
    clear h hn hv c0
    go_enter Try.func16, Try.ntmps16
    go_wp2_with (first
      | (go_at_call 23; refine hI.mono ?_; rintro e w1 ⟨rfl, hw⟩; rw [hw]; clear hw w1)
      | (go_at_call 24; refine hL.mono ?_; rintro e w1 ⟨rfl, hw⟩; rw [hw]; clear hw w1))
    go_ret
    exact ⟨by rw [HQ.out]; rfl, rfl⟩

/-- New queues. -/
abbrev nrow : Array Value := #[.slice none 0 0, .slice none 0 0, .slice none 0 0, .slice none 0 0, .slice none 0 0, .slice none 0 0, .slice none 0 0, .slice none 0 0, .slice none 0 0, .slice none 0 0, .slice none 0 0, .slice none 0 0]
theorem ipc_new (w : World) : IpcAt (w.alloc (.cells nrow 59)) w.heap.size w.heap.size Q0 := by
  refine ⟨fun _ => .slice none 0 0, ⟨nrow, heap_alloc_new _ _, rfl, fun j hj => ?_⟩, fun j _ => World.ownsRow_nil _ _ _ _, fun i j _ _ _ g hg => by simp [Value.ownBlock] at hg, fun j _ m hm => absurd hm (by simp [Q0]), fun j _ => by simp [Q0], Nat.le_refl _⟩
  obtain rfl | rfl | rfl | rfl | rfl | rfl | rfl | rfl | rfl | rfl | rfl | rfl : j = 0 ∨ j = 1 ∨ j = 2 ∨ j = 3 ∨ j = 4 ∨ j = 5 ∨ j = 6 ∨ j = 7 ∨ j = 8 ∨ j = 9 ∨ j = 10 ∨ j = 11 := by omega
  all_goals rfl
theorem new_at (w : World) :
    Calls Try.prog 8 #[] w fun e w' => e = .returned (.pointer (some ⟨w.heap.size, 0, none⟩)) ∧ IpcAt w' w.heap.size w.heap.size Q0 ∧ Below w.heap.size w w' := by
  obtain ⟨W, hW⟩ : ∃ W, W = w.alloc (.cells nrow 59) := ⟨_, rfl⟩
  have HE : Hid (IpcAt W w.heap.size w.heap.size Q0) := by rw [hW]; exact ipc_new w
  have HB : Hid (Below w.heap.size w W) := by rw [hW]; exact below_alloc _ _
  unfold nrow at hW
  have HW : Hid _ := hW
  clear hW
  go_enter Try.func8, Try.ntmps8
  go_wp2
  rw [← HW.out]
  clear HW
  go_ret
  exact ⟨rfl, HE.out, HB.out⟩
end Go.Proofs.Ytikeknehkoccpaa
