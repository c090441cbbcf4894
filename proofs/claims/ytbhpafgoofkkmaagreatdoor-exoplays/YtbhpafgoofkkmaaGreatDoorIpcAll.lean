import Derived.Test.YtbhpafgoofkkmaaGreatDoorPlain
import Derived.Test.YtbhpafgoofkkmaaGreatDoorRows
import Derived.WalkKit
import Derived.WalkSpells
import Derived.WalkLawsBesides
import Derived.Deep.RegionHeld3
import Derived.Deep.RegionLaw
import Derived.Deep.QuietTactic
import Derived.Deep.AppendLies
import Derived.BigRegion
import Derived.BigQuiet
import Derived.Laws.ResultCell
import Derived.OwnWalk
set_option linter.all false
namespace Go.Proofs.YtbhpafgoofkkmaaGreatDoor
open Go.RowKit
namespace Ip
structure Mg where
 fr : Int
 a : Option Addr
 cap : Nat
 ws : List Int
abbrev Mg.v (m : Mg) : Value := .slice m.a m.ws.length m.cap
def mcells (M : List Mg) : List Value := M.flatMap (fun m => [Value.int .i64 m.fr, m.v])
theorem mcells_app (M N : List Mg) : mcells (M ++ N) = mcells M ++ mcells N := by simp [mcells]
theorem mcells_len : ∀ (M : List Mg), (mcells M).length = M.length * 2
 | [] => rfl
 | u :: M => by
  have := mcells_len M
  unfold mcells at *
  rw [List.flatMap_cons, List.length_append, this]
  simp
  omega
theorem mcells_one (M : List Mg) : ∀ u ∈ mcells M, u.oneCell' = true := by
 intro u hu
 simp only [mcells, List.mem_flatMap] at hu
 obtain ⟨p, _, hp⟩ := hu
 simp at hp
 rcases hp with rfl | rfl <;> rfl
theorem mcells_get : ∀ (M : List Mg) (j : Nat) (m : Mg), M[j]? = some m → (mcells M)[j * 2]? = some (.int .i64 m.fr) ∧ (mcells M)[j * 2 + 1]? = some m.v
 | [], j, m, h => by simp at h
 | u :: M, 0, m, h => by
  simp at h
  subst h
  exact ⟨rfl, rfl⟩
 | u :: M, j + 1, m, h => by
  have := mcells_get M j m (by simpa using h)
  show ([Value.int .i64 u.fr, u.v] ++ mcells M)[(j + 1) * 2]? = _ ∧ ([Value.int .i64 u.fr, u.v] ++ mcells M)[(j + 1) * 2 + 1]? = _
  rw [List.getElem?_append_right (by simp; omega), List.getElem?_append_right (by simp; omega)]
  simp only [List.length_cons, List.length_nil]
  rw [show (j + 1) * 2 - (0 + 1 + 1) = j * 2 by omega, show (j + 1) * 2 + 1 - (0 + 1 + 1) = j * 2 + 1 by omega]
  exact this
theorem mcells_of {M : List Mg} {l : List Value} (hl : l.length = M.length * 2) (h : ∀ (j : Nat) (m : Mg), M[j]? = some m → l[j * 2]? = some (.int .i64 m.fr) ∧ l[j * 2 + 1]? = some m.v) : l = mcells M := by
 apply List.ext_getElem?
 intro i
 by_cases hi : i < M.length * 2
 ·have hj : i / 2 < M.length := by omega
  obtain ⟨m, hm⟩ : ∃ m, M[i / 2]? = some m := ⟨M[i / 2], List.getElem?_eq_getElem hj⟩
  obtain ⟨a1, a2⟩ := h _ m hm
  obtain ⟨b1, b2⟩ := mcells_get M _ m hm
  rcases Nat.mod_two_eq_zero_or_one i with e | e
  ·rw [show i / 2 * 2 = i by omega] at a1 b1
   rw [a1, b1]
  ·rw [show i / 2 * 2 + 1 = i by omega] at a2 b2
   rw [a2, b2]
 ·rw [List.getElem?_eq_none (by omega), List.getElem?_eq_none (by rw [mcells_len]; omega)]
def QS := Nat → List Mg
def QS.set (Q : QS) (j : Nat) (M : List Mg) : QS := fun i => if i = j then M else Q i
theorem QS.set_same (Q : QS) (j : Nat) (M : List Mg) : (Q.set j M) j = M := if_pos rfl
theorem QS.set_other (Q : QS) (j i : Nat) (M : List Mg) (h : i ≠ j) : (Q.set j M) i = Q i := if_neg h
def Q0 : QS := fun _ => []
def isE (n : Int) : Bool := decide (0 ≤ n) && decide (n < 12)
theorem isE_nat {n : Int} (h : isE n = true) : ∃ m : Nat, n = m ∧ m < 12 := by
 simp [isE] at h
 exact ⟨n.toNat, by omega, by omega⟩
theorem isE_of {m : Nat} (h : m < 12) : isE m = true := by simp [isE]; omega
def qat (Q : QS) (n : Int) : List Mg := if isE n then Q n.toNat else []
theorem qat_nat (Q : QS) {m : Nat} (h : m < 12) : qat Q m = Q m := by unfold qat; rw [isE_of h]; rfl
theorem qat_no (Q : QS) {n : Int} (h : isE n = false) : qat Q n = [] := by unfold qat; rw [h]; rfl
def sendR (Q : QS) (f t : Int) (len : Nat) : Int := if isE f = true ∧ isE t = true ∧ len ≤ 8 then (if (qat Q t).length < 4 then 0 else 105) else 101
def sendQ (Q : QS) (f t : Int) (a : Option Addr) (cap : Nat) (ws : List Int) : QS := if sendR Q f t ws.length = 0 then Q.set t.toNat (qat Q t ++ [⟨f, a, cap, ws⟩]) else Q
theorem sendQ_no {Q : QS} {f t : Int} {a : Option Addr} {cap : Nat} {ws : List Int} (h : sendR Q f t ws.length ≠ 0) : sendQ Q f t a cap ws = Q := if_neg h
theorem sendQ_yes {Q : QS} {f t : Int} {a : Option Addr} {cap : Nat} {ws : List Int} (h : sendR Q f t ws.length = 0) : sendQ Q f t a cap ws = Q.set t.toNat (qat Q t ++ [⟨f, a, cap, ws⟩]) := if_pos h
def recvQ (Q : QS) (n : Int) : QS := if isE n then Q.set n.toNat ((Q n.toNat).tail) else Q
def recvF (M : List Mg) : Int := match M with | [] => 0 | m :: _ => m.fr
def recvV (M : List Mg) : Value := match M with | [] => .slice none 0 0 | m :: _ => m.v
def recvB (M : List Mg) : Bool := match M with | [] => false | _ :: _ => true
def froms (M : List Mg) : List Int := M.map Mg.fr
end Ip
end Go.Proofs.YtbhpafgoofkkmaaGreatDoor
namespace Go.Proofs.YtbhpafgoofkkmaaGreatDoor
open Go.RowKit
namespace Ip
theorem below_alloc (w : World) (o : Obj) : Below w.heap.size w (w.alloc o) := (Below.refl _ _).alloc (Nat.le_refl _) _
theorem cell_same {w w' : World} {p : Addr} {v : Value} (h : w.cell? p = some v) (hb : w'.heap[p.block]? = w.heap[p.block]?) : w'.cell? p = some v := by
 unfold World.cell? at *
 rw [hb]
 exact h
theorem ownsRow_at {w w' : World} {base : Nat} {e : TypeId} {size : Nat} {v : Value} {n : Nat} {xs : List Value} (h : w.ownsRow base e size v n xs) (hb : ∀ g, v.ownBlock = some g → w'.heap[g]? = w.heap[g]?) : w'.ownsRow base e size v n xs := by
 obtain ⟨h1, h2⟩ := h
 refine ⟨h1, ?_⟩
 rcases h2 with h2 | ⟨g, cap, cur, hv, hg, hh, r⟩
 ·exact Or.inl h2
 ·exact Or.inr ⟨g, cap, cur, hv, hg, (hb g (by rw [hv]; rfl)).trans hh, r⟩
theorem ownsRow_below {w w' : World} {base : Nat} {e : TypeId} {size : Nat} {v : Value} {n : Nat} {xs : List Value} (h : w.ownsRow base e size v n xs) (hb : Below w.heap.size w w') : w'.ownsRow base e size v n xs :=
 ownsRow_at h (fun g hg => hb.block g (h.lt g hg).2)
theorem ownsRow_low {w : World} {base : Nat} {e : TypeId} {size : Nat} {v : Value} {n : Nat} {xs : List Value} (h : w.ownsRow base e size v n xs) : ∀ g, v.ownBlock = some g → base ≤ g := fun g hg => (h.lt g hg).1
theorem own_slice {w : World} {base : Nat} {e : TypeId} {size : Nat} {v : Value} {n : Nat} {xs : List Value} (h : w.ownsRow base e size v n xs) : ∃ a cap, v = .slice a n cap := by
 rcases h.2 with ⟨rfl, rfl⟩ | ⟨g, cap, cur, rfl, _⟩
 ·exact ⟨none, 0, rfl⟩
 ·exact ⟨_, cap, rfl⟩
theorem own_type {w : World} {base : Nat} {e : TypeId} {size : Nat} {v : Value} {n : Nat} {xs : List Value} (h : w.ownsRow base e size v n xs) {g : Nat} (hg : v.ownBlock = some g) : ∃ cs, w.heap[g]? = some (.cells cs e (0, 0)) := by
 rcases h.2 with ⟨rfl, _⟩ | ⟨g', cap, cur, rfl, _, hh, _⟩
 ·simp [Value.ownBlock] at hg
 ·simp [Value.ownBlock] at hg
  subst hg
  exact ⟨cur, hh⟩
theorem below_grown {B : Nat} {w w' : World} {row : Option Nat} (h : w.grownBy w' row) (hs : B ≤ w.heap.size) (hv : ∀ g, row = some g → B ≤ g) : Below B w w' :=
 ⟨h.os, h.tape, h.output, h.size, fun k hk => h.block k (by omega) (fun e => by have := hv k e.symm; omega)⟩
theorem grown_below {w w' : World} (row : Option Nat) (h : Below w.heap.size w w') : w.grownBy w' row := ⟨h.os, h.tape, h.output, h.size, fun k hk _ => h.block k hk⟩
theorem grown_trans {a b c : World} {row : Option Nat} (h : a.grownBy b row) (k : b.grownBy c row) : a.grownBy c row :=
 ⟨k.os.trans h.os, k.tape.trans h.tape, k.output.trans h.output, Nat.le_trans h.size k.size, fun i hi hg => (k.block i (Nat.lt_of_lt_of_le hi h.size) hg).trans (h.block i hi hg)⟩
def XB (w : World) (k : Nat) : Prop := ∃ cs t fr, w.heap[k]? = some (.cells cs t fr) ∧ (t = 176 ∨ t = 173)
structure Tch (B : Nat) (w w' : World) : Prop where
 os : w'.os = w.os
 tape : w'.tape = w.tape
 output : w'.output = w.output
 size : w.heap.size ≤ w'.heap.size
 block : ∀ k, k < w.heap.size → (k < B ∨ ¬ XB w k) → w'.heap[k]? = w.heap[k]?
theorem xb_same {w w' : World} {k : Nat} (h : w'.heap[k]? = w.heap[k]?) : XB w' k ↔ XB w k := by unfold XB; rw [h]
theorem Tch.refl (B : Nat) (w : World) : Tch B w w := ⟨rfl, rfl, rfl, Nat.le_refl _, fun _ _ _ => rfl⟩
theorem Tch.trans {B : Nat} {a b c : World} (h : Tch B a b) (k : Tch B b c) : Tch B a c :=
 ⟨k.os.trans h.os, k.tape.trans h.tape, k.output.trans h.output, Nat.le_trans h.size k.size, fun i hi hg => by
   have e := h.block i hi hg
   refine (k.block i (Nat.lt_of_lt_of_le hi h.size) ?_).trans e
   rcases hg with hg | hg
   · exact Or.inl hg
   · exact Or.inr (fun x => hg ((xb_same e).1 x))⟩
theorem Tch.of_below {B : Nat} {w w' : World} (h : Below w.heap.size w w') : Tch B w w' := ⟨h.os, h.tape, h.output, h.size, fun k hk _ => h.block k hk⟩
theorem Tch.other {B : Nat} {w w' : World} (h : Tch B w w') {k : Nat} {cs : Array Value} {t : TypeId} {fr : Nat × Nat} (hk : w.heap[k]? = some (.cells cs t fr)) (h1 : t ≠ 176) (h2 : t ≠ 173) : w'.heap[k]? = some (.cells cs t fr) := by
 rw [h.block k (lt_of_heap hk) (Or.inr ?_)]
 ·exact hk
 ·rintro ⟨cs', t', fr', e, ht⟩
  rw [hk] at e
  simp only [Option.some.injEq, Obj.cells.injEq] at e
  obtain ⟨_, rfl, _⟩ := e
  rcases ht with ht | ht
  ·exact h1 ht
  ·exact h2 ht
def Rd (w : World) (a : Option Addr) (ws : List Int) : Prop := ∀ (j : Nat) (x : Int), ws[j]? = some x → ∃ g off, a = some ⟨g, off, none⟩ ∧ w.cell? ⟨g, off + j, none⟩ = some (.int .u64 x)
theorem Rd.below {w w' : World} {a : Option Addr} {ws : List Int} (h : Rd w a ws) (hb : Below w.heap.size w w') : Rd w' a ws := by
 intro j x hj
 obtain ⟨g, off, e, hc⟩ := h j x hj
 exact ⟨g, off, e, (hb.cell (cell_lt hc)).trans hc⟩
def Wd (w : World) (a : Option Addr) (ws : List Int) : Prop := ∀ (j : Nat) (x : Int), ws[j]? = some x → ∃ g off, a = some ⟨g, off, none⟩ ∧ (∃ cs fr, w.heap[g]? = some (.cells cs 42 fr)) ∧ w.cell? ⟨g, off + j, none⟩ = some (.int .u64 x)
theorem Wd.rd {w : World} {a : Option Addr} {ws : List Int} (h : Wd w a ws) : Rd w a ws := by
 intro j x hj
 obtain ⟨g, off, e, _, hc⟩ := h j x hj
 exact ⟨g, off, e, hc⟩
theorem Wd.nil (w : World) (a : Option Addr) : Wd w a [] := fun j x h => by simp at h
theorem Wd.keep {w w' : World} {a : Option Addr} {ws : List Int} (h : Wd w a ws) (hb : ∀ (k : Nat) (cs : Array Value) (fr : Nat × Nat), w.heap[k]? = some (.cells cs 42 fr) → w'.heap[k]? = some (.cells cs 42 fr)) : Wd w' a ws := by
 intro j x hj
 obtain ⟨g, off, e, ⟨cs, fr, hg⟩, hc⟩ := h j x hj
 have hg' := hb g cs fr hg
 exact ⟨g, off, e, ⟨cs, fr, hg'⟩, cell_same hc (hg'.trans hg.symm)⟩
theorem Wd.tch {B : Nat} {w w' : World} {a : Option Addr} {ws : List Int} (h : Wd w a ws) (hb : Tch B w w') : Wd w' a ws := h.keep (fun k cs fr hk => hb.other hk (by decide) (by decide))
theorem Wd.below {w w' : World} {a : Option Addr} {ws : List Int} (h : Wd w a ws) (hb : Below w.heap.size w w') : Wd w' a ws := h.keep (fun k cs fr hk => (hb.block k (lt_of_heap hk)).trans hk)
structure IpcIs (w : World) (B b : Nat) (V : Nat → Value) (Q : QS) : Prop where
 head : ∃ row : Array Value, w.heap[b]? = some (.cells row 173) ∧ row.size = 12 ∧ ∀ j, j < 12 → row[j]? = some (V j)
 own : ∀ j, j < 12 → w.ownsRow B 176 2 (V j) (Q j).length (mcells (Q j))
 sep : ∀ i j, i < 12 → j < 12 → i ≠ j → ∀ g, (V i).ownBlock = some g → (V j).ownBlock ≠ some g
 wd : ∀ j, j < 12 → ∀ m ∈ Q j, Wd w m.a m.ws
 len : ∀ j, j < 12 → (Q j).length ≤ 4
 bB : B ≤ b
def IpcAt (w : World) (B b : Nat) (Q : QS) : Prop := ∃ V, IpcIs w B b V Q
section
variable {w w' w1 : World} {B b : Nat} {V : Nat → Value} {Q : QS}
theorem IpcIs.ltb (h : IpcIs w B b V Q) : b < w.heap.size := by
 obtain ⟨row, hr, _⟩ := h.head
 exact lt_of_heap hr
theorem IpcIs.below (h : IpcIs w B b V Q) (hb : Below w.heap.size w w') : IpcIs w' B b V Q := by
 obtain ⟨row, hr, h1⟩ := h.head
 exact ⟨⟨row, (hb.block _ h.ltb).trans hr, h1⟩, fun j hj => ownsRow_below (h.own j hj) hb, h.sep, fun j hj m hm => (h.wd j hj m hm).below hb, h.len, h.bB⟩
theorem IpcIs.cell (h : IpcIs w B b V Q) {j : Nat} (hj : j < 12) : w.cell? ⟨b, j, none⟩ = some (V j) := by
 obtain ⟨row, hr, _, h2⟩ := h.head
 rw [cell_of_heap hr]
 exact h2 j hj
theorem IpcIs.free (h : IpcIs w B b V Q) (o : Nat) : w.frozen? ⟨b, o, none⟩ = false := by
 obtain ⟨row, hr, _⟩ := h.head
 exact frozen_of_heap hr
theorem IpcIs.far (h : IpcIs w B b V Q) {j : Nat} (hj : j < 12) : (V j).ownBlock ≠ some b := by
 intro e
 obtain ⟨cs, hc⟩ := own_type (h.own j hj) e
 obtain ⟨row, hr, _⟩ := h.head
 rw [hr] at hc
 simp only [Option.some.injEq, Obj.cells.injEq] at hc
 exact absurd hc.2.1 (by decide)
theorem IpcIs.put (h : IpcIs w B b V Q) {j : Nat} (hj : j < 12) {v : Value} {M : List Mg} (hg : w.grownBy w1 (V j).ownBlock) (ho : w1.ownsRow B 176 2 v M.length (mcells M))
  (hat : ∀ g, v.ownBlock = some g → (V j).ownBlock = some g ∨ w.heap.size ≤ g) (hw : ∀ m ∈ M, Wd w1 m.a m.ws) (hl : M.length ≤ 4) :
  IpcAt (w1.setCell ⟨b, j, none⟩ v) B b (Q.set j M) := by
 obtain ⟨row, hr, hs, hc⟩ := h.head
 have hb1 : w1.heap[b]? = some (.cells row 173) := (hg.block b h.ltb (fun e => h.far hj e.symm)).trans hr
 have hset : ∀ k, k ≠ b → (w1.setCell ⟨b, j, none⟩ v).heap[k]? = w1.heap[k]? := fun k hk => Below.heap_setCell _ _ _ _ hk
 have hword : ∀ (k : Nat) (cs : Array Value) (fr : Nat × Nat), w1.heap[k]? = some (.cells cs 42 fr) → (w1.setCell ⟨b, j, none⟩ v).heap[k]? = some (.cells cs 42 fr) := by
  intro k cs fr hk
  rw [hset k ?_]
  ·exact hk
  ·rintro rfl
   rw [hb1] at hk
   simp only [Option.some.injEq, Obj.cells.injEq] at hk
   exact absurd hk.2.1 (by decide)
 have hown : ∀ i, i < 12 → i ≠ j → ∀ g, (V i).ownBlock = some g → w1.heap[g]? = w.heap[g]? := fun i hi hij g hgi => hg.block g ((h.own i hi).lt g hgi).2 (fun e => h.sep i j hi hj hij g hgi e.symm)
 have hnb : v.ownBlock ≠ some b := by
  intro e
  obtain ⟨cs, hcs⟩ := own_type ho e
  rw [hb1] at hcs
  simp only [Option.some.injEq, Obj.cells.injEq] at hcs
  exact absurd hcs.2.1 (by decide)
 refine ⟨fun i => if i = j then v else V i, ⟨row.setIfInBounds j v, ?_, by simp [hs], fun i hi => ?_⟩, fun i hi => ?_, fun i k hi hk hik g hgi => ?_, fun i hi m hm => ?_, fun i hi => ?_, h.bB⟩
 ·rw [setCell_eq_setRow w1 b _ _ _ _ _ hb1, setRow_heap w1 b _ _ _ _ hb1]
 ·rw [Array.getElem?_setIfInBounds]
  by_cases e : j = i
  ·subst e
   rw [if_pos rfl, if_pos (by omega), if_pos rfl]
  ·rw [if_neg e, if_neg (fun x => e x.symm)]
   exact hc i hi
 ·by_cases e : i = j
  ·subst e
   rw [if_pos rfl, QS.set_same]
   exact ownsRow_at ho (fun g hg' => hset g (fun e => hnb (by rw [← e]; exact hg')))
  ·rw [if_neg e, QS.set_other _ _ _ _ e]
   exact ownsRow_at (h.own i hi) (fun g hg' => (hset g (fun x => h.far hi (by rw [← x]; exact hg'))).trans (hown i hi e g hg'))
 ·by_cases e : i = j
  ·subst e
   rw [if_pos rfl] at hgi
   rw [if_neg (fun x => hik x.symm)]
   intro hgk
   rcases hat g hgi with q | q
   ·exact h.sep i k hi hk hik g q hgk
   ·have := ((h.own k hk).lt g hgk).2
    omega
  ·rw [if_neg e] at hgi
   by_cases e2 : k = j
   ·subst e2
    rw [if_pos rfl]
    intro hgk
    rcases hat g hgk with q | q
    ·exact h.sep i k hi hk e g hgi q
    ·have := ((h.own i hi).lt g hgi).2
     omega
   ·rw [if_neg e2]
    exact h.sep i k hi hk hik g hgi
 ·by_cases e : i = j
  ·subst e
   rw [QS.set_same] at hm
   exact (hw m hm).keep hword
  ·rw [QS.set_other _ _ _ _ e] at hm
   refine ((h.wd i hi m hm).keep (fun k cs fr hk => ?_)).keep hword
   refine (hg.block k (lt_of_heap hk) (fun e => ?_)).trans hk
   obtain ⟨cs', hcs⟩ := own_type (h.own j hj) e.symm
   rw [hk] at hcs
   simp only [Option.some.injEq, Obj.cells.injEq] at hcs
   exact absurd hcs.2.1 (by decide)
 ·by_cases e : i = j
  ·subst e
   rw [QS.set_same]
   exact hl
  ·rw [QS.set_other _ _ _ _ e]
   exact h.len i hi
theorem IpcIs.tch (h : IpcIs w B b V Q) {j : Nat} (hj : j < 12) {v : Value} (hg : w.grownBy w1 (V j).ownBlock) : Tch B w (w1.setCell ⟨b, j, none⟩ v) := by
 refine ⟨hg.os, hg.tape, hg.output, by simpa [World.setCell] using hg.size, fun k hk hx => ?_⟩
 obtain ⟨row, hr, _⟩ := h.head
 have hkb : k ≠ b := by
  rintro rfl
  rcases hx with hx | hx
  ·have := h.bB; omega
  ·exact hx ⟨_, _, _, hr, Or.inr rfl⟩
 rw [Below.heap_setCell _ _ _ _ hkb]
 refine hg.block k hk (fun e => ?_)
 rcases hx with hx | hx
 ·have := ((h.own j hj).lt k e.symm).1
  omega
 ·obtain ⟨cs, hcs⟩ := own_type (h.own j hj) e.symm
  exact hx ⟨_, _, _, hcs, Or.inl rfl⟩
end
theorem IpcAt.below {w w' : World} {B b : Nat} {Q : QS} (h : IpcAt w B b Q) (hb : Below w.heap.size w w') : IpcAt w' B b Q := by
 obtain ⟨V, h⟩ := h
 exact ⟨V, h.below hb⟩
theorem IpcAt.len {w : World} {B b : Nat} {Q : QS} (h : IpcAt w B b Q) (n : Int) : (qat Q n).length ≤ 4 := by
 obtain ⟨V, h⟩ := h
 unfold qat
 split
 ·rename_i he
  obtain ⟨m, rfl, hm⟩ := isE_nat he
  exact h.len m hm
 ·simp
theorem isEnv_at (n : Int) (w : World) :
  Calls Tryz.prog 104 #[.int .i64 n] w fun e w' => e = .returned (.bool (isE n)) ∧ w' = w := by
 by_cases h0 : 0 ≤ n
 ·have g0 : decide (0 ≤ n) = true := decide_eq_true h0
  have HB : Hid (isE n = decide (n < 12)) := by show _ = _; simp [isE, h0]
  go_enter Tryz.func104, Tryz.ntmps104
  go_wp2
  all_goals
   go_ret
   exact ⟨by rw [HB.out]; simp_all, rfl⟩
 ·have g0 : decide (0 ≤ n) = false := decide_eq_false h0
  have HB : Hid (isE n = false) := by show _ = _; simp [isE, h0]
  go_enter Tryz.func104, Tryz.ntmps104
  go_wp2
  all_goals
   go_ret
   exact ⟨by rw [HB.out]; rfl, rfl⟩
theorem ptr_eq (b : Nat) (W : World) : (binOp .eql 78 (.pointer (some ⟨b, 0, none⟩)) (.pointer none)).run Tryz.prog W = .ok (.bool false) W := by go_simp
theorem length_at (b j n cap : Nat) (a : Option Addr) (w : World) (h : w.cell? ⟨b, j, none⟩ = some (.slice a n cap)) :
  Calls Tryz.prog 105 #[.pointer (some ⟨b, j, none⟩)] w fun e w' => e = .returned (.int .i64 n) ∧ w' = w := by
 go_enter Tryz.func105, Tryz.ntmps105
 go_wp2
 go_ret
 exact ⟨rfl, rfl⟩
theorem waiting_at (B b : Nat) (Q : QS) (n : Int) (w : World) (h : IpcAt w B b Q) :
  Calls Tryz.prog 40 #[.pointer (some ⟨b, 0, none⟩), .int .i64 n] w fun e w' => e = .returned (.int .i64 ((qat Q n).length : Nat)) ∧ w' = w := by
 obtain ⟨V, h⟩ := h
 have hne := ptr_eq b
 have hI := isEnv_at n w
 cases hn : isE n with
 | false =>
  have HQ : Hid (qat Q n = []) := qat_no Q hn
  rw [hn] at hI
  clear h hn
  go_enter Tryz.func40, Tryz.ntmps40
  go_wp2_with (go_at_call 104; refine hI.mono ?_; rintro e w1 ⟨rfl, hw⟩; rw [hw]; clear hw w1)
  go_ret
  exact ⟨by rw [HQ.out]; rfl, rfl⟩
 | true =>
  rw [hn] at hI
  obtain ⟨m, rfl, hm⟩ := isE_nat hn
  have HQ : Hid (qat Q m = Q m) := qat_nat Q hm
  have hmi : (m : Int) < 12 := by omega
  have c0 := h.cell hm
  obtain ⟨a, cap, hv⟩ := own_slice (h.own m hm)
  rw [hv] at c0
  have hL := length_at b m (Q m).length cap a w c0
  clear h hn hv c0
  go_enter Tryz.func40, Tryz.ntmps40
  go_wp2_with (first
    | (go_at_call 104; refine hI.mono ?_; rintro e w1 ⟨rfl, hw⟩; rw [hw]; clear hw w1)
    | (go_at_call 105; refine hL.mono ?_; rintro e w1 ⟨rfl, hw⟩; rw [hw]; clear hw w1))
  go_ret
  exact ⟨by rw [HQ.out]; rfl, rfl⟩
abbrev nrow : Array Value := #[.slice none 0 0, .slice none 0 0, .slice none 0 0, .slice none 0 0, .slice none 0 0, .slice none 0 0, .slice none 0 0, .slice none 0 0, .slice none 0 0, .slice none 0 0, .slice none 0 0, .slice none 0 0]
theorem ipc_new (w : World) : IpcAt (w.alloc (.cells nrow 173)) w.heap.size w.heap.size Q0 := by
 refine ⟨fun _ => .slice none 0 0, ⟨nrow, heap_alloc_new _ _, rfl, fun j hj => ?_⟩, fun j _ => World.ownsRow_nil _ _ _ _, fun i j _ _ _ g hg => by simp [Value.ownBlock] at hg, fun j _ m hm => absurd hm (by simp [Q0]), fun j _ => by simp [Q0], Nat.le_refl _⟩
 obtain rfl | rfl | rfl | rfl | rfl | rfl | rfl | rfl | rfl | rfl | rfl | rfl : j = 0 ∨ j = 1 ∨ j = 2 ∨ j = 3 ∨ j = 4 ∨ j = 5 ∨ j = 6 ∨ j = 7 ∨ j = 8 ∨ j = 9 ∨ j = 10 ∨ j = 11 := by omega
 all_goals rfl
theorem new_at (w : World) :
  Calls Tryz.prog 54 #[] w fun e w' => e = .returned (.pointer (some ⟨w.heap.size, 0, none⟩)) ∧ IpcAt w' w.heap.size w.heap.size Q0 ∧ Below w.heap.size w w' := by
 obtain ⟨W, hW⟩ : ∃ W, W = w.alloc (.cells nrow 173) := ⟨_, rfl⟩
 have HE : Hid (IpcAt W w.heap.size w.heap.size Q0) := by rw [hW]; exact ipc_new w
 have HB : Hid (Below w.heap.size w W) := by rw [hW]; exact below_alloc _ _
 unfold nrow at hW
 have HW : Hid _ := hW
 clear hW
 go_enter Tryz.func54, Tryz.ntmps54
 go_wp2
 rw [← HW.out]
 clear HW
 go_ret
 exact ⟨rfl, HE.out, HB.out⟩
end Ip
end Go.Proofs.YtbhpafgoofkkmaaGreatDoor
namespace Go.Proofs.YtbhpafgoofkkmaaGreatDoor
open Go.RowKit
namespace Ip
theorem wpList_append_eq {P : Program} {w w' : World} {ops : Array Oper} {rest : List Oper} {o : Oper} {a : Act} {Q : Exit → Act → World → Prop} (hgd : o.guard = none) (s x : Operand) (t : TypeId)
  (ho : o.op = .call { callee := .builtin .append, args := #[s, x], argTypes := #[t, t] }) (sv xv r : Value) (hs : a.eval s = sv) (hx : a.eval x = xv) (hr : ∀ ty, (Builtin.append_ #[t, t] ty #[sv, xv]).run P w = .ok r w')
  (h : wpList P ops Q rest (a.put o.dst r) w') : wpList P ops Q (o :: rest) a w := by
 refine wpList_plain hgd fun K hK => ?_
 unfold Oper.wp
 simp [execOp, ho, resolve, invoke, builtin, hs, hx, hr, Result.andThen]
 exact hK _ _ h
theorem step_append_eq {P : Program} {ops : Array Oper} {o : Oper} {a : Act} {w w' : World} {K : Act → World → Prop} {Q : Exit → Act → World → Prop} {E : Prop} (hgd : o.guard = none) (s x : Operand) (t : TypeId)
  (ho : o.op = .call { callee := .builtin .append, args := #[s, x], argTypes := #[t, t] }) (sv xv r : Value) (hs : a.eval s = sv) (hx : a.eval x = xv) (hr : ∀ ty, (Builtin.append_ #[t, t] ty #[sv, xv]).run P w = .ok r w') (hK : K (a.put o.dst r) w') :
  if Region.wanted o (yielded ops a.tmps) = true then Oper.wp P o a w K Q else E := by
 have hw : Region.wanted o (yielded ops a.tmps) = true := by simp [Region.wanted, hgd]
 rw [if_pos hw]
 unfold Oper.wp execOp
 simp only [ho, resolve, invoke, builtin, Sem.run_bind, Sem.run_pure, Result.andThen_ok, List.map_toArray, List.map_cons, List.map_nil, hs, hx, hr]
 exact hK
theorem run_append_none {P : Program} (w : World) (t e : TypeId) (i : TypeInfo) (ht : P.underlying t = some (.slice e)) (hi : P.info? e = some i) (b : Option Addr) (cap : Nat) (ty : TypeId) :
  (Builtin.append_ #[t, t] ty #[.slice none 0 0, .slice b 0 cap]).run P w = .ok (.slice none 0 0) w := by
 cases b <;> simp [Builtin.append_, run_underlying ht, sizeOf, typeInfo, hi, Builtin.lenOf, Builtin.firstCells, loadCells, loadCellsFrom]
theorem wordInfo : (Tryz.prog.info? 42).map (fun i => (i.zero, i.size, i.bytes)) = some (some (.int .u64 0), 1, 8) := by kernel_rfl
theorem msgInfo : (Tryz.prog.info? 176).map (fun i => (i.zero, i.size, i.bytes)) = some (some (.agg #[.int .i64 0, .slice none 0 0]), 2, 32) := by kernel_rfl
theorem add0 (g o j : Nat) : (⟨g, o, none⟩ : Addr).add j = ⟨g, o + j, none⟩ := by unfold Addr.add; split <;> simp_all
def uvs (zs : List Int) : List Value := zs.map (Value.int .u64)
theorem uvs_len (zs : List Int) : (uvs zs).length = zs.length := by simp [uvs]
theorem uvs_one (zs : List Int) : ∀ u ∈ uvs zs, u.oneCell' = true := by
 intro u hu
 simp only [uvs, List.mem_map] at hu
 obtain ⟨x, _, rfl⟩ := hu
 rfl
theorem uvs_get {zs : List Int} {j : Nat} {u : Value} (h : (uvs zs)[j]? = some u) : ∃ x, zs[j]? = some x ∧ u = .int .u64 x := by
 simp only [uvs, List.getElem?_map, Option.map_eq_some_iff] at h
 obtain ⟨a, ha, rfl⟩ := h
 exact ⟨a, ha, rfl⟩
theorem wd_of_own {w : World} {B g cap : Nat} {ws : List Int} (h : w.ownsRow B 42 1 (.slice (some ⟨g, 0, none⟩) ws.length cap) ws.length (uvs ws)) : Wd w (some ⟨g, 0, none⟩) ws := by
 intro j x hx
 obtain ⟨cs, hcs⟩ := own_type h (g := g) rfl
 refine ⟨g, 0, rfl, ⟨cs, _, hcs⟩, ?_⟩
 have := h.cells (g := g) rfl j (.int .u64 x) (by simp [uvs, hx])
 rw [add0] at this
 exact this
def NewA (M : Nat) (a : Option Addr) : Prop := ∀ g off, a = some ⟨g, off, none⟩ → M ≤ g
theorem copy_words2 {w : World} {a : Option Addr} {ws : List Int} (h : Rd w a ws) (c : Nat) (hl : ws.length * 8 ≤ 140737488355328) :
  ∃ a' cap' w', (∀ ty, (Builtin.append_ #[27, 27] ty #[.slice none 0 0, .slice a ws.length c]).run Tryz.prog w = .ok (.slice a' ws.length cap') w') ∧ Wd w' a' ws ∧ Below w.heap.size w w' ∧ NewA w.heap.size a' := by
 obtain ⟨i0, hi0, hzz⟩ := Option.map_eq_some_iff.1 wordInfo
 simp only [Prod.mk.injEq] at hzz
 obtain ⟨hz0, hz1, hz2⟩ := hzz
 by_cases hn : ws.length = 0
 ·have : ws = [] := List.length_eq_zero_iff.1 hn
  subst this
  exact ⟨none, 0, w, fun ty => run_append_none w _ _ i0 Tryz.underlying27 hi0 a c ty, Wd.nil _ _, Below.refl _ _, fun g off e => by cases e⟩
 ·obtain ⟨x, hx⟩ : ∃ x, ws[0]? = some x := ⟨ws[0], List.getElem?_eq_getElem (by omega)⟩
  obtain ⟨g, off, rfl, _⟩ := h 0 x hx
  obtain ⟨g', cap', w', hr, hown, hgrow, _, _⟩ := run_append_lies (P := Tryz.prog) w 27 0 w.heap.size 42 i0 _ 1 8 Tryz.underlying27 hi0 hz0 hz1 hz2 rfl (by omega) (.slice none 0 0) 0 [] (World.ownsRow_nil _ _ _ _)
   ⟨g, off, none⟩ ws.length c (uvs ws) (by rw [uvs_len]; omega) (fun j u hu => by
     obtain ⟨y, hy, rfl⟩ := uvs_get hu
     obtain ⟨g2, off2, e, hc⟩ := h j y hy
     simp only [Option.some.injEq, Addr.mk.injEq] at e
     obtain ⟨rfl, rfl, _⟩ := e
     rw [add0]
     exact hc) (uvs_one ws) (by omega) (by unfold maxLen; omega) (by omega) (Nat.le_refl _) _ rfl
  rw [Nat.zero_add] at hr hown
  rw [List.nil_append] at hown
  exact ⟨some ⟨g', 0, none⟩, cap', w', fun ty => hr, wd_of_own hown, below_grown hgrow (Nat.le_refl _) (fun k hk => by simp [Value.ownBlock] at hk), fun g off e => by
    cases e
    exact (World.ownsRow.lt hown _ rfl).1⟩
theorem words_same (D : List Int) (a b : Option Addr) (ca cb : Nat) (w : World) (ha : Rd w a D) (hb : Rd w b D) (hl : D.length ≤ 1000000) :
  Calls Tryz.prog 11 #[.slice a D.length ca, .slice b D.length cb] w fun e w' => e = .returned (.bool true) ∧ Below w.heap.size w w' := by
 have HA : Hid _ := ha
 have HB : Hid _ := hb
 clear ha hb
 go_enter Tryz.func11, Tryz.ntmps11
 go_wp2
 go_loopw [5] (fun s wr => ∃ (k : Nat), k ≤ D.length ∧ s = .int .i64 k ∧ Below w.heap.size w wr) (fun s _ => D.length - (intOf s).toNat)
 case atStart => exact ⟨0, by omega, rfl, Below.refl _ _⟩
 case round =>
  obtain ⟨k, hk, rfl, hbw⟩ := hrel
  by_cases hlt : k < D.length
  ·obtain ⟨x, hx⟩ : ∃ x, D[k]? = some x := ⟨D[k], List.getElem?_eq_getElem hlt⟩
   obtain ⟨ga, oa, rfl, a0⟩ := (Rd.below HA.out hbw) k x hx
   obtain ⟨gb, ob, rfl, b0⟩ := (Rd.below HB.out hbw) k x hx
   clear hx
   go_wp2_with fail
   go_region
   all_goals
    go_wp2
    go_roundw
    case rel => exact ⟨k + 1, by omega, by go_num, hbw.drew⟩
    case measure => simp [intOf]; omega
  ·obtain rfl : k = D.length := by omega
   go_wp2
   go_ret
   exact ⟨rfl, hbw⟩
abbrev mrow (m : Mg) : Array Value := #[.int .i64 m.fr, .slice m.a m.ws.length m.cap]
set_option maxRecDepth 100000 in
set_option maxHeartbeats 3200000 in
theorem add_at (B b j : Nat) (V : Nat → Value) (Q : QS) (m : Mg) (w : World) (h : IpcIs w B b V Q) (hj : j < 12) (hm : Wd w m.a m.ws) (hl : (Q j).length < 4) (hB : B ≤ w.heap.size) :
  Calls Tryz.prog 140 #[.pointer (some ⟨b, j, none⟩), .agg (mrow m)] w fun e w' => e = .returned (.tuple #[]) ∧ IpcAt w' B b (Q.set j (Q j ++ [m])) ∧ Tch B w w' := by
 obtain ⟨i0, hi0, hzz⟩ := Option.map_eq_some_iff.1 msgInfo
 simp only [Prod.mk.injEq] at hzz
 obtain ⟨hz0, hz1, hz2⟩ := hzz
 obtain ⟨W, hW⟩ : ∃ W, W = w.alloc (.cells (mrow m) 176) := ⟨_, rfl⟩
 have hbW : Below w.heap.size w W := by rw [hW]; exact below_alloc _ _
 have hsW : w.heap.size + 1 = W.heap.size := by rw [hW]; simp
 have hbox : W.heap[w.heap.size]? = some (.cells (mrow m) 176) := by rw [hW]; exact heap_alloc_new _ _
 have hI := h.below hbW
 have c0 := hI.cell hj
 have f0 := hI.free j
 have hown := hI.own j hj
 have hfar := hI.far hj
 have hbl := hI.ltb
 have e0 : W.cell? ⟨w.heap.size, 0, none⟩ = some (.int .i64 m.fr) := by rw [cell_of_heap hbox]; rfl
 have e1 : W.cell? ⟨w.heap.size, 1, none⟩ = some (.slice m.a m.ws.length m.cap) := by rw [cell_of_heap hbox]; rfl
 obtain ⟨av, cv, hv⟩ := own_slice hown
 have HI : Hid _ := hI
 have HM : Hid (Wd W m.a m.ws) := hm.below hbW
 have HBW : Hid _ := hbW
 have HNB : Hid ((W.alloc (.cells (mrow m) 176)).drew.heap[W.heap.size]? = some (.cells (mrow m) 176)) := by
  show (W.alloc (.cells (mrow m) 176)).heap[W.heap.size]? = _
  exact heap_alloc_new _ _
 have HO : Hid _ := hown
 have HV : Hid _ := hv
 have hBW : B ≤ W.heap.size := by omega
 have hal : (W.alloc (.cells (mrow m) 176)).heap.size = W.heap.size + 1 := by simp
 have HT : Hid (Tch B w W) := Tch.of_below hbW
 rw [hv] at c0 hfar
 clear h hI hbW hbox hown hsW hv hm
 have HQL : Hid ((Q j).length < 4) := hl
 have HW : Hid _ := hW
 clear hW
 obtain ⟨fr, a, cap, ws⟩ := m
 dsimp only [mrow] at *
 generalize hk : (Q j).length = K at *
 have HK : Hid _ := hk
 clear hk
 go_enter Tryz.func140, Tryz.ntmps140
 go_wp2_with fail
 rw [← HW.out]
 go_region_law
  ((refine step_append_lies _ (by rfl) _ _ _ (by rfl) B 176 i0 _ 2 32 Tryz.underlying168 hi0 hz0 hz1 hz2 rfl (by omega) (.slice av K cv) K (mcells (Q j)) (by rfl) (by rw [← HV.out]; exact (World.ownsRow.alloc HO.out _).drew)
      ⟨W.heap.size, 0, none⟩ 1 1 [.int .i64 fr, .slice a ws.length cap] (by rfl) (by rfl) (World.news_of_block (cs := #[.int .i64 fr, .slice a ws.length cap]) (t := 176) (fr := (0, 0)) HNB.out) (by simp [Value.oneCell'])
      (by omega) (by unfold maxLen; omega) (by omega) (by rw [World.drew]; simp; omega) _ rfl ?_; intro gg cap2 w1 hown1 hgrow hat hlt1; have hcw := hgrow.cell_far ⟨b, j, none⟩ (by simp; omega) (Ne.symm hfar); have hfw := hgrow.frozen_far ⟨b, j, none⟩ (by simp; omega) (Ne.symm hfar)))
 all_goals
  go_wp2
  go_end0
  have hg : W.grownBy w1 (V j).ownBlock := by
   rw [HV.out]
   refine grown_trans (grown_below _ ?_) hgrow
   exact (below_alloc W _).drew
  have ho : w1.ownsRow B 176 2 (.slice (some ⟨gg, 0, none⟩) (K + 1) cap2) (Q j ++ [(⟨fr, a, cap, ws⟩ : Mg)]).length (mcells (Q j ++ [(⟨fr, a, cap, ws⟩ : Mg)])) := by
   rw [List.length_append, HK.out, mcells_app]
   exact hown1
  have hwm : ∀ q ∈ Q j ++ [(⟨fr, a, cap, ws⟩ : Mg)], Wd w1 q.a q.ws := by
   intro q hq
   have hwq : Wd W q.a q.ws := by
    rcases List.mem_append.1 hq with hq | hq
    ·exact HI.out.wd j hj q hq
    ·rw [List.mem_singleton] at hq
     subst hq
     exact HM.out
   refine hwq.keep (fun k cs fr hk => (hg.block k (lt_of_heap hk) (fun e => ?_)).trans hk)
   obtain ⟨cs', hcs⟩ := own_type (HI.out.own j hj) e.symm
   rw [hk] at hcs
   simp only [Option.some.injEq, Obj.cells.injEq] at hcs
   exact absurd hcs.2.1 (by decide)
  refine ⟨rfl, HI.out.put hj hg ho (fun g hgq => ?_) hwm ?_, HT.out.trans (HI.out.tch hj hg)⟩
  ·simp only [Value.ownBlock, Option.some.injEq] at hgq
   subst hgq
   rcases hat with q | q
   ·exact Or.inl (by rw [HV.out]; exact q)
   ·right
    rw [q]
    show W.heap.size ≤ (W.alloc _).heap.size
    rw [World.size_alloc]
    omega
  ·rw [List.length_append]
   have := HK.out
   have := HQL.out
   simp
   omega
theorem send_arg (b : Nat) (f t : Int) (a : Option Addr) (n cap : Nat) (w : World) (h : ¬ (isE f = true ∧ isE t = true ∧ n ≤ 8)) :
  Calls Tryz.prog 74 #[.pointer (some ⟨b, 0, none⟩), .int .i64 f, .int .i64 t, .slice a n cap] w fun e w' => e = .returned (.int .i64 101) ∧ w' = w := by
 have hne := ptr_eq b
 have hF := isEnv_at f w
 have hT := isEnv_at t w
 cases hf : isE f with
 | false =>
  rw [hf] at hF
  clear h hf hT
  go_enter Tryz.func74, Tryz.ntmps74
  go_wp2_with (go_at_call 104; refine hF.mono ?_; rintro e w1 ⟨rfl, hw⟩; rw [hw]; clear hw w1)
  go_ret
  exact ⟨rfl, rfl⟩
 | true =>
  rw [hf] at hF
  cases ht : isE t with
  | false =>
   rw [ht] at hT
   clear h hf ht
   go_enter Tryz.func74, Tryz.ntmps74
   go_wp2_with fail
   refine hF.mono ?_
   rintro e w1 ⟨rfl, hw⟩
   rw [hw]
   clear hw w1
   go_wp2_with fail
   refine hT.mono ?_
   rintro e w1 ⟨rfl, hw⟩
   rw [hw]
   clear hw w1
   go_wp2
   go_ret
   exact ⟨rfl, rfl⟩
  | true =>
   rw [ht] at hT
   have hn : 8 < n := by
    rcases Nat.lt_or_ge 8 n with q | q
    ·exact q
    ·exact absurd ⟨hf, ht, q⟩ h
   have gn : decide ((8 : Int) < (n : Int)) = true := decide_eq_true (by omega)
   clear h hf ht hn
   go_enter Tryz.func74, Tryz.ntmps74
   go_wp2_with fail
   refine hF.mono ?_
   rintro e w1 ⟨rfl, hw⟩
   rw [hw]
   clear hw w1
   go_wp2_with fail
   refine hT.mono ?_
   rintro e w1 ⟨rfl, hw⟩
   rw [hw]
   clear hw w1
   go_wp2
   go_ret
   exact ⟨rfl, rfl⟩
set_option maxHeartbeats 1000000 in
theorem send2_at (B b : Nat) (Q : QS) (f t : Int) (a : Option Addr) (ws : List Int) (cap : Nat) (w : World) (h : IpcAt w B b Q) (hr : Rd w a ws) (hB : B ≤ w.heap.size) :
  Calls Tryz.prog 74 #[.pointer (some ⟨b, 0, none⟩), .int .i64 f, .int .i64 t, .slice a ws.length cap] w fun e w' => e = .returned (.int .i64 (sendR Q f t ws.length)) ∧ (∃ a' cap', IpcAt w' B b (sendQ Q f t a' cap' ws) ∧ NewA w.heap.size a') ∧ Tch B w w' := by
 by_cases hok : isE f = true ∧ isE t = true ∧ ws.length ≤ 8
 ·obtain ⟨V, h⟩ := h
  obtain ⟨hf, ht, hn⟩ := hok
  have hne := ptr_eq b
  have hF := isEnv_at f w
  have hT := isEnv_at t w
  rw [hf] at hF
  rw [ht] at hT
  obtain ⟨m, rfl, hm⟩ := isE_nat ht
  have gn : decide ((8 : Int) < (ws.length : Int)) = false := decide_eq_false (by omega)
  have hmi : (m : Int) < 12 := by omega
  have c0 := h.cell hm
  obtain ⟨av, cv, hv⟩ := own_slice (h.own m hm)
  rw [hv] at c0
  have hL := length_at b m (Q m).length cv av w c0
  have HQ : Hid (qat Q m = Q m) := qat_nat Q hm
  by_cases hq : (Q m).length < 4
  ·have HR : Hid (sendR Q f m ws.length = 0) := by show _ = _; unfold sendR; rw [if_pos ⟨hf, ht, hn⟩, HQ.out, if_pos hq]
   have g4 : decide ((4 : Int) ≤ ((Q m).length : Int)) = false := decide_eq_false (by omega)
   obtain ⟨a', cap', w', hrun, hwd, hbl, hnew⟩ := copy_words2 hr cap (by omega)
   have HA : Hid _ := add_at B b m V Q ⟨f, a', cap', ws⟩ w' (h.below hbl) hm hwd hq (Nat.le_trans hB hbl.size)
   have HB : Hid _ := hbl
   have HN : Hid (NewA w.heap.size a') := hnew
   have HS : Hid (sendQ Q f m a' cap' ws = Q.set m (Q m ++ [⟨f, a', cap', ws⟩])) := by show _ = _; rw [sendQ_yes HR.out, HQ.out]; rfl
   have HRun : Hid _ := hrun
   clear h hr hf ht hn c0 hv hq hwd hbl hrun hnew
   go_enter Tryz.func74, Tryz.ntmps74
   go_wp2_with fail
   refine hF.mono ?_
   rintro e w1 ⟨rfl, hw⟩
   rw [hw]
   clear hw w1
   go_wp2_with fail
   refine hT.mono ?_
   rintro e w1 ⟨rfl, hw⟩
   rw [hw]
   clear hw w1
   go_wp2_with fail
   refine hL.mono ?_
   rintro e w1 ⟨rfl, hw⟩
   rw [hw]
   clear hw w1
   go_wp2_with (at_builtin; refine wpList_append_eq rfl _ _ _ rfl _ _ _ rfl rfl HRun.out ?_)
   refine Calls.mono HA.out ?_
   rintro e w1 ⟨rfl, hE, hU⟩
   have HE : Hid _ := hE
   have HU : Hid _ := hU
   clear hE hU
   go_wp2
   go_ret
   refine ⟨by rw [HR.out]; rfl, ⟨a', cap', ?_, HN.out⟩, (Tch.of_below HB.out).trans HU.out⟩
   rw [HS.out]
   exact HE.out
  ·have HR : Hid (sendR Q f m ws.length = 105) := by show _ = _; unfold sendR; rw [if_pos ⟨hf, ht, hn⟩, HQ.out, if_neg hq]
   have g4 : decide ((4 : Int) ≤ ((Q m).length : Int)) = true := decide_eq_true (by omega)
   have HS : Hid (sendQ Q f m none 0 ws = Q) := sendQ_no (by rw [HR.out]; decide)
   have HI : Hid _ := h
   clear h hr hf ht hn c0 hv hq
   go_enter Tryz.func74, Tryz.ntmps74
   go_wp2_with fail
   refine hF.mono ?_
   rintro e w1 ⟨rfl, hw⟩
   rw [hw]
   clear hw w1
   go_wp2_with fail
   refine hT.mono ?_
   rintro e w1 ⟨rfl, hw⟩
   rw [hw]
   clear hw w1
   go_wp2_with fail
   refine hL.mono ?_
   rintro e w1 ⟨rfl, hw⟩
   rw [hw]
   clear hw w1
   go_wp2
   go_ret
   refine ⟨by rw [HR.out]; rfl, ⟨none, 0, ?_, fun g off e => by cases e⟩, Tch.refl _ _⟩
   rw [HS.out]
   exact ⟨V, HI.out⟩
 ·have hR : sendR Q f t ws.length = 101 := if_neg hok
  refine (send_arg b f t a ws.length cap w hok).mono ?_
  rintro e w' ⟨rfl, rfl⟩
  refine ⟨by rw [hR], ⟨none, 0, ?_, fun g off e => by cases e⟩, Tch.refl _ _⟩
  rw [sendQ_no (by rw [hR]; decide)]
  exact h
end Ip
end Go.Proofs.YtbhpafgoofkkmaaGreatDoor
namespace Go.Proofs.YtbhpafgoofkkmaaGreatDoor
open Go.RowKit
namespace Ip
theorem run_clear_wide {P : Program} (w : World) (t ty elem : TypeId) (g o n cap : Nat) (cur : Array Value) (et : TypeId) (z : Value) (size : Nat) (hu : P.underlying t = some (.slice elem))
  (hz : (P.info? elem).map (fun i => i.zero) = some (some z)) (hsz : z.cells.size = size) (h0 : 0 < size) (h1 : ∀ v ∈ z.cells.toList, v.oneCell' = true)
  (hg : w.heap[g]? = some (.cells cur et (0, 0))) (hn : 0 < n) (hfit : o + n * size ≤ cur.size) :
  ∃ cur', (Builtin.clear_ #[t] ty #[.slice (some ⟨g, o, none⟩) n cap]).run P w = .ok (.tuple #[]) (w.setRow g cur') ∧ cur'.size = cur.size ∧ ∀ x, x < o → cur'[x]? = cur[x]? := by
 obtain ⟨i, hi, hzz⟩ := Option.map_eq_some_iff.1 hz
 have hlen : (Builtin.zeroCells z.cells n).toList.length = n * size := by simp [Builtin.zeroCells, hsz]
 have hone : ∀ v ∈ (Builtin.zeroCells z.cells n).toList, v.oneCell' = true := by
  intro v hv
  simp [Builtin.zeroCells] at hv
  obtain ⟨a, ha, rfl⟩ := hv
  have hlt : a % z.cells.size < z.cells.size := Nat.mod_lt _ (by omega)
  rw [getElem!_pos z.cells _ hlt]
  exact h1 _ (by simp)
 have hst := run_storeCells_at P g o et (Builtin.zeroCells z.cells n).toList 0 cur w hg (by rw [hlen]; omega) hone
 obtain ⟨m, rfl⟩ : ∃ m, n = m + 1 := ⟨n - 1, by omega⟩
 rw [hlen] at hst
 simp only [Nat.add_zero] at hst
 refine ⟨(cur.toList.take o ++ (Builtin.zeroCells z.cells (m + 1)).toList ++ cur.toList.drop (o + (m + 1) * size)).toArray, ?_, ?_, ?_⟩
 ·simp [Builtin.clear_, run_underlying hu, zeroValue, typeInfo, hi, hzz, hst]
 ·simp [hlen]; omega
 ·intro x hx
  rw [List.getElem?_toArray, List.append_assoc, List.getElem?_append_left (by simp; omega), List.getElem?_take_of_lt hx]
  simp
def cur2 (cur : Array Value) (o : Nat) (x y : Value) : Array Value := (cur.setIfInBounds o x).setIfInBounds (o + 1) y
def Pts (cur : Array Value) (M : List Mg) : Prop := ∀ (i : Nat) (m : Mg), M[i]? = some m → cur[i * 2]? = some (.int .i64 m.fr) ∧ cur[i * 2 + 1]? = some m.v
theorem Pts.flat {cur : Array Value} {M : List Mg} (h : Pts cur M) (hs : M.length * 2 ≤ cur.size) : cur.toList.take (M.length * 2) = mcells M := by
 refine mcells_of (by simp; omega) (fun j m hm => ?_)
 have hj : j < M.length := (List.getElem?_eq_some_iff.1 hm).1
 rw [List.getElem?_take_of_lt (by omega), List.getElem?_take_of_lt (by omega)]
 simpa using h j m hm
theorem Pts.of_flat {cur : Array Value} {M : List Mg} (h : cur.toList.take (M.length * 2) = mcells M) : Pts cur M := by
 intro j m hm
 have hj : j < M.length := (List.getElem?_eq_some_iff.1 hm).1
 obtain ⟨h1, h2⟩ := mcells_get M j m hm
 rw [← h, List.getElem?_take_of_lt (by omega)] at h1 h2
 exact ⟨by simpa using h1, by simpa using h2⟩
theorem Pts.sub {cur cur' : Array Value} {M : List Mg} (h : Pts cur M) (hs : ∀ x, x < M.length * 2 → cur'[x]? = cur[x]?) : Pts cur' M := by
 intro i e he
 have hi : i < M.length := (List.getElem?_eq_some_iff.1 he).1
 rw [hs (i * 2) (by omega), hs (i * 2 + 1) (by omega)]
 exact h i e he
theorem own_pts {w : World} {B : Nat} {v : Value} {M : List Mg} (h : w.ownsRow B 176 2 v M.length (mcells M)) :
  (v = .slice none 0 0 ∧ M = []) ∨ ∃ g cap cur, v = .slice (some ⟨g, 0, none⟩) M.length cap ∧ B ≤ g ∧ w.heap[g]? = some (.cells cur 176 (0, 0)) ∧ M.length ≤ cap ∧ cap ≤ maxLen ∧ cur.size = cap * 2 ∧ Pts cur M := by
 rcases h.2 with ⟨h1, h2⟩ | ⟨g, cap, cur, h1, h2, h3, h4, h5, h6, h7⟩
 ·exact Or.inl ⟨h1, List.length_eq_zero_iff.1 h2⟩
 ·exact Or.inr ⟨g, cap, cur, h1, h2, h3, h4, h5, h6, Pts.of_flat h7⟩
theorem own_of_pts {w : World} {B g cap : Nat} {cur : Array Value} {M : List Mg} (h2 : B ≤ g) (h3 : w.heap[g]? = some (.cells cur 176 (0, 0))) (h4 : M.length ≤ cap) (h5 : cap ≤ maxLen) (h6 : cur.size = cap * 2) (h7 : Pts cur M) :
  w.ownsRow B 176 2 (.slice (some ⟨g, 0, none⟩) M.length cap) M.length (mcells M) :=
 ⟨mcells_len M, Or.inr ⟨g, cap, cur, rfl, h2, h3, h4, h5, h6, h7.flat (by omega)⟩⟩
theorem msgZero : (Tryz.prog.info? 176).map (fun i => i.zero) = some (some (.agg #[.int .i64 0, .slice none 0 0])) := by kernel_rfl
theorem upd_grown {g : Nat} {w w' : World} (h : Upd g w w') : w.grownBy w' (some g) := ⟨h.os, h.tape, h.output, h.size, fun k hk hne => h.block k hk (fun e => hne (by rw [e]))⟩
end Ip
end Go.Proofs.YtbhpafgoofkkmaaGreatDoor
namespace Go.Proofs.YtbhpafgoofkkmaaGreatDoor
open Go.RowKit
namespace Ip
theorem run_append_zero {P : Program} (w : World) (t e : TypeId) (i : TypeInfo) (ht : P.underlying t = some (.slice e)) (hi : P.info? e = some i) (a b : Option Addr) (n c cap : Nat) (hle : n ≤ c) (ty : TypeId) :
  (Builtin.append_ #[t, t] ty #[.slice a n c, .slice b 0 cap]).run P w = .ok (.slice a n c) w := by
 cases a <;> cases b <;> simp [Builtin.append_, run_underlying ht, sizeOf, typeInfo, hi, Builtin.lenOf, Builtin.firstCells, loadCells, loadCellsFrom, hle, storeCells]
theorem elemM : Tryz.prog.elem 168 = 176 := by kernel_rfl
set_option maxRecDepth 100000 in
theorem cut_0 (g len cap : Nat) (V : World) : (Instr.slice 168 (.slice (some ⟨g, 0, none⟩) len cap) none (some (.int .i64 0)) none).run Tryz.prog V = .ok (.slice (some ⟨g, 0, none⟩) 0 cap) V := by
 obtain ⟨i0, hi0, hzz⟩ := Option.map_eq_some_iff.1 msgInfo
 rw [run_slice_h V 168 _ _ _ Tryz.underlying168 _ _ (by omega) (by omega)]
 simp [sizeOf, typeInfo, elemM, hi0, sliced, Addr.add]
set_option maxRecDepth 100000 in
theorem cut_1 (g len cap n : Nat) (hl : len = n + 1) (V : World) : (Instr.slice 168 (.slice (some ⟨g, 0, none⟩) len cap) (some (.int .i64 1)) none none).run Tryz.prog V = .ok (.slice (some (if cap = 1 then ⟨g, 0, none⟩ else ⟨g, 2, none⟩)) n (cap - 1)) V := by
 obtain ⟨i0, hi0, hzz⟩ := Option.map_eq_some_iff.1 msgInfo
 simp only [Prod.mk.injEq] at hzz
 subst hl
 rw [run_slice_l V 168 _ _ _ Tryz.underlying168 _ _ (by omega) (by omega)]
 simp only [sizeOf, typeInfo, elemM, sliced, Sem.run_bind, Sem.run_pure]
 by_cases h : cap = 1
 ·simp [h, hi0]
 ·simp [h, hi0, Addr.add, hzz.2.1]
set_option maxRecDepth 100000 in
theorem cut_01 (g len cap : Nat) (h1 : 1 ≤ len) (h2 : len ≤ cap) (V : World) : (Instr.slice 168 (.slice (some ⟨g, 0, none⟩) len cap) (some (.int .i64 0)) (some (.int .i64 1)) (some (.int .i64 len))).run Tryz.prog V = .ok (.slice (some ⟨g, 0, none⟩) 1 len) V := by
 obtain ⟨i0, hi0, hzz⟩ := Option.map_eq_some_iff.1 msgInfo
 rw [run_slice_lhm V 168 _ _ _ Tryz.underlying168 _ _ _ _ _ _ (by omega) (by omega) (by omega) (by omega)]
 simp [sizeOf, typeInfo, elemM, hi0, sliced, Addr.add]
set_option maxRecDepth 100000 in
theorem cut_end (g len cap n : Nat) (hl : len = n + 1) (h2 : len ≤ cap) (V : World) : (Instr.slice 168 (.slice (some ⟨g, 0, none⟩) n cap) (some (.int .i64 n)) (some (.int .i64 len)) none).run Tryz.prog V = .ok (.slice (some ⟨g, n * 2, none⟩) 1 (cap - n)) V := by
 obtain ⟨i0, hi0, hzz⟩ := Option.map_eq_some_iff.1 msgInfo
 simp only [Prod.mk.injEq] at hzz
 rw [run_slice_lh V 168 _ _ _ Tryz.underlying168 _ _ _ _ (by omega) (by omega) (by omega)]
 subst hl
 simp only [sizeOf, typeInfo, elemM, sliced, Sem.run_bind, Sem.run_pure]
 have hne : ¬ cap = n := by omega
 simp [hi0, Addr.add, hzz.2.1, hne]
 omega
theorem del_append {g cap n c : Nat} {cur : Array Value} {m : Mg} {R : List Mg} {w : World} {a2 : Addr} (hh : w.heap[g]? = some (.cells cur 176 (0, 0))) (hcs : cur.size = cap * 2) (hn : n = R.length) (hc : n + 1 ≤ cap) (hpt : Pts cur (m :: R)) (ha : 0 < n → a2 = ⟨g, 2, none⟩) :
  ∃ w2 cur2, (∀ ty, (Builtin.append_ #[168, 168] ty #[.slice (some ⟨g, 0, none⟩) 0 cap, .slice (some a2) n c]).run Tryz.prog w = .ok (.slice (some ⟨g, 0, none⟩) n cap) w2) ∧ w2.heap[g]? = some (.cells cur2 176 (0, 0)) ∧ cur2.size = cap * 2 ∧ Pts cur2 R ∧ Upd g w w2 := by
 obtain ⟨i0, hi0, hzz⟩ := Option.map_eq_some_iff.1 msgInfo
 simp only [Prod.mk.injEq] at hzz
 by_cases h0 : n = 0
 ·have : R = [] := List.length_eq_zero_iff.1 (by omega)
  subst this
  subst h0
  exact ⟨w, cur, fun ty => run_append_zero w _ _ i0 Tryz.underlying168 hi0 _ _ 0 cap c (by omega) ty, hh, hcs, fun i e he => by simp at he, Upd.refl _ _⟩
 ·have ha' := ha (by omega)
  subst ha'
  have hread : ∀ j u, (mcells R)[j]? = some u → w.cell? ((⟨g, 2, none⟩ : Addr).add j) = some u := by
   intro j u hu
   have hj : j < R.length * 2 := by rw [← mcells_len]; exact (List.getElem?_eq_some_iff.1 hu).1
   obtain ⟨q, hq⟩ : ∃ q, R[j / 2]? = some q := ⟨R[j / 2], List.getElem?_eq_getElem (by omega)⟩
   obtain ⟨b1, b2⟩ := mcells_get R _ q hq
   obtain ⟨c1, c2⟩ := hpt (j / 2 + 1) q (by simpa using hq)
   rw [add0, cell_of_heap hh]
   rcases Nat.mod_two_eq_zero_or_one j with e | e
   ·rw [show j / 2 * 2 = j by omega] at b1
    rw [b1] at hu
    cases hu
    rw [show 2 + j = (j / 2 + 1) * 2 by omega]
    exact c1
   ·rw [show j / 2 * 2 + 1 = j by omega] at b2
    rw [b2] at hu
    cases hu
    rw [show 2 + j = (j / 2 + 1) * 2 + 1 by omega]
    exact c2
  have hr := fun ty => run_append_room (P := Tryz.prog) w 168 ty 176 i0 Tryz.underlying168 hi0 g 0 cap cur hh ⟨g, 2, none⟩ n c (mcells R) (by rw [mcells_len, hzz.2.1, hn]) hread (mcells_one R) (by omega) (by rw [mcells_len, hcs]; omega)
  simp only [Nat.zero_add, Nat.zero_mul, List.take_zero, List.nil_append] at hr
  refine ⟨_, _, hr, setRow_heap w g _ _ _ _ hh, ?_, ?_, Upd.setRow _ _ _⟩
  ·simp [mcells_len, hcs]
   omega
  ·intro i e he
   obtain ⟨b1, b2⟩ := mcells_get R i e he
   have hi : i < R.length := (List.getElem?_eq_some_iff.1 he).1
   rw [List.getElem?_toArray, List.getElem?_toArray, List.getElem?_append_left (by rw [mcells_len]; omega), List.getElem?_append_left (by rw [mcells_len]; omega)]
   exact ⟨b1, b2⟩
set_option maxRecDepth 100000 in
set_option maxHeartbeats 2000000 in
theorem delete_any (g cap : Nat) (cur : Array Value) (m : Mg) (R : List Mg) (len : Nat) (w : World) (hlen : len = R.length + 1) (hh : w.heap[g]? = some (.cells cur 176 (0, 0))) (hc : len ≤ cap) (hcs : cur.size = cap * 2) (hpt : Pts cur (m :: R)) (hcl : cap ≤ maxLen) :
  Calls Tryz.prog 178 #[.slice (some ⟨g, 0, none⟩) len cap, .int .i64 0, .int .i64 1] w fun o w' =>
   ∃ cur', o = .returned (.slice (some ⟨g, 0, none⟩) R.length cap) ∧ w'.heap[g]? = some (.cells cur' 176 (0, 0)) ∧ cur'.size = cap * 2 ∧ Pts cur' R ∧ Upd g w w' := by
 have s1 := cut_01 g len cap (by omega) hc
 have s2 := cut_0 g len cap
 have s3 := cut_1 g len cap R.length hlen
 have s4 := cut_end g len cap R.length hlen hc
 have HA2 : Hid (0 < R.length → (if cap = 1 then (⟨g, 0, none⟩ : Addr) else ⟨g, 2, none⟩) = ⟨g, 2, none⟩) := fun hk1 => if_neg (by omega)
 generalize (if cap = 1 then (⟨g, 0, none⟩ : Addr) else ⟨g, 2, none⟩) = a2 at *
 obtain ⟨w2, cur2, hrun, h2, hs2, hp2, hu2⟩ := del_append (w := w.drew) (c := cap - 1) (R := R) (m := m) (n := R.length) (a2 := a2) hh hcs rfl (by omega) hpt HA2.out
 obtain ⟨cur3, hclr, hs3, hx3⟩ := run_clear_wide (P := Tryz.prog) w2 168 0 176 g (R.length * 2) 1 (cap - R.length) cur2 176 _ 2 Tryz.underlying168 msgZero rfl (by omega) (by simp [Value.cells, Value.oneCell']) h2 (by omega) (by rw [hs2]; omega)
 have HRun : Hid _ := hrun
 have HF : Hid ((w2.setRow g cur3).heap[g]? = some (.cells cur3 176 (0, 0))) := setRow_heap _ _ _ _ _ _ h2
 have HS : Hid (cur3.size = cap * 2) := hs3.trans hs2
 have HP : Hid (Pts cur3 R) := hp2.sub (fun x hx => hx3 x hx)
 have HU : Hid (Upd g w (w2.setRow g cur3)) := ((Upd.drew g w).trans hu2).trans (Upd.setRow _ _ _)
 clear hh hcs hpt hlen hc hrun h2 hs2 hp2 hu2 hs3 hx3
 go_enter Tryz.func178, Tryz.ntmps178
 go_wp2_with fail
 go_region_law (refine step_append_eq rfl (.tmp 22) (.tmp 25) 168 rfl (.slice (some ⟨g, 0, none⟩) 0 cap) (.slice (some a2) R.length (cap - 1)) (.slice (some ⟨g, 0, none⟩) R.length cap) (by rfl) (by rfl) HRun.out ?_)
 all_goals
  go_wp2
  go_ret
  exact ⟨cur3, rfl, HF.out, HS.out, HP.out, HU.out⟩
theorem delete_at {B : Nat} {v : Value} {m : Mg} {R : List Mg} {w : World} (h : w.ownsRow B 176 2 v (m :: R).length (mcells (m :: R))) :
  Calls Tryz.prog 178 #[v, .int .i64 0, .int .i64 1] w fun o w' =>
   ∃ a c, o = .returned (.slice a R.length c) ∧ w'.ownsRow B 176 2 (.slice a R.length c) R.length (mcells R) ∧ w.grownBy w' v.ownBlock ∧ (∀ g, (Value.slice a R.length c).ownBlock = some g → v.ownBlock = some g) := by
 rcases own_pts h with ⟨_, h2⟩ | ⟨g, cap, cur, rfl, hB, hh, hc, hm, hs, hpt⟩
 ·cases h2
 ·refine (delete_any g cap cur m R _ w (by simp) hh hc hs hpt hm).mono ?_
  rintro o w' ⟨cur', rfl, hh', hs', hpt', hu⟩
  exact ⟨_, _, rfl, own_of_pts hB hh' (by simp at hc; omega) hm hs' hpt', upd_grown hu, fun g hg => hg⟩
theorem setCell_comm (w : World) (p q : Addr) (x y : Value) (h : p.block ≠ q.block) : (w.setCell p x).setCell q y = (w.setCell q y).setCell p x := by
 unfold World.setCell
 congr 1
 apply Array.ext
 ·simp
 ·intro i h1 h2
  simp only [Array.getElem_modify]
  by_cases e1 : p.block = i
  ·have e2 : ¬ q.block = i := fun e => h (e1.trans e.symm)
   simp [e1, e2]
  ·simp [e1]
set_option maxRecDepth 100000 in
set_option maxHeartbeats 2000000 in
theorem take_no (B b j : Nat) (V : Nat → Value) (Q : QS) (w : World) (h : IpcIs w B b V Q) (hj : j < 12) (hq : Q j = []) :
  Calls Tryz.prog 139 #[.pointer (some ⟨b, j, none⟩)] w fun e w' => e = .returned (.tuple #[.agg #[.int .i64 0, .slice none 0 0], .bool false]) ∧ Below w.heap.size w w' := by
 have c0 := h.cell hj
 obtain ⟨av, cv, hv⟩ := own_slice (h.own j hj)
 rw [hv, hq] at c0
 have hb := h.ltb
 clear h hv hq
 dsimp only [List.length_nil] at c0
 have hn0 : b ≠ w.heap.size := by omega
 have hn1 : b ≠ w.heap.size + 1 := by omega
 go_enter Tryz.func139, Tryz.ntmps139
 go_wp2
 refine bodyPost_ret (v := .tuple #[.agg #[.int .i64 0, .slice none 0 0], .bool false]) ?_ rfl ⟨rfl, ?_⟩
 ·rw [results_cell_tmp rfl]
  go_simp
 ·exact (below_alloc w _).trans ((below_alloc _ _).mono (by simp))
set_option maxRecDepth 100000 in
set_option maxHeartbeats 2000000 in
theorem take_yes (B b j : Nat) (V : Nat → Value) (Q : QS) (m : Mg) (R : List Mg) (w : World) (h : IpcIs w B b V Q) (hj : j < 12) (hq : Q j = m :: R) :
  Calls Tryz.prog 139 #[.pointer (some ⟨b, j, none⟩)] w fun e w' => e = .returned (.tuple #[.agg (mrow m), .bool true]) ∧ IpcAt w' B b (Q.set j R) ∧ Tch B w w' := by
 have c0 := h.cell hj
 have hown := h.own j hj
 rw [hq] at hown
 have hb := h.ltb
 have hn0 : b ≠ w.heap.size := by omega
 have hn1 : b ≠ w.heap.size + 1 := by omega
 have HI : Hid _ := h
 have hpts := own_pts hown
 rcases hpts with ⟨_, h2⟩ | ⟨g, cap, cur, hv, hB, hh, hc, hm, hs, hpt⟩
 ·cases h2
 obtain ⟨p0, p1⟩ := hpt 0 m rfl
 have hgl := lt_of_heap hh
 have d0 : w.cell? ⟨g, 0, none⟩ = some (.int .i64 m.fr) := by rw [cell_of_heap hh]; exact p0
 have d1 : w.cell? ⟨g, 1, none⟩ = some (.slice m.a m.ws.length m.cap) := by rw [cell_of_heap hh]; exact p1
 have hg0 : g ≠ w.heap.size := by omega
 have hg1 : g ≠ w.heap.size + 1 := by omega
 rw [hv] at c0
 have HV : Hid _ := hv
 have hlen : (m :: R).length = R.length + 1 := rfl
 rw [hlen] at c0
 have gl : (((R.length + 1 : Nat) : Int) == 0) = false := beq_false_of_ne (by omega)
 have gl2 : (((R.length : Int) + 1) == 0) = false := beq_false_of_ne (by omega)
 obtain ⟨W, hW⟩ : ∃ W, W = (w.alloc (.cells #[.int .i64 0, .slice none 0 0] 176)).alloc (.cells (mrow m) 176) := ⟨_, rfl⟩
 have hbW : Below w.heap.size w W := by rw [hW]; exact (below_alloc w _).trans ((below_alloc _ _).mono (by simp))
 have hW0 : W.heap[w.heap.size]? = some (.cells #[.int .i64 0, .slice none 0 0] 176) := by
  rw [hW, Below.heap_alloc _ _ _ (by simp)]
  exact heap_alloc_new _ _
 have hW1 : W.heap[w.heap.size + 1]? = some (.cells (mrow m) 176) := by
  rw [hW]
  have := heap_alloc_new (w.alloc (.cells #[.int .i64 0, .slice none 0 0] 176)) (.cells (mrow m) 176)
  rwa [World.size_alloc] at this
 have hWb : W.cell? ⟨b, j, none⟩ = some (.slice (some ⟨g, 0, none⟩) (R.length + 1) cap) := by rw [hbW.cell (p := ⟨b, j, none⟩) hb]; exact c0
 have hWf : W.frozen? ⟨b, j, none⟩ = false := by
  have := (h.below hbW).free j
  exact this
 have hD := delete_at (ownsRow_below hown hbW)
 rw [hv, hlen] at hD
 have HBW : Hid _ := hbW
 have HW0 : Hid _ := hW0
 have HW1 : Hid _ := hW1
 have HWb : Hid _ := hWb
 have HWf : Hid _ := hWf
 have HQ : Hid _ := hq
 unfold mrow at hW
 have HW : Hid _ := hW
 clear hq hW hbW hW0 hW1 hWb hWf h hown hv hh hc hm hs hpt p0 p1 hlen
 go_enter Tryz.func139, Tryz.ntmps139
 go_wp2_with fail
 rw [← HW.out]
 clear HW c0 d0 d1
 refine hD.mono ?_
 rintro o w4 ⟨a4, c4, rfl, hown4, hgrow4, hat4⟩
 have hsz : w.heap.size + 1 < W.heap.size := lt_of_heap HW1.out
 have hk0 : w4.heap[w.heap.size]? = _ := (hgrow4.block _ (lt_of_heap HW0.out) (by simp only [Value.ownBlock, ne_eq, Option.some.injEq]; omega)).trans HW0.out
 have hk1 : w4.heap[w.heap.size + 1]? = _ := (hgrow4.block _ hsz (by simp only [Value.ownBlock, ne_eq, Option.some.injEq]; omega)).trans HW1.out
 have hgb : g ≠ b := fun e => HI.out.far hj (by rw [HV.out, ← e]; rfl)
 have hkb : w4.heap[b]? = W.heap[b]? := hgrow4.block b (by omega) (by simp only [Value.ownBlock, ne_eq, Option.some.injEq]; omega)
 have e0 : w4.cell? ⟨w.heap.size, 0, none⟩ = some (.int .i64 0) := by rw [cell_of_heap hk0]; rfl
 have e1 : w4.cell? ⟨w.heap.size, 1, none⟩ = some (.slice none 0 0) := by rw [cell_of_heap hk0]; rfl
 have e2 : w4.cell? ⟨w.heap.size + 1, 0, none⟩ = some (.int .i64 m.fr) := by rw [cell_of_heap hk1]; rfl
 have e3 : w4.cell? ⟨w.heap.size + 1, 1, none⟩ = some (.slice m.a m.ws.length m.cap) := by rw [cell_of_heap hk1]; rfl
 have e4 : w4.cell? ⟨b, j, none⟩ = some (.slice (some ⟨g, 0, none⟩) (R.length + 1) cap) := cell_same HWb.out hkb
 have e5 : w4.frozen? ⟨b, j, none⟩ = false := by rw [← HWf.out]; exact World.frozen?_of_block hkb
 have e6 : w4.frozen? ⟨w.heap.size, 0, none⟩ = false := frozen_of_heap hk0
 have e7 : w4.frozen? ⟨w.heap.size, 1, none⟩ = false := frozen_of_heap hk0
 have HO4 : Hid _ := hown4
 have HG4 : Hid _ := hgrow4
 have HA4 : Hid _ := hat4
 clear hk0 hk1 hkb hown4 hgrow4 hat4 HW0 HW1 HWb HWf
 go_wp2
 refine bodyPost_ret (v := .tuple #[.agg (mrow m), .bool true]) ?_ rfl ⟨rfl, ?_⟩
 ·rw [results_cell_tmp rfl]
  go_simp
 ·clear e0 e1 e2 e3 e4 e5 e6 e7
  rw [setCell_comm w4 ⟨b, j, none⟩ ⟨w.heap.size, 0, none⟩ _ _ hn0, setCell_comm _ ⟨b, j, none⟩ ⟨w.heap.size, 1, none⟩ _ _ hn0]
  have hg : w.grownBy ((w4.setCell ⟨w.heap.size, 0, none⟩ (.int .i64 m.fr)).setCell ⟨w.heap.size, 1, none⟩ (.slice m.a m.ws.length m.cap)) (V j).ownBlock := by
   have h4 := HG4.out
   have hb0 := HBW.out
   refine ⟨h4.os.trans hb0.os, h4.tape.trans hb0.tape, h4.output.trans hb0.output, ?_, fun k hk hne => ?_⟩
   ·have := h4.size
    have := hb0.size
    simp [World.setCell]
    omega
   ·rw [Below.heap_setCell _ _ _ _ (by show k ≠ w.heap.size; omega), Below.heap_setCell _ _ _ _ (by show k ≠ w.heap.size; omega)]
    refine (h4.block k (by omega) (fun e => hne ?_)).trans (hb0.block k hk)
    rw [e, HV.out]
    rfl
  have ho : ((w4.setCell ⟨w.heap.size, 0, none⟩ (.int .i64 m.fr)).setCell ⟨w.heap.size, 1, none⟩ (.slice m.a m.ws.length m.cap)).ownsRow B 176 2 (.slice a4 R.length c4) R.length (mcells R) := by
   refine ownsRow_at HO4.out (fun g' hg' => ?_)
   have e := HA4.out g' hg'
   simp only [Value.ownBlock, Option.some.injEq] at e
   rw [Below.heap_setCell _ _ _ _ (by show g' ≠ w.heap.size; omega), Below.heap_setCell _ _ _ _ (by show g' ≠ w.heap.size; omega)]
  refine ⟨HI.out.put hj hg ho (fun g' hg' => Or.inl (by rw [HV.out]; exact HA4.out g' hg')) (fun q hq => ?_) ?_, HI.out.tch hj hg⟩
  ·refine (HI.out.wd j hj q (by rw [HQ.out]; exact List.mem_cons_of_mem _ hq)).keep (fun k cs fr hk => ?_)
   refine (hg.block k (lt_of_heap hk) (fun e => ?_)).trans hk
   obtain ⟨cs', hcs⟩ := own_type (HI.out.own j hj) e.symm
   rw [hk] at hcs
   simp only [Option.some.injEq, Obj.cells.injEq] at hcs
   exact absurd hcs.2.1 (by decide)
  ·have := HI.out.len j hj
   rw [HQ.out] at this
   simp at this
   omega
end Ip
end Go.Proofs.YtbhpafgoofkkmaaGreatDoor
namespace Go.Proofs.YtbhpafgoofkkmaaGreatDoor
open Go.RowKit
namespace Ip
set_option maxRecDepth 100000 in
set_option maxHeartbeats 2000000 in
theorem recv2_at (B b : Nat) (Q : QS) (n : Int) (w : World) (h : IpcAt w B b Q) :
  Calls Tryz.prog 73 #[.pointer (some ⟨b, 0, none⟩), .int .i64 n] w fun e w' => e = .returned (.tuple #[.int .i64 (recvF (qat Q n)), recvV (qat Q n), .bool (recvB (qat Q n))]) ∧ IpcAt w' B b (recvQ Q n) ∧ Tch B w w' ∧ (qat Q n = [] → Below w.heap.size w w') := by
 obtain ⟨V, h⟩ := h
 have hne := ptr_eq b
 have hI := isEnv_at n w
 cases hn : isE n with
 | false =>
  have HQ : Hid (qat Q n = []) := qat_no Q hn
  have HR : Hid (recvQ Q n = Q) := by show _ = _; unfold recvQ; rw [hn]; rfl
  rw [hn] at hI
  have HI : Hid _ := h
  clear h hn
  go_enter Tryz.func73, Tryz.ntmps73
  go_wp2_with (go_at_call 104; refine hI.mono ?_; rintro e w1 ⟨rfl, hw⟩; rw [hw]; clear hw w1)
  go_ret3
  exact ⟨by rw [HQ.out]; rfl, by rw [HR.out]; exact ⟨V, HI.out⟩, Tch.refl _ _, fun _ => Below.refl _ _⟩
 | true =>
  obtain ⟨k, rfl, hk⟩ := isE_nat hn
  have HQ : Hid (qat Q k = Q k) := qat_nat Q hk
  have HR : Hid (recvQ Q k = Q.set k (Q k).tail) := by show _ = _; unfold recvQ; rw [hn]; rfl
  have hki : (k : Int) < 12 := by omega
  rw [hn] at hI
  clear hn
  cases hq : Q k with
  | nil =>
   have hT := take_no B b k V Q w h hk hq
   rw [hq] at HQ HR
   have HI : Hid _ := h
   have HS : Hid (Q.set k [] = Q) := by
    show _ = _
    funext i
    by_cases e : i = k
    ·subst e; rw [QS.set_same, hq]
    ·rw [QS.set_other _ _ _ _ e]
   clear h hq
   go_enter Tryz.func73, Tryz.ntmps73
   go_wp2_with fail
   refine hI.mono ?_
   rintro e w1 ⟨rfl, hw⟩
   rw [hw]
   clear hw w1
   go_wp2_with fail
   refine hT.mono ?_
   rintro e w1 ⟨rfl, hb⟩
   have HB : Hid _ := hb
   clear hb
   go_wp2_with fail
   go_region
   all_goals
    go_wp2
    go_ret3
    refine ⟨by rw [HQ.out]; rfl, ?_, Tch.of_below (HB.out.trans ((below_alloc _ _).drew.mono HB.out.size)), fun _ => HB.out.trans ((below_alloc _ _).drew.mono HB.out.size)⟩
    rw [HR.out]
    show IpcAt _ _ _ (Q.set k [])
    rw [HS.out]
    exact ⟨V, (HI.out.below HB.out).below (below_alloc _ _).drew⟩
  | cons m R =>
   have hT := take_yes B b k V Q m R w h hk hq
   rw [hq] at HQ HR
   clear h hq
   unfold mrow at hT
   go_enter Tryz.func73, Tryz.ntmps73
   go_wp2_with fail
   refine hI.mono ?_
   rintro e w1 ⟨rfl, hw⟩
   rw [hw]
   clear hw w1
   go_wp2_with fail
   refine hT.mono ?_
   rintro e w1 ⟨rfl, hA, hU⟩
   have HA : Hid _ := hA
   have HU : Hid _ := hU
   clear hA hU
   go_wp2_with fail
   go_region
   all_goals
    go_wp2
    go_ret3
    refine ⟨by rw [HQ.out]; rfl, ?_, HU.out.trans (Tch.of_below (below_alloc _ _).drew), fun e => absurd (HQ.out.symm.trans e) (by simp)⟩
    rw [HR.out]
    exact IpcAt.below HA.out (below_alloc _ _).drew
def ivs (zs : List Int) : List Value := zs.map (Value.int .i64)
theorem ivs_app (a b : List Int) : ivs (a ++ b) = ivs a ++ ivs b := by simp [ivs]
theorem intInfo : (Tryz.prog.info? 3).map (fun i => (i.zero, i.size, i.bytes)) = some (some (.int .i64 0), 1, 8) := by kernel_rfl
theorem take_snoc {α : Type} {L : List α} {i : Nat} {x : α} (h : L[i]? = some x) : L.take (i + 1) = L.take i ++ [x] := by
 rw [List.take_add_one, h]
 rfl
end Ip
end Go.Proofs.YtbhpafgoofkkmaaGreatDoor
namespace Go.Proofs.YtbhpafgoofkkmaaGreatDoor
open Go.RowKit
namespace Ip
theorem toNat_ne {n k : Int} (hn : isE n = true) (hk : isE k = true) (h : k ≠ n) : k.toNat ≠ n.toNat := by
 obtain ⟨a, rfl, _⟩ := isE_nat hn
 obtain ⟨c, rfl, _⟩ := isE_nat hk
 simp only [Int.toNat_natCast]
 intro e
 exact h (by omega)
theorem qat_set (Q : QS) {n : Int} (hn : isE n = true) (M : List Mg) (k : Int) : qat (Q.set n.toNat M) k = if k = n then M else qat Q k := by
 by_cases e : k = n
 ·subst e
  rw [if_pos rfl]
  unfold qat
  rw [if_pos hn, QS.set_same]
 ·rw [if_neg e]
  unfold qat
  by_cases hk : isE k = true
  ·rw [if_pos hk, if_pos hk, QS.set_other _ _ _ _ (toNat_ne hn hk e)]
  ·rw [if_neg hk, if_neg hk]
theorem sendR_zero {Q : QS} {f t : Int} {len : Nat} (h : sendR Q f t len = 0) : isE f = true ∧ isE t = true ∧ len ≤ 8 ∧ (qat Q t).length < 4 := by
 unfold sendR at h
 split at h
 ·rename_i hc
  split at h
  ·rename_i h4
   exact ⟨hc.1, hc.2.1, hc.2.2, h4⟩
  ·omega
 ·omega
theorem qat_send {Q : QS} {f t : Int} {a : Option Addr} {c : Nat} {ws : List Int} (h : sendR Q f t ws.length = 0) (k : Int) : qat (sendQ Q f t a c ws) k = if k = t then qat Q t ++ [⟨f, a, c, ws⟩] else qat Q k := by
 rw [sendQ_yes h]
 exact qat_set Q (sendR_zero h).2.1 _ k
theorem qat_recv (Q : QS) (n k : Int) : qat (recvQ Q n) k = if k = n then (qat Q n).tail else qat Q k := by
 unfold recvQ
 split
 ·rename_i hn
  rw [qat_set Q hn]
  unfold qat
  rw [if_pos hn]
 ·rename_i hn
  split
  ·rename_i e
   subst e
   unfold qat
   rw [if_neg hn]
   rfl
  ·rfl
theorem IpcIs.kept {w w' : World} {B b : Nat} {V : Nat → Value} {Q : QS} (h : IpcIs w B b V Q) (hk : ∀ (k : Nat) (cs : Array Value) (t : TypeId) (fr : Nat × Nat), w.heap[k]? = some (.cells cs t fr) → (t = 173 ∨ t = 176 ∨ t = 42) → w'.heap[k]? = some (.cells cs t fr)) : IpcIs w' B b V Q := by
 obtain ⟨row, hr, h1⟩ := h.head
 refine ⟨⟨row, hk _ _ _ _ hr (Or.inl rfl), h1⟩, fun j hj => ownsRow_at (h.own j hj) (fun g hg => ?_), h.sep, fun j hj m hm => (h.wd j hj m hm).keep (fun k cs fr hh => hk _ _ _ _ hh (Or.inr (Or.inr rfl))), h.len, h.bB⟩
 obtain ⟨cs, hcs⟩ := own_type (h.own j hj) hg
 rw [hcs]
 exact hk _ _ _ _ hcs (Or.inr (Or.inl rfl))
theorem IpcAt.kept {w w' : World} {B b : Nat} {Q : QS} (h : IpcAt w B b Q) (hk : ∀ (k : Nat) (cs : Array Value) (t : TypeId) (fr : Nat × Nat), w.heap[k]? = some (.cells cs t fr) → (t = 173 ∨ t = 176 ∨ t = 42) → w'.heap[k]? = some (.cells cs t fr)) : IpcAt w' B b Q := by
 obtain ⟨V, h⟩ := h
 exact ⟨V, h.kept hk⟩
end Ip
end Go.Proofs.YtbhpafgoofkkmaaGreatDoor
