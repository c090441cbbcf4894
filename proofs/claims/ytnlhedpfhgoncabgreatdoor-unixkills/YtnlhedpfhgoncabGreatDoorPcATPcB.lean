/- Package procs: the processes in the heap; what a call may touch; New, put, lives, Live, Parent, lowestFree, Begin, Fork. -/
/- Appends of words and of ints whose run is known; rows of ints behind a sort. -/
/- Package procs: Begin, those, All. -/
import Derived.Test.YtnlhedpfhgoncabGreatDoorOwnR
import Derived.Test.YtnlhedpfhgoncabGreatDoorPcP
import Derived.Test.YtnlhedpfhgoncabGreatDoorPcM
import Derived.Test.YtnlhedpfhgoncabGreatDoorSrt
import Derived.Deep.DeepCutAuto
import Derived.Deep.AppendLies
import Derived.Shelf.Sort.Plain
set_option linter.all false
namespace Go.Proofs.YtnlhedpfhgoncabGreatDoor
open Go.RowKit
namespace Ow
end Ow
namespace Pc
open Ow
abbrev ptr (b : Nat) : Value := .pointer (some ⟨b, 0, none⟩)
/-- A process's cells. -/
abbrev prow (p : Pr) : Array Value := #[.int .i64 p.par, .bool p.zom, .int .i64 p.st]
/-- What the map answers: each process's place. -/
def pf (S : St) (c : Int → Nat) : Int → Option Value := fun k => (S k).map (fun _ => ptr (c k))
/-- Block b holds the processes S, their map mo, themselves at c. -/
structure PrIs (w : World) (B b : Nat) (mo : Option Nat) (c : Int → Nat) (S : St) : Prop where
  head : w.heap[b]? = some (.cells #[.map mo] 140)
  map : MapO w .i64 mo (pf S c)
  pr : ∀ k p, S k = some p → w.heap[c k]? = some (.cells (prow p) 196)
  inj : ∀ j k, (S j).isSome = true → (S k).isSome = true → c j = c k → j = k
  dom : Dom S
  bB : B ≤ b
  mB : ∀ m, mo = some m → B ≤ m
  cB : ∀ k p, S k = some p → B ≤ c k
def PrAt (w : World) (B b : Nat) (S : St) : Prop := ∃ mo c, PrIs w B b mo c S
/-- A block of processes: a map, or cells of these two types. -/
def PB (w : World) (k : Nat) : Prop := (∃ es cl, w.heap[k]? = some (.map es cl)) ∨ ∃ cs t fr, w.heap[k]? = some (.cells cs t fr) ∧ (t = 140 ∨ t = 196)
/-- What a call may touch: blocks of processes, from B on. -/
structure Tch (B : Nat) (w w' : World) : Prop where
  os : w'.os = w.os
  tape : w'.tape = w.tape
  output : w'.output = w.output
  size : w.heap.size ≤ w'.heap.size
  block : ∀ k, k < w.heap.size → (k < B ∨ ¬ PB w k) → w'.heap[k]? = w.heap[k]?
theorem pb_same {w w' : World} {k : Nat} (h : w'.heap[k]? = w.heap[k]?) : PB w' k ↔ PB w k := by unfold PB; rw [h]
theorem Tch.refl (B : Nat) (w : World) : Tch B w w := ⟨rfl, rfl, rfl, Nat.le_refl _, fun _ _ _ => rfl⟩
theorem Tch.trans {B : Nat} {a b c : World} (h : Tch B a b) (k : Tch B b c) : Tch B a c :=
  ⟨k.os.trans h.os, k.tape.trans h.tape, k.output.trans h.output, Nat.le_trans h.size k.size, fun i hi hg => by
    have e := h.block i hi hg
    refine (k.block i (Nat.lt_of_lt_of_le hi h.size) ?_).trans e
    rcases hg with hg | hg
    · exact Or.inl hg
    · exact Or.inr (fun x => hg ((pb_same e).1 x))⟩
theorem Tch.of_below {B : Nat} {w w' : World} (h : Below w.heap.size w w') : Tch B w w' := ⟨h.os, h.tape, h.output, h.size, fun k hk _ => h.block k hk⟩
theorem Tch.of_upd {B g : Nat} {w w' : World} (h : Upd g w w') (hB : B ≤ g) (hg : PB w g) : Tch B w w' := ⟨h.os, h.tape, h.output, h.size, fun k hk hh => h.block k hk (fun e => by
  subst e
  rcases hh with hh | hh
  · omega
  · exact hh hg)⟩
theorem Tch.of_new {B g : Nat} {w w1 w2 : World} (h : Tch B w w1) (hu : Upd g w1 w2) (hg : w.heap.size ≤ g) : Tch B w w2 :=
  ⟨hu.os.trans h.os, hu.tape.trans h.tape, hu.output.trans h.output, Nat.le_trans h.size hu.size, fun k hk hh => (hu.block k (Nat.lt_of_lt_of_le hk h.size) (by omega)).trans (h.block k hk hh)⟩
theorem not_pb {w : World} {k : Nat} {cs : Array Value} {t : TypeId} {fr : Nat × Nat} (hk : w.heap[k]? = some (.cells cs t fr)) (h1 : t ≠ 140) (h2 : t ≠ 196) : ¬ PB w k := by
  rintro (⟨es, cl, e⟩ | ⟨cs', t', fr', e, ht⟩)
  · rw [hk] at e; cases e
  · rw [hk] at e
    simp only [Option.some.injEq, Obj.cells.injEq] at e
    obtain ⟨_, rfl, _⟩ := e
    rcases ht with ht | ht
    · exact h1 ht
    · exact h2 ht
theorem Tch.other {B : Nat} {w w' : World} (h : Tch B w w') {k : Nat} {cs : Array Value} {t : TypeId} {fr : Nat × Nat} (hk : w.heap[k]? = some (.cells cs t fr)) (h1 : t ≠ 140) (h2 : t ≠ 196) : w'.heap[k]? = some (.cells cs t fr) := by
  rw [h.block k (lt_of_heap hk) (Or.inr (not_pb hk h1 h2))]
  exact hk
section
variable {w w' : World} {B b : Nat} {mo : Option Nat} {c : Int → Nat} {S : St}
theorem PrIs.lt (h : PrIs w B b mo c S) : b < w.heap.size := lt_of_heap h.head
theorem PrIs.low (h : PrIs w B b mo c S) : B ≤ w.heap.size := by have := h.lt; have := h.bB; omega
theorem PrIs.clt (h : PrIs w B b mo c S) {k : Int} {p : Pr} (hk : S k = some p) : c k < w.heap.size := lt_of_heap (h.pr k p hk)
theorem PrIs.mlt (h : PrIs w B b mo c S) : ∀ m, mo = some m → m < w.heap.size := by
  intro m e
  rcases h.map with ⟨e2, _⟩ | ⟨m2, e2, hm⟩
  · rw [e2] at e; cases e
  · rw [e2] at e; cases e; exact hm.lt
theorem PrIs.below (h : PrIs w B b mo c S) (hb : Below w.heap.size w w') : PrIs w' B b mo c S :=
  ⟨(hb.block _ h.lt).trans h.head, h.map.below hb, fun k p hk => (hb.block _ (h.clt hk)).trans (h.pr k p hk), h.inj, h.dom, h.bB, h.mB, h.cB⟩
theorem PrIs.cb (h : PrIs w B b mo c S) {k : Int} {p : Pr} (hk : S k = some p) : c k ≠ b := by
  intro e
  have h1 := h.pr k p hk
  rw [e, h.head] at h1
  simp only [Option.some.injEq, Obj.cells.injEq] at h1
  exact absurd h1.2.1 (by decide)
theorem PrIs.cm (h : PrIs w B b mo c S) {k : Int} {p : Pr} (hk : S k = some p) : ∀ m, mo = some m → c k ≠ m := by
  intro m e1 e
  rcases h.map with ⟨e2, _⟩ | ⟨m2, e2, es, cl, hm, _⟩
  · rw [e2] at e1; cases e1
  · rw [e2] at e1; cases e1
    have h1 := h.pr k p hk
    rw [e, hm] at h1
    cases h1
theorem PrIs.bm (h : PrIs w B b mo c S) : ∀ m, mo = some m → b ≠ m := by
  intro m e1 e
  rcases h.map with ⟨e2, _⟩ | ⟨m2, e2, es, cl, hm, _⟩
  · rw [e2] at e1; cases e1
  · rw [e2] at e1; cases e1
    have h1 := h.head
    rw [e, hm] at h1
    cases h1
theorem PrIs.cell (h : PrIs w B b mo c S) : w.cell? ⟨b, 0, none⟩ = some (.map mo) := by rw [cell_of_heap h.head]; rfl
theorem PrIs.free (h : PrIs w B b mo c S) : w.frozen? ⟨b, 0, none⟩ = false := frozen_of_heap h.head
theorem PrIs.cells (h : PrIs w B b mo c S) {k : Int} {p : Pr} (hk : S k = some p) : w.cell? ⟨c k, 0, none⟩ = some (.int .i64 p.par) ∧ w.cell? ⟨c k, 1, none⟩ = some (.bool p.zom) ∧ w.cell? ⟨c k, 2, none⟩ = some (.int .i64 p.st) := by
  have h1 := h.pr k p hk
  refine ⟨?_, ?_, ?_⟩ <;> rw [cell_of_heap h1] <;> rfl
theorem zeroPtr (w : World) : (zeroValue 137).run Tryz.prog w = .ok (.pointer none) w := by kernel_rfl
theorem PrIs.look (h : PrIs w B b mo c S) (k : Int) : (Instr.lookup 138 (.map mo) (.int .i64 k) false).run Tryz.prog w = .ok ((pf S c k).getD (.pointer none)) w :=
  h.map.look Tryz.underlying138 Tryz.underlying3 (zeroPtr w) k
theorem PrIs.look_none (h : PrIs w B b mo c S) {k : Int} (hk : S k = none) : (Instr.lookup 138 (.map mo) (.int .i64 k) false).run Tryz.prog w = .ok (.pointer none) w := by
  rw [h.look]; unfold pf; rw [hk]; rfl
theorem PrIs.look_some (h : PrIs w B b mo c S) {k : Int} {p : Pr} (hk : S k = some p) : (Instr.lookup 138 (.map mo) (.int .i64 k) false).run Tryz.prog w = .ok (ptr (c k)) w := by
  rw [h.look]; unfold pf; rw [hk]; rfl
theorem PrAt.below (h : PrAt w B b S) (hb : Below w.heap.size w w') : PrAt w' B b S := by
  obtain ⟨mo, c, h⟩ := h
  exact ⟨mo, c, h.below hb⟩
theorem PrIs.pbb (h : PrIs w B b mo c S) : PB w b := Or.inr ⟨_, _, _, h.head, Or.inl rfl⟩
theorem PrIs.pbc (h : PrIs w B b mo c S) {k : Int} {p : Pr} (hk : S k = some p) : PB w (c k) := Or.inr ⟨_, _, _, h.pr k p hk, Or.inr rfl⟩
theorem PrIs.pbm (h : PrIs w B b mo c S) : ∀ m, mo = some m → PB w m := by
  intro m e
  rcases h.map with ⟨e2, _⟩ | ⟨m2, e2, es, cl, hm, _⟩
  · rw [e2] at e; cases e
  · rw [e2] at e; cases e; exact Or.inl ⟨es, cl, hm⟩
end
theorem eq_procs (b : Nat) (W : World) : (binOp .eql 73 (ptr b) (.pointer none)).run Tryz.prog W = .ok (.bool false) W := by kernel_rfl
theorem eq_proc (b : Nat) (W : World) : (binOp .eql 137 (ptr b) (.pointer none)).run Tryz.prog W = .ok (.bool false) W := by kernel_rfl
theorem ne_proc (b : Nat) (W : World) : (binOp .neq 137 (ptr b) (.pointer none)).run Tryz.prog W = .ok (.bool true) W := by kernel_rfl
theorem eq_map (m : Nat) (W : World) : (binOp .eql 138 (.map (some m)) (.map none)).run Tryz.prog W = .ok (.bool false) W := by kernel_rfl
theorem eq_map0 (W : World) : (binOp .eql 138 (.map none) (.map none)).run Tryz.prog W = .ok (.bool true) W := by kernel_rfl
theorem new_at (w : World) :
    Calls Tryz.prog 30 #[] w fun e w' => e = .returned (ptr w.heap.size) ∧ PrAt w' w.heap.size w.heap.size St0 ∧ Below w.heap.size w w' := by
  go_enter Tryz.func30, Tryz.ntmps30
  go_wp2
  go_ret
  exact ⟨rfl, ⟨none, fun _ => 0, heap_alloc_new _ _, Or.inl ⟨rfl, fun a => rfl⟩, fun k p h => (by cases h), fun j k h => (by cases h), fun k p h => (by cases h), Nat.le_refl _, fun m h => (by cases h), fun k p h => (by cases h)⟩, below_alloc _ _⟩
/-- One more process, in a new block. -/
theorem PrIs.put {w W : World} {B b : Nat} {mo : Option Nat} {c : Int → Nat} {S : St} (h : PrIs w B b mo c S) {k : Int} {p : Pr} {n m : Nat} (h1 : 1 ≤ k) (h8 : k ≤ 8) (hn : w.heap.size ≤ n) (hk : S k = none)
    (hb : W.heap[b]? = some (.cells #[.map (some m)] 140)) (hm : MapIs W .i64 m (fput (pf S c) k (ptr n))) (hp : W.heap[n]? = some (.cells (prow p) 196)) (hB : B ≤ m)
    (hold : ∀ j q, S j = some q → W.heap[c j]? = w.heap[c j]?) : PrIs W B b (some m) (fun x => if x = k then n else c x) (stPut S k p) := by
  have hat : ∀ j q, stPut S k p j = some q → (j = k ∧ q = p) ∨ (j ≠ k ∧ S j = some q) := by
    intro j q hj
    by_cases e : j = k
    · subst e
      rw [stPut_same] at hj
      cases hj
      exact Or.inl ⟨rfl, rfl⟩
    · rw [stPut_other _ e] at hj
      exact Or.inr ⟨e, hj⟩
  have hs : ∀ j, (stPut S k p j).isSome = true → j = k ∨ (j ≠ k ∧ (S j).isSome = true) := by
    intro j hj
    obtain ⟨q, hq⟩ := Option.isSome_iff_exists.1 hj
    rcases hat j q hq with ⟨e, _⟩ | ⟨e, hq2⟩
    · exact Or.inl e
    · exact Or.inr ⟨e, by rw [hq2]; rfl⟩
  have hlt : ∀ j, (S j).isSome = true → c j ≠ n := by
    intro j hj
    obtain ⟨q, hq⟩ := Option.isSome_iff_exists.1 hj
    have := h.clt hq
    omega
  refine ⟨hb, Or.inr ⟨m, rfl, ?_⟩, ?_, ?_, h.dom.put p h1 h8, h.bB, fun m' e => (by cases e; exact hB), ?_⟩
  · have : pf (stPut S k p) (fun x => if x = k then n else c x) = fput (pf S c) k (ptr n) := by
      funext x
      unfold pf fput
      by_cases e : x = k
      · subst e
        rw [stPut_same, if_pos rfl]
        show some (ptr (if x = x then n else c x)) = some (ptr n)
        rw [if_pos rfl]
      · rw [stPut_other _ e, if_neg e]
        show (S x).map (fun _ => ptr (if x = k then n else c x)) = (S x).map (fun _ => ptr (c x))
        rw [if_neg e]
    rw [this]; exact hm
  · intro j q hj
    rcases hat j q hj with ⟨rfl, rfl⟩ | ⟨e, hj⟩
    · rw [if_pos rfl]; exact hp
    · rw [if_neg e, hold j q hj]; exact h.pr j q hj
  · intro i j hi hj e
    rcases hs i hi with e1 | ⟨e1, hi⟩
    · rcases hs j hj with e2 | ⟨e2, hj⟩
      · rw [e1, e2]
      · rw [if_pos e1, if_neg e2] at e
        exact absurd e.symm (hlt j hj)
    · rcases hs j hj with e2 | ⟨e2, hj⟩
      · rw [if_pos e2, if_neg e1] at e
        exact absurd e (hlt i hi)
      · rw [if_neg e1, if_neg e2] at e
        exact h.inj i j hi hj e
  · intro j q hj
    have := h.low
    rcases hat j q hj with ⟨rfl, rfl⟩ | ⟨e, hj⟩
    · rw [if_pos rfl]; omega
    · rw [if_neg e]; exact h.cB j q hj
set_option maxRecDepth 100000 in
set_option maxHeartbeats 1000000 in
theorem put_at (B b : Nat) (S : St) (k : Int) (p : Pr) (w : World) (h : PrAt w B b S) (h1 : 1 ≤ k) (h8 : k ≤ 8) (hk : S k = none) :
    Calls Tryz.prog 92 #[ptr b, .int .i64 k, .agg (prow p)] w fun e w' => e = .returned (.tuple #[]) ∧ PrAt w' B b (stPut S k p) ∧ Tch B w w' := by
  obtain ⟨mo, c, h⟩ := h
  obtain ⟨W0, hW0⟩ : ∃ W, W = w.alloc (.cells (prow p) 196) := ⟨_, rfl⟩
  have hb0 : Below w.heap.size w W0 := by rw [hW0]; exact below_alloc _ _
  have hn0 : W0.heap[w.heap.size]? = some (.cells (prow p) 196) := by rw [hW0]; exact heap_alloc_new _ _
  have hs0 : W0.heap.size = w.heap.size + 1 := by rw [hW0]; simp
  have h0 := h.below hb0
  have hlow := h.low
  have hbl := h.lt
  cases mo with
  | none =>
    have hmm := @run_makeMap Tryz.prog
    have hq := eq_map0
    obtain ⟨W1, hW1⟩ : ∃ W, W = W0.alloc (.map #[] 0) := ⟨_, rfl⟩
    have hb1 : Below W0.heap.size W0 W1 := by rw [hW1]; exact below_alloc _ _
    have hs1 : W1.heap.size = w.heap.size + 1 + 1 := by rw [hW1]; simp [hs0]
    have h1' := h0.below hb1
    have hM1 : MapIs W1 .i64 (w.heap.size + 1) (fun _ => none) := by rw [hW1, ← hs0]; exact MapIs.made W0 .i64
    have hf : pf S c = fun _ => none := by
      rcases h.map with ⟨_, e⟩ | ⟨m, e, _⟩
      · funext a; exact e a
      · cases e
    have hu2 : Upd b W1 (W1.setCell ⟨b, 0, none⟩ (.map (some (w.heap.size + 1)))) := Upd.setCell _ _ _ _
    have hh2 : (W1.setCell ⟨b, 0, none⟩ (.map (some (w.heap.size + 1)))).heap[b]? = some (.cells #[.map (some (w.heap.size + 1))] 140) := by
      rw [setCell_eq_setRow W1 b 0 _ _ _ _ h1'.head, setRow_heap W1 b _ _ _ _ h1'.head]; rfl
    have hM2 : MapIs (W1.setCell ⟨b, 0, none⟩ (.map (some (w.heap.size + 1)))) .i64 (w.heap.size + 1) (fun _ => none) := hM1.of_block (hu2.block _ (by omega) (by omega))
    obtain ⟨W3, hrun, hM3, hu3, hs3⟩ := hM2.put (P := Tryz.prog) (t := 138) (k := 3) (e := 137) Tryz.underlying138 Tryz.underlying3 k (ptr w.heap.size)
    have hs2 : (W1.setCell ⟨b, 0, none⟩ (.map (some (w.heap.size + 1)))).heap.size = w.heap.size + 1 + 1 := by simp [World.setCell, hs1]
    have c0 := h0.cell
    have c1 := h1'.cell
    have f1 := h1'.free
    have c2 : (W1.setCell ⟨b, 0, none⟩ (.map (some (w.heap.size + 1)))).cell? ⟨b, 0, none⟩ = some (.map (some (w.heap.size + 1))) := by rw [cell_of_heap hh2]; rfl
    have keep : ∀ j, j < W1.heap.size → j ≠ b → j ≠ w.heap.size + 1 → W3.heap[j]? = W1.heap[j]? := fun j h1 h2 h3 => (hu3.block j (by omega) h3).trans (hu2.block j h1 h2)
    have HE : Hid (PrAt W3 B b (stPut S k p) ∧ Tch B w W3) := by
      refine ⟨⟨_, _, h.put h1 h8 (Nat.le_refl _) hk ((hu3.block b (by omega) (by omega)).trans hh2) (by rw [hf]; exact hM3) ?_ (by omega) ?_⟩, ?_⟩
      · rw [keep _ (by omega) (by omega) (by omega), hb1.block _ (by omega)]; exact hn0
      · intro j q hj
        have hcl := h.clt hj
        rw [keep _ (by omega) (h.cb hj) (by omega), hb1.block _ (by omega), hb0.block _ hcl]
      · refine Tch.of_new ((Tch.of_below (hb0.trans (hb1.mono hb0.size))).trans (Tch.of_upd hu2 h.bB (Or.inr ⟨_, _, _, h1'.head, Or.inl rfl⟩))) hu3 (by omega)
    have HW0 : Hid _ := hW0
    rw [hW1] at hrun c1 f1 c2
    clear hW0 hW1 hb0 hn0 h0 h hb1 h1' hM1 hf hu2 hh2 hM2 hM3 hu3 hs3 keep hs2 hs1 hbl
    go_enter Tryz.func92, Tryz.ntmps92
    go_upto_region 1 with fail
    rw [← HW0.out]
    go_wp2
    go_end0
    exact ⟨rfl, HE.out⟩
  | some m =>
    have hm : MapIs W0 .i64 m (pf S c) := by
      rcases h0.map with ⟨e, _⟩ | ⟨m', e, hm⟩
      · cases e
      · cases e; exact hm
    have hml := h.mlt m rfl
    obtain ⟨W3, hrun, hM3, hu3, hs3⟩ := hm.put (P := Tryz.prog) (t := 138) (k := 3) (e := 137) Tryz.underlying138 Tryz.underlying3 k (ptr w.heap.size)
    have c0 := h0.cell
    have hne := eq_map m
    have HE : Hid (PrAt W3 B b (stPut S k p) ∧ Tch B w W3) := by
      refine ⟨⟨_, _, h.put h1 h8 (Nat.le_refl _) hk ((hu3.block b (by omega) (h.bm m rfl)).trans h0.head) hM3 ((hu3.block _ (by omega) (by omega)).trans hn0) (h.mB m rfl) ?_⟩, ?_⟩
      · intro j q hj
        have hcl := h.clt hj
        rw [hu3.block _ (by omega) (h.cm hj m rfl), hb0.block _ hcl]
      · exact (Tch.of_below hb0).trans (Tch.of_upd hu3 (h.mB m rfl) (h0.pbm m rfl))
    have HW0 : Hid _ := hW0
    clear hW0 hb0 hn0 h0 h hm hM3 hu3 hs3 hs0 hbl hml
    go_enter Tryz.func92, Tryz.ntmps92
    go_upto_region 1 with fail
    rw [← HW0.out]
    go_wp2
    go_end0
    exact ⟨rfl, HE.out⟩
theorem lives_at (c : Nat) (z : Bool) (w : World) (h : w.cell? ⟨c, 1, none⟩ = some (.bool z)) :
    Calls Tryz.prog 66 #[ptr c] w fun e w' => e = .returned (.bool (!z)) ∧ w' = w := by
  go_enter Tryz.func66, Tryz.ntmps66
  go_wp2
  go_ret
  exact ⟨rfl, rfl⟩
theorem live_at (B b : Nat) (S : St) (k : Int) (w : World) (h : PrAt w B b S) :
    Calls Tryz.prog 25 #[ptr b, .int .i64 k] w fun e w' => e = .returned (.bool (liv S k)) ∧ w' = w := by
  obtain ⟨mo, c, h⟩ := h
  have c0 := h.cell
  have hne := eq_procs b
  cases hk : S k with
  | none =>
    have hl := h.look_none hk
    have HL : Hid (liv S k = false) := by show liv S k = false; unfold liv hits; rw [hk]
    clear h hk
    go_enter Tryz.func25, Tryz.ntmps25
    go_wp2
    go_ret
    exact ⟨by rw [HL.out]; rfl, rfl⟩
  | some p =>
    have hl := h.look_some hk
    have hv := lives_at (c k) p.zom w (h.cells hk).2.1
    have hn2 := ne_proc (c k)
    have HL : Hid (liv S k = !p.zom) := by show liv S k = !p.zom; unfold liv hits; rw [hk]
    clear h hk
    generalize c k = cc at *
    go_enter Tryz.func25, Tryz.ntmps25
    go_wp2_with fail
    refine hv.mono ?_
    rintro e w1 ⟨rfl, hw⟩
    rw [hw]
    clear hw w1 hv
    go_wp2
    go_ret
    exact ⟨by rw [HL.out]; rfl, rfl⟩
set_option maxHeartbeats 1000000 in
theorem lowestFree_at (B b : Nat) (S : St) (w : World) (h : PrAt w B b S) :
    Calls Tryz.prog 164 #[ptr b] w fun e w' => e = .returned (.int .i64 (lowI S)) ∧ w' = w := by
  obtain ⟨mo, c, h⟩ := h
  have HH : Hid (PrIs w B b mo c S) := h
  have c0 := h.cell
  clear h
  go_enter Tryz.func164, Tryz.ntmps164
  go_wp2
  go_loopw [3] (fun s wr => ∃ k : Int, 1 ≤ k ∧ k ≤ 9 ∧ s = .int .i64 k ∧ lowF S (9 - k).toNat k = lowI S ∧ wr = w) (fun s _ => (9 - intOf s).toNat)
  case atStart => exact ⟨1, by omega, by omega, rfl, rfl, rfl⟩
  case round =>
    obtain ⟨k, hk1, hk9, rfl, hlow, hw⟩ := hrel
    subst hw
    have HLo : Hid (lowF S (9 - k).toNat k = lowI S) := hlow
    clear hlow
    by_cases hlt : k ≤ 8
    · have HN : Hid ((9 - k).toNat = (9 - (k + 1)).toNat + 1) := by show _ = _; omega
      cases hS : S k with
      | none =>
        have hl := HH.out.look_none hS
        have HR : Hid (k = lowI S) := by
          show k = lowI S
          rw [← HLo.out, HN.out]
          show k = (if (S k).isSome = true then lowF S _ (k + 1) else k)
          rw [hS, if_neg (by simp)]
        clear hS
        go_wp2
        go_ret
        exact ⟨by rw [← HR.out]; rfl, rfl⟩
      | some p =>
        have hl := HH.out.look_some hS
        have hn2 := eq_proc (c k)
        have HR : Hid (lowF S (9 - (k + 1)).toNat (k + 1) = lowI S) := by
          show _ = lowI S
          rw [← HLo.out, HN.out]
          show _ = (if (S k).isSome = true then lowF S _ (k + 1) else k)
          rw [hS, if_pos (by simp)]
        clear hS
        generalize c k = cc at *
        go_wp2
        go_roundw
        case rel => exact ⟨k + 1, by omega, by omega, by go_num, HR.out, by first | rfl | trivial⟩
        case measure => simp [intOf]; omega
    · have HR : Hid (lowI S = -1) := by
        show lowI S = -1
        rw [← HLo.out, show (9 - k).toNat = 0 by omega]
        rfl
      go_wp2
      go_ret
      exact ⟨by rw [HR.out]; rfl, rfl⟩
set_option maxHeartbeats 1000000 in
theorem fork_at (B b : Nat) (S : St) (k : Int) (w : World) (h : PrAt w B b S) :
    Calls Tryz.prog 100 #[ptr b, .int .i64 k] w fun e w' => e = .returned (.tuple #[.int .i64 (fkN S k), .int .i64 (fkE S k)]) ∧ PrAt w' B b (fkS S k) ∧ Tch B w w' := by
  have hv := live_at B b S k w h
  cases hk : liv S k with
  | false =>
    have HR : Hid (fkE S k = 3 ∧ fkN S k = 0 ∧ fkS S k = S) := by
      have e : fkE S k = 3 := by unfold fkE; rw [hk, if_neg (by simp)]
      refine ⟨e, ?_, ?_⟩
      · unfold fkN; rw [e, if_neg (by decide)]
      · unfold fkS; rw [e, if_neg (by decide)]
    have HH : Hid (PrAt w B b S) := h
    rw [hk] at hv
    clear h hk
    go_enter Tryz.func100, Tryz.ntmps100
    go_wp2_with fail
    refine hv.mono ?_
    rintro e w1 ⟨rfl, hw⟩
    rw [hw]
    clear hw w1 hv
    go_wp2
    go_ret2
    obtain ⟨e1, e2, e3⟩ := HR.out
    exact ⟨by rw [e1, e2]; rfl, by rw [e3]; exact HH.out, Tch.refl _ _⟩
  | true =>
    have hlo := lowestFree_at B b S w h
    rw [hk] at hv
    by_cases hn : lowI S = -1
    · have HR : Hid (fkE S k = 11 ∧ fkN S k = 0 ∧ fkS S k = S) := by
        have e : fkE S k = 11 := by unfold fkE; rw [hk, if_pos rfl, if_pos hn]
        refine ⟨e, ?_, ?_⟩
        · unfold fkN; rw [e, if_neg (by decide)]
        · unfold fkS; rw [e, if_neg (by decide)]
      have HH : Hid (PrAt w B b S) := h
      rw [hn] at hlo
      clear h hk hn
      go_enter Tryz.func100, Tryz.ntmps100
      go_wp2_with fail
      refine hv.mono ?_
      rintro e w1 ⟨rfl, hw⟩
      rw [hw]
      clear hw w1 hv
      go_wp2_with fail
      refine hlo.mono ?_
      rintro e w1 ⟨rfl, hw⟩
      rw [hw]
      clear hw w1 hlo
      go_wp2
      go_ret2
      obtain ⟨e1, e2, e3⟩ := HR.out
      exact ⟨by rw [e1, e2]; rfl, by rw [e3]; exact HH.out, Tch.refl _ _⟩
    · obtain ⟨l1, l8, hln⟩ := (low_is S).resolve_left (fun q => hn q.1)
      have hp := put_at B b S (lowI S) ⟨k, false, 0⟩ w h l1 l8 hln
      have HR : Hid (fkE S k = 0 ∧ fkN S k = lowI S ∧ fkS S k = stPut S (lowI S) ⟨k, false, 0⟩) := by
        have e : fkE S k = 0 := by unfold fkE; rw [hk, if_pos rfl, if_neg hn]
        refine ⟨e, ?_, ?_⟩
        · unfold fkN; rw [e, if_pos rfl]
        · unfold fkS; rw [e, if_pos rfl]
      generalize lowI S = lo at *
      have g0 : (lo == -1) = false := beq_false_of_ne hn
      clear h hk hn hln
      go_enter Tryz.func100, Tryz.ntmps100
      go_wp2_with fail
      refine hv.mono ?_
      rintro e w1 ⟨rfl, hw⟩
      rw [hw]
      clear hw w1 hv
      go_wp2_with fail
      refine hlo.mono ?_
      rintro e w1 ⟨rfl, hw⟩
      rw [hw]
      clear hw w1 hlo
      go_wp2_with fail
      refine hp.mono ?_
      rintro e w1 ⟨rfl, hA, hT⟩
      have HA : Hid (PrAt w1 B b (stPut S lo ⟨k, false, 0⟩)) := hA
      have HT : Hid (Tch B w w1) := hT
      clear hA hT hp
      go_wp2
      go_ret2
      obtain ⟨e1, e2, e3⟩ := HR.out
      exact ⟨by rw [e1, e2]; rfl, by rw [e3]; exact HA.out, HT.out⟩
end Pc
end Go.Proofs.YtnlhedpfhgoncabGreatDoor
namespace Go.Proofs.YtnlhedpfhgoncabGreatDoor
open Go.RowKit Go.Lib
namespace Ow
end Ow
namespace Pc
open Ow
/-- What an append of words may touch. -/
structure UW (B : Nat) (w w' : World) : Prop where
  bel : Below B w w'
  oth : ∀ (k : Nat) (cs : Array Value) (t : TypeId) (fz : Nat × Nat), w.heap[k]? = some (.cells cs t fz) → t ≠ 40 → w'.heap[k]? = w.heap[k]?
theorem UW.trans {B : Nat} {a b c : World} (h : UW B a b) (k : UW B b c) : UW B a c :=
  ⟨h.bel.trans k.bel, fun i cs t fz hi ht => by
    have h1 := h.oth i cs t fz hi ht
    exact (k.oth i cs t fz (h1.trans hi) ht).trans h1⟩
/-- append(v, x), of ints. -/
theorem app1i {w : World} {B n c : Nat} {a : Option Addr} {D : List Int} (ho : w.ownsRow B 3 1 (.slice a n c) D.length (ivs D)) (hn : D.length = n) (hB : B ≤ w.heap.size) (hl : n ≤ 2000) (x0 : Int) :
    ∃ a' c' w', (∀ ty, (Builtin.append_ #[52, 52] ty #[.slice a n c, .slice (some ⟨w.heap.size, 0, none⟩) 1 1]).run Tryz.prog (w.alloc (.cells #[.int .i64 x0] 3)) = .ok (.slice a' (n + 1) c') w') ∧ w'.ownsRow B 3 1 (.slice a' (n + 1) c') (D ++ [x0]).length (ivs (D ++ [x0])) ∧ w.grownBy w' (Value.slice a n c).ownBlock := by
  obtain ⟨i0, hi0, hzz⟩ := Option.map_eq_some_iff.1 intInfo
  simp only [Prod.mk.injEq] at hzz
  obtain ⟨hz0, hz1, hz2⟩ := hzz
  have hbe : Below w.heap.size w (w.alloc (.cells #[.int .i64 x0] 3)) := below_alloc _ _
  have hnew : (w.alloc (.cells #[.int .i64 x0] 3)).heap[w.heap.size]? = some (.cells #[.int .i64 x0] 3) := heap_alloc_new _ _
  have ho1 := ownsRow_below ho hbe
  obtain ⟨g', cap', w', hr', hown, hgrow, _, _⟩ := run_append_lies (P := Tryz.prog) _ 52 0 B 3 i0 _ 1 8 Tryz.underlying52 hi0 hz0 hz1 hz2 rfl (by omega) _ D.length (ivs D) ho1
    ⟨w.heap.size, 0, none⟩ 1 1 (ivs [x0]) rfl (fun j x hx => by
      rw [add0, Nat.zero_add, cell_of_heap hnew, ← hx]
      simp [ivs]) (ivs_one _) (by omega) (by unfold maxLen; omega) (by omega) (Nat.le_trans hB hbe.size) _ rfl
  rw [hn] at hr' hown
  refine ⟨some ⟨g', 0, none⟩, cap', w', fun ty => hr', ?_, grown_trans (grown_below _ hbe) hgrow⟩
  rw [List.length_append, ivs_app, hn]
  exact hown
theorem holds_own {w : World} {base g n cap : Nat} {e : TypeId} {D : List Int} (h : w.ownsRow base e 1 (.slice (some ⟨g, 0, none⟩) n cap) D.length (ivs D)) : Go.Sort.Holds (Value.int .i64) w g 0 D.toArray := by
  rcases h.2 with ⟨e2, _⟩ | ⟨g', cap', cur, e2, _, hh, q1, _, _, ht⟩
  · cases e2
  · simp only [Value.slice.injEq, Option.some.injEq, Addr.mk.injEq] at e2
    obtain ⟨⟨rfl, _⟩, rfl, rfl⟩ := e2
    intro j hj
    have hj' : j < D.length := by simpa using hj
    refine ⟨?_, frozen_of_heap hh⟩
    have hq : (ivs D)[j]? = some (.int .i64 D[j]) := by simp [ivs, hj']
    rw [← ht, Nat.mul_one, List.getElem?_take_of_lt hj'] at hq
    rw [Nat.zero_add, cell_of_heap hh]
    have e3 : D.toArray[j]! = D[j] := by simp [hj']
    rw [e3]
    simpa using hq
theorem irow_holds {w : World} {g : Nat} {D E : List Int} (h : Go.Sort.Holds (Value.int .i64) w g 0 (D ++ E).toArray) : IRow w (some ⟨g, 0, none⟩) D := by
  intro j x hx
  obtain ⟨hj, he⟩ := List.getElem?_eq_some_iff.1 hx
  refine ⟨g, 0, rfl, ?_⟩
  have := (h j (by simp; omega)).1
  rw [this]
  have e3 : (D ++ E).toArray[j]! = x := by
    rw [← he]
    simp only [List.getElem!_toArray]
    rw [List.getElem!_eq_getElem?_getD, List.getElem?_append_left hj, List.getElem?_eq_getElem hj]
    rfl
  rw [e3]
theorem below_putRow {B g off n : Nat} {w0 w : World} (h : Below B w0 w) (hg : B ≤ g) (D : Array Int) : Below B w0 (Go.Sort.putRow (Value.int .i64) (Go.Sort.ahead w n) g off D) := by
  refine h.trans ⟨rfl, rfl, rfl, by simp, fun k hk => ?_⟩
  show (w.heap.modify g _)[k]? = w.heap[k]?
  rw [Array.getElem?_modify, if_neg (by omega)]
theorem below_growR {B : Nat} {w0 w : World} (h : Below B w0 w) (hB : B ≤ w.heap.size) (os : Array Obj) : Below B w0 (Go.Sort.grow w os) :=
  ⟨h.os, h.tape, h.output, by rw [Go.Sort.size_grow]; have := h.size; omega, fun k hk => by
    rw [Go.Sort.heap_grow_old w os (by omega)]
    exact h.block k hk⟩
end Pc
end Go.Proofs.YtnlhedpfhgoncabGreatDoor
namespace Go.Proofs.YtnlhedpfhgoncabGreatDoor
open Go.RowKit Go.Maps
namespace Ow
end Ow
namespace Pc
open Ow
theorem MapO.len {P : Program} {w : World} {q : IntKind} {mo : Option Nat} {f : Int → Option Value} (h : MapO w q mo f) {t k e : TypeId} (ht : P.underlying t = some (.map k e)) :
    ∃ n : Nat, (∀ ty, (Builtin.len_ #[t] ty #[.map mo]).run P w = .ok (.int .i64 n) w) ∧ ((∃ a, (f a).isSome = true) → 0 < n) ∧ ((∀ a, f a = none) → n = 0) := by
  rcases h with ⟨rfl, hf⟩ | ⟨b, rfl, es, clock, hb, he, hst⟩
  · refine ⟨0, fun ty => by simp [Builtin.len_, run_underlying ht, goInt, Result.andThen], fun ⟨a, ha⟩ => ?_, fun _ => rfl⟩
    rw [hf a] at ha
    cases ha
  · refine ⟨es.size, fun ty => by simp [Builtin.len_, run_underlying ht, MapKept.run_getObj_map hb, goInt, Result.andThen], fun ⟨a, ha⟩ => ?_, fun hn => ?_⟩
    · obtain ⟨v, hv⟩ := Option.isSome_iff_exists.1 ha
      obtain ⟨i, x, hx, _⟩ := he.all a v hv
      have := (Array.getElem?_eq_some_iff.1 hx).1
      omega
    · rcases Nat.eq_zero_or_pos es.size with h0 | h0
      · exact h0
      · obtain ⟨a, _, ha⟩ := he.key 0 es[0] (by simp [h0])
        rw [hn a] at ha
        cases ha
theorem all_nil {S : St} (hd : Dom S) (h : lstF S (fun _ => true) = []) (k : Int) : S k = none := by
  cases e : S k with
  | none => rfl
  | some p =>
    have : k ∈ lstF S (fun _ => true) := (mem_lst hd).2 (by unfold hits; rw [e])
    rw [h] at this
    simp at this
set_option maxHeartbeats 1000000 in
theorem begin_at (B b : Nat) (S : St) (w : World) (h : PrAt w B b S) :
    Calls Tryz.prog 40 #[ptr b] w fun e w' => e = .returned (.int .i64 (beN S)) ∧ PrAt w' B b (beS S) ∧ Tch B w w' := by
  have hA := h
  obtain ⟨mo, c, h⟩ := h
  have c0 := h.cell
  have hne := eq_procs b
  obtain ⟨n, hlen, hn1, hn2⟩ := h.map.len (P := Tryz.prog) (t := 138) Tryz.underlying138
  by_cases hk : lstF S (fun _ => true) = []
  · have hn0 : n = 0 := hn2 (fun a => by unfold pf; rw [all_nil h.dom hk a]; rfl)
    subst hn0
    have hp := put_at B b S 1 ⟨0, false, 0⟩ w hA (by omega) (by omega) (all_nil h.dom hk 1)
    have HR : Hid (beN S = 1 ∧ beS S = stPut S 1 ⟨0, false, 0⟩) := by
      unfold beN beS
      exact ⟨if_pos hk, if_pos hk⟩
    clear h hk hn1 hn2 hA
    go_enter Tryz.func40, Tryz.ntmps40
    go_wp2_with fail
    refine hp.mono ?_
    rintro e w1 ⟨rfl, hA, hT⟩
    have HA : Hid (PrAt w1 B b (stPut S 1 ⟨0, false, 0⟩)) := hA
    have HT : Hid (Tch B w w1) := hT
    clear hA hT hp
    go_wp2
    go_ret
    obtain ⟨e1, e2⟩ := HR.out
    exact ⟨by rw [e1]; rfl, by rw [e2]; exact HA.out, HT.out⟩
  · have hn0 : 0 < n := by
      refine hn1 ?_
      obtain ⟨k, hkm⟩ := List.exists_mem_of_ne_nil _ hk
      have := (mem_lst h.dom).1 hkm
      unfold hits at this
      refine ⟨k, ?_⟩
      unfold pf
      cases e : S k with
      | none => rw [e] at this; cases this
      | some p => rfl
    have g0 : decide (0 < (n : Int)) = true := decide_eq_true (by omega)
    have HR : Hid (beN S = 0 ∧ beS S = S) := by
      unfold beN beS
      exact ⟨if_neg hk, if_neg hk⟩
    have HA : Hid (PrAt w B b S) := hA
    have hn3 : (0 : Int) < (n : Int) := by omega
    clear h hk hn1 hn2 hA hn0
    go_enter Tryz.func40, Tryz.ntmps40
    go_wp2
    go_ret
    obtain ⟨e1, e2⟩ := HR.out
    exact ⟨by rw [e1]; rfl, by rw [e2]; exact HA.out, Tch.refl _ _⟩
/-- What the loop has collected. -/
structure Coll (S : St) (t : Pr → Bool) (left : Int → Bool) (xs : List Int) : Prop where
  nd : xs.Nodup
  mem : ∀ k, k ∈ xs ↔ hits S t k = true ∧ left k = false
theorem Coll.len {S : St} {t : Pr → Bool} {left : Int → Bool} {xs : List Int} (h : Coll S t left xs) (hd : Dom S) : xs.length ≤ 8 := by
  refine len_bound 8 xs h.nd (fun k hk => ?_)
  have := ((h.mem k).1 hk).1
  unfold hits at this
  cases e : S k with
  | none => rw [e] at this; cases this
  | some p => exact hd k p e
theorem Coll.start {S : St} {t : Pr → Bool} {c : Int → Nat} : Coll S t (fun a => (pf S c a).isSome) [] := by
  refine ⟨by simp, fun k => ⟨fun h => by simp at h, fun ⟨h1, h2⟩ => ?_⟩⟩
  unfold hits at h1
  unfold pf at h2
  cases e : S k with
  | none => rw [e] at h1; cases h1
  | some p => rw [e] at h2; cases h2
theorem Coll.yes {S : St} {t : Pr → Bool} {left : Int → Bool} {xs : List Int} (h : Coll S t left xs) {x : Int} {p : Pr} (hl : left x = true) (hx : S x = some p) (ht : t p = true) : Coll S t (fun z => left z && z != x) (xs ++ [x]) := by
  have hxm : x ∉ xs := fun q => by rw [((h.mem x).1 q).2] at hl; cases hl
  refine ⟨?_, fun k => ?_⟩
  · rw [List.nodup_append]
    exact ⟨h.nd, by simp, fun a ha b hb e => by simp at hb; rw [e, hb] at ha; exact hxm ha⟩
  · rw [List.mem_append, List.mem_singleton, h.mem]
    by_cases e : k = x
    · subst e
      have : hits S t k = true := by unfold hits; rw [hx]; exact ht
      simp [this]
    · simp [e]
theorem Coll.no {S : St} {t : Pr → Bool} {left : Int → Bool} {xs : List Int} (h : Coll S t left xs) {x : Int} {p : Pr} (hx : S x = some p) (ht : t p = false) : Coll S t (fun z => left z && z != x) xs := by
  refine ⟨h.nd, fun k => ?_⟩
  rw [h.mem]
  by_cases e : k = x
  · subst e
    have : hits S t k = false := by unfold hits; rw [hx]; exact ht
    simp [this]
  · simp [e]
theorem Coll.all {S : St} {t : Pr → Bool} {left : Int → Bool} {xs : List Int} (h : Coll S t left xs) (hd : Dom S) (hl : ∀ k, left k = false) : xs.mergeSort (fun x y => decide (x ≤ y)) = lstF S t :=
  sorted_lst hd h.nd (fun k => by rw [h.mem]; simp [hl k])
theorem pf_ptr {S : St} {c : Int → Nat} (x : Int) (v : Value) (h : pf S c x = some v) : v = ptr (c x) := by
  unfold pf at h
  obtain ⟨p, _, e⟩ := Option.map_eq_some_iff.1 h
  exact e.symm
theorem below_upd {B r : Nat} {a b c : World} (h : Below B a b) (hu : Upd r b c) (hr : B ≤ r) (hs : B ≤ b.heap.size) : Below B a c := h.trans (hu.below hr hs)
theorem drewN_bel (w : World) (q : Nat) : Below w.heap.size w (w.drewN q) := ⟨rfl, rfl, rfl, Nat.le_refl _, fun _ _ => rfl⟩
set_option maxRecDepth 100000 in
set_option maxHeartbeats 4000000 in
theorem those_at (B b : Nat) (S : St) (N : Nat) (caps : Array Value) (t : Pr → Bool) (w : World) (h : PrAt w B b S)
    (hcf : ∀ (args : Array Value) (W : World), (callFunc N args).run Tryz.prog W = .ok (.enter N args) W)
    (hdo : ∀ (W : World) (c : Nat) (p : Pr), Below w.heap.size w W → W.heap[c]? = some (.cells (prow p) 196) → Calls Tryz.prog N (#[ptr c] ++ caps) W fun e W' => e = .returned (.bool (t p)) ∧ ∃ q, W' = W.drewN q) :
    Calls Tryz.prog 67 #[ptr b, .func (.func N) #[] caps] w fun e w' => ∃ a cap, e = .returned (.slice a (lstF S t).length cap) ∧ IRow w' a (lstF S t) ∧ Below w.heap.size w w' := by
  obtain ⟨mo, c, h⟩ := h
  have HH : Hid (PrIs w B b mo c S) := h
  have HM : Hid (MapO w .i64 mo (pf S c)) := h.map
  have HD : Hid (Dom S) := h.dom
  have HDo : Hid (∀ (W : World) (c : Nat) (p : Pr), Below w.heap.size w W → W.heap[c]? = some (.cells (prow p) 196) → Calls Tryz.prog N (#[ptr c] ++ caps) W fun e W' => e = .returned (.bool (t p)) ∧ ∃ q, W' = W.drewN q) := hdo
  have c0 := h.cell
  clear h hdo
  go_enter Tryz.func67, Tryz.ntmps67
  go_wp2_with (first | (at_range; refine wpList_range_o rfl _ _ _ _ rfl Tryz.underlying138 .i64 mo (pf S c) rfl HM.out ?_; intro w0 n0 hrg0 hb0 hs0) | go_in)
  go_frame
  have HR0 : Hid (RngO w0 .i64 mo w.heap.size (pf S c) (fun a => (pf S c a).isSome) n0) := hrg0
  have HB0 : Hid (Below w.heap.size w w0) := hb0
  obtain ⟨r, hr⟩ : ∃ r, r = w.heap.size := ⟨_, rfl⟩
  rw [← hr] at HR0 ⊢
  have Hr : Hid (r = w.heap.size) := hr
  clear hrg0 hb0 hs0 c0 hr
  go_loopw [5] (fun s wr => ∃ (left : Int → Bool) (n : Nat) (xs : List Int) (ak : Option Addr) (nk ck : Nat), .slice ak nk ck = s ∧ nk = xs.length ∧ Coll S t left xs ∧ RngO wr .i64 mo r (pf S c) left n ∧ wr.ownsRow (r + 1) 3 1 (.slice ak nk ck) xs.length (ivs xs) ∧ Below w.heap.size w wr) (fun _ wr => mleft mo r wr)
  case atStart => exact ⟨_, n0, [], none, 0, 0, rfl, rfl, Coll.start, HR0.out, World.ownsRow_nil _ _ _ 1, HB0.out⟩
  case round =>
    clear HR0 HB0
    obtain ⟨left, n, xs, ak, nk, ck, rfl, hnk, hC, hrg, hown, hB⟩ := hrel
    have HC : Hid (Coll S t left xs) := hC
    have HRg : Hid (RngO wr .i64 mo r (pf S c) left n) := hrg
    have HO : Hid (wr.ownsRow (r + 1) 3 1 (.slice ak nk ck) xs.length (ivs xs)) := hown
    have HB : Hid (Below w.heap.size w wr) := hB
    have HN : Hid (nk = xs.length) := hnk
    clear hC hrg hown hB hnk
    go_wp2_with (first | (at_next; refine wpList_next_o rfl _ rfl .i64 mo r (pf S c) (fun x => ptr (c x)) pf_ptr left n rfl HRg.out ?_ ?_) | go_in)
    · intro hl0
      have HS : Hid (xs.mergeSort (fun x y => decide (x ≤ y)) = lstF S t) := HC.out.all HD.out hl0
      have hxl : nk ≤ 8 := by rw [HN.out]; exact HC.out.len HD.out
      clear hl0
      by_cases hn : nk = 0
      · have hD : xs = [] := List.eq_nil_of_length_eq_zero (by rw [← HN.out]; exact hn)
        have HL : Hid (lstF S t = []) := by show lstF S t = []; rw [← HS.out, hD]; simp
        subst hn
        have hS := slices_Sort_int_none ak ck wr
        clear hD hxl
        go_wp2_with fail
        refine hS.mono ?_
        rintro e w1 ⟨rfl, hw⟩
        rw [hw]
        clear hw w1 hS
        go_wp2
        go_ret
        refine ⟨ak, ck, by rw [HL.out]; rfl, ?_, HB.out⟩
        rw [HL.out]
        intro j x hx
        simp at hx
      · obtain ⟨g, cap, e2, hgl, hgu⟩ := HO.out.form (by rw [← HN.out]; omega)
        rw [← HN.out] at e2
        cases e2
        have hO2 := HO.out
        have hH := holds_own (by rw [HN.out] at hO2; exact hO2)
        have hlow := ownsRow_low HO.out g rfl
        have hS := slices_Sort_int g 0 ck xs wr hH hgu (by rw [← HN.out]; omega)
        obtain ⟨M, hMq⟩ : ∃ M, M = lstF S t := ⟨_, rfl⟩
        rw [HS.out, ← hMq, ← HN.out] at hS
        have HHo : Hid (Go.Sort.Holds (Value.int .i64) wr g 0 xs.toArray) := hH
        have HLn : Hid (M.length = nk) := by show _ = nk; rw [hMq, ← HS.out, List.length_mergeSort]; exact HN.out.symm
        have HMq : Hid (M = lstF S t) := hMq
        have HLow : Hid (r + 1 ≤ g) := hlow
        clear hH hlow hgu hgl hO2 hMq
        go_wp2_with fail
        refine hS.mono ?_
        rintro e w1 ⟨rfl, nn, os, hw⟩
        have hB1 : Below w.heap.size w w1 := by
          rw [hw]
          exact below_growR (below_putRow HB.out (by have := HLow.out; have := Hr.out; omega) _) (by have := HB.out.size; simp; omega) _
        have hH1 : Go.Sort.Holds (Value.int .i64) w1 g 0 M.toArray := by
          rw [hw]
          refine Go.Sort.holds_grow _ _ _ _ _ _ ?_ ?_
          · have := HO.out.lt g rfl; simp; omega
          · exact Go.Sort.holds_putRow _ _ _ _ xs.toArray _ (Go.Sort.holds_ahead _ _ _ _ _ _ HHo.out) (by have := HLn.out; have := HN.out; simp; omega)
        have HB1 : Hid (Below w.heap.size w w1) := hB1
        have HI : Hid (IRow w1 (some ⟨g, 0, none⟩) M) := irow_holds (E := []) (by rw [List.append_nil]; exact hH1)
        clear hS hw hB1 hH1
        go_wp2
        go_ret
        rw [← HMq.out]
        exact ⟨some ⟨g, 0, none⟩, ck, by rw [HLn.out]; rfl, HI.out, HB1.out⟩
    · intro x w1 n1 hlx hdx hrg1 hlt1 hu1 hs1 hen
      have HRg1 : Hid (RngO w1 .i64 mo r (pf S c) (fun z => left z && z != x) n1) := hrg1
      have HLt : Hid (n1 < n) := hlt1
      have HB1 : Hid (Below w.heap.size w w1) := below_upd HB.out hu1 (by have := Hr.out; omega) HB.out.size
      have HO1 : Hid (w1.ownsRow (r + 1) 3 1 (.slice ak nk ck) xs.length (ivs xs)) := ownsRow_at HO.out (fun g hg => by
        have hgl := HO.out.lt g hg
        exact hu1.block g hgl.2 (by omega))
      obtain ⟨p, hp⟩ : ∃ p, S x = some p := by
        unfold pf at hdx
        cases e : S x with
        | none => rw [e] at hdx; cases hdx
        | some p => exact ⟨p, rfl⟩
      have hcell := ((HH.out.below HB1.out).pr x p hp)
      have hD := HDo.out w1 (c x) p HB1.out hcell
      have HP : Hid (S x = some p) := hp
      have HLx : Hid (left x = true) := hlx
      have hxl : nk ≤ 8 := by rw [HN.out]; exact HC.out.len HD.out
      clear hrg1 hlt1 hu1 hs1 hdx hcell hp hlx HB HO
      generalize hcx : c x = cx at *
      clear hcx
      go_wp2_with fail
      refine hD.mono ?_
      rintro e w2 ⟨rfl, q, hw⟩
      rw [hw]
      clear hw w2 hD hen
      have HRg2 : Hid (RngO (w1.drewN q) .i64 mo r (pf S c) (fun z => left z && z != x) n1) := HRg1.out.of_blocks (fun _ _ => rfl) rfl
      have HB2 : Hid (Below w.heap.size w (w1.drewN q)) := HB1.out.trans ((drewN_bel w1 q).mono HB1.out.size)
      have HO2 : Hid ((w1.drewN q).ownsRow (r + 1) 3 1 (.slice ak nk ck) xs.length (ivs xs)) := ownsRow_at HO1.out (fun _ _ => rfl)
      clear HRg1 HB1 HO1
      generalize w1.drewN q = W at *
      cases htp : t p with
      | false =>
        have HC2 : Hid (Coll S t (fun z => left z && z != x) xs) := HC.out.no HP.out htp
        clear htp
        go_wp2
        go_roundw
        case rel => exact ⟨_, n1, xs, ak, nk, ck, rfl, HN.out, HC2.out, HRg2.out, HO2.out, HB2.out⟩
        case measure => rw [HRg2.out.left_eq, HRg.out.left_eq]; exact HLt.out
      | true =>
        have HC2 : Hid (Coll S t (fun z => left z && z != x) (xs ++ [x])) := HC.out.yes HLx.out HP.out htp
        obtain ⟨a', c', w3, hrun, hown3, hgr3⟩ := app1i HO2.out HN.out.symm HRg2.out.lt (by omega) x
        have HN3 : Hid (nk + 1 = (xs ++ [x]).length) := by show _ = _; rw [List.length_append, ← HN.out]; rfl
        have HRg3 : Hid (RngO w3 .i64 mo r (pf S c) (fun z => left z && z != x) n1) := by
          refine HRg2.out.of_blocks (fun m e => hgr3.block m (HRg2.out.mlt m e) (fun e2 => ?_)) (hgr3.block r HRg2.out.lt (fun e2 => ?_))
          · have := ownsRow_low HO2.out m e2.symm
            have := HH.out.mlt m e
            have := Hr.out
            omega
          · have := ownsRow_low HO2.out r e2.symm
            omega
        have HB3 : Hid (Below w.heap.size w w3) := HB2.out.trans (below_grown hgr3 HB2.out.size (fun g hg => by have := ownsRow_low HO2.out g hg; have := Hr.out; omega))
        have HO3 : Hid (w3.ownsRow (r + 1) 3 1 (.slice a' (nk + 1) c') (xs ++ [x]).length (ivs (xs ++ [x]))) := hown3
        have HRun : Hid _ := hrun
        clear htp hrun hown3 hgr3
        go_wp2_with (at_builtin; refine wpList_append_eq rfl _ _ _ rfl _ _ _ rfl rfl HRun.out ?_)
        go_roundw
        case rel => exact ⟨_, n1, xs ++ [x], a', nk + 1, c', rfl, HN3.out, HC2.out, HRg3.out, HO3.out, HB3.out⟩
        case measure => rw [HRg3.out.left_eq, HRg.out.left_eq]; exact HLt.out
theorem lives_cf (args : Array Value) (W : World) : (callFunc 66 args).run Tryz.prog W = .ok (.enter 66 args) W := by kernel_rfl
theorem all_at (B b : Nat) (S : St) (w : World) (h : PrAt w B b S) :
    Calls Tryz.prog 26 #[ptr b] w fun e w' => ∃ a cap, e = .returned (.slice a (lstF S (fun p => !p.zom)).length cap) ∧ IRow w' a (lstF S (fun p => !p.zom)) ∧ Below w.heap.size w w' := by
  have hT := those_at B b S 66 #[] (fun p => !p.zom) w h lives_cf (fun W c p hb hc => by
    refine (lives_at c p.zom W (by rw [cell_of_heap hc]; rfl)).mono ?_
    rintro e w' ⟨rfl, rfl⟩
    exact ⟨rfl, 0, rfl⟩)
  have hne := eq_procs b
  clear h
  go_enter Tryz.func26, Tryz.ntmps26
  go_wp2_with fail
  refine hT.mono ?_
  rintro e w1 ⟨a, cap, rfl, hI, hB⟩
  have HE : Hid (IRow w1 a (lstF S (fun p => !p.zom)) ∧ Below w.heap.size w w1) := ⟨hI, hB⟩
  clear hT hI hB
  obtain ⟨L, hL⟩ : ∃ L, L = lstF S (fun p => !p.zom) := ⟨_, rfl⟩
  rw [← hL] at HE ⊢
  have HL : Hid (L = lstF S (fun p => !p.zom)) := hL
  clear hL
  go_wp2
  go_ret
  rw [← HL.out]
  exact ⟨a, cap, rfl, HE.out⟩
end Pc
end Go.Proofs.YtnlhedpfhgoncabGreatDoor
