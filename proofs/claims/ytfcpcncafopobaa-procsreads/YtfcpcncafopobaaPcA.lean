/- Package procs: the processes in the heap; what a call may touch; New, put, lives, Live, Parent, lowestFree, Begin, Fork. -/
import Derived.Test.YtfcpcncafopobaaOwnR
import Derived.Test.YtfcpcncafopobaaPcP
import Derived.Test.YtfcpcncafopobaaPcM
import Derived.Deep.DeepCutAuto
namespace Go.Proofs.Ytfcpcncafopobaa
open Go.RowKit
set_option linter.unusedVariables false

abbrev ptr (b : Nat) : Value := .pointer (some ⟨b, 0, none⟩)
/-- A process's cells. -/
abbrev prow (p : Pr) : Array Value := #[.int .i64 p.par, .bool p.zom, .int .i64 p.st]
/-- What the map answers: each process's place. -/
def pf (S : St) (c : Int → Nat) : Int → Option Value := fun k => (S k).map (fun _ => ptr (c k))
/-- Block b holds the processes S, their map mo, themselves at c. -/
structure PrIs (w : World) (B b : Nat) (mo : Option Nat) (c : Int → Nat) (S : St) : Prop where
  head : w.heap[b]? = some (.cells #[.map mo] 66)
  map : MapO w .i64 mo (pf S c)
  pr : ∀ k p, S k = some p → w.heap[c k]? = some (.cells (prow p) 69)
  inj : ∀ j k, (S j).isSome = true → (S k).isSome = true → c j = c k → j = k
  dom : Dom S
  bB : B ≤ b
  mB : ∀ m, mo = some m → B ≤ m
  cB : ∀ k p, S k = some p → B ≤ c k
def PrAt (w : World) (B b : Nat) (S : St) : Prop := ∃ mo c, PrIs w B b mo c S
/-- A block of processes: a map, or cells of these two types. -/
def PB (w : World) (k : Nat) : Prop := (∃ es cl, w.heap[k]? = some (.map es cl)) ∨ ∃ cs t fr, w.heap[k]? = some (.cells cs t fr) ∧ (t = 66 ∨ t = 69)
/-- What a call may touch: blocks of processes, from B on. -/
structure Tch (B : Nat) (w w' : World) : Prop where
  os : w'.os = w.os
  tape : w'.tape = w.tape
  output : w'.output = w.output
  size : w.heap.size ≤ w'.heap.size
  block : ∀ k, k < w.heap.size → (k < B ∨ ¬ PB w k) → w'.heap[k]? = w.heap[k]?
theorem pb_same {w w' : World} {k : Nat} (h : w'.heap[k]? = w.heap[k]?) : PB w' k ↔ PB w k := by unfold PB; rw [h]
theorem Tch.refl (B : Nat) (w : World) : Tch B w w := ⟨rfl, rfl, rfl, Nat.le_refl _, fun _ _ _ => rfl⟩
theorem Tch.trans {B : Nat} {a b c : World} (h : Tch B a b) (k : Tch B b c) : Tch B a c :=
  ⟨k.os.trans h.os, k.tape.trans h.tape, k.output.trans h.output, Nat.le_trans h.size k.size, fun i hi hg => by
    have e := h.block i hi hg
    refine (k.block i (Nat.lt_of_lt_of_le hi h.size) ?_).trans e
    rcases hg with hg | hg
    · exact Or.inl hg
    · exact Or.inr (fun x => hg ((pb_same e).1 x))⟩
theorem Tch.of_below {B : Nat} {w w' : World} (h : Below w.heap.size w w') : Tch B w w' := ⟨h.os, h.tape, h.output, h.size, fun k hk _ => h.block k hk⟩
theorem Tch.below {B : Nat} {w w' : World} (h : Tch B w w') (hs : B ≤ w.heap.size) : Below B w w' := ⟨h.os, h.tape, h.output, h.size, fun k hk => h.block k (by omega) (Or.inl hk)⟩
theorem Tch.of_upd {B g : Nat} {w w' : World} (h : Upd g w w') (hB : B ≤ g) (hg : PB w g) : Tch B w w' := ⟨h.os, h.tape, h.output, h.size, fun k hk hh => h.block k hk (fun e => by
  subst e
  rcases hh with hh | hh
  · omega
  · exact hh hg)⟩
theorem Tch.of_new {B g : Nat} {w w1 w2 : World} (h : Tch B w w1) (hu : Upd g w1 w2) (hg : w.heap.size ≤ g) : Tch B w w2 :=
  ⟨hu.os.trans h.os, hu.tape.trans h.tape, hu.output.trans h.output, Nat.le_trans h.size hu.size, fun k hk hh => (hu.block k (Nat.lt_of_lt_of_le hk h.size) (by omega)).trans (h.block k hk hh)⟩
theorem not_pb {w : World} {k : Nat} {cs : Array Value} {t : TypeId} {fr : Nat × Nat} (hk : w.heap[k]? = some (.cells cs t fr)) (h1 : t ≠ 66) (h2 : t ≠ 69) : ¬ PB w k := by
  rintro (⟨es, cl, e⟩ | ⟨cs', t', fr', e, ht⟩)
  · rw [hk] at e; cases e
  · rw [hk] at e
    simp only [Option.some.injEq, Obj.cells.injEq] at e
    obtain ⟨_, rfl, _⟩ := e
    rcases ht with ht | ht
    · exact h1 ht
    · exact h2 ht
theorem Tch.other {B : Nat} {w w' : World} (h : Tch B w w') {k : Nat} {cs : Array Value} {t : TypeId} {fr : Nat × Nat} (hk : w.heap[k]? = some (.cells cs t fr)) (h1 : t ≠ 66) (h2 : t ≠ 69) : w'.heap[k]? = some (.cells cs t fr) := by
  rw [h.block k (lt_of_heap hk) (Or.inr (not_pb hk h1 h2))]
  exact hk
section
variable {w w' : World} {B b : Nat} {mo : Option Nat} {c : Int → Nat} {S : St}
theorem PrIs.lt (h : PrIs w B b mo c S) : b < w.heap.size := lt_of_heap h.head
theorem PrIs.low (h : PrIs w B b mo c S) : B ≤ w.heap.size := by have := h.lt; have := h.bB; omega
theorem PrIs.clt (h : PrIs w B b mo c S) {k : Int} {p : Pr} (hk : S k = some p) : c k < w.heap.size := lt_of_heap (h.pr k p hk)
theorem PrIs.mlt (h : PrIs w B b mo c S) : ∀ m, mo = some m → m < w.heap.size := by
  intro m e
  rcases h.map with ⟨e2, _⟩ | ⟨m2, e2, hm⟩
  · rw [e2] at e; cases e
  · rw [e2] at e; cases e; exact hm.lt
theorem PrIs.below (h : PrIs w B b mo c S) (hb : Below w.heap.size w w') : PrIs w' B b mo c S :=
  ⟨(hb.block _ h.lt).trans h.head, h.map.below hb, fun k p hk => (hb.block _ (h.clt hk)).trans (h.pr k p hk), h.inj, h.dom, h.bB, h.mB, h.cB⟩
theorem PrIs.cb (h : PrIs w B b mo c S) {k : Int} {p : Pr} (hk : S k = some p) : c k ≠ b := by
  intro e
  have h1 := h.pr k p hk
  rw [e, h.head] at h1
  simp only [Option.some.injEq, Obj.cells.injEq] at h1
  exact absurd h1.2.1 (by decide)
theorem PrIs.cm (h : PrIs w B b mo c S) {k : Int} {p : Pr} (hk : S k = some p) : ∀ m, mo = some m → c k ≠ m := by
  intro m e1 e
  rcases h.map with ⟨e2, _⟩ | ⟨m2, e2, es, cl, hm, _⟩
  · rw [e2] at e1; cases e1
  · rw [e2] at e1; cases e1
    have h1 := h.pr k p hk
    rw [e, hm] at h1
    cases h1
theorem PrIs.bm (h : PrIs w B b mo c S) : ∀ m, mo = some m → b ≠ m := by
  intro m e1 e
  rcases h.map with ⟨e2, _⟩ | ⟨m2, e2, es, cl, hm, _⟩
  · rw [e2] at e1; cases e1
  · rw [e2] at e1; cases e1
    have h1 := h.head
    rw [e, hm] at h1
    cases h1
theorem PrIs.cell (h : PrIs w B b mo c S) : w.cell? ⟨b, 0, none⟩ = some (.map mo) := by rw [cell_of_heap h.head]; rfl
theorem PrIs.free (h : PrIs w B b mo c S) : w.frozen? ⟨b, 0, none⟩ = false := frozen_of_heap h.head
theorem PrIs.cells (h : PrIs w B b mo c S) {k : Int} {p : Pr} (hk : S k = some p) : w.cell? ⟨c k, 0, none⟩ = some (.int .i64 p.par) ∧ w.cell? ⟨c k, 1, none⟩ = some (.bool p.zom) ∧ w.cell? ⟨c k, 2, none⟩ = some (.int .i64 p.st) := by
  have h1 := h.pr k p hk
  refine ⟨?_, ?_, ?_⟩ <;> rw [cell_of_heap h1] <;> rfl
theorem zeroPtr (w : World) : (zeroValue 70).run Try.prog w = .ok (.pointer none) w := by kernel_rfl
theorem PrIs.look (h : PrIs w B b mo c S) (k : Int) : (Instr.lookup 64 (.map mo) (.int .i64 k) false).run Try.prog w = .ok ((pf S c k).getD (.pointer none)) w :=
  h.map.look Try.underlying64 Try.underlying3 (zeroPtr w) k
theorem PrIs.look_none (h : PrIs w B b mo c S) {k : Int} (hk : S k = none) : (Instr.lookup 64 (.map mo) (.int .i64 k) false).run Try.prog w = .ok (.pointer none) w := by
  rw [h.look]; unfold pf; rw [hk]; rfl
theorem PrIs.look_some (h : PrIs w B b mo c S) {k : Int} {p : Pr} (hk : S k = some p) : (Instr.lookup 64 (.map mo) (.int .i64 k) false).run Try.prog w = .ok (ptr (c k)) w := by
  rw [h.look]; unfold pf; rw [hk]; rfl
theorem PrAt.below (h : PrAt w B b S) (hb : Below w.heap.size w w') : PrAt w' B b S := by
  obtain ⟨mo, c, h⟩ := h
  exact ⟨mo, c, h.below hb⟩
theorem PrAt.lt (h : PrAt w B b S) : b < w.heap.size := by obtain ⟨mo, c, h⟩ := h; exact h.lt
theorem PrAt.low (h : PrAt w B b S) : B ≤ w.heap.size := by obtain ⟨mo, c, h⟩ := h; exact h.low
theorem PrAt.dom (h : PrAt w B b S) : Dom S := by obtain ⟨mo, c, h⟩ := h; exact h.dom
theorem PrIs.pbb (h : PrIs w B b mo c S) : PB w b := Or.inr ⟨_, _, _, h.head, Or.inl rfl⟩
theorem PrIs.pbc (h : PrIs w B b mo c S) {k : Int} {p : Pr} (hk : S k = some p) : PB w (c k) := Or.inr ⟨_, _, _, h.pr k p hk, Or.inr rfl⟩
theorem PrIs.pbm (h : PrIs w B b mo c S) : ∀ m, mo = some m → PB w m := by
  intro m e
  rcases h.map with ⟨e2, _⟩ | ⟨m2, e2, es, cl, hm, _⟩
  · rw [e2] at e; cases e
  · rw [e2] at e; cases e; exact Or.inl ⟨es, cl, hm⟩
end
theorem eq_procs (b : Nat) (W : World) : (binOp .eql 23 (ptr b) (.pointer none)).run Try.prog W = .ok (.bool false) W := by kernel_rfl
theorem eq_proc (b : Nat) (W : World) : (binOp .eql 70 (ptr b) (.pointer none)).run Try.prog W = .ok (.bool false) W := by kernel_rfl
theorem ne_proc (b : Nat) (W : World) : (binOp .neq 70 (ptr b) (.pointer none)).run Try.prog W = .ok (.bool true) W := by kernel_rfl
theorem eq_map (m : Nat) (W : World) : (binOp .eql 64 (.map (some m)) (.map none)).run Try.prog W = .ok (.bool false) W := by kernel_rfl
theorem eq_map0 (W : World) : (binOp .eql 64 (.map none) (.map none)).run Try.prog W = .ok (.bool true) W := by kernel_rfl

theorem new_at (w : World) :
    Calls Try.prog 8 #[] w fun e w' => e = .returned (ptr w.heap.size) ∧ PrAt w' w.heap.size w.heap.size St0 ∧ Below w.heap.size w w' := by
  go_enter Try.func8, Try.ntmps8
  go_wp2
  go_ret
  exact ⟨rfl, ⟨none, fun _ => 0, heap_alloc_new _ _, Or.inl ⟨rfl, fun a => rfl⟩, fun k p h => (by cases h), fun j k h => (by cases h), fun k p h => (by cases h), Nat.le_refl _, fun m h => (by cases h), fun k p h => (by cases h)⟩, below_alloc _ _⟩
/-- One more process, in a new block. -/
theorem PrIs.put {w W : World} {B b : Nat} {mo : Option Nat} {c : Int → Nat} {S : St} (h : PrIs w B b mo c S) {k : Int} {p : Pr} {n m : Nat} (h1 : 1 ≤ k) (h8 : k ≤ 8) (hn : w.heap.size ≤ n) (hk : S k = none)
    (hb : W.heap[b]? = some (.cells #[.map (some m)] 66)) (hm : MapIs W .i64 m (fput (pf S c) k (ptr n))) (hp : W.heap[n]? = some (.cells (prow p) 69)) (hB : B ≤ m)
    (hold : ∀ j q, S j = some q → W.heap[c j]? = w.heap[c j]?) : PrIs W B b (some m) (fun x => if x = k then n else c x) (stPut S k p) := by
  have hat : ∀ j q, stPut S k p j = some q → (j = k ∧ q = p) ∨ (j ≠ k ∧ S j = some q) := by
    intro j q hj
    by_cases e : j = k
    · subst e
      rw [stPut_same] at hj
      cases hj
      exact Or.inl ⟨rfl, rfl⟩
    · rw [stPut_other _ e] at hj
      exact Or.inr ⟨e, hj⟩
  have hs : ∀ j, (stPut S k p j).isSome = true → j = k ∨ (j ≠ k ∧ (S j).isSome = true) := by
    intro j hj
    obtain ⟨q, hq⟩ := Option.isSome_iff_exists.1 hj
    rcases hat j q hq with ⟨e, _⟩ | ⟨e, hq2⟩
    · exact Or.inl e
    · exact Or.inr ⟨e, by rw [hq2]; rfl⟩
  have hlt : ∀ j, (S j).isSome = true → c j ≠ n := by
    intro j hj
    obtain ⟨q, hq⟩ := Option.isSome_iff_exists.1 hj
    have := h.clt hq
    omega
  refine ⟨hb, Or.inr ⟨m, rfl, ?_⟩, ?_, ?_, h.dom.put p h1 h8, h.bB, fun m' e => (by cases e; exact hB), ?_⟩
  · have : pf (stPut S k p) (fun x => if x = k then n else c x) = fput (pf S c) k (ptr n) := by
      funext x
      unfold pf fput
      by_cases e : x = k
      · subst e
        rw [stPut_same, if_pos rfl]
        show some (ptr (if x = x then n else c x)) = some (ptr n)
        rw [if_pos rfl]
      · rw [stPut_other _ e, if_neg e]
        show (S x).map (fun _ => ptr (if x = k then n else c x)) = (S x).map (fun _ => ptr (c x))
        rw [if_neg e]
    rw [this]; exact hm
  · intro j q hj
    rcases hat j q hj with ⟨rfl, rfl⟩ | ⟨e, hj⟩
    · rw [if_pos rfl]; exact hp
    · rw [if_neg e, hold j q hj]; exact h.pr j q hj
  · intro i j hi hj e
    rcases hs i hi with e1 | ⟨e1, hi⟩
    · rcases hs j hj with e2 | ⟨e2, hj⟩
      · rw [e1, e2]
      · rw [if_pos e1, if_neg e2] at e
        exact absurd e.symm (hlt j hj)
    · rcases hs j hj with e2 | ⟨e2, hj⟩
      · rw [if_pos e2, if_neg e1] at e
        exact absurd e (hlt i hi)
      · rw [if_neg e1, if_neg e2] at e
        exact h.inj i j hi hj e
  · intro j q hj
    have := h.low
    rcases hat j q hj with ⟨rfl, rfl⟩ | ⟨e, hj⟩
    · rw [if_pos rfl]; omega
    · rw [if_neg e]; exact h.cB j q hj
set_option maxRecDepth 100000 in
set_option maxHeartbeats 1000000 in
theorem put_at (B b : Nat) (S : St) (k : Int) (p : Pr) (w : World) (h : PrAt w B b S) (h1 : 1 ≤ k) (h8 : k ≤ 8) (hk : S k = none) :
    Calls Try.prog 31 #[ptr b, .int .i64 k, .agg (prow p)] w fun e w' => e = .returned (.tuple #[]) ∧ PrAt w' B b (stPut S k p) ∧ Tch B w w' := by
  obtain ⟨mo, c, h⟩ := h
  obtain ⟨W0, hW0⟩ : ∃ W, W = w.alloc (.cells (prow p) 69) := ⟨_, rfl⟩
  have hb0 : Below w.heap.size w W0 := by rw [hW0]; exact below_alloc _ _
  have hn0 : W0.heap[w.heap.size]? = some (.cells (prow p) 69) := by rw [hW0]; exact heap_alloc_new _ _
  have hs0 : W0.heap.size = w.heap.size + 1 := by rw [hW0]; simp
  have h0 := h.below hb0
  have hlow := h.low
  have hbl := h.lt
  cases mo with
  | none =>
    have hmm := @run_makeMap Try.prog
    have hq := eq_map0
    obtain ⟨W1, hW1⟩ : ∃ W, W = W0.alloc (.map #[] 0) := ⟨_, rfl⟩
    have hb1 : Below W0.heap.size W0 W1 := by rw [hW1]; exact below_alloc _ _
    have hs1 : W1.heap.size = w.heap.size + 1 + 1 := by rw [hW1]; simp [hs0]
    have h1' := h0.below hb1
    have hM1 : MapIs W1 .i64 (w.heap.size + 1) (fun _ => none) := by rw [hW1, ← hs0]; exact MapIs.made W0 .i64
    have hf : pf S c = fun _ => none := by
      rcases h.map with ⟨_, e⟩ | ⟨m, e, _⟩
      · funext a; exact e a
      · cases e
    have hu2 : Upd b W1 (W1.setCell ⟨b, 0, none⟩ (.map (some (w.heap.size + 1)))) := Upd.setCell _ _ _ _
    have hh2 : (W1.setCell ⟨b, 0, none⟩ (.map (some (w.heap.size + 1)))).heap[b]? = some (.cells #[.map (some (w.heap.size + 1))] 66) := by
      rw [setCell_eq_setRow W1 b 0 _ _ _ _ h1'.head, setRow_heap W1 b _ _ _ _ h1'.head]; rfl
    have hM2 : MapIs (W1.setCell ⟨b, 0, none⟩ (.map (some (w.heap.size + 1)))) .i64 (w.heap.size + 1) (fun _ => none) := hM1.of_block (hu2.block _ (by omega) (by omega))
    obtain ⟨W3, hrun, hM3, hu3, hs3⟩ := hM2.put (P := Try.prog) (t := 64) (k := 3) (e := 70) Try.underlying64 Try.underlying3 k (ptr w.heap.size)
    have hs2 : (W1.setCell ⟨b, 0, none⟩ (.map (some (w.heap.size + 1)))).heap.size = w.heap.size + 1 + 1 := by simp [World.setCell, hs1]
    have c0 := h0.cell
    have c1 := h1'.cell
    have f1 := h1'.free
    have c2 : (W1.setCell ⟨b, 0, none⟩ (.map (some (w.heap.size + 1)))).cell? ⟨b, 0, none⟩ = some (.map (some (w.heap.size + 1))) := by rw [cell_of_heap hh2]; rfl
    have keep : ∀ j, j < W1.heap.size → j ≠ b → j ≠ w.heap.size + 1 → W3.heap[j]? = W1.heap[j]? := fun j h1 h2 h3 => (hu3.block j (by omega) h3).trans (hu2.block j h1 h2)
    have HE : Hid (PrAt W3 B b (stPut S k p) ∧ Tch B w W3) := by
      refine ⟨⟨_, _, h.put h1 h8 (Nat.le_refl _) hk ((hu3.block b (by omega) (by omega)).trans hh2) (by rw [hf]; exact hM3) ?_ (by omega) ?_⟩, ?_⟩
      · rw [keep _ (by omega) (by omega) (by omega), hb1.block _ (by omega)]; exact hn0
      · intro j q hj
        have hcl := h.clt hj
        rw [keep _ (by omega) (h.cb hj) (by omega), hb1.block _ (by omega), hb0.block _ hcl]
      · refine Tch.of_new ((Tch.of_below (hb0.trans (hb1.mono hb0.size))).trans (Tch.of_upd hu2 h.bB (Or.inr ⟨_, _, _, h1'.head, Or.inl rfl⟩))) hu3 (by omega)
    have HW0 : Hid _ := hW0
    rw [hW1] at hrun c1 f1 c2
    clear hW0 hW1 hb0 hn0 h0 h hb1 h1' hM1 hf hu2 hh2 hM2 hM3 hu3 hs3 keep hs2 hs1 hbl
    go_enter Try.func31, Try.ntmps31
    go_upto_region 1 with fail
    rw [← HW0.out]
    go_wp2
    go_end0
    exact ⟨rfl, HE.out⟩
  | some m =>
    have hm : MapIs W0 .i64 m (pf S c) := by
      rcases h0.map with ⟨e, _⟩ | ⟨m', e, hm⟩
      · cases e
      · cases e; exact hm
    have hml := h.mlt m rfl
    obtain ⟨W3, hrun, hM3, hu3, hs3⟩ := hm.put (P := Try.prog) (t := 64) (k := 3) (e := 70) Try.underlying64 Try.underlying3 k (ptr w.heap.size)
    have c0 := h0.cell
    have hne := eq_map m
    have HE : Hid (PrAt W3 B b (stPut S k p) ∧ Tch B w W3) := by
      refine ⟨⟨_, _, h.put h1 h8 (Nat.le_refl _) hk ((hu3.block b (by omega) (h.bm m rfl)).trans h0.head) hM3 ((hu3.block _ (by omega) (by omega)).trans hn0) (h.mB m rfl) ?_⟩, ?_⟩
      · intro j q hj
        have hcl := h.clt hj
        rw [hu3.block _ (by omega) (h.cm hj m rfl), hb0.block _ hcl]
      · exact (Tch.of_below hb0).trans (Tch.of_upd hu3 (h.mB m rfl) (h0.pbm m rfl))
    have HW0 : Hid _ := hW0
    clear hW0 hb0 hn0 h0 h hm hM3 hu3 hs3 hs0 hbl hml
    go_enter Try.func31, Try.ntmps31
    go_upto_region 1 with fail
    rw [← HW0.out]
    go_wp2
    go_end0
    exact ⟨rfl, HE.out⟩
theorem lives_at (c : Nat) (z : Bool) (w : World) (h : w.cell? ⟨c, 1, none⟩ = some (.bool z)) :
    Calls Try.prog 40 #[ptr c] w fun e w' => e = .returned (.bool (!z)) ∧ w' = w := by
  go_enter Try.func40, Try.ntmps40
  go_wp2
  go_ret
  exact ⟨rfl, rfl⟩
theorem live_nil (k : Int) (w : World) : Calls Try.prog 19 #[.pointer none, .int .i64 k] w fun e w' => e = .returned (.bool false) ∧ w' = w := by
  go_enter Try.func19, Try.ntmps19
  go_wp2
  go_ret
  exact ⟨rfl, rfl⟩
theorem live_at (B b : Nat) (S : St) (k : Int) (w : World) (h : PrAt w B b S) :
    Calls Try.prog 19 #[ptr b, .int .i64 k] w fun e w' => e = .returned (.bool (liv S k)) ∧ w' = w := by
  obtain ⟨mo, c, h⟩ := h
  have c0 := h.cell
  have hne := eq_procs b
  cases hk : S k with
  | none =>
    have hl := h.look_none hk
    have HL : Hid (liv S k = false) := by show liv S k = false; unfold liv hits; rw [hk]
    clear h hk
    go_enter Try.func19, Try.ntmps19
    go_wp2
    go_ret
    exact ⟨by rw [HL.out]; rfl, rfl⟩
  | some p =>
    have hl := h.look_some hk
    have hv := lives_at (c k) p.zom w (h.cells hk).2.1
    have hn2 := ne_proc (c k)
    have HL : Hid (liv S k = !p.zom) := by show liv S k = !p.zom; unfold liv hits; rw [hk]
    clear h hk
    generalize c k = cc at *
    go_enter Try.func19, Try.ntmps19
    go_wp2_with fail
    refine hv.mono ?_
    rintro e w1 ⟨rfl, hw⟩
    rw [hw]
    clear hw w1 hv
    go_wp2
    go_ret
    exact ⟨by rw [HL.out]; rfl, rfl⟩
theorem parent_nil (k : Int) (w : World) : Calls Try.prog 21 #[.pointer none, .int .i64 k] w fun e w' => e = .returned (.int .i64 0) ∧ w' = w := by
  go_enter Try.func21, Try.ntmps21
  go_wp2
  go_ret
  exact ⟨rfl, rfl⟩
theorem parent_at (B b : Nat) (S : St) (k : Int) (w : World) (h : PrAt w B b S) :
    Calls Try.prog 21 #[ptr b, .int .i64 k] w fun e w' => e = .returned (.int .i64 (parI S k)) ∧ w' = w := by
  obtain ⟨mo, c, h⟩ := h
  have c0 := h.cell
  have hne := eq_procs b
  cases hk : S k with
  | none =>
    have hl := h.look_none hk
    have HL : Hid (parI S k = -1) := by show parI S k = -1; unfold parI; rw [hk]
    clear h hk
    go_enter Try.func21, Try.ntmps21
    go_wp2
    go_ret
    exact ⟨by rw [HL.out]; rfl, rfl⟩
  | some p =>
    have hl := h.look_some hk
    have hc := (h.cells hk).1
    have hn2 := eq_proc (c k)
    have HL : Hid (parI S k = p.par) := by show parI S k = p.par; unfold parI; rw [hk]
    clear h hk
    generalize c k = cc at *
    go_enter Try.func21, Try.ntmps21
    go_wp2
    go_ret
    exact ⟨by rw [HL.out]; rfl, rfl⟩
set_option maxHeartbeats 1000000 in
theorem lowestFree_at (B b : Nat) (S : St) (w : World) (h : PrAt w B b S) :
    Calls Try.prog 32 #[ptr b] w fun e w' => e = .returned (.int .i64 (lowI S)) ∧ w' = w := by
  obtain ⟨mo, c, h⟩ := h
  have HH : Hid (PrIs w B b mo c S) := h
  have c0 := h.cell
  clear h
  go_enter Try.func32, Try.ntmps32
  go_wp2
  go_loopw [3] (fun s wr => ∃ k : Int, 1 ≤ k ∧ k ≤ 9 ∧ s = .int .i64 k ∧ lowF S (9 - k).toNat k = lowI S ∧ wr = w) (fun s _ => (9 - intOf s).toNat)
  case atStart => exact ⟨1, by omega, by omega, rfl, rfl, rfl⟩
  case round =>
    obtain ⟨k, hk1, hk9, rfl, hlow, hw⟩ := hrel
    subst hw
    have HLo : Hid (lowF S (9 - k).toNat k = lowI S) := hlow
    clear hlow
    by_cases hlt : k ≤ 8
    · have HN : Hid ((9 - k).toNat = (9 - (k + 1)).toNat + 1) := by show _ = _; omega
      cases hS : S k with
      | none =>
        have hl := HH.out.look_none hS
        have HR : Hid (k = lowI S) := by
          show k = lowI S
          rw [← HLo.out, HN.out]
          show k = (if (S k).isSome = true then lowF S _ (k + 1) else k)
          rw [hS, if_neg (by simp)]
        clear hS
        go_wp2
        go_ret
        exact ⟨by rw [← HR.out]; rfl, rfl⟩
      | some p =>
        have hl := HH.out.look_some hS
        have hn2 := eq_proc (c k)
        have HR : Hid (lowF S (9 - (k + 1)).toNat (k + 1) = lowI S) := by
          show _ = lowI S
          rw [← HLo.out, HN.out]
          show _ = (if (S k).isSome = true then lowF S _ (k + 1) else k)
          rw [hS, if_pos (by simp)]
        clear hS
        generalize c k = cc at *
        go_wp2
        go_roundw
        case rel => exact ⟨k + 1, by omega, by omega, by go_num, HR.out, by first | rfl | trivial⟩
        case measure => simp [intOf]; omega
    · have HR : Hid (lowI S = -1) := by
        show lowI S = -1
        rw [← HLo.out, show (9 - k).toNat = 0 by omega]
        rfl
      go_wp2
      go_ret
      exact ⟨by rw [HR.out]; rfl, rfl⟩
theorem begin_nil (w : World) : Calls Try.prog 9 #[.pointer none] w fun e w' => e = .returned (.int .i64 0) ∧ w' = w := by
  go_enter Try.func9, Try.ntmps9
  go_wp2
  go_ret
  exact ⟨rfl, rfl⟩
theorem fork_nil (k : Int) (w : World) : Calls Try.prog 11 #[.pointer none, .int .i64 k] w fun e w' => e = .returned (.tuple #[.int .i64 0, .int .i64 3]) ∧ w' = w := by
  have hv := live_nil k w
  go_enter Try.func11, Try.ntmps11
  go_wp2_with fail
  refine hv.mono ?_
  rintro e w1 ⟨rfl, hw⟩
  rw [hw]
  clear hw w1 hv
  go_wp2
  go_ret2
  exact ⟨rfl, rfl⟩
set_option maxHeartbeats 1000000 in
theorem fork_at (B b : Nat) (S : St) (k : Int) (w : World) (h : PrAt w B b S) :
    Calls Try.prog 11 #[ptr b, .int .i64 k] w fun e w' => e = .returned (.tuple #[.int .i64 (fkN S k), .int .i64 (fkE S k)]) ∧ PrAt w' B b (fkS S k) ∧ Tch B w w' := by
  have hv := live_at B b S k w h
  cases hk : liv S k with
  | false =>
    have HR : Hid (fkE S k = 3 ∧ fkN S k = 0 ∧ fkS S k = S) := by
      have e : fkE S k = 3 := by unfold fkE; rw [hk, if_neg (by simp)]
      refine ⟨e, ?_, ?_⟩
      · unfold fkN; rw [e, if_neg (by decide)]
      · unfold fkS; rw [e, if_neg (by decide)]
    have HH : Hid (PrAt w B b S) := h
    rw [hk] at hv
    clear h hk
    go_enter Try.func11, Try.ntmps11
    go_wp2_with fail
    refine hv.mono ?_
    rintro e w1 ⟨rfl, hw⟩
    rw [hw]
    clear hw w1 hv
    go_wp2
    go_ret2
    obtain ⟨e1, e2, e3⟩ := HR.out
    exact ⟨by rw [e1, e2]; rfl, by rw [e3]; exact HH.out, Tch.refl _ _⟩
  | true =>
    have hlo := lowestFree_at B b S w h
    rw [hk] at hv
    by_cases hn : lowI S = -1
    · have HR : Hid (fkE S k = 11 ∧ fkN S k = 0 ∧ fkS S k = S) := by
        have e : fkE S k = 11 := by unfold fkE; rw [hk, if_pos rfl, if_pos hn]
        refine ⟨e, ?_, ?_⟩
        · unfold fkN; rw [e, if_neg (by decide)]
        · unfold fkS; rw [e, if_neg (by decide)]
      have HH : Hid (PrAt w B b S) := h
      rw [hn] at hlo
      clear h hk hn
      go_enter Try.func11, Try.ntmps11
      go_wp2_with fail
      refine hv.mono ?_
      rintro e w1 ⟨rfl, hw⟩
      rw [hw]
      clear hw w1 hv
      go_wp2_with fail
      refine hlo.mono ?_
      rintro e w1 ⟨rfl, hw⟩
      rw [hw]
      clear hw w1 hlo
      go_wp2
      go_ret2
      obtain ⟨e1, e2, e3⟩ := HR.out
      exact ⟨by rw [e1, e2]; rfl, by rw [e3]; exact HH.out, Tch.refl _ _⟩
    · obtain ⟨l1, l8, hln⟩ := (low_is S).resolve_left (fun q => hn q.1)
      have hp := put_at B b S (lowI S) ⟨k, false, 0⟩ w h l1 l8 hln
      have HR : Hid (fkE S k = 0 ∧ fkN S k = lowI S ∧ fkS S k = stPut S (lowI S) ⟨k, false, 0⟩) := by
        have e : fkE S k = 0 := by unfold fkE; rw [hk, if_pos rfl, if_neg hn]
        refine ⟨e, ?_, ?_⟩
        · unfold fkN; rw [e, if_pos rfl]
        · unfold fkS; rw [e, if_pos rfl]
      generalize lowI S = lo at *
      have g0 : (lo == -1) = false := beq_false_of_ne hn
      clear h hk hn hln
      go_enter Try.func11, Try.ntmps11
      go_wp2_with fail
      refine hv.mono ?_
      rintro e w1 ⟨rfl, hw⟩
      rw [hw]
      clear hw w1 hv
      go_wp2_with fail
      refine hlo.mono ?_
      rintro e w1 ⟨rfl, hw⟩
      rw [hw]
      clear hw w1 hlo
      go_wp2_with fail
      refine hp.mono ?_
      rintro e w1 ⟨rfl, hA, hT⟩
      have HA : Hid (PrAt w1 B b (stPut S lo ⟨k, false, 0⟩)) := hA
      have HT : Hid (Tch B w w1) := hT
      clear hA hT hp
      go_wp2
      go_ret2
      obtain ⟨e1, e2, e3⟩ := HR.out
      exact ⟨by rw [e1, e2]; rfl, by rw [e3]; exact HA.out, HT.out⟩
end Go.Proofs.Ytfcpcncafopobaa
