/- Package fscore over a store: a way through all directories: add, into. -/
import Derived.Test.YtcjpahnlckfgoaaGreatDoorStAB
import Derived.Test.YtcjpahnlckfgoaaGreatDoorFsFG
namespace Go.Proofs.YtcjpahnlckfgoaaGreatDoor
open Go.RowKit
set_option linter.unusedVariables false

/-- A node of a tree. -/
structure Nd where
  path : List UInt8
  dir : Bool
  data : List UInt8
theorem nodeInfo : (Tryz.prog.info? 54).map (fun i => (i.zero, i.size, i.bytes)) = some (some (.agg #[.string ⟨#[]⟩, .bool false, .string ⟨#[]⟩]), 3, 40) := by kernel_rfl
def cellsN : List Nd → List Value
  | [] => []
  | e :: l => tx e.path :: .bool e.dir :: tx e.data :: cellsN l
theorem cellsN_len : ∀ (l : List Nd), (cellsN l).length = l.length * 3
  | [] => rfl
  | e :: l => by simp only [cellsN, List.length_cons, cellsN_len l]; omega
theorem cellsN_app : ∀ (l m : List Nd), cellsN (l ++ m) = cellsN l ++ cellsN m
  | [], m => rfl
  | e :: l, m => by simp only [List.cons_append, cellsN, cellsN_app l m]
theorem cellsN_get : ∀ {l : List Nd} {j : Nat} {e : Nd}, l[j]? = some e → (cellsN l)[3 * j]? = some (tx e.path) ∧ (cellsN l)[3 * j + 1]? = some (.bool e.dir) ∧ (cellsN l)[3 * j + 2]? = some (tx e.data)
  | [], j, e, h => by simp at h
  | x :: l, 0, e, h => by
    simp at h
    subst h
    exact ⟨rfl, rfl, rfl⟩
  | x :: l, j + 1, e, h => by
    have := cellsN_get (l := l) (j := j) (e := e) (by simpa using h)
    rw [show 3 * (j + 1) = 3 * j + 1 + 1 + 1 by omega]
    exact this
abbrev OwD (w : World) (base : Nat) (v : Value) (l : List Nd) : Prop := w.ownsRow base 54 3 v l.length (cellsN l)
/-- Which inodes were seen. -/
def snB (sn : Nat → Bool) : List Value := (List.range 32).map (fun j => Value.bool (sn j))
theorem snB_len (sn : Nat → Bool) : (snB sn).length = 32 := by simp [snB]
def snU (sn : Nat → Bool) (i : Nat) : Nat → Bool := fun j => if j = i then true else sn j
theorem snB_set (sn : Nat → Bool) (i : Nat) (hi : i < 32) : (snB sn).set i (.bool true) = snB (snU sn i) := by
  apply List.ext_getElem?
  intro j
  unfold snB snU
  simp only [List.getElem?_set, List.length_map, List.length_range, List.getElem?_map]
  by_cases e : i = j
  · subst e
    simp [hi]
  · rw [if_neg e]
    by_cases q : j < 32
    · simp [q, Ne.symm e]
    · simp [q]
def lkRow (B : Sto) (sn : Nat → Bool) (v : Value) : Array Value := (sto B :: (snB sn ++ [v])).toArray
theorem lkRow_0 (B : Sto) (sn : Nat → Bool) (v : Value) : (lkRow B sn v)[0]? = some (sto B) := by simp [lkRow]
theorem lkRow_s (B : Sto) (sn : Nat → Bool) (v : Value) (i : Nat) (hi : i < 32) : (lkRow B sn v)[1 + i]? = some (.bool (sn i)) := by
  unfold lkRow
  rw [List.getElem?_toArray, show 1 + i = i + 1 by omega, List.getElem?_cons_succ, List.getElem?_append_left (by rw [snB_len]; exact hi)]
  simp [snB, hi]
theorem lkRow_n (B : Sto) (sn : Nat → Bool) (v : Value) : (lkRow B sn v)[33]? = some v := by
  unfold lkRow
  rw [List.getElem?_toArray, List.getElem?_cons_succ, List.getElem?_append_right (by rw [snB_len]; omega), snB_len]
  rfl
theorem lkRow_see (B : Sto) (sn : Nat → Bool) (v : Value) (i : Nat) (hi : i < 32) : (lkRow B sn v).setIfInBounds (1 + i) (.bool true) = lkRow B (snU sn i) v := by
  unfold lkRow
  apply Array.ext'
  rw [Array.toList_setIfInBounds, show 1 + i = i + 1 by omega]
  simp only [List.set_cons_succ]
  rw [List.set_append_left _ _ (by rw [snB_len]; exact hi), snB_set sn i hi]
theorem lkRow_put (B : Sto) (sn : Nat → Bool) (v u : Value) : (lkRow B sn v).setIfInBounds 33 u = lkRow B sn u := by
  unfold lkRow
  apply Array.ext'
  rw [Array.toList_setIfInBounds]
  simp only [List.set_cons_succ]
  rw [List.set_append_right _ _ (by rw [snB_len]; omega), snB_len]
  rfl
/-- A look: what was seen, what was told. -/
structure LookAt (w : World) (base L : Nat) (B : Sto) (sn : Nat → Bool) (v : Value) (acc : List Nd) : Prop where
  head : w.heap[L]? = some (.cells (lkRow B sn v) 89)
  own : OwD w base v acc
/-- What it may touch. -/
abbrev LU (B : Sto) (base L : Nat) (w w' : World) : Prop := SU B.lo (fun k => k = L ∨ base ≤ k) w w'
/-- Blocks of entries are kept. -/
def Kp (w w' : World) : Prop := ∀ (k : Nat) (cs : Array Value) (fr : Nat × Nat), w.heap[k]? = some (Obj.cells cs 157 fr) → w'.heap[k]? = some (Obj.cells cs 157 fr)
theorem Kp.trans {a b c : World} (h : Kp a b) (k : Kp b c) : Kp a c := fun i cs fr hi => k i cs fr (h i cs fr hi)
theorem Kp.refl (w : World) : Kp w w := fun _ _ _ h => h
theorem Kp.of_below {w w' : World} (h : Below w.heap.size w w') : Kp w w' := fun k cs fr hk => (h.block k (lt_of_heap hk)).trans hk
theorem Kp.of_st {lo : Nat} {w w' : World} (h : ST lo w w') : Kp w w' := fun k cs fr hk => h.other hk (by decide)
theorem Kp.of_upd {g : Nat} {w w' : World} {cs' : Array Value} {t : TypeId} (h : Upd g w w') (hg : w.heap[g]? = some (.cells cs' t)) (ht : t ≠ 157) : Kp w w' := fun k cs fr hk => by
  rw [h.block k (lt_of_heap hk) (fun e => by
    rw [e, hg] at hk
    simp only [Option.some.injEq, Obj.cells.injEq] at hk
    exact ht hk.2.1)]
  exact hk
section
variable {w w' : World} {base L : Nat} {B : Sto} {sn : Nat → Bool} {v : Value} {acc : List Nd}
theorem LookAt.c0 (h : LookAt w base L B sn v acc) : w.cell? ⟨L, 0, none⟩ = some (sto B) := by rw [cell_of_heap h.head]; exact lkRow_0 _ _ _
theorem LookAt.cs (h : LookAt w base L B sn v acc) {i : Nat} (hi : i < 32) : w.cell? ⟨L, 1 + i, none⟩ = some (.bool (sn i)) := by rw [cell_of_heap h.head]; exact lkRow_s _ _ _ i hi
theorem LookAt.cn (h : LookAt w base L B sn v acc) : w.cell? ⟨L, 33, none⟩ = some v := by rw [cell_of_heap h.head]; exact lkRow_n _ _ _
theorem LookAt.fz (h : LookAt w base L B sn v acc) (i : Nat) : w.frozen? ⟨L, i, none⟩ = false := frozen_of_heap h.head
theorem LookAt.below (h : LookAt w base L B sn v acc) (hb : Below w.heap.size w w') : LookAt w' base L B sn v acc := ⟨(hb.block _ (lt_of_heap h.head)).trans h.head, ownsRow_below h.own hb⟩
theorem LookAt.st {lo : Nat} (h : LookAt w base L B sn v acc) (hu : ST lo w w') : LookAt w' base L B sn v acc := ⟨hu.other h.head (by decide), ownsRow_at h.own (fun g hg => by obtain ⟨_, cs, h2⟩ := own_type h.own hg; exact hu.same h2 (by decide))⟩
theorem LookAt.see (h : LookAt w base L B sn v acc) {i : Nat} (hi : i < 32) : LookAt (w.setCell ⟨L, 1 + i, none⟩ (.bool true)) base L B (snU sn i) v acc := by
  refine ⟨?_, ownsRow_at h.own (fun g hg => Below.heap_setCell _ _ _ _ ?_)⟩
  · rw [setCell_eq_setRow w L _ _ _ _ _ h.head, setRow_heap w L _ _ _ _ h.head, lkRow_see B sn v i hi]
  · show g ≠ L
    intro e
    obtain ⟨_, cs, h2⟩ := own_type h.own hg
    rw [e, h.head] at h2
    simp only [Option.some.injEq, Obj.cells.injEq] at h2
    exact absurd h2.2.1 (by decide)
theorem LookAt.grow {w4 w5 : World} {v' : Value} {x : Nd} (h : LookAt w base L B sn v acc) (hL : L < base) (h4 : Below w.heap.size w w4) (hg : w4.grownBy w5 v.ownBlock) (ho : w5.ownsRow base 54 3 v' (acc.length + 1) (cellsN acc ++ [tx x.path, .bool x.dir, tx x.data])) : LookAt (w5.setCell ⟨L, 33, none⟩ v') base L B sn v' (acc ++ [x]) ∧ LU B base L w (w5.setCell ⟨L, 33, none⟩ v') ∧ Kp w (w5.setCell ⟨L, 33, none⟩ v') := by
  have hLl := lt_of_heap h.head
  have hne : v.ownBlock ≠ some L := fun e => by
    obtain ⟨_, cs, h2⟩ := own_type h.own e
    rw [h.head] at h2
    simp only [Option.some.injEq, Obj.cells.injEq] at h2
    exact absurd h2.2.1 (by decide)
  have h5 : w5.heap[L]? = some (.cells (lkRow B sn v) 89) := by
    rw [hg.block L (Nat.lt_of_lt_of_le hLl h4.size) (fun e => hne e.symm), h4.block L hLl]
    exact h.head
  refine ⟨⟨?_, ?_⟩, ⟨hg.os.trans h4.os, hg.tape.trans h4.tape, hg.output.trans h4.output, ?_, fun k hk hs hq => ?_⟩, fun k cs fr hk => ?_⟩
  · rw [setCell_eq_setRow w5 L _ _ _ _ _ h5, setRow_heap w5 L _ _ _ _ h5, lkRow_put]
  · show World.ownsRow _ _ _ _ _ _ _
    rw [List.length_append, cellsN_app]
    refine ownsRow_at ho (fun g hg2 => Below.heap_setCell _ _ _ _ ?_)
    show g ≠ L
    have := (own_type ho hg2).1
    omega
  · have a1 := hg.size
    have a2 := h4.size
    simp only [World.setCell, Array.size_modify]
    omega
  · rw [Below.heap_setCell _ _ _ _ (show k ≠ L from fun e => hq (Or.inl e)), hg.block k (Nat.lt_of_lt_of_le hk h4.size) (fun e => hq (Or.inr (own_type h.own e.symm).1)), h4.block k hk]
  · have hkl := lt_of_heap hk
    have hkL : k ≠ L := fun e => by
      rw [e, h.head] at hk
      simp only [Option.some.injEq, Obj.cells.injEq] at hk
      exact absurd hk.2.1 (by decide)
    rw [Below.heap_setCell _ _ _ _ (show k ≠ L from hkL), hg.block k (Nat.lt_of_lt_of_le hkl h4.size) (fun e => by
      obtain ⟨_, cs', h2⟩ := own_type h.own e.symm
      rw [hk] at h2
      simp only [Option.some.injEq, Obj.cells.injEq] at h2
      exact absurd h2.2.1 (by decide)), h4.block k hkl]
    exact hk
end
/-- What add and into tell. -/
abbrev Seen := Option (List Nd × (Nat → Bool))
def addN (f : (Nat → Bool) → Nat → List UInt8 → Seen) (F : FS) (sn : Nat → Bool) (i : Nat) (q : List UInt8) : Seen :=
  if isD F (i : Int) = true then (if sn i = true then some ([⟨q, true, []⟩], sn) else (f sn i q).map (fun r => (⟨q, true, []⟩ :: r.1, r.2))) else some ([⟨q, false, rdT F (i : Int) 0 192⟩], sn)
def addsN (f : (Nat → Bool) → Nat → List UInt8 → Seen) (F : FS) (p : List UInt8) : (Nat → Bool) → List (List UInt8 × Nat) → Seen
  | sn, [] => some ([], sn)
  | sn, e :: l => (addN f F sn e.2 (p ++ 47 :: e.1)).bind (fun r => (addsN f F p r.2 l).map (fun s => (r.1 ++ s.1, s.2)))
def intoN : Nat → FS → (Nat → Bool) → Nat → List UInt8 → Seen
  | 0, _, _, _, _ => none
  | k + 1, F, sn, i, p => addsN (intoN k F) F p (snU sn i) (srt (prs (dirL F (i : Int))))
/-- The words of one call of add's or into's. -/
def Tell (F : FS) (B : Sto) (base L : Nat) (w : World) (m : Nat) (sn' : Nat → Bool) (acc nodes : List Nd) : Ending → World → Prop := fun e w' =>
  e = .returned (.tuple #[]) ∧ ∃ v', Fs w' B F (m + 12000 * nodes.length) ∧ LookAt w' base L B sn' v' (acc ++ nodes) ∧ LU B base L w w' ∧ Kp w w'
/-- Into, by its fuel. -/
def IntoOk (F : FS) (B : Sto) (base L k : Nat) : Prop :=
  ∀ (sn : Nat → Bool) (i : Nat) (p : List UInt8) (nodes : List Nd) (sn' : Nat → Bool), intoN k F sn i p = some (nodes, sn') → i < 32 → p.length + 9 * k ≤ 1000 → ∀ (w : World) (m : Nat) (v : Value) (acc : List Nd), Fs w B F m → LookAt w base L B sn v acc → base ≤ w.heap.size → acc.length + nodes.length ≤ 5000 → m + 12000 * nodes.length + 12000 ≤ 700000000000 →
    Calls Tryz.prog 45 #[ptr L, .int .i64 (i : Int), tx p] w fun e w' => e = .returned (.tuple #[]) ∧ ∃ v', Fs w' B F (m + 12000 * nodes.length + 6000) ∧ LookAt w' base L B sn' v' (acc ++ nodes) ∧ LU B base L w w' ∧ Kp w w'
end Go.Proofs.YtcjpahnlckfgoaaGreatDoor
