import Derived.Test.YtbhpafgoofkkmaaGreatDoorPlain
import Derived.Maps.Keyed
import Derived.Carry
set_option linter.all false
namespace Go.Proofs.YtbhpafgoofkkmaaGreatDoor
open Go.RowKit Go.ChangeMaps Go.MapKept Go.Maps
structure Ents (es : Array MapEntry) (q : IntKind) (f : Int → Option Value) : Prop where
 key : ∀ (i : Nat) (e : MapEntry), es[i]? = some e → ∃ a, e.key = .int q a ∧ f a = some e.val
 one : ∀ (i j : Nat) (a : Int) (e e' : MapEntry), es[i]? = some e → es[j]? = some e' → e.key = .int q a → e'.key = .int q a → i = j
 all : ∀ a v, f a = some v → ∃ (i : Nat) (e : MapEntry), es[i]? = some e ∧ e.key = .int q a
def MapIs (w : World) (q : IntKind) (b : Nat) (f : Int → Option Value) : Prop :=
 ∃ es clock, w.heap[b]? = some (.map es clock) ∧ Ents es q f
theorem MapIs.lt {w : World} {q : IntKind} {b : Nat} {f : Int → Option Value} (h : MapIs w q b f) : b < w.heap.size := by
 obtain ⟨es, c, hb, _⟩ := h; exact lt_of_heap hb
theorem MapIs.of_block {w w' : World} {q : IntKind} {b : Nat} {f : Int → Option Value} (h : MapIs w q b f) (e : w'.heap[b]? = w.heap[b]?) : MapIs w' q b f := by
 obtain ⟨es, c, hb, he⟩ := h; exact ⟨es, c, e.trans hb, he⟩
theorem MapIs.made (w : World) (q : IntKind) : MapIs (w.alloc (.map #[] 0)) q w.heap.size (fun _ => none) :=
 ⟨#[], 0, heap_alloc_new _ _, fun _ _ h => by simp at h, fun _ _ _ _ _ h => by simp at h, fun _ _ h => by cases h⟩
theorem Ents.find {P : Program} {w : World} {es : Array MapEntry} {q : IntKind} {f : Int → Option Value} {k : TypeId} (hk : P.underlying k = some (.int q)) (h : Ents es q f) (a : Int) :
  ((Instr.findKey k (.int q a) es.toList).run P w = .ok none w ∧ f a = none) ∨
  ∃ (j : Nat) (e : MapEntry), (Instr.findKey k (.int q a) es.toList).run P w = .ok (some (j, e.val)) w ∧ es[j]? = some e ∧ e.key = .int q a ∧ f a = some e.val := by
 have isK : ∀ x, IsKey (.int q) (.int q x) := fun x => by simp [IsKey]
 have hks : ∀ y ∈ es.toList, IsKey (.int q) y.key := fun y hy => by
  obtain ⟨i, hi⟩ := List.getElem?_of_mem hy
  obtain ⟨b, hb, _⟩ := h.key i y (by simpa using hi)
  rw [hb]; exact isK b
 rcases findNow_spec (isK a) es.toList 0 hks with ⟨h1, h2⟩ | ⟨j, e0, h1, h2, h3⟩
 ·refine Or.inl ⟨run_findKey hk h1, ?_⟩
  cases hf : f a with
  | none => rfl
  | some v =>
   obtain ⟨i, e, he, hkk⟩ := h.all a v hf
   exact absurd hkk (h2 e (by rw [← Array.getElem?_toList] at he; exact List.mem_of_getElem? he))
 ·have h2' : es[j]? = some e0 := by rw [← Array.getElem?_toList]; exact h2
  refine Or.inr ⟨j, e0, by simpa using run_findKey hk h1, h2', h3, ?_⟩
  obtain ⟨b, hb, hf⟩ := h.key j e0 h2'
  rw [h3] at hb
  cases hb
  exact hf
theorem MapIs.look {P : Program} {w : World} {q : IntKind} {b : Nat} {f : Int → Option Value} (h : MapIs w q b f) {t k e : TypeId} (ht : P.underlying t = some (.map k e)) (hk : P.underlying k = some (.int q))
  {z : Value} (hz : (zeroValue e).run P w = .ok z w) (a : Int) :
  (Instr.lookup t (.map (some b)) (.int q a) true).run P w = .ok (.tuple #[(f a).getD z, .bool (f a).isSome]) w := by
 obtain ⟨es, clock, hb, he⟩ := h
 have hc : ∀ em, (Instr.checkKey em 10000 k (.int q a)).run P w = .ok () w := fun em => run_checkKey hk (by simp [IsKey]) em 9999
 rcases he.find (w := w) hk a with ⟨h1, h2⟩ | ⟨j, e0, h1, h2, h3, h4⟩
 ·simp [Instr.lookup, run_underlying ht, MapKept.run_getObj_map hb, hc, h1, hz, Result.andThen, h2]
 ·simp [Instr.lookup, run_underlying ht, MapKept.run_getObj_map hb, hc, h1, Result.andThen, h4]
theorem heap_setBlock_same {w : World} {b : Nat} (o : Obj) (h : b < w.heap.size) : (setBlock w b o).heap[b]? = some o := by
 simp [setBlock, h]
theorem heap_setBlock_other {w : World} {b k : Nat} (o : Obj) (h : k ≠ b) : (setBlock w b o).heap[k]? = w.heap[k]? := by
 simp [setBlock, Array.getElem?_setIfInBounds]; omega
theorem Upd.setBlock (w : World) (b : Nat) (o : Obj) : Upd b w (setBlock w b o) :=
 ⟨rfl, rfl, rfl, by simp [ChangeMaps.setBlock], fun k _ hk => heap_setBlock_other o hk⟩
def fput (f : Int → Option Value) (a : Int) (v : Value) : Int → Option Value := fun x => if x = a then some v else f x
def fdel (f : Int → Option Value) (a : Int) : Int → Option Value := fun x => if x = a then none else f x
theorem MapIs.put {P : Program} {w : World} {q : IntKind} {b : Nat} {f : Int → Option Value} (h : MapIs w q b f) {t k e : TypeId} (ht : P.underlying t = some (.map k e)) (hk : P.underlying k = some (.int q)) (a : Int) (v : Value) :
  ∃ w', (Instr.mapUpdate t (.map (some b)) (.int q a) v).run P w = .ok () w' ∧ MapIs w' q b (fput f a v) ∧ Upd b w w' ∧ w'.heap.size = w.heap.size := by
 have hlt := h.lt
 obtain ⟨es, clock, hb, he⟩ := h
 have hc : ∀ em, (Instr.checkKey em 10000 k (.int q a)).run P w = .ok () w := fun em => run_checkKey hk (by simp [IsKey]) em 9999
 have hs : (Instr.keyThatStays (.int q a) (.int q a)).run P w = .ok (.int q a) w := run_keyThatStays (d := .int q) (by simp [IsKey])
 rcases he.find (w := w) hk a with ⟨h1, h2⟩ | ⟨j, e0, h1, h2, h3, h4⟩
 ·refine ⟨setBlock w b (.map (es.push ⟨.int q a, v, clock⟩) (clock + 1)), ?_, ⟨_, _, heap_setBlock_same _ hlt, ?_⟩, Upd.setBlock _ _ _, by simp [ChangeMaps.setBlock]⟩
  ·simp [Instr.mapUpdate, run_underlying ht, MapKept.run_getObj_map hb, hc, h1, MapKept.run_setObj_map _ hb, Result.andThen, ChangeMaps.setBlock]
  ·have hne : ∀ (i : Nat) (x : MapEntry), es[i]? = some x → x.key ≠ .int q a := by
    intro i x hx e
    obtain ⟨c, hc1, hc2⟩ := he.key i x hx
    rw [e] at hc1; cases hc1
    rw [h2] at hc2; cases hc2
   constructor
   ·intro i x hx
    rw [Array.getElem?_push] at hx
    split at hx
    ·cases hx; exact ⟨a, rfl, by simp [fput]⟩
    ·obtain ⟨c, hc1, hc2⟩ := he.key i x hx
     refine ⟨c, hc1, ?_⟩
     have : c ≠ a := fun e => hne i x hx (by rw [hc1, e])
     simp [fput, this, hc2]
   ·intro i j' c x y hx hy ex ey
    rw [Array.getElem?_push] at hx hy
    split at hx
    ·split at hy
     ·omega
     ·cases hx; cases ex; exact absurd ey (hne j' y hy)
    ·split at hy
     ·cases hy; cases ey; exact absurd ex (hne i x hx)
     ·exact he.one i j' c x y hx hy ex ey
   ·intro c u hu
    by_cases hca : c = a
    ·subst hca; exact ⟨es.size, ⟨.int q c, v, clock⟩, by simp, rfl⟩
    ·simp [fput, hca] at hu
     obtain ⟨i, x, hx, hxk⟩ := he.all c u hu
     refine ⟨i, x, ?_, hxk⟩
     have : i < es.size := (Array.getElem?_eq_some_iff.1 hx).1
     rw [Array.getElem?_push, if_neg (by omega)]; exact hx
 ·have hj : j < es.size := (Array.getElem?_eq_some_iff.1 h2).1
  refine ⟨setBlock w b (.map (es.modify j fun (e : MapEntry) => { e with key := .int q a, val := v }) clock), ?_, ⟨_, _, heap_setBlock_same _ hlt, ?_⟩, Upd.setBlock _ _ _, by simp [ChangeMaps.setBlock]⟩
  ·simp [Instr.mapUpdate, run_underlying ht, MapKept.run_getObj_map hb, hc, h1, h2, h3, hs, MapKept.run_setObj_map _ hb, Result.andThen, ChangeMaps.setBlock]
  ·have hg : ∀ (i : Nat) (x : MapEntry), (es.modify j fun (e : MapEntry) => { e with key := .int q a, val := v })[i]? = some x → (i = j ∧ x.key = .int q a ∧ x.val = v) ∨ (i ≠ j ∧ es[i]? = some x) := by
    intro i x hx
    rw [Array.getElem?_modify] at hx
    by_cases hij : i = j
    ·subst hij; simp [h2] at hx; subst hx; exact Or.inl ⟨rfl, rfl, rfl⟩
    ·rw [if_neg (fun e => hij e.symm)] at hx; exact Or.inr ⟨hij, hx⟩
   constructor
   ·intro i x hx
    rcases hg i x hx with ⟨rfl, e1, e2⟩ | ⟨hij, hx⟩
    ·exact ⟨a, e1, by simp [fput, e2]⟩
    ·obtain ⟨c, hc1, hc2⟩ := he.key i x hx
     refine ⟨c, hc1, ?_⟩
     have : c ≠ a := fun e => hij (he.one i j a x e0 hx h2 (by rw [hc1, e]) h3)
     simp [fput, this, hc2]
   ·intro i j' c x y hx hy ex ey
    rcases hg i x hx with ⟨hi, e1, e2⟩ | ⟨hij, hx'⟩
    ·rcases hg j' y hy with ⟨hj', e3, e4⟩ | ⟨hij', hy'⟩
     ·rw [hi, hj']
     ·rw [e1] at ex; cases ex; rw [hi]; exact (he.one _ _ _ _ _ h2 hy' h3 ey)
    ·rcases hg j' y hy with ⟨hj', e3, e4⟩ | ⟨hij', hy'⟩
     ·rw [e3] at ey; cases ey; rw [hj']; exact (he.one _ _ _ _ _ hx' h2 ex h3)
     ·exact he.one i j' c x y hx' hy' ex ey
   ·intro c u hu
    by_cases hca : c = a
    ·subst hca; exact ⟨j, { e0 with key := .int q c, val := v }, by simp [Array.getElem?_modify, h2], rfl⟩
    ·simp [fput, hca] at hu
     obtain ⟨i, x, hx, hxk⟩ := he.all c u hu
     have : j ≠ i := fun e => by subst e; rw [h2] at hx; cases hx; rw [h3] at hxk; cases hxk; exact hca rfl
     exact ⟨i, x, by rw [Array.getElem?_modify, if_neg this]; exact hx, hxk⟩
theorem MapIs.del {P : Program} {w : World} {q : IntKind} {b : Nat} {f : Int → Option Value} (h : MapIs w q b f) {t k e : TypeId} (ht : P.underlying t = some (.map k e)) (hk : P.underlying k = some (.int q)) (a : Int) (ty : TypeId) :
  ∃ w', (Builtin.delete_ #[t, k] ty #[.map (some b), .int q a]).run P w = .ok (.tuple #[]) w' ∧ MapIs w' q b (fdel f a) ∧ Upd b w w' ∧ w'.heap.size = w.heap.size := by
 have hlt := h.lt
 obtain ⟨es, clock, hb, he⟩ := h
 have hc : ∀ em, (Instr.checkKey em 10000 k (.int q a)).run P w = .ok () w := fun em => run_checkKey hk (by simp [IsKey]) em 9999
 rcases he.find (w := w) hk a with ⟨h1, h2⟩ | ⟨j, e0, h1, h2, h3, h4⟩
 ·refine ⟨setBlock w b (.map es clock), ?_, ⟨_, _, heap_setBlock_same _ hlt, ?_⟩, Upd.setBlock _ _ _, by simp [ChangeMaps.setBlock]⟩
  ·simp [Builtin.delete_, run_underlying ht, MapKept.run_getObj_map hb, hc, h1, MapKept.run_setObj_map _ hb, Result.andThen, ChangeMaps.setBlock]
  ·have : fdel f a = f := by
    funext x
    by_cases hx : x = a
    ·simp [fdel, hx, h2]
    ·simp [fdel, hx]
   rw [this]; exact he
 ·have hj : j < es.size := (Array.getElem?_eq_some_iff.1 h2).1
  refine ⟨setBlock w b (.map (es.eraseIdxIfInBounds j) clock), ?_, ⟨_, _, heap_setBlock_same _ hlt, ?_⟩, Upd.setBlock _ _ _, by simp [ChangeMaps.setBlock]⟩
  ·simp [Builtin.delete_, run_underlying ht, MapKept.run_getObj_map hb, hc, h1, MapKept.run_setObj_map _ hb, Result.andThen, ChangeMaps.setBlock]
  ·have hsub : (es.eraseIdxIfInBounds j).toList = es.toList.eraseIdx j := by
    unfold Array.eraseIdxIfInBounds
    rw [dif_pos hj]
    simp
   have hg : ∀ (i : Nat), (es.eraseIdxIfInBounds j)[i]? = es[if i < j then i else i + 1]? := by
    intro i
    rw [← Array.getElem?_toList, hsub, List.getElem?_eraseIdx]
    split <;> simp
   have hne : ∀ i : Nat, (if i < j then i else i + 1) ≠ j := by intro i; split <;> omega
   constructor
   ·intro i x hx
    rw [hg] at hx
    obtain ⟨c, hc1, hc2⟩ := he.key _ x hx
    refine ⟨c, hc1, ?_⟩
    have : c ≠ a := fun e => hne i (he.one _ j a x e0 hx h2 (by rw [hc1, e]) h3)
    simp [fdel, this, hc2]
   ·intro i j' c x y hx hy ex ey
    rw [hg] at hx hy
    have := he.one _ _ c x y hx hy ex ey
    split at this <;> split at this <;> omega
   ·intro c u hu
    by_cases hca : c = a
    ·simp [fdel, hca] at hu
    ·simp [fdel, hca] at hu
     obtain ⟨i, x, hx, hxk⟩ := he.all c u hu
     have hij : j ≠ i := fun e => by subst e; rw [h2] at hx; cases hx; rw [h3] at hxk; cases hxk; exact hca rfl
     refine ⟨if i < j then i else i - 1, x, ?_, hxk⟩
     rw [hg]
     have : (if (if i < j then i else i - 1) < j then (if i < j then i else i - 1) else (if i < j then i else i - 1) + 1) = i := by
      by_cases h : i < j
      ·simp [h]
      ·simp only [h, if_false]; rw [if_neg (by omega)]; omega
     rw [this]; exact hx
end Go.Proofs.YtbhpafgoofkkmaaGreatDoor
