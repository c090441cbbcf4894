import Derived.Test.YtinaeifpoljfoaaGreatDoorPlain
import Derived.Maps.Keyed
import Derived.Maps.RangeWalk
import Derived.Carry
set_option linter.all false
set_option maxRecDepth 100000
set_option maxHeartbeats 16000000
namespace Go.Proofs.YtinaeifpoljfoaaGreatDoor
open Go.RowKit Go.ChangeMaps Go.MapKept Go.Maps
namespace Ow
end Ow
namespace Pc
open Ow
structure Ents (es : Array MapEntry) (q : IntKind) (f : Int → Option Value) : Prop where
 key : ∀ (i : Nat) (e : MapEntry), es[i]? = some e → ∃ a, e.key = .int q a ∧ f a = some e.val
 one : ∀ (i j : Nat) (a : Int) (e e' : MapEntry), es[i]? = some e → es[j]? = some e' → e.key = .int q a → e'.key = .int q a → i = j
 all : ∀ a v, f a = some v → ∃ (i : Nat) (e : MapEntry), es[i]? = some e ∧ e.key = .int q a
structure Stm (es : Array MapEntry) (clock : Nat) : Prop where
 old : ∀ x ∈ es.toList, x.born < clock
 nd : (es.toList.map (·.born)).Nodup
theorem Stm.push {es : Array MapEntry} {clock : Nat} (h : Stm es clock) (k v : Value) : Stm (es.push ⟨k, v, clock⟩) (clock + 1) := by
 refine ⟨fun x hx => ?_, ?_⟩
 ·rw [Array.toList_push, List.mem_append, List.mem_singleton] at hx
  rcases hx with hx | rfl
  ·have := h.old x hx; omega
  ·show clock < clock + 1; omega
 ·rw [Array.toList_push, List.map_append]
  refine List.nodup_append.2 ⟨h.nd, by simp, fun a ha b hb e => ?_⟩;obtain ⟨x, hx, rfl⟩ := List.mem_map.1 ha;simp at hb;have := h.old x hx;omega
theorem Stm.modify {es : Array MapEntry} {clock : Nat} (h : Stm es clock) (j : Nat) (k v : Value) : Stm (es.modify j fun (e : MapEntry) => { e with key := k, val := v }) clock := by
 have hm : (es.modify j fun (e : MapEntry) => { e with key := k, val := v }).toList.map (·.born) = es.toList.map (·.born) := by
  apply List.ext_getElem?
  intro i;rw [List.getElem?_map, List.getElem?_map, Array.getElem?_toList, Array.getElem?_toList, Array.getElem?_modify]
  split
  ·cases es[i]? <;> rfl
  ·rfl
 refine ⟨fun x hx => ?_, by rw [hm]; exact h.nd⟩;have h1 : x.born ∈ (es.modify j fun (e : MapEntry) => { e with key := k, val := v }).toList.map (·.born) := List.mem_map.2 ⟨x, hx, rfl⟩;rw [hm] at h1;obtain ⟨y, hy, e⟩ := List.mem_map.1 h1;rw [← e];exact h.old y hy
theorem Stm.sub {es es' : Array MapEntry} {clock : Nat} (h : Stm es clock) (hs : es'.toList.Sublist es.toList) : Stm es' clock :=
 ⟨fun x hx => h.old x (hs.subset hx), (hs.map _).nodup h.nd⟩
def MapIs (w : World) (q : IntKind) (b : Nat) (f : Int → Option Value) : Prop :=
 ∃ es clock, w.heap[b]? = some (.map es clock) ∧ Ents es q f ∧ Stm es clock
theorem MapIs.lt {w : World} {q : IntKind} {b : Nat} {f : Int → Option Value} (h : MapIs w q b f) : b < w.heap.size := by
 obtain ⟨es, c, hb, _, _⟩ := h; exact lt_of_heap hb
theorem MapIs.of_block {w w' : World} {q : IntKind} {b : Nat} {f : Int → Option Value} (h : MapIs w q b f) (e : w'.heap[b]? = w.heap[b]?) : MapIs w' q b f := by
 obtain ⟨es, c, hb, he, hst⟩ := h; exact ⟨es, c, e.trans hb, he, hst⟩
theorem MapIs.made (w : World) (q : IntKind) : MapIs (w.alloc (.map #[] 0)) q w.heap.size (fun _ => none) :=
 ⟨#[], 0, heap_alloc_new _ _, ⟨fun _ _ h => by simp at h, fun _ _ _ _ _ h => by simp at h, fun _ _ h => by cases h⟩, ⟨fun _ h => by simp at h, by simp⟩⟩
theorem Ents.find {P : Program} {w : World} {es : Array MapEntry} {q : IntKind} {f : Int → Option Value} {k : TypeId} (hk : P.underlying k = some (.int q)) (h : Ents es q f) (a : Int) :
  ((Instr.findKey k (.int q a) es.toList).run P w = .ok none w ∧ f a = none) ∨
  ∃ (j : Nat) (e : MapEntry), (Instr.findKey k (.int q a) es.toList).run P w = .ok (some (j, e.val)) w ∧ es[j]? = some e ∧ e.key = .int q a ∧ f a = some e.val := by
 have isK : ∀ x, IsKey (.int q) (.int q x) := fun x => by simp [IsKey]
 have hks : ∀ y ∈ es.toList, IsKey (.int q) y.key := fun y hy => by
  obtain ⟨i, hi⟩ := List.getElem?_of_mem hy;obtain ⟨b, hb, _⟩ := h.key i y (by simpa using hi);rw [hb]; exact isK b
 rcases findNow_spec (isK a) es.toList 0 hks with ⟨h1, h2⟩ | ⟨j, e0, h1, h2, h3⟩
 ·refine Or.inl ⟨run_findKey hk h1, ?_⟩
  cases hf : f a with
  | none => rfl
  | some v =>
   obtain ⟨i, e, he, hkk⟩ := h.all a v hf;exact absurd hkk (h2 e (by rw [← Array.getElem?_toList] at he; exact List.mem_of_getElem? he))
 ·have h2' : es[j]? = some e0 := by rw [← Array.getElem?_toList]; exact h2
  refine Or.inr ⟨j, e0, by simpa using run_findKey hk h1, h2', h3, ?_⟩;obtain ⟨b, hb, hf⟩ := h.key j e0 h2';rw [h3] at hb
  cases hb
  exact hf
theorem heap_setBlock_same {w : World} {b : Nat} (o : Obj) (h : b < w.heap.size) : (setBlock w b o).heap[b]? = some o := by
 simp [setBlock, h]
theorem heap_setBlock_other {w : World} {b k : Nat} (o : Obj) (h : k ≠ b) : (setBlock w b o).heap[k]? = w.heap[k]? := by
 simp [setBlock, Array.getElem?_setIfInBounds]; omega
theorem _root_.Go.Proofs.YtinaeifpoljfoaaGreatDoor.Upd.setBlock (w : World) (b : Nat) (o : Obj) : Upd b w (setBlock w b o) :=
 ⟨rfl, rfl, rfl, by simp [ChangeMaps.setBlock], fun k _ hk => heap_setBlock_other o hk⟩
def fput (f : Int → Option Value) (a : Int) (v : Value) : Int → Option Value := fun x => if x = a then some v else f x
def fdel (f : Int → Option Value) (a : Int) : Int → Option Value := fun x => if x = a then none else f x
theorem MapIs.put {P : Program} {w : World} {q : IntKind} {b : Nat} {f : Int → Option Value} (h : MapIs w q b f) {t k e : TypeId} (ht : P.underlying t = some (.map k e)) (hk : P.underlying k = some (.int q)) (a : Int) (v : Value) :
  ∃ w', (Instr.mapUpdate t (.map (some b)) (.int q a) v).run P w = .ok () w' ∧ MapIs w' q b (fput f a v) ∧ Upd b w w' ∧ w'.heap.size = w.heap.size := by
 have hlt := h.lt;obtain ⟨es, clock, hb, he, hst⟩ := h
 have hc : ∀ em, (Instr.checkKey em 10000 k (.int q a)).run P w = .ok () w := fun em => run_checkKey hk (by simp [IsKey]) em 9999
 have hs : (Instr.keyThatStays (.int q a) (.int q a)).run P w = .ok (.int q a) w := run_keyThatStays (d := .int q) (by simp [IsKey])
 rcases he.find (w := w) hk a with ⟨h1, h2⟩ | ⟨j, e0, h1, h2, h3, h4⟩
 ·refine ⟨setBlock w b (.map (es.push ⟨.int q a, v, clock⟩) (clock + 1)), ?_, ⟨_, _, heap_setBlock_same _ hlt, ?_, ?_⟩, Upd.setBlock _ _ _, by simp [ChangeMaps.setBlock]⟩
  ·simp [Instr.mapUpdate, run_underlying ht, MapKept.run_getObj_map hb, hc, h1, MapKept.run_setObj_map _ hb, Result.andThen, ChangeMaps.setBlock]
  ·have hne : ∀ (i : Nat) (x : MapEntry), es[i]? = some x → x.key ≠ .int q a := by
    intro i x hx e;obtain ⟨c, hc1, hc2⟩ := he.key i x hx;rw [e] at hc1; cases hc1;rw [h2] at hc2; cases hc2
   constructor
   ·intro i x hx
    rw [Array.getElem?_push] at hx
    split at hx
    ·cases hx; exact ⟨a, rfl, by simp [fput]⟩
    ·obtain ⟨c, hc1, hc2⟩ := he.key i x hx
     refine ⟨c, hc1, ?_⟩
     have : c ≠ a := fun e => hne i x hx (by rw [hc1, e])
     simp [fput, this, hc2]
   ·intro i j' c x y hx hy ex ey
    rw [Array.getElem?_push] at hx hy
    split at hx
    ·split at hy
     ·omega
     ·cases hx; cases ex; exact absurd ey (hne j' y hy)
    ·split at hy
     ·cases hy; cases ey; exact absurd ex (hne i x hx)
     ·exact he.one i j' c x y hx hy ex ey
   ·intro c u hu
    by_cases hca : c = a
    ·subst hca; exact ⟨es.size, ⟨.int q c, v, clock⟩, by simp, rfl⟩
    ·simp [fput, hca] at hu
     obtain ⟨i, x, hx, hxk⟩ := he.all c u hu;refine ⟨i, x, ?_, hxk⟩;have : i < es.size := (Array.getElem?_eq_some_iff.1 hx).1;rw [Array.getElem?_push, if_neg (by omega)]; exact hx
  ·exact hst.push _ _
 ·have hj : j < es.size := (Array.getElem?_eq_some_iff.1 h2).1
  refine ⟨setBlock w b (.map (es.modify j fun (e : MapEntry) => { e with key := .int q a, val := v }) clock), ?_, ⟨_, _, heap_setBlock_same _ hlt, ?_, ?_⟩, Upd.setBlock _ _ _, by simp [ChangeMaps.setBlock]⟩
  ·simp [Instr.mapUpdate, run_underlying ht, MapKept.run_getObj_map hb, hc, h1, h2, h3, hs, MapKept.run_setObj_map _ hb, Result.andThen, ChangeMaps.setBlock]
  ·have hg : ∀ (i : Nat) (x : MapEntry), (es.modify j fun (e : MapEntry) => { e with key := .int q a, val := v })[i]? = some x → (i = j ∧ x.key = .int q a ∧ x.val = v) ∨ (i ≠ j ∧ es[i]? = some x) := by
    intro i x hx;rw [Array.getElem?_modify] at hx
    by_cases hij : i = j
    ·subst hij; simp [h2] at hx; subst hx; exact Or.inl ⟨rfl, rfl, rfl⟩
    ·rw [if_neg (fun e => hij e.symm)] at hx; exact Or.inr ⟨hij, hx⟩
   constructor
   ·intro i x hx
    rcases hg i x hx with ⟨rfl, e1, e2⟩ | ⟨hij, hx⟩
    ·exact ⟨a, e1, by simp [fput, e2]⟩
    ·obtain ⟨c, hc1, hc2⟩ := he.key i x hx
     refine ⟨c, hc1, ?_⟩
     have : c ≠ a := fun e => hij (he.one i j a x e0 hx h2 (by rw [hc1, e]) h3)
     simp [fput, this, hc2]
   ·intro i j' c x y hx hy ex ey
    rcases hg i x hx with ⟨hi, e1, e2⟩ | ⟨hij, hx'⟩
    ·rcases hg j' y hy with ⟨hj', e3, e4⟩ | ⟨hij', hy'⟩
     ·rw [hi, hj']
     ·rw [e1] at ex; cases ex; rw [hi]; exact (he.one _ _ _ _ _ h2 hy' h3 ey)
    ·rcases hg j' y hy with ⟨hj', e3, e4⟩ | ⟨hij', hy'⟩
     ·rw [e3] at ey; cases ey; rw [hj']; exact (he.one _ _ _ _ _ hx' h2 ex h3)
     ·exact he.one i j' c x y hx' hy' ex ey
   ·intro c u hu
    by_cases hca : c = a
    ·subst hca; exact ⟨j, { e0 with key := .int q c, val := v }, by simp [Array.getElem?_modify, h2], rfl⟩
    ·simp [fput, hca] at hu
     obtain ⟨i, x, hx, hxk⟩ := he.all c u hu
     have : j ≠ i := fun e => by subst e; rw [h2] at hx; cases hx; rw [h3] at hxk; cases hxk; exact hca rfl
     exact ⟨i, x, by rw [Array.getElem?_modify, if_neg this]; exact hx, hxk⟩
  ·exact hst.modify _ _ _
theorem del_ents {P : Program} {w : World} {q : IntKind} {b : Nat} {f : Int → Option Value} {es : Array MapEntry} {clock : Nat} (hb : w.heap[b]? = some (.map es clock)) (he : Ents es q f) {t k e : TypeId} (ht : P.underlying t = some (.map k e)) (hk : P.underlying k = some (.int q)) (a : Int) (ty : TypeId) :
  ∃ es', (Builtin.delete_ #[t, k] ty #[.map (some b), .int q a]).run P w = .ok (.tuple #[]) (setBlock w b (.map es' clock)) ∧ Ents es' q (fdel f a) ∧ es'.toList.Sublist es.toList ∧ ∀ x ∈ es'.toList, x.key ≠ .int q a := by
 have hc : ∀ em, (Instr.checkKey em 10000 k (.int q a)).run P w = .ok () w := fun em => run_checkKey hk (by simp [IsKey]) em 9999
 rcases he.find (w := w) hk a with ⟨h1, h2⟩ | ⟨j, e0, h1, h2, h3, h4⟩
 ·refine ⟨es, ?_, ?_, List.Sublist.refl _, ?_⟩
  ·simp [Builtin.delete_, run_underlying ht, MapKept.run_getObj_map hb, hc, h1, MapKept.run_setObj_map _ hb, Result.andThen, ChangeMaps.setBlock]
  ·have : fdel f a = f := by
    funext x
    by_cases hx : x = a
    ·simp [fdel, hx, h2]
    ·simp [fdel, hx]
   rw [this]; exact he
  ·intro x hx hxk
   obtain ⟨i, hi⟩ := List.getElem?_of_mem hx;obtain ⟨c, hc1, hc2⟩ := he.key i x (by simpa using hi);rw [hxk] at hc1; cases hc1;rw [h2] at hc2; cases hc2
 ·have hj : j < es.size := (Array.getElem?_eq_some_iff.1 h2).1
  have hsub : (es.eraseIdxIfInBounds j).toList = es.toList.eraseIdx j := by
   unfold Array.eraseIdxIfInBounds;rw [dif_pos hj];simp
  have hg : ∀ (i : Nat), (es.eraseIdxIfInBounds j)[i]? = es[if i < j then i else i + 1]? := by
   intro i;rw [← Array.getElem?_toList, hsub, List.getElem?_eraseIdx]
   split <;> simp
  have hne : ∀ i : Nat, (if i < j then i else i + 1) ≠ j := by intro i; split <;> omega
  refine ⟨es.eraseIdxIfInBounds j, ?_, ?_, by rw [hsub]; exact List.eraseIdx_sublist _ _, ?_⟩
  ·simp [Builtin.delete_, run_underlying ht, MapKept.run_getObj_map hb, hc, h1, MapKept.run_setObj_map _ hb, Result.andThen, ChangeMaps.setBlock]
  ·constructor
   ·intro i x hx
    rw [hg] at hx;obtain ⟨c, hc1, hc2⟩ := he.key _ x hx;refine ⟨c, hc1, ?_⟩
    have : c ≠ a := fun e => hne i (he.one _ j a x e0 hx h2 (by rw [hc1, e]) h3)
    simp [fdel, this, hc2]
   ·intro i j' c x y hx hy ex ey
    rw [hg] at hx hy;have := he.one _ _ c x y hx hy ex ey
    split at this <;> split at this <;> omega
   ·intro c u hu
    by_cases hca : c = a
    ·simp [fdel, hca] at hu
    ·simp [fdel, hca] at hu
     obtain ⟨i, x, hx, hxk⟩ := he.all c u hu
     have hij : j ≠ i := fun e => by subst e; rw [h2] at hx; cases hx; rw [h3] at hxk; cases hxk; exact hca rfl
     refine ⟨if i < j then i else i - 1, x, ?_, hxk⟩;rw [hg]
     have : (if (if i < j then i else i - 1) < j then (if i < j then i else i - 1) else (if i < j then i else i - 1) + 1) = i := by
      by_cases h : i < j
      ·simp [h]
      ·simp only [h, if_false]; rw [if_neg (by omega)]; omega
     rw [this]; exact hx
  ·intro x hx hxk
   obtain ⟨i, hi⟩ := List.getElem?_of_mem hx;rw [Array.getElem?_toList, hg] at hi;exact hne i (he.one _ j a x e0 hi h2 hxk h3)
structure RngIs (w : World) (q : IntKind) (b r : Nat) (f : Int → Option Value) (left : Int → Bool) (n : Nat) : Prop where
 it : ∃ es clock since seen c0, w.heap[b]? = some (.map es clock) ∧ w.heap[r]? = some (.mapIter (some b) since seen c0) ∧ Ents es q f ∧ Stm es clock ∧ (∀ x ∈ es.toList, x.born < since) ∧ since ≤ c0 ∧ since ≤ clock ∧ (leftOf es seen).size = n ∧
  (∀ x ∈ es.toList, ∀ a, x.key = .int q a → left a = !seen.contains x.born)
 dom : ∀ a, left a = true → (f a).isSome = true
theorem RngIs.map {w : World} {q : IntKind} {b r : Nat} {f : Int → Option Value} {left : Int → Bool} {n : Nat} (h : RngIs w q b r f left n) : MapIs w q b f := by
 obtain ⟨es, clock, since, seen, c0, h1, h2, h3, h4, _⟩ := h.it;exact ⟨es, clock, h1, h3, h4⟩
theorem RngIs.ne {w : World} {q : IntKind} {b r : Nat} {f : Int → Option Value} {left : Int → Bool} {n : Nat} (h : RngIs w q b r f left n) : r ≠ b := by
 obtain ⟨es, clock, since, seen, c0, h1, h2, _⟩ := h.it;intro e;rw [e, h1] at h2
 cases h2
theorem RngIs.lt {w : World} {q : IntKind} {b r : Nat} {f : Int → Option Value} {left : Int → Bool} {n : Nat} (h : RngIs w q b r f left n) : r < w.heap.size := by
 obtain ⟨es, clock, since, seen, c0, h1, h2, _⟩ := h.it;exact lt_of_heap h2
theorem RngIs.of_blocks {w w' : World} {q : IntKind} {b r : Nat} {f : Int → Option Value} {left : Int → Bool} {n : Nat} (h : RngIs w q b r f left n) (e1 : w'.heap[b]? = w.heap[b]?) (e2 : w'.heap[r]? = w.heap[r]?) : RngIs w' q b r f left n := by
 obtain ⟨es, clock, since, seen, c0, h1, h2, h3⟩ := h.it;exact ⟨⟨es, clock, since, seen, c0, e1.trans h1, e2.trans h2, h3⟩, h.dom⟩
theorem MapIs.range {P : Program} {w : World} {q : IntKind} {b : Nat} {f : Int → Option Value} (h : MapIs w q b f) {t k e : TypeId} (ht : P.underlying t = some (.map k e)) :
  ∃ w' n, (Instr.range t (.map (some b))).run P w = .ok (.pointer (some ⟨w.heap.size, 0, none⟩)) w' ∧ RngIs w' q b w.heap.size f (fun a => (f a).isSome) n ∧ Below w.heap.size w w' ∧ w'.heap.size = w.heap.size + 1 := by
 have hlt := h.lt;obtain ⟨es, clock, hb, he, hst⟩ := h;have hbl : Below w.heap.size w (w.alloc (.mapIter (some b) clock #[] clock)) := (Below.refl _ _).alloc (Nat.le_refl _) _
 refine ⟨_, _, run_range_map w t k e b es clock ht hb, ⟨⟨es, clock, clock, #[], clock, (hbl.block _ hlt).trans hb, heap_alloc_new _ _, he, hst, hst.old, Nat.le_refl _, Nat.le_refl _, rfl, ?_⟩, fun a h => h⟩, hbl, by simp⟩
 intro x hx a hxa;obtain ⟨i, hi⟩ := List.getElem?_of_mem hx;obtain ⟨c, hc1, hc2⟩ := he.key i x (by simpa using hi);rw [hxa] at hc1; cases hc1;rw [hc2];simp
theorem RngIs.next {P : Program} {w : World} {q : IntKind} {b r : Nat} {f : Int → Option Value} {left : Int → Bool} {n : Nat} (h : RngIs w q b r f left n) (ty : TypeId) :
  (n = 0 ∧ (∀ a, left a = false) ∧ (Instr.next (.pointer (some ⟨r, 0, none⟩)) false ty).run P w = .ok (.tuple #[.bool false]) w) ∨
  ∃ a v w' n', left a = true ∧ f a = some v ∧ (Instr.next (.pointer (some ⟨r, 0, none⟩)) false ty).run P w = .ok (.tuple #[.bool true, .int q a, v]) w' ∧ RngIs w' q b r f (fun x => left x && x != a) n' ∧ n' < n ∧ Upd r w w' ∧ w'.heap.size = w.heap.size ∧
   (Instr.entry (.pointer (some ⟨r, 0, none⟩))).run P w' = .ok (.tuple #[.int q a, v]) w' := by
 have hne := h.ne;have hrl := h.lt;obtain ⟨es, clock, since, seen, c0, hb, hr, he, hst, hold, hsc, hsk, hn, hl⟩ := h.it
 rcases run_next_at (P := P) w ty r b since c0 seen es clock hr hb hold hsc with ⟨h0, hrun⟩ | ⟨e, hem0, w1, hal, hrun⟩
 ·refine Or.inl ⟨by omega, fun a => ?_, hrun⟩
  cases hk : left a with
  | false => rfl
  | true =>
   have hd := h.dom a hk;obtain ⟨v, hv⟩ := Option.isSome_iff_exists.1 hd;obtain ⟨i, x, hx, hxk⟩ := he.all a v hv
   have hm : x ∈ es.toList := by rw [← Array.getElem?_toList] at hx; exact List.mem_of_getElem? hx
   have h1 := hl x hm a hxk;rw [all_seen es seen h0 x hm] at h1;rw [h1] at hk
   cases hk
 ·obtain ⟨hem, hes⟩ := mem_left hem0
  obtain ⟨i, hi⟩ := List.getElem?_of_mem hem;obtain ⟨a, ha, hfa⟩ := he.key i e (by simpa using hi)
  have hla : left a = true := by rw [hl e hem a ha, hes]; rfl
  have hr1 : w1.heap[r]? = some (.mapIter (some b) since seen c0) := by rcases hal with rfl | rfl <;> exact hr
  have hb1 : w1.heap[b]? = some (.map es clock) := by rcases hal with rfl | rfl <;> exact hb
  have hs1 : w1.heap.size = w.heap.size := by rcases hal with rfl | rfl <;> rfl
  have hu1 : Upd r w w1 := by
   rcases hal with rfl | rfl
   ·exact Upd.refl _ _
   ·exact Upd.drew _ _
  have hr2 : (setBlock w1 r (.mapIter (some b) since (seen.push e.born) clock)).heap[r]? = some (.mapIter (some b) since (seen.push e.born) clock) := heap_setBlock_same _ (by rw [hs1]; exact hrl);have hb2 : (setBlock w1 r (.mapIter (some b) since (seen.push e.born) clock)).heap[b]? = some (.map es clock) := (heap_setBlock_other _ (fun x => hne x.symm)).trans hb1;refine Or.inr ⟨a, e.val, _, _, hla, hfa, by rw [hrun, ha], ⟨⟨es, clock, since, seen.push e.born, clock, hb2, hr2, he, hst, hold, hsk, hsk, rfl, ?_⟩, fun x hx => ?_⟩, by rw [← hn]; exact left_shrinks es seen e hem0, hu1.trans (Upd.setBlock _ _ _), by simp [ChangeMaps.setBlock, hs1], ?_⟩
  ·intro x hx c hxc
   show (left c && c != a) = _
   rw [hl x hx c hxc]
   have hiff : (c != a) = !(x.born == e.born) := by
    by_cases hca : c = a
    ·subst hca
     obtain ⟨j, hj⟩ := List.getElem?_of_mem hx;have hij := he.one j i c x e (by simpa using hj) (by simpa using hi) hxc ha;subst hij;rw [hi] at hj
     cases hj
     simp
    ·have hb3 : x.born ≠ e.born := fun hbb => by
      have := born_inj hst.nd hx hem hbb;subst this;rw [hxc] at ha
      cases ha
      exact hca rfl
     rw [bne_iff_ne.2 hca, beq_eq_false_iff_ne.2 hb3]
     rfl
   rw [hiff]
   cases hz : (x.born == e.born) <;> simp_all
  ·rw [Bool.and_eq_true] at hx
   exact h.dom x hx.1
  ·rw [← ha]
   exact run_entry_at _ r b since seen es clock e hr2 hb2 hem hst.nd
theorem RngIs.drop {P : Program} {w : World} {q : IntKind} {b r : Nat} {f : Int → Option Value} {left : Int → Bool} {n : Nat} (h : RngIs w q b r f left n) {t k e : TypeId} (ht : P.underlying t = some (.map k e)) (hk : P.underlying k = some (.int q)) (a : Int) (ty : TypeId) :
  ∃ w' n', (Builtin.delete_ #[t, k] ty #[.map (some b), .int q a]).run P w = .ok (.tuple #[]) w' ∧ RngIs w' q b r (fdel f a) (fun x => left x && x != a) n' ∧ n' ≤ n ∧ Upd b w w' ∧ w'.heap.size = w.heap.size := by
 have hlt := h.map.lt;have hne := h.ne;obtain ⟨es, clock, since, seen, c0, hb, hr, he, hst, hold, hsc, hsk, hn, hl⟩ := h.it;obtain ⟨es', h1, h2, h3, h4⟩ := del_ents hb he ht hk a ty;refine ⟨_, _, h1, ⟨⟨es', clock, since, seen, c0, heap_setBlock_same _ hlt, (heap_setBlock_other _ hne).trans hr, h2, hst.sub h3, fun x hx => hold x (h3.subset hx), hsc, hsk, rfl, ?_⟩, fun x hx => ?_⟩, ?_, Upd.setBlock _ _ _, by simp [ChangeMaps.setBlock]⟩
 ·intro x hx c hxc
  have hca : c ≠ a := fun e => h4 x hx (by rw [hxc, e])
  show (left c && c != a) = _
  rw [hl x (h3.subset hx) c hxc, bne_iff_ne.2 hca, Bool.and_true]
 ·simp only [Bool.and_eq_true, bne_iff_ne] at hx
  unfold fdel;rw [if_neg hx.2];exact h.dom x hx.1
 ·rw [← hn]
  have e1 : ∀ z : Array MapEntry, (leftOf z seen).size = (z.toList.filter fun e => !seen.contains e.born).length := fun z => by
   unfold leftOf;rw [← Array.toList_filter, Array.length_toList]
  rw [e1, e1];exact (h3.filter _).length_le
def MapO (w : World) (q : IntKind) (mo : Option Nat) (f : Int → Option Value) : Prop := (mo = none ∧ ∀ a, f a = none) ∨ ∃ b, mo = some b ∧ MapIs w q b f
theorem MapO.look {P : Program} {w : World} {q : IntKind} {mo : Option Nat} {f : Int → Option Value} (h : MapO w q mo f) {t k e : TypeId} (ht : P.underlying t = some (.map k e)) (hk : P.underlying k = some (.int q))
  {z : Value} (hz : (zeroValue e).run P w = .ok z w) (a : Int) :
  (Instr.lookup t (.map mo) (.int q a) false).run P w = .ok ((f a).getD z) w := by
 rcases h with ⟨rfl, hf⟩ | ⟨b, rfl, es, clock, hb, he, hst⟩
 ·have hc : ∀ em, (Instr.checkKey em 10000 k (.int q a)).run P w = .ok () w := fun em => run_checkKey hk (by simp [IsKey]) em 9999
  have he0 : Ents #[] q f := ⟨fun _ _ h => by simp at h, fun _ _ _ _ _ h => by simp at h, fun c v h => by rw [hf c] at h; cases h⟩
  rcases he0.find (w := w) hk a with ⟨h1, h2⟩ | ⟨j, e0, h1, h2, h3, h4⟩
  ·simp [Instr.lookup, run_underlying ht, hz, hf a, hc, h1, Result.andThen]
  ·simp at h2
 ·have hc : ∀ em, (Instr.checkKey em 10000 k (.int q a)).run P w = .ok () w := fun em => run_checkKey hk (by simp [IsKey]) em 9999
  rcases he.find (w := w) hk a with ⟨h1, h2⟩ | ⟨j, e0, h1, h2, h3, h4⟩
  ·simp [Instr.lookup, run_underlying ht, MapKept.run_getObj_map hb, hc, h1, hz, Result.andThen, h2]
  ·simp [Instr.lookup, run_underlying ht, MapKept.run_getObj_map hb, hc, h1, Result.andThen, h4]
theorem MapO.below {w w' : World} {q : IntKind} {mo : Option Nat} {f : Int → Option Value} (h : MapO w q mo f) (hb : Below w.heap.size w w') : MapO w' q mo f := by
 rcases h with ⟨rfl, hf⟩ | ⟨b, rfl, hm⟩
 ·exact Or.inl ⟨rfl, hf⟩
 ·exact Or.inr ⟨b, rfl, hm.of_block (hb.block _ hm.lt)⟩
def RngO (w : World) (q : IntKind) (mo : Option Nat) (r : Nat) (f : Int → Option Value) (left : Int → Bool) (n : Nat) : Prop :=
 (mo = none ∧ (∀ a, f a = none) ∧ (∀ a, left a = false) ∧ n = 0 ∧ ∃ a s b, w.heap[r]? = some (.mapIter none a s b)) ∨ ∃ b, mo = some b ∧ RngIs w q b r f left n
theorem RngO.lt {w : World} {q : IntKind} {mo : Option Nat} {r : Nat} {f : Int → Option Value} {left : Int → Bool} {n : Nat} (h : RngO w q mo r f left n) : r < w.heap.size := by
 rcases h with ⟨_, _, _, _, a, s, b, hr⟩ | ⟨b, _, h⟩
 ·exact lt_of_heap hr
 ·exact h.lt
theorem RngO.map {w : World} {q : IntKind} {mo : Option Nat} {r : Nat} {f : Int → Option Value} {left : Int → Bool} {n : Nat} (h : RngO w q mo r f left n) : MapO w q mo f := by
 rcases h with ⟨h1, h2, _⟩ | ⟨b, e, h⟩
 ·exact Or.inl ⟨h1, h2⟩
 ·exact Or.inr ⟨b, e, h.map⟩
theorem RngO.of_blocks {w w' : World} {q : IntKind} {mo : Option Nat} {r : Nat} {f : Int → Option Value} {left : Int → Bool} {n : Nat} (h : RngO w q mo r f left n) (e1 : ∀ b, mo = some b → w'.heap[b]? = w.heap[b]?) (e2 : w'.heap[r]? = w.heap[r]?) : RngO w' q mo r f left n := by
 rcases h with ⟨h1, h2, h3, h4, a, s, b, hr⟩ | ⟨b, rfl, h⟩
 ·exact Or.inl ⟨h1, h2, h3, h4, a, s, b, e2.trans hr⟩
 ·exact Or.inr ⟨b, rfl, h.of_blocks (e1 b rfl) e2⟩
theorem RngO.mlt {w : World} {q : IntKind} {mo : Option Nat} {r : Nat} {f : Int → Option Value} {left : Int → Bool} {n : Nat} (h : RngO w q mo r f left n) : ∀ b, mo = some b → b < w.heap.size := by
 rcases h with ⟨h1, _⟩ | ⟨b, rfl, h⟩
 ·intro b e; rw [h1] at e; cases e
 ·intro b' e; cases e; exact h.map.lt
theorem MapO.range {P : Program} {w : World} {q : IntKind} {mo : Option Nat} {f : Int → Option Value} (h : MapO w q mo f) {t k e : TypeId} (ht : P.underlying t = some (.map k e)) :
  ∃ w' n, (Instr.range t (.map mo)).run P w = .ok (.pointer (some ⟨w.heap.size, 0, none⟩)) w' ∧ RngO w' q mo w.heap.size f (fun a => (f a).isSome) n ∧ Below w.heap.size w w' ∧ w'.heap.size = w.heap.size + 1 := by
 rcases h with ⟨rfl, hf⟩ | ⟨b, rfl, hm⟩
 ·exact ⟨_, 0, run_range_nilMap w t k e ht, Or.inl ⟨rfl, hf, fun a => by show (f a).isSome = false; rw [hf a]; rfl, rfl, _, _, _, heap_alloc_new _ _⟩, (Below.refl _ _).alloc (Nat.le_refl _) _, by simp⟩
 ·obtain ⟨w', n, h1, h2, h3, h4⟩ := hm.range ht
  exact ⟨w', n, h1, Or.inr ⟨b, rfl, h2⟩, h3, h4⟩
theorem RngO.next {P : Program} {w : World} {q : IntKind} {mo : Option Nat} {r : Nat} {f : Int → Option Value} {left : Int → Bool} {n : Nat} (h : RngO w q mo r f left n) (ty : TypeId) :
  (n = 0 ∧ (∀ a, left a = false) ∧ (Instr.next (.pointer (some ⟨r, 0, none⟩)) false ty).run P w = .ok (.tuple #[.bool false]) w) ∨
  ∃ a v w' n', left a = true ∧ f a = some v ∧ (Instr.next (.pointer (some ⟨r, 0, none⟩)) false ty).run P w = .ok (.tuple #[.bool true, .int q a, v]) w' ∧ RngO w' q mo r f (fun x => left x && x != a) n' ∧ n' < n ∧ Upd r w w' ∧ w'.heap.size = w.heap.size ∧
   (Instr.entry (.pointer (some ⟨r, 0, none⟩))).run P w' = .ok (.tuple #[.int q a, v]) w' := by
 rcases h with ⟨h1, h2, h3, h4, a, s, b, hr⟩ | ⟨b, rfl, h⟩
 ·refine Or.inl ⟨h4, h3, ?_⟩
  simp only [Instr.next, getObj, Sem.run_bind, Sem.run, hr, Result.andThen]
  rfl
 ·rcases h.next (P := P) ty with k | ⟨a, v, w', n', k1, k2, k3, k4, k5, k6, k7, k8⟩
  ·exact Or.inl k
  ·exact Or.inr ⟨a, v, w', n', k1, k2, k3, Or.inr ⟨b, rfl, k4⟩, k5, k6, k7, k8⟩
def mleft (mo : Option Nat) (r : Nat) (w : World) : Nat := match mo with | none => 0 | some b => w.rangeLeft b r
theorem RngO.left_eq {w : World} {q : IntKind} {mo : Option Nat} {r : Nat} {f : Int → Option Value} {left : Int → Bool} {n : Nat} (h : RngO w q mo r f left n) : mleft mo r w = n := by
 rcases h with ⟨rfl, _, _, h4, _⟩ | ⟨b, rfl, h⟩
 ·exact h4.symm
 ·obtain ⟨es, clock, since, seen, c0, hb, hr, he, hst, hold, hsc, hsk, hn, hl⟩ := h.it
  show w.rangeLeft b r = n
  simp only [World.rangeLeft, hb, hr];exact hn
section
variable {P : Program} {w : World} {ops : Array Oper} {rest : List Oper} {o : Oper} {a : Act} {Q : Exit → Act → World → Prop}
theorem wpList_range_o (hg : o.guard = none) (m : Operand) (t k e : TypeId) (hop : o.op = Op.range t m) (ht : P.underlying t = some (.map k e)) (q : IntKind) (mo : Option Nat) (f : Int → Option Value) (hm : a.eval m = .map mo) (h : MapO w q mo f)
  (hK : ∀ w' n, RngO w' q mo w.heap.size f (fun a => (f a).isSome) n → Below w.heap.size w w' → w'.heap.size = w.heap.size + 1 → wpList P ops Q rest (a.put o.dst (.pointer (some ⟨w.heap.size, 0, none⟩))) w') :
  wpList P ops Q (o :: rest) a w := by
 refine wpList_plain hg fun K' hK' => ?_
 obtain ⟨w', n, hrun, r1, r2, r3⟩ := h.range ht;unfold Oper.wp;simp [execOp, hop, hm, hrun, Result.andThen];exact hK' _ _ (hK w' n r1 r2 r3)
theorem wpList_next_o (hg : o.guard = none) (it : Operand) (hop : o.op = Op.next it false) (q : IntKind) (mo : Option Nat) (r : Nat) (f : Int → Option Value) (V : Int → Value) (hV : ∀ x v, f x = some v → v = V x) (left : Int → Bool) (n : Nat)
  (hit : a.eval it = .pointer (some ⟨r, 0, none⟩)) (h : RngO w q mo r f left n)
  (hDone : (∀ x, left x = false) → wpList P ops Q rest (a.put o.dst (.tuple #[.bool false])) w)
  (hMore : ∀ (x : Int) (w' : World) (n' : Nat), left x = true → (f x).isSome = true → RngO w' q mo r f (fun z => left z && z != x) n' → n' < n → Upd r w w' → w'.heap.size = w.heap.size →
    (Instr.entry (.pointer (some ⟨r, 0, none⟩))).run P w' = .ok (.tuple #[.int q x, V x]) w' → wpList P ops Q rest (a.put o.dst (.tuple #[.bool true, .int q x, V x])) w') :
  wpList P ops Q (o :: rest) a w := by
 refine wpList_plain hg fun K' hK' => ?_
 unfold Oper.wp
 rcases h.next (P := P) o.type with ⟨_, h1, h2⟩ | ⟨x, v, w', n', k1, k2, k3, k4, k5, k6, k7, k8⟩
 ·simp [execOp, hop, hit, h2, Result.andThen]
  exact hK' _ _ (hDone h1)
 ·have hv := hV x v k2
  subst hv;simp [execOp, hop, hit, k3, Result.andThen];exact hK' _ _ (hMore x w' n' k1 (by rw [k2]; rfl) k4 k5 k6 k7 k8)
end
end Pc
end Go.Proofs.YtinaeifpoljfoaaGreatDoor
