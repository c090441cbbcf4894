/- InodeRoom: what the law keeps beside the disk: what it has seen, and its list of inodes. -/
import Derived.Test.YtinjllnoonbjmaaLwH
import Derived.Test.YtinjllnoonbjmaaBitL
import Derived.Test.YtinjllnoonbjmaaKinds
import Derived.Lib.MinMax
import Derived.Laws.AppendOwnNone
import Derived.Laws.OwnMore
import Derived.Lib.SmallJoins
namespace Go.Proofs.Ytinjllnoonbjmaa
open Go.ChangeShapes Go.WideShapes Go.ChangeAt Go.RowKit Go.Lib
set_option linter.unusedVariables false

def ivs (zs : List Int) : List Value := zs.map (Value.int .i64)
theorem ivs_len (l : List Int) : (ivs l).length = l.length := by simp [ivs]
theorem ivs_app (l m : List Int) : ivs (l ++ m) = ivs l ++ ivs m := by simp [ivs]
theorem own_upd {w w' : World} {base n sz : Nat} {e : TypeId} {v : Value} {xs : List Value} {P : Nat → Prop} (h : w.ownsRow base e sz v n xs) (hu : UpdP P w w') (hp : ∀ k, P k → k < base) : w'.ownsRow base e sz v n xs := by
  obtain ⟨h1, h⟩ := h
  refine ⟨h1, ?_⟩
  rcases h with h | ⟨g, cap, cur, rfl, hb, hh, q⟩
  · exact Or.inl h
  · exact Or.inr ⟨g, cap, cur, rfl, hb, (hu.block g (lt_of_heap hh) (fun k => by have := hp g k; omega)).trans hh, q⟩
theorem own_low {w w' : World} {base n sz : Nat} {e : TypeId} {v : Value} {xs : List Value} (h : w.ownsRow base e sz v n xs) (hb : Below w.heap.size w w') : w'.ownsRow base e sz v n xs := own_upd (P := fun _ => False) h (UpdP.of_below hb) (fun _ k => k.elim)
theorem upd_of_low {w w' : World} {M : Nat} (h : Below M w w') : UpdP (fun k => M ≤ k) w w' := ⟨h.os, h.tape, h.output, h.size, fun k hk hn => h.block k (by omega)⟩
def zb : Array Value := (List.replicate 100 (Value.bool false)).toArray
theorem zb_eq : zb = (List.replicate 100 (Value.bool false)).toArray := rfl
theorem zb_size : zb.size = 100 := by rw [zb_eq, List.size_toArray, List.length_replicate]
theorem zb_get (j : Nat) (hj : j < 100) : zb[j]? = some (.bool false) := by rw [zb_eq, List.getElem?_toArray, List.getElem?_replicate, if_pos hj]
theorem lit_zb : Try.zeroCells62 = zb := by kernel_rfl
/-- Block p tells what was seen. -/
def SeenAt (w : World) (p : Nat) (f : Nat → Bool) : Prop := ∃ cs, w.heap[p]? = some (.cells cs 62) ∧ cs.size = 100 ∧ ∀ j, j < 100 → cs[j]? = some (.bool (f j))
theorem SeenAt.cell {w : World} {p : Nat} {f : Nat → Bool} (h : SeenAt w p f) (j : Nat) (hj : j < 100) : w.cell? ⟨p, j, none⟩ = some (.bool (f j)) ∧ w.frozen? ⟨p, j, none⟩ = false := by
  obtain ⟨cs, h1, h2, h3⟩ := h
  exact ⟨by rw [cell_of_heap h1]; exact h3 j hj, frozen_of_heap h1⟩
theorem SeenAt.set {w : World} {p : Nat} {f : Nat → Bool} (h : SeenAt w p f) (j : Nat) (hj : j < 100) : SeenAt (w.setCell ⟨p, j, none⟩ (.bool true)) p (fun x => f x || decide (x = j)) := by
  obtain ⟨cs, h1, h2, h3⟩ := h
  refine ⟨cs.setIfInBounds j (.bool true), by rw [setCell_eq_setRow w p _ _ _ _ _ h1, setRow_heap w p _ _ _ _ h1], by simp [h2], fun x hx => ?_⟩
  rw [Array.getElem?_setIfInBounds]
  show _ = some (Value.bool (f x || decide (x = j)))
  by_cases e : j = x
  · rw [if_pos e, if_pos (by omega), decide_eq_true (show x = j from e.symm), Bool.or_true]
  · rw [if_neg e, h3 x hx, decide_eq_false (show ¬ x = j from fun q => e q.symm), Bool.or_false]
theorem SeenAt.congr {w : World} {p : Nat} {f g : Nat → Bool} (h : SeenAt w p f) (hf : ∀ j, f j = g j) : SeenAt w p g := by
  obtain ⟨cs, h1, h2, h3⟩ := h
  exact ⟨cs, h1, h2, fun j hj => by rw [h3 j hj, hf j]⟩
structure RmAt (w wr : World) (B G p : Nat) (F : FS) (m : Nat) (f : Nat → Bool) (v : Value) (L : List Int) : Prop where
  fs : Fs wr B G F m
  seen : SeenAt wr p f
  own : wr.ownsRow (p + 1) 3 1 v L.length (ivs L)
  old : Below w.heap.size w wr
  lo : w.heap.size ≤ B ∧ w.heap.size ≤ G ∧ B < p ∧ G < p
section
variable {w wr w' : World} {B G p m : Nat} {F : FS} {f : Nat → Bool} {v : Value} {L : List Int}
theorem RmAt.bg (h : RmAt w wr B G p F m f v L) {F' : FS} {m' : Nat} (hf : Fs w' B G F' m') (hu : BG B G wr w') : RmAt w w' B G p F' m' f v L := by
  obtain ⟨cs, h1, h2, h3⟩ := h.seen
  refine ⟨hf, ⟨cs, (hu.block p (lt_of_heap h1) (fun k => by have := h.lo; rcases k with e | e <;> omega)).trans h1, h2, h3⟩, own_upd h.own hu (fun k hk => by have := h.lo; rcases hk with e | e <;> omega), h.old.trans (bg_below hu h.lo.1 h.lo.2.1 h.old.size), h.lo⟩
theorem RmAt.below (h : RmAt w wr B G p F m f v L) (hb : Below wr.heap.size wr w') : RmAt w w' B G p F m f v L := by
  obtain ⟨cs, h1, h2, h3⟩ := h.seen
  exact ⟨h.fs.below hb, ⟨cs, (hb.block p (lt_of_heap h1)).trans h1, h2, h3⟩, own_low h.own hb, h.old.trans (hb.mono h.old.size), h.lo⟩
theorem RmAt.mono (h : RmAt w wr B G p F m f v L) {m' : Nat} (hm : m ≤ m') : RmAt w wr B G p F m' f v L := ⟨h.fs.mono hm, h.seen, h.own, h.old, h.lo⟩
theorem RmAt.congr (h : RmAt w wr B G p F m f v L) {g : Nat → Bool} (hf : ∀ j, f j = g j) : RmAt w wr B G p F m g v L := ⟨h.fs, h.seen.congr hf, h.own, h.old, h.lo⟩
theorem RmAt.mark (h : RmAt w wr B G p F m f v L) (j : Nat) (hj : j < 100) : RmAt w (wr.setCell ⟨p, j, none⟩ (.bool true)) B G p F m (fun x => f x || decide (x = j)) v L := by
  have hu : UpdP (fun k => k = p) wr (wr.setCell ⟨p, j, none⟩ (.bool true)) := by
    have h0 := Upd.setCell p j wr (.bool true)
    exact ⟨h0.os, h0.tape, h0.output, h0.size, h0.block⟩
  refine ⟨h.fs.keep hu (by have := h.lo; omega) (by have := h.lo; omega), h.seen.set j hj, own_upd h.own hu (fun k hk => by omega), h.old.trans (hu.below (fun k hk => by have := h.lo; omega) h.old.size), h.lo⟩
theorem RmAt.app (h : RmAt w wr B G p F m f v L) {v' : Value} {x : Int} {w2 : World} (ho : w2.ownsRow (p + 1) 3 1 v' (L.length + 1) (ivs L ++ [.int .i64 x])) (hg : wr.grownBy w2 v.ownBlock) : RmAt w w2 B G p F m f v' (L ++ [x]) := by
  obtain ⟨cs, h1, h2, h3⟩ := h.seen
  have hl := lt_of_heap h1
  have hb : Below (p + 1) wr w2 := below_grown hg (by omega) (ownsRow_low h.own)
  refine ⟨h.fs.keep (upd_of_low hb) (by have := h.lo; omega) (by have := h.lo; omega), ⟨cs, (hb.block p (by omega)).trans h1, h2, h3⟩, ?_, h.old.trans (hb.mono (by have := h.lo; omega)), h.lo⟩
  rw [List.length_append, ivs_app]
  exact ho
end
/-- The inodes 1 to k. -/
def ups (k : Nat) : List Int := (List.range k).map (fun i : Nat => ((i + 1 : Nat) : Int))
theorem ups_len (k : Nat) : (ups k).length = k := by simp [ups]
theorem ups_succ (k : Nat) : ups (k + 1) = ups k ++ [((k + 1 : Nat) : Int)] := by simp [ups, List.range_succ]
theorem ups_get (k j : Nat) (hj : j < k) : (ivs (ups k))[j]? = some (.int .i64 ((j + 1 : Nat) : Int)) := by simp [ivs, ups, hj]
theorem intInfo : (Try.prog.info? 3).map (fun i => (i.zero, i.size, i.bytes)) = some (some (.int .i64 0), 1, 8) := by kernel_rfl
end Go.Proofs.Ytinjllnoonbjmaa
