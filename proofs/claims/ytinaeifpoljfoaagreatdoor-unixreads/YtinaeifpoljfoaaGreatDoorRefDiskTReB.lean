import Derived.Test.YtinaeifpoljfoaaGreatDoorKinds
import Derived.Test.YtinaeifpoljfoaaGreatDoorInoYTMkA
import Derived.ChangeOld
import Derived.Below
set_option linter.all false
set_option maxRecDepth 100000
set_option maxHeartbeats 16000000
namespace Go.Proofs.YtinaeifpoljfoaaGreatDoor
open Go.RowKit
namespace Di
theorem _root_.Go.Proofs.YtinaeifpoljfoaaGreatDoor.URow.cell {M g n cap : Nat} {w : World} {xs : List Int} (h : URow M w (.slice (some ⟨g, 0, none⟩) n cap) xs) (j : Nat) (hj : j < xs.length) : w.cell? ⟨g, j, none⟩ = some (.int .u64 (xs.getD j 0)) := by
 obtain ⟨a, c, e, _, _, hf⟩ := h;obtain ⟨g', cur, e2, _, hh, hc⟩ := hf (by intro e; rw [e] at hj; simp at hj);simp only [Value.slice.injEq] at e;obtain ⟨e3, _⟩ := e;rw [← e3] at e2;simp only [Option.some.injEq, Addr.mk.injEq] at e2;obtain ⟨rfl, _⟩ := e2;rw [cell_of_heap hh];exact hc j _ (by simp [hj])
theorem make_page (w : World) :
  (Instr.makeSlice 22 (.int .i64 32) (.int .i64 32)).run Tryz.prog w = .ok (.slice (some ⟨w.heap.size, 0, none⟩) 32 32) (w.alloc (.cells (zrow 32) 45)) :=
 run_make_flat 22 45 (.int .u64 0) (.int .u64 0) 1 8 Tryz.underlying22 wordInfo rfl (by omega) .i64 .i64 32 (by omega) (by omega) w
section
variable {w W W' : World} {p1 : Bool} {b1 n1 v1 : Int} {p2 : Bool} {b2 n2 v2 : Int} {vs : List Int} {gt pt : Nat}
end
structure RefAt (w : World) (bx gx cap n : Nat) (vs : List Int) (gt pt : Nat) : Prop where
 head : w.heap[bx]? = some (.cells #[.slice (some ⟨gx, 0, none⟩) n cap, .int .i64 gt, .int .i64 pt] 175)
 tab : ∃ cur, w.heap[gx]? = some (.cells cur 22 (0, 0)) ∧ ∀ i, i < n → ∃ r c row, cur[i]? = some (.slice (some ⟨r, 0, none⟩) 32 c) ∧ w.heap[r]? = some (.cells row 45 (0, 0)) ∧ bx < r ∧ r ≠ gx ∧
  ∀ (j : Nat) (x : Int), (frameOf vs i)[j]? = some x → row[j]? = some (.int .u64 x)
 len : vs.length = n * 32
 low : bx < gx
theorem info46 : (Tryz.prog.info? 22).map (fun i => (i.zero, i.size, i.bytes)) = some (some (.slice none 0 0), 1, 24) := by kernel_rfl
def rsl (r : Nat) : Value := .slice (some ⟨r, 0, none⟩) 32 32
structure Making (w : World) (bx k : Nat) (v : Value) (rs : List Nat) : Prop where
 head : w.heap[bx]? = some (.cells #[v, .int .i64 ((0 : Nat) : Int), .int .i64 ((0 : Nat) : Int)] 175)
 own : w.ownsRow (bx + 1) 22 1 v k (rs.map rsl)
 len : rs.length = k
 row : ∀ i, i < k → w.heap[rs.getD i 0]? = some (.cells (zrow 32) 45)
 inj : ∀ i j, i < k → j < k → rs.getD i 0 = rs.getD j 0 → i = j
 far : ∀ i, i < k → bx < rs.getD i 0 ∧ v.ownBlock ≠ some (rs.getD i 0)
 at_ : ∀ g, v.ownBlock = some g → g < w.heap.size
theorem Making.start (w : World) (t : TypeId) : Making (w.alloc (.cells #[.slice none 0 0, .int .i64 ((0 : Nat) : Int), .int .i64 ((0 : Nat) : Int)] 175)) w.heap.size 0 (.slice none 0 0) [] :=
 ⟨heap_alloc_new _ _, World.ownsRow_nil _ _ _ _, rfl, fun _ h => by omega, fun _ _ h => by omega, fun _ h => by omega, fun g h => by simp [Value.ownBlock] at h⟩
theorem Making.step {wr w1 : World} {bx k gg cap : Nat} {v : Value} {rs : List Nat} (hm : Making wr bx k v rs) (sl : Array Value) (hsl : sl = #[rsl wr.heap.size])
  (hown1 : w1.ownsRow (bx + 1) 22 1 (.slice (some ⟨gg, 0, none⟩) (k + 1) cap) (k + 1) (rs.map rsl ++ [rsl wr.heap.size]))
  (hgrow : ((wr.alloc (.cells (zrow 32) 45)).alloc (.cells sl 22)).drew.grownBy w1 v.ownBlock)
  (hat : v.ownBlock = some gg ∨ gg = wr.heap.size + 1 + 1) (hlt : gg < w1.heap.size) (hne : v.ownBlock ≠ some bx) :
  Making (w1.setCell ⟨bx, 0, none⟩ (.slice (some ⟨gg, 0, none⟩) (k + 1) cap)) bx (k + 1) (.slice (some ⟨gg, 0, none⟩) (k + 1) cap) (rs ++ [wr.heap.size]) ∧
   Below bx wr (w1.setCell ⟨bx, 0, none⟩ (.slice (some ⟨gg, 0, none⟩) (k + 1) cap)) := by
 have hbx := lt_of_heap hm.head
 have hgsz : wr.heap.size + 1 + 1 ≤ w1.heap.size := by have := hgrow.size; simpa using this
 have hown0 := hm.own
 have hvlow : ∀ g, v.ownBlock = some g → bx < g := by
  intro g e
  rcases hown0.2 with ⟨e2, _⟩ | ⟨g', cap', cur, e2, hg, _⟩
  ·rw [e2] at e; simp [Value.ownBlock] at e
  ·rw [e2] at e; simp [Value.ownBlock] at e; omega
 have hgg : bx < gg := by
  rcases hat with e | e
  ·exact hvlow gg e
  ·omega
 have old : ∀ j, j < wr.heap.size → v.ownBlock ≠ some j → w1.heap[j]? = wr.heap[j]? := by
  intro j hj hn;rw [hgrow.block j (by show j < ((wr.alloc _).alloc _).heap.size; simp; omega) (fun e => hn e.symm)]
  show ((wr.alloc _).alloc _).heap[j]? = _
  rw [Below.heap_alloc _ _ _ (by simp; omega), Below.heap_alloc _ _ _ hj]
 have hvnew : v.ownBlock ≠ some wr.heap.size := by
  intro e;have := hm.at_ _ e;omega
 have new : w1.heap[wr.heap.size]? = some (.cells (zrow 32) 45) := by
  rw [hgrow.block wr.heap.size (by show wr.heap.size < ((wr.alloc _).alloc _).heap.size; simp; omega) (fun e => hvnew e.symm)]
  show ((wr.alloc _).alloc _).heap[wr.heap.size]? = _
  rw [Below.heap_alloc _ _ _ (by simp), heap_alloc_new]
 have hrlt : ∀ i, i < k → rs.getD i 0 < wr.heap.size := fun i hi => lt_of_heap (hm.row i hi)
 have getl : ∀ i, i < k → (rs ++ [wr.heap.size]).getD i 0 = rs.getD i 0 := by
  intro i hi
  have : i < rs.length := by rw [hm.len]; exact hi
  simp [List.getElem?_append, this]
 have getk : (rs ++ [wr.heap.size]).getD k 0 = wr.heap.size := by
  simp [hm.len]
 have hrow : ∀ i, i < k + 1 → w1.heap[(rs ++ [wr.heap.size]).getD i 0]? = some (.cells (zrow 32) 45) ∧ bx < (rs ++ [wr.heap.size]).getD i 0 ∧ gg ≠ (rs ++ [wr.heap.size]).getD i 0 := by
  intro i hi
  by_cases hik : i < k
  ·rw [getl i hik]
   refine ⟨(old _ (hrlt i hik) (hm.far i hik).2).trans (hm.row i hik), (hm.far i hik).1, ?_⟩
   rcases hat with e | e
   ·intro x; exact (hm.far i hik).2 (by rw [e, x])
   ·have := hrlt i hik; omega
  ·have : i = k := by omega
   subst this;rw [getk];refine ⟨new, hbx, ?_⟩
   rcases hat with e | e
   ·intro x; exact hvnew (by rw [e, x])
   ·omega
 constructor
 ·refine ⟨?_, ?_, by simp [hm.len], fun i hi => ?_, fun i j hi hj e => ?_, fun i hi => ⟨(hrow i hi).2.1, ?_⟩, fun g e => ?_⟩
  ·have hh : w1.heap[bx]? = some (.cells #[v, .int .i64 ((0 : Nat) : Int), .int .i64 ((0 : Nat) : Int)] 175 (0, 0)) := (old bx hbx hne).trans hm.head
   rw [setCell_eq_setRow w1 bx 0 _ _ _ _ hh, setRow_heap w1 bx _ _ _ _ hh]
   rfl
  ·rw [List.map_append]
   exact ownsRow_setCell_below hown1 (by show bx < bx + 1; omega) _
  ·rw [Below.heap_setCell _ _ _ _ (by have := (hrow i hi).2.1; simp only; omega)]
   exact (hrow i hi).1
  ·by_cases hik : i < k
   ·by_cases hjk : j < k
    ·rw [getl i hik, getl j hjk] at e
     exact hm.inj i j hik hjk e
    ·have : j = k := by omega
     subst this;rw [getl i hik, getk] at e;have := hrlt i hik; omega
   ·have : i = k := by omega
    subst this
    by_cases hjk : j < i
    ·rw [getl j hjk, getk] at e
     have := hrlt j hjk; omega
    ·omega
  ·intro e
   simp only [Value.ownBlock, Option.some.injEq] at e;exact (hrow i hi).2.2 e
  ·simp only [Value.ownBlock, Option.some.injEq] at e
   subst e
   simpa [World.setCell] using hlt
 ·have hb1 : Below bx wr w1 := by
   refine ⟨?_, ?_, ?_, by omega, fun j hj => ?_⟩
   ·have := hgrow.os; exact this
   ·have := hgrow.tape; exact this
   ·have := hgrow.output; exact this
   ·exact old j (by omega) (fun e => by have := hvlow j e; omega)
  exact hb1.setCell (p := ⟨bx, 0, none⟩) (Nat.le_refl _) _
theorem rnew_at (n : Int) (w : World) (h1 : 1 ≤ n) (h2 : n ≤ 1024) :
  Calls Tryz.prog 30 #[.int .i64 n] w fun e w' => e = .returned (.pointer (some ⟨w.heap.size, 0, none⟩)) ∧
   (∃ v rs, Making w' w.heap.size n.toNat v rs) ∧ Below w.heap.size w w' := by
 obtain ⟨N, rfl⟩ := nat_of n (by omega);simp only [Int.toNat_natCast];obtain ⟨i0, hi0, hz0, hz1, hz2⟩ := info_parts info46;have hmk := make_page
 have t1 : decide ((N : Int) < 1) = false := by simp; omega
 have t2 : decide (1024 < (N : Int)) = false := by simp; omega
 go_enter Tryz.func30, Tryz.ntmps30
 go_wp2
 go_loopw [4] (fun i wr => ∃ (k : Nat) (v : Value) (rs : List Nat), k ≤ N ∧ i = .int .i64 k ∧ Making wr w.heap.size k v rs ∧ Below w.heap.size w wr) (fun i _ => N - (intOf i).toNat)
 case atStart => exact ⟨0, _, [], Nat.zero_le _, rfl, Making.start _ 0, (Below.refl _ _).alloc (Nat.le_refl _) _⟩
 case round =>
  obtain ⟨k, v, rs, hk, rfl, hm, hb⟩ := hrel
  by_cases hlt : k < N
  ·have hc : wr.cell? ⟨w.heap.size, 0, none⟩ = some v := by rw [cell_of_heap hm.head]; rfl
   have hz : wr.frozen? ⟨w.heap.size, 0, none⟩ = false := frozen_of_heap hm.head;have hl := lt_of_heap hm.head;have hown := hm.own
   have hne : v.ownBlock ≠ some w.heap.size := by
    intro e
    rcases hown.2 with ⟨e2, _⟩ | ⟨g, cap, cur, e2, hg, _⟩
    ·rw [e2] at e; simp [Value.ownBlock] at e
    ·rw [e2] at e; simp [Value.ownBlock] at e; omega
   have HM : Hid _ := hm;have HB : Hid _ := hb;have HZ : Hid _ := hz;clear hm hb
   have hnb : ((wr.alloc (.cells (zrow 32) 45)).alloc (.cells #[.slice (some ⟨wr.heap.size, 0, none⟩) 32 32] 22)).drew.heap[wr.heap.size + 1]? = some (.cells #[.slice (some ⟨wr.heap.size, 0, none⟩) 32 32] 22 (0, 0)) := by
    have := heap_alloc_new (wr.alloc (.cells (zrow 32) 45)) (.cells #[.slice (some ⟨wr.heap.size, 0, none⟩) 32 32] 22);rw [World.size_alloc] at this;exact this
   have HNB : Hid _ := hnb;clear hnb;have hfa := frozen?_alloc_cells;go_wp2
   go_region_law
    ((refine step_append_lies _ (by rfl) _ _ _ (by rfl) (w.heap.size + 1) 22 i0 _ 1 24 Tryz.underlying173 hi0 hz0 hz1 hz2 rfl (by omega) v k (rs.map rsl) (by rfl) (((hown.alloc _).alloc _).drew)
        ⟨wr.heap.size + 1, 0, none⟩ 1 1 [.slice (some ⟨wr.heap.size, 0, none⟩) 32 32] (by rfl) (by rfl) (World.news_of_block (cs := #[.slice (some ⟨wr.heap.size, 0, none⟩) 32 32]) (t := 22) (fr := (0, 0)) HNB.out) (by simp [Value.oneCell'])
        (by omega) (by unfold maxLen; omega) (by omega) (by simp; omega) (wr.heap.size + 1 + 1) (by simp) ?_; intro gg cap w1 hown1 hgrow hat hlt1; have hcw := hgrow.cell_far ⟨w.heap.size, 0, none⟩ (by simp; omega) (Ne.symm hne); have hfw := hgrow.frozen_far ⟨w.heap.size, 0, none⟩ (by simp; omega) (Ne.symm hne)))
   all_goals
    go_wp2;go_roundw
    case rel =>
     obtain ⟨q1, q2⟩ := (HM.out).step _ rfl hown1 hgrow hat hlt1 hne;exact ⟨k + 1, _, _, by omega, by go_num, q1, (HB.out).trans q2⟩
    case measure => simp [intOf]; omega
  ·have : k = N := by omega
   subst this;go_wp2;go_ret;exact ⟨rfl, ⟨v, rs, hm⟩, hb⟩
theorem Making.done {w : World} {bx n : Nat} {v : Value} {rs : List Nat} (hm : Making w bx n v rs) (hn : 0 < n) :
  ∃ gx cap, RefAt w bx gx cap n (List.replicate (n * 32) 0) 0 0 := by
 have hown := hm.own
 rcases hown.2 with ⟨_, e⟩ | ⟨g, cap, cur, hv, hg, hh, hc, _, hcs, ht⟩
 ·omega
 ·refine ⟨g, cap, ⟨?_, ⟨cur, hh, fun i hi => ⟨rs.getD i 0, 32, zrow 32, ?_, hm.row i hi, (hm.far i hi).1, ?_, fun j x hx => ?_⟩⟩, by simp, by omega⟩⟩
  ·rw [hm.head, hv]
  ·have e1 : (cur.toList.take (n * 1))[i]? = (rs.map rsl)[i]? := by rw [ht]
   have hil : i < rs.length := by rw [hm.len]; exact hi
   rw [List.getElem?_take_of_lt (by omega), List.getElem?_map] at e1
   have e2 : rs[i]? = some (rs.getD i 0) := by simp [hil]
   rw [e2] at e1
   simpa [rsl] using e1
  ·have := (hm.far i hi).2
   rw [hv] at this;simp only [Value.ownBlock, ne_eq, Option.some.injEq] at this
   exact fun e => this e.symm
  ·rw [frame_zeros n i hi] at hx
   have hj : j < 32 := by have := (List.getElem?_eq_some_iff.1 hx).1; simpa using this
   rw [List.getElem?_replicate, if_pos hj] at hx;simp only [Option.some.injEq] at hx;subst hx;simp [zrow, hj]
theorem rnew_ref (n : Int) (w : World) (h1 : 1 ≤ n) (h2 : n ≤ 1024) :
  Calls Tryz.prog 30 #[.int .i64 n] w fun e w' => e = .returned (.pointer (some ⟨w.heap.size, 0, none⟩)) ∧
   (∃ gx cap, RefAt w' w.heap.size gx cap n.toNat (List.replicate (n.toNat * 32) 0) 0 0) ∧ Below w.heap.size w w' :=
 (rnew_at n w h1 h2).mono fun e w' ⟨he, ⟨v, rs, hm⟩, hb⟩ => ⟨he, hm.done (by omega), hb⟩
section
variable {w w' : World} {bx gx cap n : Nat} {vs : List Int} {gt pt : Nat}
theorem RefAt.c0 (h : RefAt w bx gx cap n vs gt pt) : w.cell? ⟨bx, 0, none⟩ = some (.slice (some ⟨gx, 0, none⟩) n cap) := by rw [cell_of_heap h.head]; rfl
theorem RefAt.c1 (h : RefAt w bx gx cap n vs gt pt) : w.cell? ⟨bx, 1, none⟩ = some (.int .i64 gt) := by rw [cell_of_heap h.head]; rfl
theorem RefAt.c2 (h : RefAt w bx gx cap n vs gt pt) : w.cell? ⟨bx, 2, none⟩ = some (.int .i64 pt) := by rw [cell_of_heap h.head]; rfl
theorem RefAt.free (h : RefAt w bx gx cap n vs gt pt) (i : Nat) : w.frozen? ⟨bx, i, none⟩ = false := frozen_of_heap h.head
theorem RefAt.glt (h : RefAt w bx gx cap n vs gt pt) : gx < w.heap.size := by obtain ⟨cur, hh, _⟩ := h.tab; exact lt_of_heap hh
theorem RefAt.keep (h : RefAt w bx gx cap n vs gt pt) {P : Nat → Prop} (u : UpdP P w w') (hp : ∀ k, P k → k < bx) : RefAt w' bx gx cap n vs gt pt := by
 obtain ⟨cur, hh, ht⟩ := h.tab;have hlow := h.low;refine ⟨(u.block _ (lt_of_heap h.head) (fun x => by have := hp _ x; omega)).trans h.head, ⟨cur, (u.block _ (lt_of_heap hh) (fun x => by have := hp _ x; omega)).trans hh, fun i hi => ?_⟩, h.len, h.low⟩;obtain ⟨r, c, row, h1, h2, h3, h4⟩ := ht i hi;exact ⟨r, c, row, h1, (u.block _ (lt_of_heap h2) (fun x => by have := hp _ x; omega)).trans h2, h3, h4⟩
theorem RefAt.below (h : RefAt w bx gx cap n vs gt pt) (k : Below w.heap.size w w') : RefAt w' bx gx cap n vs gt pt :=
 h.keep (P := fun _ => False) (UpdP.of_below k) (fun _ x => x.elim)
theorem RefAt.head1 (h : RefAt w bx gx cap n vs gt pt) (gt' pt' : Nat) (hh : w'.heap[bx]? = some (.cells #[.slice (some ⟨gx, 0, none⟩) n cap, .int .i64 gt', .int .i64 pt'] 175)) (u : Upd bx w w') : RefAt w' bx gx cap n vs gt' pt' := by
 obtain ⟨cur, hc, ht⟩ := h.tab;have hlow := h.low;refine ⟨hh, ⟨cur, (u.block _ (lt_of_heap hc) (by omega)).trans hc, fun i hi => ?_⟩, h.len, h.low⟩;obtain ⟨r, c, row, h1, h2, h3, h4⟩ := ht i hi;exact ⟨r, c, row, h1, (u.block _ (lt_of_heap h2) (by omega)).trans h2, h3, h4⟩
theorem RefAt.get1 (h : RefAt w bx gx cap n vs gt pt) : RefAt (w.setCell ⟨bx, 1, none⟩ (.int .i64 ((gt : Int) + 1))) bx gx cap n vs (gt + 1) pt := by
 refine h.head1 (gt + 1) pt ?_ (Upd.setCell _ _ _ _);rw [setCell_eq_setRow w bx 1 _ _ _ _ h.head, setRow_heap w bx _ _ _ _ h.head]
 rfl
theorem RefAt.put1 (h : RefAt w bx gx cap n vs gt pt) : RefAt (w.setCell ⟨bx, 2, none⟩ (.int .i64 ((pt : Int) + 1))) bx gx cap n vs gt (pt + 1) := by
 refine h.head1 gt (pt + 1) ?_ (Upd.setCell _ _ _ _);rw [setCell_eq_setRow w bx 2 _ _ _ _ h.head, setRow_heap w bx _ _ _ _ h.head]
 rfl
theorem RefAt.lay (h : RefAt w bx gx cap n vs gt pt) (f : Nat) (ws : List Int) (gg c : Nat) (row : Array Value) (hf : f < n) (hl : ws.length = 32) (hg : w.heap[gg]? = some (.cells row 45 (0, 0))) (hb : bx < gg) (hne : gg ≠ gx)
  (hw : ∀ (j : Nat) (x : Int), ws[j]? = some x → row[j]? = some (.int .u64 x)) : RefAt (w.setCell ⟨gx, f, none⟩ (.slice (some ⟨gg, 0, none⟩) 32 c)) bx gx cap n (splice vs (f * 32) ws) gt pt := by
 obtain ⟨cur, hc, ht⟩ := h.tab;have hlow := h.low;refine ⟨(Below.heap_setCell _ _ _ _ (by show bx ≠ gx; omega)).trans h.head, ⟨cur.setIfInBounds f (.slice (some ⟨gg, 0, none⟩) 32 c), ?_, fun i hi => ?_⟩, by rw [splice_length _ _ _ (by rw [h.len, hl]; omega), h.len], h.low⟩
 ·rw [setCell_eq_setRow w gx f _ _ _ _ hc, setRow_heap w gx _ _ _ _ hc]
 ·rw [frame_splice vs ws n f i h.len hf hi hl]
  obtain ⟨r, c', row', h1, h2, h3, h4, h5⟩ := ht i hi;have hi' : i < cur.size := (Array.getElem?_eq_some_iff.1 h1).1
  by_cases e : i = f
  ·subst e
   refine ⟨gg, c, row, ?_, (Below.heap_setCell _ _ _ _ hne).trans hg, hb, hne, ?_⟩
   ·simp [hi']
   ·rw [if_pos rfl]; exact hw
  ·refine ⟨r, c', row', ?_, (Below.heap_setCell _ _ _ _ h4).trans h2, h3, h4, ?_⟩
   ·rw [Array.getElem?_setIfInBounds_ne (fun x => e x.symm)]; exact h1
   ·rw [if_neg e]; exact h5
end
theorem rget_at (bx gx cap n : Nat) (vs : List Int) (gt pt : Nat) (f : Int) (w : World) (h : RefAt w bx gx cap n vs gt pt) (h0 : 0 ≤ f) (h1 : f < n) (hgt : gt ≤ 1000000000000) :
  Calls Tryz.prog 191 #[.pointer (some ⟨bx, 0, none⟩), .int .i64 f] w fun e w' => ∃ u, e = .returned (.tuple #[u, .int .i64 0]) ∧
   URow w.heap.size w' u (frameOf vs f.toNat) ∧ RefAt w' bx gx cap n vs (gt + 1) pt ∧ Upd bx w w' := by
 obtain ⟨f, rfl⟩ := nat_of f h0;simp only [Int.toNat_natCast]
 have hfn : f < n := by omega
 obtain ⟨i0, hi0, hzz⟩ := Option.map_eq_some_iff.1 wordInfo;simp only [Prod.mk.injEq] at hzz;obtain ⟨hz0, hz1, hz2⟩ := hzz;have hc0 := h.c0;have hc1 := h.c1;have hfz := h.free 1;have hd0 := h.get1.c0;obtain ⟨cur, hh, ht⟩ := h.get1.tab;obtain ⟨r, c, row, q1, q2, q3, q4, q5⟩ := ht f hfn
 have hd1 : (w.setCell ⟨bx, 1, none⟩ (.int .i64 ((gt : Int) + 1))).cell? ⟨gx, f, none⟩ = some (.slice (some ⟨r, 0, none⟩) 32 c) := by rw [cell_of_heap hh]; exact q1
 have H1 : Hid _ := h.get1
 have HS : Hid ((w.setCell ⟨bx, 1, none⟩ (.int .i64 ((gt : Int) + 1))).heap.size = w.heap.size) := by show _ = _; simp [World.setCell]
 have HL : Hid _ := frameOf_length vs f n h.len hfn
 have hnews : ∀ (j : Nat) (u : Value), (uvs (frameOf vs f))[j]? = some u → (w.setCell ⟨bx, 1, none⟩ (.int .i64 ((gt : Int) + 1))).cell? ((⟨r, 0, none⟩ : Addr).add j) = some u := by
  intro j u hu;obtain ⟨x, hx, rfl⟩ := uvs_get hu;rw [add0, Nat.zero_add, cell_of_heap q2];exact q5 j x hx
 have HN : Hid _ := hnews;have hown := World.ownsRow_nil (w.setCell ⟨bx, 1, none⟩ (.int .i64 ((gt : Int) + 1))) w.heap.size 45 1;have hb := lt_of_heap h.head;clear hnews ht q1 q2 q5 hh
 go_enter Tryz.func191, Tryz.ntmps191
 go_wp2_with (first
   | (at_builtin; refine wpList_append_lies _ rfl _ _ _ rfl w.heap.size 45 i0 _ 1 8 Tryz.underlying22 hi0 hz0 hz1 hz2 rfl (by omega) (.slice none 0 0) 0 [] rfl hown ⟨r, 0, none⟩ 32 c (uvs (frameOf vs f)) rfl (by rw [uvs_len, HL.out])
       HN.out (uvs_one _) (by omega) (by unfold maxLen; omega) (by omega) (by rw [HS.out]; omega) _ rfl ?_; intro gg cap2 w2 hown2 hgrow hat hlt2)
   | go_in)
 go_ret2
 have hbel : Below (w.setCell ⟨bx, 1, none⟩ (.int .i64 ((gt : Int) + 1))).heap.size _ w2 := below_grown hgrow (Nat.le_refl _) (fun g e => by simp [Value.ownBlock] at e);refine ⟨_, rfl, urow_of_own (by rw [HL.out]; simpa using hown2), (H1.out).below hbel, (Upd.setCell _ _ _ _).trans (Upd.of_below hbel)⟩
theorem rput_any (M bx gx cap n : Nat) (vs ws : List Int) (gt pt : Nat) (f : Int) (u : Value) (w : World) (h : RefAt w bx gx cap n vs gt pt) (h0 : 0 ≤ f) (h1 : f < n) (hpt : pt ≤ 1000000000000) (hu : URow M w u ws) (hl : ws.length = 32) :
  Calls Tryz.prog 118 #[.pointer (some ⟨bx, 0, none⟩), .int .i64 f, u] w fun e w' => e = .returned (.int .i64 0) ∧
   RefAt w' bx gx cap n (splice vs (f.toNat * 32) ws) gt (pt + 1) ∧ UpdP (fun k => k = bx ∨ k = gx) w w' := by
 obtain ⟨f, rfl⟩ := nat_of f h0;simp only [Int.toNat_natCast];obtain ⟨i0, hi0, hzz⟩ := Option.map_eq_some_iff.1 wordInfo;simp only [Prod.mk.injEq] at hzz;obtain ⟨hz0, hz1, hz2⟩ := hzz;obtain ⟨a, ucap, rfl, _, _, hf⟩ := hu;obtain ⟨p, cur, rfl, hpM, hh, hcell⟩ := hf (by intro e; rw [e] at hl; simp at hl);rw [hl]
 have hfn : f < n := by omega
 have hc0 := h.c0;have hc2 := h.c2;have hfz := h.free 2;have H1 : Hid _ := h.put1;have hd0 := h.put1.c0;have hlow := h.low;have hbl := lt_of_heap h.head;have hgl := h.glt
 have HS : Hid ((w.setCell ⟨bx, 2, none⟩ (.int .i64 ((pt : Int) + 1))).heap.size = w.heap.size) := by show _ = _; simp [World.setCell]
 have hnews : ∀ (j : Nat) (x : Value), (uvs ws)[j]? = some x → (w.setCell ⟨bx, 2, none⟩ (.int .i64 ((pt : Int) + 1))).drew.cell? ((⟨p, 0, none⟩ : Addr).add j) = some x := by
  intro j x hx;obtain ⟨z, hz, rfl⟩ := uvs_get hx;rw [add0, Nat.zero_add]
  show (w.setCell ⟨bx, 2, none⟩ (.int .i64 ((pt : Int) + 1))).cell? ⟨p, j, none⟩ = _
  rw [World.cell?_of_block (w := w) (a := ⟨p, j, none⟩) (Below.heap_setCell _ _ _ _ (by show p ≠ bx; intro e; subst e; have q := h.head; rw [hh] at q; injection q with q1; injection q1 with _ q2; exact absurd q2 (by decide))), cell_of_heap hh];exact hcell j z hz
 have HN : Hid _ := hnews;have HL : Hid _ := hl;have hown := World.ownsRow_nil (w.setCell ⟨bx, 2, none⟩ (.int .i64 ((pt : Int) + 1))).drew w.heap.size 45 1;obtain ⟨W1, hW1⟩ : ∃ W, W = w.setCell ⟨bx, 2, none⟩ (.int .i64 ((pt : Int) + 1)) := ⟨_, rfl⟩
 have HU1 : Hid (Upd bx w W1) := by rw [hW1]; exact Upd.setCell _ _ _ _
 rw [← hW1] at H1 hd0 HS HN hown;clear hnews hl hcell hh
 go_enter Tryz.func118, Tryz.ntmps118
 go_wp2_with fail
 rw [← hW1];clear hW1 hc0 hc2 hfz h;refine wp_region_held_drew (S := fun w' => w'.cell? ⟨bx, 0, none⟩ = some (.slice (some ⟨gx, 0, none⟩) n cap)) (by kernel_rfl) hd0 (fun hHeld => ?_);refine tkz [0, 1, 2, 3, 4, 5] ?_
 iterate 6
  refine tkq (v := ?_) rfl (Or.inl ⟨by kernel_rfl, ?_⟩) ?_
  rotate_left
  ·(intro w hSw; (try dsimp only at hSw); go_simp) <;> with_reducible rfl
  (try simp only [Act.put, lq])
 refine tkw ?_
 refine rdy 6 rfl fun K hK => ?_
 refine step_append_lies _ (by rfl) _ _ _ (by rfl) w.heap.size 45 i0 _ 1 8 Tryz.underlying22 hi0 hz0 hz1 hz2 rfl (by omega) (.slice none 0 0) 0 [] (by rfl) hown ⟨p, 0, none⟩ 32 ucap (uvs ws) (by rfl) (by rw [uvs_len, HL.out])
    HN.out (uvs_one _) (by omega) (by unfold maxLen; omega) (by omega) (by show w.heap.size ≤ W1.heap.size; rw [HS.out]; omega) _ rfl ?_
 intro gg cap2 w2 hown2 hgrow hat hlt2
 have hbel : Below W1.heap.size W1 w2 := by
  have := below_grown (B := W1.heap.size) hgrow (Nat.le_refl _) (fun g e => by simp [Value.ownBlock] at e);exact ⟨this.os, this.tape, this.output, this.size, this.block⟩
 have hR2 := (H1.out).below hbel;have hc2 := hR2.c0;obtain ⟨curT, hT, hTt⟩ := hR2.tab;obtain ⟨r0, c0, row0, q1, _⟩ := hTt f hfn
 have ht2 : w2.cell? ⟨gx, f, none⟩ = some (.slice (some ⟨r0, 0, none⟩) 32 c0) := by rw [cell_of_heap hT]; exact q1
 have hz2 : w2.frozen? ⟨gx, f, none⟩ = false := frozen_of_heap hT
 have hf3 : (f : Int) < n := by omega
 refine hK.out _ _ hc2 (fun hHeld => ?_);clear hK K
 (try simp only [Act.put, lq])
 refine tkz [7] ?_
 iterate 1
  refine tkq (v := ?_) rfl (Or.inl ⟨by kernel_rfl, ?_⟩) ?_
  rotate_left
  ·(intro w hSw; (try dsimp only at hSw); go_simp) <;> with_reducible rfl
  (try simp only [Act.put, lq])
 refine tkw ?_
 refine rdy 8 rfl fun K hK => ?_
 go_simp;refine hK.out _ _ (by rw [World.cell?_of_block (w := w2) (a := ⟨bx, 0, none⟩) (Below.heap_setCell _ _ _ _ (by show bx ≠ gx; omega))]; exact hc2) (fun hHeld => ?_);clear hK K
 (try simp only [Act.put, lq])
 refine wpAnyH_done (by kernel_rfl) ?_ _;go_wp2;go_ret;have hu2 := urow_of_own (zs := ws) (by rw [HL.out]; simpa using hown2);obtain ⟨a3, c3, e3, _, _, hf4⟩ := hu2;rw [HL.out] at e3;simp only [Value.slice.injEq] at e3;obtain ⟨rfl, _, rfl⟩ := e3;obtain ⟨g4, row4, e4, hg4, hh4, hw4⟩ := hf4 (by intro e; have := HL.out; rw [e] at this; simp at this);simp only [Option.some.injEq, Addr.mk.injEq] at e4;obtain ⟨rfl, _⟩ := e4;refine ⟨rfl, hR2.lay f ws gg cap2 row4 hfn HL.out hh4 (by omega) (by omega) hw4, ?_⟩;exact (((HU1.out).p _ (Or.inl rfl)).trans (UpdP.of_below hbel)).trans ((Upd.setCell gx f _ _).p _ (Or.inr rfl))
end Di
def RefU (M : Nat) (w : World) (bx gx cap n : Nat) (vs : List Int) (gt pt : Nat) : Prop := ∃ wA, Di.RefAt wA bx gx cap n vs gt pt ∧ wA.heap.size ≤ M ∧ Below wA.heap.size wA w
section
variable {w w' : World} {M bx gx cap n gt pt : Nat} {vs : List Int}
theorem RefU.ref (h : RefU M w bx gx cap n vs gt pt) : Di.RefAt w bx gx cap n vs gt pt := by
 obtain ⟨wA, h1, _, h3⟩ := h;exact h1.below h3
theorem RefU.below (h : RefU M w bx gx cap n vs gt pt) (hb : Below M w w') : RefU M w' bx gx cap n vs gt pt := by
 obtain ⟨wA, h1, h2, h3⟩ := h;exact ⟨wA, h1, h2, h3.trans (hb.mono h2)⟩
theorem RefU.upd {g : Nat} (h : RefU M w bx gx cap n vs gt pt) (hu : Upd g w w') (hg : M ≤ g) (hs : M ≤ w.heap.size) : RefU M w' bx gx cap n vs gt pt := h.below (hu.below hg hs)
theorem refU_got (h : Di.RefAt w bx gx cap n vs gt pt) (h' : Di.RefAt w' bx gx cap n vs (gt + 1) pt) (hu : Upd bx w w') : RefU w.heap.size w' bx gx cap n vs (gt + 1) pt := by
 have hA := h.get1
 have hs : (w.setCell ⟨bx, 1, none⟩ (.int .i64 ((gt : Int) + 1))).heap.size = w.heap.size := by simp [World.setCell]
 refine ⟨_, hA, by rw [hs]; exact Nat.le_refl _, ⟨hu.os, hu.tape, hu.output, by rw [hs]; exact hu.size, fun k hk => ?_⟩⟩;rw [hs] at hk
 by_cases e : k = bx
 ·rw [e, h'.head, hA.head]
 ·rw [hu.block k hk e]
  exact (Below.heap_setCell _ _ _ _ e).symm
def Rw (w : World) (g c : Nat) (xs : List Int) : Prop := xs.length = 32 ∧ 32 ≤ c ∧ c ≤ maxLen ∧ ∃ cur, w.heap[g]? = some (.cells cur 45 (0, 0)) ∧ ∀ (j : Nat) (x : Int), xs[j]? = some x → cur[j]? = some (.int .u64 x)
theorem Rw.urow {g c : Nat} {xs : List Int} (h : Rw w g c xs) : URow 0 w (.slice (some ⟨g, 0, none⟩) 32 c) xs := by
 obtain ⟨h1, h2, h3, cur, h4, h5⟩ := h;exact ⟨_, c, by rw [h1], by rw [h1]; exact h2, h3, fun _ => ⟨g, cur, rfl, Nat.zero_le _, h4, h5⟩⟩
theorem rw_of {v : Value} {xs : List Int} (h : URow M w v xs) (hl : xs.length = 32) : ∃ g c, v = .slice (some ⟨g, 0, none⟩) 32 c ∧ M ≤ g ∧ Rw w g c xs := by
 obtain ⟨a, c, e, h1, h2, hf⟩ := h;obtain ⟨g, cur, ea, hm, hh, hc⟩ := hf (by intro e; rw [e] at hl; simp at hl);rw [hl] at e h1;exact ⟨g, c, by rw [e, ea], hm, hl, h1, h2, cur, hh, hc⟩
theorem Rw.cell {g c j : Nat} {xs : List Int} (h : Rw w g c xs) (hj : j < 32) : w.cell? ⟨g, j, none⟩ = some (.int .u64 (xs.getD j 0)) := by
 obtain ⟨h1, _, _, cur, h4, h5⟩ := h;rw [cell_of_heap h4];exact h5 j _ (by rw [List.getD_eq_getElem?_getD, List.getElem?_eq_getElem (by omega)]; rfl)
theorem Rw.free {g c j : Nat} {xs : List Int} (h : Rw w g c xs) : w.frozen? ⟨g, j, none⟩ = false := by
 obtain ⟨h1, _, _, cur, h4, h5⟩ := h;exact frozen_of_heap h4
theorem Rw.lt {g c : Nat} {xs : List Int} (h : Rw w g c xs) : g < w.heap.size := by
 obtain ⟨h1, _, _, cur, h4, h5⟩ := h;exact lt_of_heap h4
theorem Rw.set {g c j : Nat} {xs : List Int} {x : Int} (h : Rw w g c xs) : Rw (w.setCell ⟨g, j, none⟩ (.int .u64 x)) g c (xs.set j x) := by
 obtain ⟨h1, h2, h3, cur, h4, h5⟩ := h;refine ⟨by rw [List.length_set]; exact h1, h2, h3, cur.setIfInBounds j (.int .u64 x), ?_, fun k y hk => ?_⟩
 ·rw [setCell_eq_setRow w g j _ _ _ _ h4, setRow_heap w g _ _ _ _ h4]
 ·by_cases e : k = j
  ·subst e
   have hk' : k < xs.length := by have := (List.getElem?_eq_some_iff.1 hk).1; rwa [List.length_set] at this
   have hc : k < cur.size := (Array.getElem?_eq_some_iff.1 (h5 k _ (List.getElem?_eq_getElem hk'))).1;rw [List.getElem?_set_self hk'] at hk
   cases hk
   simp [hc]
  ·rw [List.getElem?_set_ne (fun q => e q.symm)] at hk
   rw [Array.getElem?_setIfInBounds_ne (fun q => e q.symm)];exact h5 k y hk
theorem Rw.below {g c : Nat} {xs : List Int} (h : Rw w g c xs) (hb : Below w.heap.size w w') : Rw w' g c xs := by
 obtain ⟨h1, h2, h3, cur, h4, h5⟩ := h;exact ⟨h1, h2, h3, cur, (hb.block g (lt_of_heap h4)).trans h4, h5⟩
theorem make_row (W : World) : (Instr.makeSlice 22 (.int .i64 32) (.int .i64 32)).run Tryz.prog W = .ok (.slice (some ⟨W.heap.size, 0, none⟩) 32 32) (W.alloc (.cells zc 45)) := by
 have := Bi.make_words 32 (by omega) W;exact this
theorem rw_new (W : World) : Rw (W.alloc (.cells zc 45)) W.heap.size 32 (List.replicate 32 0) := by
 refine ⟨by simp, by omega, by unfold maxLen; omega, zc, heap_alloc_new _ _, fun j x hx => ?_⟩;unfold zc;have hj := (List.getElem?_eq_some_iff.1 hx).1;rw [urow_get _ _ hj, List.getD_eq_getElem?_getD, hx]
 rfl
theorem rw_row (W : World) (xs : List Int) (hl : xs.length = 32) : Rw (W.alloc (.cells (urow xs) 45)) W.heap.size 32 xs := by
 refine ⟨hl, by omega, by unfold maxLen; omega, urow xs, heap_alloc_new _ _, fun j x hx => ?_⟩;have hj := (List.getElem?_eq_some_iff.1 hx).1;rw [urow_get _ _ hj, List.getD_eq_getElem?_getD, hx]
 rfl
def Rk (w : World) (bx gx cap n : Nat) (vs : List Int) (m : Nat) : Prop := ∃ gt pt, Di.RefAt w bx gx cap n vs gt pt ∧ gt ≤ m ∧ pt ≤ m
theorem Rk.below {m : Nat} (h : Rk w bx gx cap n vs m) (hb : Below w.heap.size w w') : Rk w' bx gx cap n vs m := by
 obtain ⟨gt, pt, h, h1, h2⟩ := h;exact ⟨gt, pt, h.below hb, h1, h2⟩
theorem Rk.mono {m m' : Nat} (h : Rk w bx gx cap n vs m) (hm : m ≤ m') : Rk w bx gx cap n vs m' := by
 obtain ⟨gt, pt, h, h1, h2⟩ := h;exact ⟨gt, pt, h, by omega, by omega⟩
theorem Rk.len {m : Nat} (h : Rk w bx gx cap n vs m) : vs.length = n * 32 := by
 obtain ⟨gt, pt, h, h1, h2⟩ := h;exact h.len
theorem eget_at {m : Nat} (h : Rk w bx gx cap n vs m) (hm : m ≤ 950000000000) (b : Nat) (hb : b < n) :
  Calls Tryz.prog 130 #[ptr bx, .int .i64 (b : Int)] w fun e w' => ∃ g c, e = .returned (.slice (some ⟨g, 0, none⟩) 32 c) ∧ (w.heap.size ≤ g ∧ Rw w' g c (frameOf vs b) ∧ ∃ gt pt, RefU w.heap.size w' bx gx cap n vs gt pt ∧ gt ≤ m + 1 ∧ pt ≤ m + 1) ∧ Upd bx w w' := by
 obtain ⟨gt, pt, h, h1, h2⟩ := h;have hG := Di.rget_at bx gx cap n vs gt pt b w h (by omega) (by omega) (by omega);simp only [Int.toNat_natCast] at hG;have HH := hid h;have HL : Hid _ := frameOf_length vs b n h.len hb;clear h
 go_enter Tryz.func130, Tryz.ntmps130
 go_wp2_with fail
 refine hG.mono ?_;rintro e w1 ⟨u, rfl, hu, hr, hup⟩;obtain ⟨g, c, rfl, hg, hrw⟩ := rw_of hu HL.out;have HE : Hid (w.heap.size ≤ g ∧ Rw w1 g c (frameOf vs b) ∧ RefU w.heap.size w1 bx gx cap n vs (gt + 1) pt ∧ Upd bx w w1) := ⟨hg, hrw, refU_got HH.out hr hup, hup⟩;clear hG hu hr hup hg hrw;go_wp2;go_ret;exact ⟨g, c, rfl, ⟨HE.out.1, HE.out.2.1, gt + 1, pt, HE.out.2.2.1, by omega, by omega⟩, HE.out.2.2.2⟩
theorem eput_at {m g c : Nat} {xs : List Int} (h : Rk w bx gx cap n vs m) (hm : m ≤ 950000000000) (b : Nat) (hb : b < n) (hr : Rw w g c xs) :
  Calls Tryz.prog 118 #[ptr bx, .int .i64 (b : Int), .slice (some ⟨g, 0, none⟩) 32 c] w fun e w' => e = .returned (.int .i64 0) ∧ Rk w' bx gx cap n (splice vs (b * 32) xs) (m + 1) ∧ UpdP (fun k => k = bx ∨ k = gx) w w' := by
 obtain ⟨gt, pt, h, h1, h2⟩ := h;have := Di.rput_any 0 bx gx cap n vs xs gt pt b _ w h (by omega) (by omega) (by omega) hr.urow hr.1;refine this.mono ?_;rintro e w' ⟨he, hr', hu⟩;exact ⟨he, ⟨gt, pt + 1, by simpa using hr', by omega, by omega⟩, hu⟩
end
theorem words_arr : Tryz.prog.underlying 22 = some (.slice (Tryz.prog.elem 22)) := by kernel_rfl
theorem words_e (W : World) : (sizeOf (Tryz.prog.elem 22)).run Tryz.prog W = .ok 1 W := by kernel_rfl
theorem words_l (g c l : Nat) (hl : l < 32) (hc : 32 ≤ c) (W : World) : (Instr.slice 22 (.slice (some ⟨g, 0, none⟩) 32 c) (some (.int .i64 (l : Int))) none none).run Tryz.prog W = .ok (.slice (some ⟨g, l, none⟩) (32 - l) (c - l)) W := by
 rw [run_slice_l W _ _ _ _ words_arr .i64 l (by omega) (by omega), words_e]
 show Result.ok (sliced _ _ _ _ _) W = _
 unfold sliced;simp only [Int.toNat_natCast, Nat.mul_one];rw [if_neg (by omega)];simp [add0]
section
variable {w w' : World} {bx gx cap n m : Nat} {vs : List Int}
theorem Rw.putw {g c i k : Nat} {F xs : List Int} (h : Rw w g c (splice F (i % 3 * 9) (xs.take k))) (hF : F.length = 32) (hx : xs.length = 9) (hk : k < 9) : Rw (w.setCell ⟨g, i % 3 * 9 + k, none⟩ (.int .u64 (xs.getD k 0))) g c (splice F (i % 3 * 9) (xs.take (k + 1))) := by
 have := h.set (j := i % 3 * 9 + k) (x := xs.getD k 0)
 rwa [splice_set (by omega) (by omega)] at this
theorem ePut_at (h : Rk w bx gx cap n vs m) (hm : m ≤ 940000000000) (hn : 13 ≤ n) (i : Nat) (hi : i < 32) (xs : List Int) (hx : xs.length = 9) (hf : ∀ x ∈ xs, Fit x) :
  Calls Tryz.prog 119 #[ptr bx, .int .i64 (i : Int), .agg (irow xs)] w fun e w' => e = .returned (.int .i64 0) ∧ Rk w' bx gx cap n (putW vs i xs) (m + 2) ∧ UpdP (fun k => k = bx ∨ k = gx) w w' := by
 have HLn : Hid (vs.length = n * 32) := h.len
 have HF : Hid (∀ j, j < 9 → Fit (xs.getD j 0)) := fun j hj => hf _ (by
   rw [List.getD_eq_getElem?_getD, List.getElem?_eq_getElem (by omega)]
   exact List.getElem_mem _)
 obtain ⟨X, hX⟩ : ∃ X, X = irow xs := ⟨_, rfl⟩;obtain ⟨W0, hW0⟩ : ∃ W, W = w.alloc (.cells X 233) := ⟨_, rfl⟩
 have hb0 : Below w.heap.size w W0 := by rw [hW0]; exact below_alloc _ _
 have hr0 : W0.heap[w.heap.size]? = some (.cells X 233) := by rw [hW0]; exact heap_alloc_new _ _
 have hA := eget_at (h.below hb0) (by omega) (1 + i / 3) (by omega);have HB0 := hid hb0;have HR0 : Hid _ := hr0;have HW0 : Hid _ := hW0;have HXq := hid hX;have HXl := hid hx
 have HBl : Hid (bx < w.heap.size) := by obtain ⟨_, _, h, _⟩ := h; exact lt_of_heap h.head
 obtain ⟨r, hr⟩ : ∃ r, r = i % 3 := ⟨_, rfl⟩;obtain ⟨d, hd⟩ : ∃ d, d = i / 3 := ⟨_, rfl⟩;have Hrd : Hid (r = i % 3 ∧ d = i / 3) := ⟨hr, hd⟩
 have ht : (i : Int).tmod 3 = (r : Int) := by rw [Int.tmod_eq_emod_of_nonneg (by omega)]; omega
 have hq : (i : Int).tdiv 3 = (d : Int) := by rw [Int.tdiv_eq_ediv_of_nonneg (by omega)]; omega
 have hr3 : r < 3 := by omega
 have hd11 : d < 11 := by omega
 have hw1 : IntKind.i64.wrap ((d : Nat) : Int) = (d : Int) := Bi.wrap_small d (by omega);have hw2 : IntKind.i64.wrap ((r : Nat) : Int) = (r : Int) := Bi.wrap_small r (by omega);rw [← hd, show ((1 + d : Nat) : Int) = 1 + (d : Int) by omega] at hA
 have hi0 : ¬ (i : Int) < 0 := by omega
 have hi1 : ¬ (32 : Int) ≤ (i : Int) := by omega
 have HFl : Hid ((frameOf vs (1 + d)).length = 32) := frameOf_length vs (1 + d) n HLn.out (by omega);rw [← hX];clear h hf hb0 hr0 hW0 hX hx hr hd
 go_enter Tryz.func119, Tryz.ntmps119
 go_wp2_with fail
 rw [← HW0.out];refine hA.mono ?_;rintro e w1 ⟨g, c, rfl, ⟨hg, hrw, gt, pt, hru, hg1, hg2⟩, hu1⟩;have hc32 : 32 ≤ c := hrw.2.1
 have hsl : ∀ W, (Instr.slice 22 (.slice (some ⟨g, 0, none⟩) 32 c) (some (.int .i64 ((r : Int) * 9))) none none).run Tryz.prog W = .ok (.slice (some ⟨g, r * 9, none⟩) (32 - r * 9) (c - r * 9)) W := fun W => by
  have := words_l g c (r * 9) (by omega) hc32 W;rw [Int.natCast_mul] at this;exact this
 obtain ⟨c1, hc1⟩ : ∃ k, k = 32 - r * 9 := ⟨_, rfl⟩;obtain ⟨c2, hc2⟩ : ∃ k, k = c - r * 9 := ⟨_, rfl⟩;rw [← hc1, ← hc2] at hsl
 have hc9 : 9 ≤ c1 := by omega
 obtain ⟨p, hp⟩ : ∃ p, p = w.heap.size := ⟨_, rfl⟩;have Hp := hid hp
 have hr1 : w1.heap[p]? = some (.cells X 233) := by rw [hp]; exact (hu1.block _ (lt_of_heap HR0.out) (by have := HBl.out; omega)).trans HR0.out
 have hpg : p ≠ g := by have := lt_of_heap HR0.out; omega
 have HR1 := hid hr1;have HM : Hid (W0.heap.size ≤ g ∧ W0.heap.size ≤ w1.heap.size) := ⟨hg, hu1.size⟩;have HRu := hid hru;have HGt : Hid (gt ≤ m + 1 ∧ pt ≤ m + 1) := ⟨hg1, hg2⟩;have HU1 : Hid (UpdP (fun k => k = bx ∨ k = gx) w w1) := (UpdP.of_below HB0.out).trans (hu1.p _ (Or.inl rfl));obtain ⟨F, hFq⟩ : ∃ F, F = frameOf vs (1 + d) := ⟨_, rfl⟩;have HFq := hid hFq;rw [← hFq] at HFl hrw
 have hI : ∀ j, j < 9 → w1.cell? ⟨p, j, none⟩ = some (.int .i64 (xs.getD j 0)) := fun j hj => by rw [cell_of_heap hr1, HXq.out]; exact irow_get _ _ (by rw [HXl.out]; exact hj)
 have HRw : Hid (Rw w1 g c (splice F (i % 3 * 9) (xs.take 0))) := by rw [List.take_zero, splice_nil]; exact hrw
 have s0 := hrw.cell (j := r * 9) (by omega);have s1 := hrw.cell (j := r * 9 + 1) (by omega);have s2 := hrw.cell (j := r * 9 + 2) (by omega)
 have hz := fun j => hrw.free (j := j)
 have i0 := hI 0 (by omega);have i1 := hI 1 (by omega);have i2 := hI 2 (by omega);have f0 := (HF.out 0 (by omega)).su;have f1 := (HF.out 1 (by omega)).su;have f2 := (HF.out 2 (by omega)).su;have k1 := HRw.out.putw HFl.out HXl.out (by omega);have k2 := k1.putw HFl.out HXl.out (by omega);have k3 := k2.putw HFl.out HXl.out (by omega);rw [← Hrd.out.1, Nat.add_zero] at k3;generalize xs.getD 0 0 = x0 at *;generalize xs.getD 1 0 = x1 at *;generalize xs.getD 2 0 = x2 at *;obtain ⟨W3, hW3⟩ : ∃ W, W = ((w1.setCell ⟨g, r * 9, none⟩ (.int .u64 x0)).setCell ⟨g, r * 9 + 1, none⟩ (.int .u64 x1)).setCell ⟨g, r * 9 + 2, none⟩ (.int .u64 x2) := ⟨_, rfl⟩;have HW3 : Hid _ := hW3
 have HK3 : Hid (Rw W3 g c (splice F (r * 9) (xs.take 3))) := by rw [hW3]; exact k3
 have HU3 : Hid (Upd g w1 W3) := by rw [hW3]; exact ((Upd.setCell _ _ _ _).trans (Upd.setCell _ _ _ _)).trans (Upd.setCell _ _ _ _)
 generalize F.getD (r * 9) 0 = y0 at *;generalize F.getD (r * 9 + 1) 0 = y1 at *;generalize F.getD (r * 9 + 2) 0 = y2 at *;clear hA hg hrw hru hg1 hg2 hu1 hc1 hc2 hp hr1 hFq hI k1 k2 k3 hW3 HRw
 go_wp2_with fail
 rw [← Hp.out]
 go_region
 rw [← HW3.out];clear HW3 i0 i1 i2 f0 f1 f2 s0 s1 s2 hz hsl;obtain ⟨W4, hW4⟩ : ∃ W, W = W3.drew := ⟨_, rfl⟩
 have HK4 : Hid (Rw W4 g c (splice F (r * 9) (xs.take (3 + 0)))) := by rw [hW4]; exact HK3.out.below (Di.drewN_below ⟨1, rfl⟩)
 have HU4 : Hid (Upd g w1 W4) := by rw [hW4]; exact HU3.out.trans (Upd.of_below (Di.drewN_below ⟨1, rfl⟩))
 rw [← hW4];clear hW4 HK3 HU3;go_wp2
 go_loopw [9] (fun z wr => ∃ (k : Nat), k ≤ 6 ∧ z = .int .i64 k ∧ Rw wr g c (splice F (r * 9) (xs.take (3 + k))) ∧ Upd g w1 wr) (fun z _ => 6 - (intOf z).toNat)
 case atStart => exact ⟨0, by omega, rfl, HK4.out, HU4.out⟩
 case round =>
  clear HK4 HU4;obtain ⟨k, hk, rfl, hrw, hu⟩ := hrel;have HU := hid hu
  by_cases hlt : k < 6
  ·have hki : decide ((k : Int) < 6) = true := by simp; omega
   have hk6 : (k : Int) < 6 := by omega
   have hkc : 3 + (k : Int) < (c1 : Int) := by omega
   have hcp : wr.cell? ⟨p, 3 + k, none⟩ = some (.int .i64 (xs.getD (3 + k) 0)) := by
    rw [cell_of_heap ((hu.block p (lt_of_heap HR1.out) hpg).trans HR1.out), HXq.out];exact irow_get _ _ (by rw [HXl.out]; omega)
   have hcq := hrw.cell (j := r * 9 + (3 + k)) (by omega);have hfz := hrw.free (j := r * 9 + (3 + k));have hfu := (HF.out (3 + k) (by omega)).su;have hn := (show Rw wr g c (splice F (i % 3 * 9) (xs.take (3 + k))) by rw [← Hrd.out.1]; exact hrw).putw HFl.out HXl.out (by omega);rw [← Hrd.out.1] at hn;generalize xs.getD (3 + k) 0 = y at *;generalize (splice F (r * 9) (xs.take (3 + k))).getD (r * 9 + (3 + k)) 0 = y' at *;have HN := hid hn;clear hrw hu hn;go_wp2;go_roundw
   case rel => exact ⟨k + 1, by omega, by go_num, HN.out, HU.out.trans (Upd.setCell _ _ _ _)⟩
   case measure => simp [intOf]; omega
  ·have hki : decide ((k : Int) < 6) = false := by simp; omega
   have hk6 : ¬ (k : Int) < 6 := by omega
   have hk0 : k = 6 := by omega
   rw [hk0, List.take_of_length_le (by rw [HXl.out]; omega)] at hrw;have hru5 := (HRu.out.upd hu HM.out.1 HM.out.2).ref;have hP := eput_at (m := m + 1) ⟨gt, pt, hru5, HGt.out.1, HGt.out.2⟩ (by omega) (1 + d) (by omega) hrw
   have HE : Hid (splice vs ((1 + d) * 32) (splice F (r * 9) xs) = putW vs i xs) := by
    unfold putW;rw [HFq.out, Hrd.out.1, Hrd.out.2]
    rfl
   rw [HE.out, show ((1 + d : Nat) : Int) = 1 + (d : Int) by omega] at hP
   have HUa : Hid (UpdP (fun k => k = bx ∨ k = gx) w wr) := by
    have h1 := HU1.out
    refine ⟨hu.os.trans h1.os, hu.tape.trans h1.tape, hu.output.trans h1.output, Nat.le_trans h1.size hu.size, fun k hk hn => (hu.block k (Nat.lt_of_lt_of_le hk h1.size) (by have := HM.out.1; have := HB0.out.size; omega)).trans (h1.block k hk hn)⟩
   clear hk0 hrw hru5 hu
   go_wp2_with fail
   refine hP.mono ?_;rintro e w6 ⟨rfl, hk6', hu6⟩;have HK6 := hid hk6';have HU6 : Hid (UpdP (fun k => k = bx ∨ k = gx) w w6) := HUa.out.trans hu6;clear hP hk6' hu6;go_wp2;go_ret;exact ⟨rfl, HK6.out, HU6.out⟩
theorem eFormat_at (h : Rk w bx gx cap n (List.replicate (n * 32) 0) m) (hm : m ≤ 900000000000) (h1 : 13 ≤ n) (h2 : n ≤ 64) :
  Calls Tryz.prog 66 #[ptr bx, .int .i64 (n : Int)] w fun e w' => e = .returned (.int .i64 0) ∧ (∃ vs, Rk w' bx gx cap n vs (m + 20) ∧ Holds vs (F0 n)) ∧ UpdP (fun k => k = bx ∨ k = gx) w w' := by
 have t1 : decide ((n : Int) < 13) = false := by simp; omega
 have t2 : decide (1024 < (n : Int)) = false := by simp; omega
 have hnn : ¬ (n : Int) < (n : Int) := by omega
 have c0 : w.cell? ⟨bx, 0, none⟩ = some (.slice (some ⟨gx, 0, none⟩) n cap) := by obtain ⟨_, _, h, _⟩ := h; exact h.c0
 have hmk := make_row;obtain ⟨zs, hzs⟩ : ∃ z, z = List.replicate (n * 32) (0 : Int) := ⟨_, rfl⟩
 have HZ0 : Hid (∀ b, b < n → frameOf zs b = List.replicate 32 0) := by rw [hzs]; exact fun b hb => frame_zeros n b hb
 rw [← hzs] at h;have HR := hid h;clear h hzs
 go_enter Tryz.func66, Tryz.ntmps66
 go_wp2
 go_loopw [5] (fun z wr => ∃ (k : Nat) (us : List Int), k ≤ 12 ∧ z = .int .i64 k ∧ Rk wr bx gx cap n us (m + k) ∧ UpdP (fun k => k = bx ∨ k = gx) w wr ∧ Hid (∀ b, b < n → frameOf us b = List.replicate 32 0)) (fun z _ => 12 - (intOf z).toNat)
 case atStart => exact ⟨0, zs, by omega, rfl, HR.out, UpdP.refl _ _, HZ0.out⟩
 case round =>
  clear HR;obtain ⟨k, us, hk, rfl, hrk, hu, HZ⟩ := hrel;have HRk := hid hrk;have HU := hid hu;have HUl : Hid (us.length = n * 32) := hrk.len
  by_cases hlt : k < 12
  ·have hki : decide ((k : Int) < 12) = true := by simp; omega
   obtain ⟨W1, hW1⟩ : ∃ W, W = wr.alloc (.cells zc 45) := ⟨_, rfl⟩
   have hb1 : Below wr.heap.size wr W1 := by rw [hW1]; exact below_alloc _ _
   have hP := eput_at (hrk.below hb1) (by omega) k (by omega) (by rw [hW1]; exact rw_new wr);have HW1 : Hid _ := hW1;have HB1 := hid hb1;clear hrk hu hW1 hb1
   go_wp2_with fail
   rw [← HW1.out];refine hP.mono ?_;rintro e w3 ⟨rfl, hk3, hu3⟩;have HK3 := hid hk3;have HU3 : Hid (UpdP (fun k => k = bx ∨ k = gx) w w3) := (HU.out.trans (UpdP.of_below HB1.out)).trans hu3;clear hP hk3 hu3;go_wp2;go_roundw
   case rel =>
    refine ⟨k + 1, _, by omega, by go_num, HK3.out, HU3.out, fun b hb => ?_⟩;rw [frame_splice us _ n k b HUl.out (by omega) hb (by simp)]
    split
    ·rfl
    ·exact HZ.out b hb
   case measure => simp [intOf]; omega
  ·have hki : decide ((k : Int) < 12) = false := by simp; omega
   have hk12 : ¬ (k : Int) < 12 := by omega
   have hw1 : IntKind.u64.wrap ((n : Nat) : Int) = (n : Int) := Fit.su ⟨by omega, by omega⟩;obtain ⟨W1, hW1⟩ : ∃ W, W = wr.alloc (.cells zc 45) := ⟨_, rfl⟩
   have hb1 : Below wr.heap.size wr W1 := by rw [hW1]; exact below_alloc _ _
   have hz0 : zc[0]? = some (.int .u64 0) := rfl;have hz1 : zc[1]? = some (.int .u64 0) := rfl;have hz2 : zc[2]? = some (.int .u64 0) := rfl;have hz3 : zc[3]? = some (.int .u64 0) := rfl;have hU4 : (((zc.setIfInBounds 0 (.int .u64 318923232595)).setIfInBounds 1 (.int .u64 (n : Int))).setIfInBounds 2 (.int .u64 1)).setIfInBounds 3 (.int .u64 4095) = urow (hdW n [1] [4095]) := rfl;obtain ⟨W2, hW2⟩ : ∃ W, W = wr.alloc (.cells ((((zc.setIfInBounds 0 (.int .u64 318923232595)).setIfInBounds 1 (.int .u64 (n : Int))).setIfInBounds 2 (.int .u64 1)).setIfInBounds 3 (.int .u64 4095)) 45) := ⟨_, rfl⟩;have hhl : (hdW n [1] [4095]).length = 32 := hdW_len rfl (by simp)
   have hr2 : Rw W2 wr.heap.size 32 (hdW n [1] [4095]) := by rw [hW2, hU4]; exact rw_row wr _ hhl
   have hb2 : Below wr.heap.size wr W2 := by rw [hW2]; exact below_alloc _ _
   have hP := eput_at (hrk.below hb2) (by omega) 0 (by omega) hr2;have HW2 : Hid _ := hW2;have HB2 := hid hb2;clear hrk hu hW1 hW2 hb1 hb2 hr2 hhl hU4
   go_wp2_with fail
   rw [← HW2.out];refine hP.mono ?_;rintro e w3 ⟨rfl, hk3, hu3⟩;rw [Nat.zero_mul] at hk3
   have hI := ePut_at hk3 (by omega) h1 0 (by omega) [2, 1, 0, 0, 0, 0, 0, 0, 0] rfl (by
     intro x hx;simp only [List.mem_cons, List.not_mem_nil, or_false] at hx
     rcases hx with rfl | rfl | rfl | rfl | rfl | rfl | rfl | rfl | rfl <;> exact ⟨by omega, by omega⟩)
   have hirow : irow [2, 1, 0, 0, 0, 0, 0, 0, 0] = #[.int .i64 2, .int .i64 1, .int .i64 0, .int .i64 0, .int .i64 0, .int .i64 0, .int .i64 0, .int .i64 0, .int .i64 0] := rfl;rw [hirow] at hI;have HU3 : Hid (UpdP (fun k => k = bx ∨ k = gx) w w3) := (HU.out.trans (UpdP.of_below HB2.out)).trans hu3;clear hP hk3 hu3 hirow hz0 hz1 hz2 hz3
   go_wp2_with fail
   refine hI.mono ?_;rintro e w4 ⟨rfl, hk4, hu4⟩;have HE : Hid ((∃ vs, Rk w4 bx gx cap n vs (m + 20) ∧ Holds vs (F0 n)) ∧ UpdP (fun k => k = bx ∨ k = gx) w w4) := ⟨⟨_, hk4.mono (by omega), f0_holds h1 h2 HUl.out HZ.out⟩, HU3.out.trans hu4⟩;clear hI hk4 hu4;go_wp2;go_ret;exact ⟨rfl, HE.out.1, HE.out.2⟩
end
end Go.Proofs.YtinaeifpoljfoaaGreatDoor
