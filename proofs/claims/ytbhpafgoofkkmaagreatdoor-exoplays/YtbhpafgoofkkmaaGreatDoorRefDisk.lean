import Derived.Test.YtbhpafgoofkkmaaGreatDoorDiskAB
import Derived.Test.YtbhpafgoofkkmaaGreatDoorKinds
import Derived.BigQuiet
import Derived.Deep.QuietTactic
import Derived.Deep.RegionHeld3
import Derived.ProofKit
import Derived.OpenShut
import Derived.ChangeOld
import Derived.Below
import Derived.Deep.RegionLaw
import Derived.Deep.AppendLies
import Derived.KernelRfl
set_option linter.all false
namespace Go.Proofs.YtbhpafgoofkkmaaGreatDoor
open Go.RowKit
namespace Di
theorem _root_.Go.Proofs.YtbhpafgoofkkmaaGreatDoor.URow.is {M : Nat} {w : World} {v : Value} {xs : List Int} (h : URow M w v xs) : ∃ a cap, v = .slice a xs.length cap := by
 obtain ⟨a, cap, e, _⟩ := h
 exact ⟨a, cap, e⟩
theorem make_page (w : World) :
  (Instr.makeSlice 27 (.int .i64 32) (.int .i64 32)).run Tryz.prog w = .ok (.slice (some ⟨w.heap.size, 0, none⟩) 32 32) (w.alloc (.cells (zrow 32) 42)) :=
 run_make_flat 27 42 (.int .u64 0) (.int .u64 0) 1 8 Tryz.underlying27 wordInfo rfl (by omega) .i64 .i64 32 (by omega) (by omega) w
section
variable {w W W' : World} {p1 : Bool} {b1 n1 v1 : Int} {p2 : Bool} {b2 n2 v2 : Int} {vs : List Int} {gt pt : Nat}
end
structure RefAt (w : World) (bx gx cap n : Nat) (vs : List Int) (gt pt : Nat) : Prop where
 head : w.heap[bx]? = some (.cells #[.slice (some ⟨gx, 0, none⟩) n cap, .int .i64 gt, .int .i64 pt] 181)
 tab : ∃ cur, w.heap[gx]? = some (.cells cur 27 (0, 0)) ∧ ∀ i, i < n → ∃ r c row, cur[i]? = some (.slice (some ⟨r, 0, none⟩) 32 c) ∧ w.heap[r]? = some (.cells row 42 (0, 0)) ∧ bx < r ∧ r ≠ gx ∧
  ∀ (j : Nat) (x : Int), (frameOf vs i)[j]? = some x → row[j]? = some (.int .u64 x)
 len : vs.length = n * 32
 low : bx < gx
theorem info46 : (Tryz.prog.info? 27).map (fun i => (i.zero, i.size, i.bytes)) = some (some (.slice none 0 0), 1, 24) := by kernel_rfl
def rsl (r : Nat) : Value := .slice (some ⟨r, 0, none⟩) 32 32
structure Making (w : World) (bx k : Nat) (v : Value) (rs : List Nat) : Prop where
 head : w.heap[bx]? = some (.cells #[v, .int .i64 ((0 : Nat) : Int), .int .i64 ((0 : Nat) : Int)] 181)
 own : w.ownsRow (bx + 1) 27 1 v k (rs.map rsl)
 len : rs.length = k
 row : ∀ i, i < k → w.heap[rs.getD i 0]? = some (.cells (zrow 32) 42)
 inj : ∀ i j, i < k → j < k → rs.getD i 0 = rs.getD j 0 → i = j
 far : ∀ i, i < k → bx < rs.getD i 0 ∧ v.ownBlock ≠ some (rs.getD i 0)
 at_ : ∀ g, v.ownBlock = some g → g < w.heap.size
theorem Making.start (w : World) (t : TypeId) : Making (w.alloc (.cells #[.slice none 0 0, .int .i64 ((0 : Nat) : Int), .int .i64 ((0 : Nat) : Int)] 181)) w.heap.size 0 (.slice none 0 0) [] :=
 ⟨heap_alloc_new _ _, World.ownsRow_nil _ _ _ _, rfl, fun _ h => by omega, fun _ _ h => by omega, fun _ h => by omega, fun g h => by simp [Value.ownBlock] at h⟩
theorem Making.step {wr w1 : World} {bx k gg cap : Nat} {v : Value} {rs : List Nat} (hm : Making wr bx k v rs) (sl : Array Value) (hsl : sl = #[rsl wr.heap.size])
  (hown1 : w1.ownsRow (bx + 1) 27 1 (.slice (some ⟨gg, 0, none⟩) (k + 1) cap) (k + 1) (rs.map rsl ++ [rsl wr.heap.size]))
  (hgrow : ((wr.alloc (.cells (zrow 32) 42)).alloc (.cells sl 27)).drew.grownBy w1 v.ownBlock)
  (hat : v.ownBlock = some gg ∨ gg = wr.heap.size + 1 + 1) (hlt : gg < w1.heap.size) (hne : v.ownBlock ≠ some bx) :
  Making (w1.setCell ⟨bx, 0, none⟩ (.slice (some ⟨gg, 0, none⟩) (k + 1) cap)) bx (k + 1) (.slice (some ⟨gg, 0, none⟩) (k + 1) cap) (rs ++ [wr.heap.size]) ∧
   Below bx wr (w1.setCell ⟨bx, 0, none⟩ (.slice (some ⟨gg, 0, none⟩) (k + 1) cap)) := by
 have hbx := lt_of_heap hm.head
 have hgsz : wr.heap.size + 1 + 1 ≤ w1.heap.size := by have := hgrow.size; simpa using this
 have hown0 := hm.own
 have hvlow : ∀ g, v.ownBlock = some g → bx < g := by
  intro g e
  rcases hown0.2 with ⟨e2, _⟩ | ⟨g', cap', cur, e2, hg, _⟩
  ·rw [e2] at e; simp [Value.ownBlock] at e
  ·rw [e2] at e; simp [Value.ownBlock] at e; omega
 have hgg : bx < gg := by
  rcases hat with e | e
  ·exact hvlow gg e
  ·omega
 have old : ∀ j, j < wr.heap.size → v.ownBlock ≠ some j → w1.heap[j]? = wr.heap[j]? := by
  intro j hj hn
  rw [hgrow.block j (by show j < ((wr.alloc _).alloc _).heap.size; simp; omega) (fun e => hn e.symm)]
  show ((wr.alloc _).alloc _).heap[j]? = _
  rw [Below.heap_alloc _ _ _ (by simp; omega), Below.heap_alloc _ _ _ hj]
 have hvnew : v.ownBlock ≠ some wr.heap.size := by
  intro e
  have := hm.at_ _ e
  omega
 have new : w1.heap[wr.heap.size]? = some (.cells (zrow 32) 42) := by
  rw [hgrow.block wr.heap.size (by show wr.heap.size < ((wr.alloc _).alloc _).heap.size; simp; omega) (fun e => hvnew e.symm)]
  show ((wr.alloc _).alloc _).heap[wr.heap.size]? = _
  rw [Below.heap_alloc _ _ _ (by simp), heap_alloc_new]
 have hrlt : ∀ i, i < k → rs.getD i 0 < wr.heap.size := fun i hi => lt_of_heap (hm.row i hi)
 have getl : ∀ i, i < k → (rs ++ [wr.heap.size]).getD i 0 = rs.getD i 0 := by
  intro i hi
  have : i < rs.length := by rw [hm.len]; exact hi
  simp [List.getElem?_append, this]
 have getk : (rs ++ [wr.heap.size]).getD k 0 = wr.heap.size := by
  simp [hm.len]
 have hrow : ∀ i, i < k + 1 → w1.heap[(rs ++ [wr.heap.size]).getD i 0]? = some (.cells (zrow 32) 42) ∧ bx < (rs ++ [wr.heap.size]).getD i 0 ∧ gg ≠ (rs ++ [wr.heap.size]).getD i 0 := by
  intro i hi
  by_cases hik : i < k
  ·rw [getl i hik]
   refine ⟨(old _ (hrlt i hik) (hm.far i hik).2).trans (hm.row i hik), (hm.far i hik).1, ?_⟩
   rcases hat with e | e
   ·intro x; exact (hm.far i hik).2 (by rw [e, x])
   ·have := hrlt i hik; omega
  ·have : i = k := by omega
   subst this
   rw [getk]
   refine ⟨new, hbx, ?_⟩
   rcases hat with e | e
   ·intro x; exact hvnew (by rw [e, x])
   ·omega
 constructor
 ·refine ⟨?_, ?_, by simp [hm.len], fun i hi => ?_, fun i j hi hj e => ?_, fun i hi => ⟨(hrow i hi).2.1, ?_⟩, fun g e => ?_⟩
  ·have hh : w1.heap[bx]? = some (.cells #[v, .int .i64 ((0 : Nat) : Int), .int .i64 ((0 : Nat) : Int)] 181 (0, 0)) := (old bx hbx hne).trans hm.head
   rw [setCell_eq_setRow w1 bx 0 _ _ _ _ hh, setRow_heap w1 bx _ _ _ _ hh]
   rfl
  ·rw [List.map_append]
   exact ownsRow_setCell_below hown1 (by show bx < bx + 1; omega) _
  ·rw [Below.heap_setCell _ _ _ _ (by have := (hrow i hi).2.1; simp only; omega)]
   exact (hrow i hi).1
  ·by_cases hik : i < k
   ·by_cases hjk : j < k
    ·rw [getl i hik, getl j hjk] at e
     exact hm.inj i j hik hjk e
    ·have : j = k := by omega
     subst this
     rw [getl i hik, getk] at e
     have := hrlt i hik; omega
   ·have : i = k := by omega
    subst this
    by_cases hjk : j < i
    ·rw [getl j hjk, getk] at e
     have := hrlt j hjk; omega
    ·omega
  ·intro e
   simp only [Value.ownBlock, Option.some.injEq] at e
   exact (hrow i hi).2.2 e
  ·simp only [Value.ownBlock, Option.some.injEq] at e
   subst e
   simpa [World.setCell] using hlt
 ·have hb1 : Below bx wr w1 := by
   refine ⟨?_, ?_, ?_, by omega, fun j hj => ?_⟩
   ·have := hgrow.os; exact this
   ·have := hgrow.tape; exact this
   ·have := hgrow.output; exact this
   ·exact old j (by omega) (fun e => by have := hvlow j e; omega)
  exact hb1.setCell (p := ⟨bx, 0, none⟩) (Nat.le_refl _) _
set_option maxRecDepth 100000 in
set_option maxHeartbeats 3200000 in
theorem rnew_at (n : Int) (w : World) (h1 : 1 ≤ n) (h2 : n ≤ 1024) :
  Calls Tryz.prog 119 #[.int .i64 n] w fun e w' => e = .returned (.pointer (some ⟨w.heap.size, 0, none⟩)) ∧
   (∃ v rs, Making w' w.heap.size n.toNat v rs) ∧ Below w.heap.size w w' := by
 obtain ⟨N, rfl⟩ := nat_of n (by omega)
 simp only [Int.toNat_natCast]
 obtain ⟨i0, hi0, hz0, hz1, hz2⟩ := info_parts info46
 have hmk := make_page
 have t1 : decide ((N : Int) < 1) = false := by simp; omega
 have t2 : decide (1024 < (N : Int)) = false := by simp; omega
 go_enter Tryz.func119, Tryz.ntmps119
 go_wp2
 go_loopw [4] (fun i wr => ∃ (k : Nat) (v : Value) (rs : List Nat), k ≤ N ∧ i = .int .i64 k ∧ Making wr w.heap.size k v rs ∧ Below w.heap.size w wr) (fun i _ => N - (intOf i).toNat)
 case atStart => exact ⟨0, _, [], Nat.zero_le _, rfl, Making.start _ 0, (Below.refl _ _).alloc (Nat.le_refl _) _⟩
 case round =>
  obtain ⟨k, v, rs, hk, rfl, hm, hb⟩ := hrel
  by_cases hlt : k < N
  ·have hc : wr.cell? ⟨w.heap.size, 0, none⟩ = some v := by rw [cell_of_heap hm.head]; rfl
   have hz : wr.frozen? ⟨w.heap.size, 0, none⟩ = false := frozen_of_heap hm.head
   have hl := lt_of_heap hm.head
   have hown := hm.own
   have hne : v.ownBlock ≠ some w.heap.size := by
    intro e
    rcases hown.2 with ⟨e2, _⟩ | ⟨g, cap, cur, e2, hg, _⟩
    ·rw [e2] at e; simp [Value.ownBlock] at e
    ·rw [e2] at e; simp [Value.ownBlock] at e; omega
   have HM : Hid _ := hm
   have HB : Hid _ := hb
   have HZ : Hid _ := hz
   clear hm hb
   have hnb : ((wr.alloc (.cells (zrow 32) 42)).alloc (.cells #[.slice (some ⟨wr.heap.size, 0, none⟩) 32 32] 27)).drew.heap[wr.heap.size + 1]? = some (.cells #[.slice (some ⟨wr.heap.size, 0, none⟩) 32 32] 27 (0, 0)) := by
    have := heap_alloc_new (wr.alloc (.cells (zrow 32) 42)) (.cells #[.slice (some ⟨wr.heap.size, 0, none⟩) 32 32] 27)
    rw [World.size_alloc] at this
    exact this
   have HNB : Hid _ := hnb
   clear hnb
   have hfa := frozen?_alloc_cells
   go_wp2
   go_region_law
    ((refine step_append_lies _ (by rfl) _ _ _ (by rfl) (w.heap.size + 1) 27 i0 _ 1 24 Tryz.underlying41 hi0 hz0 hz1 hz2 rfl (by omega) v k (rs.map rsl) (by rfl) (((hown.alloc _).alloc _).drew)
        ⟨wr.heap.size + 1, 0, none⟩ 1 1 [.slice (some ⟨wr.heap.size, 0, none⟩) 32 32] (by rfl) (by rfl) (World.news_of_block (cs := #[.slice (some ⟨wr.heap.size, 0, none⟩) 32 32]) (t := 27) (fr := (0, 0)) HNB.out) (by simp [Value.oneCell'])
        (by omega) (by unfold maxLen; omega) (by omega) (by simp; omega) (wr.heap.size + 1 + 1) (by simp) ?_; intro gg cap w1 hown1 hgrow hat hlt1; have hcw := hgrow.cell_far ⟨w.heap.size, 0, none⟩ (by simp; omega) (Ne.symm hne); have hfw := hgrow.frozen_far ⟨w.heap.size, 0, none⟩ (by simp; omega) (Ne.symm hne)))
   all_goals
    go_wp2
    go_roundw
    case rel =>
     obtain ⟨q1, q2⟩ := (HM.out).step _ rfl hown1 hgrow hat hlt1 hne
     exact ⟨k + 1, _, _, by omega, by go_num, q1, (HB.out).trans q2⟩
    case measure => simp [intOf]; omega
  ·have : k = N := by omega
   subst this
   go_wp2
   go_ret
   exact ⟨rfl, ⟨v, rs, hm⟩, hb⟩
theorem Making.done {w : World} {bx n : Nat} {v : Value} {rs : List Nat} (hm : Making w bx n v rs) (hn : 0 < n) :
  ∃ gx cap, RefAt w bx gx cap n (List.replicate (n * 32) 0) 0 0 := by
 have hown := hm.own
 rcases hown.2 with ⟨_, e⟩ | ⟨g, cap, cur, hv, hg, hh, hc, _, hcs, ht⟩
 ·omega
 ·refine ⟨g, cap, ⟨?_, ⟨cur, hh, fun i hi => ⟨rs.getD i 0, 32, zrow 32, ?_, hm.row i hi, (hm.far i hi).1, ?_, fun j x hx => ?_⟩⟩, by simp, by omega⟩⟩
  ·rw [hm.head, hv]
  ·have e1 : (cur.toList.take (n * 1))[i]? = (rs.map rsl)[i]? := by rw [ht]
   have hil : i < rs.length := by rw [hm.len]; exact hi
   rw [List.getElem?_take_of_lt (by omega), List.getElem?_map] at e1
   have e2 : rs[i]? = some (rs.getD i 0) := by simp [hil]
   rw [e2] at e1
   simpa [rsl] using e1
  ·have := (hm.far i hi).2
   rw [hv] at this
   simp only [Value.ownBlock, ne_eq, Option.some.injEq] at this
   exact fun e => this e.symm
  ·rw [frame_zeros n i hi] at hx
   have hj : j < 32 := by have := (List.getElem?_eq_some_iff.1 hx).1; simpa using this
   rw [List.getElem?_replicate, if_pos hj] at hx
   simp only [Option.some.injEq] at hx
   subst hx
   simp [zrow, hj]
theorem rnew_ref (n : Int) (w : World) (h1 : 1 ≤ n) (h2 : n ≤ 1024) :
  Calls Tryz.prog 119 #[.int .i64 n] w fun e w' => e = .returned (.pointer (some ⟨w.heap.size, 0, none⟩)) ∧
   (∃ gx cap, RefAt w' w.heap.size gx cap n.toNat (List.replicate (n.toNat * 32) 0) 0 0) ∧ Below w.heap.size w w' :=
 (rnew_at n w h1 h2).mono fun e w' ⟨he, ⟨v, rs, hm⟩, hb⟩ => ⟨he, hm.done (by omega), hb⟩
section
variable {w w' : World} {bx gx cap n : Nat} {vs : List Int} {gt pt : Nat}
theorem RefAt.c0 (h : RefAt w bx gx cap n vs gt pt) : w.cell? ⟨bx, 0, none⟩ = some (.slice (some ⟨gx, 0, none⟩) n cap) := by rw [cell_of_heap h.head]; rfl
theorem RefAt.glt (h : RefAt w bx gx cap n vs gt pt) : gx < w.heap.size := by obtain ⟨cur, hh, _⟩ := h.tab; exact lt_of_heap hh
theorem RefAt.keep (h : RefAt w bx gx cap n vs gt pt) {P : Nat → Prop} (u : UpdP P w w') (hp : ∀ k, P k → k < bx) : RefAt w' bx gx cap n vs gt pt := by
 obtain ⟨cur, hh, ht⟩ := h.tab
 have hlow := h.low
 refine ⟨(u.block _ (lt_of_heap h.head) (fun x => by have := hp _ x; omega)).trans h.head, ⟨cur, (u.block _ (lt_of_heap hh) (fun x => by have := hp _ x; omega)).trans hh, fun i hi => ?_⟩, h.len, h.low⟩
 obtain ⟨r, c, row, h1, h2, h3, h4⟩ := ht i hi
 exact ⟨r, c, row, h1, (u.block _ (lt_of_heap h2) (fun x => by have := hp _ x; omega)).trans h2, h3, h4⟩
theorem RefAt.below (h : RefAt w bx gx cap n vs gt pt) (k : Below w.heap.size w w') : RefAt w' bx gx cap n vs gt pt :=
 h.keep (P := fun _ => False) (UpdP.of_below k) (fun _ x => x.elim)
end
end Di
end Go.Proofs.YtbhpafgoofkkmaaGreatDoor
