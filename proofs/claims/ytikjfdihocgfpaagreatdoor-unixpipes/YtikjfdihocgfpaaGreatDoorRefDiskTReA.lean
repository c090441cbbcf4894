/- The contracts of the reference disk. -/
/- The reference of layer 15: its get, Put and Format over the reference disk. -/
import Derived.Test.YtikjfdihocgfpaaGreatDoorFramesTBitA
import Derived.Test.YtikjfdihocgfpaaGreatDoorKinds
import Derived.Test.YtikjfdihocgfpaaGreatDoorInoLTMkA
import Derived.BigQuiet
import Derived.Deep.QuietTactic
import Derived.Deep.RegionHeld3
import Derived.ProofKit
import Derived.OpenShut
import Derived.ChangeOld
import Derived.Below
import Derived.Deep.RegionLaw
import Derived.Deep.AppendLies
import Derived.KernelRfl
set_option linter.all false
namespace Go.Proofs.YtikjfdihocgfpaaGreatDoor
open Go.RowKit
namespace Di
theorem _root_.Go.Proofs.YtikjfdihocgfpaaGreatDoor.URow.cell {M g n cap : Nat} {w : World} {xs : List Int} (h : URow M w (.slice (some ⟨g, 0, none⟩) n cap) xs) (j : Nat) (hj : j < xs.length) : w.cell? ⟨g, j, none⟩ = some (.int .u64 (xs.getD j 0)) := by
  obtain ⟨a, c, e, _, _, hf⟩ := h
  obtain ⟨g', cur, e2, _, hh, hc⟩ := hf (by intro e; rw [e] at hj; simp at hj)
  simp only [Value.slice.injEq] at e
  obtain ⟨e3, _⟩ := e
  rw [← e3] at e2
  simp only [Option.some.injEq, Addr.mk.injEq] at e2
  obtain ⟨rfl, _⟩ := e2
  rw [cell_of_heap hh]
  exact hc j _ (by simp [hj])
theorem make_page (w : World) :
    (Instr.makeSlice 22 (.int .i64 32) (.int .i64 32)).run Tryz.prog w = .ok (.slice (some ⟨w.heap.size, 0, none⟩) 32 32) (w.alloc (.cells (zrow 32) 46)) :=
  run_make_flat 22 46 (.int .u64 0) (.int .u64 0) 1 8 Tryz.underlying22 wordInfo rfl (by omega) .i64 .i64 32 (by omega) (by omega) w
section
variable {w W W' : World} {p1 : Bool} {b1 n1 v1 : Int} {p2 : Bool} {b2 n2 v2 : Int} {vs : List Int} {gt pt : Nat}
end
/-- A reference disk: its head is block bx, its table of rows is block gx. -/
structure RefAt (w : World) (bx gx cap n : Nat) (vs : List Int) (gt pt : Nat) : Prop where
  head : w.heap[bx]? = some (.cells #[.slice (some ⟨gx, 0, none⟩) n cap, .int .i64 gt, .int .i64 pt] 195)
  tab : ∃ cur, w.heap[gx]? = some (.cells cur 22 (0, 0)) ∧ ∀ i, i < n → ∃ r c row, cur[i]? = some (.slice (some ⟨r, 0, none⟩) 32 c) ∧ w.heap[r]? = some (.cells row 46 (0, 0)) ∧ bx < r ∧ r ≠ gx ∧
    ∀ (j : Nat) (x : Int), (frameOf vs i)[j]? = some x → row[j]? = some (.int .u64 x)
  len : vs.length = n * 32
  low : bx < gx
theorem info46 : (Tryz.prog.info? 22).map (fun i => (i.zero, i.size, i.bytes)) = some (some (.slice none 0 0), 1, 24) := by kernel_rfl
/-- A row's slice. -/
def rsl (r : Nat) : Value := .slice (some ⟨r, 0, none⟩) 32 32
/-- What is known while New makes its rows: the head is block bx, holding v; k rows are made. -/
structure Making (w : World) (bx k : Nat) (v : Value) (rs : List Nat) : Prop where
  head : w.heap[bx]? = some (.cells #[v, .int .i64 ((0 : Nat) : Int), .int .i64 ((0 : Nat) : Int)] 195)
  own : w.ownsRow (bx + 1) 22 1 v k (rs.map rsl)
  len : rs.length = k
  row : ∀ i, i < k → w.heap[rs.getD i 0]? = some (.cells (zrow 32) 46)
  inj : ∀ i j, i < k → j < k → rs.getD i 0 = rs.getD j 0 → i = j
  far : ∀ i, i < k → bx < rs.getD i 0 ∧ v.ownBlock ≠ some (rs.getD i 0)
  at_ : ∀ g, v.ownBlock = some g → g < w.heap.size
theorem Making.start (w : World) (t : TypeId) : Making (w.alloc (.cells #[.slice none 0 0, .int .i64 ((0 : Nat) : Int), .int .i64 ((0 : Nat) : Int)] 195)) w.heap.size 0 (.slice none 0 0) [] :=
  ⟨heap_alloc_new _ _, World.ownsRow_nil _ _ _ _, rfl, fun _ h => by omega, fun _ _ h => by omega, fun _ h => by omega, fun g h => by simp [Value.ownBlock] at h⟩
theorem Making.step {wr w1 : World} {bx k gg cap : Nat} {v : Value} {rs : List Nat} (hm : Making wr bx k v rs) (sl : Array Value) (hsl : sl = #[rsl wr.heap.size])
    (hown1 : w1.ownsRow (bx + 1) 22 1 (.slice (some ⟨gg, 0, none⟩) (k + 1) cap) (k + 1) (rs.map rsl ++ [rsl wr.heap.size]))
    (hgrow : ((wr.alloc (.cells (zrow 32) 46)).alloc (.cells sl 22)).drew.grownBy w1 v.ownBlock)
    (hat : v.ownBlock = some gg ∨ gg = wr.heap.size + 1 + 1) (hlt : gg < w1.heap.size) (hne : v.ownBlock ≠ some bx) :
    Making (w1.setCell ⟨bx, 0, none⟩ (.slice (some ⟨gg, 0, none⟩) (k + 1) cap)) bx (k + 1) (.slice (some ⟨gg, 0, none⟩) (k + 1) cap) (rs ++ [wr.heap.size]) ∧
      Below bx wr (w1.setCell ⟨bx, 0, none⟩ (.slice (some ⟨gg, 0, none⟩) (k + 1) cap)) := by
  have hbx := lt_of_heap hm.head
  have hgsz : wr.heap.size + 1 + 1 ≤ w1.heap.size := by have := hgrow.size; simpa using this
  have hown0 := hm.own
  have hvlow : ∀ g, v.ownBlock = some g → bx < g := by
    intro g e
    rcases hown0.2 with ⟨e2, _⟩ | ⟨g', cap', cur, e2, hg, _⟩
    · rw [e2] at e; simp [Value.ownBlock] at e
    · rw [e2] at e; simp [Value.ownBlock] at e; omega
  have hgg : bx < gg := by
    rcases hat with e | e
    · exact hvlow gg e
    · omega
  have old : ∀ j, j < wr.heap.size → v.ownBlock ≠ some j → w1.heap[j]? = wr.heap[j]? := by
    intro j hj hn
    rw [hgrow.block j (by show j < ((wr.alloc _).alloc _).heap.size; simp; omega) (fun e => hn e.symm)]
    show ((wr.alloc _).alloc _).heap[j]? = _
    rw [Below.heap_alloc _ _ _ (by simp; omega), Below.heap_alloc _ _ _ hj]
  have hvnew : v.ownBlock ≠ some wr.heap.size := by
    intro e
    have := hm.at_ _ e
    omega
  have new : w1.heap[wr.heap.size]? = some (.cells (zrow 32) 46) := by
    rw [hgrow.block wr.heap.size (by show wr.heap.size < ((wr.alloc _).alloc _).heap.size; simp; omega) (fun e => hvnew e.symm)]
    show ((wr.alloc _).alloc _).heap[wr.heap.size]? = _
    rw [Below.heap_alloc _ _ _ (by simp), heap_alloc_new]
  have hrlt : ∀ i, i < k → rs.getD i 0 < wr.heap.size := fun i hi => lt_of_heap (hm.row i hi)
  have getl : ∀ i, i < k → (rs ++ [wr.heap.size]).getD i 0 = rs.getD i 0 := by
    intro i hi
    have : i < rs.length := by rw [hm.len]; exact hi
    simp [List.getElem?_append, this]
  have getk : (rs ++ [wr.heap.size]).getD k 0 = wr.heap.size := by
    simp [hm.len]
  have hrow : ∀ i, i < k + 1 → w1.heap[(rs ++ [wr.heap.size]).getD i 0]? = some (.cells (zrow 32) 46) ∧ bx < (rs ++ [wr.heap.size]).getD i 0 ∧ gg ≠ (rs ++ [wr.heap.size]).getD i 0 := by
    intro i hi
    by_cases hik : i < k
    · rw [getl i hik]
      refine ⟨(old _ (hrlt i hik) (hm.far i hik).2).trans (hm.row i hik), (hm.far i hik).1, ?_⟩
      rcases hat with e | e
      · intro x; exact (hm.far i hik).2 (by rw [e, x])
      · have := hrlt i hik; omega
    · have : i = k := by omega
      subst this
      rw [getk]
      refine ⟨new, hbx, ?_⟩
      rcases hat with e | e
      · intro x; exact hvnew (by rw [e, x])
      · omega
  constructor
  · refine ⟨?_, ?_, by simp [hm.len], fun i hi => ?_, fun i j hi hj e => ?_, fun i hi => ⟨(hrow i hi).2.1, ?_⟩, fun g e => ?_⟩
    · have hh : w1.heap[bx]? = some (.cells #[v, .int .i64 ((0 : Nat) : Int), .int .i64 ((0 : Nat) : Int)] 195 (0, 0)) := (old bx hbx hne).trans hm.head
      rw [setCell_eq_setRow w1 bx 0 _ _ _ _ hh, setRow_heap w1 bx _ _ _ _ hh]
      rfl
    · rw [List.map_append]
      exact ownsRow_setCell_below hown1 (by show bx < bx + 1; omega) _
    · rw [Below.heap_setCell _ _ _ _ (by have := (hrow i hi).2.1; simp only; omega)]
      exact (hrow i hi).1
    · by_cases hik : i < k
      · by_cases hjk : j < k
        · rw [getl i hik, getl j hjk] at e
          exact hm.inj i j hik hjk e
        · have : j = k := by omega
          subst this
          rw [getl i hik, getk] at e
          have := hrlt i hik; omega
      · have : i = k := by omega
        subst this
        by_cases hjk : j < i
        · rw [getl j hjk, getk] at e
          have := hrlt j hjk; omega
        · omega
    · intro e
      simp only [Value.ownBlock, Option.some.injEq] at e
      exact (hrow i hi).2.2 e
    · simp only [Value.ownBlock, Option.some.injEq] at e
      subst e
      simpa [World.setCell] using hlt
  · have hb1 : Below bx wr w1 := by
      refine ⟨?_, ?_, ?_, by omega, fun j hj => ?_⟩
      · have := hgrow.os; exact this
      · have := hgrow.tape; exact this
      · have := hgrow.output; exact this
      · exact old j (by omega) (fun e => by have := hvlow j e; omega)
    exact hb1.setCell (p := ⟨bx, 0, none⟩) (Nat.le_refl _) _
set_option maxRecDepth 100000 in
set_option maxHeartbeats 3200000 in
theorem rnew_at (n : Int) (w : World) (h1 : 1 ≤ n) (h2 : n ≤ 1024) :
    Calls Tryz.prog 37 #[.int .i64 n] w fun e w' => e = .returned (.pointer (some ⟨w.heap.size, 0, none⟩)) ∧
      (∃ v rs, Making w' w.heap.size n.toNat v rs) ∧ Below w.heap.size w w' := by
  obtain ⟨N, rfl⟩ := nat_of n (by omega)
  simp only [Int.toNat_natCast]
  obtain ⟨i0, hi0, hz0, hz1, hz2⟩ := info_parts info46
  have hmk := make_page
  have t1 : decide ((N : Int) < 1) = false := by simp; omega
  have t2 : decide (1024 < (N : Int)) = false := by simp; omega
  go_enter Tryz.func37, Tryz.ntmps37
  go_wp2
  go_loopw [4] (fun i wr => ∃ (k : Nat) (v : Value) (rs : List Nat), k ≤ N ∧ i = .int .i64 k ∧ Making wr w.heap.size k v rs ∧ Below w.heap.size w wr) (fun i _ => N - (intOf i).toNat)
  case atStart => exact ⟨0, _, [], Nat.zero_le _, rfl, Making.start _ 0, (Below.refl _ _).alloc (Nat.le_refl _) _⟩
  case round =>
    obtain ⟨k, v, rs, hk, rfl, hm, hb⟩ := hrel
    by_cases hlt : k < N
    · have hc : wr.cell? ⟨w.heap.size, 0, none⟩ = some v := by rw [cell_of_heap hm.head]; rfl
      have hz : wr.frozen? ⟨w.heap.size, 0, none⟩ = false := frozen_of_heap hm.head
      have hl := lt_of_heap hm.head
      have hown := hm.own
      have hne : v.ownBlock ≠ some w.heap.size := by
        intro e
        rcases hown.2 with ⟨e2, _⟩ | ⟨g, cap, cur, e2, hg, _⟩
        · rw [e2] at e; simp [Value.ownBlock] at e
        · rw [e2] at e; simp [Value.ownBlock] at e; omega
      have HM : Hid _ := hm
      have HB : Hid _ := hb
      have HZ : Hid _ := hz
      clear hm hb
      have hnb : ((wr.alloc (.cells (zrow 32) 46)).alloc (.cells #[.slice (some ⟨wr.heap.size, 0, none⟩) 32 32] 22)).drew.heap[wr.heap.size + 1]? = some (.cells #[.slice (some ⟨wr.heap.size, 0, none⟩) 32 32] 22 (0, 0)) := by
        have := heap_alloc_new (wr.alloc (.cells (zrow 32) 46)) (.cells #[.slice (some ⟨wr.heap.size, 0, none⟩) 32 32] 22)
        rw [World.size_alloc] at this
        exact this
      have HNB : Hid _ := hnb
      clear hnb
      have hfa := frozen?_alloc_cells
      go_wp2
      go_region_law
        ((refine step_append_lies _ (by rfl) _ _ _ (by rfl) (w.heap.size + 1) 22 i0 _ 1 24 Tryz.underlying193 hi0 hz0 hz1 hz2 rfl (by omega) v k (rs.map rsl) (by rfl) (((hown.alloc _).alloc _).drew)
            ⟨wr.heap.size + 1, 0, none⟩ 1 1 [.slice (some ⟨wr.heap.size, 0, none⟩) 32 32] (by rfl) (by rfl) (World.news_of_block (cs := #[.slice (some ⟨wr.heap.size, 0, none⟩) 32 32]) (t := 22) (fr := (0, 0)) HNB.out) (by simp [Value.oneCell'])
            (by omega) (by unfold maxLen; omega) (by omega) (by simp; omega) (wr.heap.size + 1 + 1) (by simp) ?_; intro gg cap w1 hown1 hgrow hat hlt1; have hcw := hgrow.cell_far ⟨w.heap.size, 0, none⟩ (by simp; omega) (Ne.symm hne); have hfw := hgrow.frozen_far ⟨w.heap.size, 0, none⟩ (by simp; omega) (Ne.symm hne)))
      all_goals
        go_wp2
        go_roundw
        case rel =>
          obtain ⟨q1, q2⟩ := (HM.out).step _ rfl hown1 hgrow hat hlt1 hne
          exact ⟨k + 1, _, _, by omega, by go_num, q1, (HB.out).trans q2⟩
        case measure => simp [intOf]; omega
    · have : k = N := by omega
      subst this
      go_wp2
      go_ret
      exact ⟨rfl, ⟨v, rs, hm⟩, hb⟩
theorem Making.done {w : World} {bx n : Nat} {v : Value} {rs : List Nat} (hm : Making w bx n v rs) (hn : 0 < n) :
    ∃ gx cap, RefAt w bx gx cap n (List.replicate (n * 32) 0) 0 0 := by
  have hown := hm.own
  rcases hown.2 with ⟨_, e⟩ | ⟨g, cap, cur, hv, hg, hh, hc, _, hcs, ht⟩
  · omega
  · refine ⟨g, cap, ⟨?_, ⟨cur, hh, fun i hi => ⟨rs.getD i 0, 32, zrow 32, ?_, hm.row i hi, (hm.far i hi).1, ?_, fun j x hx => ?_⟩⟩, by simp, by omega⟩⟩
    · rw [hm.head, hv]
    · have e1 : (cur.toList.take (n * 1))[i]? = (rs.map rsl)[i]? := by rw [ht]
      have hil : i < rs.length := by rw [hm.len]; exact hi
      rw [List.getElem?_take_of_lt (by omega), List.getElem?_map] at e1
      have e2 : rs[i]? = some (rs.getD i 0) := by simp [hil]
      rw [e2] at e1
      simpa [rsl] using e1
    · have := (hm.far i hi).2
      rw [hv] at this
      simp only [Value.ownBlock, ne_eq, Option.some.injEq] at this
      exact fun e => this e.symm
    · rw [frame_zeros n i hi] at hx
      have hj : j < 32 := by have := (List.getElem?_eq_some_iff.1 hx).1; simpa using this
      rw [List.getElem?_replicate, if_pos hj] at hx
      simp only [Option.some.injEq] at hx
      subst hx
      simp [zrow, hj]
theorem rnew_ref (n : Int) (w : World) (h1 : 1 ≤ n) (h2 : n ≤ 1024) :
    Calls Tryz.prog 37 #[.int .i64 n] w fun e w' => e = .returned (.pointer (some ⟨w.heap.size, 0, none⟩)) ∧
      (∃ gx cap, RefAt w' w.heap.size gx cap n.toNat (List.replicate (n.toNat * 32) 0) 0 0) ∧ Below w.heap.size w w' :=
  (rnew_at n w h1 h2).mono fun e w' ⟨he, ⟨v, rs, hm⟩, hb⟩ => ⟨he, hm.done (by omega), hb⟩
section
variable {w w' : World} {bx gx cap n : Nat} {vs : List Int} {gt pt : Nat}
theorem RefAt.c0 (h : RefAt w bx gx cap n vs gt pt) : w.cell? ⟨bx, 0, none⟩ = some (.slice (some ⟨gx, 0, none⟩) n cap) := by rw [cell_of_heap h.head]; rfl
theorem RefAt.c1 (h : RefAt w bx gx cap n vs gt pt) : w.cell? ⟨bx, 1, none⟩ = some (.int .i64 gt) := by rw [cell_of_heap h.head]; rfl
theorem RefAt.c2 (h : RefAt w bx gx cap n vs gt pt) : w.cell? ⟨bx, 2, none⟩ = some (.int .i64 pt) := by rw [cell_of_heap h.head]; rfl
theorem RefAt.free (h : RefAt w bx gx cap n vs gt pt) (i : Nat) : w.frozen? ⟨bx, i, none⟩ = false := frozen_of_heap h.head
theorem RefAt.glt (h : RefAt w bx gx cap n vs gt pt) : gx < w.heap.size := by obtain ⟨cur, hh, _⟩ := h.tab; exact lt_of_heap hh
theorem RefAt.keep (h : RefAt w bx gx cap n vs gt pt) {P : Nat → Prop} (u : UpdP P w w') (hp : ∀ k, P k → k < bx) : RefAt w' bx gx cap n vs gt pt := by
  obtain ⟨cur, hh, ht⟩ := h.tab
  have hlow := h.low
  refine ⟨(u.block _ (lt_of_heap h.head) (fun x => by have := hp _ x; omega)).trans h.head, ⟨cur, (u.block _ (lt_of_heap hh) (fun x => by have := hp _ x; omega)).trans hh, fun i hi => ?_⟩, h.len, h.low⟩
  obtain ⟨r, c, row, h1, h2, h3, h4⟩ := ht i hi
  exact ⟨r, c, row, h1, (u.block _ (lt_of_heap h2) (fun x => by have := hp _ x; omega)).trans h2, h3, h4⟩
theorem RefAt.below (h : RefAt w bx gx cap n vs gt pt) (k : Below w.heap.size w w') : RefAt w' bx gx cap n vs gt pt :=
  h.keep (P := fun _ => False) (UpdP.of_below k) (fun _ x => x.elim)
theorem RefAt.head1 (h : RefAt w bx gx cap n vs gt pt) (gt' pt' : Nat) (hh : w'.heap[bx]? = some (.cells #[.slice (some ⟨gx, 0, none⟩) n cap, .int .i64 gt', .int .i64 pt'] 195)) (u : Upd bx w w') : RefAt w' bx gx cap n vs gt' pt' := by
  obtain ⟨cur, hc, ht⟩ := h.tab
  have hlow := h.low
  refine ⟨hh, ⟨cur, (u.block _ (lt_of_heap hc) (by omega)).trans hc, fun i hi => ?_⟩, h.len, h.low⟩
  obtain ⟨r, c, row, h1, h2, h3, h4⟩ := ht i hi
  exact ⟨r, c, row, h1, (u.block _ (lt_of_heap h2) (by omega)).trans h2, h3, h4⟩
theorem RefAt.get1 (h : RefAt w bx gx cap n vs gt pt) : RefAt (w.setCell ⟨bx, 1, none⟩ (.int .i64 ((gt : Int) + 1))) bx gx cap n vs (gt + 1) pt := by
  refine h.head1 (gt + 1) pt ?_ (Upd.setCell _ _ _ _)
  rw [setCell_eq_setRow w bx 1 _ _ _ _ h.head, setRow_heap w bx _ _ _ _ h.head]
  rfl
theorem RefAt.put1 (h : RefAt w bx gx cap n vs gt pt) : RefAt (w.setCell ⟨bx, 2, none⟩ (.int .i64 ((pt : Int) + 1))) bx gx cap n vs gt (pt + 1) := by
  refine h.head1 gt (pt + 1) ?_ (Upd.setCell _ _ _ _)
  rw [setCell_eq_setRow w bx 2 _ _ _ _ h.head, setRow_heap w bx _ _ _ _ h.head]
  rfl
/-- A new row in the table's place f. -/
theorem RefAt.lay (h : RefAt w bx gx cap n vs gt pt) (f : Nat) (ws : List Int) (gg c : Nat) (row : Array Value) (hf : f < n) (hl : ws.length = 32) (hg : w.heap[gg]? = some (.cells row 46 (0, 0))) (hb : bx < gg) (hne : gg ≠ gx)
    (hw : ∀ (j : Nat) (x : Int), ws[j]? = some x → row[j]? = some (.int .u64 x)) : RefAt (w.setCell ⟨gx, f, none⟩ (.slice (some ⟨gg, 0, none⟩) 32 c)) bx gx cap n (splice vs (f * 32) ws) gt pt := by
  obtain ⟨cur, hc, ht⟩ := h.tab
  have hlow := h.low
  refine ⟨(Below.heap_setCell _ _ _ _ (by show bx ≠ gx; omega)).trans h.head, ⟨cur.setIfInBounds f (.slice (some ⟨gg, 0, none⟩) 32 c), ?_, fun i hi => ?_⟩, by rw [splice_length _ _ _ (by rw [h.len, hl]; omega), h.len], h.low⟩
  · rw [setCell_eq_setRow w gx f _ _ _ _ hc, setRow_heap w gx _ _ _ _ hc]
  · rw [frame_splice vs ws n f i h.len hf hi hl]
    obtain ⟨r, c', row', h1, h2, h3, h4, h5⟩ := ht i hi
    have hi' : i < cur.size := (Array.getElem?_eq_some_iff.1 h1).1
    by_cases e : i = f
    · subst e
      refine ⟨gg, c, row, ?_, (Below.heap_setCell _ _ _ _ hne).trans hg, hb, hne, ?_⟩
      · simp [hi']
      · rw [if_pos rfl]; exact hw
    · refine ⟨r, c', row', ?_, (Below.heap_setCell _ _ _ _ h4).trans h2, h3, h4, ?_⟩
      · rw [Array.getElem?_setIfInBounds_ne (fun x => e x.symm)]; exact h1
      · rw [if_neg e]; exact h5
end
set_option maxRecDepth 100000 in
set_option maxHeartbeats 1000000 in
theorem rget_at (bx gx cap n : Nat) (vs : List Int) (gt pt : Nat) (f : Int) (w : World) (h : RefAt w bx gx cap n vs gt pt) (h0 : 0 ≤ f) (h1 : f < n) (hgt : gt ≤ 1000000000000) :
    Calls Tryz.prog 214 #[.pointer (some ⟨bx, 0, none⟩), .int .i64 f] w fun e w' => ∃ u, e = .returned (.tuple #[u, .int .i64 0]) ∧
      URow w.heap.size w' u (frameOf vs f.toNat) ∧ RefAt w' bx gx cap n vs (gt + 1) pt ∧ Upd bx w w' := by
  obtain ⟨f, rfl⟩ := nat_of f h0
  simp only [Int.toNat_natCast]
  have hfn : f < n := by omega
  obtain ⟨i0, hi0, hzz⟩ := Option.map_eq_some_iff.1 wordInfo
  simp only [Prod.mk.injEq] at hzz
  obtain ⟨hz0, hz1, hz2⟩ := hzz
  have hc0 := h.c0
  have hc1 := h.c1
  have hfz := h.free 1
  have hd0 := h.get1.c0
  obtain ⟨cur, hh, ht⟩ := h.get1.tab
  obtain ⟨r, c, row, q1, q2, q3, q4, q5⟩ := ht f hfn
  have hd1 : (w.setCell ⟨bx, 1, none⟩ (.int .i64 ((gt : Int) + 1))).cell? ⟨gx, f, none⟩ = some (.slice (some ⟨r, 0, none⟩) 32 c) := by rw [cell_of_heap hh]; exact q1
  have H1 : Hid _ := h.get1
  have HS : Hid ((w.setCell ⟨bx, 1, none⟩ (.int .i64 ((gt : Int) + 1))).heap.size = w.heap.size) := by show _ = _; simp [World.setCell]
  have HL : Hid _ := frameOf_length vs f n h.len hfn
  have hnews : ∀ (j : Nat) (u : Value), (uvs (frameOf vs f))[j]? = some u → (w.setCell ⟨bx, 1, none⟩ (.int .i64 ((gt : Int) + 1))).cell? ((⟨r, 0, none⟩ : Addr).add j) = some u := by
    intro j u hu
    obtain ⟨x, hx, rfl⟩ := uvs_get hu
    rw [add0, Nat.zero_add, cell_of_heap q2]
    exact q5 j x hx
  have HN : Hid _ := hnews
  have hown := World.ownsRow_nil (w.setCell ⟨bx, 1, none⟩ (.int .i64 ((gt : Int) + 1))) w.heap.size 46 1
  have hb := lt_of_heap h.head
  clear hnews ht q1 q2 q5 hh
  go_enter Tryz.func214, Tryz.ntmps214
  go_wp2_with (first
    | (at_builtin; refine wpList_append_lies _ rfl _ _ _ rfl w.heap.size 46 i0 _ 1 8 Tryz.underlying22 hi0 hz0 hz1 hz2 rfl (by omega) (.slice none 0 0) 0 [] rfl hown ⟨r, 0, none⟩ 32 c (uvs (frameOf vs f)) rfl (by rw [uvs_len, HL.out])
        HN.out (uvs_one _) (by omega) (by unfold maxLen; omega) (by omega) (by rw [HS.out]; omega) _ rfl ?_; intro gg cap2 w2 hown2 hgrow hat hlt2)
    | go_in)
  go_ret2
  have hbel : Below (w.setCell ⟨bx, 1, none⟩ (.int .i64 ((gt : Int) + 1))).heap.size _ w2 := below_grown hgrow (Nat.le_refl _) (fun g e => by simp [Value.ownBlock] at e)
  refine ⟨_, rfl, urow_of_own (by rw [HL.out]; simpa using hown2), (H1.out).below hbel, (Upd.setCell _ _ _ _).trans (Upd.of_below hbel)⟩
set_option maxRecDepth 100000 in
set_option maxHeartbeats 2000000 in
theorem rput_any (M bx gx cap n : Nat) (vs ws : List Int) (gt pt : Nat) (f : Int) (u : Value) (w : World) (h : RefAt w bx gx cap n vs gt pt) (h0 : 0 ≤ f) (h1 : f < n) (hpt : pt ≤ 1000000000000) (hu : URow M w u ws) (hl : ws.length = 32) :
    Calls Tryz.prog 139 #[.pointer (some ⟨bx, 0, none⟩), .int .i64 f, u] w fun e w' => e = .returned (.int .i64 0) ∧
      RefAt w' bx gx cap n (splice vs (f.toNat * 32) ws) gt (pt + 1) ∧ UpdP (fun k => k = bx ∨ k = gx) w w' := by
  obtain ⟨f, rfl⟩ := nat_of f h0
  simp only [Int.toNat_natCast]
  obtain ⟨i0, hi0, hzz⟩ := Option.map_eq_some_iff.1 wordInfo
  simp only [Prod.mk.injEq] at hzz
  obtain ⟨hz0, hz1, hz2⟩ := hzz
  obtain ⟨a, ucap, rfl, _, _, hf⟩ := hu
  obtain ⟨p, cur, rfl, hpM, hh, hcell⟩ := hf (by intro e; rw [e] at hl; simp at hl)
  rw [hl]
  have hfn : f < n := by omega
  have hc0 := h.c0
  have hc2 := h.c2
  have hfz := h.free 2
  have H1 : Hid _ := h.put1
  have hd0 := h.put1.c0
  have hlow := h.low
  have hbl := lt_of_heap h.head
  have hgl := h.glt
  have HS : Hid ((w.setCell ⟨bx, 2, none⟩ (.int .i64 ((pt : Int) + 1))).heap.size = w.heap.size) := by show _ = _; simp [World.setCell]
  have hnews : ∀ (j : Nat) (x : Value), (uvs ws)[j]? = some x → (w.setCell ⟨bx, 2, none⟩ (.int .i64 ((pt : Int) + 1))).drew.cell? ((⟨p, 0, none⟩ : Addr).add j) = some x := by
    intro j x hx
    obtain ⟨z, hz, rfl⟩ := uvs_get hx
    rw [add0, Nat.zero_add]
    show (w.setCell ⟨bx, 2, none⟩ (.int .i64 ((pt : Int) + 1))).cell? ⟨p, j, none⟩ = _
    rw [World.cell?_of_block (w := w) (a := ⟨p, j, none⟩) (Below.heap_setCell _ _ _ _ (by show p ≠ bx; intro e; subst e; have q := h.head; rw [hh] at q; injection q with q1; injection q1 with _ q2; exact absurd q2 (by decide))), cell_of_heap hh]
    exact hcell j z hz
  have HN : Hid _ := hnews
  have HL : Hid _ := hl
  have hown := World.ownsRow_nil (w.setCell ⟨bx, 2, none⟩ (.int .i64 ((pt : Int) + 1))).drew w.heap.size 46 1
  obtain ⟨W1, hW1⟩ : ∃ W, W = w.setCell ⟨bx, 2, none⟩ (.int .i64 ((pt : Int) + 1)) := ⟨_, rfl⟩
  have HU1 : Hid (Upd bx w W1) := by rw [hW1]; exact Upd.setCell _ _ _ _
  rw [← hW1] at H1 hd0 HS HN hown
  clear hnews hl hcell hh
  go_enter Tryz.func139, Tryz.ntmps139
  go_wp2_with fail
  rw [← hW1]
  clear hW1 hc0 hc2 hfz h
  refine wp_region_held_drew (S := fun w' => w'.cell? ⟨bx, 0, none⟩ = some (.slice (some ⟨gx, 0, none⟩) n cap)) (by kernel_rfl) hd0 (fun hHeld => ?_)
  refine wpAnyH_take (i := 0) (v := ?_) rfl (by kernel_rfl) (by kernel_rfl) (by kernel_rfl) (fun _ _ _ h => h) (Or.inl ⟨by kernel_rfl, ?_⟩) (by assumption) ?_
  rotate_left
  · (intro w hSw; (try dsimp only at hSw); go_simp) <;> with_reducible rfl
  (try simp only [Act.put, List.getElem_toArray, List.getElem_cons_zero, List.setIfInBounds_toArray, List.set_cons_zero, List.set_cons_succ])
  refine wpAnyH_take (i := 1) (v := ?_) rfl (by kernel_rfl) (by kernel_rfl) (by kernel_rfl) (fun _ _ _ h => h) (Or.inl ⟨by kernel_rfl, ?_⟩) (by assumption) ?_
  rotate_left
  · (intro w hSw; (try dsimp only at hSw); go_simp) <;> with_reducible rfl
  (try simp only [Act.put, List.getElem_toArray, List.getElem_cons_zero, List.getElem_cons_succ, List.setIfInBounds_toArray, List.set_cons_zero, List.set_cons_succ])
  refine wpAnyH_take (i := 2) (v := ?_) rfl (by kernel_rfl) (by kernel_rfl) (by kernel_rfl) (fun _ _ _ h => h) (Or.inl ⟨by kernel_rfl, ?_⟩) (by assumption) ?_
  rotate_left
  · (intro w hSw; (try dsimp only at hSw); go_simp) <;> with_reducible rfl
  (try simp only [Act.put, List.getElem_toArray, List.getElem_cons_zero, List.getElem_cons_succ, List.setIfInBounds_toArray, List.set_cons_zero, List.set_cons_succ])
  refine wpAnyH_take (i := 3) (v := ?_) rfl (by kernel_rfl) (by kernel_rfl) (by kernel_rfl) (fun _ _ _ h => h) (Or.inl ⟨by kernel_rfl, ?_⟩) (by assumption) ?_
  rotate_left
  · (intro w hSw; (try dsimp only at hSw); go_simp) <;> with_reducible rfl
  (try simp only [Act.put, List.getElem_toArray, List.getElem_cons_zero, List.getElem_cons_succ, List.setIfInBounds_toArray, List.set_cons_zero, List.set_cons_succ])
  refine wpAnyH_take (i := 4) (v := ?_) rfl (by kernel_rfl) (by kernel_rfl) (by kernel_rfl) (fun _ _ _ h => h) (Or.inl ⟨by kernel_rfl, ?_⟩) (by assumption) ?_
  rotate_left
  · (intro w hSw; (try dsimp only at hSw); go_simp) <;> with_reducible rfl
  (try simp only [Act.put, List.getElem_toArray, List.getElem_cons_zero, List.getElem_cons_succ, List.setIfInBounds_toArray, List.set_cons_zero, List.set_cons_succ])
  refine wpAnyH_take (i := 5) (v := ?_) rfl (by kernel_rfl) (by kernel_rfl) (by kernel_rfl) (fun _ _ _ h => h) (Or.inl ⟨by kernel_rfl, ?_⟩) (by assumption) ?_
  rotate_left
  · (intro w hSw; (try dsimp only at hSw); go_simp) <;> with_reducible rfl
  (try simp only [Act.put, List.getElem_toArray, List.getElem_cons_zero, List.getElem_cons_succ, List.setIfInBounds_toArray, List.set_cons_zero, List.set_cons_succ])
  refine wpAnyH_ready (rs := [6]) (by kernel_rfl) (by simp) ?_
  refine AllReadyH.cons rfl (fun K hK => ?_) AllReadyH.nil
  refine step_append_lies _ (by rfl) _ _ _ (by rfl) w.heap.size 46 i0 _ 1 8 Tryz.underlying22 hi0 hz0 hz1 hz2 rfl (by omega) (.slice none 0 0) 0 [] (by rfl) hown ⟨p, 0, none⟩ 32 ucap (uvs ws) (by rfl) (by rw [uvs_len, HL.out])
        HN.out (uvs_one _) (by omega) (by unfold maxLen; omega) (by omega) (by show w.heap.size ≤ W1.heap.size; rw [HS.out]; omega) _ rfl ?_
  intro gg cap2 w2 hown2 hgrow hat hlt2
  have hbel : Below W1.heap.size W1 w2 := by
    have := below_grown (B := W1.heap.size) hgrow (Nat.le_refl _) (fun g e => by simp [Value.ownBlock] at e)
    exact ⟨this.os, this.tape, this.output, this.size, this.block⟩
  have hR2 := (H1.out).below hbel
  have hc2 := hR2.c0
  obtain ⟨curT, hT, hTt⟩ := hR2.tab
  obtain ⟨r0, c0, row0, q1, _⟩ := hTt f hfn
  have ht2 : w2.cell? ⟨gx, f, none⟩ = some (.slice (some ⟨r0, 0, none⟩) 32 c0) := by rw [cell_of_heap hT]; exact q1
  have hz2 : w2.frozen? ⟨gx, f, none⟩ = false := frozen_of_heap hT
  have hf3 : (f : Int) < n := by omega
  refine hK.out _ _ hc2 (fun hHeld => ?_)
  clear hK K
  (try simp only [Act.put, List.getElem_toArray, List.getElem_cons_zero, List.getElem_cons_succ, List.setIfInBounds_toArray, List.set_cons_zero, List.set_cons_succ])
  refine wpAnyH_take (i := 7) (v := ?_) rfl (by kernel_rfl) (by kernel_rfl) (by kernel_rfl) (fun _ _ _ h => h) (Or.inl ⟨by kernel_rfl, ?_⟩) (by assumption) ?_
  rotate_left
  · (intro w hSw; (try dsimp only at hSw); go_simp) <;> with_reducible rfl
  (try simp only [Act.put, List.getElem_toArray, List.getElem_cons_zero, List.getElem_cons_succ, List.setIfInBounds_toArray, List.set_cons_zero, List.set_cons_succ])
  refine wpAnyH_ready (rs := [8]) (by kernel_rfl) (by simp) ?_
  refine AllReadyH.cons rfl (fun K hK => ?_) AllReadyH.nil
  go_simp
  refine hK.out _ _ (by rw [World.cell?_of_block (w := w2) (a := ⟨bx, 0, none⟩) (Below.heap_setCell _ _ _ _ (by show bx ≠ gx; omega))]; exact hc2) (fun hHeld => ?_)
  clear hK K
  (try simp only [Act.put, List.getElem_toArray, List.getElem_cons_zero, List.getElem_cons_succ, List.setIfInBounds_toArray, List.set_cons_zero, List.set_cons_succ])
  refine wpAnyH_done (by kernel_rfl) ?_ _
  go_wp2
  go_ret
  have hu2 := urow_of_own (zs := ws) (by rw [HL.out]; simpa using hown2)
  obtain ⟨a3, c3, e3, _, _, hf4⟩ := hu2
  rw [HL.out] at e3
  simp only [Value.slice.injEq] at e3
  obtain ⟨rfl, _, rfl⟩ := e3
  obtain ⟨g4, row4, e4, hg4, hh4, hw4⟩ := hf4 (by intro e; have := HL.out; rw [e] at this; simp at this)
  simp only [Option.some.injEq, Addr.mk.injEq] at e4
  obtain ⟨rfl, _⟩ := e4
  refine ⟨rfl, hR2.lay f ws gg cap2 row4 hfn HL.out hh4 (by omega) (by omega) hw4, ?_⟩
  exact (((HU1.out).p _ (Or.inl rfl)).trans (UpdP.of_below hbel)).trans ((Upd.setCell gx f _ _).p _ (Or.inr rfl))
end Di
end Go.Proofs.YtikjfdihocgfpaaGreatDoor
namespace Go.Proofs.YtikjfdihocgfpaaGreatDoor
open Go.RowKit
/-- A reference disk all of whose blocks lie below M. -/
def RefU (M : Nat) (w : World) (bx gx cap n : Nat) (vs : List Int) (gt pt : Nat) : Prop := ∃ wA, Di.RefAt wA bx gx cap n vs gt pt ∧ wA.heap.size ≤ M ∧ Below wA.heap.size wA w
section
variable {w w' : World} {M bx gx cap n gt pt : Nat} {vs : List Int}
theorem RefU.ref (h : RefU M w bx gx cap n vs gt pt) : Di.RefAt w bx gx cap n vs gt pt := by
  obtain ⟨wA, h1, _, h3⟩ := h
  exact h1.below h3
theorem RefU.below (h : RefU M w bx gx cap n vs gt pt) (hb : Below M w w') : RefU M w' bx gx cap n vs gt pt := by
  obtain ⟨wA, h1, h2, h3⟩ := h
  exact ⟨wA, h1, h2, h3.trans (hb.mono h2)⟩
theorem RefU.upd {g : Nat} (h : RefU M w bx gx cap n vs gt pt) (hu : Upd g w w') (hg : M ≤ g) (hs : M ≤ w.heap.size) : RefU M w' bx gx cap n vs gt pt := h.below (hu.below hg hs)
theorem refU_got (h : Di.RefAt w bx gx cap n vs gt pt) (h' : Di.RefAt w' bx gx cap n vs (gt + 1) pt) (hu : Upd bx w w') : RefU w.heap.size w' bx gx cap n vs (gt + 1) pt := by
  have hA := h.get1
  have hs : (w.setCell ⟨bx, 1, none⟩ (.int .i64 ((gt : Int) + 1))).heap.size = w.heap.size := by simp [World.setCell]
  refine ⟨_, hA, by rw [hs]; exact Nat.le_refl _, ⟨hu.os, hu.tape, hu.output, by rw [hs]; exact hu.size, fun k hk => ?_⟩⟩
  rw [hs] at hk
  by_cases e : k = bx
  · rw [e, h'.head, hA.head]
  · rw [hu.block k hk e]
    exact (Below.heap_setCell _ _ _ _ e).symm
/-- A row of 32 words that may be written, in block g. -/
def Rw (w : World) (g c : Nat) (xs : List Int) : Prop := xs.length = 32 ∧ 32 ≤ c ∧ c ≤ maxLen ∧ ∃ cur, w.heap[g]? = some (.cells cur 46 (0, 0)) ∧ ∀ (j : Nat) (x : Int), xs[j]? = some x → cur[j]? = some (.int .u64 x)
theorem Rw.urow {g c : Nat} {xs : List Int} (h : Rw w g c xs) : URow 0 w (.slice (some ⟨g, 0, none⟩) 32 c) xs := by
  obtain ⟨h1, h2, h3, cur, h4, h5⟩ := h
  exact ⟨_, c, by rw [h1], by rw [h1]; exact h2, h3, fun _ => ⟨g, cur, rfl, Nat.zero_le _, h4, h5⟩⟩
theorem rw_of {v : Value} {xs : List Int} (h : URow M w v xs) (hl : xs.length = 32) : ∃ g c, v = .slice (some ⟨g, 0, none⟩) 32 c ∧ M ≤ g ∧ Rw w g c xs := by
  obtain ⟨a, c, e, h1, h2, hf⟩ := h
  obtain ⟨g, cur, ea, hm, hh, hc⟩ := hf (by intro e; rw [e] at hl; simp at hl)
  rw [hl] at e h1
  exact ⟨g, c, by rw [e, ea], hm, hl, h1, h2, cur, hh, hc⟩
theorem Rw.cell {g c j : Nat} {xs : List Int} (h : Rw w g c xs) (hj : j < 32) : w.cell? ⟨g, j, none⟩ = some (.int .u64 (xs.getD j 0)) := by
  obtain ⟨h1, _, _, cur, h4, h5⟩ := h
  rw [cell_of_heap h4]
  exact h5 j _ (by rw [List.getD_eq_getElem?_getD, List.getElem?_eq_getElem (by omega)]; rfl)
theorem Rw.free {g c j : Nat} {xs : List Int} (h : Rw w g c xs) : w.frozen? ⟨g, j, none⟩ = false := by
  obtain ⟨h1, _, _, cur, h4, h5⟩ := h
  exact frozen_of_heap h4
theorem Rw.set {g c j : Nat} {xs : List Int} {x : Int} (h : Rw w g c xs) : Rw (w.setCell ⟨g, j, none⟩ (.int .u64 x)) g c (xs.set j x) := by
  obtain ⟨h1, h2, h3, cur, h4, h5⟩ := h
  refine ⟨by rw [List.length_set]; exact h1, h2, h3, cur.setIfInBounds j (.int .u64 x), ?_, fun k y hk => ?_⟩
  · rw [setCell_eq_setRow w g j _ _ _ _ h4, setRow_heap w g _ _ _ _ h4]
  · by_cases e : k = j
    · subst e
      have hk' : k < xs.length := by have := (List.getElem?_eq_some_iff.1 hk).1; rwa [List.length_set] at this
      have hc : k < cur.size := (Array.getElem?_eq_some_iff.1 (h5 k _ (List.getElem?_eq_getElem hk'))).1
      rw [List.getElem?_set_self hk'] at hk
      cases hk
      simp [hc]
    · rw [List.getElem?_set_ne (fun q => e q.symm)] at hk
      rw [Array.getElem?_setIfInBounds_ne (fun q => e q.symm)]
      exact h5 k y hk
theorem Rw.below {g c : Nat} {xs : List Int} (h : Rw w g c xs) (hb : Below w.heap.size w w') : Rw w' g c xs := by
  obtain ⟨h1, h2, h3, cur, h4, h5⟩ := h
  exact ⟨h1, h2, h3, cur, (hb.block g (lt_of_heap h4)).trans h4, h5⟩
theorem make_row (W : World) : (Instr.makeSlice 22 (.int .i64 32) (.int .i64 32)).run Tryz.prog W = .ok (.slice (some ⟨W.heap.size, 0, none⟩) 32 32) (W.alloc (.cells zc 46)) := by
  have := Bi.make_words 32 (by omega) W
  exact this
theorem rw_new (W : World) : Rw (W.alloc (.cells zc 46)) W.heap.size 32 (List.replicate 32 0) := by
  refine ⟨by simp, by omega, by unfold maxLen; omega, zc, heap_alloc_new _ _, fun j x hx => ?_⟩
  unfold zc
  have hj := (List.getElem?_eq_some_iff.1 hx).1
  rw [urow_get _ _ hj, List.getD_eq_getElem?_getD, hx]
  rfl
theorem rw_row (W : World) (xs : List Int) (hl : xs.length = 32) : Rw (W.alloc (.cells (urow xs) 46)) W.heap.size 32 xs := by
  refine ⟨hl, by omega, by unfold maxLen; omega, urow xs, heap_alloc_new _ _, fun j x hx => ?_⟩
  have hj := (List.getElem?_eq_some_iff.1 hx).1
  rw [urow_get _ _ hj, List.getD_eq_getElem?_getD, hx]
  rfl
/-- The reference disk, and how often it was asked at most. -/
def Rk (w : World) (bx gx cap n : Nat) (vs : List Int) (m : Nat) : Prop := ∃ gt pt, Di.RefAt w bx gx cap n vs gt pt ∧ gt ≤ m ∧ pt ≤ m
theorem Rk.below {m : Nat} (h : Rk w bx gx cap n vs m) (hb : Below w.heap.size w w') : Rk w' bx gx cap n vs m := by
  obtain ⟨gt, pt, h, h1, h2⟩ := h
  exact ⟨gt, pt, h.below hb, h1, h2⟩
theorem Rk.mono {m m' : Nat} (h : Rk w bx gx cap n vs m) (hm : m ≤ m') : Rk w bx gx cap n vs m' := by
  obtain ⟨gt, pt, h, h1, h2⟩ := h
  exact ⟨gt, pt, h, by omega, by omega⟩
theorem Rk.len {m : Nat} (h : Rk w bx gx cap n vs m) : vs.length = n * 32 := by
  obtain ⟨gt, pt, h, h1, h2⟩ := h
  exact h.len
set_option maxHeartbeats 1000000 in
theorem eget_at {m : Nat} (h : Rk w bx gx cap n vs m) (hm : m ≤ 950000000000) (b : Nat) (hb : b < n) :
    Calls Tryz.prog 151 #[ptr bx, .int .i64 (b : Int)] w fun e w' => ∃ g c, e = .returned (.slice (some ⟨g, 0, none⟩) 32 c) ∧ (w.heap.size ≤ g ∧ Rw w' g c (frameOf vs b) ∧ ∃ gt pt, RefU w.heap.size w' bx gx cap n vs gt pt ∧ gt ≤ m + 1 ∧ pt ≤ m + 1) ∧ Upd bx w w' := by
  obtain ⟨gt, pt, h, h1, h2⟩ := h
  have hG := Di.rget_at bx gx cap n vs gt pt b w h (by omega) (by omega) (by omega)
  simp only [Int.toNat_natCast] at hG
  have HH : Hid (Di.RefAt w bx gx cap n vs gt pt) := h
  have HL : Hid _ := frameOf_length vs b n h.len hb
  clear h
  go_enter Tryz.func151, Tryz.ntmps151
  go_wp2_with fail
  refine hG.mono ?_
  rintro e w1 ⟨u, rfl, hu, hr, hup⟩
  obtain ⟨g, c, rfl, hg, hrw⟩ := rw_of hu HL.out
  have HE : Hid (w.heap.size ≤ g ∧ Rw w1 g c (frameOf vs b) ∧ RefU w.heap.size w1 bx gx cap n vs (gt + 1) pt ∧ Upd bx w w1) := ⟨hg, hrw, refU_got HH.out hr hup, hup⟩
  clear hG hu hr hup hg hrw
  go_wp2
  go_ret
  exact ⟨g, c, rfl, ⟨HE.out.1, HE.out.2.1, gt + 1, pt, HE.out.2.2.1, by omega, by omega⟩, HE.out.2.2.2⟩
theorem eput_at {m g c : Nat} {xs : List Int} (h : Rk w bx gx cap n vs m) (hm : m ≤ 950000000000) (b : Nat) (hb : b < n) (hr : Rw w g c xs) :
    Calls Tryz.prog 139 #[ptr bx, .int .i64 (b : Int), .slice (some ⟨g, 0, none⟩) 32 c] w fun e w' => e = .returned (.int .i64 0) ∧ Rk w' bx gx cap n (splice vs (b * 32) xs) (m + 1) ∧ UpdP (fun k => k = bx ∨ k = gx) w w' := by
  obtain ⟨gt, pt, h, h1, h2⟩ := h
  have := Di.rput_any 0 bx gx cap n vs xs gt pt b _ w h (by omega) (by omega) (by omega) hr.urow hr.1
  refine this.mono ?_
  rintro e w' ⟨he, hr', hu⟩
  exact ⟨he, ⟨gt, pt + 1, by simpa using hr', by omega, by omega⟩, hu⟩
end
end Go.Proofs.YtikjfdihocgfpaaGreatDoor
