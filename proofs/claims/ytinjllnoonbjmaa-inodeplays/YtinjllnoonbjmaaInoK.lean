/- Package inode: a file in the heap: open, has. -/
import Derived.Test.YtinjllnoonbjmaaInoJ
import Derived.Lib.MinMax
namespace Go.Proofs.Ytinjllnoonbjmaa
open Go.RowKit
set_option linter.unusedVariables false

/-- Where a file's parts lie. -/
structure FX where
  base : Nat
  bf : Nat
  bd : Nat
  hi : Nat
  gi : Nat
  hb : Nat
  gb : Nat
  B : Nat
  G : Nat
  n : Nat
  i : Nat
/-- A file's cells. -/
def fRow (X : FX) (kd lk sz : Int) (bl : List Nat) : Array Value := #[ptr X.bd, ptr X.hi, ptr X.hb, .int .i64 (X.i : Int), .int .i64 kd, .int .i64 lk, .int .i64 sz] ++ irow (ints bl)
/-- A file: what its draft shall make of the disk's words vs is ws. -/
structure FlAt (w : World) (X : FX) (vs ws : List Int) (m : Nat) (iw bw : List Nat) (kd lk sz : Int) (bl : List Nat) : Prop where
  head : w.heap[X.bf]? = some (.cells (fRow X kd lk sz bl) 95)
  dr : Dr w X.base X.bd X.B X.G X.n vs ws m
  bm : Bms w X.base X.hi X.gi X.hb X.gb X.n iw bw
  bl6 : bl.length = 6
  lo : X.base ≤ X.bf
/-- What a file's calls may touch. -/
abbrev Fr (X : FX) (w w' : World) : Prop := UpdP (fun k => k = X.B ∨ X.base ≤ k) w w'
theorem DT.fr {X : FX} {w w' : World} (h : DT X.base X.B w w') : Fr X w w' := ⟨h.os, h.tape, h.output, h.size, fun k hk hg => h.block k hk (fun e => hg (Or.inl e)) (Or.inl (by rcases Nat.lt_or_ge k X.base with q | q; exact q; exact absurd (Or.inr q) hg))⟩
theorem Upd.fr {X : FX} {w w' : World} {g : Nat} (h : Upd g w w') (hg : X.base ≤ g) : Fr X w w' := h.p _ (Or.inr hg)
section
variable {w w' : World} {X : FX} {vs ws : List Int} {m : Nat} {iw bw : List Nat} {kd lk sz : Int} {bl : List Nat}
theorem FlAt.low (h : FlAt w X vs ws m iw bw kd lk sz bl) : X.B < X.base ∧ X.G < X.base := by
  obtain ⟨_, _, h⟩ := h.dr
  exact h.low
theorem FlAt.c (h : FlAt w X vs ws m iw bw kd lk sz bl) : w.cell? ⟨X.bf, 0, none⟩ = some (ptr X.bd) ∧ w.cell? ⟨X.bf, 1, none⟩ = some (ptr X.hi) ∧ w.cell? ⟨X.bf, 2, none⟩ = some (ptr X.hb) ∧ w.cell? ⟨X.bf, 3, none⟩ = some (.int .i64 (X.i : Int)) ∧ w.cell? ⟨X.bf, 4, none⟩ = some (.int .i64 kd) ∧ w.cell? ⟨X.bf, 5, none⟩ = some (.int .i64 lk) ∧ w.cell? ⟨X.bf, 6, none⟩ = some (.int .i64 sz) := by
  simp only [cell_of_heap h.head, fRow]
  refine ⟨?_, ?_, ?_, ?_, ?_, ?_, ?_⟩ <;> simp [Array.getElem?_append]
theorem FlAt.blk (h : FlAt w X vs ws m iw bw kd lk sz bl) {k : Nat} (hk : k < 6) : w.cell? ⟨X.bf, 7 + k, none⟩ = some (.int .i64 ((bl.getD k 0 : Nat) : Int)) := by
  rw [cell_of_heap h.head, fRow, Array.getElem?_append_right (by simp)]
  have : (irow (ints bl))[7 + k - (#[ptr X.bd, ptr X.hi, ptr X.hb, .int .i64 (X.i : Int), .int .i64 kd, .int .i64 lk, .int .i64 sz] : Array Value).size]? = (irow (ints bl))[k]? := by
    congr 1
    simp
  rw [this, irow_get _ _ (by rw [ints_len, h.bl6]; exact hk)]
  have hb := h.bl6
  simp [ints, hb, hk]
theorem FlAt.free (h : FlAt w X vs ws m iw bw kd lk sz bl) (k : Nat) : w.frozen? ⟨X.bf, k, none⟩ = false := frozen_of_heap h.head
theorem FlAt.notD (h : FlAt w X vs ws m iw bw kd lk sz bl) : ¬ IsD w X.bf := not_isD h.head (by decide)
theorem FlAt.below (h : FlAt w X vs ws m iw bw kd lk sz bl) (hb : Below w.heap.size w w') : FlAt w' X vs ws m iw bw kd lk sz bl := ⟨(hb.block _ (lt_of_heap h.head)).trans h.head, h.dr.below hb, h.bm.below hb, h.bl6, h.lo⟩
/-- .. behind a call of its draft's. -/
theorem FlAt.dt {us : List Int} (h : FlAt w X vs ws m iw bw kd lk sz bl) (hd : Dr w' X.base X.bd X.B X.G X.n vs us m) (ht : DT X.base X.B w w') : FlAt w' X vs us m iw bw kd lk sz bl :=
  ⟨ht.other h.head (by have := h.low; have := h.lo; omega) (by decide), hd, h.bm.dt ht h.low.1, h.bl6, h.lo⟩
theorem fRow_set {k b : Nat} (hb : bl.length = 6) (hk : k < 6) : (fRow X kd lk sz bl).setIfInBounds (7 + k) (.int .i64 ((b : Nat) : Int)) = fRow X kd lk sz (bl.set k b) := by
  unfold fRow
  apply Array.ext'
  rw [Array.toList_setIfInBounds, Array.toList_append, Array.toList_append]
  have e : ints (bl.set k b) = (ints bl).set k (b : Int) := by simp [ints, List.map_set]
  rw [e, ← irow_set, Array.toList_setIfInBounds]
  rw [List.set_append_right _ _ (by simp)]
  congr 2
  simp
/-- A block's number is laid. -/
theorem FlAt.setb {k b : Nat} (h : FlAt w X vs ws m iw bw kd lk sz bl) (hk : k < 6) : FlAt (w.setCell ⟨X.bf, 7 + k, none⟩ (.int .i64 ((b : Nat) : Int))) X vs ws m iw bw kd lk sz (bl.set k b) ∧ Fr X w (w.setCell ⟨X.bf, 7 + k, none⟩ (.int .i64 ((b : Nat) : Int))) := by
  have hu : Upd X.bf w (w.setCell ⟨X.bf, 7 + k, none⟩ (.int .i64 ((b : Nat) : Int))) := Upd.setCell _ _ _ _
  refine ⟨⟨?_, h.dr.other hu h.lo h.notD, h.bm.other hu (fun cs => ?_), by rw [List.length_set]; exact h.bl6, h.lo⟩, hu.fr h.lo⟩
  · rw [setCell_eq_setRow w X.bf _ _ _ _ _ h.head, setRow_heap w X.bf _ _ _ _ h.head, fRow_set h.bl6 hk]
  · rw [h.head]
    constructor <;> (intro e; simp only [Option.some.injEq, Obj.cells.injEq] at e; exact absurd e.2.1 (by decide))
/-- Its size is. -/
theorem FlAt.sets {s : Int} (h : FlAt w X vs ws m iw bw kd lk sz bl) : FlAt (w.setCell ⟨X.bf, 6, none⟩ (.int .i64 s)) X vs ws m iw bw kd lk s bl ∧ Fr X w (w.setCell ⟨X.bf, 6, none⟩ (.int .i64 s)) := by
  have hu : Upd X.bf w (w.setCell ⟨X.bf, 6, none⟩ (.int .i64 s)) := Upd.setCell _ _ _ _
  refine ⟨⟨?_, h.dr.other hu h.lo h.notD, h.bm.other hu (fun cs => ?_), h.bl6, h.lo⟩, hu.fr h.lo⟩
  · rw [setCell_eq_setRow w X.bf _ _ _ _ _ h.head, setRow_heap w X.bf _ _ _ _ h.head]
    have e : (fRow X kd lk sz bl).setIfInBounds 6 (.int .i64 s) = fRow X kd lk s bl := by
      unfold fRow
      apply Array.ext'
      simp
    rw [e]
  · rw [h.head]
    constructor <;> (intro e; simp only [Option.some.injEq, Obj.cells.injEq] at e; exact absurd e.2.1 (by decide))
/-- Its bitmap of blocks is changed. -/
theorem FlAt.setbw {bw' : List Nat} (h : FlAt w X vs ws m iw bw kd lk sz bl) (hb : Bi.BmAt w' X.hb X.gb X.n bw') (hu : Upd X.gb w w') : FlAt w' X vs ws m iw bw' kd lk sz bl ∧ Fr X w w' := by
  have hne : ∀ {k : Nat} {cs : Array Value} {t : TypeId}, w.heap[k]? = some (.cells cs t (0, 0)) → t ≠ 99 → w'.heap[k]? = some (.cells cs t (0, 0)) := by
    intro k cs t hk ht
    rw [hu.block k (lt_of_heap hk) (fun e => by
      rw [e, h.bm.bb.row] at hk
      simp only [Option.some.injEq, Obj.cells.injEq] at hk
      exact ht hk.2.1.symm)]
    exact hk
  refine ⟨⟨hne h.head (by decide), h.dr.other hu h.bm.lo.2.2.2 (not_isD h.bm.bb.row (by decide)), ⟨h.bm.bi.keep ((hne h.bm.bi.head (by decide)).trans h.bm.bi.head.symm) (hu.block _ h.bm.bi.ltg h.bm.ne), hb, h.bm.lo, h.bm.ne⟩, h.bl6, h.lo⟩, hu.fr h.bm.lo.2.2.2⟩
theorem FlAt.setiw {iw' : List Nat} (h : FlAt w X vs ws m iw bw kd lk sz bl) (hb : Bi.BmAt w' X.hi X.gi 32 iw') (hu : Upd X.gi w w') : FlAt w' X vs ws m iw' bw kd lk sz bl ∧ Fr X w w' := by
  have hne : ∀ {k : Nat} {cs : Array Value} {t : TypeId}, w.heap[k]? = some (.cells cs t (0, 0)) → t ≠ 99 → w'.heap[k]? = some (.cells cs t (0, 0)) := by
    intro k cs t hk ht
    rw [hu.block k (lt_of_heap hk) (fun e => by
      rw [e, h.bm.bi.row] at hk
      simp only [Option.some.injEq, Obj.cells.injEq] at hk
      exact ht hk.2.1.symm)]
    exact hk
  refine ⟨⟨hne h.head (by decide), h.dr.other hu h.bm.lo.2.1 (not_isD h.bm.bi.row (by decide)), ⟨hb, h.bm.bb.keep ((hne h.bm.bb.head (by decide)).trans h.bm.bb.head.symm) (hu.block _ h.bm.bb.ltg (Ne.symm h.bm.ne)), h.bm.lo, h.bm.ne⟩, h.bl6, h.lo⟩, hu.fr h.bm.lo.2.1⟩

set_option maxHeartbeats 1000000 in
set_option maxRecDepth 100000 in
theorem fhas_at (h : FlAt w X vs ws m iw bw kd lk sz bl) (k : Nat) (hk : k < 6) :
    Calls Try.prog 72 #[ptr X.bf, .int .i64 (k : Int)] w fun e w' => e = .returned (.bool (isDat X.n (bl.getD k 0))) ∧ Below w.heap.size w w' := by
  obtain ⟨c0, c1, c2, c3, c4, c5, c6⟩ := h.c
  have cb := h.blk hk
  have hD := isData_at (h.bm.below (Di.drewN_below (w := w) ⟨1, rfl⟩)) (bl.getD k 0)
  have HB : Hid (Below w.heap.size w w.drew) := Di.drewN_below (w := w) ⟨1, rfl⟩
  generalize bl.getD k 0 = b at *
  have hki : (k : Int) < 6 := by omega
  obtain ⟨bf, hbf⟩ : ∃ b, b = X.bf := ⟨_, rfl⟩
  obtain ⟨ph, hph⟩ : ∃ b, b = X.hi := ⟨_, rfl⟩
  obtain ⟨pb, hpb⟩ : ∃ b, b = X.hb := ⟨_, rfl⟩
  rw [← hbf] at c1 c2 cb ⊢
  rw [← hph] at c1 hD
  rw [← hpb] at c2 hD
  have hs : w.cell? ⟨bf, 1, none⟩ = some (ptr ph) ∧ w.cell? ⟨bf, 2, none⟩ = some (ptr pb) ∧ w.cell? ⟨bf, 7 + k, none⟩ = some (.int .i64 (b : Int)) := ⟨c1, c2, cb⟩
  clear h c0 c1 c2 c3 c4 c5 c6 cb hbf hph hpb
  go_enter Try.func72, Try.ntmps72
  go_wp2_with fail
  refine wp_region_held_drew (S := fun w' => w'.cell? ⟨bf, 1, none⟩ = some (ptr ph) ∧ w'.cell? ⟨bf, 2, none⟩ = some (ptr pb) ∧ w'.cell? ⟨bf, 7 + k, none⟩ = some (.int .i64 (b : Int))) (by kernel_rfl) hs (fun hHeld => ?_)
  refine wpAnyH_take (i := 0) (v := ?_) rfl (by kernel_rfl) (by kernel_rfl) (by kernel_rfl) (fun _ _ _ h => h) (Or.inl ⟨by kernel_rfl, ?_⟩) (by assumption) ?_
  rotate_left
  · (intro w hSw; (try dsimp only at hSw); go_simp) <;> with_reducible rfl
  (try simp only [Act.put, List.getElem_toArray, List.getElem_cons_zero, List.setIfInBounds_toArray, List.set_cons_zero, List.set_cons_succ])
  refine wpAnyH_take (i := 1) (v := ?_) rfl (by kernel_rfl) (by kernel_rfl) (by kernel_rfl) (fun _ _ _ h => h) (Or.inl ⟨by kernel_rfl, ?_⟩) (by assumption) ?_
  rotate_left
  · (intro w hSw; (try dsimp only at hSw); go_simp) <;> with_reducible rfl
  (try simp only [Act.put, List.getElem_toArray, List.getElem_cons_zero, List.getElem_cons_succ, List.setIfInBounds_toArray, List.set_cons_zero, List.set_cons_succ])
  refine wpAnyH_take (i := 2) (v := ?_) rfl (by kernel_rfl) (by kernel_rfl) (by kernel_rfl) (fun _ _ _ h => h) (Or.inl ⟨by kernel_rfl, ?_⟩) (by assumption) ?_
  rotate_left
  · (intro w hSw; (try dsimp only at hSw); go_simp) <;> with_reducible rfl
  (try simp only [Act.put, List.getElem_toArray, List.getElem_cons_zero, List.getElem_cons_succ, List.setIfInBounds_toArray, List.set_cons_zero, List.set_cons_succ])
  refine wpAnyH_take (i := 3) (v := ?_) rfl (by kernel_rfl) (by kernel_rfl) (by kernel_rfl) (fun _ _ _ h => h) (Or.inl ⟨by kernel_rfl, ?_⟩) (by assumption) ?_
  rotate_left
  · (intro w hSw; (try dsimp only at hSw); go_simp) <;> with_reducible rfl
  (try simp only [Act.put, List.getElem_toArray, List.getElem_cons_zero, List.getElem_cons_succ, List.setIfInBounds_toArray, List.set_cons_zero, List.set_cons_succ])
  refine wpAnyH_take (i := 4) (v := ?_) rfl (by kernel_rfl) (by kernel_rfl) (by kernel_rfl) (fun _ _ _ h => h) (Or.inl ⟨by kernel_rfl, ?_⟩) (by assumption) ?_
  rotate_left
  · (intro w hSw; (try dsimp only at hSw); go_simp) <;> with_reducible rfl
  (try simp only [Act.put, List.getElem_toArray, List.getElem_cons_zero, List.getElem_cons_succ, List.setIfInBounds_toArray, List.set_cons_zero, List.set_cons_succ])
  refine wpAnyH_take (i := 5) (v := ?_) rfl (by kernel_rfl) (by kernel_rfl) (by kernel_rfl) (fun _ _ _ h => h) (Or.inl ⟨by kernel_rfl, ?_⟩) (by assumption) ?_
  rotate_left
  · (intro w hSw; (try dsimp only at hSw); go_simp) <;> with_reducible rfl
  (try simp only [Act.put, List.getElem_toArray, List.getElem_cons_zero, List.getElem_cons_succ, List.setIfInBounds_toArray, List.set_cons_zero, List.set_cons_succ])
  refine wpAnyH_take (i := 6) (v := ?_) rfl (by kernel_rfl) (by kernel_rfl) (by kernel_rfl) (fun _ _ _ h => h) (Or.inl ⟨by kernel_rfl, ?_⟩) (by assumption) ?_
  rotate_left
  · (intro w hSw; (try dsimp only at hSw); go_simp) <;> with_reducible rfl
  (try simp only [Act.put, List.getElem_toArray, List.getElem_cons_zero, List.getElem_cons_succ, List.setIfInBounds_toArray, List.set_cons_zero, List.set_cons_succ])
  refine wpAnyH_take (i := 7) (v := ?_) rfl (by kernel_rfl) (by kernel_rfl) (by kernel_rfl) (fun _ _ _ h => h) (Or.inl ⟨by kernel_rfl, ?_⟩) (by assumption) ?_
  rotate_left
  · (intro w hSw; (try dsimp only at hSw); go_simp) <;> with_reducible rfl
  (try simp only [Act.put, List.getElem_toArray, List.getElem_cons_zero, List.getElem_cons_succ, List.setIfInBounds_toArray, List.set_cons_zero, List.set_cons_succ])
  refine wpAnyH_take (i := 8) (v := ?_) rfl (by kernel_rfl) (by kernel_rfl) (by kernel_rfl) (fun _ _ _ h => h) (Or.inl ⟨by kernel_rfl, ?_⟩) (by assumption) ?_
  rotate_left
  · (intro w hSw; (try dsimp only at hSw); go_simp) <;> with_reducible rfl
  (try simp only [Act.put, List.getElem_toArray, List.getElem_cons_zero, List.getElem_cons_succ, List.setIfInBounds_toArray, List.set_cons_zero, List.set_cons_succ])
  refine wpAnyH_take (i := 9) (v := ?_) rfl (by kernel_rfl) (by kernel_rfl) (by kernel_rfl) (fun _ _ _ h => h) (Or.inl ⟨by kernel_rfl, ?_⟩) (by assumption) ?_
  rotate_left
  · (intro w hSw; (try dsimp only at hSw); go_simp) <;> with_reducible rfl
  (try simp only [Act.put, List.getElem_toArray, List.getElem_cons_zero, List.getElem_cons_succ, List.setIfInBounds_toArray, List.set_cons_zero, List.set_cons_succ])
  refine wpAnyH_take (i := 10) (v := ?_) rfl (by kernel_rfl) (by kernel_rfl) (by kernel_rfl) (fun _ _ _ h => h) (Or.inl ⟨by kernel_rfl, ?_⟩) (by assumption) ?_
  rotate_left
  · (intro w hSw; (try dsimp only at hSw); go_simp) <;> with_reducible rfl
  (try simp only [Act.put, List.getElem_toArray, List.getElem_cons_zero, List.getElem_cons_succ, List.setIfInBounds_toArray, List.set_cons_zero, List.set_cons_succ])
  refine wpAnyH_ready (rs := [11]) (by kernel_rfl) (by simp) ?_
  refine AllReadyH.cons rfl (fun K hK => ?_) AllReadyH.nil
  go_simp
  refine hD.mono ?_
  rintro e w1 ⟨rfl, hb1⟩
  have HB1 : Hid (Below w.heap.size w w1) := HB.out.trans (hb1.mono HB.out.size)
  have hs1 : w1.cell? ⟨bf, 1, none⟩ = some (ptr ph) ∧ w1.cell? ⟨bf, 2, none⟩ = some (ptr pb) ∧ w1.cell? ⟨bf, 7 + k, none⟩ = some (.int .i64 (b : Int)) := ⟨(HB1.out.cell (cell_lt hs.1)).trans hs.1, (HB1.out.cell (cell_lt hs.2.1)).trans hs.2.1, (HB1.out.cell (cell_lt hs.2.2)).trans hs.2.2⟩
  clear hD hb1
  refine hK.out _ _ hs1 (fun hHeld => ?_)
  clear hK K
  (try simp only [Act.put, List.getElem_toArray, List.getElem_cons_zero, List.getElem_cons_succ, List.setIfInBounds_toArray, List.set_cons_zero, List.set_cons_succ])
  refine wpAnyH_take (i := 12) (v := ?_) rfl (by kernel_rfl) (by kernel_rfl) (by kernel_rfl) (fun _ _ _ h => h) (Or.inl ⟨by kernel_rfl, ?_⟩) (by assumption) ?_
  rotate_left
  · (intro w hSw; (try dsimp only at hSw); go_simp) <;> with_reducible rfl
  (try simp only [Act.put, List.getElem_toArray, List.getElem_cons_zero, List.getElem_cons_succ, List.setIfInBounds_toArray, List.set_cons_zero, List.set_cons_succ])
  refine wpAnyH_done (by kernel_rfl) ?_ _
  go_wp2
  go_ret
  exact ⟨rfl, HB1.out⟩
end
end Go.Proofs.Ytinjllnoonbjmaa
