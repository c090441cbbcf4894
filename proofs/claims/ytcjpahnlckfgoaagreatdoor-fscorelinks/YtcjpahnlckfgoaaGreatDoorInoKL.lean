/- Package inode: a file in the heap: open, has. -/
/- Package inode: open. -/
/- Package inode: a file's take, drop, lacks, close. -/
import Derived.Test.YtcjpahnlckfgoaaGreatDoorInoIJ
import Derived.Lib.MinMax
namespace Go.Proofs.YtcjpahnlckfgoaaGreatDoor
open Go.RowKit
set_option linter.unusedVariables false

/-- Where a file's parts lie. -/
structure FX where
  base : Nat
  bf : Nat
  bd : Nat
  hi : Nat
  gi : Nat
  hb : Nat
  gb : Nat
  B : Sto
  n : Nat
  i : Nat
/-- A file's cells. -/
def fRow (X : FX) (kd lk sz : Int) (bl : List Nat) : Array Value := #[ptr X.bd, ptr X.hi, ptr X.hb, .int .i64 (X.i : Int), .int .i64 kd, .int .i64 lk, .int .i64 sz] ++ irow (ints bl)
/-- A file: what its draft shall make of the disk's words vs is ws. -/
structure FlAt (w : World) (X : FX) (vs ws : List Int) (m : Nat) (iw bw : List Nat) (kd lk sz : Int) (bl : List Nat) : Prop where
  head : w.heap[X.bf]? = some (.cells (fRow X kd lk sz bl) 123)
  dr : Dr w X.base X.bd X.B X.n vs ws m
  bm : Bms w X.base X.hi X.gi X.hb X.gb X.n iw bw
  bl6 : bl.length = 6
  lo : X.base ≤ X.bf
/-- What a file's calls may touch. -/
abbrev Fr (X : FX) (w w' : World) : Prop := SU X.B.lo (fun k => X.base ≤ k) w w'
theorem DT.fr {X : FX} {w w' : World} (h : DT X.base X.B w w') : Fr X w w' := ⟨h.os, h.tape, h.output, h.size, fun k hk hs hg => h.block k hk hs (Or.inl (by omega))⟩
theorem Upd.fr {X : FX} {w w' : World} {g : Nat} (h : Upd g w w') (hg : X.base ≤ g) : Fr X w w' := SU.of_upd h hg
section
variable {w w' : World} {X : FX} {vs ws : List Int} {m : Nat} {iw bw : List Nat} {kd lk sz : Int} {bl : List Nat}
theorem FlAt.c (h : FlAt w X vs ws m iw bw kd lk sz bl) : w.cell? ⟨X.bf, 0, none⟩ = some (ptr X.bd) ∧ w.cell? ⟨X.bf, 1, none⟩ = some (ptr X.hi) ∧ w.cell? ⟨X.bf, 2, none⟩ = some (ptr X.hb) ∧ w.cell? ⟨X.bf, 3, none⟩ = some (.int .i64 (X.i : Int)) ∧ w.cell? ⟨X.bf, 4, none⟩ = some (.int .i64 kd) ∧ w.cell? ⟨X.bf, 5, none⟩ = some (.int .i64 lk) ∧ w.cell? ⟨X.bf, 6, none⟩ = some (.int .i64 sz) := by
  simp only [cell_of_heap h.head, fRow]
  refine ⟨?_, ?_, ?_, ?_, ?_, ?_, ?_⟩ <;> simp [Array.getElem?_append]
theorem FlAt.blk (h : FlAt w X vs ws m iw bw kd lk sz bl) {k : Nat} (hk : k < 6) : w.cell? ⟨X.bf, 7 + k, none⟩ = some (.int .i64 ((bl.getD k 0 : Nat) : Int)) := by
  rw [cell_of_heap h.head, fRow, Array.getElem?_append_right (by simp)]
  have : (irow (ints bl))[7 + k - (#[ptr X.bd, ptr X.hi, ptr X.hb, .int .i64 (X.i : Int), .int .i64 kd, .int .i64 lk, .int .i64 sz] : Array Value).size]? = (irow (ints bl))[k]? := by
    congr 1
    simp
  rw [this, irow_get _ _ (by rw [ints_len, h.bl6]; exact hk)]
  have hb := h.bl6
  simp [ints, hb, hk]
theorem FlAt.free (h : FlAt w X vs ws m iw bw kd lk sz bl) (k : Nat) : w.frozen? ⟨X.bf, k, none⟩ = false := frozen_of_heap h.head
theorem FlAt.notD (h : FlAt w X vs ws m iw bw kd lk sz bl) : ¬ IsD w X.bf ∧ ¬ IsSt w X.bf := not_isD h.head (by decide)
theorem FlAt.below (h : FlAt w X vs ws m iw bw kd lk sz bl) (hb : Below w.heap.size w w') : FlAt w' X vs ws m iw bw kd lk sz bl := ⟨(hb.block _ (lt_of_heap h.head)).trans h.head, h.dr.below hb, h.bm.below hb, h.bl6, h.lo⟩
/-- .. behind a call of its draft's. -/
theorem FlAt.dt {us : List Int} (h : FlAt w X vs ws m iw bw kd lk sz bl) (hd : Dr w' X.base X.bd X.B X.n vs us m) (ht : DT X.base X.B w w') : FlAt w' X vs us m iw bw kd lk sz bl :=
  ⟨ht.other h.head (by decide) (by decide), hd, h.bm.dt ht, h.bl6, h.lo⟩
theorem fRow_set {k b : Nat} (hb : bl.length = 6) (hk : k < 6) : (fRow X kd lk sz bl).setIfInBounds (7 + k) (.int .i64 ((b : Nat) : Int)) = fRow X kd lk sz (bl.set k b) := by
  unfold fRow
  apply Array.ext'
  rw [Array.toList_setIfInBounds, Array.toList_append, Array.toList_append]
  have e : ints (bl.set k b) = (ints bl).set k (b : Int) := by simp [ints, List.map_set]
  rw [e, ← irow_set, Array.toList_setIfInBounds]
  rw [List.set_append_right _ _ (by simp)]
  congr 2
  simp
/-- A block's number is laid. -/
theorem FlAt.setb {k b : Nat} (h : FlAt w X vs ws m iw bw kd lk sz bl) (hk : k < 6) : FlAt (w.setCell ⟨X.bf, 7 + k, none⟩ (.int .i64 ((b : Nat) : Int))) X vs ws m iw bw kd lk sz (bl.set k b) ∧ Fr X w (w.setCell ⟨X.bf, 7 + k, none⟩ (.int .i64 ((b : Nat) : Int))) := by
  have hu : Upd X.bf w (w.setCell ⟨X.bf, 7 + k, none⟩ (.int .i64 ((b : Nat) : Int))) := Upd.setCell _ _ _ _
  refine ⟨⟨?_, h.dr.other hu h.lo h.notD, h.bm.other hu (fun cs => ?_), by rw [List.length_set]; exact h.bl6, h.lo⟩, hu.fr h.lo⟩
  · rw [setCell_eq_setRow w X.bf _ _ _ _ _ h.head, setRow_heap w X.bf _ _ _ _ h.head, fRow_set h.bl6 hk]
  · rw [h.head]
    constructor <;> (intro e; simp only [Option.some.injEq, Obj.cells.injEq] at e; exact absurd e.2.1 (by decide))
/-- Its size is. -/
theorem FlAt.sets {s : Int} (h : FlAt w X vs ws m iw bw kd lk sz bl) : FlAt (w.setCell ⟨X.bf, 6, none⟩ (.int .i64 s)) X vs ws m iw bw kd lk s bl ∧ Fr X w (w.setCell ⟨X.bf, 6, none⟩ (.int .i64 s)) := by
  have hu : Upd X.bf w (w.setCell ⟨X.bf, 6, none⟩ (.int .i64 s)) := Upd.setCell _ _ _ _
  refine ⟨⟨?_, h.dr.other hu h.lo h.notD, h.bm.other hu (fun cs => ?_), h.bl6, h.lo⟩, hu.fr h.lo⟩
  · rw [setCell_eq_setRow w X.bf _ _ _ _ _ h.head, setRow_heap w X.bf _ _ _ _ h.head]
    have e : (fRow X kd lk sz bl).setIfInBounds 6 (.int .i64 s) = fRow X kd lk s bl := by
      unfold fRow
      apply Array.ext'
      simp
    rw [e]
  · rw [h.head]
    constructor <;> (intro e; simp only [Option.some.injEq, Obj.cells.injEq] at e; exact absurd e.2.1 (by decide))
/-- Its bitmap of blocks is changed. -/
theorem FlAt.setbw {bw' : List Nat} (h : FlAt w X vs ws m iw bw kd lk sz bl) (hb : Bi.BmAt w' X.hb X.gb X.n bw') (hu : Upd X.gb w w') : FlAt w' X vs ws m iw bw' kd lk sz bl ∧ Fr X w w' := by
  have hne : ∀ {k : Nat} {cs : Array Value} {t : TypeId}, w.heap[k]? = some (.cells cs t (0, 0)) → t ≠ 103 → w'.heap[k]? = some (.cells cs t (0, 0)) := by
    intro k cs t hk ht
    rw [hu.block k (lt_of_heap hk) (fun e => by
      rw [e, h.bm.bb.row] at hk
      simp only [Option.some.injEq, Obj.cells.injEq] at hk
      exact ht hk.2.1.symm)]
    exact hk
  refine ⟨⟨hne h.head (by decide), h.dr.other hu h.bm.lo.2.2.2 (not_isD h.bm.bb.row (by decide)), ⟨h.bm.bi.keep ((hne h.bm.bi.head (by decide)).trans h.bm.bi.head.symm) (hu.block _ h.bm.bi.ltg h.bm.ne), hb, h.bm.lo, h.bm.ne⟩, h.bl6, h.lo⟩, hu.fr h.bm.lo.2.2.2⟩
theorem FlAt.setiw {iw' : List Nat} (h : FlAt w X vs ws m iw bw kd lk sz bl) (hb : Bi.BmAt w' X.hi X.gi 32 iw') (hu : Upd X.gi w w') : FlAt w' X vs ws m iw' bw kd lk sz bl ∧ Fr X w w' := by
  have hne : ∀ {k : Nat} {cs : Array Value} {t : TypeId}, w.heap[k]? = some (.cells cs t (0, 0)) → t ≠ 103 → w'.heap[k]? = some (.cells cs t (0, 0)) := by
    intro k cs t hk ht
    rw [hu.block k (lt_of_heap hk) (fun e => by
      rw [e, h.bm.bi.row] at hk
      simp only [Option.some.injEq, Obj.cells.injEq] at hk
      exact ht hk.2.1.symm)]
    exact hk
  refine ⟨⟨hne h.head (by decide), h.dr.other hu h.bm.lo.2.1 (not_isD h.bm.bi.row (by decide)), ⟨hb, h.bm.bb.keep ((hne h.bm.bb.head (by decide)).trans h.bm.bb.head.symm) (hu.block _ h.bm.bb.ltg (Ne.symm h.bm.ne)), h.bm.lo, h.bm.ne⟩, h.bl6, h.lo⟩, hu.fr h.bm.lo.2.1⟩

set_option maxHeartbeats 1000000 in
set_option maxRecDepth 100000 in
theorem fhas_at (h : FlAt w X vs ws m iw bw kd lk sz bl) (k : Nat) (hk : k < 6) :
    Calls Tryz.prog 126 #[ptr X.bf, .int .i64 (k : Int)] w fun e w' => e = .returned (.bool (isDat X.n (bl.getD k 0))) ∧ Below w.heap.size w w' := by
  obtain ⟨c0, c1, c2, c3, c4, c5, c6⟩ := h.c
  have cb := h.blk hk
  have hD := isData_at (h.bm.below (Di.drewN_below (w := w) ⟨1, rfl⟩)) (bl.getD k 0)
  have HB : Hid (Below w.heap.size w w.drew) := Di.drewN_below (w := w) ⟨1, rfl⟩
  generalize bl.getD k 0 = b at *
  have hki : (k : Int) < 6 := by omega
  obtain ⟨bf, hbf⟩ : ∃ b, b = X.bf := ⟨_, rfl⟩
  obtain ⟨ph, hph⟩ : ∃ b, b = X.hi := ⟨_, rfl⟩
  obtain ⟨pb, hpb⟩ : ∃ b, b = X.hb := ⟨_, rfl⟩
  rw [← hbf] at c1 c2 cb ⊢
  rw [← hph] at c1 hD
  rw [← hpb] at c2 hD
  have hs : w.cell? ⟨bf, 1, none⟩ = some (ptr ph) ∧ w.cell? ⟨bf, 2, none⟩ = some (ptr pb) ∧ w.cell? ⟨bf, 7 + k, none⟩ = some (.int .i64 (b : Int)) := ⟨c1, c2, cb⟩
  clear h c0 c1 c2 c3 c4 c5 c6 cb hbf hph hpb
  go_enter Tryz.func126, Tryz.ntmps126
  go_wp2_with fail
  refine wp_region_held_drew (S := fun w' => w'.cell? ⟨bf, 1, none⟩ = some (ptr ph) ∧ w'.cell? ⟨bf, 2, none⟩ = some (ptr pb) ∧ w'.cell? ⟨bf, 7 + k, none⟩ = some (.int .i64 (b : Int))) (by kernel_rfl) hs (fun hHeld => ?_)
  refine wpAnyH_take (i := 0) (v := ?_) rfl (by kernel_rfl) (by kernel_rfl) (by kernel_rfl) (fun _ _ _ h => h) (Or.inl ⟨by kernel_rfl, ?_⟩) (by assumption) ?_
  rotate_left
  · (intro w hSw; (try dsimp only at hSw); go_simp) <;> with_reducible rfl
  (try simp only [Act.put, List.getElem_toArray, List.getElem_cons_zero, List.setIfInBounds_toArray, List.set_cons_zero, List.set_cons_succ])
  refine wpAnyH_take (i := 1) (v := ?_) rfl (by kernel_rfl) (by kernel_rfl) (by kernel_rfl) (fun _ _ _ h => h) (Or.inl ⟨by kernel_rfl, ?_⟩) (by assumption) ?_
  rotate_left
  · (intro w hSw; (try dsimp only at hSw); go_simp) <;> with_reducible rfl
  (try simp only [Act.put, List.getElem_toArray, List.getElem_cons_zero, List.getElem_cons_succ, List.setIfInBounds_toArray, List.set_cons_zero, List.set_cons_succ])
  refine wpAnyH_take (i := 2) (v := ?_) rfl (by kernel_rfl) (by kernel_rfl) (by kernel_rfl) (fun _ _ _ h => h) (Or.inl ⟨by kernel_rfl, ?_⟩) (by assumption) ?_
  rotate_left
  · (intro w hSw; (try dsimp only at hSw); go_simp) <;> with_reducible rfl
  (try simp only [Act.put, List.getElem_toArray, List.getElem_cons_zero, List.getElem_cons_succ, List.setIfInBounds_toArray, List.set_cons_zero, List.set_cons_succ])
  refine wpAnyH_take (i := 3) (v := ?_) rfl (by kernel_rfl) (by kernel_rfl) (by kernel_rfl) (fun _ _ _ h => h) (Or.inl ⟨by kernel_rfl, ?_⟩) (by assumption) ?_
  rotate_left
  · (intro w hSw; (try dsimp only at hSw); go_simp) <;> with_reducible rfl
  (try simp only [Act.put, List.getElem_toArray, List.getElem_cons_zero, List.getElem_cons_succ, List.setIfInBounds_toArray, List.set_cons_zero, List.set_cons_succ])
  refine wpAnyH_take (i := 4) (v := ?_) rfl (by kernel_rfl) (by kernel_rfl) (by kernel_rfl) (fun _ _ _ h => h) (Or.inl ⟨by kernel_rfl, ?_⟩) (by assumption) ?_
  rotate_left
  · (intro w hSw; (try dsimp only at hSw); go_simp) <;> with_reducible rfl
  (try simp only [Act.put, List.getElem_toArray, List.getElem_cons_zero, List.getElem_cons_succ, List.setIfInBounds_toArray, List.set_cons_zero, List.set_cons_succ])
  refine wpAnyH_take (i := 5) (v := ?_) rfl (by kernel_rfl) (by kernel_rfl) (by kernel_rfl) (fun _ _ _ h => h) (Or.inl ⟨by kernel_rfl, ?_⟩) (by assumption) ?_
  rotate_left
  · (intro w hSw; (try dsimp only at hSw); go_simp) <;> with_reducible rfl
  (try simp only [Act.put, List.getElem_toArray, List.getElem_cons_zero, List.getElem_cons_succ, List.setIfInBounds_toArray, List.set_cons_zero, List.set_cons_succ])
  refine wpAnyH_take (i := 6) (v := ?_) rfl (by kernel_rfl) (by kernel_rfl) (by kernel_rfl) (fun _ _ _ h => h) (Or.inl ⟨by kernel_rfl, ?_⟩) (by assumption) ?_
  rotate_left
  · (intro w hSw; (try dsimp only at hSw); go_simp) <;> with_reducible rfl
  (try simp only [Act.put, List.getElem_toArray, List.getElem_cons_zero, List.getElem_cons_succ, List.setIfInBounds_toArray, List.set_cons_zero, List.set_cons_succ])
  refine wpAnyH_take (i := 7) (v := ?_) rfl (by kernel_rfl) (by kernel_rfl) (by kernel_rfl) (fun _ _ _ h => h) (Or.inl ⟨by kernel_rfl, ?_⟩) (by assumption) ?_
  rotate_left
  · (intro w hSw; (try dsimp only at hSw); go_simp) <;> with_reducible rfl
  (try simp only [Act.put, List.getElem_toArray, List.getElem_cons_zero, List.getElem_cons_succ, List.setIfInBounds_toArray, List.set_cons_zero, List.set_cons_succ])
  refine wpAnyH_take (i := 8) (v := ?_) rfl (by kernel_rfl) (by kernel_rfl) (by kernel_rfl) (fun _ _ _ h => h) (Or.inl ⟨by kernel_rfl, ?_⟩) (by assumption) ?_
  rotate_left
  · (intro w hSw; (try dsimp only at hSw); go_simp) <;> with_reducible rfl
  (try simp only [Act.put, List.getElem_toArray, List.getElem_cons_zero, List.getElem_cons_succ, List.setIfInBounds_toArray, List.set_cons_zero, List.set_cons_succ])
  refine wpAnyH_take (i := 9) (v := ?_) rfl (by kernel_rfl) (by kernel_rfl) (by kernel_rfl) (fun _ _ _ h => h) (Or.inl ⟨by kernel_rfl, ?_⟩) (by assumption) ?_
  rotate_left
  · (intro w hSw; (try dsimp only at hSw); go_simp) <;> with_reducible rfl
  (try simp only [Act.put, List.getElem_toArray, List.getElem_cons_zero, List.getElem_cons_succ, List.setIfInBounds_toArray, List.set_cons_zero, List.set_cons_succ])
  refine wpAnyH_take (i := 10) (v := ?_) rfl (by kernel_rfl) (by kernel_rfl) (by kernel_rfl) (fun _ _ _ h => h) (Or.inl ⟨by kernel_rfl, ?_⟩) (by assumption) ?_
  rotate_left
  · (intro w hSw; (try dsimp only at hSw); go_simp) <;> with_reducible rfl
  (try simp only [Act.put, List.getElem_toArray, List.getElem_cons_zero, List.getElem_cons_succ, List.setIfInBounds_toArray, List.set_cons_zero, List.set_cons_succ])
  refine wpAnyH_ready (rs := [11]) (by kernel_rfl) (by simp) ?_
  refine AllReadyH.cons rfl (fun K hK => ?_) AllReadyH.nil
  go_simp
  refine hD.mono ?_
  rintro e w1 ⟨rfl, hb1⟩
  have HB1 : Hid (Below w.heap.size w w1) := HB.out.trans (hb1.mono HB.out.size)
  have hs1 : w1.cell? ⟨bf, 1, none⟩ = some (ptr ph) ∧ w1.cell? ⟨bf, 2, none⟩ = some (ptr pb) ∧ w1.cell? ⟨bf, 7 + k, none⟩ = some (.int .i64 (b : Int)) := ⟨(HB1.out.cell (cell_lt hs.1)).trans hs.1, (HB1.out.cell (cell_lt hs.2.1)).trans hs.2.1, (HB1.out.cell (cell_lt hs.2.2)).trans hs.2.2⟩
  clear hD hb1
  refine hK.out _ _ hs1 (fun hHeld => ?_)
  clear hK K
  (try simp only [Act.put, List.getElem_toArray, List.getElem_cons_zero, List.getElem_cons_succ, List.setIfInBounds_toArray, List.set_cons_zero, List.set_cons_succ])
  refine wpAnyH_take (i := 12) (v := ?_) rfl (by kernel_rfl) (by kernel_rfl) (by kernel_rfl) (fun _ _ _ h => h) (Or.inl ⟨by kernel_rfl, ?_⟩) (by assumption) ?_
  rotate_left
  · (intro w hSw; (try dsimp only at hSw); go_simp) <;> with_reducible rfl
  (try simp only [Act.put, List.getElem_toArray, List.getElem_cons_zero, List.getElem_cons_succ, List.setIfInBounds_toArray, List.set_cons_zero, List.set_cons_succ])
  refine wpAnyH_done (by kernel_rfl) ?_ _
  go_wp2
  go_ret
  exact ⟨rfl, HB1.out⟩
end
end Go.Proofs.YtcjpahnlckfgoaaGreatDoor

namespace Go.Proofs.YtcjpahnlckfgoaaGreatDoor
open Go.RowKit
set_option linter.unusedVariables false

/-- A new draft. -/
theorem Dr.start {w : World} {n m : Nat} {B : Sto} {vs : List Int} (h : Dk w B n vs m) (hn : n ≤ 1024) :
    Dr (w.alloc (.cells #[sto B, .slice none 0 0, .int .i64 0] 102)) w.heap.size w.heap.size B n vs vs m :=
  ⟨_, [], ⟨heap_alloc_new _ _, World.ownsRow_nil _ _ _ _, Nat.le_refl _, fun p hp => (by cases hp), List.nodup_nil, fun k _ _ => rfl, h.len, h.below (below_alloc _ _), hn⟩⟩
/-- A file system on a disk. -/
structure FsAt (w : World) (B : Sto) (F : FS) (vs : List Int) (m : Nat) : Prop where
  disk : Dk w B F.n vs m
  hold : Holds vs F
  inv : FInv F
section
variable {w w' : World} {m : Nat} {B : Sto} {F : FS} {vs : List Int}
theorem FsAt.row (h : FsAt w B F vs m) {i : Nat} (hi : i < 32) : rowW vs i = (F.ino i).row := by
  have hb := h.inv.n1
  have hl := h.hold.len
  refine list_ext_getD _ _ (by rw [rowW_len hl (by omega), Ino.row_len (h.inv.six hi)]) fun j hj => ?_
  rw [rowW_len hl (by omega)] at hj
  rw [rowW_get _ _ _ hj, h.hold.tab (i / 3) (by omega), tab_word h.inv hi hj]
theorem FInv.fit {F : FS} (h : FInv F) {i : Nat} (hi : i < 32) : ∀ x ∈ (F.ino i).row, Fit x := by
  have h1 := h.num i hi
  have h2 := h.max i hi
  intro x hx
  unfold Ino.row at hx
  simp only [List.mem_append, List.mem_cons, List.mem_map, List.not_mem_nil, or_false] at hx
  rcases hx with ((rfl | rfl | rfl) | ⟨b, hb, rfl⟩) | hx
  · exact ⟨h1.1, h1.2.1⟩
  · exact ⟨h1.2.2.1, h1.2.2.2⟩
  · exact ⟨by omega, by omega⟩
  · have := (h.data i hi b hb).2.1
    have := h.n2
    exact ⟨by omega, by omega⟩
  · rw [List.eq_of_mem_replicate hx]
    exact ⟨by omega, by omega⟩
/-- What open leaves. -/
def Opened (w w' : World) (B : Sto) (i bf : Nat) (F : FS) (vs : List Int) (m : Nat) : Prop :=
  ∃ X : FX, X.bf = bf ∧ X.base = w.heap.size ∧ X.B = B ∧ X.n = F.n ∧ X.i = i ∧ FlAt w' X vs vs m F.iw F.bw (F.ino i).kind (F.ino i).links ((F.ino i).txt.length : Int) (six (fun j => (F.ino i).blk.getD j 0)) ∧ Fr X w w'
set_option maxHeartbeats 4000000 in
set_option maxRecDepth 100000 in
theorem open_at (h : FsAt w B F vs m) (hm : m ≤ 900000000000) (i : Nat) (hi : i < 32) :
    Calls Tryz.prog 60 #[sto B, .int .i64 (i : Int)] w fun e w' => ∃ bf, e = .returned (.tuple #[ptr bf, .int .i64 0]) ∧ Opened w w' B i bf F vs m := by
  have hd := h.disk
  have hn1 := h.inv.n1
  have hn2 := h.inv.n2
  have hrow := h.row hi
  have hs := Dr.start hd hn2
  obtain ⟨W0, hW0⟩ : ∃ W, W = w.alloc (.cells #[sto B, .slice none 0 0, .int .i64 0] 102) := ⟨_, rfl⟩
  have hb0 : Below w.heap.size w W0 := by rw [hW0]; exact below_alloc _ _
  rw [← hW0] at hs
  have hH := dhead_at hs hm hb0.size hn1 hn2 h.inv.iw h.inv.bw h.inv.low (by rw [h.hold.head]; rfl)
  have HW0 : Hid _ := hW0
  have HB0 : Hid (Below w.heap.size w W0) := hb0
  have HFit : Hid (∀ x ∈ rowW vs i, Fit x) := by rw [hrow]; exact h.inv.fit hi
  have HSix : Hid (rowW vs i = rowOf (F.ino i).kind (F.ino i).links ((F.ino i).txt.length : Int) (six (fun j => (F.ino i).blk.getD j 0))) := by rw [hrow]; exact row_six (h.inv.six hi)
  have HLn : Hid ((F.ino i).txt.length ≤ 192) := h.inv.max i hi
  clear h hd hrow hs hW0 hb0
  go_enter Tryz.func60, Tryz.ntmps60
  go_wp2_with fail
  rw [← HW0.out]
  refine hH.mono ?_
  rintro e w1 ⟨hi1, hb1, rfl, ⟨gi, gb, hbm⟩, hdr, hdt⟩
  have HT1 : Hid (DT w.heap.size B W0 w1) := hdt
  obtain ⟨W2, hW2⟩ : ∃ W, W = w1.alloc (.cells #[ptr hi1, ptr hb1] 111) := ⟨_, rfl⟩
  have hb2 : Below w1.heap.size w1 W2 := by rw [hW2]; exact below_alloc _ _
  have hI := dinode_at (hdr.below hb2) hm hn1 (by have := HB0.out.size; have := hdt.size; have := hb2.size; omega) i hi HFit.out
  have HBm : Hid (Bms W2 w.heap.size hi1 gi hb1 gb F.n F.iw F.bw) := (hbm.below hb2).mono HB0.out.size
  have HT2 : Hid (DT w.heap.size B W0 W2) := hdt.trans (DT.of_below hb2)
  have HP2 : Hid (W2.heap[w1.heap.size]? = some (.cells #[ptr hi1, ptr hb1] 111)) := by rw [hW2]; exact heap_alloc_new _ _
  have HW2 : Hid _ := hW2
  have Hs1 : Hid (w.heap.size < w1.heap.size) := by have h1 := hdt.size; have h2 : w.heap.size < W0.heap.size := (by rw [HW0.out]; simp); show _ < _; omega
  clear hH hbm hdr hdt hW2 hb2
  go_wp2_with fail
  rw [← HW2.out]
  refine hI.mono ?_
  rintro e w3 ⟨rfl, hdr, hdt⟩
  obtain ⟨sv, e0, e1, e2⟩ := hdr.cells
  have HD3 : Hid (Dr w3 w.heap.size w.heap.size B F.n vs vs m) := hdr
  have HT3 : Hid (DT w.heap.size B W0 w3) := HT2.out.trans hdt
  have HBm3 : Hid (Bms w3 w.heap.size hi1 gi hb1 gb F.n F.iw F.bw) := HBm.out.dt hdt
  have hp3 : w3.heap[w1.heap.size]? = some (.cells #[ptr hi1, ptr hb1] 111) := hdt.other HP2.out (by decide) (by decide)
  have d0 : w3.cell? ⟨w1.heap.size, 0, none⟩ = some (ptr hi1) := by rw [cell_of_heap hp3]; rfl
  have d1 : w3.cell? ⟨w1.heap.size, 1, none⟩ = some (ptr hb1) := by rw [cell_of_heap hp3]; rfl
  have HP3 : Hid (w1.heap.size < w3.heap.size) := lt_of_heap hp3
  have hl1 : w1.heap.size < w3.heap.size := lt_of_heap hp3
  have hl0 : w.heap.size < w3.heap.size := by have := Hs1.out; omega
  rw [HSix.out]
  obtain ⟨b0, c1, c2, c3, c4, c5, hbl⟩ : ∃ a b c d e f, six (fun j => (F.ino i).blk.getD j 0) = [a, b, c, d, e, f] := ⟨_, _, _, _, _, _, rfl⟩
  have HBl : Hid (six (fun j => (F.ino i).blk.getD j 0) = [b0, c1, c2, c3, c4, c5]) := hbl
  rw [hbl]
  have hirow : irow (rowOf (F.ino i).kind (F.ino i).links ((F.ino i).txt.length : Int) [b0, c1, c2, c3, c4, c5]) = #[.int .i64 (F.ino i).kind, .int .i64 (F.ino i).links, .int .i64 ((F.ino i).txt.length : Int), .int .i64 (b0 : Int), .int .i64 (c1 : Int), .int .i64 (c2 : Int), .int .i64 (c3 : Int), .int .i64 (c4 : Int), .int .i64 (c5 : Int)] := rfl
  rw [hirow]
  obtain ⟨kd, hkd⟩ : ∃ k, k = (F.ino i).kind := ⟨_, rfl⟩
  obtain ⟨lk, hlk⟩ : ∃ k, k = (F.ino i).links := ⟨_, rfl⟩
  obtain ⟨sz, hsz⟩ : ∃ k, k = (F.ino i).txt.length := ⟨_, rfl⟩
  have HKd : Hid (kd = (F.ino i).kind ∧ lk = (F.ino i).links ∧ sz = (F.ino i).txt.length) := ⟨hkd, hlk, hsz⟩
  have hmm : min (max (sz : Int) 0) 192 = (sz : Int) := by have := HLn.out; omega
  have hmm2 : min (sz : Int) 192 = (sz : Int) := by have := HLn.out; omega
  rw [← hkd, ← hlk, ← hsz]
  clear hI hdr hdt e0 e1 hp3 hbl hirow hkd hlk hsz
  go_wp2
  go_ret2
  have hb5 := (below_alloc w3 (.cells #[.int .i64 kd, .int .i64 lk, .int .i64 (sz : Int), .int .i64 (b0 : Int), .int .i64 (c1 : Int), .int .i64 (c2 : Int), .int .i64 (c3 : Int), .int .i64 (c4 : Int), .int .i64 (c5 : Int)] 63)).trans ((below_alloc _ (.cells #[ptr w.heap.size, ptr hi1, ptr hb1, .int .i64 (i : Int), .int .i64 kd, .int .i64 lk, .int .i64 (sz : Int), .int .i64 (b0 : Int), .int .i64 (c1 : Int), .int .i64 (c2 : Int), .int .i64 (c3 : Int), .int .i64 (c4 : Int), .int .i64 (c5 : Int)] 123)).mono (by simp))
  refine ⟨w3.heap.size + 1, rfl, ⟨w.heap.size, w3.heap.size + 1, w.heap.size, hi1, gi, hb1, gb, B, F.n, i⟩, rfl, rfl, rfl, rfl, rfl, ⟨?_, HD3.out.below hb5, HBm3.out.below hb5, six_len _, ?_⟩, ?_⟩
  · rw [HBl.out, ← HKd.out.1, ← HKd.out.2.1, ← HKd.out.2.2]
    exact heap_alloc2_new w3 _ _
  · show w.heap.size ≤ w3.heap.size + 1
    have := HT3.out.size
    have := HB0.out.size
    omega
  · exact (SU.trans (SU.of_below HB0.out) (DT.fr (X := ⟨w.heap.size, w3.heap.size + 1, w.heap.size, hi1, gi, hb1, gb, B, F.n, i⟩) HT3.out)).trans (SU.of_below hb5)
end
end Go.Proofs.YtcjpahnlckfgoaaGreatDoor

namespace Go.Proofs.YtcjpahnlckfgoaaGreatDoor
open Go.RowKit
set_option linter.unusedVariables false

theorem low_lowN {bw : List Nat} {n : Nat} (h : 0 < Bi.cntF (Bi.bt bw) n) : Bi.Low (Bi.bt bw) n ((lowN (Bi.bt bw) n : Nat) : Int) := by
  have hlt := lowN_lt h
  obtain ⟨h1, h2⟩ := lowN_hit hlt
  exact Or.inl ⟨_, rfl, hlt, h2, h1⟩
section
variable {w w' : World} {X : FX} {vs ws : List Int} {m : Nat} {iw bw : List Nat} {kd lk sz : Int} {bl : List Nat}
theorem wpList_store_midQ {base bd n m b q : Nat} {B : Sto} {vs ws : List Int} {ops : Array Oper} {rest : List Oper} {op : Oper} {a : Act} {w : World} {Q : Exit → Act → World → Prop} (h : DrQ w base bd B n vs ws m b q) (hgd : op.guard = none) (x y : Operand) (ho : op.op = .store 105 x y) (R : Array Value) (hx : a.eval x = .pointer (some ⟨q, 33, none⟩)) (hy : a.eval y = .agg R) (hs : R.size = 32) (h1 : R.all (·.oneCell') = true)
    (hk : wpList Tryz.prog ops Q rest (a.put op.dst undef) (w.setCells q 33 R.toList)) : wpList Tryz.prog ops Q (op :: rest) a w :=
  wpList_store_mid hgd 105 x y ho q 33 R hx hy (by rw [hs]; exact h.there) (by rw [hs]; exact contSize) h1 hk
set_option maxHeartbeats 1000000 in
set_option maxRecDepth 100000 in
theorem ftake_at (h : FlAt w X vs ws m iw bw kd lk sz bl) (hm : m ≤ 900000000000) (k : Nat) (hk : k < 6) (hc : 0 < Bi.cntF (Bi.bt bw) X.n) :
    Calls Tryz.prog 127 #[ptr X.bf, .int .i64 (k : Int)] w fun e w' => e = .returned (.tuple #[]) ∧ FlAt w' X vs (splice ws (lowN (Bi.bt bw) X.n * 32) (List.replicate 32 0)) m iw (Bi.mkW bw (lowN (Bi.bt bw) X.n) true) kd lk sz (bl.set k (lowN (Bi.bt bw) X.n)) ∧ Fr X w w' := by
  obtain ⟨c0, c1, c2, c3, c4, c5, c6⟩ := h.c
  obtain ⟨b, hb⟩ : ∃ b, b = lowN (Bi.bt bw) X.n := ⟨_, rfl⟩
  have hT := Bi.take_at X.hb X.gb X.n bw b w h.bm.bb (by rw [hb]; exact low_lowN hc)
  have hbn : b < X.n := by rw [hb]; exact lowN_lt hc
  rw [← hb]
  have htk : Bi.takeW bw (b : Int) = Bi.mkW bw b true := by simp [Bi.takeW]
  rw [htk] at hT
  have HH : Hid (FlAt w X vs ws m iw bw kd lk sz bl) := h
  have hki : (k : Int) < 6 := by omega
  clear h htk hb hc
  go_enter Tryz.func127, Tryz.ntmps127
  go_wp2_with fail
  refine hT.mono ?_
  rintro e w1 ⟨rfl, hB1, hu1⟩
  obtain ⟨h1, f1⟩ := HH.out.setbw hB1 hu1
  have HF1 : Hid (Fr X w w1) := f1
  have cb := h1.blk hk
  have fz := h1.free (7 + k)
  obtain ⟨h2, f2⟩ := h1.setb (b := b) hk
  obtain ⟨e0, e1, e2, e3, e4, e5, e6⟩ := h2.c
  obtain ⟨W2, hW2⟩ : ∃ W, W = w1.setCell ⟨X.bf, 7 + k, none⟩ (.int .i64 ((b : Nat) : Int)) := ⟨_, rfl⟩
  have HW2 : Hid _ := hW2
  rw [← hW2] at h2 f2 e0
  have hA := dat_at h2.dr b hbn hm
  have H2 : Hid (FlAt W2 X vs ws m iw (Bi.mkW bw b true) kd lk sz (bl.set k b)) := h2
  have HF2 : Hid (Fr X w W2) := HF1.out.trans f2
  obtain ⟨d0, d1, d2, d3, d4, d5, d6⟩ := h1.c
  generalize bl.getD k 0 = b' at *
  clear hT hB1 hu1 h1 h2 f1 f2 c0 c1 c2 c3 c4 c5 c6 e0 e1 e2 e3 e4 e5 e6 hW2 d1 d2 d3 d4 d5 d6
  go_wp2_with fail
  rw [← HW2.out]
  refine hA.mono ?_
  rintro e w3 ⟨q, rfl, hq, hdt⟩
  have HQ : Hid (DrQ w3 X.base X.bd X.B X.n vs ws m b q) := hq
  have HT3 : Hid (DT X.base X.B W2 w3) := hdt
  have hbz := build_zero
  have HZs : Hid (zc.size = 32) := by unfold zc; rw [urow_size]; simp [Hid]
  have hz := lit_zc
  clear hA hq hdt cb fz d0
  go_wp2_with (first
    | (refine wpList_store_midQ HQ.out rfl _ _ rfl zc rfl rfl HZs.out (urow_one _) ?_)
    | go_in)
  go_end0
  obtain ⟨r1, r2⟩ := HQ.out.cells (us := List.replicate 32 0) (R := zc) (by simp) rfl
  have t := HT3.out.trans r2
  exact ⟨rfl, H2.out.dt r1.dr t, HF2.out.trans t.fr⟩
end
end Go.Proofs.YtcjpahnlckfgoaaGreatDoor
