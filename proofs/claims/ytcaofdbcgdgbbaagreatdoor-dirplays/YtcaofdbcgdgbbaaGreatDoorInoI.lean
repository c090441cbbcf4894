/- Package inode: isInode, isData, row, inode. -/
import Derived.Test.YtcaofdbcgdgbbaaGreatDoorInoH
namespace Go.Proofs.YtcaofdbcgdgbbaaGreatDoor
open Go.RowKit
set_option linter.all false

theorem step_store_row {P : Program} {ops : Array Oper} {op : Oper} {a : Act} {w : World} {K : Act → World → Prop} {Q : Exit → Act → World → Prop} {E : Prop} (hgd : op.guard = none) (ty : TypeId) (x y : Operand) (ho : op.op = .store ty x y)
    (g : Nat) (cells : Array Value) (hx : a.eval x = .pointer (some ⟨g, 0, none⟩)) (hy : a.eval y = .agg cells) (t : TypeId) (old : Array Value) (hg : w.heap[g]? = some (.cells old t (0, 0))) (hi : (P.info? ty).map (·.size) = some cells.size)
    (hold : old.size = cells.size) (h1 : cells.all (·.oneCell') = true) (h : K (a.put op.dst undef) (w.setRow g cells)) : if Region.wanted op (yielded ops a.tmps) = true then Oper.wp P op a w K Q else E := by
  have hw : Region.wanted op (yielded ops a.tmps) = true := by simp [Region.wanted, hgd]
  rw [if_pos hw]
  exact wp_store_row ty x y ho g cells hx hy t old hg hi hold h1 h
/-- Numbers as cells. -/
def irow (xs : List Int) : Array Value := (xs.map (Value.int .i64)).toArray
theorem irow_size (xs : List Int) : (irow xs).size = xs.length := by simp [irow]
theorem irow_get (xs : List Int) (j : Nat) (h : j < xs.length) : (irow xs)[j]? = some (.int .i64 (xs.getD j 0)) := by simp [irow, h]
theorem irow_one (xs : List Int) : (irow xs).all (·.oneCell') = true := by
  unfold irow
  refine all_oneCell_toArray (fun v hv => ?_)
  simp only [List.mem_map] at hv
  obtain ⟨x, _, rfl⟩ := hv
  rfl
theorem irow_set (xs : List Int) (j : Nat) (x : Int) : (irow xs).setIfInBounds j (.int .i64 x) = irow (xs.set j x) := by
  apply Array.ext'
  simp [irow, List.map_set]
/-- An inode that is none. -/
def zi : Array Value := irow (List.replicate 9 0)
theorem lit_zi : (#[.int .i64 0, .int .i64 0, .int .i64 0, .int .i64 0, .int .i64 0, .int .i64 0, .int .i64 0, .int .i64 0, .int .i64 0] : Array Value) = zi := rfl
theorem inoSize : (Tryz.prog.info? 88).map (·.size) = some 9 := by kernel_rfl
/-- Whether there is such an inode. -/
def isI (i : Int) : Bool := decide (0 ≤ i) && decide (i < 32)
theorem isInode_at (i : Int) (w : World) : Calls Tryz.prog 81 #[.int .i64 i] w fun e w' => e = .returned (.bool (isI i)) ∧ w' = w := by
  unfold isI
  by_cases h : 0 ≤ i
  all_goals
    go_enter Tryz.func81, Tryz.ntmps81
    go_wp2
    go_ret
    refine ⟨?_, rfl⟩
    first | (simp [h]; done) | (simp; omega)
theorem isI_nat {i : Nat} (h : i < 32) : isI (i : Int) = true := by simp [isI]; omega
theorem isI_no {i : Int} (h : ¬ (0 ≤ i ∧ i < 32)) : isI i = false := by
  simp only [isI, Bool.and_eq_false_iff, decide_eq_false_iff_not]
  omega
theorem isI_of {i : Int} (h : isI i = true) : ∃ k : Nat, i = (k : Int) ∧ k < 32 := by
  simp only [isI, Bool.and_eq_true, decide_eq_true_eq] at h
  exact ⟨i.toNat, by omega, by omega⟩
/-- Whether a file may have the block. -/
def isDat (n b : Nat) : Bool := decide (12 ≤ b) && decide (b < n)
theorem isData_at {w : World} {M hi gi hb gb n : Nat} {iw bw : List Nat} (h : Bms w M hi gi hb gb n iw bw) (b : Nat) : Calls Tryz.prog 133 #[.agg #[ptr hi, ptr hb], .int .i64 (b : Int)] w fun e w' => e = .returned (.bool (isDat n b)) ∧ Below w.heap.size w w' := by
  have hL := Bi.len_at hb gb n bw _ (h.bb.below (below_alloc w (.cells #[ptr hi, ptr hb] 80)))
  have HO : Hid (Below w.heap.size w (w.alloc (.cells #[ptr hi, ptr hb] 80))) := below_alloc _ _
  clear h
  unfold isDat
  by_cases h0 : 12 ≤ b
  · have hb0 : decide ((12 : Int) ≤ (b : Int)) = true := by simp; omega
    go_enter Tryz.func133, Tryz.ntmps133
    go_wp2_with fail
    refine hL.mono ?_
    rintro e w1 ⟨rfl, hw⟩
    rw [hw]
    clear hw w1 hL
    go_wp2
    go_ret
    refine ⟨?_, HO.out⟩
    simp [h0]
  · have hb0 : decide ((12 : Int) ≤ (b : Int)) = false := by simp; omega
    clear hL
    go_enter Tryz.func133, Tryz.ntmps133
    go_wp2
    go_ret
    refine ⟨?_, HO.out⟩
    simp [h0]
/-- The words of inode i. -/
def rowW (ws : List Int) (i : Nat) : List Int := ((frameOf ws (1 + i / 3)).drop (i % 3 * 9)).take 9
theorem rowW_len {ws : List Int} {n i : Nat} (hl : ws.length = n * 32) (hi : 1 + i / 3 < n) : (rowW ws i).length = 9 := by
  have := frameOf_length ws _ n hl hi
  unfold rowW
  rw [List.length_take, List.length_drop, this]
  omega
theorem rowW_get (ws : List Int) (i j : Nat) (hj : j < 9) : (rowW ws i).getD j 0 = (frameOf ws (1 + i / 3)).getD (i % 3 * 9 + j) 0 := by
  unfold rowW
  simp only [List.getD_eq_getElem?_getD, List.getElem?_take, List.getElem?_drop]
  rw [if_pos hj]
section
variable {w w' : World} {base bd B G n m : Nat} {vs ws : List Int}
set_option maxHeartbeats 1000000 in
set_option maxRecDepth 100000 in
theorem drow_at (h : Dr w base bd B G n vs ws m) (hm : m ≤ 900000000000) (hn : 13 ≤ n) (i : Nat) (hi : i < 32) :
    Calls Tryz.prog 75 #[ptr bd, .int .i64 (i : Int)] w fun e w' => ∃ q, e = .returned (.slice (some ⟨q, 33 + i % 3 * 9, none⟩) 9 (32 - i % 3 * 9)) ∧ DrQ w' base bd B G n vs ws m (1 + i / 3) q ∧ DT base B w w' := by
  have hA := dat_at h (1 + i / 3) (by omega) hm
  obtain ⟨r, hr⟩ : ∃ r, r = i % 3 := ⟨_, rfl⟩
  obtain ⟨d, hd⟩ : ∃ d, d = i / 3 := ⟨_, rfl⟩
  have ht : (i : Int).tmod 3 = (r : Int) := by rw [Int.tmod_eq_emod_of_nonneg (by omega)]; omega
  have hq : (i : Int).tdiv 3 = (d : Int) := by rw [Int.tdiv_eq_ediv_of_nonneg (by omega)]; omega
  have hr3 : r < 3 := by omega
  have hd11 : d < 11 := by omega
  rw [← hd] at hA ⊢
  rw [← hr]
  obtain ⟨c, hc⟩ : ∃ c, c = 32 - r * 9 := ⟨_, rfl⟩
  have hc9 : 9 ≤ c := by omega
  have hc32 : c ≤ 32 := by omega
  have hw1 : IntKind.i64.wrap ((d : Nat) : Int) = (d : Int) := Bi.wrap_small d (by omega)
  have hw2 : IntKind.i64.wrap ((r : Nat) : Int) = (r : Int) := Bi.wrap_small r (by omega)
  have hsl : ∀ q W, (Instr.sliceAt 122 (.pointer (some ⟨q, 33, none⟩)) (some (.int .i64 ((r : Int) * 9))) none none).run Tryz.prog W = .ok (.slice (some ⟨q, 33 + r * 9, none⟩) c c) W := fun q W => by
    have := cont_l q 33 (r * 9) (by omega) W
    rw [← hc] at this
    rw [Int.natCast_mul] at this
    exact this
  rw [← hc]
  rw [show ((1 + d : Nat) : Int) = 1 + (d : Int) by omega] at hA
  clear h hr hd hc
  go_enter Tryz.func75, Tryz.ntmps75
  go_wp2_with fail
  refine hA.mono ?_
  rintro e w1 ⟨q, rfl, hq1, hdt⟩
  have HQ : Hid (DrQ w1 base bd B G n vs ws m (1 + d) q) := hq1
  have HT : Hid (DT base B w w1) := hdt
  clear hq1 hdt hA
  go_wp2
  go_ret
  exact ⟨q, rfl, HQ.out, HT.out⟩

theorem DrQ.below {b q : Nat} (h : DrQ w base bd B G n vs ws m b q) (hb : Below w.heap.size w w') : DrQ w' base bd B G n vs ws m b q := by
  obtain ⟨sv, S, h, hq⟩ := h
  exact ⟨sv, S, h.below hb, hq⟩
theorem DrQ.other {b q g : Nat} (h : DrQ w base bd B G n vs ws m b q) (hu : Upd g w w') (hg : base ≤ g) (hd : ¬ IsD w g) : DrQ w' base bd B G n vs ws m b q := by
  obtain ⟨sv, S, h, hq⟩ := h
  exact ⟨sv, S, h.other hu hg hd, hq⟩
/-- A number that is as many as a word. -/
def Fit (x : Int) : Prop := 0 ≤ x ∧ x < 9223372036854775808
theorem Fit.si {x : Int} (h : Fit x) : IntKind.i64.wrap x = x := by
  have h1 := h.1
  have h2 := h.2
  simp [IntKind.wrap, IntKind.bits, IntKind.signed]
  omega
theorem Fit.su {x : Int} (h : Fit x) : IntKind.u64.wrap x = x := by
  have h1 := h.1
  have h2 := h.2
  rw [IntKind.wrap_u64]
  omega
/-- What is read up to the k-th block. -/
def upTo (xs : List Int) (k : Nat) : List Int := xs.take (3 + k) ++ List.replicate (6 - k) 0
theorem upTo_len {xs : List Int} (h : xs.length = 9) {k : Nat} (hk : k ≤ 6) : (upTo xs k).length = 9 := by
  simp [upTo, h]
  omega
theorem upTo_set {xs : List Int} (h : xs.length = 9) {k : Nat} (hk : k < 6) : (upTo xs k).set (3 + k) (xs.getD (3 + k) 0) = upTo xs (k + 1) := by
  refine list_ext_getD _ _ (by rw [List.length_set, upTo_len h (by omega), upTo_len h (by omega)]) fun i hi => ?_
  rw [List.length_set, upTo_len h (by omega)] at hi
  have e : ∀ k, k ≤ 6 → (upTo xs k).getD i 0 = if i < 3 + k then xs.getD i 0 else 0 := by
    intro k hk
    unfold upTo
    rw [app_get, List.length_take, h, Nat.min_eq_left (by omega)]
    split
    · simp only [List.getD_eq_getElem?_getD, List.getElem?_take]
      rw [if_pos (by assumption)]
    · simp only [List.getD_eq_getElem?_getD, List.getElem?_replicate]
      split <;> rfl
  rw [e (k + 1) (by omega)]
  by_cases q : i = 3 + k
  · subst q
    rw [if_pos (by omega), List.getD_eq_getElem?_getD, List.getElem?_set_self (by rw [upTo_len h (by omega)]; omega)]
    rfl
  · have : ((upTo xs k).set (3 + k) (xs.getD (3 + k) 0)).getD i 0 = (upTo xs k).getD i 0 := by
      simp only [List.getD_eq_getElem?_getD]
      rw [List.getElem?_set_ne (fun e => q e.symm)]
    rw [this, e k (by omega)]
    by_cases q1 : i < 3 + k
    · rw [if_pos q1, if_pos (by omega)]
    · rw [if_neg q1, if_neg (by omega)]
theorem upTo_all {xs : List Int} (h : xs.length = 9) : upTo xs 6 = xs := by
  unfold upTo
  rw [List.take_of_length_le (by omega)]
  simp
theorem upTo_none {xs : List Int} (h : xs.length = 9) : upTo xs 0 = [xs.getD 0 0, xs.getD 1 0, xs.getD 2 0, 0, 0, 0, 0, 0, 0] := by
  match xs, h with
  | [a, b, c, d, e, f, g, h, i], _ => rfl
set_option maxHeartbeats 2000000 in
set_option maxRecDepth 100000 in
theorem dinode_at (h : Dr w base bd B G n vs ws m) (hm : m ≤ 900000000000) (hn : 13 ≤ n) (hbase : base ≤ w.heap.size) (i : Nat) (hi : i < 32) (hf : ∀ x ∈ rowW ws i, Fit x) :
    Calls Tryz.prog 113 #[ptr bd, .int .i64 (i : Int)] w fun e w' => e = .returned (.agg (irow (rowW ws i))) ∧ Dr w' base bd B G n vs ws m ∧ DT base B w w' := by
  have hl := rowW_len (i := i) h.len (by omega)
  have HBl : Hid (B < base) := by obtain ⟨_, _, h⟩ := h; exact h.low.1
  obtain ⟨W0, hW0⟩ : ∃ W, W = w.alloc (.cells zi 88) := ⟨_, rfl⟩
  have hb0 : Below w.heap.size w W0 := by rw [hW0]; exact below_alloc _ _
  have hr0 : W0.heap[w.heap.size]? = some (.cells zi 88) := by rw [hW0]; exact heap_alloc_new _ _
  have hA := drow_at (h.below hb0) hm hn i hi
  have hli := lit_zi
  have HB0 : Hid (Below w.heap.size w W0) := hb0
  have HR0 : Hid _ := hr0
  have HW0 : Hid _ := hW0
  have HL : Hid ((rowW ws i).length = 9) := hl
  have HF : Hid (∀ j, j < 9 → Fit ((rowW ws i).getD j 0)) := fun j hj => hf _ (by
    rw [List.getD_eq_getElem?_getD, List.getElem?_eq_getElem (by omega)]
    exact List.getElem_mem _)
  clear h hf hb0 hr0 hW0 hl
  go_enter Tryz.func113, Tryz.ntmps113
  go_wp2_with fail
  rw [← HW0.out]
  refine hA.mono ?_
  rintro e w1 ⟨q, rfl, hq, hdt⟩
  have HQ : Hid (DrQ w1 base bd B G n vs ws m (1 + i / 3) q) := hq
  have HT1 : Hid (DT base B w w1) := (DT.of_below HB0.out).trans hdt
  have hr1 : w1.heap[w.heap.size]? = some (.cells zi 88) := hdt.other HR0.out (by have := HBl.out; omega) (by decide)
  have HR1 : Hid _ := hr1
  obtain ⟨o, ho⟩ : ∃ o, o = 33 + i % 3 * 9 := ⟨_, rfl⟩
  obtain ⟨c, hc⟩ : ∃ c, c = 32 - i % 3 * 9 := ⟨_, rfl⟩
  rw [← ho, ← hc]
  have HC : Hid (∀ j, j < 9 → w1.cell? ⟨q, o + j, none⟩ = some (.int .u64 ((rowW ws i).getD j 0))) := fun j hj => by
    rw [rowW_get ws i j hj, ho, show 33 + i % 3 * 9 + j = 33 + (i % 3 * 9 + j) by omega]
    exact hq.word (by omega)
  obtain ⟨xs, hxs⟩ : ∃ xs, xs = rowW ws i := ⟨_, rfl⟩
  rw [← hxs] at HC HF HL
  have HXs : Hid (xs = rowW ws i) := hxs
  have c0 : w1.cell? ⟨q, o, none⟩ = some (.int .u64 (xs.getD 0 0)) := HC.out 0 (by omega)
  have c1 := HC.out 1 (by omega)
  have c2 := HC.out 2 (by omega)
  have f0 := (HF.out 0 (by omega)).si
  have f1 := (HF.out 1 (by omega)).si
  have f2 := (HF.out 2 (by omega)).si
  have hql := cell_lt c0
  dsimp only at hql
  clear hA hq hdt hr1 ho hc hxs
  obtain ⟨x0, hx0⟩ : ∃ x, x = xs.getD 0 0 := ⟨_, rfl⟩
  obtain ⟨x1, hx1⟩ : ∃ x, x = xs.getD 1 0 := ⟨_, rfl⟩
  obtain ⟨x2, hx2⟩ : ∃ x, x = xs.getD 2 0 := ⟨_, rfl⟩
  rw [← hx0] at c0 f0
  rw [← hx1] at c1 f1
  rw [← hx2] at c2 f2
  have HX : Hid (upTo xs 0 = [x0, x1, x2, 0, 0, 0, 0, 0, 0]) := by rw [upTo_none HL.out, hx0, hx1, hx2]; rfl
  clear hx0 hx1 hx2
  have hs : w1.cell? ⟨q, o, none⟩ = some (.int .u64 x0) ∧ w1.cell? ⟨q, o + 1, none⟩ = some (.int .u64 x1) ∧ w1.cell? ⟨q, o + 2, none⟩ = some (.int .u64 x2) := ⟨c0, c1, c2⟩
  clear c0 c1 c2
  clear hli
  go_wp2_with fail
  refine wp_region_held_drew (S := fun w' => w'.cell? ⟨q, o, none⟩ = some (.int .u64 x0) ∧ w'.cell? ⟨q, o + 1, none⟩ = some (.int .u64 x1) ∧ w'.cell? ⟨q, o + 2, none⟩ = some (.int .u64 x2)) (by kernel_rfl) hs (fun hHeld => ?_)
  refine wpAnyH_take (i := 0) (v := ?_) rfl (by kernel_rfl) (by kernel_rfl) (by kernel_rfl) (fun _ _ _ h => h) (Or.inl ⟨by kernel_rfl, ?_⟩) (by assumption) ?_
  rotate_left
  · (intro w hSw; (try dsimp only at hSw); go_simp) <;> with_reducible rfl
  (try simp only [Act.put, List.getElem_toArray, List.getElem_cons_zero, List.setIfInBounds_toArray, List.set_cons_zero, List.set_cons_succ])
  refine wpAnyH_take (i := 1) (v := ?_) rfl (by kernel_rfl) (by kernel_rfl) (by kernel_rfl) (fun _ _ _ h => h) (Or.inl ⟨by kernel_rfl, ?_⟩) (by assumption) ?_
  rotate_left
  · (intro w hSw; (try dsimp only at hSw); go_simp) <;> with_reducible rfl
  (try simp only [Act.put, List.getElem_toArray, List.getElem_cons_zero, List.getElem_cons_succ, List.setIfInBounds_toArray, List.set_cons_zero, List.set_cons_succ])
  refine wpAnyH_take (i := 2) (v := ?_) rfl (by kernel_rfl) (by kernel_rfl) (by kernel_rfl) (fun _ _ _ h => h) (Or.inl ⟨by kernel_rfl, ?_⟩) (by assumption) ?_
  rotate_left
  · (intro w hSw; (try dsimp only at hSw); go_simp) <;> with_reducible rfl
  (try simp only [Act.put, List.getElem_toArray, List.getElem_cons_zero, List.getElem_cons_succ, List.setIfInBounds_toArray, List.set_cons_zero, List.set_cons_succ])
  refine wpAnyH_take (i := 3) (v := ?_) rfl (by kernel_rfl) (by kernel_rfl) (by kernel_rfl) (fun _ _ _ h => h) (Or.inl ⟨by kernel_rfl, ?_⟩) (by assumption) ?_
  rotate_left
  · (intro w hSw; (try dsimp only at hSw); go_simp) <;> with_reducible rfl
  (try simp only [Act.put, List.getElem_toArray, List.getElem_cons_zero, List.getElem_cons_succ, List.setIfInBounds_toArray, List.set_cons_zero, List.set_cons_succ])
  refine wpAnyH_take (i := 4) (v := ?_) rfl (by kernel_rfl) (by kernel_rfl) (by kernel_rfl) (fun _ _ _ h => h) (Or.inl ⟨by kernel_rfl, ?_⟩) (by assumption) ?_
  rotate_left
  · (intro w hSw; (try dsimp only at hSw); go_simp) <;> with_reducible rfl
  (try simp only [Act.put, List.getElem_toArray, List.getElem_cons_zero, List.getElem_cons_succ, List.setIfInBounds_toArray, List.set_cons_zero, List.set_cons_succ])
  refine wpAnyH_take (i := 5) (v := ?_) rfl (by kernel_rfl) (by kernel_rfl) (by kernel_rfl) (fun _ _ _ h => h) (Or.inl ⟨by kernel_rfl, ?_⟩) (by assumption) ?_
  rotate_left
  · (intro w hSw; (try dsimp only at hSw); go_simp) <;> with_reducible rfl
  (try simp only [Act.put, List.getElem_toArray, List.getElem_cons_zero, List.getElem_cons_succ, List.setIfInBounds_toArray, List.set_cons_zero, List.set_cons_succ])
  refine wpAnyH_take (i := 6) (v := ?_) rfl (by kernel_rfl) (by kernel_rfl) (by kernel_rfl) (fun _ _ _ h => h) (Or.inl ⟨by kernel_rfl, ?_⟩) (by assumption) ?_
  rotate_left
  · (intro w hSw; (try dsimp only at hSw); go_simp) <;> with_reducible rfl
  (try simp only [Act.put, List.getElem_toArray, List.getElem_cons_zero, List.getElem_cons_succ, List.setIfInBounds_toArray, List.set_cons_zero, List.set_cons_succ])
  refine wpAnyH_take (i := 7) (v := ?_) rfl (by kernel_rfl) (by kernel_rfl) (by kernel_rfl) (fun _ _ _ h => h) (Or.inl ⟨by kernel_rfl, ?_⟩) (by assumption) ?_
  rotate_left
  · (intro w hSw; (try dsimp only at hSw); go_simp) <;> with_reducible rfl
  (try simp only [Act.put, List.getElem_toArray, List.getElem_cons_zero, List.getElem_cons_succ, List.setIfInBounds_toArray, List.set_cons_zero, List.set_cons_succ])
  refine wpAnyH_take (i := 8) (v := ?_) rfl (by kernel_rfl) (by kernel_rfl) (by kernel_rfl) (fun _ _ _ h => h) (Or.inl ⟨by kernel_rfl, ?_⟩) (by assumption) ?_
  rotate_left
  · (intro w hSw; (try dsimp only at hSw); go_simp) <;> with_reducible rfl
  (try simp only [Act.put, List.getElem_toArray, List.getElem_cons_zero, List.getElem_cons_succ, List.setIfInBounds_toArray, List.set_cons_zero, List.set_cons_succ])
  refine wpAnyH_take (i := 9) (v := ?_) rfl (by kernel_rfl) (by kernel_rfl) (by kernel_rfl) (fun _ _ _ h => h) (Or.inl ⟨by kernel_rfl, ?_⟩) (by assumption) ?_
  rotate_left
  · (intro w hSw; (try dsimp only at hSw); go_simp) <;> with_reducible rfl
  (try simp only [Act.put, List.getElem_toArray, List.getElem_cons_zero, List.getElem_cons_succ, List.setIfInBounds_toArray, List.set_cons_zero, List.set_cons_succ])
  refine wpAnyH_take (i := 10) (v := ?_) rfl (by kernel_rfl) (by kernel_rfl) (by kernel_rfl) (fun _ _ _ h => h) (Or.inl ⟨by kernel_rfl, ?_⟩) (by assumption) ?_
  rotate_left
  · (intro w hSw; (try dsimp only at hSw); go_simp) <;> with_reducible rfl
  (try simp only [Act.put, List.getElem_toArray, List.getElem_cons_zero, List.getElem_cons_succ, List.setIfInBounds_toArray, List.set_cons_zero, List.set_cons_succ])
  refine wpAnyH_take (i := 11) (v := ?_) rfl (by kernel_rfl) (by kernel_rfl) (by kernel_rfl) (fun _ _ _ h => h) (Or.inl ⟨by kernel_rfl, ?_⟩) (by assumption) ?_
  rotate_left
  · (intro w hSw; (try dsimp only at hSw); go_simp) <;> with_reducible rfl
  (try simp only [Act.put, List.getElem_toArray, List.getElem_cons_zero, List.getElem_cons_succ, List.setIfInBounds_toArray, List.set_cons_zero, List.set_cons_succ])
  refine wpAnyH_take (i := 12) (v := ?_) rfl (by kernel_rfl) (by kernel_rfl) (by kernel_rfl) (fun _ _ _ h => h) (Or.inl ⟨by kernel_rfl, ?_⟩) (by assumption) ?_
  rotate_left
  · (intro w hSw; (try dsimp only at hSw); go_simp) <;> with_reducible rfl
  (try simp only [Act.put, List.getElem_toArray, List.getElem_cons_zero, List.getElem_cons_succ, List.setIfInBounds_toArray, List.set_cons_zero, List.set_cons_succ])
  refine wpAnyH_ready (rs := [13]) (by kernel_rfl) (by simp) ?_
  refine AllReadyH.cons rfl (fun K hK => ?_) AllReadyH.nil
  go_simp
  have hs2 : ∀ ob, (w1.alloc ob).drew.cell? ⟨q, o, none⟩ = some (.int .u64 x0) ∧ (w1.alloc ob).drew.cell? ⟨q, o + 1, none⟩ = some (.int .u64 x1) ∧ (w1.alloc ob).drew.cell? ⟨q, o + 2, none⟩ = some (.int .u64 x2) := fun ob => by
    have hb := below_alloc w1 ob
    exact ⟨(hb.cell hql).trans hs.1, (hb.cell hql).trans hs.2.1, (hb.cell hql).trans hs.2.2⟩
  refine hK.out _ _ (hs2 _) (fun hHeld => ?_)
  clear hK K
  (try simp only [Act.put, List.getElem_toArray, List.getElem_cons_zero, List.getElem_cons_succ, List.setIfInBounds_toArray, List.set_cons_zero, List.set_cons_succ])
  refine wpAnyH_ready (rs := [14]) (by kernel_rfl) (by simp) ?_
  refine AllReadyH.cons rfl (fun K hK => ?_) AllReadyH.nil
  have hwd : ∀ Z R : Array Value, (w1.alloc (.cells Z 88)).drew.setRow w1.heap.size R = (w1.alloc (.cells R 88)).drew := fun Z R => congrArg World.drew (setRow_alloc_new w1 Z R _)
  refine step_store_row rfl 88 _ _ rfl w1.heap.size #[.int .i64 x0, .int .i64 x1, .int .i64 x2, .int .i64 0, .int .i64 0, .int .i64 0, .int .i64 0, .int .i64 0, .int .i64 0] rfl rfl 88 _ (heap_alloc_new w1 _) (by kernel_rfl) rfl (irow_one [x0, x1, x2, 0, 0, 0, 0, 0, 0]) ?_
  rw [hwd]
  clear hwd
  obtain ⟨W3, hW3⟩ : ∃ W, W = (w1.alloc (.cells #[.int .i64 x0, .int .i64 x1, .int .i64 x2, .int .i64 0, .int .i64 0, .int .i64 0, .int .i64 0, .int .i64 0, .int .i64 0] 88)).drew := ⟨_, rfl⟩
  have h3 := hs2 (.cells #[.int .i64 x0, .int .i64 x1, .int .i64 x2, .int .i64 0, .int .i64 0, .int .i64 0, .int .i64 0, .int .i64 0, .int .i64 0] 88)
  rw [← hW3] at h3 ⊢
  have HB3 : Hid (Below w1.heap.size w1 W3) := by rw [hW3]; have := below_alloc w1 (.cells #[.int .i64 x0, .int .i64 x1, .int .i64 x2, .int .i64 0, .int .i64 0, .int .i64 0, .int .i64 0, .int .i64 0, .int .i64 0] 88); exact ⟨this.os, this.tape, this.output, this.size, this.block⟩
  obtain ⟨p, hp⟩ : ∃ p, p = w1.heap.size := ⟨_, rfl⟩
  have HP : Hid (p = w1.heap.size) := hp
  have HP3 : Hid (W3.heap[p]? = some (.cells (irow (upTo xs 0)) 88)) := by rw [HX.out, hp, hW3]; exact heap_alloc_new w1 _
  refine hK.out _ _ h3 (fun hHeld => ?_)
  clear hK K
  (try simp only [Act.put, List.getElem_toArray, List.getElem_cons_zero, List.getElem_cons_succ, List.setIfInBounds_toArray, List.set_cons_zero, List.set_cons_succ])
  refine wpAnyH_done (by kernel_rfl) ?_ _
  have hpd : w1.heap.size = p := hp.symm
  rw [hpd]
  obtain ⟨r0, hr0⟩ : ∃ r, r = w.heap.size := ⟨_, rfl⟩
  have Hr0 : Hid (r0 = w.heap.size) := hr0
  have HR3 : Hid (W3.heap[r0]? = some (.cells zi 88)) := by rw [hr0]; exact (HB3.out.block _ (lt_of_heap HR1.out)).trans HR1.out
  have HRP : Hid (r0 ≠ p) := by have := lt_of_heap HR1.out; show _ ≠ _; omega
  rw [← hr0]
  clear hr0 hpd hp hW3 hs hs2 h3 f0 f1 f2 HX
  go_wp2
  go_loopw [24] (fun s wr => ∃ (k : Nat), k ≤ 6 ∧ s = .int .i64 k ∧ wr.heap[p]? = some (.cells (irow (upTo xs k)) 88) ∧ Upd p W3 wr) (fun s _ => 6 - (intOf s).toNat)
  case atStart => exact ⟨0, by omega, rfl, HP3.out, Upd.refl _ _⟩
  case round =>
    obtain ⟨k, hk, rfl, hrow, hu⟩ := hrel
    have HU : Hid (Upd p W3 wr) := hu
    by_cases hlt : k < 6
    · have hki : decide ((k : Int) < 6) = true := by simp; omega
      have hk6 : (k : Int) < 6 := by omega
      have hqp : q ≠ p := by have := HP.out; omega
      have hcq : wr.cell? ⟨q, o + (3 + k), none⟩ = some (.int .u64 (xs.getD (3 + k) 0)) := by
        rw [World.cell?_of_block (w := w1) (a := ⟨q, o + (3 + k), none⟩) ((hu.block q (by have := HB3.out.size; omega) hqp).trans (HB3.out.block q hql))]
        exact HC.out (3 + k) (by omega)
      have hf := (HF.out (3 + k) (by omega)).si
      have hcp : wr.cell? ⟨p, 3 + k, none⟩ = some (.int .i64 ((upTo xs k).getD (3 + k) 0)) := by
        rw [cell_of_heap hrow]
        exact irow_get _ _ (by rw [upTo_len HL.out (by omega)]; omega)
      have hfz : wr.frozen? ⟨p, 3 + k, none⟩ = false := frozen_of_heap hrow
      have HN : Hid ((wr.setCell ⟨p, 3 + k, none⟩ (.int .i64 (xs.getD (3 + k) 0))).heap[p]? = some (.cells (irow (upTo xs (k + 1))) 88)) := by
        show _ = _
        rw [setCell_eq_setRow wr p (3 + k) _ _ _ _ hrow, setRow_heap wr p _ _ _ _ hrow, irow_set, upTo_set HL.out hlt]
      clear hrow hu
      generalize xs.getD (3 + k) 0 = y at *
      generalize (upTo xs k).getD (3 + k) 0 = z at *
      go_wp2
      go_roundw
      case rel => exact ⟨k + 1, by omega, by go_num, HN.out, HU.out.trans (Upd.setCell _ _ _ _)⟩
      case measure => simp [intOf]; omega
    · have hki : decide ((k : Int) < 6) = false := by simp; omega
      have hk6 : ¬ (k : Int) < 6 := by omega
      have hk0 : k = 6 := by omega
      rw [hk0, upTo_all HL.out] at hrow
      obtain ⟨R, hR⟩ : ∃ R, R = irow xs := ⟨_, rfl⟩
      rw [← hR] at hrow
      have HRow : Hid _ := hrow
      have HRs : Hid (R.size = 9) := by rw [hR]; show _ = _; rw [irow_size]; exact HL.out
      have HRo : Hid (R.all (·.oneCell') = true) := by rw [hR]; exact irow_one _
      have HRq : Hid (R = irow xs) := hR
      have HR4 : Hid (wr.heap[r0]? = some (.cells zi 88)) := (hu.block _ (lt_of_heap HR3.out) HRP.out).trans HR3.out
      have HR5 : Hid ((wr.setRow r0 R).heap[r0]? = some (.cells R 88)) := setRow_heap wr r0 _ _ _ _ HR4.out
      clear hk0 hrow hu hR
      go_wp2_with (first
        | (refine wpList_load_row rfl 88 _ rfl p rfl 88 R (0, 0) _ HRow.out Tryz.underlying88 rfl (by rw [HRs.out]; exact inoSize) ?_)
        | (refine wpList_store_row rfl 88 _ _ rfl r0 R rfl rfl 88 zi HR4.out (by rw [HRs.out]; exact inoSize) (by rw [HRs.out]; rfl) HRo.out ?_)
        | go_in)
      have hU2 : Upd p W3 wr := HU.out
      have hp := HP.out
      have hr := Hr0.out
      have hD3 := HQ.out.below HB3.out
      have hD4 : DrQ wr base bd B G n vs ws m (1 + i / 3) q := hD3.other hU2 (by have := HT1.out.size; omega) (not_isD HP3.out (by decide))
      have hT3 : DT base B w W3 := HT1.out.trans (DT.of_below HB3.out)
      have hs13 := HB3.out.size
      have hsT := HT1.out.size
      refine bodyPost_ret (v := .agg R) ?_ rfl ⟨by rw [HRq.out, HXs.out], ?_, ?_⟩
      · rw [results_cell_row rfl _ _ r0 88 R (0, 0) _ rfl HR5.out Tryz.underlying88 rfl (by rw [HRs.out]; exact inoSize)]
      · exact (hD4.other (Upd.setRow r0 wr R) (by omega) (not_isD HR4.out (by decide))).dr
      · exact ⟨hU2.os.trans hT3.os, hU2.tape.trans hT3.tape, hU2.output.trans hT3.output, by have := hU2.size; have := hT3.size; simp; omega, fun k hk hB hg => ((setRow_other _ _ _ _ (by omega)).trans (hU2.block k (Nat.lt_of_lt_of_le hk hT3.size) (by omega))).trans (hT3.block k hk hB hg)⟩
end
end Go.Proofs.YtcaofdbcgdgbbaaGreatDoor
