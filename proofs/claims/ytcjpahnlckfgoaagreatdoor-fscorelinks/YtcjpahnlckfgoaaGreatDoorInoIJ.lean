/- Package inode: isInode, isData, row, inode. -/
/- Package inode: setInode, newHead. -/
import Derived.Test.YtcjpahnlckfgoaaGreatDoorInoGH
namespace Go.Proofs.YtcjpahnlckfgoaaGreatDoor
open Go.RowKit
set_option linter.all false

theorem step_store_row {P : Program} {ops : Array Oper} {op : Oper} {a : Act} {w : World} {K : Act → World → Prop} {Q : Exit → Act → World → Prop} {E : Prop} (hgd : op.guard = none) (ty : TypeId) (x y : Operand) (ho : op.op = .store ty x y)
    (g : Nat) (cells : Array Value) (hx : a.eval x = .pointer (some ⟨g, 0, none⟩)) (hy : a.eval y = .agg cells) (t : TypeId) (old : Array Value) (hg : w.heap[g]? = some (.cells old t (0, 0))) (hi : (P.info? ty).map (·.size) = some cells.size)
    (hold : old.size = cells.size) (h1 : cells.all (·.oneCell') = true) (h : K (a.put op.dst undef) (w.setRow g cells)) : if Region.wanted op (yielded ops a.tmps) = true then Oper.wp P op a w K Q else E := by
  have hw : Region.wanted op (yielded ops a.tmps) = true := by simp [Region.wanted, hgd]
  rw [if_pos hw]
  exact wp_store_row ty x y ho g cells hx hy t old hg hi hold h1 h
/-- Numbers as cells. -/
def irow (xs : List Int) : Array Value := (xs.map (Value.int .i64)).toArray
theorem irow_size (xs : List Int) : (irow xs).size = xs.length := by simp [irow]
theorem irow_get (xs : List Int) (j : Nat) (h : j < xs.length) : (irow xs)[j]? = some (.int .i64 (xs.getD j 0)) := by simp [irow, h]
theorem irow_one (xs : List Int) : (irow xs).all (·.oneCell') = true := by
  unfold irow
  refine all_oneCell_toArray (fun v hv => ?_)
  simp only [List.mem_map] at hv
  obtain ⟨x, _, rfl⟩ := hv
  rfl
theorem irow_set (xs : List Int) (j : Nat) (x : Int) : (irow xs).setIfInBounds j (.int .i64 x) = irow (xs.set j x) := by
  apply Array.ext'
  simp [irow, List.map_set]
/-- An inode that is none. -/
def zi : Array Value := irow (List.replicate 9 0)
theorem lit_zi : (#[.int .i64 0, .int .i64 0, .int .i64 0, .int .i64 0, .int .i64 0, .int .i64 0, .int .i64 0, .int .i64 0, .int .i64 0] : Array Value) = zi := rfl
theorem inoSize : (Tryz.prog.info? 63).map (·.size) = some 9 := by kernel_rfl
/-- Whether there is such an inode. -/
def isI (i : Int) : Bool := decide (0 ≤ i) && decide (i < 32)
theorem isInode_at (i : Int) (w : World) : Calls Tryz.prog 59 #[.int .i64 i] w fun e w' => e = .returned (.bool (isI i)) ∧ w' = w := by
  unfold isI
  by_cases h : 0 ≤ i
  all_goals
    go_enter Tryz.func59, Tryz.ntmps59
    go_wp2
    go_ret
    refine ⟨?_, rfl⟩
    first | (simp [h]; done) | (simp; omega)
theorem isI_nat {i : Nat} (h : i < 32) : isI (i : Int) = true := by simp [isI]; omega
theorem isI_no {i : Int} (h : ¬ (0 ≤ i ∧ i < 32)) : isI i = false := by
  simp only [isI, Bool.and_eq_false_iff, decide_eq_false_iff_not]
  omega
theorem isI_of {i : Int} (h : isI i = true) : ∃ k : Nat, i = (k : Int) ∧ k < 32 := by
  simp only [isI, Bool.and_eq_true, decide_eq_true_eq] at h
  exact ⟨i.toNat, by omega, by omega⟩
/-- Whether a file may have the block. -/
def isDat (n b : Nat) : Bool := decide (12 ≤ b) && decide (b < n)
theorem isData_at {w : World} {M hi gi hb gb n : Nat} {iw bw : List Nat} (h : Bms w M hi gi hb gb n iw bw) (b : Nat) : Calls Tryz.prog 171 #[.agg #[ptr hi, ptr hb], .int .i64 (b : Int)] w fun e w' => e = .returned (.bool (isDat n b)) ∧ Below w.heap.size w w' := by
  have hL := Bi.len_at hb gb n bw _ (h.bb.below (below_alloc w (.cells #[ptr hi, ptr hb] 111)))
  have HO : Hid (Below w.heap.size w (w.alloc (.cells #[ptr hi, ptr hb] 111))) := below_alloc _ _
  clear h
  unfold isDat
  by_cases h0 : 12 ≤ b
  · have hb0 : decide ((12 : Int) ≤ (b : Int)) = true := by simp; omega
    go_enter Tryz.func171, Tryz.ntmps171
    go_wp2_with fail
    refine hL.mono ?_
    rintro e w1 ⟨rfl, hw⟩
    rw [hw]
    clear hw w1 hL
    go_wp2
    go_ret
    refine ⟨?_, HO.out⟩
    simp [h0]
  · have hb0 : decide ((12 : Int) ≤ (b : Int)) = false := by simp; omega
    clear hL
    go_enter Tryz.func171, Tryz.ntmps171
    go_wp2
    go_ret
    refine ⟨?_, HO.out⟩
    simp [h0]
/-- The words of inode i. -/
def rowW (ws : List Int) (i : Nat) : List Int := ((frameOf ws (1 + i / 3)).drop (i % 3 * 9)).take 9
theorem rowW_len {ws : List Int} {n i : Nat} (hl : ws.length = n * 32) (hi : 1 + i / 3 < n) : (rowW ws i).length = 9 := by
  have := frameOf_length ws _ n hl hi
  unfold rowW
  rw [List.length_take, List.length_drop, this]
  omega
theorem rowW_get (ws : List Int) (i j : Nat) (hj : j < 9) : (rowW ws i).getD j 0 = (frameOf ws (1 + i / 3)).getD (i % 3 * 9 + j) 0 := by
  unfold rowW
  simp only [List.getD_eq_getElem?_getD, List.getElem?_take, List.getElem?_drop]
  rw [if_pos hj]
section
variable {w w' : World} {base bd n m : Nat} {B : Sto} {vs ws : List Int}
set_option maxHeartbeats 1000000 in
set_option maxRecDepth 100000 in
theorem drow_at (h : Dr w base bd B n vs ws m) (hm : m ≤ 900000000000) (hn : 13 ≤ n) (i : Nat) (hi : i < 32) :
    Calls Tryz.prog 114 #[ptr bd, .int .i64 (i : Int)] w fun e w' => ∃ q, e = .returned (.slice (some ⟨q, 33 + i % 3 * 9, none⟩) 9 (32 - i % 3 * 9)) ∧ DrQ w' base bd B n vs ws m (1 + i / 3) q ∧ DT base B w w' := by
  have hA := dat_at h (1 + i / 3) (by omega) hm
  obtain ⟨r, hr⟩ : ∃ r, r = i % 3 := ⟨_, rfl⟩
  obtain ⟨d, hd⟩ : ∃ d, d = i / 3 := ⟨_, rfl⟩
  have ht : (i : Int).tmod 3 = (r : Int) := by rw [Int.tmod_eq_emod_of_nonneg (by omega)]; omega
  have hq : (i : Int).tdiv 3 = (d : Int) := by rw [Int.tdiv_eq_ediv_of_nonneg (by omega)]; omega
  have hr3 : r < 3 := by omega
  have hd11 : d < 11 := by omega
  rw [← hd] at hA ⊢
  rw [← hr]
  obtain ⟨c, hc⟩ : ∃ c, c = 32 - r * 9 := ⟨_, rfl⟩
  have hc9 : 9 ≤ c := by omega
  have hc32 : c ≤ 32 := by omega
  have hw1 : IntKind.i64.wrap ((d : Nat) : Int) = (d : Int) := Bi.wrap_small d (by omega)
  have hw2 : IntKind.i64.wrap ((r : Nat) : Int) = (r : Int) := Bi.wrap_small r (by omega)
  have hsl : ∀ q W, (Instr.sliceAt 105 (.pointer (some ⟨q, 33, none⟩)) (some (.int .i64 ((r : Int) * 9))) none none).run Tryz.prog W = .ok (.slice (some ⟨q, 33 + r * 9, none⟩) c c) W := fun q W => by
    have := cont_l q 33 (r * 9) (by omega) W
    rw [← hc] at this
    rw [Int.natCast_mul] at this
    exact this
  rw [← hc]
  rw [show ((1 + d : Nat) : Int) = 1 + (d : Int) by omega] at hA
  clear h hr hd hc
  go_enter Tryz.func114, Tryz.ntmps114
  go_wp2_with fail
  refine hA.mono ?_
  rintro e w1 ⟨q, rfl, hq1, hdt⟩
  have HQ : Hid (DrQ w1 base bd B n vs ws m (1 + d) q) := hq1
  have HT : Hid (DT base B w w1) := hdt
  clear hq1 hdt hA
  go_wp2
  go_ret
  exact ⟨q, rfl, HQ.out, HT.out⟩

theorem DrQ.below {b q : Nat} (h : DrQ w base bd B n vs ws m b q) (hb : Below w.heap.size w w') : DrQ w' base bd B n vs ws m b q := by
  obtain ⟨sv, S, h, hq⟩ := h
  exact ⟨sv, S, h.below hb, hq⟩
theorem DrQ.other {b q g : Nat} (h : DrQ w base bd B n vs ws m b q) (hu : Upd g w w') (hg : base ≤ g) (hd : ¬ IsD w g ∧ ¬ IsSt w g) : DrQ w' base bd B n vs ws m b q := by
  obtain ⟨sv, S, h, hq⟩ := h
  exact ⟨sv, S, h.other hu hg hd, hq⟩
/-- A number that is as many as a word. -/
def Fit (x : Int) : Prop := 0 ≤ x ∧ x < 9223372036854775808
theorem Fit.si {x : Int} (h : Fit x) : IntKind.i64.wrap x = x := by
  have h1 := h.1
  have h2 := h.2
  simp [IntKind.wrap, IntKind.bits, IntKind.signed]
  omega
theorem Fit.su {x : Int} (h : Fit x) : IntKind.u64.wrap x = x := by
  have h1 := h.1
  have h2 := h.2
  rw [IntKind.wrap_u64]
  omega
/-- What is read up to the k-th block. -/
def upTo (xs : List Int) (k : Nat) : List Int := xs.take (3 + k) ++ List.replicate (6 - k) 0
theorem upTo_len {xs : List Int} (h : xs.length = 9) {k : Nat} (hk : k ≤ 6) : (upTo xs k).length = 9 := by
  simp [upTo, h]
  omega
theorem upTo_set {xs : List Int} (h : xs.length = 9) {k : Nat} (hk : k < 6) : (upTo xs k).set (3 + k) (xs.getD (3 + k) 0) = upTo xs (k + 1) := by
  refine list_ext_getD _ _ (by rw [List.length_set, upTo_len h (by omega), upTo_len h (by omega)]) fun i hi => ?_
  rw [List.length_set, upTo_len h (by omega)] at hi
  have e : ∀ k, k ≤ 6 → (upTo xs k).getD i 0 = if i < 3 + k then xs.getD i 0 else 0 := by
    intro k hk
    unfold upTo
    rw [app_get, List.length_take, h, Nat.min_eq_left (by omega)]
    split
    · simp only [List.getD_eq_getElem?_getD, List.getElem?_take]
      rw [if_pos (by assumption)]
    · simp only [List.getD_eq_getElem?_getD, List.getElem?_replicate]
      split <;> rfl
  rw [e (k + 1) (by omega)]
  by_cases q : i = 3 + k
  · subst q
    rw [if_pos (by omega), List.getD_eq_getElem?_getD, List.getElem?_set_self (by rw [upTo_len h (by omega)]; omega)]
    rfl
  · have : ((upTo xs k).set (3 + k) (xs.getD (3 + k) 0)).getD i 0 = (upTo xs k).getD i 0 := by
      simp only [List.getD_eq_getElem?_getD]
      rw [List.getElem?_set_ne (fun e => q e.symm)]
    rw [this, e k (by omega)]
    by_cases q1 : i < 3 + k
    · rw [if_pos q1, if_pos (by omega)]
    · rw [if_neg q1, if_neg (by omega)]
theorem upTo_all {xs : List Int} (h : xs.length = 9) : upTo xs 6 = xs := by
  unfold upTo
  rw [List.take_of_length_le (by omega)]
  simp
theorem upTo_none {xs : List Int} (h : xs.length = 9) : upTo xs 0 = [xs.getD 0 0, xs.getD 1 0, xs.getD 2 0, 0, 0, 0, 0, 0, 0] := by
  match xs, h with
  | [a, b, c, d, e, f, g, h, i], _ => rfl
set_option maxHeartbeats 2000000 in
set_option maxRecDepth 100000 in
theorem dinode_at (h : Dr w base bd B n vs ws m) (hm : m ≤ 900000000000) (hn : 13 ≤ n) (hbase : base ≤ w.heap.size) (i : Nat) (hi : i < 32) (hf : ∀ x ∈ rowW ws i, Fit x) :
    Calls Tryz.prog 73 #[ptr bd, .int .i64 (i : Int)] w fun e w' => e = .returned (.agg (irow (rowW ws i))) ∧ Dr w' base bd B n vs ws m ∧ DT base B w w' := by
  have hl := rowW_len (i := i) h.len (by omega)
  obtain ⟨W0, hW0⟩ : ∃ W, W = w.alloc (.cells zi 63) := ⟨_, rfl⟩
  have hb0 : Below w.heap.size w W0 := by rw [hW0]; exact below_alloc _ _
  have hr0 : W0.heap[w.heap.size]? = some (.cells zi 63) := by rw [hW0]; exact heap_alloc_new _ _
  have hA := drow_at (h.below hb0) hm hn i hi
  have hli := lit_zi
  have HB0 : Hid (Below w.heap.size w W0) := hb0
  have HR0 : Hid _ := hr0
  have HW0 : Hid _ := hW0
  have HL : Hid ((rowW ws i).length = 9) := hl
  have HF : Hid (∀ j, j < 9 → Fit ((rowW ws i).getD j 0)) := fun j hj => hf _ (by
    rw [List.getD_eq_getElem?_getD, List.getElem?_eq_getElem (by omega)]
    exact List.getElem_mem _)
  clear h hf hb0 hr0 hW0 hl
  go_enter Tryz.func73, Tryz.ntmps73
  go_wp2_with fail
  rw [← HW0.out]
  refine hA.mono ?_
  rintro e w1 ⟨q, rfl, hq, hdt⟩
  have HQ : Hid (DrQ w1 base bd B n vs ws m (1 + i / 3) q) := hq
  have HT1 : Hid (DT base B w w1) := (DT.of_below HB0.out).trans hdt
  have hr1 : w1.heap[w.heap.size]? = some (.cells zi 63) := hdt.other HR0.out (by decide) (by decide)
  have HR1 : Hid _ := hr1
  obtain ⟨o, ho⟩ : ∃ o, o = 33 + i % 3 * 9 := ⟨_, rfl⟩
  obtain ⟨c, hc⟩ : ∃ c, c = 32 - i % 3 * 9 := ⟨_, rfl⟩
  rw [← ho, ← hc]
  have HC : Hid (∀ j, j < 9 → w1.cell? ⟨q, o + j, none⟩ = some (.int .u64 ((rowW ws i).getD j 0))) := fun j hj => by
    rw [rowW_get ws i j hj, ho, show 33 + i % 3 * 9 + j = 33 + (i % 3 * 9 + j) by omega]
    exact hq.word (by omega)
  obtain ⟨xs, hxs⟩ : ∃ xs, xs = rowW ws i := ⟨_, rfl⟩
  rw [← hxs] at HC HF HL
  have HXs : Hid (xs = rowW ws i) := hxs
  have c0 : w1.cell? ⟨q, o, none⟩ = some (.int .u64 (xs.getD 0 0)) := HC.out 0 (by omega)
  have c1 := HC.out 1 (by omega)
  have c2 := HC.out 2 (by omega)
  have f0 := (HF.out 0 (by omega)).si
  have f1 := (HF.out 1 (by omega)).si
  have f2 := (HF.out 2 (by omega)).si
  have hql := cell_lt c0
  dsimp only at hql
  clear hA hq hdt hr1 ho hc hxs
  obtain ⟨x0, hx0⟩ : ∃ x, x = xs.getD 0 0 := ⟨_, rfl⟩
  obtain ⟨x1, hx1⟩ : ∃ x, x = xs.getD 1 0 := ⟨_, rfl⟩
  obtain ⟨x2, hx2⟩ : ∃ x, x = xs.getD 2 0 := ⟨_, rfl⟩
  rw [← hx0] at c0 f0
  rw [← hx1] at c1 f1
  rw [← hx2] at c2 f2
  have HX : Hid (upTo xs 0 = [x0, x1, x2, 0, 0, 0, 0, 0, 0]) := by rw [upTo_none HL.out, hx0, hx1, hx2]; rfl
  clear hx0 hx1 hx2
  have hs : w1.cell? ⟨q, o, none⟩ = some (.int .u64 x0) ∧ w1.cell? ⟨q, o + 1, none⟩ = some (.int .u64 x1) ∧ w1.cell? ⟨q, o + 2, none⟩ = some (.int .u64 x2) := ⟨c0, c1, c2⟩
  clear c0 c1 c2
  clear hli
  go_wp2_with fail
  refine wp_region_held_drew (S := fun w' => w'.cell? ⟨q, o, none⟩ = some (.int .u64 x0) ∧ w'.cell? ⟨q, o + 1, none⟩ = some (.int .u64 x1) ∧ w'.cell? ⟨q, o + 2, none⟩ = some (.int .u64 x2)) (by kernel_rfl) hs (fun hHeld => ?_)
  refine wpAnyH_take (i := 0) (v := ?_) rfl (by kernel_rfl) (by kernel_rfl) (by kernel_rfl) (fun _ _ _ h => h) (Or.inl ⟨by kernel_rfl, ?_⟩) (by assumption) ?_
  rotate_left
  · (intro w hSw; (try dsimp only at hSw); go_simp) <;> with_reducible rfl
  (try simp only [Act.put, List.getElem_toArray, List.getElem_cons_zero, List.setIfInBounds_toArray, List.set_cons_zero, List.set_cons_succ])
  refine wpAnyH_take (i := 1) (v := ?_) rfl (by kernel_rfl) (by kernel_rfl) (by kernel_rfl) (fun _ _ _ h => h) (Or.inl ⟨by kernel_rfl, ?_⟩) (by assumption) ?_
  rotate_left
  · (intro w hSw; (try dsimp only at hSw); go_simp) <;> with_reducible rfl
  (try simp only [Act.put, List.getElem_toArray, List.getElem_cons_zero, List.getElem_cons_succ, List.setIfInBounds_toArray, List.set_cons_zero, List.set_cons_succ])
  refine wpAnyH_take (i := 2) (v := ?_) rfl (by kernel_rfl) (by kernel_rfl) (by kernel_rfl) (fun _ _ _ h => h) (Or.inl ⟨by kernel_rfl, ?_⟩) (by assumption) ?_
  rotate_left
  · (intro w hSw; (try dsimp only at hSw); go_simp) <;> with_reducible rfl
  (try simp only [Act.put, List.getElem_toArray, List.getElem_cons_zero, List.getElem_cons_succ, List.setIfInBounds_toArray, List.set_cons_zero, List.set_cons_succ])
  refine wpAnyH_take (i := 3) (v := ?_) rfl (by kernel_rfl) (by kernel_rfl) (by kernel_rfl) (fun _ _ _ h => h) (Or.inl ⟨by kernel_rfl, ?_⟩) (by assumption) ?_
  rotate_left
  · (intro w hSw; (try dsimp only at hSw); go_simp) <;> with_reducible rfl
  (try simp only [Act.put, List.getElem_toArray, List.getElem_cons_zero, List.getElem_cons_succ, List.setIfInBounds_toArray, List.set_cons_zero, List.set_cons_succ])
  refine wpAnyH_take (i := 4) (v := ?_) rfl (by kernel_rfl) (by kernel_rfl) (by kernel_rfl) (fun _ _ _ h => h) (Or.inl ⟨by kernel_rfl, ?_⟩) (by assumption) ?_
  rotate_left
  · (intro w hSw; (try dsimp only at hSw); go_simp) <;> with_reducible rfl
  (try simp only [Act.put, List.getElem_toArray, List.getElem_cons_zero, List.getElem_cons_succ, List.setIfInBounds_toArray, List.set_cons_zero, List.set_cons_succ])
  refine wpAnyH_take (i := 5) (v := ?_) rfl (by kernel_rfl) (by kernel_rfl) (by kernel_rfl) (fun _ _ _ h => h) (Or.inl ⟨by kernel_rfl, ?_⟩) (by assumption) ?_
  rotate_left
  · (intro w hSw; (try dsimp only at hSw); go_simp) <;> with_reducible rfl
  (try simp only [Act.put, List.getElem_toArray, List.getElem_cons_zero, List.getElem_cons_succ, List.setIfInBounds_toArray, List.set_cons_zero, List.set_cons_succ])
  refine wpAnyH_take (i := 6) (v := ?_) rfl (by kernel_rfl) (by kernel_rfl) (by kernel_rfl) (fun _ _ _ h => h) (Or.inl ⟨by kernel_rfl, ?_⟩) (by assumption) ?_
  rotate_left
  · (intro w hSw; (try dsimp only at hSw); go_simp) <;> with_reducible rfl
  (try simp only [Act.put, List.getElem_toArray, List.getElem_cons_zero, List.getElem_cons_succ, List.setIfInBounds_toArray, List.set_cons_zero, List.set_cons_succ])
  refine wpAnyH_take (i := 7) (v := ?_) rfl (by kernel_rfl) (by kernel_rfl) (by kernel_rfl) (fun _ _ _ h => h) (Or.inl ⟨by kernel_rfl, ?_⟩) (by assumption) ?_
  rotate_left
  · (intro w hSw; (try dsimp only at hSw); go_simp) <;> with_reducible rfl
  (try simp only [Act.put, List.getElem_toArray, List.getElem_cons_zero, List.getElem_cons_succ, List.setIfInBounds_toArray, List.set_cons_zero, List.set_cons_succ])
  refine wpAnyH_take (i := 8) (v := ?_) rfl (by kernel_rfl) (by kernel_rfl) (by kernel_rfl) (fun _ _ _ h => h) (Or.inl ⟨by kernel_rfl, ?_⟩) (by assumption) ?_
  rotate_left
  · (intro w hSw; (try dsimp only at hSw); go_simp) <;> with_reducible rfl
  (try simp only [Act.put, List.getElem_toArray, List.getElem_cons_zero, List.getElem_cons_succ, List.setIfInBounds_toArray, List.set_cons_zero, List.set_cons_succ])
  refine wpAnyH_take (i := 9) (v := ?_) rfl (by kernel_rfl) (by kernel_rfl) (by kernel_rfl) (fun _ _ _ h => h) (Or.inl ⟨by kernel_rfl, ?_⟩) (by assumption) ?_
  rotate_left
  · (intro w hSw; (try dsimp only at hSw); go_simp) <;> with_reducible rfl
  (try simp only [Act.put, List.getElem_toArray, List.getElem_cons_zero, List.getElem_cons_succ, List.setIfInBounds_toArray, List.set_cons_zero, List.set_cons_succ])
  refine wpAnyH_take (i := 10) (v := ?_) rfl (by kernel_rfl) (by kernel_rfl) (by kernel_rfl) (fun _ _ _ h => h) (Or.inl ⟨by kernel_rfl, ?_⟩) (by assumption) ?_
  rotate_left
  · (intro w hSw; (try dsimp only at hSw); go_simp) <;> with_reducible rfl
  (try simp only [Act.put, List.getElem_toArray, List.getElem_cons_zero, List.getElem_cons_succ, List.setIfInBounds_toArray, List.set_cons_zero, List.set_cons_succ])
  refine wpAnyH_take (i := 11) (v := ?_) rfl (by kernel_rfl) (by kernel_rfl) (by kernel_rfl) (fun _ _ _ h => h) (Or.inl ⟨by kernel_rfl, ?_⟩) (by assumption) ?_
  rotate_left
  · (intro w hSw; (try dsimp only at hSw); go_simp) <;> with_reducible rfl
  (try simp only [Act.put, List.getElem_toArray, List.getElem_cons_zero, List.getElem_cons_succ, List.setIfInBounds_toArray, List.set_cons_zero, List.set_cons_succ])
  refine wpAnyH_take (i := 12) (v := ?_) rfl (by kernel_rfl) (by kernel_rfl) (by kernel_rfl) (fun _ _ _ h => h) (Or.inl ⟨by kernel_rfl, ?_⟩) (by assumption) ?_
  rotate_left
  · (intro w hSw; (try dsimp only at hSw); go_simp) <;> with_reducible rfl
  (try simp only [Act.put, List.getElem_toArray, List.getElem_cons_zero, List.getElem_cons_succ, List.setIfInBounds_toArray, List.set_cons_zero, List.set_cons_succ])
  refine wpAnyH_ready (rs := [13]) (by kernel_rfl) (by simp) ?_
  refine AllReadyH.cons rfl (fun K hK => ?_) AllReadyH.nil
  go_simp
  have hs2 : ∀ ob, (w1.alloc ob).drew.cell? ⟨q, o, none⟩ = some (.int .u64 x0) ∧ (w1.alloc ob).drew.cell? ⟨q, o + 1, none⟩ = some (.int .u64 x1) ∧ (w1.alloc ob).drew.cell? ⟨q, o + 2, none⟩ = some (.int .u64 x2) := fun ob => by
    have hb := below_alloc w1 ob
    exact ⟨(hb.cell hql).trans hs.1, (hb.cell hql).trans hs.2.1, (hb.cell hql).trans hs.2.2⟩
  refine hK.out _ _ (hs2 _) (fun hHeld => ?_)
  clear hK K
  (try simp only [Act.put, List.getElem_toArray, List.getElem_cons_zero, List.getElem_cons_succ, List.setIfInBounds_toArray, List.set_cons_zero, List.set_cons_succ])
  refine wpAnyH_ready (rs := [14]) (by kernel_rfl) (by simp) ?_
  refine AllReadyH.cons rfl (fun K hK => ?_) AllReadyH.nil
  have hwd : ∀ Z R : Array Value, (w1.alloc (.cells Z 63)).drew.setRow w1.heap.size R = (w1.alloc (.cells R 63)).drew := fun Z R => congrArg World.drew (setRow_alloc_new w1 Z R _)
  refine step_store_row rfl 63 _ _ rfl w1.heap.size #[.int .i64 x0, .int .i64 x1, .int .i64 x2, .int .i64 0, .int .i64 0, .int .i64 0, .int .i64 0, .int .i64 0, .int .i64 0] rfl rfl 63 _ (heap_alloc_new w1 _) (by kernel_rfl) rfl (irow_one [x0, x1, x2, 0, 0, 0, 0, 0, 0]) ?_
  rw [hwd]
  clear hwd
  obtain ⟨W3, hW3⟩ : ∃ W, W = (w1.alloc (.cells #[.int .i64 x0, .int .i64 x1, .int .i64 x2, .int .i64 0, .int .i64 0, .int .i64 0, .int .i64 0, .int .i64 0, .int .i64 0] 63)).drew := ⟨_, rfl⟩
  have h3 := hs2 (.cells #[.int .i64 x0, .int .i64 x1, .int .i64 x2, .int .i64 0, .int .i64 0, .int .i64 0, .int .i64 0, .int .i64 0, .int .i64 0] 63)
  rw [← hW3] at h3 ⊢
  have HB3 : Hid (Below w1.heap.size w1 W3) := by rw [hW3]; have := below_alloc w1 (.cells #[.int .i64 x0, .int .i64 x1, .int .i64 x2, .int .i64 0, .int .i64 0, .int .i64 0, .int .i64 0, .int .i64 0, .int .i64 0] 63); exact ⟨this.os, this.tape, this.output, this.size, this.block⟩
  obtain ⟨p, hp⟩ : ∃ p, p = w1.heap.size := ⟨_, rfl⟩
  have HP : Hid (p = w1.heap.size) := hp
  have HP3 : Hid (W3.heap[p]? = some (.cells (irow (upTo xs 0)) 63)) := by rw [HX.out, hp, hW3]; exact heap_alloc_new w1 _
  refine hK.out _ _ h3 (fun hHeld => ?_)
  clear hK K
  (try simp only [Act.put, List.getElem_toArray, List.getElem_cons_zero, List.getElem_cons_succ, List.setIfInBounds_toArray, List.set_cons_zero, List.set_cons_succ])
  refine wpAnyH_done (by kernel_rfl) ?_ _
  have hpd : w1.heap.size = p := hp.symm
  rw [hpd]
  obtain ⟨r0, hr0⟩ : ∃ r, r = w.heap.size := ⟨_, rfl⟩
  have Hr0 : Hid (r0 = w.heap.size) := hr0
  have HR3 : Hid (W3.heap[r0]? = some (.cells zi 63)) := by rw [hr0]; exact (HB3.out.block _ (lt_of_heap HR1.out)).trans HR1.out
  have HRP : Hid (r0 ≠ p) := by have := lt_of_heap HR1.out; show _ ≠ _; omega
  rw [← hr0]
  clear hr0 hpd hp hW3 hs hs2 h3 f0 f1 f2 HX
  go_wp2
  go_loopw [24] (fun s wr => ∃ (k : Nat), k ≤ 6 ∧ s = .int .i64 k ∧ wr.heap[p]? = some (.cells (irow (upTo xs k)) 63) ∧ Upd p W3 wr) (fun s _ => 6 - (intOf s).toNat)
  case atStart => exact ⟨0, by omega, rfl, HP3.out, Upd.refl _ _⟩
  case round =>
    obtain ⟨k, hk, rfl, hrow, hu⟩ := hrel
    have HU : Hid (Upd p W3 wr) := hu
    by_cases hlt : k < 6
    · have hki : decide ((k : Int) < 6) = true := by simp; omega
      have hk6 : (k : Int) < 6 := by omega
      have hqp : q ≠ p := by have := HP.out; omega
      have hcq : wr.cell? ⟨q, o + (3 + k), none⟩ = some (.int .u64 (xs.getD (3 + k) 0)) := by
        rw [World.cell?_of_block (w := w1) (a := ⟨q, o + (3 + k), none⟩) ((hu.block q (by have := HB3.out.size; omega) hqp).trans (HB3.out.block q hql))]
        exact HC.out (3 + k) (by omega)
      have hf := (HF.out (3 + k) (by omega)).si
      have hcp : wr.cell? ⟨p, 3 + k, none⟩ = some (.int .i64 ((upTo xs k).getD (3 + k) 0)) := by
        rw [cell_of_heap hrow]
        exact irow_get _ _ (by rw [upTo_len HL.out (by omega)]; omega)
      have hfz : wr.frozen? ⟨p, 3 + k, none⟩ = false := frozen_of_heap hrow
      have HN : Hid ((wr.setCell ⟨p, 3 + k, none⟩ (.int .i64 (xs.getD (3 + k) 0))).heap[p]? = some (.cells (irow (upTo xs (k + 1))) 63)) := by
        show _ = _
        rw [setCell_eq_setRow wr p (3 + k) _ _ _ _ hrow, setRow_heap wr p _ _ _ _ hrow, irow_set, upTo_set HL.out hlt]
      clear hrow hu
      generalize xs.getD (3 + k) 0 = y at *
      generalize (upTo xs k).getD (3 + k) 0 = z at *
      go_wp2
      go_roundw
      case rel => exact ⟨k + 1, by omega, by go_num, HN.out, HU.out.trans (Upd.setCell _ _ _ _)⟩
      case measure => simp [intOf]; omega
    · have hki : decide ((k : Int) < 6) = false := by simp; omega
      have hk6 : ¬ (k : Int) < 6 := by omega
      have hk0 : k = 6 := by omega
      rw [hk0, upTo_all HL.out] at hrow
      obtain ⟨R, hR⟩ : ∃ R, R = irow xs := ⟨_, rfl⟩
      rw [← hR] at hrow
      have HRow : Hid _ := hrow
      have HRs : Hid (R.size = 9) := by rw [hR]; show _ = _; rw [irow_size]; exact HL.out
      have HRo : Hid (R.all (·.oneCell') = true) := by rw [hR]; exact irow_one _
      have HRq : Hid (R = irow xs) := hR
      have HR4 : Hid (wr.heap[r0]? = some (.cells zi 63)) := (hu.block _ (lt_of_heap HR3.out) HRP.out).trans HR3.out
      have HR5 : Hid ((wr.setRow r0 R).heap[r0]? = some (.cells R 63)) := setRow_heap wr r0 _ _ _ _ HR4.out
      clear hk0 hrow hu hR
      go_wp2_with (first
        | (refine wpList_load_row rfl 63 _ rfl p rfl 63 R (0, 0) _ HRow.out Tryz.underlying63 rfl (by rw [HRs.out]; exact inoSize) ?_)
        | (refine wpList_store_row rfl 63 _ _ rfl r0 R rfl rfl 63 zi HR4.out (by rw [HRs.out]; exact inoSize) (by rw [HRs.out]; rfl) HRo.out ?_)
        | go_in)
      have hU2 : Upd p W3 wr := HU.out
      have hp := HP.out
      have hr := Hr0.out
      have hD3 := HQ.out.below HB3.out
      have hD4 : DrQ wr base bd B n vs ws m (1 + i / 3) q := hD3.other hU2 (by have := HT1.out.size; omega) (not_isD HP3.out (by decide))
      have hT3 : DT base B w W3 := HT1.out.trans (DT.of_below HB3.out)
      have hs13 := HB3.out.size
      have hsT := HT1.out.size
      refine bodyPost_ret (v := .agg R) ?_ rfl ⟨by rw [HRq.out, HXs.out], ?_, ?_⟩
      · rw [results_cell_row rfl _ _ r0 63 R (0, 0) _ rfl HR5.out Tryz.underlying63 rfl (by rw [HRs.out]; exact inoSize)]
      · exact (hD4.other (Upd.setRow r0 wr R) (by omega) (not_isD HR4.out (by decide))).dr
      · exact ⟨hU2.os.trans hT3.os, hU2.tape.trans hT3.tape, hU2.output.trans hT3.output, by have := hU2.size; have := hT3.size; simp; omega, fun k hk hB hg => ((setRow_other _ _ _ _ (by omega)).trans (hU2.block k (Nat.lt_of_lt_of_le hk hT3.size) (by omega))).trans (hT3.block k hk hB hg)⟩
end
end Go.Proofs.YtcjpahnlckfgoaaGreatDoor

namespace Go.Proofs.YtcjpahnlckfgoaaGreatDoor
open Go.RowKit
set_option linter.unusedVariables false

theorem splice_splice (ws : List Int) (o : Nat) (a b : List Int) (h : a.length = b.length) (hl : o + a.length ≤ ws.length) : splice (splice ws o a) o b = splice ws o b := by
  have h1 := splice_length ws o a hl
  refine list_ext_getD _ _ (by rw [splice_length _ _ _ (by omega), h1, splice_length _ _ _ (by omega)]) fun i hi => ?_
  rw [splice_getD _ _ _ (by omega), splice_getD _ _ _ (by omega), splice_getD _ _ _ (by omega)]
  by_cases q : o ≤ i ∧ i < o + b.length
  · rw [if_pos q, if_pos q]
  · rw [if_neg q, if_neg q, if_neg (by omega)]
theorem splice_set {F xs : List Int} {o k : Nat} (hk : k < xs.length) (hl : o + xs.length ≤ F.length) : (splice F o (xs.take k)).set (o + k) (xs.getD k 0) = splice F o (xs.take (k + 1)) := by
  have l1 : (xs.take k).length = k := by simp; omega
  have l2 : (xs.take (k + 1)).length = k + 1 := by simp; omega
  have s1 := splice_length F o (xs.take k) (by omega)
  have s2 := splice_length F o (xs.take (k + 1)) (by omega)
  refine list_ext_getD _ _ (by rw [List.length_set, s1, s2]) fun i hi => ?_
  rw [List.length_set, s1] at hi
  rw [splice_getD _ _ _ (by omega), l2]
  by_cases e : i = o + k
  · subst e
    rw [List.getD_eq_getElem?_getD, List.getElem?_set_self (by rw [s1]; omega), if_pos (by omega), Nat.add_sub_cancel_left]
    simp only [List.getD_eq_getElem?_getD, List.getElem?_take]
    rw [if_pos (by omega)]
    rfl
  · have : ((splice F o (xs.take k)).set (o + k) (xs.getD k 0)).getD i 0 = (splice F o (xs.take k)).getD i 0 := by
      simp only [List.getD_eq_getElem?_getD]
      rw [List.getElem?_set_ne (fun x => e x.symm)]
    rw [this, splice_getD _ _ _ (by omega), l1]
    by_cases q : o ≤ i ∧ i < o + k
    · rw [if_pos q, if_pos (by omega)]
      simp only [List.getD_eq_getElem?_getD, List.getElem?_take]
      rw [if_pos (by omega), if_pos (by omega)]
    · rw [if_neg q, if_neg (by omega)]
theorem splice_nil (F : List Int) (o : Nat) : splice F o [] = F := by simp [splice]
theorem blk_index (ys : List Int) (h : ys.length = 6) (k : Nat) (hk : k < 6) (W : World) : (Instr.index 61 (.agg (irow ys)) (.int .i64 (k : Int))).run Tryz.prog W = .ok (.int .i64 (ys.getD k 0)) W := by
  obtain ⟨a, b, c, d, e, f, rfl⟩ : ∃ a b c d e f, ys = [a, b, c, d, e, f] := by
    match ys, h with
    | [a, b, c, d, e, f], _ => exact ⟨a, b, c, d, e, f, rfl⟩
  clear h
  obtain rfl | rfl | rfl | rfl | rfl | rfl : k = 0 ∨ k = 1 ∨ k = 2 ∨ k = 3 ∨ k = 4 ∨ k = 5 := by omega
  all_goals kernel_rfl
section
variable {w w' : World} {base bd n m : Nat} {B : Sto} {vs ws : List Int}
/-- The words with inode i laid anew, as far as its k-th word. -/
def putW (ws : List Int) (i : Nat) (xs : List Int) : List Int := splice ws ((1 + i / 3) * 32) (splice (frameOf ws (1 + i / 3)) (i % 3 * 9) xs)
theorem DrQ.putw {i k q : Nat} {xs : List Int} (h : DrQ w base bd B n vs (putW ws i (xs.take k)) m (1 + i / 3) q) (hx : xs.length = 9) (hk : k < 9) (hl : ws.length = n * 32) (hb : 1 + i / 3 < n) :
    DrQ (w.setCell ⟨q, 33 + i % 3 * 9 + k, none⟩ (.int .u64 (xs.getD k 0))) base bd B n vs (putW ws i (xs.take (k + 1))) m (1 + i / 3) q ∧ DT base B w (w.setCell ⟨q, 33 + i % 3 * 9 + k, none⟩ (.int .u64 (xs.getD k 0))) := by
  have hf := frameOf_length ws (1 + i / 3) n hl hb
  have l1 : (xs.take k).length = k := by simp; omega
  have l2 : (xs.take (k + 1)).length = k + 1 := by simp; omega
  have s1 : (splice (frameOf ws (1 + i / 3)) (i % 3 * 9) (xs.take k)).length = 32 := by rw [splice_length _ _ _ (by omega), hf]
  have s2 : (splice (frameOf ws (1 + i / 3)) (i % 3 * 9) (xs.take (k + 1))).length = 32 := by rw [splice_length _ _ _ (by omega), hf]
  have := h.set (j := i % 3 * 9 + k) (x := xs.getD k 0) (by omega)
  have e1 : frameOf (putW ws i (xs.take k)) (1 + i / 3) = splice (frameOf ws (1 + i / 3)) (i % 3 * 9) (xs.take k) := by
    unfold putW
    rw [frame_splice ws _ n _ _ hl hb hb s1, if_pos rfl]
  rw [e1, splice_set (by omega) (by omega)] at this
  have e2 : splice (putW ws i (xs.take k)) ((1 + i / 3) * 32) (splice (frameOf ws (1 + i / 3)) (i % 3 * 9) (xs.take (k + 1))) = putW ws i (xs.take (k + 1)) := by
    unfold putW
    rw [splice_splice _ _ _ _ (by rw [s1, s2]) (by rw [s1, hl]; omega)]
  rw [e2, ← Nat.add_assoc] at this
  exact this
theorem putW_nil (ws : List Int) (i : Nat) {n : Nat} (hl : ws.length = n * 32) (hb : 1 + i / 3 < n) : putW ws i [] = ws := by
  have hf := frameOf_length ws (1 + i / 3) n hl hb
  unfold putW
  rw [splice_nil]
  refine frames_ext (n := n) (by rw [splice_length _ _ _ (by omega), hl]) hl (fun b hb2 => ?_)
  rw [frame_splice ws _ n _ _ hl hb hb2 hf]
  by_cases e : b = 1 + i / 3
  · rw [if_pos e, e]
  · rw [if_neg e]
set_option maxHeartbeats 4000000 in
set_option maxRecDepth 100000 in
theorem dsetInode_at (h : Dr w base bd B n vs ws m) (hm : m ≤ 900000000000) (hn : 13 ≤ n) (hbase : base ≤ w.heap.size) (i : Nat) (hi : i < 32) (xs : List Int) (hx : xs.length = 9) (hf : ∀ x ∈ xs, Fit x) :
    Calls Tryz.prog 53 #[ptr bd, .int .i64 (i : Int), .agg (irow xs)] w fun e w' => e = .returned (.tuple #[]) ∧ Dr w' base bd B n vs (putW ws i xs) m ∧ DT base B w w' := by
  have hl := h.len
  have HF : Hid (∀ j, j < 9 → Fit (xs.getD j 0)) := fun j hj => hf _ (by
    rw [List.getD_eq_getElem?_getD, List.getElem?_eq_getElem (by omega)]
    exact List.getElem_mem _)
  obtain ⟨X, hX⟩ : ∃ X, X = irow xs := ⟨_, rfl⟩
  obtain ⟨W0, hW0⟩ : ∃ W, W = w.alloc (.cells X 63) := ⟨_, rfl⟩
  have hb0 : Below w.heap.size w W0 := by rw [hW0]; exact below_alloc _ _
  have hr0 : W0.heap[w.heap.size]? = some (.cells X 63) := by rw [hW0]; exact heap_alloc_new _ _
  have hA := drow_at (h.below hb0) hm hn i hi
  have HB0 : Hid (Below w.heap.size w W0) := hb0
  have HR0 : Hid _ := hr0
  have HW0 : Hid _ := hW0
  have HXs : Hid (X.size = 9) := by rw [hX]; show _ = _; rw [irow_size]; exact hx
  have HXq : Hid (X = irow xs) := hX
  have HXl : Hid (xs.length = 9) := hx
  have HLn : Hid (ws.length = n * 32) := hl
  rw [← hX]
  clear h hf hb0 hr0 hW0 hl hX hx
  go_enter Tryz.func53, Tryz.ntmps53
  go_wp2_with fail
  rw [← HW0.out]
  refine hA.mono ?_
  rintro e w1 ⟨q, rfl, hq, hdt⟩
  have HT1 : Hid (DT base B w w1) := (DT.of_below HB0.out).trans hdt
  obtain ⟨p, hp⟩ : ∃ p, p = w.heap.size := ⟨_, rfl⟩
  have Hp : Hid (p = w.heap.size) := hp
  have hr1 : w1.heap[p]? = some (.cells X 63) := by rw [hp]; exact hdt.other HR0.out (by decide) (by decide)
  have HR1 : Hid (w1.heap[p]? = some (.cells X 63)) := hr1
  have hqp : q ≠ p := by
    intro e
    obtain ⟨A, hA, hh, _⟩ := hq.row
    rw [e, hr1] at hh
    simp only [Option.some.injEq, Obj.cells.injEq] at hh
    exact absurd hh.2.1 (by decide)
  have HQ : Hid (DrQ w1 base bd B n vs (putW ws i (xs.take 0)) m (1 + i / 3) q) := by
    rw [List.take_zero, putW_nil ws i HLn.out (by omega)]
    exact hq
  obtain ⟨o, ho⟩ : ∃ o, o = 33 + i % 3 * 9 := ⟨_, rfl⟩
  obtain ⟨c, hc⟩ : ∃ c, c = 32 - i % 3 * 9 := ⟨_, rfl⟩
  have Ho : Hid (o = 33 + i % 3 * 9) := ho
  rw [← ho, ← hc, ← hp]
  have hI : ∀ j, j < 9 → w1.cell? ⟨p, j, none⟩ = some (.int .i64 (xs.getD j 0)) := fun j hj => by rw [cell_of_heap hr1, HXq.out]; exact irow_get _ _ (by rw [HXl.out]; exact hj)
  have hS : ∀ j, j < 9 → ∃ y, w1.cell? ⟨q, o + j, none⟩ = some (.int .u64 y) := fun j hj => ⟨_, by rw [ho, show 33 + i % 3 * 9 + j = 33 + (i % 3 * 9 + j) by omega]; exact hq.word (by omega)⟩
  have hz := fun j => hq.free (j := j)
  obtain ⟨y0, s0⟩ := hS 0 (by omega)
  obtain ⟨y1, s1⟩ := hS 1 (by omega)
  obtain ⟨y2, s2⟩ := hS 2 (by omega)
  rw [Nat.add_zero] at s0
  have i0 := hI 0 (by omega)
  have i1 := hI 1 (by omega)
  have i2 := hI 2 (by omega)
  have f0 := (HF.out 0 (by omega)).su
  have f1 := (HF.out 1 (by omega)).su
  have f2 := (HF.out 2 (by omega)).su
  have h1 := HQ.out.putw HXl.out (by omega) HLn.out (by omega)
  have h2 := h1.1.putw HXl.out (by omega) HLn.out (by omega)
  have h3 := h2.1.putw HXl.out (by omega) HLn.out (by omega)
  rw [← ho] at h1 h2 h3
  rw [Nat.add_zero] at h1 h2 h3
  generalize xs.getD 0 0 = x0 at *
  generalize xs.getD 1 0 = x1 at *
  generalize xs.getD 2 0 = x2 at *
  have HQ3 : Hid (DrQ (((w1.setCell ⟨q, o, none⟩ (.int .u64 x0)).setCell ⟨q, o + 1, none⟩ (.int .u64 x1)).setCell ⟨q, o + 2, none⟩ (.int .u64 x2)) base bd B n vs (putW ws i (xs.take 3)) m (1 + i / 3) q) := h3.1
  have HT3 : Hid (DT base B w (((w1.setCell ⟨q, o, none⟩ (.int .u64 x0)).setCell ⟨q, o + 1, none⟩ (.int .u64 x1)).setCell ⟨q, o + 2, none⟩ (.int .u64 x2))) := ((HT1.out.trans h1.2).trans h2.2).trans h3.2
  have HU3 : Hid (Upd q w1 (((w1.setCell ⟨q, o, none⟩ (.int .u64 x0)).setCell ⟨q, o + 1, none⟩ (.int .u64 x1)).setCell ⟨q, o + 2, none⟩ (.int .u64 x2))) := ((Upd.setCell _ _ _ _).trans (Upd.setCell _ _ _ _)).trans (Upd.setCell _ _ _ _)
  clear hA hq hdt hr1 ho hc hp hI hS h1 h2 h3
  obtain ⟨W3, hW3⟩ : ∃ W, W = ((w1.setCell ⟨q, o, none⟩ (.int .u64 x0)).setCell ⟨q, o + 1, none⟩ (.int .u64 x1)).setCell ⟨q, o + 2, none⟩ (.int .u64 x2) := ⟨_, rfl⟩
  have HW3 : Hid _ := hW3
  rw [← hW3] at HQ3 HT3 HU3
  clear hW3
  go_wp2_with fail
  go_region
  rw [← HW3.out]
  clear HW3 i0 i1 i2 f0 f1 f2 s0 s1 s2 hz
  obtain ⟨W4, hW4⟩ : ∃ W, W = W3.drew := ⟨_, rfl⟩
  have hb4 : Below W3.heap.size W3 W4 := by rw [hW4]; exact Di.drewN_below ⟨1, rfl⟩
  have hp4 : W4.heap[p]? = some (.cells X 63) := by rw [hW4]; exact (HU3.out.block p (lt_of_heap HR1.out) (Ne.symm hqp)).trans HR1.out
  have HQ4 : Hid (DrQ W4 base bd B n vs (putW ws i (xs.take (3 + 0))) m (1 + i / 3) q) := HQ3.out.below hb4
  have HT4 : Hid (DT base B w W4) := HT3.out.trans (DT.of_below hb4)
  rw [← hW4]
  obtain ⟨ys, hys⟩ : ∃ ys, ys = xs.drop 3 := ⟨_, rfl⟩
  have hyl : ys.length = 6 := by rw [hys, List.length_drop, HXl.out]
  obtain ⟨Yl, hYl⟩ : ∃ Yl, Yl = ys.map (Value.int .i64) := ⟨_, rfl⟩
  have HYr : Hid (W4.rangeAt p 3 Yl) := by
    intro j v hv
    rw [cell_of_heap hp4, HXq.out]
    rw [hYl, hys, List.getElem?_map, List.getElem?_drop] at hv
    simpa [irow] using hv
  have HYi : Hid (∀ k : Nat, k < 6 → ∀ W, (Instr.index 61 (.agg Yl.toArray) (.int .i64 (k : Int))).run Tryz.prog W = .ok (.int .i64 (xs.getD (3 + k) 0)) W) := fun k hk W => by
    have := blk_index ys hyl k hk W
    rw [hys, List.getD_eq_getElem?_getD, List.getElem?_drop, ← List.getD_eq_getElem?_getD] at this
    rw [hYl, hys]
    exact this
  have HYs : Hid (Yl.length = 6) := by rw [hYl, List.length_map]; exact hyl
  clear hW4 hb4 hp4 hys hyl hYl HQ3 HT3 HU3 HT1 HQ
  go_wp2_with (first | (refine wpList_load_mid rfl 61 _ rfl p 3 rfl Yl _ HYr.out Tryz.underlying61 rfl (by rw [HYs.out]; kernel_rfl) ?_) | go_in)
  go_loopw [29] (fun s wr => ∃ (k : Nat), k ≤ 6 ∧ s = .int .i64 k ∧ DrQ wr base bd B n vs (putW ws i (xs.take (3 + k))) m (1 + i / 3) q ∧ DT base B w wr) (fun s _ => 6 - (intOf s).toNat)
  case atStart => exact ⟨0, by omega, rfl, HQ4.out, HT4.out⟩
  case round =>
    obtain ⟨k, hk, rfl, hq, hdt⟩ := hrel
    by_cases hlt : k < 6
    · have hki : decide ((k : Int) < 6) = true := by simp; omega
      have hk6 : (k : Int) < 6 := by omega
      have hix := HYi.out k hlt
      have hfu := (HF.out (3 + k) (by omega)).su
      have hcq := hq.word (j := i % 3 * 9 + (3 + k)) (by omega)
      have hfz := hq.free (j := o + (3 + k))
      rw [← Nat.add_assoc, ← Ho.out] at hcq
      have hn := hq.putw HXl.out (k := 3 + k) (by omega) HLn.out (by omega)
      rw [← Ho.out] at hn
      generalize xs.getD (3 + k) 0 = y at *
      have HN : Hid (DrQ (wr.setCell ⟨q, o + (3 + k), none⟩ (.int .u64 y)) base bd B n vs (putW ws i (xs.take (3 + (k + 1)))) m (1 + i / 3) q) := hn.1
      have HT : Hid (DT base B w (wr.setCell ⟨q, o + (3 + k), none⟩ (.int .u64 y))) := hdt.trans hn.2
      generalize (frameOf (putW ws i (xs.take (3 + k))) (1 + i / 3)).getD (i % 3 * 9 + (3 + k)) 0 = z at *
      clear hq hdt hn
      go_wp2
      go_roundw
      case rel => exact ⟨k + 1, by omega, by go_num, HN.out, HT.out⟩
      case measure => simp [intOf]; omega
    · have hki : decide ((k : Int) < 6) = false := by simp; omega
      have hk6 : ¬ (k : Int) < 6 := by omega
      have hk0 : k = 6 := by omega
      rw [hk0, List.take_of_length_le (by rw [HXl.out]; omega)] at hq
      have HD : Hid (Dr wr base bd B n vs (putW ws i xs) m) := hq.dr
      have HT : Hid (DT base B w wr) := hdt
      clear hk0 hq hdt
      go_wp2
      go_end0
      exact ⟨rfl, HD.out, HT.out⟩
end
theorem k_head : ∀ k, k < 12 → Bi.mkW [2 ^ k - 1] k true = [2 ^ (k + 1) - 1] := by decide +kernel
theorem k_root : Bi.mkW [0] 0 true = [1] := by decide +kernel
set_option maxHeartbeats 2000000 in
set_option maxRecDepth 100000 in
theorem newHead_at (n : Nat) (w : World) (hn1 : 13 ≤ n) (hn2 : n ≤ 64) :
    Calls Tryz.prog 52 #[.int .i64 (n : Int)] w fun e w' => ∃ hi hb, e = .returned (.agg #[ptr hi, ptr hb]) ∧ BmsE w' w.heap.size hi hb n [1] [4095] ∧ Below w.heap.size w w' := by
  obtain ⟨W0, hW0⟩ : ∃ W, W = w.alloc (.cells #[.pointer none, .pointer none] 111) := ⟨_, rfl⟩
  have HB0 : Hid (Below w.heap.size w W0) := by rw [hW0]; exact below_alloc _ _
  have HS0 : Hid (W0.heap.size = w.heap.size + 1) := by rw [hW0]; show _ = _; simp
  have HR0 : Hid (W0.heap[w.heap.size]? = some (.cells #[.pointer none, .pointer none] 111)) := by rw [hW0]; exact heap_alloc_new _ _
  have hN1 := Bi.new_at 32 W0 (by omega) (by omega)
  have HW0 : Hid _ := hW0
  clear hW0
  go_enter Tryz.func52, Tryz.ntmps52
  go_wp2_with fail
  rw [← HW0.out]
  refine hN1.mono ?_
  rintro e w1 ⟨rfl, hB1, hb1, hs1⟩
  have HB1 : Hid (Bi.BmAt w1 (W0.heap.size + 1) W0.heap.size 32 [0]) := hB1
  have Hb1 : Hid (Below W0.heap.size W0 w1) := hb1
  have Hs1 : Hid (w1.heap.size = W0.heap.size + 2) := hs1
  have hN2 := Bi.new_at n w1 (by omega) (by omega)
  have hrep : List.replicate ((n + 63) / 64) 0 = [0] := by
    rw [show (n + 63) / 64 = 1 by omega]
    rfl
  rw [hrep] at hN2
  obtain ⟨b1, hb1q⟩ : ∃ b, b = W0.heap.size + 1 := ⟨_, rfl⟩
  obtain ⟨g1, hg1q⟩ : ∃ g, g = W0.heap.size := ⟨_, rfl⟩
  have H1 : Hid (b1 = W0.heap.size + 1 ∧ g1 = W0.heap.size) := ⟨hb1q, hg1q⟩
  rw [← hb1q] at HB1 ⊢
  rw [← hg1q] at HB1
  clear hB1 hb1 hs1 hrep hb1q hg1q hN1
  go_wp2_with fail
  refine hN2.mono ?_
  rintro e w2 ⟨rfl, hB2, hb2, hs2⟩
  obtain ⟨b2, hb2q⟩ : ∃ b, b = w1.heap.size + 1 := ⟨_, rfl⟩
  obtain ⟨g2, hg2q⟩ : ∃ g, g = w1.heap.size := ⟨_, rfl⟩
  have H2 : Hid (b2 = w1.heap.size + 1 ∧ g2 = w1.heap.size) := ⟨hb2q, hg2q⟩
  rw [← hb2q] at hB2 ⊢
  rw [← hg2q] at hB2
  have HBms : Hid (Bms w2 W0.heap.size b1 g1 b2 g2 n [0] [0]) := by
    have a1 := H1.out
    have a2 := H2.out
    have a3 := Hs1.out
    exact ⟨HB1.out.below hb2, hB2, by omega, by omega⟩
  have Hb2 : Hid (Below W0.heap.size W0 w2) := Hb1.out.trans (hb2.mono Hb1.out.size)
  obtain ⟨W3, hW3⟩ : ∃ W, W = w2.alloc (.cells #[ptr b1, ptr b2] 111) := ⟨_, rfl⟩
  have hb3 : Below w2.heap.size w2 W3 := by rw [hW3]; exact below_alloc _ _
  have HBm3 := HBms.out.below hb3
  have hr3 : W3.heap[w2.heap.size]? = some (.cells #[ptr b1, ptr b2] 111) := by rw [hW3]; exact heap_alloc_new _ _
  have hM := Bi.mark_yes b1 g1 32 [0] 0 true W3 HBm3.bi (by omega)
  rw [k_root] at hM
  have HB3 : Hid (Bms W3 W0.heap.size b1 g1 b2 g2 n [0] [0]) := HBm3
  have Hb3 : Hid (Below W0.heap.size W0 W3) := Hb2.out.trans (hb3.mono Hb2.out.size)
  have HR3 : Hid (W3.heap[w2.heap.size]? = some (.cells #[ptr b1, ptr b2] 111)) := hr3
  have HW3 : Hid _ := hW3
  clear hB2 hb2 hs2 hb2q hg2q hN2 hW3 hb3 HBm3 hr3 HB1 Hb1 HBms Hb2
  go_wp2_with fail
  rw [← HW3.out]
  clear HW3
  refine hM.mono ?_
  rintro e w4 ⟨rfl, hB4, hu4⟩
  have HBm4 : Hid (Bms w4 W0.heap.size b1 g1 b2 g2 n [1] [2 ^ 0 - 1]) := by
    have a1 := HB3.out
    have hne : b2 ≠ g1 := by
      intro e
      have h1 := a1.bb.head
      rw [e, a1.bi.row] at h1
      simp only [Option.some.injEq, Obj.cells.injEq] at h1
      exact absurd h1.2.1 (by decide)
    exact ⟨hB4, a1.bb.keep (hu4.block _ a1.bb.ltb hne) (hu4.block _ a1.bb.ltg (Ne.symm a1.ne)), a1.lo, a1.ne⟩
  obtain ⟨p, hp⟩ : ∃ p, p = w2.heap.size := ⟨_, rfl⟩
  have Hp : Hid (p = w2.heap.size) := hp
  rw [← hp] at HR3 ⊢
  have hTy : ∀ (W : World) (g N : Nat) (b : Nat) (l : List Nat), Bi.BmAt W b g N l → W.heap[p]? = some (.cells #[ptr b1, ptr b2] 111) → p ≠ g := by
    intro W g N b l h1 h2 e
    rw [e, h1.row] at h2
    simp only [Option.some.injEq, Obj.cells.injEq] at h2
    exact absurd h2.2.1 (by decide)
  have HTy : Hid (∀ (W : World) (g N : Nat) (b : Nat) (l : List Nat), Bi.BmAt W b g N l → W.heap[p]? = some (.cells #[ptr b1, ptr b2] 111) → p ≠ g) := hTy
  have HP4 : Hid (w4.heap[p]? = some (.cells #[ptr b1, ptr b2] 111)) := (hu4.block p (lt_of_heap HR3.out) (hTy _ _ _ _ _ HB3.out.bi HR3.out)).trans HR3.out
  have Hb4 : Hid (Below W0.heap.size W0 w4) := Hb3.out.trans (hu4.below HB3.out.lo.2.1 Hb3.out.size)
  clear hM hB4 hu4 hp HB3 Hb3 HR3 hTy
  go_wp2
  go_loopw [12] (fun s wr => ∃ (k : Nat), k ≤ 12 ∧ s = .int .i64 k ∧ Bms wr W0.heap.size b1 g1 b2 g2 n [1] [2 ^ k - 1] ∧ wr.heap[p]? = some (.cells #[ptr b1, ptr b2] 111) ∧ Below W0.heap.size W0 wr) (fun s _ => 12 - (intOf s).toNat)
  case atStart => exact ⟨0, by omega, rfl, HBm4.out, HP4.out, Hb4.out⟩
  case round =>
    clear HBm4 HP4 Hb4
    obtain ⟨k, hk, rfl, hbm, hpr, hbw⟩ := hrel
    have c0 : wr.cell? ⟨p, 0, none⟩ = some (ptr b1) := by rw [cell_of_heap hpr]; rfl
    have c1 : wr.cell? ⟨p, 1, none⟩ = some (ptr b2) := by rw [cell_of_heap hpr]; rfl
    have HBm : Hid (Bms wr W0.heap.size b1 g1 b2 g2 n [1] [2 ^ k - 1]) := hbm
    have HPr : Hid (wr.heap[p]? = some (.cells #[ptr b1, ptr b2] 111)) := hpr
    have HBw : Hid (Below W0.heap.size W0 wr) := hbw
    by_cases hlt : k < 12
    · have hki : decide ((k : Int) < 12) = true := by simp; omega
      have hM := Bi.mark_yes b2 g2 n [2 ^ k - 1] k true wr hbm.bb (by omega)
      rw [k_head k hlt] at hM
      clear hbm hpr hbw
      go_wp2_with fail
      refine hM.mono ?_
      rintro e w5 ⟨rfl, hB5, hu5⟩
      have HR : Hid (Bms w5 W0.heap.size b1 g1 b2 g2 n [1] [2 ^ (k + 1) - 1] ∧ w5.heap[p]? = some (.cells #[ptr b1, ptr b2] 111) ∧ Below W0.heap.size W0 w5) := by
        have a1 := HBm.out
        have hne : b1 ≠ g2 := by
          intro e
          have h1 := a1.bi.head
          rw [e, a1.bb.row] at h1
          simp only [Option.some.injEq, Obj.cells.injEq] at h1
          exact absurd h1.2.1 (by decide)
        exact ⟨⟨a1.bi.keep (hu5.block _ a1.bi.ltb hne) (hu5.block _ a1.bi.ltg a1.ne), hB5, a1.lo, a1.ne⟩, (hu5.block p (lt_of_heap HPr.out) (HTy.out _ _ _ _ _ a1.bb HPr.out)).trans HPr.out, HBw.out.trans (hu5.below a1.lo.2.2.2 HBw.out.size)⟩
      clear hM hB5 hu5 c0 c1
      go_wp2
      go_roundw
      case rel => exact ⟨k + 1, by omega, by go_num, HR.out.1, HR.out.2.1, HR.out.2.2⟩
      case measure => simp [intOf]; omega
    · have hki : decide ((k : Int) < 12) = false := by simp; omega
      have hk12 : ¬ (k : Int) < 12 := by omega
      have hk0 : k = 12 := by omega
      rw [hk0] at hbm
      have HF : Hid (Bms wr W0.heap.size b1 g1 b2 g2 n [1] [4095]) := hbm
      have hr2 : wr.heap[w.heap.size]? = some (.cells #[.pointer none, .pointer none] 111) := (hbw.block _ (by rw [HS0.out]; omega)).trans HR0.out
      obtain ⟨r0, hr0⟩ : ∃ r, r = w.heap.size := ⟨_, rfl⟩
      have Hr0 : Hid (r0 = w.heap.size) := hr0
      rw [← hr0] at hr2 ⊢
      have hc0 : wr.cell? ⟨r0, 0, none⟩ = some (.pointer none) := by rw [cell_of_heap hr2]; rfl
      have hc1 : wr.cell? ⟨r0, 1, none⟩ = some (.pointer none) := by rw [cell_of_heap hr2]; rfl
      have hf0 : ∀ i, wr.frozen? ⟨r0, i, none⟩ = false := fun i => frozen_of_heap hr2
      have HR2 : Hid _ := hr2
      clear hbm hpr hbw hk0 hr0 hr2
      go_wp2
      have HU : Hid (Upd r0 wr ((wr.setCell ⟨r0, 0, none⟩ (ptr b1)).setCell ⟨r0, 1, none⟩ (ptr b2))) := (Upd.setCell _ _ _ _).trans (Upd.setCell _ _ _ _)
      have HT : Hid (∀ cs, wr.heap[r0]? ≠ some (.cells cs 228 (0, 0)) ∧ wr.heap[r0]? ≠ some (.cells cs 103 (0, 0))) := by
        intro cs
        rw [HR2.out]
        constructor <;> (intro e; simp only [Option.some.injEq, Obj.cells.injEq] at e; exact absurd e.2.1 (by decide))
      have Hbw : Hid (Below w.heap.size w wr) := HB0.out.trans (HBw.out.mono (by rw [HS0.out]; omega))
      refine bodyPost_ret (v := .agg #[ptr b1, ptr b2]) ?_ rfl ⟨b1, b2, rfl, ⟨g1, g2, ?_⟩, ?_⟩
      · have hrr : ((wr.setCell ⟨r0, 0, none⟩ (ptr b1)).setCell ⟨r0, 1, none⟩ (ptr b2)).heap[r0]? = some (.cells #[ptr b1, ptr b2] 111) := by
          have h1 : (wr.setCell ⟨r0, 0, none⟩ (ptr b1)).heap[r0]? = some (.cells #[ptr b1, .pointer none] 111) := by rw [setCell_eq_setRow wr r0 0 _ _ _ _ HR2.out, setRow_heap wr r0 _ _ _ _ HR2.out]; rfl
          rw [setCell_eq_setRow _ r0 1 _ _ _ _ h1, setRow_heap _ r0 _ _ _ _ h1]
          rfl
        rw [results_cell_row rfl _ _ r0 111 #[ptr b1, ptr b2] (0, 0) _ rfl hrr Tryz.underlying111 rfl (by kernel_rfl)]
      · exact (HF.out.other HU.out HT.out).mono (by rw [HS0.out]; omega)
      · exact Hbw.out.trans (HU.out.below (by rw [Hr0.out]; exact Nat.le_refl _) Hbw.out.size)
end Go.Proofs.YtcjpahnlckfgoaaGreatDoor
