import Derived.Test.YtinaeifpoljfoaaGreatDoorInoFTDfA
import Derived.Lib.MinMax
set_option linter.all false
set_option maxRecDepth 100000
set_option maxHeartbeats 16000000
namespace Go.Proofs.YtinaeifpoljfoaaGreatDoor
open Go.RowKit
theorem step_store_row {P : Program} {ops : Array Oper} {op : Oper} {a : Act} {w : World} {K : Act → World → Prop} {Q : Exit → Act → World → Prop} {E : Prop} (hgd : op.guard = none) (ty : TypeId) (x y : Operand) (ho : op.op = .store ty x y)
  (g : Nat) (cells : Array Value) (hx : a.eval x = .pointer (some ⟨g, 0, none⟩)) (hy : a.eval y = .agg cells) (t : TypeId) (old : Array Value) (hg : w.heap[g]? = some (.cells old t (0, 0))) (hi : (P.info? ty).map (·.size) = some cells.size)
  (hold : old.size = cells.size) (h1 : cells.all (·.oneCell') = true) (h : K (a.put op.dst undef) (w.setRow g cells)) : if Region.wanted op (yielded ops a.tmps) = true then Oper.wp P op a w K Q else E := by
 have hw : Region.wanted op (yielded ops a.tmps) = true := by simp [Region.wanted, hgd]
 rw [if_pos hw];exact wp_store_row ty x y ho g cells hx hy t old hg hi hold h1 h
def irow (xs : List Int) : Array Value := (xs.map (Value.int .i64)).toArray
theorem irow_size (xs : List Int) : (irow xs).size = xs.length := by simp [irow]
theorem irow_get (xs : List Int) (j : Nat) (h : j < xs.length) : (irow xs)[j]? = some (.int .i64 (xs.getD j 0)) := by simp [irow, h]
theorem irow_set (xs : List Int) (j : Nat) (x : Int) : (irow xs).setIfInBounds j (.int .i64 x) = irow (xs.set j x) := by
 apply Array.ext'
 simp [irow, List.map_set]
def rowW (ws : List Int) (i : Nat) : List Int := ((frameOf ws (1 + i / 3)).drop (i % 3 * 9)).take 9
theorem rowW_len {ws : List Int} {n i : Nat} (hl : ws.length = n * 32) (hi : 1 + i / 3 < n) : (rowW ws i).length = 9 := by
 have := frameOf_length ws _ n hl hi;unfold rowW;rw [List.length_take, List.length_drop, this];omega
theorem rowW_get (ws : List Int) (i j : Nat) (hj : j < 9) : (rowW ws i).getD j 0 = (frameOf ws (1 + i / 3)).getD (i % 3 * 9 + j) 0 := by
 unfold rowW;simp only [List.getD_eq_getElem?_getD, List.getElem?_take, List.getElem?_drop];rw [if_pos hj]
section
variable {w w' : World} {base bd n m : Nat} {B : Sto} {vs ws : List Int}
theorem drow_at (h : Dr w base bd B n vs ws m) (hm : m ≤ 900000000000) (hn : 13 ≤ n) (i : Nat) (hi : i < 32) :
  Calls Tryz.prog 232 #[ptr bd, .int .i64 (i : Int)] w fun e w' => ∃ q, e = .returned (.slice (some ⟨q, 33 + i % 3 * 9, none⟩) 9 (32 - i % 3 * 9)) ∧ DrQ w' base bd B n vs ws m (1 + i / 3) q ∧ DT base B w w' := by
 have hA := dat_at h (1 + i / 3) (by omega) hm;obtain ⟨r, hr⟩ : ∃ r, r = i % 3 := ⟨_, rfl⟩;obtain ⟨d, hd⟩ : ∃ d, d = i / 3 := ⟨_, rfl⟩
 have ht : (i : Int).tmod 3 = (r : Int) := by rw [Int.tmod_eq_emod_of_nonneg (by omega)]; omega
 have hq : (i : Int).tdiv 3 = (d : Int) := by rw [Int.tdiv_eq_ediv_of_nonneg (by omega)]; omega
 have hr3 : r < 3 := by omega
 have hd11 : d < 11 := by omega
 rw [← hd] at hA ⊢;rw [← hr];obtain ⟨c, hc⟩ : ∃ c, c = 32 - r * 9 := ⟨_, rfl⟩
 have hc9 : 9 ≤ c := by omega
 have hc32 : c ≤ 32 := by omega
 have hw1 : IntKind.i64.wrap ((d : Nat) : Int) = (d : Int) := Bi.wrap_small d (by omega);have hw2 : IntKind.i64.wrap ((r : Nat) : Int) = (r : Int) := Bi.wrap_small r (by omega)
 have hsl : ∀ q W, (Instr.sliceAt 296 (.pointer (some ⟨q, 33, none⟩)) (some (.int .i64 ((r : Int) * 9))) none none).run Tryz.prog W = .ok (.slice (some ⟨q, 33 + r * 9, none⟩) c c) W := fun q W => by
  have := cont_l q 33 (r * 9) (by omega) W;rw [← hc] at this;rw [Int.natCast_mul] at this;exact this
 rw [← hc];rw [show ((1 + d : Nat) : Int) = 1 + (d : Int) by omega] at hA;clear h hr hd hc
 go_enter Tryz.func232, Tryz.ntmps232
 go_wp2_with fail
 refine hA.mono ?_;rintro e w1 ⟨q, rfl, hq1, hdt⟩;have HQ := hid hq1;have HT := hid hdt;clear hq1 hdt hA;go_wp2;go_ret;exact ⟨q, rfl, HQ.out, HT.out⟩
theorem DrQ.below {b q : Nat} (h : DrQ w base bd B n vs ws m b q) (hb : Below w.heap.size w w') : DrQ w' base bd B n vs ws m b q := by
 obtain ⟨sv, S, h, hq⟩ := h;exact ⟨sv, S, h.below hb, hq⟩
def Fit (x : Int) : Prop := 0 ≤ x ∧ x < 9223372036854775808
theorem Fit.su {x : Int} (h : Fit x) : IntKind.u64.wrap x = x := by
 have h1 := h.1;have h2 := h.2;rw [IntKind.wrap_u64];omega
end
theorem splice_splice (ws : List Int) (o : Nat) (a b : List Int) (h : a.length = b.length) (hl : o + a.length ≤ ws.length) : splice (splice ws o a) o b = splice ws o b := by
 have h1 := splice_length ws o a hl
 refine list_ext_getD _ _ (by rw [splice_length _ _ _ (by omega), h1, splice_length _ _ _ (by omega)]) fun i hi => ?_
 rw [splice_getD _ _ _ (by omega), splice_getD _ _ _ (by omega), splice_getD _ _ _ (by omega)]
 by_cases q : o ≤ i ∧ i < o + b.length
 ·rw [if_pos q, if_pos q]
 ·rw [if_neg q, if_neg q, if_neg (by omega)]
theorem splice_set {F xs : List Int} {o k : Nat} (hk : k < xs.length) (hl : o + xs.length ≤ F.length) : (splice F o (xs.take k)).set (o + k) (xs.getD k 0) = splice F o (xs.take (k + 1)) := by
 have l1 : (xs.take k).length = k := by simp; omega
 have l2 : (xs.take (k + 1)).length = k + 1 := by simp; omega
 have s1 := splice_length F o (xs.take k) (by omega);have s2 := splice_length F o (xs.take (k + 1)) (by omega)
 refine list_ext_getD _ _ (by rw [List.length_set, s1, s2]) fun i hi => ?_
 rw [List.length_set, s1] at hi;rw [splice_getD _ _ _ (by omega), l2]
 by_cases e : i = o + k
 ·subst e
  rw [List.getD_eq_getElem?_getD, List.getElem?_set_self (by rw [s1]; omega), if_pos (by omega), Nat.add_sub_cancel_left];simp only [List.getD_eq_getElem?_getD, List.getElem?_take];rw [if_pos (by omega)]
  rfl
 ·have : ((splice F o (xs.take k)).set (o + k) (xs.getD k 0)).getD i 0 = (splice F o (xs.take k)).getD i 0 := by
   simp only [List.getD_eq_getElem?_getD];rw [List.getElem?_set_ne (fun x => e x.symm)]
  rw [this, splice_getD _ _ _ (by omega), l1]
  by_cases q : o ≤ i ∧ i < o + k
  ·rw [if_pos q, if_pos (by omega)]
   simp only [List.getD_eq_getElem?_getD, List.getElem?_take];rw [if_pos (by omega), if_pos (by omega)]
  ·rw [if_neg q, if_neg (by omega)]
theorem splice_nil (F : List Int) (o : Nat) : splice F o [] = F := by simp [splice]
theorem blk_index (ys : List Int) (h : ys.length = 6) (k : Nat) (hk : k < 6) (W : World) : (Instr.index 104 (.agg (irow ys)) (.int .i64 (k : Int))).run Tryz.prog W = .ok (.int .i64 (ys.getD k 0)) W := by
 obtain ⟨a, b, c, d, e, f, rfl⟩ : ∃ a b c d e f, ys = [a, b, c, d, e, f] := by
  match ys, h with
  | [a, b, c, d, e, f], _ => exact ⟨a, b, c, d, e, f, rfl⟩
 clear h
 obtain rfl | rfl | rfl | rfl | rfl | rfl : k = 0 ∨ k = 1 ∨ k = 2 ∨ k = 3 ∨ k = 4 ∨ k = 5 := by omega
 all_goals kernel_rfl
section
variable {w w' : World} {base bd n m : Nat} {B : Sto} {vs ws : List Int}
def putW (ws : List Int) (i : Nat) (xs : List Int) : List Int := splice ws ((1 + i / 3) * 32) (splice (frameOf ws (1 + i / 3)) (i % 3 * 9) xs)
theorem DrQ.putw {i k q : Nat} {xs : List Int} (h : DrQ w base bd B n vs (putW ws i (xs.take k)) m (1 + i / 3) q) (hx : xs.length = 9) (hk : k < 9) (hl : ws.length = n * 32) (hb : 1 + i / 3 < n) :
  DrQ (w.setCell ⟨q, 33 + i % 3 * 9 + k, none⟩ (.int .u64 (xs.getD k 0))) base bd B n vs (putW ws i (xs.take (k + 1))) m (1 + i / 3) q ∧ DT base B w (w.setCell ⟨q, 33 + i % 3 * 9 + k, none⟩ (.int .u64 (xs.getD k 0))) := by
 have hf := frameOf_length ws (1 + i / 3) n hl hb
 have l1 : (xs.take k).length = k := by simp; omega
 have l2 : (xs.take (k + 1)).length = k + 1 := by simp; omega
 have s1 : (splice (frameOf ws (1 + i / 3)) (i % 3 * 9) (xs.take k)).length = 32 := by rw [splice_length _ _ _ (by omega), hf]
 have s2 : (splice (frameOf ws (1 + i / 3)) (i % 3 * 9) (xs.take (k + 1))).length = 32 := by rw [splice_length _ _ _ (by omega), hf]
 have := h.set (j := i % 3 * 9 + k) (x := xs.getD k 0) (by omega)
 have e1 : frameOf (putW ws i (xs.take k)) (1 + i / 3) = splice (frameOf ws (1 + i / 3)) (i % 3 * 9) (xs.take k) := by
  unfold putW;rw [frame_splice ws _ n _ _ hl hb hb s1, if_pos rfl]
 rw [e1, splice_set (by omega) (by omega)] at this
 have e2 : splice (putW ws i (xs.take k)) ((1 + i / 3) * 32) (splice (frameOf ws (1 + i / 3)) (i % 3 * 9) (xs.take (k + 1))) = putW ws i (xs.take (k + 1)) := by
  unfold putW;rw [splice_splice _ _ _ _ (by rw [s1, s2]) (by rw [s1, hl]; omega)]
 rw [e2, ← Nat.add_assoc] at this;exact this
theorem putW_nil (ws : List Int) (i : Nat) {n : Nat} (hl : ws.length = n * 32) (hb : 1 + i / 3 < n) : putW ws i [] = ws := by
 have hf := frameOf_length ws (1 + i / 3) n hl hb;unfold putW;rw [splice_nil];refine frames_ext (n := n) (by rw [splice_length _ _ _ (by omega), hl]) hl (fun b hb2 => ?_);rw [frame_splice ws _ n _ _ hl hb hb2 hf]
 by_cases e : b = 1 + i / 3
 ·rw [if_pos e, e]
 ·rw [if_neg e]
theorem dsetInode_at (h : Dr w base bd B n vs ws m) (hm : m ≤ 900000000000) (hn : 13 ≤ n) (hbase : base ≤ w.heap.size) (i : Nat) (hi : i < 32) (xs : List Int) (hx : xs.length = 9) (hf : ∀ x ∈ xs, Fit x) :
  Calls Tryz.prog 173 #[ptr bd, .int .i64 (i : Int), .agg (irow xs)] w fun e w' => e = .returned (.tuple #[]) ∧ Dr w' base bd B n vs (putW ws i xs) m ∧ DT base B w w' := by
 have hl := h.len
 have HF : Hid (∀ j, j < 9 → Fit (xs.getD j 0)) := fun j hj => hf _ (by
   rw [List.getD_eq_getElem?_getD, List.getElem?_eq_getElem (by omega)]
   exact List.getElem_mem _)
 obtain ⟨X, hX⟩ : ∃ X, X = irow xs := ⟨_, rfl⟩;obtain ⟨W0, hW0⟩ : ∃ W, W = w.alloc (.cells X 233) := ⟨_, rfl⟩
 have hb0 : Below w.heap.size w W0 := by rw [hW0]; exact below_alloc _ _
 have hr0 : W0.heap[w.heap.size]? = some (.cells X 233) := by rw [hW0]; exact heap_alloc_new _ _
 have hA := drow_at (h.below hb0) hm hn i hi;have HB0 := hid hb0;have HR0 : Hid _ := hr0;have HW0 : Hid _ := hW0
 have HXs : Hid (X.size = 9) := by rw [hX]; show _ = _; rw [irow_size]; exact hx
 have HXq := hid hX;have HXl := hid hx;have HLn := hid hl;rw [← hX];clear h hf hb0 hr0 hW0 hl hX hx
 go_enter Tryz.func173, Tryz.ntmps173
 go_wp2_with fail
 rw [← HW0.out];refine hA.mono ?_;rintro e w1 ⟨q, rfl, hq, hdt⟩;have HT1 : Hid (DT base B w w1) := (DT.of_below HB0.out).trans hdt;obtain ⟨p, hp⟩ : ∃ p, p = w.heap.size := ⟨_, rfl⟩;have Hp := hid hp
 have hr1 : w1.heap[p]? = some (.cells X 233) := by rw [hp]; exact hdt.other HR0.out (by decide) (by decide)
 have HR1 := hid hr1
 have hqp : q ≠ p := by
  intro e;obtain ⟨A, hA, hh, _⟩ := hq.row;rw [e, hr1] at hh;simp only [Option.some.injEq, Obj.cells.injEq] at hh;exact absurd hh.2.1 (by decide)
 have HQ : Hid (DrQ w1 base bd B n vs (putW ws i (xs.take 0)) m (1 + i / 3) q) := by
  rw [List.take_zero, putW_nil ws i HLn.out (by omega)];exact hq
 obtain ⟨o, ho⟩ : ∃ o, o = 33 + i % 3 * 9 := ⟨_, rfl⟩;obtain ⟨c, hc⟩ : ∃ c, c = 32 - i % 3 * 9 := ⟨_, rfl⟩;have Ho := hid ho;rw [← ho, ← hc, ← hp]
 have hI : ∀ j, j < 9 → w1.cell? ⟨p, j, none⟩ = some (.int .i64 (xs.getD j 0)) := fun j hj => by rw [cell_of_heap hr1, HXq.out]; exact irow_get _ _ (by rw [HXl.out]; exact hj)
 have hS : ∀ j, j < 9 → ∃ y, w1.cell? ⟨q, o + j, none⟩ = some (.int .u64 y) := fun j hj => ⟨_, by rw [ho, show 33 + i % 3 * 9 + j = 33 + (i % 3 * 9 + j) by omega]; exact hq.word (by omega)⟩
 have hz := fun j => hq.free (j := j)
 obtain ⟨y0, s0⟩ := hS 0 (by omega);obtain ⟨y1, s1⟩ := hS 1 (by omega);obtain ⟨y2, s2⟩ := hS 2 (by omega);rw [Nat.add_zero] at s0;have i0 := hI 0 (by omega);have i1 := hI 1 (by omega);have i2 := hI 2 (by omega);have f0 := (HF.out 0 (by omega)).su;have f1 := (HF.out 1 (by omega)).su;have f2 := (HF.out 2 (by omega)).su;have h1 := HQ.out.putw HXl.out (by omega) HLn.out (by omega);have h2 := h1.1.putw HXl.out (by omega) HLn.out (by omega);have h3 := h2.1.putw HXl.out (by omega) HLn.out (by omega);rw [← ho] at h1 h2 h3;rw [Nat.add_zero] at h1 h2 h3;generalize xs.getD 0 0 = x0 at *;generalize xs.getD 1 0 = x1 at *;generalize xs.getD 2 0 = x2 at *;have HQ3 : Hid (DrQ (((w1.setCell ⟨q, o, none⟩ (.int .u64 x0)).setCell ⟨q, o + 1, none⟩ (.int .u64 x1)).setCell ⟨q, o + 2, none⟩ (.int .u64 x2)) base bd B n vs (putW ws i (xs.take 3)) m (1 + i / 3) q) := h3.1;have HT3 : Hid (DT base B w (((w1.setCell ⟨q, o, none⟩ (.int .u64 x0)).setCell ⟨q, o + 1, none⟩ (.int .u64 x1)).setCell ⟨q, o + 2, none⟩ (.int .u64 x2))) := ((HT1.out.trans h1.2).trans h2.2).trans h3.2;have HU3 : Hid (Upd q w1 (((w1.setCell ⟨q, o, none⟩ (.int .u64 x0)).setCell ⟨q, o + 1, none⟩ (.int .u64 x1)).setCell ⟨q, o + 2, none⟩ (.int .u64 x2))) := ((Upd.setCell _ _ _ _).trans (Upd.setCell _ _ _ _)).trans (Upd.setCell _ _ _ _)
 clear hA hq hdt hr1 ho hc hp hI hS h1 h2 h3;obtain ⟨W3, hW3⟩ : ∃ W, W = ((w1.setCell ⟨q, o, none⟩ (.int .u64 x0)).setCell ⟨q, o + 1, none⟩ (.int .u64 x1)).setCell ⟨q, o + 2, none⟩ (.int .u64 x2) := ⟨_, rfl⟩;have HW3 : Hid _ := hW3;rw [← hW3] at HQ3 HT3 HU3;clear hW3
 go_wp2_with fail
 go_region
 rw [← HW3.out];clear HW3 i0 i1 i2 f0 f1 f2 s0 s1 s2 hz;obtain ⟨W4, hW4⟩ : ∃ W, W = W3.drew := ⟨_, rfl⟩
 have hb4 : Below W3.heap.size W3 W4 := by rw [hW4]; exact Di.drewN_below ⟨1, rfl⟩
 have hp4 : W4.heap[p]? = some (.cells X 233) := by rw [hW4]; exact (HU3.out.block p (lt_of_heap HR1.out) (Ne.symm hqp)).trans HR1.out
 have HQ4 : Hid (DrQ W4 base bd B n vs (putW ws i (xs.take (3 + 0))) m (1 + i / 3) q) := HQ3.out.below hb4;have HT4 : Hid (DT base B w W4) := HT3.out.trans (DT.of_below hb4);rw [← hW4];obtain ⟨ys, hys⟩ : ∃ ys, ys = xs.drop 3 := ⟨_, rfl⟩
 have hyl : ys.length = 6 := by rw [hys, List.length_drop, HXl.out]
 obtain ⟨Yl, hYl⟩ : ∃ Yl, Yl = ys.map (Value.int .i64) := ⟨_, rfl⟩
 have HYr : Hid (W4.rangeAt p 3 Yl) := by
  intro j v hv;rw [cell_of_heap hp4, HXq.out];rw [hYl, hys, List.getElem?_map, List.getElem?_drop] at hv
  simpa [irow] using hv
 have HYi : Hid (∀ k : Nat, k < 6 → ∀ W, (Instr.index 104 (.agg Yl.toArray) (.int .i64 (k : Int))).run Tryz.prog W = .ok (.int .i64 (xs.getD (3 + k) 0)) W) := fun k hk W => by
  have := blk_index ys hyl k hk W;rw [hys, List.getD_eq_getElem?_getD, List.getElem?_drop, ← List.getD_eq_getElem?_getD] at this;rw [hYl, hys];exact this
 have HYs : Hid (Yl.length = 6) := by rw [hYl, List.length_map]; exact hyl
 clear hW4 hb4 hp4 hys hyl hYl HQ3 HT3 HU3 HT1 HQ
 go_wp2_with (first | (refine wpList_load_mid rfl 104 _ rfl p 3 rfl Yl _ HYr.out Tryz.underlying104 rfl (by rw [HYs.out]; kernel_rfl) ?_) | go_in)
 go_loopw [29] (fun s wr => ∃ (k : Nat), k ≤ 6 ∧ s = .int .i64 k ∧ DrQ wr base bd B n vs (putW ws i (xs.take (3 + k))) m (1 + i / 3) q ∧ DT base B w wr) (fun s _ => 6 - (intOf s).toNat)
 case atStart => exact ⟨0, by omega, rfl, HQ4.out, HT4.out⟩
 case round =>
  obtain ⟨k, hk, rfl, hq, hdt⟩ := hrel
  by_cases hlt : k < 6
  ·have hki : decide ((k : Int) < 6) = true := by simp; omega
   have hk6 : (k : Int) < 6 := by omega
   have hix := HYi.out k hlt;have hfu := (HF.out (3 + k) (by omega)).su;have hcq := hq.word (j := i % 3 * 9 + (3 + k)) (by omega);have hfz := hq.free (j := o + (3 + k));rw [← Nat.add_assoc, ← Ho.out] at hcq;have hn := hq.putw HXl.out (k := 3 + k) (by omega) HLn.out (by omega);rw [← Ho.out] at hn;generalize xs.getD (3 + k) 0 = y at *;have HN : Hid (DrQ (wr.setCell ⟨q, o + (3 + k), none⟩ (.int .u64 y)) base bd B n vs (putW ws i (xs.take (3 + (k + 1)))) m (1 + i / 3) q) := hn.1;have HT : Hid (DT base B w (wr.setCell ⟨q, o + (3 + k), none⟩ (.int .u64 y))) := hdt.trans hn.2;generalize (frameOf (putW ws i (xs.take (3 + k))) (1 + i / 3)).getD (i % 3 * 9 + (3 + k)) 0 = z at *;clear hq hdt hn;go_wp2;go_roundw
   case rel => exact ⟨k + 1, by omega, by go_num, HN.out, HT.out⟩
   case measure => simp [intOf]; omega
  ·have hki : decide ((k : Int) < 6) = false := by simp; omega
   have hk6 : ¬ (k : Int) < 6 := by omega
   have hk0 : k = 6 := by omega
   rw [hk0, List.take_of_length_le (by rw [HXl.out]; omega)] at hq;have HD : Hid (Dr wr base bd B n vs (putW ws i xs) m) := hq.dr;have HT := hid hdt;clear hk0 hq hdt;go_wp2
   go_end0
   exact ⟨rfl, HD.out, HT.out⟩
end
theorem k_head : ∀ k, k < 12 → Bi.mkW [2 ^ k - 1] k true = [2 ^ (k + 1) - 1] := by decide +kernel
theorem k_root : Bi.mkW [0] 0 true = [1] := by decide +kernel
theorem newHead_at (n : Nat) (w : World) (hn1 : 13 ≤ n) (hn2 : n ≤ 64) :
  Calls Tryz.prog 172 #[.int .i64 (n : Int)] w fun e w' => ∃ hi hb, e = .returned (.agg #[ptr hi, ptr hb]) ∧ BmsE w' w.heap.size hi hb n [1] [4095] ∧ Below w.heap.size w w' := by
 obtain ⟨W0, hW0⟩ : ∃ W, W = w.alloc (.cells #[.pointer none, .pointer none] 302) := ⟨_, rfl⟩
 have HB0 : Hid (Below w.heap.size w W0) := by rw [hW0]; exact below_alloc _ _
 have HS0 : Hid (W0.heap.size = w.heap.size + 1) := by rw [hW0]; show _ = _; simp
 have HR0 : Hid (W0.heap[w.heap.size]? = some (.cells #[.pointer none, .pointer none] 302)) := by rw [hW0]; exact heap_alloc_new _ _
 have hN1 := Bi.new_at 32 W0 (by omega) (by omega);have HW0 : Hid _ := hW0;clear hW0
 go_enter Tryz.func172, Tryz.ntmps172
 go_wp2_with fail
 rw [← HW0.out];refine hN1.mono ?_;rintro e w1 ⟨rfl, hB1, hb1, hs1⟩;have HB1 := hid hB1;have Hb1 := hid hb1;have Hs1 := hid hs1;have hN2 := Bi.new_at n w1 (by omega) (by omega)
 have hrep : List.replicate ((n + 63) / 64) 0 = [0] := by
  rw [show (n + 63) / 64 = 1 by omega]
  rfl
 rw [hrep] at hN2;obtain ⟨b1, hb1q⟩ : ∃ b, b = W0.heap.size + 1 := ⟨_, rfl⟩;obtain ⟨g1, hg1q⟩ : ∃ g, g = W0.heap.size := ⟨_, rfl⟩;have H1 : Hid (b1 = W0.heap.size + 1 ∧ g1 = W0.heap.size) := ⟨hb1q, hg1q⟩;rw [← hb1q] at HB1 ⊢;rw [← hg1q] at HB1;clear hB1 hb1 hs1 hrep hb1q hg1q hN1
 go_wp2_with fail
 refine hN2.mono ?_;rintro e w2 ⟨rfl, hB2, hb2, hs2⟩;obtain ⟨b2, hb2q⟩ : ∃ b, b = w1.heap.size + 1 := ⟨_, rfl⟩;obtain ⟨g2, hg2q⟩ : ∃ g, g = w1.heap.size := ⟨_, rfl⟩;have H2 : Hid (b2 = w1.heap.size + 1 ∧ g2 = w1.heap.size) := ⟨hb2q, hg2q⟩;rw [← hb2q] at hB2 ⊢;rw [← hg2q] at hB2
 have HBms : Hid (Bms w2 W0.heap.size b1 g1 b2 g2 n [0] [0]) := by
  have a1 := H1.out;have a2 := H2.out;have a3 := Hs1.out;exact ⟨HB1.out.below hb2, hB2, by omega, by omega⟩
 have Hb2 : Hid (Below W0.heap.size W0 w2) := Hb1.out.trans (hb2.mono Hb1.out.size);obtain ⟨W3, hW3⟩ : ∃ W, W = w2.alloc (.cells #[ptr b1, ptr b2] 302) := ⟨_, rfl⟩
 have hb3 : Below w2.heap.size w2 W3 := by rw [hW3]; exact below_alloc _ _
 have HBm3 := HBms.out.below hb3
 have hr3 : W3.heap[w2.heap.size]? = some (.cells #[ptr b1, ptr b2] 302) := by rw [hW3]; exact heap_alloc_new _ _
 have hM := Bi.mark_yes b1 g1 32 [0] 0 true W3 HBm3.bi (by omega);rw [k_root] at hM;have HB3 := hid HBm3;have Hb3 : Hid (Below W0.heap.size W0 W3) := Hb2.out.trans (hb3.mono Hb2.out.size);have HR3 := hid hr3;have HW3 : Hid _ := hW3;clear hB2 hb2 hs2 hb2q hg2q hN2 hW3 hb3 HBm3 hr3 HB1 Hb1 HBms Hb2
 go_wp2_with fail
 rw [← HW3.out];clear HW3;refine hM.mono ?_;rintro e w4 ⟨rfl, hB4, hu4⟩
 have HBm4 : Hid (Bms w4 W0.heap.size b1 g1 b2 g2 n [1] [2 ^ 0 - 1]) := by
  have a1 := HB3.out
  have hne : b2 ≠ g1 := by
   intro e;have h1 := a1.bb.head;rw [e, a1.bi.row] at h1;simp only [Option.some.injEq, Obj.cells.injEq] at h1;exact absurd h1.2.1 (by decide)
  exact ⟨hB4, a1.bb.keep (hu4.block _ a1.bb.ltb hne) (hu4.block _ a1.bb.ltg (Ne.symm a1.ne)), a1.lo, a1.ne⟩
 obtain ⟨p, hp⟩ : ∃ p, p = w2.heap.size := ⟨_, rfl⟩;have Hp := hid hp;rw [← hp] at HR3 ⊢
 have hTy : ∀ (W : World) (g N : Nat) (b : Nat) (l : List Nat), Bi.BmAt W b g N l → W.heap[p]? = some (.cells #[ptr b1, ptr b2] 302) → p ≠ g := by
  intro W g N b l h1 h2 e;rw [e, h1.row] at h2;simp only [Option.some.injEq, Obj.cells.injEq] at h2;exact absurd h2.2.1 (by decide)
 have HTy := hid hTy;have HP4 : Hid (w4.heap[p]? = some (.cells #[ptr b1, ptr b2] 302)) := (hu4.block p (lt_of_heap HR3.out) (hTy _ _ _ _ _ HB3.out.bi HR3.out)).trans HR3.out;have Hb4 : Hid (Below W0.heap.size W0 w4) := Hb3.out.trans (hu4.below HB3.out.lo.2.1 Hb3.out.size);clear hM hB4 hu4 hp HB3 Hb3 HR3 hTy;go_wp2
 go_loopw [12] (fun s wr => ∃ (k : Nat), k ≤ 12 ∧ s = .int .i64 k ∧ Bms wr W0.heap.size b1 g1 b2 g2 n [1] [2 ^ k - 1] ∧ wr.heap[p]? = some (.cells #[ptr b1, ptr b2] 302) ∧ Below W0.heap.size W0 wr) (fun s _ => 12 - (intOf s).toNat)
 case atStart => exact ⟨0, by omega, rfl, HBm4.out, HP4.out, Hb4.out⟩
 case round =>
  clear HBm4 HP4 Hb4;obtain ⟨k, hk, rfl, hbm, hpr, hbw⟩ := hrel
  have c0 : wr.cell? ⟨p, 0, none⟩ = some (ptr b1) := by rw [cell_of_heap hpr]; rfl
  have c1 : wr.cell? ⟨p, 1, none⟩ = some (ptr b2) := by rw [cell_of_heap hpr]; rfl
  have HBm := hid hbm;have HPr := hid hpr;have HBw := hid hbw
  by_cases hlt : k < 12
  ·have hki : decide ((k : Int) < 12) = true := by simp; omega
   have hM := Bi.mark_yes b2 g2 n [2 ^ k - 1] k true wr hbm.bb (by omega);rw [k_head k hlt] at hM;clear hbm hpr hbw
   go_wp2_with fail
   refine hM.mono ?_;rintro e w5 ⟨rfl, hB5, hu5⟩
   have HR : Hid (Bms w5 W0.heap.size b1 g1 b2 g2 n [1] [2 ^ (k + 1) - 1] ∧ w5.heap[p]? = some (.cells #[ptr b1, ptr b2] 302) ∧ Below W0.heap.size W0 w5) := by
    have a1 := HBm.out
    have hne : b1 ≠ g2 := by
     intro e;have h1 := a1.bi.head;rw [e, a1.bb.row] at h1;simp only [Option.some.injEq, Obj.cells.injEq] at h1;exact absurd h1.2.1 (by decide)
    exact ⟨⟨a1.bi.keep (hu5.block _ a1.bi.ltb hne) (hu5.block _ a1.bi.ltg a1.ne), hB5, a1.lo, a1.ne⟩, (hu5.block p (lt_of_heap HPr.out) (HTy.out _ _ _ _ _ a1.bb HPr.out)).trans HPr.out, HBw.out.trans (hu5.below a1.lo.2.2.2 HBw.out.size)⟩
   clear hM hB5 hu5 c0 c1;go_wp2;go_roundw
   case rel => exact ⟨k + 1, by omega, by go_num, HR.out.1, HR.out.2.1, HR.out.2.2⟩
   case measure => simp [intOf]; omega
  ·have hki : decide ((k : Int) < 12) = false := by simp; omega
   have hk12 : ¬ (k : Int) < 12 := by omega
   have hk0 : k = 12 := by omega
   rw [hk0] at hbm;have HF := hid hbm;have hr2 : wr.heap[w.heap.size]? = some (.cells #[.pointer none, .pointer none] 302) := (hbw.block _ (by rw [HS0.out]; omega)).trans HR0.out;obtain ⟨r0, hr0⟩ : ∃ r, r = w.heap.size := ⟨_, rfl⟩;have Hr0 := hid hr0;rw [← hr0] at hr2 ⊢
   have hc0 : wr.cell? ⟨r0, 0, none⟩ = some (.pointer none) := by rw [cell_of_heap hr2]; rfl
   have hc1 : wr.cell? ⟨r0, 1, none⟩ = some (.pointer none) := by rw [cell_of_heap hr2]; rfl
   have hf0 : ∀ i, wr.frozen? ⟨r0, i, none⟩ = false := fun i => frozen_of_heap hr2
   have HR2 : Hid _ := hr2;clear hbm hpr hbw hk0 hr0 hr2;go_wp2;have HU : Hid (Upd r0 wr ((wr.setCell ⟨r0, 0, none⟩ (ptr b1)).setCell ⟨r0, 1, none⟩ (ptr b2))) := (Upd.setCell _ _ _ _).trans (Upd.setCell _ _ _ _)
   have HT : Hid (∀ cs, wr.heap[r0]? ≠ some (.cells cs 408 (0, 0)) ∧ wr.heap[r0]? ≠ some (.cells cs 45 (0, 0))) := by
    intro cs;rw [HR2.out]
    constructor <;> (intro e; simp only [Option.some.injEq, Obj.cells.injEq] at e; exact absurd e.2.1 (by decide))
   have Hbw : Hid (Below w.heap.size w wr) := HB0.out.trans (HBw.out.mono (by rw [HS0.out]; omega));refine bodyPost_ret (v := .agg #[ptr b1, ptr b2]) ?_ rfl ⟨b1, b2, rfl, ⟨g1, g2, ?_⟩, ?_⟩
   ·have hrr : ((wr.setCell ⟨r0, 0, none⟩ (ptr b1)).setCell ⟨r0, 1, none⟩ (ptr b2)).heap[r0]? = some (.cells #[ptr b1, ptr b2] 302) := by
     have h1 : (wr.setCell ⟨r0, 0, none⟩ (ptr b1)).heap[r0]? = some (.cells #[ptr b1, .pointer none] 302) := by rw [setCell_eq_setRow wr r0 0 _ _ _ _ HR2.out, setRow_heap wr r0 _ _ _ _ HR2.out]; rfl
     rw [setCell_eq_setRow _ r0 1 _ _ _ _ h1, setRow_heap _ r0 _ _ _ _ h1]
     rfl
    rw [results_cell_row rfl _ _ r0 302 #[ptr b1, ptr b2] (0, 0) _ rfl hrr Tryz.underlying302 rfl (by kernel_rfl)]
   ·exact (HF.out.other HU.out HT.out).mono (by rw [HS0.out]; omega)
   ·exact Hbw.out.trans (HU.out.below (by rw [Hr0.out]; exact Nat.le_refl _) Hbw.out.size)
theorem Dr.start {w : World} {n m : Nat} {B : Sto} {vs : List Int} (h : Dk w B n vs m) (hn : n ≤ 1024) :
  Dr (w.alloc (.cells #[sto B, .slice none 0 0, .int .i64 0] 295)) w.heap.size w.heap.size B n vs vs m :=
 ⟨_, [], ⟨heap_alloc_new _ _, World.ownsRow_nil _ _ _ _, Nat.le_refl _, fun p hp => (by cases hp), List.nodup_nil, fun k _ _ => rfl, h.len, h.below (below_alloc _ _), hn⟩⟩
structure FsAt (w : World) (B : Sto) (F : FS) (vs : List Int) (m : Nat) : Prop where
 disk : Dk w B F.n vs m
 hold : Holds vs F
 inv : FInv F
section
variable {w w' : World} {m : Nat} {B : Sto} {F : FS} {vs : List Int}
theorem FsAt.row (h : FsAt w B F vs m) {i : Nat} (hi : i < 32) : rowW vs i = (F.ino i).row := by
 have hb := h.inv.n1;have hl := h.hold.len
 refine list_ext_getD _ _ (by rw [rowW_len hl (by omega), Ino.row_len (h.inv.six hi)]) fun j hj => ?_
 rw [rowW_len hl (by omega)] at hj;rw [rowW_get _ _ _ hj, h.hold.tab (i / 3) (by omega), tab_word h.inv hi hj]
end
section
variable {w w' : World} {vs ws : List Int} {m : Nat} {iw bw : List Nat} {kd lk sz : Int} {bl : List Nat}
theorem wpList_store_midQ {base bd n m b q : Nat} {B : Sto} {vs ws : List Int} {ops : Array Oper} {rest : List Oper} {op : Oper} {a : Act} {w : World} {Q : Exit → Act → World → Prop} (h : DrQ w base bd B n vs ws m b q) (hgd : op.guard = none) (x y : Operand) (ho : op.op = .store 296 x y) (R : Array Value) (hx : a.eval x = .pointer (some ⟨q, 33, none⟩)) (hy : a.eval y = .agg R) (hs : R.size = 32) (h1 : R.all (·.oneCell') = true)
  (hk : wpList Tryz.prog ops Q rest (a.put op.dst undef) (w.setCells q 33 R.toList)) : wpList Tryz.prog ops Q (op :: rest) a w :=
 wpList_store_mid hgd 296 x y ho q 33 R hx hy (by rw [hs]; exact h.there) (by rw [hs]; exact contSize) h1 hk
end
end Go.Proofs.YtinaeifpoljfoaaGreatDoor
