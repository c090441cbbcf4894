/- Package inode: 32 words laid at once; setHead, row, inode, setInode, newHead, isData, isInode. -/
import Derived.Test.YtcaofdbcgdgbbaaGreatDoorInoG
namespace Go.Proofs.YtcaofdbcgdgbbaaGreatDoor
open Go.RowKit
set_option linter.all false

theorem step_store_mid {P : Program} {ops : Array Oper} {op : Oper} {a : Act} {w : World} {K : Act → World → Prop} {Q : Exit → Act → World → Prop} {E : Prop} (hgd : op.guard = none) (ty : TypeId) (x y : Operand) (ho : op.op = .store ty x y)
    (b o : Nat) (cells : Array Value) (hx : a.eval x = .pointer (some ⟨b, o, none⟩)) (hy : a.eval y = .agg cells) (ht : w.there b o cells.size) (hi : (P.info? ty).map (·.size) = some cells.size) (h1 : cells.all (·.oneCell') = true)
    (h : K (a.put op.dst undef) (w.setCells b o cells.toList)) : if Region.wanted op (yielded ops a.tmps) = true then Oper.wp P op a w K Q else E := by
  have hw : Region.wanted op (yielded ops a.tmps) = true := by simp [Region.wanted, hgd]
  rw [if_pos hw]
  exact wp_store_mid ty x y ho b o cells hx hy ht hi h1 h
/-- Cells set one by one. -/
def setL : Array Value → Nat → List Value → Array Value
  | cur, _, [] => cur
  | cur, o, v :: r => setL (cur.setIfInBounds o v) (o + 1) r
theorem setL_size : ∀ (l : List Value) (o : Nat) (cur : Array Value), (setL cur o l).size = cur.size
  | [], _, _ => rfl
  | v :: r, o, cur => by
    show (setL (cur.setIfInBounds o v) (o + 1) r).size = _
    rw [setL_size]
    simp
theorem setL_get : ∀ (l : List Value) (o : Nat) (cur : Array Value) (k : Nat), (setL cur o l)[k]? = if o ≤ k ∧ k < o + l.length ∧ k < cur.size then l[k - o]? else cur[k]?
  | [], o, cur, k => by
    show cur[k]? = _
    rw [if_neg (by simp; omega)]
  | v :: r, o, cur, k => by
    show (setL (cur.setIfInBounds o v) (o + 1) r)[k]? = _
    rw [setL_get]
    simp only [Array.size_setIfInBounds, List.length_cons]
    by_cases e : k = o
    · subst e
      rw [if_neg (by omega)]
      by_cases q : k < cur.size
      · rw [if_pos (by omega)]
        simp [q]
      · rw [if_neg (by omega)]
        simp [q]
    · rw [Array.getElem?_setIfInBounds_ne (fun x => e x.symm)]
      by_cases q : o + 1 ≤ k ∧ k < o + 1 + r.length ∧ k < cur.size
      · rw [if_pos q, if_pos (by omega), show k - o = k - (o + 1) + 1 by omega, List.getElem?_cons_succ]
      · rw [if_neg q, if_neg (by omega)]
theorem setCells_heap (b : Nat) : ∀ (l : List Value) (o : Nat) (w : World) (cur : Array Value) (t : TypeId), w.heap[b]? = some (.cells cur t (0, 0)) → (w.setCells b o l).heap[b]? = some (.cells (setL cur o l) t (0, 0)) ∧ Upd b w (w.setCells b o l)
  | [], _, w, _, _, h => ⟨h, Upd.refl _ _⟩
  | v :: r, o, w, cur, t, h => by
    have h1 : (w.setCell ⟨b, o, none⟩ v).heap[b]? = some (.cells (cur.setIfInBounds o v) t (0, 0)) := by rw [setCell_eq_setRow w b o _ _ _ _ h, setRow_heap w b _ _ _ _ h]
    obtain ⟨h2, h3⟩ := setCells_heap b r (o + 1) _ _ t h1
    exact ⟨h2, (Upd.setCell _ _ _ _).trans h3⟩
theorem setL_sheet {k : Nat} {A C R : Array Value} (hA : A.size = 32) (hC : C.size = 32) (hR : R.size = 32) : setL (shRow k A C) 33 R.toList = shRow k A R := by
  apply Array.ext_getElem?
  intro i
  rw [setL_get, shRow_size hA hC]
  simp only [Array.length_toList, hR]
  by_cases q : 33 ≤ i ∧ i < 33 + 32 ∧ i < 65
  · rw [if_pos q]
    obtain ⟨j, rfl⟩ : ∃ j, i = 33 + j := ⟨i - 33, by omega⟩
    rw [shRow_now hA]
    simp
  · rw [if_neg q]
    unfold shRow
    by_cases q1 : i < 33
    · rw [Array.getElem?_append_left (xs := #[Value.int .i64 (k : Int)] ++ A) (by simp [hA]; omega), Array.getElem?_append_left (xs := #[Value.int .i64 (k : Int)] ++ A) (by simp [hA]; omega)]
    · rw [Array.getElem?_eq_none (by simp [hA, hC]; omega), Array.getElem?_eq_none (by simp [hA, hR]; omega)]
section
variable {w w' : World} {base bd B G n m : Nat} {vs ws : List Int}
theorem DrQ.there {b q : Nat} (h : DrQ w base bd B G n vs ws m b q) : w.there q 33 32 := fun j hj => ⟨by rw [h.word hj]; rfl, h.free⟩
/-- 32 words are laid anew at once. -/
theorem DrQ.cells {b q : Nat} {us : List Int} {R : Array Value} (h : DrQ w base bd B G n vs ws m b q) (hu : us.length = 32) (hR : R = urow us) :
    DrQ (w.setCells q 33 R.toList) base bd B G n vs (splice ws (b * 32) us) m b q ∧ DT base B w (w.setCells q 33 R.toList) := by
  have hl : ws.length = n * 32 := h.dr.len
  obtain ⟨A, hA, hh, _, hb⟩ := h.row
  have hRs : R.size = 32 := by rw [hR, urow_size, hu]
  refine h.lay hu (fun A hA hh => ?_) (setCells_heap q R.toList 33 w _ _ hh).2
  rw [(setCells_heap q R.toList 33 w _ _ hh).1, setL_sheet hA (by rw [urow_size, frameOf_length ws b n hl hb]) hRs, hR]
theorem urow_cast {us vs : List Int} (h : us = vs) : urow us = urow vs := by rw [h]

set_option maxHeartbeats 2000000 in
set_option maxRecDepth 100000 in
theorem dsetHead_at {M hi hb : Nat} {iw bw : List Nat} (h : Dr w base bd B G n vs ws m) (hm : m ≤ 900000000000) (hn : 0 < n) (hbm : BmsE w M hi hb n iw bw) (hB : B < M) :
    Calls Tryz.prog 42 #[ptr bd, .agg #[ptr hi, ptr hb]] w fun e w' => e = .returned (.tuple #[]) ∧ Dr w' base bd B G n vs (splice ws 0 (hdW n iw bw)) m ∧ DT base B w w' := by
  obtain ⟨gi, gb, hbm⟩ := hbm
  have hbl := hbm.bb.wf.len
  have hle := hbm.bb.le
  have HL : Hid ((hdW n iw bw).length = 32) := hdW_len hbm.bi.wf.len (by rw [hbl]; omega)
  have HBl : Hid (B < w.heap.size) := by obtain ⟨_, _, h⟩ := h; obtain ⟨_, _, hd, _⟩ := h.disk; exact lt_of_heap hd.head
  obtain ⟨W0, hW0⟩ : ∃ W, W = w.alloc (.cells #[ptr hi, ptr hb] 80) := ⟨_, rfl⟩
  have hb0 : Below w.heap.size w W0 := by rw [hW0]; exact below_alloc _ _
  have hp0 : W0.heap[w.heap.size]? = some (.cells #[ptr hi, ptr hb] 80) := by rw [hW0]; exact heap_alloc_new _ _
  have HB0 : Hid (Below w.heap.size w W0) := hb0
  have hA := dat_at (h.below (hb0.trans ((Di.drewN_below (w := W0) ⟨1, rfl⟩).mono hb0.size))) 0 hn hm
  have HBm : Hid (Bms W0 M hi gi hb gb n iw bw) := hbm.below hb0
  have HP0 : Hid _ := hp0
  have HW0 : Hid _ := hW0
  obtain ⟨p0, hp⟩ : ∃ p, p = w.heap.size := ⟨_, rfl⟩
  have c0 : W0.cell? ⟨p0, 0, none⟩ = some (ptr hi) ∧ W0.cell? ⟨p0, 1, none⟩ = some (ptr hb) := by rw [hp]; constructor <;> (rw [cell_of_heap hp0]; rfl)
  have HPB : Hid (p0 ≠ B) := by rw [hp]; have := HBl.out; show _ ≠ _; omega
  rw [← hp] at HP0
  have Hpq : Hid (p0 = w.heap.size) := hp
  clear h hbm hbl hb0 hp0 hW0 hp
  go_enter Tryz.func42, Tryz.ntmps42
  go_wp2_with fail
  rw [← HW0.out, ← Hpq.out]
  clear HW0
  refine wp_region_held_drew (S := fun w' => w'.cell? ⟨p0, 0, none⟩ = some (ptr hi) ∧ w'.cell? ⟨p0, 1, none⟩ = some (ptr hb)) (by kernel_rfl) c0 (fun hHeld => ?_)
  refine wpAnyH_take (i := 0) (v := ?_) rfl (by kernel_rfl) (by kernel_rfl) (by kernel_rfl) (fun _ _ _ h => h) (Or.inl ⟨by kernel_rfl, ?_⟩) (by assumption) ?_
  rotate_left
  · (intro w hSw; (try dsimp only at hSw); go_simp) <;> with_reducible rfl
  (try simp only [Act.put, List.getElem_toArray, List.getElem_cons_zero, List.setIfInBounds_toArray, List.set_cons_zero, List.set_cons_succ])
  refine wpAnyH_take (i := 2) (v := ?_) rfl (by kernel_rfl) (by kernel_rfl) (by kernel_rfl) (fun _ _ _ h => h) (Or.inl ⟨by kernel_rfl, ?_⟩) (by assumption) ?_
  rotate_left
  · (intro w hSw; (try dsimp only at hSw); go_simp) <;> with_reducible rfl
  (try simp only [Act.put, List.getElem_toArray, List.getElem_cons_zero, List.getElem_cons_succ, List.setIfInBounds_toArray, List.set_cons_zero, List.set_cons_succ])
  refine wpAnyH_ready (rs := [1]) (by kernel_rfl) (by simp) ?_
  refine AllReadyH.cons rfl (fun K hK => ?_) AllReadyH.nil
  go_simp
  refine hA.mono ?_
  rintro e w1 ⟨q, rfl, hq, hdt⟩
  have hdt' : DT base B W0 w1 := (DT.of_below (Di.drewN_below ⟨1, rfl⟩)).trans hdt
  have h1 : w1.heap[p0]? = some (.cells #[ptr hi, ptr hb] 80) := hdt'.other HP0.out HPB.out (by decide)
  have c1 : w1.cell? ⟨p0, 0, none⟩ = some (ptr hi) ∧ w1.cell? ⟨p0, 1, none⟩ = some (ptr hb) := by constructor <;> (rw [cell_of_heap h1]; rfl)
  have hbm1 := HBm.out.dt hdt' hB
  have hWd := hwords_at hbm1
  have HQ : Hid (DrQ w1 base bd B G n vs ws m 0 q) := hq
  have HT : Hid (DT base B w w1) := (DT.of_below HB0.out).trans hdt'
  have HP1 : Hid _ := h1
  clear hq hdt hdt' h1 hbm1 hA c0
  refine hK.out _ _ c1 (fun hHeld => ?_)
  clear hK K
  (try simp only [Act.put, List.getElem_toArray, List.getElem_cons_zero, List.getElem_cons_succ, List.setIfInBounds_toArray, List.set_cons_zero, List.set_cons_succ])
  refine wpAnyH_ready (rs := [3]) (by kernel_rfl) (by simp) ?_
  refine AllReadyH.cons rfl (fun K hK => ?_) AllReadyH.nil
  go_simp
  refine hWd.mono ?_
  rintro e w2 ⟨rfl, hb2⟩
  have hq2 : DrQ w2 base bd B G n vs ws m 0 q := by
    obtain ⟨sv, S, h, hq⟩ := HQ.out
    exact ⟨sv, S, h.below hb2, hq⟩
  have HT2 : Hid (DT base B w w2) := HT.out.trans (DT.of_below hb2)
  have h2 : w2.heap[p0]? = some (.cells #[ptr hi, ptr hb] 80) := (hb2.block _ (lt_of_heap HP1.out)).trans HP1.out
  have c2 : w2.cell? ⟨p0, 0, none⟩ = some (ptr hi) ∧ w2.cell? ⟨p0, 1, none⟩ = some (ptr hb) := by constructor <;> (rw [cell_of_heap h2]; rfl)
  obtain ⟨R, hR⟩ : ∃ R, R = urow (hdW n iw bw) := ⟨_, rfl⟩
  have HRs : Hid (R.size = 32) := by rw [hR]; show _ = _; rw [urow_size]; exact HL.out
  have HRo : Hid (R.all (·.oneCell') = true) := by rw [hR]; exact urow_one _
  obtain ⟨r1, r2⟩ := hq2.cells HL.out hR
  have HR1 : Hid (DrQ (w2.setCells q 33 R.toList) base bd B G n vs (splice ws (0 * 32) (hdW n iw bw)) m 0 q) := r1
  have HR2 : Hid (DT base B w2 (w2.setCells q 33 R.toList)) := r2
  have h3 : (w2.setCells q 33 R.toList).heap[p0]? = some (.cells #[ptr hi, ptr hb] 80) := r2.other h2 HPB.out (by decide)
  have c3 : (w2.setCells q 33 R.toList).cell? ⟨p0, 0, none⟩ = some (ptr hi) ∧ (w2.setCells q 33 R.toList).cell? ⟨p0, 1, none⟩ = some (ptr hb) := by constructor <;> (rw [cell_of_heap h3]; rfl)
  have HTh : Hid (w2.there q 33 32) := hq2.there
  rw [← hR]
  clear hq2 hb2 h2 hR r1 r2 h3 c1 hWd HQ
  refine hK.out _ _ c2 (fun hHeld => ?_)
  clear hK K
  (try simp only [Act.put, List.getElem_toArray, List.getElem_cons_zero, List.getElem_cons_succ, List.setIfInBounds_toArray, List.set_cons_zero, List.set_cons_succ])
  refine wpAnyH_take (i := 4) (v := ?_) rfl (by kernel_rfl) (by kernel_rfl) (by kernel_rfl) (fun _ _ _ h => h) (Or.inl ⟨by kernel_rfl, ?_⟩) (by assumption) ?_
  rotate_left
  · (intro w hSw; (try dsimp only at hSw); go_simp) <;> with_reducible rfl
  (try simp only [Act.put, List.getElem_toArray, List.getElem_cons_zero, List.getElem_cons_succ, List.setIfInBounds_toArray, List.set_cons_zero, List.set_cons_succ])
  refine wpAnyH_ready (rs := [5]) (by kernel_rfl) (by simp) ?_
  refine AllReadyH.cons rfl (fun K hK => ?_) AllReadyH.nil
  refine step_store_mid rfl 122 _ _ rfl q 33 R rfl rfl (by rw [HRs.out]; exact HTh.out) (by rw [HRs.out]; exact contSize) HRo.out ?_
  refine hK.out _ _ c3 (fun hHeld => ?_)
  clear hK K
  (try simp only [Act.put, List.getElem_toArray, List.getElem_cons_zero, List.getElem_cons_succ, List.setIfInBounds_toArray, List.set_cons_zero, List.set_cons_succ])
  refine wpAnyH_done (by kernel_rfl) ?_ _
  clear c2 c3
  go_wp2
  go_end0
  refine ⟨rfl, ?_, HT2.out.trans HR2.out⟩
  have := HR1.out.dr
  rwa [Nat.zero_mul] at this
end
end Go.Proofs.YtcaofdbcgdgbbaaGreatDoor
