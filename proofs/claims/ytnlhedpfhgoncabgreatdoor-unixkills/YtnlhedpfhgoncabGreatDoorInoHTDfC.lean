/- Package inode: 32 words laid at once; setHead, row, inode, setInode, newHead, isData, isInode. -/
/- Package fscore: a draft in the heap: a store ahead of another one; ask, leaf. -/
/- Package fscore: a draft's leaf, Get and Put: a draft is a store. -/
/- Package fscore: a draft's Get and Put: a draft is a store. -/
import Derived.Test.YtnlhedpfhgoncabGreatDoorInoETInoG
set_option linter.all false
namespace Go.Proofs.YtnlhedpfhgoncabGreatDoor
open Go.RowKit
theorem step_store_mid {P : Program} {ops : Array Oper} {op : Oper} {a : Act} {w : World} {K : Act → World → Prop} {Q : Exit → Act → World → Prop} {E : Prop} (hgd : op.guard = none) (ty : TypeId) (x y : Operand) (ho : op.op = .store ty x y)
    (b o : Nat) (cells : Array Value) (hx : a.eval x = .pointer (some ⟨b, o, none⟩)) (hy : a.eval y = .agg cells) (ht : w.there b o cells.size) (hi : (P.info? ty).map (·.size) = some cells.size) (h1 : cells.all (·.oneCell') = true)
    (h : K (a.put op.dst undef) (w.setCells b o cells.toList)) : if Region.wanted op (yielded ops a.tmps) = true then Oper.wp P op a w K Q else E := by
  have hw : Region.wanted op (yielded ops a.tmps) = true := by simp [Region.wanted, hgd]
  rw [if_pos hw]
  exact wp_store_mid ty x y ho b o cells hx hy ht hi h1 h
/-- Cells set one by one. -/
def setL : Array Value → Nat → List Value → Array Value
  | cur, _, [] => cur
  | cur, o, v :: r => setL (cur.setIfInBounds o v) (o + 1) r
theorem setL_get : ∀ (l : List Value) (o : Nat) (cur : Array Value) (k : Nat), (setL cur o l)[k]? = if o ≤ k ∧ k < o + l.length ∧ k < cur.size then l[k - o]? else cur[k]?
  | [], o, cur, k => by
    show cur[k]? = _
    rw [if_neg (by simp; omega)]
  | v :: r, o, cur, k => by
    show (setL (cur.setIfInBounds o v) (o + 1) r)[k]? = _
    rw [setL_get]
    simp only [Array.size_setIfInBounds, List.length_cons]
    by_cases e : k = o
    · subst e
      rw [if_neg (by omega)]
      by_cases q : k < cur.size
      · rw [if_pos (by omega)]
        simp [q]
      · rw [if_neg (by omega)]
        simp [q]
    · rw [Array.getElem?_setIfInBounds_ne (fun x => e x.symm)]
      by_cases q : o + 1 ≤ k ∧ k < o + 1 + r.length ∧ k < cur.size
      · rw [if_pos q, if_pos (by omega), show k - o = k - (o + 1) + 1 by omega, List.getElem?_cons_succ]
      · rw [if_neg q, if_neg (by omega)]
theorem setCells_heap (b : Nat) : ∀ (l : List Value) (o : Nat) (w : World) (cur : Array Value) (t : TypeId), w.heap[b]? = some (.cells cur t (0, 0)) → (w.setCells b o l).heap[b]? = some (.cells (setL cur o l) t (0, 0)) ∧ Upd b w (w.setCells b o l)
  | [], _, w, _, _, h => ⟨h, Upd.refl _ _⟩
  | v :: r, o, w, cur, t, h => by
    have h1 : (w.setCell ⟨b, o, none⟩ v).heap[b]? = some (.cells (cur.setIfInBounds o v) t (0, 0)) := by rw [setCell_eq_setRow w b o _ _ _ _ h, setRow_heap w b _ _ _ _ h]
    obtain ⟨h2, h3⟩ := setCells_heap b r (o + 1) _ _ t h1
    exact ⟨h2, (Upd.setCell _ _ _ _).trans h3⟩
theorem setL_sheet {k : Nat} {A C R : Array Value} (hA : A.size = 32) (hC : C.size = 32) (hR : R.size = 32) : setL (shRow k A C) 33 R.toList = shRow k A R := by
  apply Array.ext_getElem?
  intro i
  rw [setL_get, shRow_size hA hC]
  simp only [Array.length_toList, hR]
  by_cases q : 33 ≤ i ∧ i < 33 + 32 ∧ i < 65
  · rw [if_pos q]
    obtain ⟨j, rfl⟩ : ∃ j, i = 33 + j := ⟨i - 33, by omega⟩
    rw [shRow_now hA]
    simp
  · rw [if_neg q]
    unfold shRow
    by_cases q1 : i < 33
    · rw [Array.getElem?_append_left (xs := #[Value.int .i64 (k : Int)] ++ A) (by simp [hA]; omega), Array.getElem?_append_left (xs := #[Value.int .i64 (k : Int)] ++ A) (by simp [hA]; omega)]
    · rw [Array.getElem?_eq_none (by simp [hA, hC]; omega), Array.getElem?_eq_none (by simp [hA, hR]; omega)]
section
variable {w w' : World} {base bd n m : Nat} {B : Sto} {vs ws : List Int}
theorem DrQ.there {b q : Nat} (h : DrQ w base bd B n vs ws m b q) : w.there q 33 32 := fun j hj => ⟨by rw [h.word hj]; rfl, h.free⟩
/-- 32 words are laid anew at once. -/
theorem DrQ.cells {b q : Nat} {us : List Int} {R : Array Value} (h : DrQ w base bd B n vs ws m b q) (hu : us.length = 32) (hR : R = urow us) :
    DrQ (w.setCells q 33 R.toList) base bd B n vs (splice ws (b * 32) us) m b q ∧ DT base B w (w.setCells q 33 R.toList) := by
  have hl : ws.length = n * 32 := h.dr.len
  obtain ⟨A, hA, hh, _, hb⟩ := h.row
  have hRs : R.size = 32 := by rw [hR, urow_size, hu]
  refine h.lay hu (fun A hA hh => ?_) (setCells_heap q R.toList 33 w _ _ hh).2
  rw [(setCells_heap q R.toList 33 w _ _ hh).1, setL_sheet hA (by rw [urow_size, frameOf_length ws b n hl hb]) hRs, hR]
set_option maxHeartbeats 2000000 in
set_option maxRecDepth 100000 in
theorem dsetHead_at {M hi hb : Nat} {iw bw : List Nat} (h : Dr w base bd B n vs ws m) (hm : m ≤ 900000000000) (hn : 0 < n) (hbm : BmsE w M hi hb n iw bw) :
    Calls Tryz.prog 138 #[ptr bd, .agg #[ptr hi, ptr hb]] w fun e w' => e = .returned (.tuple #[]) ∧ Dr w' base bd B n vs (splice ws 0 (hdW n iw bw)) m ∧ DT base B w w' := by
  obtain ⟨gi, gb, hbm⟩ := hbm
  have hbl := hbm.bb.wf.len
  have hle := hbm.bb.le
  have HL : Hid ((hdW n iw bw).length = 32) := hdW_len hbm.bi.wf.len (by rw [hbl]; omega)
  obtain ⟨W0, hW0⟩ : ∃ W, W = w.alloc (.cells #[ptr hi, ptr hb] 256) := ⟨_, rfl⟩
  have hb0 : Below w.heap.size w W0 := by rw [hW0]; exact below_alloc _ _
  have hp0 : W0.heap[w.heap.size]? = some (.cells #[ptr hi, ptr hb] 256) := by rw [hW0]; exact heap_alloc_new _ _
  have HB0 : Hid (Below w.heap.size w W0) := hb0
  have hA := dat_at (h.below (hb0.trans ((Di.drewN_below (w := W0) ⟨1, rfl⟩).mono hb0.size))) 0 hn hm
  have HBm : Hid (Bms W0 M hi gi hb gb n iw bw) := hbm.below hb0
  have HP0 : Hid _ := hp0
  have HW0 : Hid _ := hW0
  obtain ⟨p0, hp⟩ : ∃ p, p = w.heap.size := ⟨_, rfl⟩
  have c0 : W0.cell? ⟨p0, 0, none⟩ = some (ptr hi) ∧ W0.cell? ⟨p0, 1, none⟩ = some (ptr hb) := by rw [hp]; constructor <;> (rw [cell_of_heap hp0]; rfl)
  rw [← hp] at HP0
  have Hpq : Hid (p0 = w.heap.size) := hp
  clear h hbm hbl hb0 hp0 hW0 hp
  go_enter Tryz.func138, Tryz.ntmps138
  go_wp2_with fail
  rw [← HW0.out, ← Hpq.out]
  clear HW0
  refine wp_region_held_drew (S := fun w' => w'.cell? ⟨p0, 0, none⟩ = some (ptr hi) ∧ w'.cell? ⟨p0, 1, none⟩ = some (ptr hb)) (by kernel_rfl) c0 (fun hHeld => ?_)
  refine wpAnyH_take (i := 0) (v := ?_) rfl (by kernel_rfl) (by kernel_rfl) (by kernel_rfl) (fun _ _ _ h => h) (Or.inl ⟨by kernel_rfl, ?_⟩) (by assumption) ?_
  rotate_left
  · (intro w hSw; (try dsimp only at hSw); go_simp) <;> with_reducible rfl
  (try simp only [Act.put, List.getElem_toArray, List.getElem_cons_zero, List.setIfInBounds_toArray, List.set_cons_zero, List.set_cons_succ])
  refine wpAnyH_take (i := 2) (v := ?_) rfl (by kernel_rfl) (by kernel_rfl) (by kernel_rfl) (fun _ _ _ h => h) (Or.inl ⟨by kernel_rfl, ?_⟩) (by assumption) ?_
  rotate_left
  · (intro w hSw; (try dsimp only at hSw); go_simp) <;> with_reducible rfl
  (try simp only [Act.put, List.getElem_toArray, List.getElem_cons_zero, List.getElem_cons_succ, List.setIfInBounds_toArray, List.set_cons_zero, List.set_cons_succ])
  refine wpAnyH_ready (rs := [1]) (by kernel_rfl) (by simp) ?_
  refine AllReadyH.cons rfl (fun K hK => ?_) AllReadyH.nil
  go_simp
  refine hA.mono ?_
  rintro e w1 ⟨q, rfl, hq, hdt⟩
  have hdt' : DT base B W0 w1 := (DT.of_below (Di.drewN_below ⟨1, rfl⟩)).trans hdt
  have h1 : w1.heap[p0]? = some (.cells #[ptr hi, ptr hb] 256) := hdt'.other HP0.out (by decide) (by decide)
  have c1 : w1.cell? ⟨p0, 0, none⟩ = some (ptr hi) ∧ w1.cell? ⟨p0, 1, none⟩ = some (ptr hb) := by constructor <;> (rw [cell_of_heap h1]; rfl)
  have hbm1 := HBm.out.dt hdt'
  have hWd := hwords_at hbm1
  have HQ : Hid (DrQ w1 base bd B n vs ws m 0 q) := hq
  have HT : Hid (DT base B w w1) := (DT.of_below HB0.out).trans hdt'
  have HP1 : Hid _ := h1
  clear hq hdt hdt' h1 hbm1 hA c0
  refine hK.out _ _ c1 (fun hHeld => ?_)
  clear hK K
  (try simp only [Act.put, List.getElem_toArray, List.getElem_cons_zero, List.getElem_cons_succ, List.setIfInBounds_toArray, List.set_cons_zero, List.set_cons_succ])
  refine wpAnyH_ready (rs := [3]) (by kernel_rfl) (by simp) ?_
  refine AllReadyH.cons rfl (fun K hK => ?_) AllReadyH.nil
  go_simp
  refine hWd.mono ?_
  rintro e w2 ⟨rfl, hb2⟩
  have hq2 : DrQ w2 base bd B n vs ws m 0 q := by
    obtain ⟨sv, S, h, hq⟩ := HQ.out
    exact ⟨sv, S, h.below hb2, hq⟩
  have HT2 : Hid (DT base B w w2) := HT.out.trans (DT.of_below hb2)
  have h2 : w2.heap[p0]? = some (.cells #[ptr hi, ptr hb] 256) := (hb2.block _ (lt_of_heap HP1.out)).trans HP1.out
  have c2 : w2.cell? ⟨p0, 0, none⟩ = some (ptr hi) ∧ w2.cell? ⟨p0, 1, none⟩ = some (ptr hb) := by constructor <;> (rw [cell_of_heap h2]; rfl)
  obtain ⟨R, hR⟩ : ∃ R, R = urow (hdW n iw bw) := ⟨_, rfl⟩
  have HRs : Hid (R.size = 32) := by rw [hR]; show _ = _; rw [urow_size]; exact HL.out
  have HRo : Hid (R.all (·.oneCell') = true) := by rw [hR]; exact urow_one _
  obtain ⟨r1, r2⟩ := hq2.cells HL.out hR
  have HR1 : Hid (DrQ (w2.setCells q 33 R.toList) base bd B n vs (splice ws (0 * 32) (hdW n iw bw)) m 0 q) := r1
  have HR2 : Hid (DT base B w2 (w2.setCells q 33 R.toList)) := r2
  have h3 : (w2.setCells q 33 R.toList).heap[p0]? = some (.cells #[ptr hi, ptr hb] 256) := r2.other h2 (by decide) (by decide)
  have c3 : (w2.setCells q 33 R.toList).cell? ⟨p0, 0, none⟩ = some (ptr hi) ∧ (w2.setCells q 33 R.toList).cell? ⟨p0, 1, none⟩ = some (ptr hb) := by constructor <;> (rw [cell_of_heap h3]; rfl)
  have HTh : Hid (w2.there q 33 32) := hq2.there
  rw [← hR]
  clear hq2 hb2 h2 hR r1 r2 h3 c1 hWd HQ
  refine hK.out _ _ c2 (fun hHeld => ?_)
  clear hK K
  (try simp only [Act.put, List.getElem_toArray, List.getElem_cons_zero, List.getElem_cons_succ, List.setIfInBounds_toArray, List.set_cons_zero, List.set_cons_succ])
  refine wpAnyH_take (i := 4) (v := ?_) rfl (by kernel_rfl) (by kernel_rfl) (by kernel_rfl) (fun _ _ _ h => h) (Or.inl ⟨by kernel_rfl, ?_⟩) (by assumption) ?_
  rotate_left
  · (intro w hSw; (try dsimp only at hSw); go_simp) <;> with_reducible rfl
  (try simp only [Act.put, List.getElem_toArray, List.getElem_cons_zero, List.getElem_cons_succ, List.setIfInBounds_toArray, List.set_cons_zero, List.set_cons_succ])
  refine wpAnyH_ready (rs := [5]) (by kernel_rfl) (by simp) ?_
  refine AllReadyH.cons rfl (fun K hK => ?_) AllReadyH.nil
  refine step_store_mid rfl 250 _ _ rfl q 33 R rfl rfl (by rw [HRs.out]; exact HTh.out) (by rw [HRs.out]; exact contSize) HRo.out ?_
  refine hK.out _ _ c3 (fun hHeld => ?_)
  clear hK K
  (try simp only [Act.put, List.getElem_toArray, List.getElem_cons_zero, List.getElem_cons_succ, List.setIfInBounds_toArray, List.set_cons_zero, List.set_cons_succ])
  refine wpAnyH_done (by kernel_rfl) ?_ _
  clear c2 c3
  go_wp2
  go_end0
  refine ⟨rfl, ?_, HT2.out.trans HR2.out⟩
  have := HR1.out.dr
  rwa [Nat.zero_mul] at this
end
end Go.Proofs.YtnlhedpfhgoncabGreatDoor
namespace Go.Proofs.YtnlhedpfhgoncabGreatDoor
open Go.RowKit
theorem leafInfo : (Tryz.prog.info? 240).map (fun i => (i.zero, i.size, i.bytes)) = some (some (.pointer none), 1, 8) := by kernel_rfl
theorem arrSize : (Tryz.prog.info? 241).map (·.size) = some 32 := by kernel_rfl
theorem zc_size : zc.size = 32 := by unfold zc; rw [urow_size]; simp
theorem leaf_built (k : Nat) : Tryz.prog.built 243 [(0, .int .i64 (k : Int))] = some (shRow k zc zc) := by kernel_rfl
/-- A draft: its head is block d, its store S with the words vs; what they shall be is ws. -/
structure DfAt (w : World) (S : Sto) (lo d : Nat) (P : Nat → Prop) (n : Nat) (vs ws : List Int) (m : Nat) (sv : Value) (L : List (Nat × Nat)) : Prop where
  ok : SOk S
  st : S.At w P n vs m
  head : w.heap[d]? = some (.cells #[sto S, sv, .int .i64 0] 173)
  own : w.ownsRow lo 240 1 sv L.length (L.map (fun p => ptr p.2))
  lf : ∀ p ∈ L, lo ≤ p.2 ∧ p.1 < n ∧ w.heap[p.2]? = some (.cells (shRow p.1 (urow (frameOf vs p.1)) (urow (frameOf ws p.1))) 243)
  nd : (L.map (fun p => p.1)).Nodup
  out : ∀ k, k < n → k ∉ L.map (fun p => p.1) → frameOf ws k = frameOf vs k
  len : ws.length = n * 32
  nn : n ≤ 1024
  apd : ¬ P d
  apo : ∀ g, sv.ownBlock = some g → ¬ P g
  apl : ∀ p ∈ L, ¬ P p.2
  lod : lo ≤ d
  loS : lo ≤ S.lo
/-- The blocks of a draft and of its store. -/
def dfP (d : Nat) (P : Nat → Prop) (sv : Value) (L : List (Nat × Nat)) : Nat → Prop := fun k => P k ∨ k = d ∨ sv.ownBlock = some k ∨ ∃ p ∈ L, p.2 = k
section
variable {w w' : World} {S : Sto} {lo d : Nat} {P : Nat → Prop} {n : Nat} {vs ws : List Int} {m : Nat} {sv : Value} {L : List (Nat × Nat)}
theorem DfAt.few (h : DfAt w S lo d P n vs ws m sv L) : L.length ≤ n := by
  have := nodup_le n (L.map (fun p => p.1)) h.nd (fun x hx => by
    obtain ⟨p, hp, rfl⟩ := List.mem_map.1 hx
    exact (h.lf p hp).2.1)
  simpa using this
theorem DfAt.foot (h : DfAt w S lo d P n vs ws m sv L) (k : Nat) (hk : dfP d P sv L k) : lo ≤ k ∧ IsSt w k := by
  rcases hk with hk | rfl | hk | ⟨p, hp, rfl⟩
  · have := h.ok.foot h.st k hk
    exact ⟨Nat.le_trans h.loS this.1, this.2⟩
  · exact ⟨h.lod, _, _, _, h.head, by decide⟩
  · obtain ⟨h1, cs, h2⟩ := own_type h.own hk
    exact ⟨h1, _, _, _, h2, by decide⟩
  · obtain ⟨h1, h2, h3⟩ := h.lf p hp
    exact ⟨h1, _, _, _, h3, by decide⟩
theorem DfAt.keep (h : DfAt w S lo d P n vs ws m sv L) (hk : ∀ k, dfP d P sv L k → w'.heap[k]? = w.heap[k]?) : DfAt w' S lo d P n vs ws m sv L := by
  refine ⟨h.ok, h.ok.keep h.st (fun k hp => hk k (Or.inl hp)), (hk d (Or.inr (Or.inl rfl))).trans h.head, ownsRow_at h.own (fun g hg => hk g (Or.inr (Or.inr (Or.inl hg)))), fun p hp => ?_, h.nd, h.out, h.len, h.nn, h.apd, h.apo, h.apl, h.lod, h.loS⟩
  obtain ⟨h1, h2, h3⟩ := h.lf p hp
  exact ⟨h1, h2, (hk p.2 (Or.inr (Or.inr (Or.inr ⟨p, hp, rfl⟩)))).trans h3⟩
theorem DfAt.below (h : DfAt w S lo d P n vs ws m sv L) (hb : Below w.heap.size w w') : DfAt w' S lo d P n vs ws m sv L := h.keep (fun k hk => hb.block k (h.foot k hk).2.lt)
theorem DfAt.mono {m' : Nat} (h : DfAt w S lo d P n vs ws m sv L) (hm : m ≤ m') : DfAt w S lo d P n vs ws m' sv L := ⟨h.ok, h.ok.mono h.st hm, h.head, h.own, h.lf, h.nd, h.out, h.len, h.nn, h.apd, h.apo, h.apl, h.lod, h.loS⟩
theorem DfAt.row (h : DfAt w S lo d P n vs ws m sv L) {b q : Nat} (hq : (b, q) ∈ L) : w.heap[q]? = some (.cells (shRow b (urow (frameOf vs b)) (urow (frameOf ws b))) 243) ∧ b < n := by
  obtain ⟨h1, h2, h3⟩ := h.lf _ hq
  exact ⟨h3, h2⟩
/-- A leaf more. -/
theorem DfAt.grow (h : DfAt w S lo d P n vs ws m sv L) {w1 w4 w5 : World} {P' : Nat → Prop} {sv' : Value} {b q g cap : Nat} {R : Array Value} (hb : b < n) (hnot : b ∉ L.map (fun p => p.1)) (hst : S.At w1 P' n vs (m + 1)) (hP' : ∀ k, P' k → P k ∨ w.heap.size ≤ k)
    (hu1 : UpdP P w w1) (hq : q = w1.heap.size) (h4 : Below w1.heap.size w1 w4) (hs4 : w1.heap.size < w4.heap.size) (hq4 : w4.heap[q]? = some (.cells (shRow b R R) 243)) (hR : R = urow (frameOf vs b))
    (hsv : sv' = .slice (some ⟨g, 0, none⟩) (L.length + 1) cap) (hgrow : w4.grownBy w5 sv.ownBlock) (hat : sv.ownBlock = some g ∨ g = w4.heap.size) (hown5 : w5.ownsRow lo 240 1 sv' (L.length + 1) (L.map (fun p => ptr p.2) ++ [ptr q])) :
    DfAt (w5.setCell ⟨d, 1, none⟩ sv') S lo d P' n vs ws (m + 1) sv' (L ++ [(b, q)]) ∧ (∀ k, dfP d P' sv' (L ++ [(b, q)]) k → dfP d P sv L k ∨ w.heap.size ≤ k) ∧ UpdP (dfP d P sv L) w (w5.setCell ⟨d, 1, none⟩ sv') := by
  have hs1 := hu1.size
  have hdl := lt_of_heap h.head
  have hlen := h.ok.len h.st
  have hln : ∀ k, P' k → k < w1.heap.size := fun k hk => (h.ok.foot hst k hk).2.lt
  have hv : ∀ j, sv.ownBlock = some j → j < w.heap.size ∧ j ≠ d ∧ ¬ P j := by
    intro j hj
    obtain ⟨h1, cs, h2⟩ := own_type h.own hj
    refine ⟨lt_of_heap h2, fun e => ?_, h.apo j hj⟩
    have h3 := h.head
    rw [← e, h2] at h3
    simp only [Option.some.injEq, Obj.cells.injEq] at h3
    exact absurd h3.2.1 (by decide)
  have old1 : ∀ k, k < w1.heap.size → sv.ownBlock ≠ some k → w5.heap[k]? = w1.heap[k]? := fun k hk hn => (hgrow.block k (Nat.lt_of_lt_of_le hk h4.size) (fun e => hn e.symm)).trans (h4.block k hk)
  have old : ∀ k, k < w.heap.size → ¬ P k → sv.ownBlock ≠ some k → w5.heap[k]? = w.heap[k]? := fun k hk hB hn => (old1 k (by omega) hn).trans (hu1.block k hk hB)
  have hnP : ∀ k, k < w.heap.size → ¬ P k → ¬ P' k := fun k hk hn hp => (hP' k hp).elim hn (fun x => by omega)
  have hh5 : w5.heap[d]? = some (.cells #[sto S, sv, .int .i64 0] 173) := (old d hdl h.apd (fun e => (hv d e).2.1 rfl)).trans h.head
  have hq5 : w5.heap[q]? = some (.cells (shRow b R R) 243) := (hgrow.block q (lt_of_heap hq4) (fun e => by have := (hv q e.symm).1; omega)).trans hq4
  have hlf : ∀ p ∈ L, p.2 < w.heap.size ∧ p.2 ≠ d ∧ sv.ownBlock ≠ some p.2 := fun p hp => by
    obtain ⟨h1, h2, h3⟩ := h.lf p hp
    refine ⟨lt_of_heap h3, fun e => ?_, fun e => ?_⟩
    · have h5 := h.head
      rw [← e, h3] at h5
      simp only [Option.some.injEq, Obj.cells.injEq] at h5
      exact absurd h5.2.1 (by decide)
    · obtain ⟨_, cs, h5⟩ := own_type h.own e
      rw [h3] at h5
      simp only [Option.some.injEq, Obj.cells.injEq] at h5
      exact absurd h5.2.1 (by decide)
  have hg : sv'.ownBlock = some g := by rw [hsv]; rfl
  refine ⟨⟨h.ok, h.ok.keep hst (fun k hk => ?_), ?_, ?_, fun p hp => ?_, ?_, fun k hk hn => h.out k hk (fun e => hn (by simp [e])), h.len, h.nn, hnP d hdl h.apd, fun j hj => ?_, fun p hp => ?_, h.lod, h.loS⟩, fun k hk => ?_, ⟨?_, ?_, ?_, ?_, fun k hk hn => ?_⟩⟩
  · have hk1 := hln k hk
    have hkd : k ≠ d := fun e => hnP d hdl h.apd (by rw [← e]; exact hk)
    exact (Below.heap_setCell _ _ _ _ (show k ≠ d from hkd)).trans (old1 k hk1 (fun e => hnP k (hv k e).1 (hv k e).2.2 hk))
  · rw [setCell_eq_setRow w5 d 1 _ _ _ _ hh5, setRow_heap w5 d _ _ _ _ hh5]
    rfl
  · rw [List.length_append, List.map_append]
    refine ownsRow_at hown5 (fun j hj => Below.heap_setCell _ _ _ _ ?_)
    show j ≠ d
    intro e
    obtain ⟨_, cs, h2⟩ := own_type hown5 hj
    rw [e, hh5] at h2
    simp only [Option.some.injEq, Obj.cells.injEq] at h2
    exact absurd h2.2.1 (by decide)
  · rcases List.mem_append.1 hp with hp | hp
    · obtain ⟨h1, h2, h3⟩ := h.lf p hp
      obtain ⟨g1, g2, g3⟩ := hlf p hp
      refine ⟨h1, h2, ?_⟩
      rw [Below.heap_setCell _ _ _ _ (show p.2 ≠ d from g2), old p.2 g1 (h.apl p hp) g3]
      exact h3
    · simp only [List.mem_singleton] at hp
      subst hp
      refine ⟨by have := h.lod; show lo ≤ q; omega, hb, ?_⟩
      show (w5.setCell ⟨d, 1, none⟩ sv').heap[q]? = _
      rw [Below.heap_setCell _ _ _ _ (show q ≠ d by omega), hq5, h.out b hb hnot, ← hR]
  · rw [List.map_append, List.nodup_append]
    refine ⟨h.nd, by simp, fun x hx y hy e => ?_⟩
    simp only [List.map_cons, List.map_nil, List.mem_singleton] at hy
    subst hy
    subst e
    exact hnot hx
  · rw [hg] at hj
    have e : g = j := Option.some.inj hj
    subst e
    rcases hat with hat | hat
    · exact hnP g (hv g hat).1 (hv g hat).2.2
    · exact fun hp => by have := hln g hp; omega
  · rcases List.mem_append.1 hp with hp | hp
    · exact hnP _ (hlf p hp).1 (h.apl p hp)
    · simp only [List.mem_singleton] at hp
      subst hp
      exact fun hp => by have := hln q hp; omega
  · rcases hk with hk | rfl | hk | ⟨p, hp, rfl⟩
    · exact (hP' k hk).elim (fun x => Or.inl (Or.inl x)) Or.inr
    · exact Or.inl (Or.inr (Or.inl rfl))
    · rw [hg] at hk
      have e : g = k := Option.some.inj hk
      subst e
      rcases hat with hat | hat
      · exact Or.inl (Or.inr (Or.inr (Or.inl hat)))
      · exact Or.inr (by omega)
    · rcases List.mem_append.1 hp with hp | hp
      · exact Or.inl (Or.inr (Or.inr (Or.inr ⟨p, hp, rfl⟩)))
      · simp only [List.mem_singleton] at hp
        subst hp
        exact Or.inr (by show w.heap.size ≤ q; omega)
  · exact hgrow.os.trans (h4.os.trans hu1.os)
  · exact hgrow.tape.trans (h4.tape.trans hu1.tape)
  · exact hgrow.output.trans (h4.output.trans hu1.output)
  · have a1 := hgrow.size
    simp only [World.setCell, Array.size_modify]
    omega
  · rw [Below.heap_setCell _ _ _ _ (show k ≠ d from fun e => hn (Or.inr (Or.inl e)))]
    exact old k hk (fun x => hn (Or.inl x)) (fun x => hn (Or.inr (Or.inr (Or.inl x))))
/-- A leaf's words are laid anew. -/
theorem DfAt.put (h : DfAt w S lo d P n vs ws m sv L) {b q : Nat} (hq : (b, q) ∈ L) {us : List Int} (hl : us.length = 32)
    (hw : w.heap[q]? = some (.cells (shRow b (urow (frameOf vs b)) (urow (frameOf ws b))) 243) → w'.heap[q]? = some (.cells (shRow b (urow (frameOf vs b)) (urow us)) 243)) (hu : Upd q w w') :
    DfAt w' S lo d P n vs (splice ws (b * 32) us) m sv L ∧ UpdP (dfP d P sv L) w w' := by
  obtain ⟨hq1, hbn, hh⟩ := h.lf _ hq
  dsimp only at hq1 hbn hh
  have hqP := h.apl _ hq
  dsimp only at hqP
  have hqd : d ≠ q := by
    intro e
    have := h.head
    rw [e, hh] at this
    simp only [Option.some.injEq, Obj.cells.injEq] at this
    exact absurd this.2.1 (by decide)
  have hsl : (splice ws (b * 32) us).length = n * 32 := by rw [splice_length _ _ _ (by rw [h.len, hl]; omega), h.len]
  refine ⟨⟨h.ok, h.ok.keep h.st (fun k hk => hu.block k (h.ok.foot h.st k hk).2.lt (fun e => hqP (by rw [← e]; exact hk))), (hu.block _ (lt_of_heap h.head) hqd).trans h.head, ownsRow_at h.own (fun g hg => ?_), fun p hp => ?_, h.nd, fun k hk hn => ?_, hsl, h.nn, h.apd, h.apo, h.apl, h.lod, h.loS⟩, hu.p _ (Or.inr (Or.inr (Or.inr ⟨_, hq, rfl⟩)))⟩
  · obtain ⟨h1, cs, h2⟩ := own_type h.own hg
    refine hu.block _ (lt_of_heap h2) (fun e => ?_)
    rw [e, hh] at h2
    simp only [Option.some.injEq, Obj.cells.injEq] at h2
    exact absurd h2.2.1 (by decide)
  · obtain ⟨h1, h2, h4⟩ := h.lf p hp
    rw [frame_splice ws us n b p.1 h.len hbn h2 hl]
    by_cases e : p.2 = q
    · have e1 : p.1 = b := by
        rw [e, hh] at h4
        simp only [Option.some.injEq, Obj.cells.injEq] at h4
        have h5 := congrArg (fun z => z[0]?) h4.1
        simp only [shRow_0, Option.some.injEq, Value.int.injEq, true_and] at h5
        omega
      rw [if_pos e1]
      refine ⟨h1, h2, ?_⟩
      rw [e, e1]
      exact hw hh
    · have e1 : p.1 ≠ b := by
        intro e1
        exact e (by rw [nd_fst h.nd hp hq e1])
      rw [if_neg e1]
      exact ⟨h1, h2, (hu.block _ (lt_of_heap h4) e).trans h4⟩
  · rw [frame_splice ws us n b k h.len hbn hk hl, if_neg (fun e => hn (by rw [e]; exact List.mem_map.2 ⟨_, hq, rfl⟩))]
    exact h.out k hk hn
end
theorem shRow_old {k : Nat} {A C : Array Value} (hA : A.size = 32) {j : Nat} (hj : j < 32) : (shRow k A C)[1 + j]? = A[j]? := by
  unfold shRow
  rw [Array.getElem?_append_left (by simp [hA]; omega), Array.getElem?_append_right (by simp)]
  congr 1
  simp
theorem shRow_lay1 {k : Nat} {A C : Array Value} {R : List Value} (hA : A.size = 32) (hR : R.length = 32) : ((shRow k A C).toList.take 1 ++ R ++ (shRow k A C).toList.drop (1 + R.length)).toArray = shRow k R.toArray C := by
  apply Array.ext'
  unfold shRow
  simp only [Array.toList_append]
  rw [hR]
  have h1 : ([Value.int .i64 (k : Int)] ++ A.toList ++ C.toList).take 1 = [Value.int .i64 (k : Int)] := rfl
  have h2 : ([Value.int .i64 (k : Int)] ++ A.toList ++ C.toList).drop (1 + 32) = C.toList := by
    rw [List.drop_append_of_le_length (by simp [hA]), List.drop_eq_nil_of_le (by simp [hA])]
    rfl
  rw [h1, h2]
theorem shRow_lay2 {k : Nat} {A C : Array Value} {R : List Value} (hA : A.size = 32) (hC : C.size = 32) (hR : R.length = 32) : ((shRow k A C).toList.take 33 ++ R ++ (shRow k A C).toList.drop (33 + R.length)).toArray = shRow k A R.toArray := by
  apply Array.ext'
  unfold shRow
  simp only [Array.toList_append]
  rw [hR]
  have h1 : ([Value.int .i64 (k : Int)] ++ A.toList ++ C.toList).take 33 = [Value.int .i64 (k : Int)] ++ A.toList := by
    rw [List.take_append_of_le_length (by simp [hA]), List.take_of_length_le (by simp [hA])]
  have h2 : ([Value.int .i64 (k : Int)] ++ A.toList ++ C.toList).drop (33 + 32) = [] := by
    rw [List.drop_eq_nil_of_le (by simp [hA, hC])]
  rw [h1, h2, List.append_nil]
section
variable {w : World} {S : Sto} {n : Nat}
set_option maxHeartbeats 1000000 in
set_option maxRecDepth 100000 in
theorem dask_at {R : Ending → World → Prop} (hS : SOk S) (d b : Nat) (c0 : w.cell? ⟨d, 0, none⟩ = some (sto S)) (hg : Calls Tryz.prog S.gf #[S.x, .int .i64 (b : Int)] w fun e w' => ∃ v, e = .returned (.tuple #[v, .int .i64 0]) ∧ R (.returned (.tuple #[v, .int .i64 0])) w') :
    Calls Tryz.prog 386 #[ptr d, .int .i64 (b : Int)] w R := by
  have hme := hS.mget
  have hcf := hS.cget
  have hni := hS.nil
  obtain ⟨bb, hbb⟩ : ∃ x, x = S.x := ⟨_, rfl⟩
  obtain ⟨gf, hgf⟩ : ∃ x, x = S.gf := ⟨_, rfl⟩
  obtain ⟨ti, hti⟩ : ∃ x, x = S.t := ⟨_, rfl⟩
  unfold sto at hni c0
  rw [← hbb, ← hgf] at hg
  rw [← hbb, ← hgf, ← hti] at hme
  rw [← hgf] at hcf
  rw [← hbb, ← hti] at hni c0
  clear hbb hgf hti hS
  go_enter Tryz.func386, Tryz.ntmps386
  go_wp2_with fail
  refine hg.mono ?_
  rintro e w1 ⟨v, rfl, hR⟩
  go_wp2
  exact hR
end
end Go.Proofs.YtnlhedpfhgoncabGreatDoor
namespace Go.Proofs.YtnlhedpfhgoncabGreatDoor
open Go.RowKit
section
variable {w w' : World} {S : Sto} {lo d : Nat} {P : Nat → Prop} {n : Nat} {vs ws : List Int} {m : Nat} {sv : Value} {L : List (Nat × Nat)}
/-- What a call of a draft's leaves. -/
def Lft (w w' : World) (S : Sto) (lo d : Nat) (P : Nat → Prop) (n : Nat) (vs ws : List Int) (m : Nat) (sv : Value) (L : List (Nat × Nat)) (b q : Nat) : Prop :=
  ∃ P' sv' L', DfAt w' S lo d P' n vs ws m sv' L' ∧ (b, q) ∈ L' ∧ (∀ k, dfP d P' sv' L' k → dfP d P sv L k ∨ w.heap.size ≤ k) ∧ UpdP (dfP d P sv L) w w'
set_option maxHeartbeats 2000000 in
set_option maxRecDepth 100000 in
theorem leaf_at (h : DfAt w S lo d P n vs ws m sv L) (b : Nat) (hb : b < n) (hm : m ≤ 1000000000000) :
    Calls Tryz.prog 385 #[ptr d, .int .i64 b] w fun e w' => ∃ q, e = .returned (.tuple #[ptr q, .int .i64 0]) ∧ Lft w w' S lo d P n vs ws (m + 1) sv L b q := by
  have HH : Hid (DfAt w S lo d P n vs ws m sv L) := h
  obtain ⟨a, cap, rfl⟩ := own_slice h.own
  have c0 : w.cell? ⟨d, 0, none⟩ = some (sto S) := by rw [cell_of_heap h.head]; rfl
  have c1 : w.cell? ⟨d, 1, none⟩ = some (.slice a L.length cap) := by rw [cell_of_heap h.head]; rfl
  have c2 : w.cell? ⟨d, 2, none⟩ = some (.int .i64 0) := by rw [cell_of_heap h.head]; rfl
  have hle := h.few
  have hnn := h.nn
  have HS : Hid (∀ k, k < L.length → ∃ g q0 q, L[k]? = some (q0, q) ∧ a = some ⟨g, 0, none⟩ ∧ w.cell? ⟨g, k, none⟩ = some (ptr q) ∧ w.cell? ⟨q, 0, none⟩ = some (.int .i64 (q0 : Int))) := by
    intro k hk
    rcases h.own.2 with ⟨_, e⟩ | ⟨g, cap', cur, e2, hg, hh, hc, _, hcs, ht⟩
    · omega
    · simp only [Value.slice.injEq] at e2
      obtain ⟨e2, -, -⟩ := e2
      have hp := List.getElem?_eq_getElem hk
      obtain ⟨_, _, hq⟩ := h.lf _ (List.getElem_mem hk)
      refine ⟨g, L[k].1, L[k].2, hp, e2, ?_, by rw [cell_of_heap hq]; exact shRow_0 _ _ _⟩
      rw [cell_of_heap hh]
      have e1 : (cur.toList.take (L.length * 1))[k]? = (L.map (fun p => ptr p.2))[k]? := by rw [ht]
      rw [List.getElem?_take_of_lt (by omega), List.getElem?_map, hp] at e1
      simpa using e1
  obtain ⟨N, hN⟩ : ∃ N, N = L.length := ⟨_, rfl⟩
  have HN : Hid (N = L.length) := hN
  have HF : Hid (∀ k, P k → S.lo ≤ k ∧ IsSt w k) := h.ok.foot h.st
  have HGet : Hid (Calls Tryz.prog 386 #[ptr d, .int .i64 (b : Int)] w fun e w1 => ∃ gg gcap, e = .returned (.tuple #[.slice (some ⟨gg, 0, none⟩) 32 gcap, .int .i64 0]) ∧ URow w.heap.size w1 (.slice (some ⟨gg, 0, none⟩) 32 gcap) (frameOf vs b) ∧ ∃ P', S.At w1 P' n vs (m + 1) ∧ (∀ k, P' k → P k ∨ w.heap.size ≤ k) ∧ UpdP P w w1) := by
    refine dask_at h.ok d b c0 ((h.ok.get h.st b hb hm).mono ?_)
    rintro e w1 ⟨gg, gcap, rfl, h1, h2⟩
    exact ⟨_, rfl, gg, gcap, rfl, h1, h2⟩
  have HLn : Hid ((frameOf vs b).length = 32) := frameOf_length vs b n (h.ok.len h.st) hb
  rw [← hN] at c1 hle HS
  clear h hN
  go_enter Tryz.func385, Tryz.ntmps385
  go_wp2
  go_loopw [16] (fun s wr => ∃ (k : Nat), k ≤ N ∧ s = .int .i64 k ∧ wr = w ∧ Hid (∀ j p, j < k → L[j]? = some p → p.1 ≠ b)) (fun s _ => N - (intOf s).toNat)
  case atStart => exact ⟨0, by omega, rfl, rfl, fun j p hj => by omega⟩
  case round =>
    obtain ⟨k, hk, rfl, rfl, HA⟩ := hrel
    by_cases hlt : k < N
    · have hki : (k : Int) < (N : Int) := by omega
      obtain ⟨g, q0, q, hp, rfl, d0, d1⟩ := HS.out k hlt
      have HP : Hid (L[k]? = some (q0, q)) := hp
      clear hp
      by_cases hq : q0 = b
      · have hqb : ((q0 : Int) == (b : Int)) = true := by simp [hq]
        have HQ : Hid (q0 = b) := hq
        clear hq HA
        go_wp2
        go_ret2
        refine ⟨q, rfl, P, _, L, HH.out.mono (by omega), ?_, fun k hk => Or.inl hk, UpdP.refl _ _⟩
        rw [← HQ.out]
        exact List.mem_of_getElem? HP.out
      · have hqb : ((q0 : Int) == (b : Int)) = false := by simp; omega
        have HQ : Hid (q0 ≠ b) := hq
        clear hq
        go_wp2
        go_roundw
        case rel =>
          refine ⟨k + 1, by omega, by go_num, by trivial, fun j p hj hp => ?_⟩
          by_cases e : j = k
          · subst e
            have := HP.out
            rw [this] at hp
            cases hp
            exact HQ.out
          · exact HA.out j p (by omega) hp
        case measure => simp [intOf]; omega
    · obtain rfl : k = N := by omega
      have hnot : b ∉ L.map (fun p => p.1) := by
        intro hm
        obtain ⟨p, hp, e⟩ := List.mem_map.1 hm
        obtain ⟨j, hj, ep⟩ := List.getElem_of_mem hp
        exact HA.out j p (by have := HN.out; omega) (by rw [List.getElem?_eq_getElem hj, ep]) e
      have HNot : Hid (b ∉ L.map (fun p => p.1)) := hnot
      have hg := HGet.out
      have hdl : d < wr.heap.size := lt_of_heap HH.out.head
      obtain ⟨R, hR⟩ : ∃ R, R = urow (frameOf vs b) := ⟨_, rfl⟩
      have HRq : Hid (R = urow (frameOf vs b)) := hR
      have HRs : Hid (R.size = 32) := by show _ = _; rw [hR, urow_size]; exact HLn.out
      have HRo : Hid (R.all (·.oneCell') = true) := by show _ = _; rw [hR]; exact urow_one _
      obtain ⟨X0, hX0⟩ : ∃ X, X = shRow b zc zc := ⟨_, rfl⟩
      obtain ⟨X1, hX1⟩ : ∃ X, X = shRow b R zc := ⟨_, rfl⟩
      have HX0 : Hid (X0 = shRow b zc zc) := hX0
      have HX1 : Hid (X1 = shRow b R zc) := hX1
      obtain ⟨i0, hi0, hzz⟩ := Option.map_eq_some_iff.1 leafInfo
      simp only [Prod.mk.injEq] at hzz
      obtain ⟨hz0, hz1, hz2⟩ := hzz
      clear hR hX0 hX1 hnot HA HS HGet
      go_wp2_with fail
      refine hg.mono ?_
      rintro e w1 ⟨gg, gcap, rfl, hr1, P', hst, hP', hu1⟩
      obtain ⟨ga, gc, e, -, -, hf⟩ := hr1
      obtain ⟨g', cur, e2, -, hh, hcell⟩ := hf (by intro e; have := HLn.out; rw [e] at this; simp at this)
      rw [HLn.out] at e
      simp only [Value.slice.injEq] at e
      obtain ⟨e3, -, -⟩ := e
      rw [e2] at e3
      simp only [Option.some.injEq, Addr.mk.injEq] at e3
      have e4 : gg = g' := e3.1
      subst e4
      obtain ⟨q, hq⟩ : ∃ q, q = w1.heap.size := ⟨_, rfl⟩
      have Hq : Hid (q = w1.heap.size) := hq
      have HSt : Hid (S.At w1 P' n vs (m + 1) ∧ (∀ k, P' k → P k ∨ wr.heap.size ≤ k) ∧ UpdP P wr w1) := ⟨hst, hP', hu1⟩
      have hcp : ∀ ty c1 c2, (Builtin.copy_ #[46, 46] ty #[.slice (some ⟨w1.heap.size, 1, none⟩) 32 c1, .slice (some ⟨gg, 0, none⟩) 32 c2]).run Tryz.prog (w1.alloc (.cells X0 243)) = .ok (goInt 32) (w1.alloc (.cells X1 243)) := fun ty c1 c2 => by
        have hl : (uvs (frameOf vs b)).length = 32 := by rw [uvs_len, HLn.out]
        have hr := run_copy_row Tryz.prog (w1.alloc (.cells X0 243)) 46 46 ty 40 w1.heap.size 1 32 c1 ⟨gg, 0, none⟩ 32 c2 X0 243 (uvs (frameOf vs b)) Tryz.underlying46 (by kernel_rfl) (heap_alloc_new _ _)
          (by rw [hl]; rfl)
          (fun j v hv => by
            obtain ⟨x, hx, rfl⟩ := uvs_get hv
            rw [add0, Nat.zero_add, (below_alloc w1 _).cell (show gg < _ from lt_of_heap hh), cell_of_heap hh]
            exact hcell j x hx)
          (by rw [hl, HX0.out, shRow_size zc_size zc_size]; omega) (uvs_one _)
        rw [hr, HX0.out, shRow_lay1 zc_size hl, setRow_alloc_new, hl, HX1.out, HRq.out]
        rfl
      have HX1s : Hid (X1.size = 65) := by rw [HX1.out]; exact shRow_size HRs.out zc_size
      have hrg : (w1.alloc (.cells X1 243)).rangeAt w1.heap.size 1 R.toList := fun j v hv => by
        rw [cell_of_heap (heap_alloc_new _ _), HX1.out, shRow_old HRs.out (by have := (List.getElem?_eq_some_iff.1 hv).1; rw [Array.length_toList, HRs.out] at this; exact this)]
        simpa using hv
      have hth : (w1.alloc (.cells X1 243)).there w1.heap.size 33 R.size := fun j hj => by
        rw [HRs.out] at hj
        refine ⟨?_, frozen_of_heap (heap_alloc_new _ _)⟩
        rw [cell_of_heap (heap_alloc_new _ _), Array.getElem?_eq_getElem (by rw [HX1s.out]; omega)]
        rfl
      obtain ⟨W4, hW4⟩ : ∃ W, W = (w1.alloc (.cells X1 243)).setCells w1.heap.size 33 R.toList := ⟨_, rfl⟩
      obtain ⟨k1, k2⟩ := setCells_heap w1.heap.size R.toList 33 (w1.alloc (.cells X1 243)) X1 243 (heap_alloc_new _ _)
      rw [← hW4] at k1 k2
      have HQ4 : Hid (W4.heap[q]? = some (.cells (shRow b R R) 243)) := by
        rw [hq, k1, HX1.out, setL_sheet HRs.out zc_size HRs.out]
        rfl
      have HB4 : Hid (Below w1.heap.size w1 W4) := (below_alloc w1 _).trans (k2.below (Nat.le_refl _) (by simp))
      have HS4 : Hid (w1.heap.size < W4.heap.size) := by have := k2.size; simp at this; show _ < _; omega
      have HW4 : Hid _ := hW4
      have hl1 : wr.heap.size ≤ w1.heap.size := hu1.size
      have hh4 : W4.heap[d]? = some (.cells #[sto S, .slice a k cap, .int .i64 0] 173) := by
        rw [HB4.out.block d (by omega), hu1.block d hdl HH.out.apd, HH.out.head, HN.out]
      have c1' : W4.cell? ⟨d, 1, none⟩ = some (.slice a k cap) := by rw [cell_of_heap hh4]; rfl
      have hown4 : W4.ownsRow lo 240 1 (.slice a k cap) k (L.map (fun p => ptr p.2)) := by
        have ho := HH.out.own
        rw [← HN.out] at ho
        exact ownsRow_at ho (fun g hg => by
          obtain ⟨_, cs, h2⟩ := own_type ho hg
          have := lt_of_heap h2
          rw [HB4.out.block g (by omega), hu1.block g this (HH.out.apo g (by rw [← HN.out]; exact hg))])
      have HO4 : Hid _ := hown4
      have hne : (Value.slice a k cap).ownBlock ≠ some d := by
        intro e
        obtain ⟨_, cs, h2⟩ := own_type hown4 e
        rw [hh4] at h2
        simp only [Option.some.injEq, Obj.cells.injEq] at h2
        exact absurd h2.2.1 (by decide)
      have HNE : Hid ((Value.slice a k cap).ownBlock ≠ some d) := hne
      have hlo4 : lo ≤ W4.heap.size := by have := HH.out.lod; have := HS4.out; omega
      have hd4 : d < W4.heap.size := by have := HS4.out; omega
      have HFZ : Hid ((W4.alloc (.cells #[ptr w1.heap.size] 240)).heap[d]? = some (.cells #[sto S, .slice a k cap, .int .i64 0] 173)) := by
        show _ = _
        rw [Below.heap_alloc _ _ _ hd4, hh4]
      clear hg hst hP' hu1 hf hh hcell e2 e3 c0 c1 c2 hown4 hne hW4 k1 k2 hh4 hq
      go_wp2_with (first
        | (refine wpList_build_eq rfl 243 _ rfl X0 (by rw [HX0.out, ← leaf_built]; go_simp) ?_)
        | (refine wpList_load_mid rfl 241 _ rfl w1.heap.size 1 rfl R.toList _ hrg Tryz.underlying241 rfl (by rw [Array.length_toList, HRs.out]; exact arrSize) ?_)
        | (refine wpList_store_mid rfl 241 _ _ rfl w1.heap.size 33 R rfl rfl hth (by rw [HRs.out]; exact arrSize) HRo.out ?_; rw [← HW4.out]; clear hcp hrg hth)
        | (at_builtin; go_loud (refine wpList_append_lies _ rfl _ _ _ rfl lo 240 i0 _ 1 8 Tryz.underlying171 hi0 hz0 hz1 hz2 rfl (by omega) (.slice a k cap) k (L.map (fun p => ptr p.2)) rfl (World.ownsRow.alloc HO4.out _) ⟨W4.heap.size, 0, none⟩ 1 1 [ptr w1.heap.size] rfl rfl (World.news_of_block (cs := #[ptr w1.heap.size]) (t := 240) (fr := (0, 0)) (heap_alloc_new W4 _)) (by simp [Value.oneCell']) (by omega) (by unfold maxLen; omega) (by omega) (by simp; omega) _ rfl ?_; intro gg' cap2 w5 hown5 hgrow hat hlt5; have h5 := (hgrow.block d (by simp; omega) (Ne.symm HNE.out)).trans HFZ.out; have hcw : w5.cell? ⟨d, 1, none⟩ = some (.slice a k cap) := (by rw [cell_of_heap h5]; rfl); have hfw : w5.frozen? ⟨d, 1, none⟩ = false := frozen_of_heap h5; clear h5))
        | go_in)
      go_ret2
      obtain ⟨r1, r2, r3⟩ := HH.out.grow (q := q) (sv' := .slice (some ⟨gg', 0, none⟩) (k + 1) cap2) hb HNot.out HSt.out.1 HSt.out.2.1 HSt.out.2.2 Hq.out (w4 := W4.alloc (.cells #[ptr w1.heap.size] 240)) (HB4.out.trans ((below_alloc W4 _).mono (by have := HS4.out; omega))) (by have := HS4.out; simp; omega) ((Below.heap_alloc _ _ _ (by rw [Hq.out]; exact HS4.out)).trans HQ4.out) HRq.out (by rw [HN.out]) (by rw [← HN.out]; exact hgrow) (by rw [← HN.out]; exact hat) (by rw [← HN.out, Hq.out]; exact hown5)
      exact ⟨q, by rw [Hq.out]; rfl, P', _, _, r1, by simp, r2, r3⟩
end
end Go.Proofs.YtnlhedpfhgoncabGreatDoor
namespace Go.Proofs.YtnlhedpfhgoncabGreatDoor
open Go.RowKit
/-- A draft over a store whose words are vs, as a store. -/
def dft (S : Sto) (lo d : Nat) (vs : List Int) : Sto := ⟨170, ptr d, 383, 384, lo, fun w P n ws m => ∃ P0 sv L, DfAt w S lo d P0 n vs ws m sv L ∧ P = dfP d P0 sv L⟩
section
variable {w w' : World} {S : Sto} {lo d : Nat} {P : Nat → Prop} {n : Nat} {vs ws : List Int} {m : Nat} {sv : Value} {L : List (Nat × Nat)}
set_option maxHeartbeats 1000000 in
set_option maxRecDepth 100000 in
theorem dget_at (h : DfAt w S lo d P n vs ws m sv L) (b : Nat) (hb : b < n) (hm : m ≤ 1000000000000) :
    Calls Tryz.prog 383 #[ptr d, .int .i64 b] w fun e w' => ∃ gg cap, e = .returned (.tuple #[.slice (some ⟨gg, 0, none⟩) 32 cap, .int .i64 0]) ∧ URow w.heap.size w' (.slice (some ⟨gg, 0, none⟩) 32 cap) (frameOf ws b) ∧
      ∃ P' sv' L', DfAt w' S lo d P' n vs ws (m + 1) sv' L' ∧ (∀ k, dfP d P' sv' L' k → dfP d P sv L k ∨ w.heap.size ≤ k) ∧ UpdP (dfP d P sv L) w w' := by
  have hL := leaf_at h b hb hm
  have HLn : Hid ((frameOf ws b).length = 32) := frameOf_length ws b n h.len hb
  have HLv : Hid ((frameOf vs b).length = 32) := frameOf_length vs b n (h.ok.len h.st) hb
  clear h
  go_enter Tryz.func383, Tryz.ntmps383
  go_wp2_with fail
  refine hL.mono ?_
  rintro e w1 ⟨q, rfl, P', sv', L', h1, h2, h3, h4⟩
  have hrow := (h1.row h2).1
  have hC := Di.clone_at q 33 32 32 (frameOf ws b) w1 HLn.out (by omega) (by omega) (fun j x hx => by
    have hj : j < (frameOf ws b).length := (List.getElem?_eq_some_iff.1 hx).1
    rw [cell_of_heap hrow, shRow_now (by rw [urow_size]; exact HLv.out), urow_get _ _ hj, List.getD_eq_getElem?_getD, hx]
    rfl)
  have H1 : Hid (DfAt w1 S lo d P' n vs ws (m + 1) sv' L' ∧ (∀ k, dfP d P' sv' L' k → dfP d P sv L k ∨ w.heap.size ≤ k) ∧ UpdP (dfP d P sv L) w w1) := ⟨h1, h3, h4⟩
  clear hL h1 h2 h3 h4 hrow
  go_wp2_with fail
  refine hC.mono ?_
  rintro e w2 ⟨gg, cap, rfl, hown, hb2⟩
  have hur := urow_of_own (zs := frameOf ws b) (by rw [HLn.out]; exact hown)
  have HU : Hid (URow w.heap.size w2 (.slice (some ⟨gg, 0, none⟩) 32 cap) (frameOf ws b)) := hur.mono H1.out.2.2.size
  have HB2 : Hid (Below w1.heap.size w1 w2) := hb2
  clear hC hown hur hb2
  go_wp2
  go_ret2
  exact ⟨gg, cap, rfl, HU.out, P', sv', L', H1.out.1.below HB2.out, H1.out.2.1, H1.out.2.2.trans (UpdP.of_below HB2.out)⟩
set_option maxHeartbeats 1000000 in
set_option maxRecDepth 100000 in
theorem dfput_at (h : DfAt w S lo d P n vs ws m sv L) (b : Nat) (hb : b < n) (hm : m ≤ 1000000000000) (p : Nat) (us : List Int) (cap : Nat) (hp : ¬ IsSt w p) (hl : us.length = 32) (hw : ∀ (j : Nat) (x : Int), us[j]? = some x → w.cell? ⟨p, j, none⟩ = some (.int .u64 x)) :
    Calls Tryz.prog 384 #[ptr d, .int .i64 b, .slice (some ⟨p, 0, none⟩) 32 cap] w fun e w' => e = .returned (.int .i64 0) ∧
      ∃ P' sv' L', DfAt w' S lo d P' n vs (splice ws (b * 32) us) (m + 1) sv' L' ∧ (∀ k, dfP d P' sv' L' k → dfP d P sv L k ∨ w.heap.size ≤ k) ∧ UpdP (dfP d P sv L) w w' := by
  have hL := leaf_at h b hb hm
  have HF : Hid (∀ k, dfP d P sv L k → IsSt w k) := fun k hk => (h.foot k hk).2
  have HLn : Hid ((frameOf ws b).length = 32) := frameOf_length ws b n h.len hb
  have HLv : Hid ((frameOf vs b).length = 32) := frameOf_length vs b n (h.ok.len h.st) hb
  have HW : Hid (∀ (j : Nat) (x : Int), us[j]? = some x → w.cell? ⟨p, j, none⟩ = some (.int .u64 x)) := hw
  have HP : Hid (¬ IsSt w p) := hp
  have HL : Hid (us.length = 32) := hl
  clear h hw hp hl
  go_enter Tryz.func384, Tryz.ntmps384
  go_wp2_with fail
  refine hL.mono ?_
  rintro e w1 ⟨q, rfl, P', sv', L', h1, h2, h3, h4⟩
  have hrow := (h1.row h2).1
  obtain ⟨X, hX⟩ : ∃ X, X = shRow b (urow (frameOf vs b)) (urow us) := ⟨_, rfl⟩
  have hcp : ∀ ty c1 c2, (Builtin.copy_ #[46, 46] ty #[.slice (some ⟨q, 33, none⟩) 32 c1, .slice (some ⟨p, 0, none⟩) 32 c2]).run Tryz.prog w1 = .ok (goInt 32) (w1.setRow q X) := fun ty c1 c2 => by
    have hlu : (uvs us).length = 32 := by rw [uvs_len, HL.out]
    have hA : (urow (frameOf vs b)).size = 32 := by rw [urow_size]; exact HLv.out
    have hB : (urow (frameOf ws b)).size = 32 := by rw [urow_size]; exact HLn.out
    have hr := run_copy_row Tryz.prog w1 46 46 ty 40 q 33 32 c1 ⟨p, 0, none⟩ 32 c2 (shRow b (urow (frameOf vs b)) (urow (frameOf ws b))) 243 (uvs us) Tryz.underlying46 (by kernel_rfl) hrow
      (by rw [hlu]; rfl)
      (fun j v hv => by
        obtain ⟨x, hx, rfl⟩ := uvs_get hv
        rw [add0, Nat.zero_add]
        have hc := HW.out j x hx
        rw [World.cell?_of_block (h4.block p (cell_lt hc) (fun e => HP.out (HF.out p e)))]
        exact hc)
      (by rw [hlu, shRow_size hA hB]; omega) (uvs_one _)
    rw [hr, shRow_lay2 hA hB hlu, hlu, hX]
    rfl
  obtain ⟨r1, r2⟩ := h1.put h2 HL.out (w' := w1.setRow q X) (fun hh => by rw [setRow_heap w1 q _ _ _ _ hh, hX]) (Upd.setRow q w1 X)
  have H1 : Hid (DfAt (w1.setRow q X) S lo d P' n vs (splice ws (b * 32) us) (m + 1) sv' L' ∧ (∀ k, dfP d P' sv' L' k → dfP d P sv L k ∨ w.heap.size ≤ k) ∧ UpdP (dfP d P sv L) w (w1.setRow q X)) := by
    refine ⟨r1, h3, ⟨r2.os.trans h4.os, r2.tape.trans h4.tape, r2.output.trans h4.output, Nat.le_trans h4.size r2.size, fun k hk hn => ?_⟩⟩
    rw [r2.block k (Nat.lt_of_lt_of_le hk h4.size) (fun x => (h3 k x).elim hn (fun y => by omega))]
    exact h4.block k hk hn
  clear hL h1 h2 h3 h4 hrow r1 r2 hX
  go_wp2
  go_ret
  exact ⟨rfl, P', sv', L', H1.out⟩
end
theorem dft_ok (S : Sto) (lo d : Nat) (vs : List Int) : SOk (dft S lo d vs) where
  mget W := by show (method 591 170 (ptr d) "Get").run Tryz.prog W = .ok (383, ptr d) W; kernel_rfl
  mput W := by show (method 591 170 (ptr d) "Put").run Tryz.prog W = .ok (384, ptr d) W; kernel_rfl
  aput W := by show (nilAhead 591 170 (ptr d) "Put").run Tryz.prog W = .ok (some false) W; kernel_rfl
  cget args W := by show (callFunc 383 args).run Tryz.prog W = .ok (.enter 383 args) W; kernel_rfl
  cput args W := by show (callFunc 384 args).run Tryz.prog W = .ok (.enter 384 args) W; kernel_rfl
  nil W := by show (binOp BinOp.eql 63 (.iface 170 (ptr d)) .nilIface).run Tryz.prog W = .ok (.bool false) W; kernel_rfl
  keep := fun ⟨P0, sv, L, h, hP⟩ hk => ⟨P0, sv, L, h.keep (fun k hp => hk k (by rw [hP]; exact hp)), hP⟩
  foot := fun ⟨P0, sv, L, h, hP⟩ k hk => h.foot k (by rw [← hP]; exact hk)
  len := fun ⟨_, _, _, h, _⟩ => h.len
  mono := fun ⟨P0, sv, L, h, hP⟩ hm => ⟨P0, sv, L, h.mono hm, hP⟩
  low := fun ⟨_, _, _, h, _⟩ => by have := lt_of_heap h.head; have := h.lod; show lo ≤ _; omega
  get := fun {w P n ws m} ⟨P0, sv, L, h, hP⟩ b hb hm => by
    subst hP
    refine (dget_at h b hb hm).mono ?_
    rintro e w1 ⟨gg, cap, rfl, hr, P', sv', L', h1, h2, h3⟩
    exact ⟨gg, cap, rfl, hr, _, ⟨P', sv', L', h1, rfl⟩, h2, h3⟩
  put := fun {w P n ws m} ⟨P0, sv, L, h, hP⟩ b hb hm p us cap hp hl hw => by
    subst hP
    refine (dfput_at h b hb hm p us cap hp hl hw).mono ?_
    rintro e w1 ⟨rfl, P', sv', L', h1, h2, h3⟩
    exact ⟨rfl, _, ⟨P', sv', L', h1, rfl⟩, h2, h3⟩
/-- A new draft over a store. -/
theorem dft_new {w : World} {S : Sto} {n : Nat} {vs : List Int} {m : Nat} (h : Dk w S n vs m) (hn : n ≤ 1024) : Dk (w.alloc (.cells #[sto S, .slice none 0 0, .int .i64 0] 173)) (dft S S.lo w.heap.size vs) n vs m := by
  obtain ⟨hk, P, hat⟩ := h
  have hb := below_alloc w (.cells #[sto S, .slice none 0 0, .int .i64 0] 173)
  refine ⟨dft_ok _ _ _ _, _, P, _, [], ⟨hk, hk.keep hat (fun k hp => hb.block k (hk.foot hat k hp).2.lt), heap_alloc_new _ _, World.ownsRow_nil _ _ _ _, fun p hp => (by cases hp), List.nodup_nil, fun k _ _ => rfl, hk.len hat, hn, fun hp => ?_, fun g hg => ?_, fun p hp => (by cases hp), hk.low hat, Nat.le_refl _⟩, rfl⟩
  · have := (hk.foot hat _ hp).2.lt
    omega
  · simp [Value.ownBlock] at hg
/-- What is beneath a draft. -/
theorem dft_under {w : World} {S : Sto} {lo d n : Nat} {vs ws : List Int} {m : Nat} (h : Dk w (dft S lo d vs) n ws m) : Dk w S n vs m := by
  obtain ⟨-, P, P0, sv, L, h, -⟩ := h
  exact ⟨h.ok, P0, h.st⟩
end Go.Proofs.YtnlhedpfhgoncabGreatDoor
