import Derived.Test.YtinaeifpoljfoaaGreatDoorInoATInoE
set_option linter.all false
set_option maxRecDepth 100000
set_option maxHeartbeats 16000000
namespace Go.Proofs.YtinaeifpoljfoaaGreatDoor
open Go.RowKit
theorem cont_arr : Tryz.prog.underlying 296 = some (.array (Tryz.prog.arrayLen 296) (Tryz.prog.elem 296)) := by kernel_rfl
theorem cont_n : Tryz.prog.arrayLen 296 = 32 := by kernel_rfl
theorem cont_e (W : World) : (sizeOf (Tryz.prog.elem 296)).run Tryz.prog W = .ok 1 W := by kernel_rfl
theorem cont_l (q o : Nat) (l : Nat) (h3 : l < 32) (W : World) : (Instr.sliceAt 296 (.pointer (some ⟨q, o, none⟩)) (some (.int .i64 (l : Int))) none none).run Tryz.prog W = .ok (.slice (some ⟨q, o + l, none⟩) (32 - l) (32 - l)) W := by
 rw [run_sliceAt_array_l W _ _ cont_arr .i64 l (by omega) (by rw [cont_n]; omega), cont_e]
 show Result.ok (slicedAt _ _ _ _ _) W = _
 unfold slicedAt;rw [cont_n, Int.toNat_natCast, if_neg (by omega), add0, Nat.mul_one]
def hdW (n : Nat) (iw bw : List Nat) : List Int := FS.head ⟨n, iw, bw, fun _ => Ino.no⟩
theorem hdW_len {n : Nat} {iw bw : List Nat} (hi : iw.length = 1) (hb : bw.length ≤ 29) : (hdW n iw bw).length = 32 := by
 simp [hdW, FS.head];omega
theorem one_word {iw : List Nat} (h : Bi.Wf 32 iw) : ∃ x, iw = [x] := by
 have h1 : iw.length = 1 := h.len
 match hq : iw, h1 with
 | [x], _ => exact ⟨x, rfl⟩
theorem hdW_splice (n x : Nat) {bw : List Nat} (hb : bw.length ≤ 29) :
  splice (splice (318923232595 :: (n : Int) :: List.replicate 30 0) 2 ([x].map (fun x : Nat => (x : Int)))) 3 (bw.map (fun x : Nat => (x : Int))) = hdW n [x] bw := by
 have e : splice (318923232595 :: (n : Int) :: List.replicate 30 0) 2 ([x].map (fun x : Nat => (x : Int))) = 318923232595 :: (n : Int) :: (x : Int) :: List.replicate 29 0 := rfl;rw [e];unfold splice hdW FS.head;simp only [List.length_map];rw [show 3 + bw.length = bw.length + 1 + 1 + 1 by omega];simp only [List.drop_succ_cons, List.drop_replicate]
 rfl
structure Bms (w : World) (M hi gi hb gb n : Nat) (iw bw : List Nat) : Prop where
 bi : Bi.BmAt w hi gi 32 iw
 bb : Bi.BmAt w hb gb n bw
 lo : M ≤ hi ∧ M ≤ gi ∧ M ≤ hb ∧ M ≤ gb
 ne : gi ≠ gb
def BmsE (w : World) (M hi hb n : Nat) (iw bw : List Nat) : Prop := ∃ gi gb, Bms w M hi gi hb gb n iw bw
section
variable {w w' : World} {M hi gi hb gb n : Nat} {iw bw : List Nat}
theorem Bms.mono {M' : Nat} (h : Bms w M hi gi hb gb n iw bw) (hM : M' ≤ M) : Bms w M' hi gi hb gb n iw bw := ⟨h.bi, h.bb, by have := h.lo; omega, h.ne⟩
theorem Bms.below (h : Bms w M hi gi hb gb n iw bw) (k : Below w.heap.size w w') : Bms w' M hi gi hb gb n iw bw := ⟨h.bi.below k, h.bb.below k, h.lo, h.ne⟩
theorem Bms.dt {base : Nat} {B : Sto} (h : Bms w M hi gi hb gb n iw bw) (k : DT base B w w') : Bms w' M hi gi hb gb n iw bw := ⟨k.bm h.bi, k.bm h.bb, h.lo, h.ne⟩
theorem Bms.other {g : Nat} (h : Bms w M hi gi hb gb n iw bw) (hu : Upd g w w') (hg : ∀ cs, w.heap[g]? ≠ some (.cells cs 408 (0, 0)) ∧ w.heap[g]? ≠ some (.cells cs 45 (0, 0))) : Bms w' M hi gi hb gb n iw bw := by
 refine ⟨h.bi.keep (hu.block _ h.bi.ltb ?_) (hu.block _ h.bi.ltg ?_), h.bb.keep (hu.block _ h.bb.ltb ?_) (hu.block _ h.bb.ltg ?_), h.lo, h.ne⟩
 ·rintro rfl; exact (hg _).1 h.bi.head
 ·rintro rfl; exact (hg _).2 h.bi.row
 ·rintro rfl; exact (hg _).1 h.bb.head
 ·rintro rfl; exact (hg _).2 h.bb.row
end
section
variable {w w' : World} {base bd n m : Nat} {B : Sto} {vs ws : List Int} {iw bw : List Nat}
end
def ints (ws : List Nat) : List Int := ws.map (fun x : Nat => (x : Int))
theorem ints_len (ws : List Nat) : (ints ws).length = ws.length := by simp [ints]
theorem copy_part {w : World} {g : Nat} {t : TypeId} {us : List Int} {ws : List Nat} (h : w.heap[g]? = some (.cells (urow us) t)) (hu : us.length = 32) (o d c1 : Nat) (hd : o + d = 32) (hk : ws.length ≤ d) (p po c2 : Nat)
  (hw : ∀ (j x : Nat), ws[j]? = some x → w.cell? ⟨p, po + j, none⟩ = some (.int .u64 ((x : Nat) : Int))) (ty : TypeId) :
  (Builtin.copy_ #[22, 22] ty #[.slice (some ⟨g, o, none⟩) d c1, .slice (some ⟨p, po, none⟩) ws.length c2]).run Tryz.prog w = .ok (goInt ws.length) (w.setRow g (urow (splice us o (ints ws)))) := by
 have hr := run_copy_row Tryz.prog w 22 22 ty 45 g o d c1 ⟨p, po, none⟩ ws.length c2 (urow us) t (uvs (ints ws)) Tryz.underlying22 (by kernel_rfl) h
  (by rw [uvs_len, ints_len]; exact (Nat.min_eq_left hk).symm)
  (fun j v hv => by
    obtain ⟨x, hx, rfl⟩ := uvs_get hv;simp only [ints, List.getElem?_map, Option.map_eq_some_iff] at hx;obtain ⟨y, hy, rfl⟩ := hx;rw [add0]
    exact hw j y hy)
  (by simp [uvs_len, ints_len, urow_size, hu]; omega) (uvs_one _)
 rw [hr, urow_splice us o (ints ws) (uvs (ints ws)) rfl (by rw [ints_len, hu]; omega)];rw [uvs_len, ints_len]
section
variable {w w' : World} {M hi gi hb gb n : Nat} {iw bw : List Nat}
theorem head_built (n : Nat) : Tryz.prog.built 296 [(0, .int .u64 318923232595), (1, .int .u64 (n : Int))] = some (urow (318923232595 :: (n : Int) :: List.replicate 30 0)) := by kernel_rfl
theorem hwords_at (h : Bms w M hi gi hb gb n iw bw) :
  Calls Tryz.prog 229 #[.agg #[ptr hi, ptr hb]] w fun e w' => e = .returned (.agg (urow (hdW n iw bw))) ∧ Below w.heap.size w w' := by
 have hle := h.bb.le;have hpos := h.bb.pos;obtain ⟨x, hx⟩ := one_word h.bi.wf;subst hx;have hz := lit_zc;have HBl : Hid (bw.length = (n + 63) / 64) := h.bb.wf.len;obtain ⟨U0, hU0⟩ : ∃ U, U = (318923232595 :: (n : Int) :: List.replicate 30 0) := ⟨_, rfl⟩
 have HU0 : Hid (U0.length = 32) := by rw [hU0]; rfl
 have HUb := head_built n;rw [← hU0] at HUb;have HUB : Hid _ := HUb;obtain ⟨R0, hR0⟩ : ∃ R, R = urow U0 := ⟨_, rfl⟩;rw [← hR0] at HUB
 have HRs : Hid (R0.size = 32) := by rw [hR0]; show _ = _; rw [urow_size]; exact HU0.out
 have HRo : Hid (R0.all (·.oneCell') = true) := by rw [hR0]; exact urow_one _
 have HRq := hid hR0;have HUq := hid hU0;obtain ⟨W1, hW1⟩ : ∃ W, W = (w.alloc (.cells #[ptr hi, ptr hb] 302)).alloc (.cells zc 296) := ⟨_, rfl⟩
 have hb1 : Below w.heap.size w W1 := by rw [hW1]; exact (below_alloc w _).trans ((below_alloc _ _).mono (by simp))
 have hL := Bi.len_at hb gb n bw W1 (h.bb.below hb1)
 have hs1 : W1.heap.size = w.heap.size + 1 + 1 := by rw [hW1]; simp
 have hp0 : W1.heap[w.heap.size]? = some (.cells #[ptr hi, ptr hb] 302) := by rw [hW1]; exact heap_alloc2_old w _ _
 have hp1 : W1.heap[w.heap.size + 1]? = some (.cells zc 296) := by rw [hW1]; exact heap_alloc2_new w _ _
 have HH := hid h;have HB1 := hid hb1;have HS1 := hid hs1;have HP0 : Hid _ := hp0;have HP1 : Hid _ := hp1;have HW1 : Hid _ := hW1;clear h hU0 HUb hR0 hW1 hb1 hs1 hp1
 go_enter Tryz.func229, Tryz.ntmps229
 go_wp2_with fail
 rw [← HW1.out];refine hL.mono ?_;rintro e w0 ⟨rfl, hw⟩;rw [hw];clear hw w0 hL;obtain ⟨W2, hW2⟩ : ∃ W, W = W1.alloc (.cells R0 296) := ⟨_, rfl⟩
 have hb2 : Below W1.heap.size W1 W2 := by rw [hW2]; exact below_alloc _ _
 have HB2 : Hid (Below w.heap.size w W2) := HB1.out.trans (hb2.mono HB1.out.size);have hq0 : W2.heap[w.heap.size]? = some (.cells #[ptr hi, ptr hb] 302) := (hb2.block _ (by rw [HS1.out]; omega)).trans HP0.out;have HQ0 : Hid _ := hq0;have HQ1 : Hid (W2.heap[w.heap.size + 1]? = some (.cells zc 296)) := (hb2.block _ (by rw [HS1.out]; omega)).trans HP1.out
 have HQ2 : Hid (W2.heap[W1.heap.size]? = some (.cells R0 296)) := by rw [hW2]; exact heap_alloc_new _ _
 have HW2 : Hid _ := hW2;clear hW2 hb2 hp0
 go_wp2_with (first
   | (refine wpList_build_eq rfl 296 _ rfl R0 (by rw [← HUB.out]; go_simp) ?_)
   | (refine wpList_store_row rfl 296 _ _ rfl W1.heap.size R0 rfl rfl 296 zc (heap_alloc_new _ _) (by rw [HRs.out]; exact contSize) (by rw [HRs.out]; rfl) HRo.out ?_; rw [setRow_alloc_new])
   | go_in)
 rw [← HW2.out];obtain ⟨p0, hp0⟩ : ∃ p, p = w.heap.size := ⟨_, rfl⟩;obtain ⟨p1, hp1⟩ : ∃ p, p = w.heap.size + 1 := ⟨_, rfl⟩;obtain ⟨p2, hp2⟩ : ∃ p, p = W1.heap.size := ⟨_, rfl⟩
 have HPs : Hid (w.heap.size ≤ p0 ∧ w.heap.size ≤ p1 ∧ w.heap.size ≤ p2 ∧ p0 ≠ p1 ∧ p0 ≠ p2 ∧ p1 ≠ p2) := by
  have := HS1.out
  show _ ∧ _
  omega
 rw [← hp0] at hq0 HQ0;rw [← hp1] at HQ1;rw [← hp2] at HQ2;rw [← hp1, ← hp0, ← hp2]
 have c0 : W2.cell? ⟨p0, 0, none⟩ = some (ptr hi) := by rw [cell_of_heap hq0]; rfl
 have hW := Bi.words_at hi gi 32 [x] W2.drew (HH.out.bi.below (HB2.out.trans ((Di.drewN_below (w := W2) ⟨1, rfl⟩).mono HB2.out.size)));clear hp0 hp1 hp2 hq0 HW2 HP0 HP1 HW1 HB1;refine wp_region_held_drew (S := fun w' => w'.cell? ⟨p0, 0, none⟩ = some (ptr hi)) (by kernel_rfl) c0 (fun hHeld => ?_);refine tkz [0, 1, 2] ?_
 iterate 3
  refine tkq (v := ?_) rfl (Or.inl ⟨by kernel_rfl, ?_⟩) ?_
  rotate_left
  ·(intro w hSw; (try dsimp only at hSw); go_simp) <;> with_reducible rfl
  (try simp only [Act.put, lq])
 refine tkw ?_
 refine rdy 3 rfl fun K hK => ?_
 go_simp;refine hW.mono ?_;rintro e w3 ⟨v, rfl, hv, hb3⟩;have hb3' : Below W2.heap.size W2 w3 := ⟨hb3.os, hb3.tape, hb3.output, hb3.size, hb3.block⟩;obtain ⟨ga, oa, ca, rfl, hcell⟩ := hv.has (by simp);have HQ0' : Hid (w3.heap[p0]? = some (.cells #[ptr hi, ptr hb] 302)) := (hb3'.block _ (lt_of_heap HQ0.out)).trans HQ0.out;have HQ1' : Hid (w3.heap[p1]? = some (.cells zc 296)) := (hb3'.block _ (lt_of_heap HQ1.out)).trans HQ1.out
 have hq2' : w3.heap[p2]? = some (.cells (urow U0) 296) := by rw [← HRq.out]; exact (hb3'.block _ (lt_of_heap HQ2.out)).trans HQ2.out
 have hcp := fun ty => copy_part (ws := [x]) hq2' HU0.out 2 30 30 rfl (by simp) ga oa ca hcell ty
 have HB3 : Hid (Below w.heap.size w w3) := HB2.out.trans (hb3'.mono HB2.out.size);obtain ⟨U1, hU1⟩ : ∃ U, U = splice U0 2 (ints [x]) := ⟨_, rfl⟩
 have HU1 : Hid (U1.length = 32) := by rw [hU1]; show _ = _; rw [splice_length _ _ _ (by rw [HU0.out, ints_len]; simp), HU0.out]
 have HU1q := hid hU1;rw [← hU1] at hcp;obtain ⟨R1, hR1⟩ : ∃ R, R = urow U1 := ⟨_, rfl⟩;rw [← hR1] at hcp;dsimp only [List.length_cons, List.length_nil] at hcp;have HR1q := hid hR1;have HQ2' : Hid ((w3.setRow p2 R1).heap[p2]? = some (.cells R1 296)) := setRow_heap w3 p2 _ _ _ _ hq2';have HQ0'' : Hid ((w3.setRow p2 R1).heap[p0]? = some (.cells #[ptr hi, ptr hb] 302)) := (setRow_other _ _ _ _ HPs.out.2.2.2.2.1).trans HQ0'.out;have HQ1'' : Hid ((w3.setRow p2 R1).heap[p1]? = some (.cells zc 296)) := (setRow_other _ _ _ _ HPs.out.2.2.2.2.2).trans HQ1'.out
 have hc3 : w3.cell? ⟨p0, 0, none⟩ = some (ptr hi) := by rw [cell_of_heap HQ0'.out]; rfl
 have hc4 : (w3.setRow p2 R1).cell? ⟨p0, 0, none⟩ = some (ptr hi) := by rw [cell_of_heap HQ0''.out]; rfl
 have HB4 : Hid (Below w.heap.size w (w3.setRow p2 R1)) := HB3.out.trans ((Upd.setRow p2 w3 R1).below HPs.out.2.2.1 HB3.out.size);clear hb3 hb3' hv hcell hq2' hU1 hR1 hW HQ0' HQ1' HB3 HQ0 HQ1 HQ2 HB2;refine hK.out _ _ hc3 (fun hHeld => ?_);clear hK K
 (try simp only [Act.put, lq])
 refine rdy 4 rfl fun K hK => ?_
 go_simp;refine hK.out _ _ hc4 (fun hHeld => ?_);clear hK K
 (try simp only [Act.put, lq])
 refine wpAnyH_done (by kernel_rfl) ?_ _;clear hcp hc3 c0;obtain ⟨W4, hW4⟩ : ∃ W, W = w3.setRow p2 R1 := ⟨_, rfl⟩;rw [← hW4] at HQ2' HQ0'' HQ1'' hc4 HB4 ⊢;clear hW4
 go_wp2_with fail
 have c1 : W4.cell? ⟨p0, 1, none⟩ = some (ptr hb) := by rw [cell_of_heap HQ0''.out]; rfl
 have hW := Bi.words_at hb gb n bw W4.drew (HH.out.bb.below (HB4.out.trans ((Di.drewN_below (w := W4) ⟨1, rfl⟩).mono HB4.out.size)));clear hc4;refine wp_region_held_drew (S := fun w' => w'.cell? ⟨p0, 1, none⟩ = some (ptr hb)) (by kernel_rfl) c1 (fun hHeld => ?_);refine tkz [0, 1, 2] ?_
 iterate 3
  refine tkq (v := ?_) rfl (Or.inl ⟨by kernel_rfl, ?_⟩) ?_
  rotate_left
  ·(intro w hSw; (try dsimp only at hSw); go_simp) <;> with_reducible rfl
  (try simp only [Act.put, lq])
 refine tkw ?_
 refine rdy 3 rfl fun K hK => ?_
 go_simp;refine hW.mono ?_;rintro e w5 ⟨v, rfl, hv, hb5⟩;have hb5' : Below W4.heap.size W4 w5 := ⟨hb5.os, hb5.tape, hb5.output, hb5.size, hb5.block⟩;obtain ⟨gc, oc, cc, rfl, hcell⟩ := hv.has (by rw [HBl.out]; omega);have HQ0' : Hid (w5.heap[p0]? = some (.cells #[ptr hi, ptr hb] 302)) := (hb5'.block _ (lt_of_heap HQ0''.out)).trans HQ0''.out;have HQ1' : Hid (w5.heap[p1]? = some (.cells zc 296)) := (hb5'.block _ (lt_of_heap HQ1''.out)).trans HQ1''.out
 have hq2' : w5.heap[p2]? = some (.cells (urow U1) 296) := by rw [← HR1q.out]; exact (hb5'.block _ (lt_of_heap HQ2'.out)).trans HQ2'.out
 have hcp := fun ty => copy_part (ws := bw) hq2' HU1.out 3 29 29 rfl (by rw [HBl.out]; omega) gc oc cc hcell ty
 have HB5 : Hid (Below w.heap.size w w5) := HB4.out.trans (hb5'.mono HB4.out.size);obtain ⟨U2, hU2⟩ : ∃ U, U = splice U1 3 (ints bw) := ⟨_, rfl⟩
 have HU2 : Hid (U2.length = 32) := by rw [hU2]; show _ = _; rw [splice_length _ _ _ (by rw [HU1.out, ints_len, HBl.out]; omega), HU1.out]
 have HU2q : Hid (U2 = hdW n [x] bw) := by
  rw [hU2, HU1q.out, HUq.out];exact hdW_splice n x (by rw [HBl.out]; omega)
 rw [← hU2] at hcp;obtain ⟨R2, hR2⟩ : ∃ R, R = urow U2 := ⟨_, rfl⟩;rw [← hR2] at hcp;have HR2q := hid hR2
 have HR2s : Hid (R2.size = 32) := by rw [hR2]; show _ = _; rw [urow_size]; exact HU2.out
 have HR2o : Hid (R2.all (·.oneCell') = true) := by rw [hR2]; exact urow_one _
 have HQ2'' : Hid ((w5.setRow p2 R2).heap[p2]? = some (.cells R2 296)) := setRow_heap w5 p2 _ _ _ _ hq2';have HQ0a : Hid ((w5.setRow p2 R2).heap[p0]? = some (.cells #[ptr hi, ptr hb] 302)) := (setRow_other _ _ _ _ HPs.out.2.2.2.2.1).trans HQ0'.out;have HQ1a : Hid ((w5.setRow p2 R2).heap[p1]? = some (.cells zc 296)) := (setRow_other _ _ _ _ HPs.out.2.2.2.2.2).trans HQ1'.out
 have hc3 : w5.cell? ⟨p0, 1, none⟩ = some (ptr hb) := by rw [cell_of_heap HQ0'.out]; rfl
 have hc4 : (w5.setRow p2 R2).cell? ⟨p0, 1, none⟩ = some (ptr hb) := by rw [cell_of_heap HQ0a.out]; rfl
 have HB6 : Hid (Below w.heap.size w (w5.setRow p2 R2)) := HB5.out.trans ((Upd.setRow p2 w5 R2).below HPs.out.2.2.1 HB5.out.size);clear hb5 hb5' hv hcell hq2' hU2 hR2 hW;generalize bw.length = BL at *;refine hK.out _ _ hc3 (fun hHeld => ?_);clear hK K
 (try simp only [Act.put, lq])
 refine rdy 4 rfl fun K hK => ?_
 go_simp;refine hK.out _ _ hc4 (fun hHeld => ?_);clear hK K
 (try simp only [Act.put, lq])
 refine wpAnyH_done (by kernel_rfl) ?_ _;clear hcp hc3 hc4 c1;obtain ⟨W6, hW6⟩ : ∃ W, W = w5.setRow p2 R2 := ⟨_, rfl⟩;rw [← hW6] at HQ2'' HQ0a HQ1a HB6 ⊢;clear hW6;have HQr : Hid ((W6.setRow p1 R2).heap[p1]? = some (.cells R2 296)) := setRow_heap W6 p1 _ _ _ _ HQ1a.out
 go_wp2_with (first
   | (refine wpList_load_row rfl 296 _ rfl p2 rfl 296 R2 (0, 0) _ HQ2''.out Tryz.underlying296 rfl (by rw [HR2s.out]; exact contSize) ?_)
   | (refine wpList_store_row rfl 296 _ _ rfl p1 R2 rfl rfl 296 zc HQ1a.out (by rw [HR2s.out]; exact contSize) (by rw [HR2s.out]; rfl) HR2o.out ?_)
   | go_in)
 refine bodyPost_ret (v := .agg R2) ?_ rfl ⟨by rw [HR2q.out, HU2q.out], ?_⟩
 ·rw [results_cell_row rfl _ _ p1 296 R2 (0, 0) _ rfl HQr.out Tryz.underlying296 rfl (by rw [HR2s.out]; exact contSize)]
 ·exact HB6.out.trans ((Upd.setRow p1 W6 R2).below HPs.out.2.1 HB6.out.size)
end
theorem step_store_mid {P : Program} {ops : Array Oper} {op : Oper} {a : Act} {w : World} {K : Act → World → Prop} {Q : Exit → Act → World → Prop} {E : Prop} (hgd : op.guard = none) (ty : TypeId) (x y : Operand) (ho : op.op = .store ty x y)
  (b o : Nat) (cells : Array Value) (hx : a.eval x = .pointer (some ⟨b, o, none⟩)) (hy : a.eval y = .agg cells) (ht : w.there b o cells.size) (hi : (P.info? ty).map (·.size) = some cells.size) (h1 : cells.all (·.oneCell') = true)
  (h : K (a.put op.dst undef) (w.setCells b o cells.toList)) : if Region.wanted op (yielded ops a.tmps) = true then Oper.wp P op a w K Q else E := by
 have hw : Region.wanted op (yielded ops a.tmps) = true := by simp [Region.wanted, hgd]
 rw [if_pos hw];exact wp_store_mid ty x y ho b o cells hx hy ht hi h1 h
def setL : Array Value → Nat → List Value → Array Value
 | cur, _, [] => cur
 | cur, o, v :: r => setL (cur.setIfInBounds o v) (o + 1) r
theorem setL_get : ∀ (l : List Value) (o : Nat) (cur : Array Value) (k : Nat), (setL cur o l)[k]? = if o ≤ k ∧ k < o + l.length ∧ k < cur.size then l[k - o]? else cur[k]?
 | [], o, cur, k => by
  show cur[k]? = _
  rw [if_neg (by simp; omega)]
 | v :: r, o, cur, k => by
  show (setL (cur.setIfInBounds o v) (o + 1) r)[k]? = _
  rw [setL_get];simp only [Array.size_setIfInBounds, List.length_cons]
  by_cases e : k = o
  ·subst e
   rw [if_neg (by omega)]
   by_cases q : k < cur.size
   ·rw [if_pos (by omega)]
    simp [q]
   ·rw [if_neg (by omega)]
    simp [q]
  ·rw [Array.getElem?_setIfInBounds_ne (fun x => e x.symm)]
   by_cases q : o + 1 ≤ k ∧ k < o + 1 + r.length ∧ k < cur.size
   ·rw [if_pos q, if_pos (by omega), show k - o = k - (o + 1) + 1 by omega, List.getElem?_cons_succ]
   ·rw [if_neg q, if_neg (by omega)]
theorem setCells_heap (b : Nat) : ∀ (l : List Value) (o : Nat) (w : World) (cur : Array Value) (t : TypeId), w.heap[b]? = some (.cells cur t (0, 0)) → (w.setCells b o l).heap[b]? = some (.cells (setL cur o l) t (0, 0)) ∧ Upd b w (w.setCells b o l)
 | [], _, w, _, _, h => ⟨h, Upd.refl _ _⟩
 | v :: r, o, w, cur, t, h => by
  have h1 : (w.setCell ⟨b, o, none⟩ v).heap[b]? = some (.cells (cur.setIfInBounds o v) t (0, 0)) := by rw [setCell_eq_setRow w b o _ _ _ _ h, setRow_heap w b _ _ _ _ h]
  obtain ⟨h2, h3⟩ := setCells_heap b r (o + 1) _ _ t h1;exact ⟨h2, (Upd.setCell _ _ _ _).trans h3⟩
theorem setL_sheet {k : Nat} {A C R : Array Value} (hA : A.size = 32) (hC : C.size = 32) (hR : R.size = 32) : setL (shRow k A C) 33 R.toList = shRow k A R := by
 apply Array.ext_getElem?
 intro i;rw [setL_get, shRow_size hA hC];simp only [Array.length_toList, hR]
 by_cases q : 33 ≤ i ∧ i < 33 + 32 ∧ i < 65
 ·rw [if_pos q]
  obtain ⟨j, rfl⟩ : ∃ j, i = 33 + j := ⟨i - 33, by omega⟩;rw [shRow_now hA];simp
 ·rw [if_neg q]
  unfold shRow
  by_cases q1 : i < 33
  ·rw [Array.getElem?_append_left (xs := #[Value.int .i64 (k : Int)] ++ A) (by simp [hA]; omega), Array.getElem?_append_left (xs := #[Value.int .i64 (k : Int)] ++ A) (by simp [hA]; omega)]
  ·rw [Array.getElem?_eq_none (by simp [hA, hC]; omega), Array.getElem?_eq_none (by simp [hA, hR]; omega)]
section
variable {w w' : World} {base bd n m : Nat} {B : Sto} {vs ws : List Int}
theorem DrQ.there {b q : Nat} (h : DrQ w base bd B n vs ws m b q) : w.there q 33 32 := fun j hj => ⟨by rw [h.word hj]; rfl, h.free⟩
theorem DrQ.cells {b q : Nat} {us : List Int} {R : Array Value} (h : DrQ w base bd B n vs ws m b q) (hu : us.length = 32) (hR : R = urow us) :
  DrQ (w.setCells q 33 R.toList) base bd B n vs (splice ws (b * 32) us) m b q ∧ DT base B w (w.setCells q 33 R.toList) := by
 have hl : ws.length = n * 32 := h.dr.len;obtain ⟨A, hA, hh, _, hb⟩ := h.row
 have hRs : R.size = 32 := by rw [hR, urow_size, hu]
 refine h.lay hu (fun A hA hh => ?_) (setCells_heap q R.toList 33 w _ _ hh).2;rw [(setCells_heap q R.toList 33 w _ _ hh).1, setL_sheet hA (by rw [urow_size, frameOf_length ws b n hl hb]) hRs, hR]
theorem dsetHead_at {M hi hb : Nat} {iw bw : List Nat} (h : Dr w base bd B n vs ws m) (hm : m ≤ 900000000000) (hn : 0 < n) (hbm : BmsE w M hi hb n iw bw) :
  Calls Tryz.prog 171 #[ptr bd, .agg #[ptr hi, ptr hb]] w fun e w' => e = .returned (.tuple #[]) ∧ Dr w' base bd B n vs (splice ws 0 (hdW n iw bw)) m ∧ DT base B w w' := by
 obtain ⟨gi, gb, hbm⟩ := hbm;have hbl := hbm.bb.wf.len;have hle := hbm.bb.le;have HL : Hid ((hdW n iw bw).length = 32) := hdW_len hbm.bi.wf.len (by rw [hbl]; omega);obtain ⟨W0, hW0⟩ : ∃ W, W = w.alloc (.cells #[ptr hi, ptr hb] 302) := ⟨_, rfl⟩
 have hb0 : Below w.heap.size w W0 := by rw [hW0]; exact below_alloc _ _
 have hp0 : W0.heap[w.heap.size]? = some (.cells #[ptr hi, ptr hb] 302) := by rw [hW0]; exact heap_alloc_new _ _
 have HB0 := hid hb0;have hA := dat_at (h.below (hb0.trans ((Di.drewN_below (w := W0) ⟨1, rfl⟩).mono hb0.size))) 0 hn hm;have HBm : Hid (Bms W0 M hi gi hb gb n iw bw) := hbm.below hb0;have HP0 : Hid _ := hp0;have HW0 : Hid _ := hW0;obtain ⟨p0, hp⟩ : ∃ p, p = w.heap.size := ⟨_, rfl⟩
 have c0 : W0.cell? ⟨p0, 0, none⟩ = some (ptr hi) ∧ W0.cell? ⟨p0, 1, none⟩ = some (ptr hb) := by rw [hp]; constructor <;> (rw [cell_of_heap hp0]; rfl)
 rw [← hp] at HP0;have Hpq := hid hp;clear h hbm hbl hb0 hp0 hW0 hp
 go_enter Tryz.func171, Tryz.ntmps171
 go_wp2_with fail
 rw [← HW0.out, ← Hpq.out];clear HW0;refine wp_region_held_drew (S := fun w' => w'.cell? ⟨p0, 0, none⟩ = some (ptr hi) ∧ w'.cell? ⟨p0, 1, none⟩ = some (ptr hb)) (by kernel_rfl) c0 (fun hHeld => ?_);refine tkz [0, 2] ?_
 iterate 2
  refine tkq (v := ?_) rfl (Or.inl ⟨by kernel_rfl, ?_⟩) ?_
  rotate_left
  ·(intro w hSw; (try dsimp only at hSw); go_simp) <;> with_reducible rfl
  (try simp only [Act.put, lq])
 refine tkw ?_
 refine rdy 1 rfl fun K hK => ?_
 go_simp;refine hA.mono ?_;rintro e w1 ⟨q, rfl, hq, hdt⟩;have hdt' : DT base B W0 w1 := (DT.of_below (Di.drewN_below ⟨1, rfl⟩)).trans hdt;have h1 : w1.heap[p0]? = some (.cells #[ptr hi, ptr hb] 302) := hdt'.other HP0.out (by decide) (by decide)
 have c1 : w1.cell? ⟨p0, 0, none⟩ = some (ptr hi) ∧ w1.cell? ⟨p0, 1, none⟩ = some (ptr hb) := by constructor <;> (rw [cell_of_heap h1]; rfl)
 have hbm1 := HBm.out.dt hdt';have hWd := hwords_at hbm1;have HQ := hid hq;have HT : Hid (DT base B w w1) := (DT.of_below HB0.out).trans hdt';have HP1 : Hid _ := h1;clear hq hdt hdt' h1 hbm1 hA c0;refine hK.out _ _ c1 (fun hHeld => ?_);clear hK K
 (try simp only [Act.put, lq])
 refine rdy 3 rfl fun K hK => ?_
 go_simp;refine hWd.mono ?_;rintro e w2 ⟨rfl, hb2⟩
 have hq2 : DrQ w2 base bd B n vs ws m 0 q := by
  obtain ⟨sv, S, h, hq⟩ := HQ.out;exact ⟨sv, S, h.below hb2, hq⟩
 have HT2 : Hid (DT base B w w2) := HT.out.trans (DT.of_below hb2);have h2 : w2.heap[p0]? = some (.cells #[ptr hi, ptr hb] 302) := (hb2.block _ (lt_of_heap HP1.out)).trans HP1.out
 have c2 : w2.cell? ⟨p0, 0, none⟩ = some (ptr hi) ∧ w2.cell? ⟨p0, 1, none⟩ = some (ptr hb) := by constructor <;> (rw [cell_of_heap h2]; rfl)
 obtain ⟨R, hR⟩ : ∃ R, R = urow (hdW n iw bw) := ⟨_, rfl⟩
 have HRs : Hid (R.size = 32) := by rw [hR]; show _ = _; rw [urow_size]; exact HL.out
 have HRo : Hid (R.all (·.oneCell') = true) := by rw [hR]; exact urow_one _
 obtain ⟨r1, r2⟩ := hq2.cells HL.out hR;have HR1 := hid r1;have HR2 := hid r2;have h3 : (w2.setCells q 33 R.toList).heap[p0]? = some (.cells #[ptr hi, ptr hb] 302) := r2.other h2 (by decide) (by decide)
 have c3 : (w2.setCells q 33 R.toList).cell? ⟨p0, 0, none⟩ = some (ptr hi) ∧ (w2.setCells q 33 R.toList).cell? ⟨p0, 1, none⟩ = some (ptr hb) := by constructor <;> (rw [cell_of_heap h3]; rfl)
 have HTh : Hid (w2.there q 33 32) := hq2.there;rw [← hR];clear hq2 hb2 h2 hR r1 r2 h3 c1 hWd HQ;refine hK.out _ _ c2 (fun hHeld => ?_);clear hK K
 (try simp only [Act.put, lq])
 refine tkz [4] ?_
 iterate 1
  refine tkq (v := ?_) rfl (Or.inl ⟨by kernel_rfl, ?_⟩) ?_
  rotate_left
  ·(intro w hSw; (try dsimp only at hSw); go_simp) <;> with_reducible rfl
  (try simp only [Act.put, lq])
 refine tkw ?_
 refine rdy 5 rfl fun K hK => ?_
 refine step_store_mid rfl 296 _ _ rfl q 33 R rfl rfl (by rw [HRs.out]; exact HTh.out) (by rw [HRs.out]; exact contSize) HRo.out ?_;refine hK.out _ _ c3 (fun hHeld => ?_);clear hK K
 (try simp only [Act.put, lq])
 refine wpAnyH_done (by kernel_rfl) ?_ _;clear c2 c3;go_wp2
 go_end0
 refine ⟨rfl, ?_, HT2.out.trans HR2.out⟩;have := HR1.out.dr
 rwa [Nat.zero_mul] at this
end
theorem leafInfo : (Tryz.prog.info? 286).map (fun i => (i.zero, i.size, i.bytes)) = some (some (.pointer none), 1, 8) := by kernel_rfl
theorem arrSize : (Tryz.prog.info? 287).map (·.size) = some 32 := by kernel_rfl
theorem zc_size : zc.size = 32 := by unfold zc; rw [urow_size]; simp
theorem leaf_built (k : Nat) : Tryz.prog.built 289 [(0, .int .i64 (k : Int))] = some (shRow k zc zc) := by kernel_rfl
structure DfAt (w : World) (S : Sto) (lo d : Nat) (P : Nat → Prop) (n : Nat) (vs ws : List Int) (m : Nat) (sv : Value) (L : List (Nat × Nat)) : Prop where
 ok : SOk S
 st : S.At w P n vs m
 head : w.heap[d]? = some (.cells #[sto S, sv, .int .i64 0] 224)
 own : w.ownsRow lo 286 1 sv L.length (L.map (fun p => ptr p.2))
 lf : ∀ p ∈ L, lo ≤ p.2 ∧ p.1 < n ∧ w.heap[p.2]? = some (.cells (shRow p.1 (urow (frameOf vs p.1)) (urow (frameOf ws p.1))) 289)
 nd : (L.map (fun p => p.1)).Nodup
 out : ∀ k, k < n → k ∉ L.map (fun p => p.1) → frameOf ws k = frameOf vs k
 len : ws.length = n * 32
 nn : n ≤ 1024
 apd : ¬ P d
 apo : ∀ g, sv.ownBlock = some g → ¬ P g
 apl : ∀ p ∈ L, ¬ P p.2
 lod : lo ≤ d
 loS : lo ≤ S.lo
def dfP (d : Nat) (P : Nat → Prop) (sv : Value) (L : List (Nat × Nat)) : Nat → Prop := fun k => P k ∨ k = d ∨ sv.ownBlock = some k ∨ ∃ p ∈ L, p.2 = k
section
variable {w w' : World} {S : Sto} {lo d : Nat} {P : Nat → Prop} {n : Nat} {vs ws : List Int} {m : Nat} {sv : Value} {L : List (Nat × Nat)}
theorem DfAt.few (h : DfAt w S lo d P n vs ws m sv L) : L.length ≤ n := by
 have := nodup_le n (L.map (fun p => p.1)) h.nd (fun x hx => by
   obtain ⟨p, hp, rfl⟩ := List.mem_map.1 hx
   exact (h.lf p hp).2.1)
 simpa using this
theorem DfAt.foot (h : DfAt w S lo d P n vs ws m sv L) (k : Nat) (hk : dfP d P sv L k) : lo ≤ k ∧ IsSt w k := by
 rcases hk with hk | rfl | hk | ⟨p, hp, rfl⟩
 ·have := h.ok.foot h.st k hk
  exact ⟨Nat.le_trans h.loS this.1, this.2⟩
 ·exact ⟨h.lod, _, _, _, h.head, by decide⟩
 ·obtain ⟨h1, cs, h2⟩ := own_type h.own hk
  exact ⟨h1, _, _, _, h2, by decide⟩
 ·obtain ⟨h1, h2, h3⟩ := h.lf p hp
  exact ⟨h1, _, _, _, h3, by decide⟩
theorem DfAt.keep (h : DfAt w S lo d P n vs ws m sv L) (hk : ∀ k, dfP d P sv L k → w'.heap[k]? = w.heap[k]?) : DfAt w' S lo d P n vs ws m sv L := by
 refine ⟨h.ok, h.ok.keep h.st (fun k hp => hk k (Or.inl hp)), (hk d (Or.inr (Or.inl rfl))).trans h.head, ownsRow_at h.own (fun g hg => hk g (Or.inr (Or.inr (Or.inl hg)))), fun p hp => ?_, h.nd, h.out, h.len, h.nn, h.apd, h.apo, h.apl, h.lod, h.loS⟩;obtain ⟨h1, h2, h3⟩ := h.lf p hp;exact ⟨h1, h2, (hk p.2 (Or.inr (Or.inr (Or.inr ⟨p, hp, rfl⟩)))).trans h3⟩
theorem DfAt.below (h : DfAt w S lo d P n vs ws m sv L) (hb : Below w.heap.size w w') : DfAt w' S lo d P n vs ws m sv L := h.keep (fun k hk => hb.block k (h.foot k hk).2.lt)
theorem DfAt.mono {m' : Nat} (h : DfAt w S lo d P n vs ws m sv L) (hm : m ≤ m') : DfAt w S lo d P n vs ws m' sv L := ⟨h.ok, h.ok.mono h.st hm, h.head, h.own, h.lf, h.nd, h.out, h.len, h.nn, h.apd, h.apo, h.apl, h.lod, h.loS⟩
theorem DfAt.row (h : DfAt w S lo d P n vs ws m sv L) {b q : Nat} (hq : (b, q) ∈ L) : w.heap[q]? = some (.cells (shRow b (urow (frameOf vs b)) (urow (frameOf ws b))) 289) ∧ b < n := by
 obtain ⟨h1, h2, h3⟩ := h.lf _ hq;exact ⟨h3, h2⟩
theorem DfAt.grow (h : DfAt w S lo d P n vs ws m sv L) {w1 w4 w5 : World} {P' : Nat → Prop} {sv' : Value} {b q g cap : Nat} {R : Array Value} (hb : b < n) (hnot : b ∉ L.map (fun p => p.1)) (hst : S.At w1 P' n vs (m + 1)) (hP' : ∀ k, P' k → P k ∨ w.heap.size ≤ k)
  (hu1 : UpdP P w w1) (hq : q = w1.heap.size) (h4 : Below w1.heap.size w1 w4) (hs4 : w1.heap.size < w4.heap.size) (hq4 : w4.heap[q]? = some (.cells (shRow b R R) 289)) (hR : R = urow (frameOf vs b))
  (hsv : sv' = .slice (some ⟨g, 0, none⟩) (L.length + 1) cap) (hgrow : w4.grownBy w5 sv.ownBlock) (hat : sv.ownBlock = some g ∨ g = w4.heap.size) (hown5 : w5.ownsRow lo 286 1 sv' (L.length + 1) (L.map (fun p => ptr p.2) ++ [ptr q])) :
  DfAt (w5.setCell ⟨d, 1, none⟩ sv') S lo d P' n vs ws (m + 1) sv' (L ++ [(b, q)]) ∧ (∀ k, dfP d P' sv' (L ++ [(b, q)]) k → dfP d P sv L k ∨ w.heap.size ≤ k) ∧ UpdP (dfP d P sv L) w (w5.setCell ⟨d, 1, none⟩ sv') := by
 have hs1 := hu1.size;have hdl := lt_of_heap h.head;have hlen := h.ok.len h.st
 have hln : ∀ k, P' k → k < w1.heap.size := fun k hk => (h.ok.foot hst k hk).2.lt
 have hv : ∀ j, sv.ownBlock = some j → j < w.heap.size ∧ j ≠ d ∧ ¬ P j := by
  intro j hj;obtain ⟨h1, cs, h2⟩ := own_type h.own hj;refine ⟨lt_of_heap h2, fun e => ?_, h.apo j hj⟩;have h3 := h.head;rw [← e, h2] at h3;simp only [Option.some.injEq, Obj.cells.injEq] at h3;exact absurd h3.2.1 (by decide)
 have old1 : ∀ k, k < w1.heap.size → sv.ownBlock ≠ some k → w5.heap[k]? = w1.heap[k]? := fun k hk hn => (hgrow.block k (Nat.lt_of_lt_of_le hk h4.size) (fun e => hn e.symm)).trans (h4.block k hk)
 have old : ∀ k, k < w.heap.size → ¬ P k → sv.ownBlock ≠ some k → w5.heap[k]? = w.heap[k]? := fun k hk hB hn => (old1 k (by omega) hn).trans (hu1.block k hk hB)
 have hnP : ∀ k, k < w.heap.size → ¬ P k → ¬ P' k := fun k hk hn hp => (hP' k hp).elim hn (fun x => by omega)
 have hh5 : w5.heap[d]? = some (.cells #[sto S, sv, .int .i64 0] 224) := (old d hdl h.apd (fun e => (hv d e).2.1 rfl)).trans h.head;have hq5 : w5.heap[q]? = some (.cells (shRow b R R) 289) := (hgrow.block q (lt_of_heap hq4) (fun e => by have := (hv q e.symm).1; omega)).trans hq4
 have hlf : ∀ p ∈ L, p.2 < w.heap.size ∧ p.2 ≠ d ∧ sv.ownBlock ≠ some p.2 := fun p hp => by
  obtain ⟨h1, h2, h3⟩ := h.lf p hp;refine ⟨lt_of_heap h3, fun e => ?_, fun e => ?_⟩
  ·have h5 := h.head
   rw [← e, h3] at h5;simp only [Option.some.injEq, Obj.cells.injEq] at h5;exact absurd h5.2.1 (by decide)
  ·obtain ⟨_, cs, h5⟩ := own_type h.own e
   rw [h3] at h5;simp only [Option.some.injEq, Obj.cells.injEq] at h5;exact absurd h5.2.1 (by decide)
 have hg : sv'.ownBlock = some g := by rw [hsv]; rfl
 refine ⟨⟨h.ok, h.ok.keep hst (fun k hk => ?_), ?_, ?_, fun p hp => ?_, ?_, fun k hk hn => h.out k hk (fun e => hn (by simp [e])), h.len, h.nn, hnP d hdl h.apd, fun j hj => ?_, fun p hp => ?_, h.lod, h.loS⟩, fun k hk => ?_, ⟨?_, ?_, ?_, ?_, fun k hk hn => ?_⟩⟩
 ·have hk1 := hln k hk
  have hkd : k ≠ d := fun e => hnP d hdl h.apd (by rw [← e]; exact hk)
  exact (Below.heap_setCell _ _ _ _ (show k ≠ d from hkd)).trans (old1 k hk1 (fun e => hnP k (hv k e).1 (hv k e).2.2 hk))
 ·rw [setCell_eq_setRow w5 d 1 _ _ _ _ hh5, setRow_heap w5 d _ _ _ _ hh5]
  rfl
 ·rw [List.length_append, List.map_append]
  refine ownsRow_at hown5 (fun j hj => Below.heap_setCell _ _ _ _ ?_)
  show j ≠ d
  intro e;obtain ⟨_, cs, h2⟩ := own_type hown5 hj;rw [e, hh5] at h2;simp only [Option.some.injEq, Obj.cells.injEq] at h2;exact absurd h2.2.1 (by decide)
 ·rcases List.mem_append.1 hp with hp | hp
  ·obtain ⟨h1, h2, h3⟩ := h.lf p hp
   obtain ⟨g1, g2, g3⟩ := hlf p hp;refine ⟨h1, h2, ?_⟩;rw [Below.heap_setCell _ _ _ _ (show p.2 ≠ d from g2), old p.2 g1 (h.apl p hp) g3];exact h3
  ·simp only [List.mem_singleton] at hp
   subst hp;refine ⟨by have := h.lod; show lo ≤ q; omega, hb, ?_⟩
   show (w5.setCell ⟨d, 1, none⟩ sv').heap[q]? = _
   rw [Below.heap_setCell _ _ _ _ (show q ≠ d by omega), hq5, h.out b hb hnot, ← hR]
 ·rw [List.map_append, List.nodup_append]
  refine ⟨h.nd, by simp, fun x hx y hy e => ?_⟩;simp only [List.map_cons, List.map_nil, List.mem_singleton] at hy;subst hy;subst e;exact hnot hx
 ·rw [hg] at hj
  have e : g = j := Option.some.inj hj;subst e
  rcases hat with hat | hat
  ·exact hnP g (hv g hat).1 (hv g hat).2.2
  ·exact fun hp => by have := hln g hp; omega
 ·rcases List.mem_append.1 hp with hp | hp
  ·exact hnP _ (hlf p hp).1 (h.apl p hp)
  ·simp only [List.mem_singleton] at hp
   subst hp
   exact fun hp => by have := hln q hp; omega
 ·rcases hk with hk | rfl | hk | ⟨p, hp, rfl⟩
  ·exact (hP' k hk).elim (fun x => Or.inl (Or.inl x)) Or.inr
  ·exact Or.inl (Or.inr (Or.inl rfl))
  ·rw [hg] at hk
   have e : g = k := Option.some.inj hk;subst e
   rcases hat with hat | hat
   ·exact Or.inl (Or.inr (Or.inr (Or.inl hat)))
   ·exact Or.inr (by omega)
  ·rcases List.mem_append.1 hp with hp | hp
   ·exact Or.inl (Or.inr (Or.inr (Or.inr ⟨p, hp, rfl⟩)))
   ·simp only [List.mem_singleton] at hp
    subst hp;exact Or.inr (by show w.heap.size ≤ q; omega)
 ·exact hgrow.os.trans (h4.os.trans hu1.os)
 ·exact hgrow.tape.trans (h4.tape.trans hu1.tape)
 ·exact hgrow.output.trans (h4.output.trans hu1.output)
 ·have a1 := hgrow.size
  simp only [World.setCell, Array.size_modify];omega
 ·rw [Below.heap_setCell _ _ _ _ (show k ≠ d from fun e => hn (Or.inr (Or.inl e)))]
  exact old k hk (fun x => hn (Or.inl x)) (fun x => hn (Or.inr (Or.inr (Or.inl x))))
theorem DfAt.put (h : DfAt w S lo d P n vs ws m sv L) {b q : Nat} (hq : (b, q) ∈ L) {us : List Int} (hl : us.length = 32)
  (hw : w.heap[q]? = some (.cells (shRow b (urow (frameOf vs b)) (urow (frameOf ws b))) 289) → w'.heap[q]? = some (.cells (shRow b (urow (frameOf vs b)) (urow us)) 289)) (hu : Upd q w w') :
  DfAt w' S lo d P n vs (splice ws (b * 32) us) m sv L ∧ UpdP (dfP d P sv L) w w' := by
 obtain ⟨hq1, hbn, hh⟩ := h.lf _ hq;dsimp only at hq1 hbn hh;have hqP := h.apl _ hq;dsimp only at hqP
 have hqd : d ≠ q := by
  intro e;have := h.head;rw [e, hh] at this;simp only [Option.some.injEq, Obj.cells.injEq] at this;exact absurd this.2.1 (by decide)
 have hsl : (splice ws (b * 32) us).length = n * 32 := by rw [splice_length _ _ _ (by rw [h.len, hl]; omega), h.len]
 refine ⟨⟨h.ok, h.ok.keep h.st (fun k hk => hu.block k (h.ok.foot h.st k hk).2.lt (fun e => hqP (by rw [← e]; exact hk))), (hu.block _ (lt_of_heap h.head) hqd).trans h.head, ownsRow_at h.own (fun g hg => ?_), fun p hp => ?_, h.nd, fun k hk hn => ?_, hsl, h.nn, h.apd, h.apo, h.apl, h.lod, h.loS⟩, hu.p _ (Or.inr (Or.inr (Or.inr ⟨_, hq, rfl⟩)))⟩
 ·obtain ⟨h1, cs, h2⟩ := own_type h.own hg
  refine hu.block _ (lt_of_heap h2) (fun e => ?_);rw [e, hh] at h2;simp only [Option.some.injEq, Obj.cells.injEq] at h2;exact absurd h2.2.1 (by decide)
 ·obtain ⟨h1, h2, h4⟩ := h.lf p hp
  rw [frame_splice ws us n b p.1 h.len hbn h2 hl]
  by_cases e : p.2 = q
  ·have e1 : p.1 = b := by
    rw [e, hh] at h4;simp only [Option.some.injEq, Obj.cells.injEq] at h4;have h5 := congrArg (fun z => z[0]?) h4.1;simp only [shRow_0, Option.some.injEq, Value.int.injEq, true_and] at h5;omega
   rw [if_pos e1];refine ⟨h1, h2, ?_⟩;rw [e, e1];exact hw hh
  ·have e1 : p.1 ≠ b := by
    intro e1;exact e (by rw [nd_fst h.nd hp hq e1])
   rw [if_neg e1];exact ⟨h1, h2, (hu.block _ (lt_of_heap h4) e).trans h4⟩
 ·rw [frame_splice ws us n b k h.len hbn hk hl, if_neg (fun e => hn (by rw [e]; exact List.mem_map.2 ⟨_, hq, rfl⟩))]
  exact h.out k hk hn
end
theorem shRow_old {k : Nat} {A C : Array Value} (hA : A.size = 32) {j : Nat} (hj : j < 32) : (shRow k A C)[1 + j]? = A[j]? := by
 unfold shRow;rw [Array.getElem?_append_left (by simp [hA]; omega), Array.getElem?_append_right (by simp)]
 congr 1
 simp
theorem shRow_lay1 {k : Nat} {A C : Array Value} {R : List Value} (hA : A.size = 32) (hR : R.length = 32) : ((shRow k A C).toList.take 1 ++ R ++ (shRow k A C).toList.drop (1 + R.length)).toArray = shRow k R.toArray C := by
 apply Array.ext'
 unfold shRow;simp only [Array.toList_append];rw [hR];have h1 : ([Value.int .i64 (k : Int)] ++ A.toList ++ C.toList).take 1 = [Value.int .i64 (k : Int)] := rfl
 have h2 : ([Value.int .i64 (k : Int)] ++ A.toList ++ C.toList).drop (1 + 32) = C.toList := by
  rw [List.drop_append_of_le_length (by simp [hA]), List.drop_eq_nil_of_le (by simp [hA])]
  rfl
 rw [h1, h2]
theorem shRow_lay2 {k : Nat} {A C : Array Value} {R : List Value} (hA : A.size = 32) (hC : C.size = 32) (hR : R.length = 32) : ((shRow k A C).toList.take 33 ++ R ++ (shRow k A C).toList.drop (33 + R.length)).toArray = shRow k A R.toArray := by
 apply Array.ext'
 unfold shRow;simp only [Array.toList_append];rw [hR]
 have h1 : ([Value.int .i64 (k : Int)] ++ A.toList ++ C.toList).take 33 = [Value.int .i64 (k : Int)] ++ A.toList := by
  rw [List.take_append_of_le_length (by simp [hA]), List.take_of_length_le (by simp [hA])]
 have h2 : ([Value.int .i64 (k : Int)] ++ A.toList ++ C.toList).drop (33 + 32) = [] := by
  rw [List.drop_eq_nil_of_le (by simp [hA, hC])]
 rw [h1, h2, List.append_nil]
section
variable {w : World} {S : Sto} {n : Nat}
theorem dask_at {R : Ending → World → Prop} (hS : SOk S) (d b : Nat) (c0 : w.cell? ⟨d, 0, none⟩ = some (sto S)) (hg : Calls Tryz.prog S.gf #[S.x, .int .i64 (b : Int)] w fun e w' => ∃ v, e = .returned (.tuple #[v, .int .i64 0]) ∧ R (.returned (.tuple #[v, .int .i64 0])) w') :
  Calls Tryz.prog 414 #[ptr d, .int .i64 (b : Int)] w R := by
 have hme := hS.mget;have hcf := hS.cget;have hni := hS.nil;obtain ⟨bb, hbb⟩ : ∃ x, x = S.x := ⟨_, rfl⟩;obtain ⟨gf, hgf⟩ : ∃ x, x = S.gf := ⟨_, rfl⟩;obtain ⟨ti, hti⟩ : ∃ x, x = S.t := ⟨_, rfl⟩;unfold sto at hni c0;rw [← hbb, ← hgf] at hg;rw [← hbb, ← hgf, ← hti] at hme;rw [← hgf] at hcf;rw [← hbb, ← hti] at hni c0;clear hbb hgf hti hS
 go_enter Tryz.func414, Tryz.ntmps414
 go_wp2_with fail
 refine hg.mono ?_;rintro e w1 ⟨v, rfl, hR⟩;go_wp2;exact hR
end
end Go.Proofs.YtinaeifpoljfoaaGreatDoor
