import Derived.Test.YtinaeifpoljfoaaGreatDoorInoMTSto
import Derived.Great.FillDense
set_option linter.all false
set_option maxRecDepth 100000
set_option maxHeartbeats 16000000
namespace Go.Proofs.YtinaeifpoljfoaaGreatDoor
open Go.RowKit
def zc : Array Value := urow (List.replicate 32 0)
theorem lit_zc : (#[.int .u64 0, .int .u64 0, .int .u64 0, .int .u64 0, .int .u64 0, .int .u64 0, .int .u64 0, .int .u64 0, .int .u64 0, .int .u64 0, .int .u64 0, .int .u64 0, .int .u64 0, .int .u64 0, .int .u64 0, .int .u64 0, .int .u64 0, .int .u64 0, .int .u64 0, .int .u64 0, .int .u64 0, .int .u64 0, .int .u64 0, .int .u64 0, .int .u64 0, .int .u64 0, .int .u64 0, .int .u64 0, .int .u64 0, .int .u64 0, .int .u64 0, .int .u64 0] : Array Value) = zc := rfl
theorem contSize : (Tryz.prog.info? 296).map (·.size) = some 32 := by kernel_rfl
theorem urow_one (xs : List Int) : (urow xs).all (·.oneCell') = true := by
 unfold urow;refine all_oneCell_toArray (fun v hv => ?_);simp only [List.mem_map] at hv;obtain ⟨x, _, rfl⟩ := hv
 rfl
theorem urow_get (xs : List Int) (j : Nat) (h : j < xs.length) : (urow xs)[j]? = some (.int .u64 (xs.getD j 0)) := by simp [urow, h]
theorem copy_cont {w : World} {g : Nat} {t : TypeId} {us ws : List Int} (h : w.heap[g]? = some (.cells (urow us) t)) (hu : us.length = 32) (hl : ws.length = 32) (p : Nat)
  (hw : ∀ (j : Nat) (x : Int), ws[j]? = some x → w.cell? ⟨p, j, none⟩ = some (.int .u64 x)) (ty : TypeId) (c1 c2 : Nat) :
  (Builtin.copy_ #[22, 22] ty #[.slice (some ⟨g, 0, none⟩) 32 c1, .slice (some ⟨p, 0, none⟩) 32 c2]).run Tryz.prog w = .ok (goInt 32) (w.setRow g (urow ws)) := by
 have hr := run_copy_row Tryz.prog w 22 22 ty 45 g 0 32 c1 ⟨p, 0, none⟩ 32 c2 (urow us) t (uvs ws) Tryz.underlying22 (by kernel_rfl) h
  (by simp [uvs_len, hl])
  (fun j v hv => by
    obtain ⟨x, hx, rfl⟩ := uvs_get hv;rw [add0, Nat.zero_add]
    exact hw j x hx)
  (by simp [uvs_len, hl, urow_size, hu]) (uvs_one ws)
 rw [hr, urow_splice us 0 ws (uvs ws) rfl (by omega)]
 have e : splice us 0 ws = ws := by
  unfold splice;rw [List.take_zero, List.nil_append, List.drop_eq_nil_of_le (by omega), List.append_nil]
 simp [uvs_len, hl, e]
section
variable {w w' : World} {B : Sto} {n m : Nat} {vs : List Int}
theorem iget_at (h : Dk w B n vs m) (b : Nat) (hb : b < n) (hm : m ≤ 1000000000000) :
  Calls Tryz.prog 228 #[sto B, .int .i64 b] w fun e w' => e = .returned (.tuple #[.agg (urow (frameOf vs b)), .int .i64 0]) ∧ Dk w' B n vs (m + 1) ∧ ST B.lo w w' := by
 have HOk : Hid (SOk B) := h.ok;have hme := h.ok.mget;have hcf := h.ok.cget;obtain ⟨W2, hW2⟩ : ∃ W, W = (w.alloc (.cells zc 296)).alloc (.cells zc 296) := ⟨_, rfl⟩
 have hb2 : Below w.heap.size w W2 := by rw [hW2]; exact (below_alloc w _).trans ((below_alloc _ _).mono (by simp))
 have HB2 := hid hb2;have HL : Hid _ := frameOf_length vs b n h.len hb;obtain ⟨-, P, hat⟩ := h.below hb2;have hg2 := HOk.out.get hat b hb hm;have HFo : Hid (∀ k, P k → B.lo ≤ k ∧ IsSt W2 k) := HOk.out.foot hat
 have hR0 : W2.heap[w.heap.size]? = some (.cells zc 296) := by rw [hW2]; exact heap_alloc2_old w _ _
 have hR1 : W2.heap[w.heap.size + 1]? = some (.cells zc 296) := by rw [hW2]; exact heap_alloc2_new w _ _
 have HR0 : Hid _ := hR0;have HR1 : Hid _ := hR1;have HW : Hid _ := hW2;have hz := lit_zc;obtain ⟨bb, hbb⟩ : ∃ x, x = B.x := ⟨_, rfl⟩;obtain ⟨gf, hgf⟩ : ∃ x, x = B.gf := ⟨_, rfl⟩;obtain ⟨ti, hti⟩ : ∃ x, x = B.t := ⟨_, rfl⟩;unfold sto;rw [← hbb, ← hgf] at hg2;rw [← hbb, ← hgf, ← hti] at hme;rw [← hgf] at hcf;rw [← hbb, ← hti];clear h hb2 hW2 hR0 hR1 hat hbb hgf hti
 go_enter Tryz.func228, Tryz.ntmps228
 go_wp2_with fail
 rw [← HW.out];refine hg2.mono ?_;rintro e w1 ⟨gg, gcap, rfl, hr1, P', hat1, hP', hu1⟩;have HSt : Hid (ST B.lo W2 w1) := SU.of_updP hu1 HFo.out;have HD1 : Hid (Dk w1 B n vs (m + 1)) := ⟨HOk.out, P', hat1⟩;have hR0 : w1.heap[w.heap.size]? = some (.cells zc 296) := HSt.out.other HR0.out (by decide);have hR1 : w1.heap[w.heap.size + 1]? = some (.cells zc 296) := HSt.out.other HR1.out (by decide);have HU1 : Hid (ST B.lo w w1) := SU.trans (SU.of_below HB2.out) HSt.out;obtain ⟨a, cap, e, -, -, hf⟩ := hr1;obtain ⟨g', cur, e2, -, hh, hcell⟩ := hf (by intro e; have := HL.out; rw [e] at this; simp at this);rw [HL.out] at e;simp only [Value.slice.injEq] at e;obtain ⟨e3, -, -⟩ := e;rw [e2] at e3;simp only [Option.some.injEq, Addr.mk.injEq] at e3;have e4 : gg = g' := e3.1;subst e4
 have hcp := fun ty c1 c2 => copy_cont (w := w1) (g := w.heap.size + 1) (us := List.replicate 32 0) (ws := frameOf vs b) hR1 (by simp) HL.out gg (fun j x hx => by rw [cell_of_heap hh]; exact hcell j x hx) ty c1 c2
 obtain ⟨R, hR⟩ : ∃ R, R = urow (frameOf vs b) := ⟨_, rfl⟩;have HRq : Hid _ := hR
 have HRs : Hid (R.size = 32) := by show _ = _; rw [hR, urow_size]; exact HL.out
 have HRo : Hid (R.all (·.oneCell') = true) := by show _ = _; rw [hR]; exact urow_one _
 rw [← hR] at hcp;obtain ⟨c1, hc1⟩ : ∃ c, c = w.heap.size + 1 := ⟨_, rfl⟩;obtain ⟨c0, hc0⟩ : ∃ c, c = w.heap.size := ⟨_, rfl⟩
 have HC : Hid (c0 ≠ c1) := by show _ ≠ _; omega
 have HC0 : Hid (w.heap.size ≤ c0 ∧ w.heap.size ≤ c1) := by show _ ∧ _; omega
 have HT1 : Hid (¬ IsSt w1 c1) := by rw [← hc1] at hR1; exact not_isSt hR1 (by decide)
 have H2 : Hid ((w1.setRow c1 R).heap[c1]? = some (.cells R 296 (0, 0))) := by rw [← hc1] at hR1; exact setRow_heap w1 c1 _ _ _ _ hR1
 have H3 : Hid ((w1.setRow c1 R).heap[c0]? = some (.cells zc 296 (0, 0))) := by rw [← hc0] at hR0; exact (setRow_other _ _ _ _ HC.out).trans hR0
 have H4 : Hid (((w1.setRow c1 R).setRow c0 R).heap[c0]? = some (.cells R 296 (0, 0))) := setRow_heap _ c0 _ _ _ _ H3.out;rw [← hc1] at hcp ⊢;rw [← hc0];clear hR hR0 hR1 hu1 hat1 hP' hg2 hf hh hcell e2 e3 hc1 hc0 hz hme hcf
 go_wp2_with (first
   | (refine wpList_load_row rfl 296 _ rfl c1 rfl 296 R (0, 0) _ H2.out Tryz.underlying296 rfl (by rw [HRs.out]; exact contSize) ?_)
   | (refine wpList_store_row rfl 296 _ _ rfl c0 R rfl rfl 296 zc H3.out (by rw [HRs.out]; exact contSize) (by rw [HRs.out]; rfl) HRo.out ?_)
   | go_in)
 refine bodyPost_ret (v := .tuple #[.agg R, .int .i64 0]) ?_ rfl ⟨by rw [← HRq.out], ?_, ?_⟩
 ·rw [results_cell_tmp rfl]
  show ((asAddr (.pointer (some ⟨c0, 0, none⟩))).run _ _).andThen _ = _
  simp only [asAddr, Sem.run_pure, Result.andThen_ok];rw [run_loadVar_row _ c0 _ _ R (0, 0) _ H4.out Tryz.underlying296 rfl (by rw [HRs.out]; exact contSize)]
  rfl
 ·exact (Dk.other HD1.out (Upd.setRow c1 w1 R) HT1.out).other (Upd.setRow c0 _ R) (not_isSt H3.out (by decide))
 ·exact ((HU1.out).far HC0.out.2).far HC0.out.1
theorem iput_at (h : Dk w B n vs m) (b : Nat) (hb : b < n) (hm : m ≤ 1000000000000) (ws : List Int) (hl : ws.length = 32) :
  Calls Tryz.prog 233 #[sto B, .int .i64 b, .agg (urow ws)] w fun e w' => e = .returned (.int .i64 0) ∧ Dk w' B n (splice vs (b * 32) ws) (m + 1) ∧ ST B.lo w w' := by
 have HOk : Hid (SOk B) := h.ok;have hme := h.ok.mput;have hcf := h.ok.cput;have hah := h.ok.aput;obtain ⟨R, hR⟩ : ∃ R, R = urow ws := ⟨_, rfl⟩;obtain ⟨W, hW⟩ : ∃ W, W = w.alloc (.cells R 296) := ⟨_, rfl⟩
 have hb1 : Below w.heap.size w W := by rw [hW]; exact below_alloc _ _
 have HB1 := hid hb1
 have hrow : W.heap[w.heap.size]? = some (.cells R 296) := by rw [hW]; exact heap_alloc_new _ _
 have HP : Hid (∀ q, Calls Tryz.prog B.pf #[B.x, .int .i64 b, .slice (some ⟨w.heap.size, 0, none⟩) 32 32] (W.drewN q) fun e w' => e = .returned (.int .i64 0) ∧ Dk w' B n (splice vs (b * 32) ws) (m + 1) ∧ ST B.lo (W.drewN q) w') := fun q => by
  obtain ⟨hk, P, hat⟩ := (h.below hb1).below (Di.drewN_below (w := W) ⟨q, rfl⟩)
  refine (hk.put hat b hb hm w.heap.size ws 32 (not_isSt (w := W.drewN q) hrow (by decide)) hl (fun j x hx => by
    have hj : j < ws.length := (List.getElem?_eq_some_iff.1 hx).1
    show W.cell? _ = _
    rw [cell_of_heap hrow, hR, urow_get ws j hj, List.getD_eq_getElem?_getD, hx]
    rfl)).mono ?_
  rintro e w1 ⟨rfl, P', h1, -, h3⟩;exact ⟨rfl, ⟨hk, P', h1⟩, SU.of_updP h3 (hk.foot hat)⟩
 have HRs : Hid (R.size = 32) := by show _ = _; rw [hR, urow_size]; exact hl
 have HW : Hid _ := hW;rw [← hR];obtain ⟨bb, hbb⟩ : ∃ x, x = B.x := ⟨_, rfl⟩;obtain ⟨pf, hpf⟩ : ∃ x, x = B.pf := ⟨_, rfl⟩;obtain ⟨ti, hti⟩ : ∃ x, x = B.t := ⟨_, rfl⟩;unfold sto;rw [← hbb, ← hpf] at HP;rw [← hbb, ← hpf, ← hti] at hme;rw [← hpf] at hcf;rw [← hbb, ← hti] at hah;rw [← hbb, ← hti];clear hR hb1 hrow hW h hl hbb hpf hti
 go_enter Tryz.func233, Tryz.ntmps233
 go_wp2_with fail
 rw [← HW.out];clear HW;refine wp_region_held_drew (S := fun _ => True) (by kernel_rfl) trivial (fun hHeld => ?_);refine tkz [0, 1, 2, 3, 4, 5] ?_
 iterate 6
  refine tkq (v := ?_) rfl (Or.inl ⟨by kernel_rfl, ?_⟩) ?_
  rotate_left
  ·(intro w hSw; (try dsimp only at hSw); go_simp) <;> with_reducible rfl
  (try simp only [Act.put, lq])
 refine tkw ?_
 refine rdy 6 rfl fun K hK => ?_
 go_simp;refine (HP.out 1).mono ?_;rintro e w1 ⟨rfl, hd1, hu1⟩;have HD1 := hid hd1;have HU1 : Hid (ST B.lo w w1) := SU.trans (SU.trans (SU.of_below HB1.out) (SU.of_below (Di.drewN_below ⟨1, rfl⟩))) hu1;clear hd1 hu1 HP;refine hK.out _ _ trivial (fun hHeld => ?_);clear hK K
 (try simp only [Act.put, lq])
 refine tkz [7] ?_
 iterate 1
  refine tkq (v := ?_) rfl (Or.inl ⟨by kernel_rfl, ?_⟩) ?_
  rotate_left
  ·(intro w hSw; (try dsimp only at hSw); go_simp) <;> with_reducible rfl
  (try simp only [Act.put, lq])
 refine tkw ?_;refine wpAnyH_done (by kernel_rfl) ?_ _;go_wp2;go_ret;exact ⟨rfl, HD1.out, HU1.out⟩
end
theorem ownsRow_at {w w' : World} {base : Nat} {e : TypeId} {size : Nat} {v : Value} {n : Nat} {xs : List Value} (h : w.ownsRow base e size v n xs) (hb : ∀ g, v.ownBlock = some g → w'.heap[g]? = w.heap[g]?) : w'.ownsRow base e size v n xs := by
 obtain ⟨h1, h2⟩ := h;refine ⟨h1, ?_⟩
 rcases h2 with h2 | ⟨g, cap, cur, hv, hg, hh, r⟩
 ·exact Or.inl h2
 ·exact Or.inr ⟨g, cap, cur, hv, hg, (hb g (by rw [hv]; rfl)).trans hh, r⟩
theorem own_slice {w : World} {base : Nat} {e : TypeId} {size : Nat} {v : Value} {n : Nat} {xs : List Value} (h : w.ownsRow base e size v n xs) : ∃ a cap, v = .slice a n cap := by
 rcases h.2 with ⟨rfl, rfl⟩ | ⟨g, cap, cur, rfl, _⟩
 ·exact ⟨none, 0, rfl⟩
 ·exact ⟨_, cap, rfl⟩
theorem own_type {w : World} {base : Nat} {e : TypeId} {size : Nat} {v : Value} {n : Nat} {xs : List Value} (h : w.ownsRow base e size v n xs) {g : Nat} (hg : v.ownBlock = some g) : base ≤ g ∧ ∃ cs, w.heap[g]? = some (.cells cs e (0, 0)) := by
 rcases h.2 with ⟨rfl, _⟩ | ⟨g', cap, cur, rfl, hb, hh, _⟩
 ·simp [Value.ownBlock] at hg
 ·simp [Value.ownBlock] at hg
  subst hg;exact ⟨hb, cur, hh⟩
theorem nodup_le : ∀ (n : Nat) (l : List Nat), l.Nodup → (∀ x ∈ l, x < n) → l.length ≤ n
 | 0, l, _, h => by
  cases l with
  | nil => exact Nat.le_refl _
  | cons x l => exact absurd (h x List.mem_cons_self) (by omega)
 | n + 1, l, hn, h => by
  by_cases q : n ∈ l
  ·have := nodup_le n (l.erase n) (hn.erase n) (fun x hx => by
     have h1 := (hn.mem_erase_iff).1 hx;have := h x h1.2;have := h1.1
     omega)
   rw [List.length_erase_of_mem q] at this;omega
  ·have := nodup_le n l hn (fun x hx => by
     have := h x hx
     have : x ≠ n := fun e => q (by rw [← e]; exact hx)
     omega)
   omega
theorem nd_fst : ∀ {S : List (Nat × Nat)}, (S.map (fun p => p.1)).Nodup → ∀ {p q : Nat × Nat}, p ∈ S → q ∈ S → p.1 = q.1 → p = q
 | [], _, p, q, hp, _, _ => by cases hp
 | x :: S, h, p, q, hp, hq, e => by
  rw [List.map_cons, List.nodup_cons] at h
  rcases List.mem_cons.1 hp with hp | hp
  ·rcases List.mem_cons.1 hq with hq | hq
   ·rw [hp, hq]
   ·exact absurd (List.mem_map.2 ⟨q, hq, by rw [← e, hp]⟩) h.1
  ·rcases List.mem_cons.1 hq with hq | hq
   ·exact absurd (List.mem_map.2 ⟨p, hp, by rw [e, hq]⟩) h.1
   ·exact nd_fst h.2 hp hq e
def shRow (k : Nat) (A C : Array Value) : Array Value := #[.int .i64 (k : Int)] ++ A ++ C
theorem shRow_size {k : Nat} {A C : Array Value} (hA : A.size = 32) (hC : C.size = 32) : (shRow k A C).size = 65 := by simp [shRow, hA, hC]
theorem shRow_0 (k : Nat) (A C : Array Value) : (shRow k A C)[0]? = some (.int .i64 (k : Int)) := by simp [shRow, Array.getElem?_append]
theorem shRow_now {k : Nat} {A C : Array Value} (hA : A.size = 32) (j : Nat) : (shRow k A C)[33 + j]? = C[j]? := by
 unfold shRow;rw [Array.getElem?_append_right (by simp [hA])]
 congr 1
 simp [hA]
def setAt (cells : Array Value) (off : Nat) (cs : Array Value) : Array Value := (cells.toList.take off ++ cs.toList ++ cells.toList.drop (off + cs.size)).toArray
theorem setAt_size {cells cs : Array Value} {off : Nat} (h : off + cs.size ≤ cells.size) : (setAt cells off cs).size = cells.size := by
 simp [setAt];omega
theorem fill_put (place : Nat → Option (Nat × Nat)) (cells : Array Value) (i off : Nat) (v : Value) (cs : Array Value) (hv : v.cells = cs) (rest : List (Nat × Value)) (hp : place i = some (off, cs.size)) (hs : off + cs.size ≤ cells.size) :
  Instr.fill place cells ((i, v) :: rest) = Instr.fill place (setAt cells off cs) rest := by
 subst hv
 have e : (v.cells.zipIdx.foldl (fun cs (x : Value × Nat) => cs.setIfInBounds (off + x.2) x.1) cells) = setAt cells off v.cells := by
  obtain ⟨h1, h2⟩ := Go.Great.foldl_set off v.cells.toList 0 cells
  have e0 : v.cells.zipIdx.foldl (fun cs (x : Value × Nat) => cs.setIfInBounds (off + x.2) x.1) cells = (v.cells.toList.zipIdx 0).foldl (fun cs (x : Value × Nat) => cs.setIfInBounds (off + x.2) x.1) cells := by
   rw [← Array.foldl_toList, Array.toList_zipIdx]
  rw [e0]
  apply Array.ext_getElem?
  intro k;rw [h2 k];unfold setAt;simp only [Nat.add_zero, Array.length_toList, List.getElem?_toArray]
  by_cases q : off ≤ k ∧ k < off + v.cells.size ∧ k < cells.size
  ·rw [if_pos q, List.getElem?_append_left (by simp; omega), List.getElem?_append_right (by simp; omega)]
   congr 1
   simp;omega
  ·rw [if_neg q]
   rcases Nat.lt_or_ge k off with q1 | q1
   ·rw [List.getElem?_append_left (by simp; omega), List.getElem?_append_left (by simp; omega), List.getElem?_take, if_pos q1]
    simp
   ·rcases Nat.lt_or_ge k (off + v.cells.size) with q2 | q2
    ·omega
    ·rw [List.getElem?_append_right (by simp; omega), List.getElem?_drop]
     simp only [List.length_append, List.length_take, Array.length_toList, Array.getElem?_toList]
     congr 1
     omega
 conv => lhs; unfold Instr.fill
 simp only [hp];rw [if_neg (by simp; omega)];exact congrArg (fun z => Instr.fill place z rest) e
theorem setAt_sheet {Z A C : Array Value} (k : Nat) (hZ : Z.size = 65) (hA : A.size = 32) (hC : C.size = 32) : setAt (setAt (setAt Z 0 #[.int .i64 (k : Int)]) 1 A) 33 C = shRow k A C := by
 have h1 : (setAt Z 0 #[.int .i64 (k : Int)]) = #[.int .i64 (k : Int)] ++ (Z.toList.drop 1).toArray := by
  apply Array.ext'
  simp [setAt]
 rw [h1]
 have h2 : setAt (#[.int .i64 (k : Int)] ++ (Z.toList.drop 1).toArray) 1 A = #[.int .i64 (k : Int)] ++ A ++ (Z.toList.drop 33).toArray := by
  apply Array.ext'
  simp only [setAt, Array.toList_append, List.toList_toArray];rw [hA];simp
 rw [h2]
 apply Array.ext'
 unfold setAt shRow;simp only [Array.toList_append]
 have h3 : (([Value.int .i64 (k : Int)] ++ A.toList) ++ Z.toList.drop 33).take 33 = [Value.int .i64 (k : Int)] ++ A.toList := by
  rw [List.take_append_of_le_length (by simp [hA]), List.take_of_length_le (by simp [hA])]
 have h4 : (([Value.int .i64 (k : Int)] ++ A.toList) ++ Z.toList.drop 33).drop (33 + C.size) = [] := by
  rw [List.drop_eq_nil_of_le];simp [hA, hZ, hC]
 show ((([Value.int .i64 (k : Int)] ++ A.toList) ++ Z.toList.drop 33).take 33 ++ C.toList ++ (([Value.int .i64 (k : Int)] ++ A.toList) ++ Z.toList.drop 33).drop (33 + C.size)) = _
 rw [h3, h4, List.append_nil]
theorem sheet_built {k : Nat} {A C : Array Value} (hA : A.size = 32) (hC : C.size = 32) : Tryz.prog.built 354 [(0, .int .i64 (k : Int)), (1, .agg A), (2, .agg C)] = some (shRow k A C) := by
 have hinfo : ((Tryz.prog.info? 354).bind (·.zero)).map (fun z => z.cells.size) = some 65 := by kernel_rfl
 have hpl : (match Tryz.prog.underlying 354 with | some (.struct fields) => fields.toList.mapM (fun f => (Tryz.prog.info? f.type).map fun i => (f.offset, i.size)) | _ => none) = some [(0, 1), (1, 32), (33, 32)] := by kernel_rfl
 have hst : (match Tryz.prog.underlying 354 with | some (.struct _) => true | _ => false) = true := by kernel_rfl
 unfold Program.built
 cases hi : Tryz.prog.info? 354 with
 | none => rw [hi] at hinfo; cases hinfo
 | some it =>
  cases hu : Tryz.prog.underlying 354 with
  | none => rw [hu] at hst; cases hst
  | some d =>
   rw [hu] at hpl hst;rw [hi] at hinfo
   cases hz : it.zero with
   | none => simp [hz] at hinfo
   | some z =>
    have hzs : z.cells.size = 65 := by simpa [hz] using hinfo
    cases d <;> try (cases hst; done)
    rename_i fields
    simp only at hpl;simp only [hpl, hz];generalize z.cells = Z at *;rw [fill_put _ _ _ 0 _ #[.int .i64 (k : Int)] rfl _ rfl (by rw [hzs]; show 0 + 1 ≤ 65; omega)]
    have hs1 : (setAt Z 0 #[.int .i64 (k : Int)]).size = 65 := by rw [setAt_size (by rw [hzs]; show 0 + 1 ≤ 65; omega), hzs]
    rw [fill_put _ _ _ 1 _ A rfl _ (by rw [hA]; rfl) (by rw [hs1, hA]; omega)]
    have hs2 : (setAt (setAt Z 0 #[.int .i64 (k : Int)]) 1 A).size = 65 := by rw [setAt_size (by rw [hs1, hA]; omega), hs1]
    rw [fill_put _ _ _ 33 _ C rfl _ (by rw [hC]; rfl) (by rw [hs2, hC]; omega), setAt_sheet k hzs hA hC]
    rfl
def IsD (w : World) (k : Nat) : Prop := ∃ cs t fr, w.heap[k]? = some (.cells cs t fr) ∧ (t = 295 ∨ t = 354 ∨ t = 352)
theorem isD_same {w w' : World} {k : Nat} (h : w'.heap[k]? = w.heap[k]?) : IsD w' k ↔ IsD w k := by unfold IsD; rw [h]
structure DT (base : Nat) (B : Sto) (w w' : World) : Prop where
 os : w'.os = w.os
 tape : w'.tape = w.tape
 output : w'.output = w.output
 size : w.heap.size ≤ w'.heap.size
 block : ∀ k, k < w.heap.size → (k < B.lo ∨ ¬ IsSt w k) → (k < base ∨ ¬ IsD w k) → w'.heap[k]? = w.heap[k]?
theorem DT.refl (base : Nat) (B : Sto) (w : World) : DT base B w w := ⟨rfl, rfl, rfl, Nat.le_refl _, fun _ _ _ _ => rfl⟩
theorem DT.trans {base : Nat} {B : Sto} {a b c : World} (h : DT base B a b) (k : DT base B b c) : DT base B a c :=
 ⟨k.os.trans h.os, k.tape.trans h.tape, k.output.trans h.output, Nat.le_trans h.size k.size, fun i hi hB hg => by
   have e := h.block i hi hB hg;refine (k.block i (Nat.lt_of_lt_of_le hi h.size) ?_ ?_).trans e
   · rcases hB with hB | hB
     · exact Or.inl hB
     · exact Or.inr (fun x => hB ((isSt_same e).1 x))
   · rcases hg with hg | hg
     · exact Or.inl hg
     · exact Or.inr (fun x => hg ((isD_same e).1 x))⟩
theorem DT.of_below {base : Nat} {B : Sto} {w w' : World} (h : Below w.heap.size w w') : DT base B w w' := ⟨h.os, h.tape, h.output, h.size, fun k hk _ _ => h.block k hk⟩
theorem DT.of_own {base q : Nat} {B : Sto} {w w' : World} (h : Upd q w w') (hq : base ≤ q) (hd : IsD w q) : DT base B w w' := ⟨h.os, h.tape, h.output, h.size, fun k hk _ hg => h.block k hk (fun e => by
  subst e
  rcases hg with hg | hg
  · omega
  · exact hg hd)⟩
theorem DT.other {base : Nat} {B : Sto} {w w' : World} (h : DT base B w w') {k : Nat} {cs : Array Value} {t : TypeId} {fr : Nat × Nat} (hk : w.heap[k]? = some (.cells cs t fr)) (hB : stB t = false) (ht : t ≠ 295 ∧ t ≠ 354 ∧ t ≠ 352) : w'.heap[k]? = some (.cells cs t fr) := by
 rw [h.block k (lt_of_heap hk) (Or.inr (not_isSt hk hB)) (Or.inr ?_)]
 ·exact hk
 ·rintro ⟨cs', t', fr', e, ht'⟩
  rw [hk] at e;simp only [Option.some.injEq, Obj.cells.injEq] at e;obtain ⟨_, rfl, _⟩ := e
  rcases ht' with e | e | e
  ·exact ht.1 e
  ·exact ht.2.1 e
  ·exact ht.2.2 e
theorem DT.bm {base : Nat} {B : Sto} {w w' : World} (h : DT base B w w') {b g n : Nat} {ws : List Nat} (hb : Bi.BmAt w b g n ws) : Bi.BmAt w' b g n ws :=
 hb.keep ((h.other hb.head (by decide) (by decide)).trans hb.head.symm) ((h.other hb.row (by decide) (by decide)).trans hb.row.symm)
structure DrAt (w : World) (base bd : Nat) (B : Sto) (n : Nat) (vs ws : List Int) (m : Nat) (sv : Value) (S : List (Nat × Nat)) : Prop where
 head : w.heap[bd]? = some (.cells #[sto B, sv, .int .i64 0] 295)
 own : w.ownsRow base 352 1 sv S.length (S.map (fun p => ptr p.2))
 bB : base ≤ bd
 sh : ∀ p ∈ S, base ≤ p.2 ∧ p.1 < n ∧ ∃ A : Array Value, A.size = 32 ∧ w.heap[p.2]? = some (.cells (shRow p.1 A (urow (frameOf ws p.1))) 354)
 nd : (S.map (fun p => p.1)).Nodup
 out : ∀ k, k < n → k ∉ S.map (fun p => p.1) → frameOf ws k = frameOf vs k
 len : ws.length = n * 32
 disk : Dk w B n vs (m + S.length)
 nn : n ≤ 1024
section
variable {w w' : World} {base bd n m k : Nat} {B : Sto} {vs ws : List Int} {sv : Value} {S : List (Nat × Nat)}
theorem DrAt.few (h : DrAt w base bd B n vs ws m sv S) : S.length ≤ n := by
 have := nodup_le n (S.map (fun p => p.1)) h.nd (fun x hx => by
   obtain ⟨p, hp, rfl⟩ := List.mem_map.1 hx
   exact (h.sh p hp).2.1)
 simpa using this
theorem DrAt.isd (h : DrAt w base bd B n vs ws m sv S) : IsD w bd := ⟨_, _, _, h.head, Or.inl rfl⟩
theorem DrAt.isq (h : DrAt w base bd B n vs ws m sv S) {p : Nat × Nat} (hp : p ∈ S) : IsD w p.2 := by
 obtain ⟨_, _, A, _, hh⟩ := h.sh p hp;exact ⟨_, _, _, hh, Or.inr (Or.inl rfl)⟩
theorem DrAt.iso (h : DrAt w base bd B n vs ws m sv S) {g : Nat} (hg : sv.ownBlock = some g) : base ≤ g ∧ IsD w g := by
 obtain ⟨h1, cs, h2⟩ := own_type h.own hg;exact ⟨h1, cs, _, _, h2, Or.inr (Or.inr rfl)⟩
theorem isD_not_st (h : IsD w k) : ¬ IsSt w k := by
 obtain ⟨_, _, _, e, ht⟩ := h;refine not_isSt e ?_
 rcases ht with rfl | rfl | rfl <;> decide
theorem DrAt.keep (h : DrAt w base bd B n vs ws m sv S) (hk : ∀ k, base ≤ k → IsD w k → w'.heap[k]? = w.heap[k]?) (hs : ∀ k, IsSt w k → w'.heap[k]? = w.heap[k]?) : DrAt w' base bd B n vs ws m sv S := by
 refine ⟨(hk bd h.bB h.isd).trans h.head, ownsRow_at h.own (fun g hg => hk g (h.iso hg).1 (h.iso hg).2), h.bB, fun p hp => ?_, h.nd, h.out, h.len, h.disk.keep hs, h.nn⟩;obtain ⟨h1, h2, A, h3, h4⟩ := h.sh p hp;exact ⟨h1, h2, A, h3, (hk _ h1 (h.isq hp)).trans h4⟩
theorem DrAt.below (h : DrAt w base bd B n vs ws m sv S) (hb : Below w.heap.size w w') : DrAt w' base bd B n vs ws m sv S := by
 exact h.keep (fun k _ ⟨_, _, _, e, _⟩ => hb.block k (lt_of_heap e)) (fun k hk => hb.block k hk.lt)
theorem DrAt.put (h : DrAt w base bd B n vs ws m sv S) {b q : Nat} (hq : (b, q) ∈ S) {us : List Int} (hl : us.length = 32)
  (hw : ∀ A : Array Value, A.size = 32 → w.heap[q]? = some (.cells (shRow b A (urow (frameOf ws b))) 354) → w'.heap[q]? = some (.cells (shRow b A (urow us)) 354)) (hu : Upd q w w') :
  DrAt w' base bd B n vs (splice ws (b * 32) us) m sv S ∧ DT base B w w' := by
 obtain ⟨hq1, hbn, A, hA, hh⟩ := h.sh _ hq;dsimp only at hq1 hbn hh
 have hbd : bd ≠ q := by
  intro e;have := h.head;rw [e, hh] at this;simp only [Option.some.injEq, Obj.cells.injEq] at this;exact absurd this.2.1 (by decide)
 have hsl : (splice ws (b * 32) us).length = n * 32 := by rw [splice_length _ _ _ (by rw [h.len, hl]; omega), h.len]
 refine ⟨⟨(hu.block _ (lt_of_heap h.head) hbd).trans h.head, ownsRow_at h.own (fun g hg => ?_), h.bB, fun p hp => ?_, h.nd, fun k hk hn => ?_, hsl, h.disk.other hu (not_isSt hh (by decide)), h.nn⟩, DT.of_own hu hq1 ⟨_, _, _, hh, Or.inr (Or.inl rfl)⟩⟩
 ·obtain ⟨h1, cs, h2⟩ := own_type h.own hg
  refine hu.block _ (lt_of_heap h2) (fun e => ?_);rw [e, hh] at h2;simp only [Option.some.injEq, Obj.cells.injEq] at h2;exact absurd h2.2.1 (by decide)
 ·obtain ⟨h1, h2, A', h3, h4⟩ := h.sh p hp
  rw [frame_splice ws us n b p.1 h.len hbn h2 hl]
  by_cases e : p.2 = q
  ·have e1 : p.1 = b := by
    rw [e, hh] at h4;simp only [Option.some.injEq, Obj.cells.injEq] at h4;have h5 := congrArg (fun z => z[0]?) h4.1;simp only [shRow_0, Option.some.injEq, Value.int.injEq, true_and] at h5;omega
   rw [if_pos e1];refine ⟨h1, h2, A', h3, ?_⟩;rw [e, e1] at h4 ⊢;exact hw A' h3 h4
  ·have e1 : p.1 ≠ b := by
    intro e1;exact e (by rw [nd_fst h.nd hp hq e1])
   rw [if_neg e1];exact ⟨h1, h2, A', h3, (hu.block _ (lt_of_heap h4) e).trans h4⟩
 ·rw [frame_splice ws us n b k h.len hbn hk hl, if_neg (fun e => hn (by rw [e]; exact List.mem_map.2 ⟨_, hq, rfl⟩))]
  exact h.out k hk hn
end
theorem wpList_build_eq {P : Program} {ops : Array Oper} {rest : List Oper} {o : Oper} {a : Act} {w : World} {Q : Exit → Act → World → Prop} (hg : o.guard = none) (t : TypeId) (parts : Array (Nat × Operand)) (ho : o.op = .build t parts) (cells : Array Value)
  (hb : P.built t (parts.map fun (i, x) => (i, a.eval x)).toList = some cells) (h : wpList P ops Q rest (a.put o.dst (.agg cells)) w) : wpList P ops Q (o :: rest) a w :=
 wpList_build hg t parts ho (by rw [hb]; rfl) (by rw [hb]; exact h)
theorem sheetInfo : (Tryz.prog.info? 352).map (fun i => (i.zero, i.size, i.bytes)) = some (some (.pointer none), 1, 8) := by kernel_rfl
def DrQ (w : World) (base bd : Nat) (B : Sto) (n : Nat) (vs ws : List Int) (m b q : Nat) : Prop := ∃ sv S, DrAt w base bd B n vs ws m sv S ∧ (b, q) ∈ S
def Dr (w : World) (base bd : Nat) (B : Sto) (n : Nat) (vs ws : List Int) (m : Nat) : Prop := ∃ sv S, DrAt w base bd B n vs ws m sv S
section
variable {w w' : World} {base bd n m : Nat} {B : Sto} {vs ws : List Int}
theorem DrQ.dr {b q : Nat} (h : DrQ w base bd B n vs ws m b q) : Dr w base bd B n vs ws m := by
 obtain ⟨sv, S, h, _⟩ := h;exact ⟨sv, S, h⟩
theorem Dr.below (h : Dr w base bd B n vs ws m) (hb : Below w.heap.size w w') : Dr w' base bd B n vs ws m := by
 obtain ⟨sv, S, h⟩ := h;exact ⟨sv, S, h.below hb⟩
theorem Dr.len (h : Dr w base bd B n vs ws m) : ws.length = n * 32 := by
 obtain ⟨sv, S, h⟩ := h;exact h.len
theorem Dr.cells (h : Dr w base bd B n vs ws m) : ∃ sv, w.cell? ⟨bd, 0, none⟩ = some (sto B) ∧ w.cell? ⟨bd, 1, none⟩ = some sv ∧ w.cell? ⟨bd, 2, none⟩ = some (.int .i64 0) := by
 obtain ⟨sv, S, h⟩ := h;exact ⟨sv, by rw [cell_of_heap h.head]; rfl, by rw [cell_of_heap h.head]; rfl, by rw [cell_of_heap h.head]; rfl⟩
theorem DrQ.row {b q : Nat} (h : DrQ w base bd B n vs ws m b q) : ∃ A : Array Value, A.size = 32 ∧ w.heap[q]? = some (.cells (shRow b A (urow (frameOf ws b))) 354) ∧ base ≤ q ∧ b < n := by
 obtain ⟨sv, S, h, hq⟩ := h;obtain ⟨h1, h2, A, h3, h4⟩ := h.sh _ hq;exact ⟨A, h3, h4, h1, h2⟩
theorem DrQ.word {b q j : Nat} (h : DrQ w base bd B n vs ws m b q) (hj : j < 32) : w.cell? ⟨q, 33 + j, none⟩ = some (.int .u64 ((frameOf ws b).getD j 0)) := by
 have hl : ws.length = n * 32 := h.dr.len;obtain ⟨A, hA, hh, _, hb⟩ := h.row;rw [cell_of_heap hh, shRow_now hA, urow_get _ _ (by rw [frameOf_length ws b n hl hb]; exact hj)]
theorem DrQ.free {b q j : Nat} (h : DrQ w base bd B n vs ws m b q) : w.frozen? ⟨q, j, none⟩ = false := by
 obtain ⟨A, hA, hh, _, _⟩ := h.row;exact frozen_of_heap hh
theorem shRow_set {k : Nat} {A : Array Value} {xs : List Int} (hA : A.size = 32) (j : Nat) (x : Int) : (shRow k A (urow xs)).setIfInBounds (33 + j) (.int .u64 x) = shRow k A (urow (xs.set j x)) := by
 unfold shRow
 apply Array.ext_getElem?
 intro i;rw [Array.getElem?_setIfInBounds]
 by_cases e : 33 + j = i
 ·subst e
  rw [if_pos rfl, Array.getElem?_append_right (by simp [hA])];simp only [Array.size_append, hA, urow_size, List.length_set]
  by_cases q : j < xs.length
  ·rw [if_pos (by simp; omega)]
   simp [urow, q]
  ·rw [if_neg (by simp; omega)]
   simp [urow];omega
 ·rw [if_neg e]
  by_cases q : i < 33
  ·rw [Array.getElem?_append_left (xs := #[Value.int .i64 (k : Int)] ++ A) (by simp [hA]; omega), Array.getElem?_append_left (xs := #[Value.int .i64 (k : Int)] ++ A) (by simp [hA]; omega)]
  ·rw [Array.getElem?_append_right (by simp [hA]; omega), Array.getElem?_append_right (by simp [hA]; omega)]
   simp only [urow, hA, Array.size_append, List.size_toArray, List.length_cons, List.length_nil, List.getElem?_toArray, List.getElem?_map];rw [List.getElem?_set_ne (by omega)]
theorem DrQ.set {b q j : Nat} {x : Int} (h : DrQ w base bd B n vs ws m b q) (hj : j < 32) :
  DrQ (w.setCell ⟨q, 33 + j, none⟩ (.int .u64 x)) base bd B n vs (splice ws (b * 32) ((frameOf ws b).set j x)) m b q ∧ DT base B w (w.setCell ⟨q, 33 + j, none⟩ (.int .u64 x)) := by
 have hl : ws.length = n * 32 := h.dr.len;obtain ⟨_, _, _, _, hb⟩ := h.row;obtain ⟨sv, S, h, hq⟩ := h
 obtain ⟨h1, h2⟩ := h.put hq (us := (frameOf ws b).set j x) (w' := w.setCell ⟨q, 33 + j, none⟩ (.int .u64 x)) (by rw [List.length_set, frameOf_length ws b n hl hb]) (fun A hA hh => by
   rw [setCell_eq_setRow w q _ _ _ _ _ hh, setRow_heap w q _ _ _ _ hh, shRow_set hA]) (Upd.setCell _ _ _ _)
 exact ⟨⟨sv, S, h1, hq⟩, h2⟩
theorem DrQ.lay {b q : Nat} {us : List Int} (h : DrQ w base bd B n vs ws m b q) (hu : us.length = 32) (hw : ∀ A : Array Value, A.size = 32 → w.heap[q]? = some (.cells (shRow b A (urow (frameOf ws b))) 354) → w'.heap[q]? = some (.cells (shRow b A (urow us)) 354)) (hU : Upd q w w') :
  DrQ w' base bd B n vs (splice ws (b * 32) us) m b q ∧ DT base B w w' := by
 obtain ⟨sv, S, h, hq⟩ := h;obtain ⟨h1, h2⟩ := h.put hq hu hw hU;exact ⟨⟨sv, S, h1, hq⟩, h2⟩
theorem DrAt.grow {sv sv' : Value} {S : List (Nat × Nat)} (h : DrAt w base bd B n vs ws m sv S) {w1 w4 w5 : World} {b q : Nat} {R : Array Value} (hb : b < n) (hnot : b ∉ S.map (fun p => p.1)) (hd1 : Dk w1 B n vs (m + S.length + 1))
  (hu1 : ST B.lo w w1) (hq : w1.heap.size ≤ q) (h4 : Below w1.heap.size w1 w4) (hq4 : w4.heap[q]? = some (.cells (shRow b R R) 354)) (hR : R = urow (frameOf vs b))
  (hgrow : w4.grownBy w5 sv.ownBlock) (hown5 : w5.ownsRow base 352 1 sv' (S.length + 1) (S.map (fun p => ptr p.2) ++ [ptr q])) :
  DrAt (w5.setCell ⟨bd, 1, none⟩ sv') base bd B n vs ws m sv' (S ++ [(b, q)]) ∧ DT base B w (w5.setCell ⟨bd, 1, none⟩ sv') := by
 have hbB := h.bB;have hs1 := hu1.size;have hbl := lt_of_heap h.head
 have hv : ∀ g, sv.ownBlock = some g → base ≤ g ∧ g < w.heap.size ∧ IsD w g ∧ g ≠ bd := by
  intro g hg;obtain ⟨h1, cs, h2⟩ := own_type h.own hg;refine ⟨h1, lt_of_heap h2, ⟨_, _, _, h2, Or.inr (Or.inr rfl)⟩, fun e => ?_⟩;have h3 := h.head;rw [← e, h2] at h3;simp only [Option.some.injEq, Obj.cells.injEq] at h3;exact absurd h3.2.1 (by decide)
 have old1 : ∀ k, k < w1.heap.size → sv.ownBlock ≠ some k → w5.heap[k]? = w1.heap[k]? := fun k hk hn => (hgrow.block k (Nat.lt_of_lt_of_le hk h4.size) (fun e => hn e.symm)).trans (h4.block k hk)
 have old : ∀ k, k < w.heap.size → (k < B.lo ∨ ¬ IsSt w k) → sv.ownBlock ≠ some k → w5.heap[k]? = w.heap[k]? := fun k hk hB hn => (old1 k (by omega) hn).trans (hu1.block k hk hB id)
 have hst1 : ∀ k, IsSt w1 k → k ≠ bd ∧ sv.ownBlock ≠ some k := fun k hk => by
  refine ⟨fun e => ?_, fun e => ?_⟩
  ·have e1 := hu1.other h.head (by decide)
   rw [← e] at e1;exact not_isSt e1 (by decide) hk
  ·obtain ⟨_, cs, e1⟩ := own_type h.own e
   exact not_isSt (hu1.other e1 (by decide)) (by decide) hk
 have hh5 : w5.heap[bd]? = some (.cells #[sto B, sv, .int .i64 0] 295) := (old bd hbl (Or.inr (isD_not_st h.isd)) (fun e => (hv bd e).2.2.2 rfl)).trans h.head;have hq5 : w5.heap[q]? = some (.cells (shRow b R R) 354) := (hgrow.block q (lt_of_heap hq4) (fun e => by have := (hv q e.symm).2.1; omega)).trans hq4;refine ⟨⟨?_, ?_, hbB, fun p hp => ?_, ?_, fun k hk hn => h.out k hk (fun e => hn (by simp [e])), h.len, ?_, h.nn⟩, ⟨?_, ?_, ?_, ?_, fun k hk hB hg => ?_⟩⟩
 ·rw [setCell_eq_setRow w5 bd 1 _ _ _ _ hh5, setRow_heap w5 bd _ _ _ _ hh5]
  rfl
 ·rw [List.length_append, List.map_append]
  refine ownsRow_at hown5 (fun g hg => Below.heap_setCell _ _ _ _ ?_)
  show g ≠ bd
  intro e;obtain ⟨_, cs, h2⟩ := own_type hown5 hg;rw [e, hh5] at h2;simp only [Option.some.injEq, Obj.cells.injEq] at h2;exact absurd h2.2.1 (by decide)
 ·rcases List.mem_append.1 hp with hp | hp
  ·obtain ⟨h1, h2, A, h3, h4'⟩ := h.sh p hp
   refine ⟨h1, h2, A, h3, ?_⟩
   rw [Below.heap_setCell _ _ _ _ (show p.2 ≠ bd from fun e => by
     have h5 := h.head;rw [← e, h4'] at h5;simp only [Option.some.injEq, Obj.cells.injEq] at h5
     exact absurd h5.2.1 (by decide)), old p.2 (lt_of_heap h4') (Or.inr (isD_not_st (h.isq hp))) (fun e => by
     obtain ⟨_, cs, h5⟩ := own_type h.own e;rw [h4'] at h5;simp only [Option.some.injEq, Obj.cells.injEq] at h5
     exact absurd h5.2.1 (by decide))]
   exact h4'
  ·simp only [List.mem_singleton] at hp
   subst hp;refine ⟨by show base ≤ q; omega, hb, R, by rw [hR, urow_size, frameOf_length vs b n hd1.len hb], ?_⟩
   show (w5.setCell ⟨bd, 1, none⟩ sv').heap[q]? = _
   rw [Below.heap_setCell _ _ _ _ (show q ≠ bd by omega), hq5, h.out b hb hnot, ← hR]
 ·rw [List.map_append, List.nodup_append]
  refine ⟨h.nd, by simp, fun x hx y hy e => ?_⟩;simp only [List.map_cons, List.map_nil, List.mem_singleton] at hy;subst hy;subst e;exact hnot hx
 ·rw [List.length_append]
  exact hd1.keep (fun k hk => (Below.heap_setCell _ _ _ _ (show k ≠ bd from (hst1 k hk).1)).trans (old1 k hk.lt (hst1 k hk).2))
 ·exact hgrow.os.trans (h4.os.trans hu1.os)
 ·exact hgrow.tape.trans (h4.tape.trans hu1.tape)
 ·exact hgrow.output.trans (h4.output.trans hu1.output)
 ·have a1 := hgrow.size
  have a2 := h4.size;simp only [World.setCell, Array.size_modify];omega
 ·have hne : k ≠ bd := by
   rintro rfl
   rcases hg with hg | hg
   ·omega
   ·exact hg h.isd
  rw [Below.heap_setCell _ _ _ _ (show k ≠ bd from hne)];refine old k hk hB (fun e => ?_)
  rcases hg with hg | hg
  ·have := (hv k e).1; omega
  ·exact hg (hv k e).2.2.1
theorem dat_at (h : Dr w base bd B n vs ws m) (b : Nat) (hb : b < n) (hm : m ≤ 900000000000) :
  Calls Tryz.prog 170 #[ptr bd, .int .i64 b] w fun e w' => ∃ q, e = .returned (.pointer (some ⟨q, 33, none⟩)) ∧ DrQ w' base bd B n vs ws m b q ∧ DT base B w w' := by
 obtain ⟨sv, S, h⟩ := h;have HH := hid h;obtain ⟨a, cap, rfl⟩ := own_slice h.own
 have c0 : w.cell? ⟨bd, 0, none⟩ = some (sto B) := by rw [cell_of_heap h.head]; rfl
 have c1 : w.cell? ⟨bd, 1, none⟩ = some (.slice a S.length cap) := by rw [cell_of_heap h.head]; rfl
 have c2 : w.cell? ⟨bd, 2, none⟩ = some (.int .i64 0) := by rw [cell_of_heap h.head]; rfl
 have hle := h.few;have hnn := h.nn
 have HS : Hid (∀ k, k < S.length → ∃ g q0 q, S[k]? = some (q0, q) ∧ a = some ⟨g, 0, none⟩ ∧ w.cell? ⟨g, k, none⟩ = some (ptr q) ∧ w.cell? ⟨q, 0, none⟩ = some (.int .i64 (q0 : Int))) := by
  intro k hk
  rcases h.own.2 with ⟨_, e⟩ | ⟨g, cap', cur, e2, hg, hh, hc, _, hcs, ht⟩
  ·omega
  ·simp only [Value.slice.injEq] at e2
   obtain ⟨e2, -, -⟩ := e2;have hp := List.getElem?_eq_getElem hk;obtain ⟨_, _, A, hA, hq⟩ := h.sh _ (List.getElem_mem hk);refine ⟨g, S[k].1, S[k].2, hp, e2, ?_, by rw [cell_of_heap hq]; exact shRow_0 _ _ _⟩;rw [cell_of_heap hh]
   have e1 : (cur.toList.take (S.length * 1))[k]? = (S.map (fun p => ptr p.2))[k]? := by rw [ht]
   rw [List.getElem?_take_of_lt (by omega), List.getElem?_map, hp] at e1
   simpa using e1
 clear h;obtain ⟨L, hL⟩ : ∃ L, L = S.length := ⟨_, rfl⟩;have HL := hid hL;rw [← hL] at c1 hle HS;clear hL
 go_enter Tryz.func170, Tryz.ntmps170
 go_wp2
 go_loopw [15] (fun s wr => ∃ (k : Nat), k ≤ L ∧ s = .int .i64 k ∧ wr = w ∧ Hid (∀ j p, j < k → S[j]? = some p → p.1 ≠ b)) (fun s _ => L - (intOf s).toNat)
 case atStart => exact ⟨0, by omega, rfl, rfl, fun j p hj => by omega⟩
 case round =>
  obtain ⟨k, hk, rfl, rfl, HA⟩ := hrel
  by_cases hlt : k < L
  ·have hki : (k : Int) < (L : Int) := by omega
   obtain ⟨g, q0, q, hp, rfl, d0, d1⟩ := HS.out k hlt;have HP := hid hp;clear hp
   by_cases hq : q0 = b
   ·have hqb : ((q0 : Int) == (b : Int)) = true := by simp [hq]
    have HQ := hid hq;clear hq HA;go_wp2;go_ret;refine ⟨q, rfl, ⟨_, S, HH.out, ?_⟩, DT.refl _ _ _⟩;rw [← HQ.out];exact List.mem_of_getElem? HP.out
   ·have hqb : ((q0 : Int) == (b : Int)) = false := by simp; omega
    have HQ := hid hq;clear hq;go_wp2;go_roundw
    case rel =>
     refine ⟨k + 1, by omega, by go_num, by trivial, fun j p hj hp => ?_⟩
     by_cases e : j = k
     ·subst e
      have := HP.out;rw [this] at hp
      cases hp
      exact HQ.out
     ·exact HA.out j p (by omega) hp
    case measure => simp [intOf]; omega
  ·obtain rfl : k = L := by omega
   have hnot : b ∉ S.map (fun p => p.1) := by
    intro hm;obtain ⟨p, hp, e⟩ := List.mem_map.1 hm;obtain ⟨j, hj, ep⟩ := List.getElem_of_mem hp;exact HA.out j p (by have := HL.out; omega) (by rw [List.getElem?_eq_getElem hj, ep]) e
   have HNot := hid hnot;have hd := HH.out.disk;have hg := iget_at hd b hb (by have := HL.out; omega);have HLn : Hid _ := frameOf_length vs b n hd.len hb;have hz := lit_zc;clear hnot HA HS hd;have hown := HH.out.own;rw [← HL.out] at hown
   have hne : (Value.slice a k cap).ownBlock ≠ some bd := by
    intro e;obtain ⟨_, cs, h2⟩ := own_type hown e;have h5 := HH.out.head;rw [h2] at h5;simp only [Option.some.injEq, Obj.cells.injEq] at h5;exact absurd h5.2.1 (by decide)
   have HNE := hid hne;have hbl : bd < wr.heap.size := lt_of_heap HH.out.head
   have HfB : Hid (base ≤ wr.heap.size) := by have := HH.out.bB; show base ≤ _; omega
   obtain ⟨R, hR⟩ : ∃ R, R = urow (frameOf vs b) := ⟨_, rfl⟩;have HRq : Hid _ := hR
   have HRs : Hid (R.size = 32) := by show _ = _; rw [hR, urow_size]; exact HLn.out
   have HRo : Hid (R.all (·.oneCell') = true) := by show _ = _; rw [hR]; exact urow_one _
   obtain ⟨X, hX⟩ : ∃ X, X = shRow b R R := ⟨_, rfl⟩;have HXq : Hid _ := hX;rw [← hR] at hg;obtain ⟨i0, hi0, hzz⟩ := Option.map_eq_some_iff.1 sheetInfo;simp only [Prod.mk.injEq] at hzz;obtain ⟨hz0, hz1, hz2⟩ := hzz;have HOw : Hid _ := hown;clear hR hX hne hown
   go_wp2_with fail
   refine hg.mono ?_;rintro e w1 ⟨rfl, hd1, hu1⟩;have HD1 := hid hd1;have HU1 := hid hu1
   have hbl1 : bd < w1.heap.size := by have := hu1.size; omega
   have hheap := hu1.same HH.out.head (by decide);have c1' : w1.cell? ⟨bd, 1, none⟩ = some (.slice a k cap) := (World.cell?_of_block hheap).trans c1;have f1' : w1.frozen? ⟨bd, 1, none⟩ = false := frozen_of_heap (hheap.trans HH.out.head);have hown1 : w1.ownsRow base 352 1 (.slice a k cap) k (S.map (fun p => ptr p.2)) := ownsRow_at HOw.out (fun g hg => by obtain ⟨_, cs, h2⟩ := own_type HOw.out hg; exact hu1.same h2 (by decide));have HO1 : Hid _ := hown1
   have hs1 : base ≤ w1.heap.size := by have := HfB.out; have := hu1.size; omega
   obtain ⟨W2, hW2⟩ : ∃ W, W = w1.alloc (.cells R 296) := ⟨_, rfl⟩;have HW2 : Hid _ := hW2
   have HFZ : Hid ((((w1.alloc (.cells R 296)).alloc (.cells X 354)).alloc (.cells #[ptr (w1.heap.size + 1)] 352)).heap[bd]? = some (.cells #[sto B, .slice a k cap, .int .i64 0] 295)) := by
    show _ = _
    rw [Below.heap_alloc _ _ _ (by simp; omega), Below.heap_alloc _ _ _ (by simp; omega), Below.heap_alloc _ _ _ hbl1, hheap, HH.out.head, HL.out]
   clear hg hd1 hu1 hheap c0 c1 c2 hown1 hW2
   go_wp2_with (first
     | (refine wpList_store_row rfl 296 _ _ rfl w1.heap.size R rfl rfl 296 zc (heap_alloc_new _ _) (by rw [HRs.out]; exact contSize) (by rw [HRs.out]; rfl) HRo.out ?_; rw [setRow_alloc_new])
     | (refine wpList_load_row rfl 296 _ rfl w1.heap.size rfl 296 R (0, 0) _ (heap_alloc_new _ _) Tryz.underlying296 rfl (by rw [HRs.out]; exact contSize) ?_)
     | (refine wpList_build_eq rfl 354 _ rfl X (by rw [HXq.out, ← sheet_built HRs.out HRs.out]; go_simp) ?_)
     | (at_builtin; go_loud (refine wpList_append_lies _ rfl _ _ _ rfl base 352 i0 _ 1 8 Tryz.underlying293 hi0 hz0 hz1 hz2 rfl (by omega) (.slice a k cap) k (S.map (fun p => ptr p.2)) rfl (World.ownsRow.alloc (World.ownsRow.alloc (World.ownsRow.alloc HO1.out _) _) _) ⟨w1.heap.size + 1 + 1, 0, none⟩ 1 1 [ptr (w1.heap.size + 1)] rfl rfl (World.news_of_block (cs := #[ptr (w1.heap.size + 1)]) (t := 352) (fr := (0, 0)) (by have := heap_alloc_new ((w1.alloc (.cells R 296)).alloc (.cells X 354)) (.cells #[ptr (w1.heap.size + 1)] 352); simpa using this)) (by simp [Value.oneCell']) (by omega) (by unfold maxLen; omega) (by omega) (by simp; omega) _ rfl ?_; intro gg cap2 w5 hown5 hgrow hat hlt5; have h5 := (hgrow.block bd (by simp; omega) (Ne.symm HNE.out)).trans HFZ.out; have hcw : w5.cell? ⟨bd, 1, none⟩ = some (.slice a k cap) := (by rw [cell_of_heap h5]; rfl); have hfw : w5.frozen? ⟨bd, 1, none⟩ = false := frozen_of_heap h5; clear h5))
     | go_in)
   go_ret;have hb4 : Below w1.heap.size w1 (((w1.alloc (.cells R 296)).alloc (.cells X 354)).alloc (.cells #[ptr (w1.heap.size + 1)] 352)) := ((below_alloc _ _).trans ((below_alloc _ _).mono (by simp))).trans ((below_alloc _ _).mono (by simp; omega))
   have hq4 : (((w1.alloc (.cells R 296)).alloc (.cells X 354)).alloc (.cells #[ptr (w1.heap.size + 1)] 352)).heap[w1.heap.size + 1]? = some (.cells (shRow b R R) 354) := by
    rw [Below.heap_alloc _ _ _ (by simp), heap_alloc2_new, HXq.out]
   obtain ⟨r1, r2⟩ := HH.out.grow hb HNot.out HD1.out HU1.out (by omega) hb4 hq4 HRq.out (by rw [← HL.out]; exact hgrow) (by rw [← HL.out]; simpa using hown5);exact ⟨_, rfl, ⟨_, _, r1, by simp⟩, r2⟩
end
theorem frames_ext {n : Nat} {us ws : List Int} (hu : us.length = n * 32) (hw : ws.length = n * 32) (h : ∀ b, b < n → frameOf us b = frameOf ws b) : us = ws := by
 refine list_ext_getD _ _ (hu.trans hw.symm) fun i hi => ?_
 have hb : i / 32 < n := by omega
 have e := congrArg (fun l => l.getD (i % 32) 0) (h _ hb);simp only [frameOf_getD _ _ _ (Nat.mod_lt i (show 0 < 32 by omega))] at e;rw [show i / 32 * 32 + i % 32 = i by omega] at e;exact e
section
variable {w w' : World} {base bd n m : Nat} {B : Sto} {vs ws : List Int}
theorem dlay_at (h : Dr w base bd B n vs ws m) (hm : m ≤ 900000000000) :
  Calls Tryz.prog 174 #[ptr bd] w fun e w' => e = .returned (.int .i64 0) ∧ Dk w' B n ws (m + 2048) ∧ ST B.lo w w' := by
 obtain ⟨sv, S, h⟩ := h;have HH := hid h;obtain ⟨a, cap, rfl⟩ := own_slice h.own
 have c1 : w.cell? ⟨bd, 1, none⟩ = some (.slice a S.length cap) := by rw [cell_of_heap h.head]; rfl
 have c2 : w.cell? ⟨bd, 2, none⟩ = some (.int .i64 0) := by rw [cell_of_heap h.head]; rfl
 have hle := h.few;have hnn := h.nn;have hd := h.disk;have HD := hid hd
 have HS : Hid (∀ k, k < S.length → ∃ g q0 q, S[k]? = some (q0, q) ∧ a = some ⟨g, 0, none⟩ ∧ ¬ IsSt w g ∧ w.cell? ⟨g, k, none⟩ = some (ptr q)) := by
  intro k hk
  rcases h.own.2 with ⟨_, e⟩ | ⟨g, cap', cur, e2, hg, hh, hc, _, hcs, ht⟩
  ·omega
  ·simp only [Value.slice.injEq] at e2
   obtain ⟨e2, -, -⟩ := e2;have hp := List.getElem?_eq_getElem hk;refine ⟨g, S[k].1, S[k].2, hp, e2, not_isSt hh (by decide), ?_⟩;rw [cell_of_heap hh]
   have e1 : (cur.toList.take (S.length * 1))[k]? = (S.map (fun p => ptr p.2))[k]? := by rw [ht]
   rw [List.getElem?_take_of_lt (by omega), List.getElem?_map, hp] at e1
   simpa using e1
 clear h hd;obtain ⟨L, hL⟩ : ∃ L, L = S.length := ⟨_, rfl⟩;have HL := hid hL;rw [← hL] at c1 hle HS HD;clear hL
 go_enter Tryz.func174, Tryz.ntmps174
 go_wp2
 go_loopw [20] (fun s wr => ∃ (k : Nat) (us : List Int), k ≤ L ∧ s = .int .i64 k ∧ Dk wr B n us (m + L + k) ∧ ST B.lo w wr ∧ Hid (∀ b, b < n → frameOf us b = if b ∈ (S.take k).map (fun p => p.1) then frameOf ws b else frameOf vs b)) (fun s _ => L - (intOf s).toNat)
 case atStart => exact ⟨0, vs, by omega, rfl, HD.out, SU.refl _ _ _, fun b _ => by simp⟩
 case round =>
  obtain ⟨k, us, hk, rfl, hd, hu, HF⟩ := hrel;have HU := hid hu
  by_cases hlt : k < L
  ·have hki : (k : Int) < (L : Int) := by omega
   obtain ⟨g, q0, q, hp, rfl, hgS, d0⟩ := HS.out k hlt;have hmem := List.mem_of_getElem? hp;obtain ⟨hbq, hq0, A, hA, hq⟩ := HH.out.sh _ hmem;dsimp only at hbq hq0 hq;have hq' : wr.heap[q]? = some (.cells (shRow q0 A (urow (frameOf ws q0))) 354) := hu.other hq (by decide);have hbd' : wr.heap[bd]? = w.heap[bd]? := hu.same HH.out.head (by decide)
   have e0 : wr.cell? ⟨bd, 0, none⟩ = some (sto B) := by rw [cell_of_heap (hbd'.trans HH.out.head)]; rfl
   have e1 : wr.cell? ⟨g, k, none⟩ = some (ptr q) := (World.cell?_of_block (hu.block g (cell_lt d0) (Or.inr hgS) id)).trans d0
   have e2 : wr.cell? ⟨q, 0, none⟩ = some (.int .i64 (q0 : Int)) := by rw [cell_of_heap hq']; exact shRow_0 _ _ _
   have HLw : Hid _ := frameOf_length ws q0 n HH.out.len hq0
   have e3 : wr.rangeAt q 33 (uvs (frameOf ws q0)) := by
    intro j v hv;rw [cell_of_heap hq', shRow_now hA, urow]
    simpa [uvs] using hv
   obtain ⟨Rl, hRl⟩ : ∃ R, R = uvs (frameOf ws q0) := ⟨_, rfl⟩
   have HRl : Hid (Rl.length = 32) := by show _ = _; rw [hRl, uvs_len]; exact HLw.out
   have hput : Calls Tryz.prog 233 #[sto B, .int .i64 q0, .agg Rl.toArray] wr.drew fun e w' => e = .returned (.int .i64 0) ∧ Dk w' B n (splice us (q0 * 32) (frameOf ws q0)) (m + L + k + 1) ∧ ST B.lo wr.drew w' := by
    rw [hRl];exact iput_at (w := wr.drew) hd.drew q0 hq0 (by omega) (frameOf ws q0) HLw.out
   rw [← hRl] at e3;have HP := hid hp;have hs0 : wr.cell? ⟨bd, 0, none⟩ = some (sto B) ∧ wr.cell? ⟨q, 0, none⟩ = some (.int .i64 (q0 : Int)) ∧ wr.rangeAt q 33 Rl := ⟨e0, e2, e3⟩;have HKq : Hid (wr.heap[q]? = some (.cells (shRow q0 A (urow (frameOf ws q0))) 354) ∧ wr.heap[bd]? = w.heap[bd]?) := ⟨hq', hbd'⟩;have HDl : Hid (us.length = n * 32) := hd.len;have HDq := hid hq0;clear hp hmem hbq hq0 hA hq hq' hbd' hu hd e3 hRl d0 hgS HS
   go_wp2_with fail
   refine wp_region_held_drew (S := fun w' => w'.cell? ⟨bd, 0, none⟩ = some (sto B) ∧ w'.cell? ⟨q, 0, none⟩ = some (.int .i64 (q0 : Int)) ∧ w'.rangeAt q 33 Rl) (by kernel_rfl) hs0 (fun hHeld => ?_);refine tkz [0, 1, 2, 3, 4, 5, 6, 7, 8, 9, 10] ?_
   iterate 11
    refine tkq (v := ?_) rfl (Or.inl ⟨by kernel_rfl, ?_⟩) ?_
    rotate_left
    ·(intro w hSw; (try dsimp only at hSw); go_simp) <;> with_reducible rfl
    (try simp only [Act.put, lq])
   refine tkw ?_;refine tkv 11 (.agg (Rl).toArray) rfl (yieldsIf_load_mid (by kernel_rfl) 296 _ rfl q 33 rfl (Rl) _ (fun w h => h.2.2) Tryz.underlying296 rfl (by rw [HRl.out]; exact contSize)) ?_
   (try simp only [Act.put, lq])
   refine rdy 12 rfl fun K hK => ?_
   go_simp;refine hput.mono ?_;rintro e w1 ⟨rfl, hd1, hu1⟩;have HD1 := hid hd1;have hu2 : ST B.lo wr w1 := ⟨hu1.os, hu1.tape, hu1.output, hu1.size, hu1.block⟩;have HU1 : Hid (ST B.lo w w1) := HU.out.trans hu2
   have hs1 : w1.cell? ⟨bd, 0, none⟩ = some (sto B) ∧ w1.cell? ⟨q, 0, none⟩ = some (.int .i64 (q0 : Int)) ∧ w1.rangeAt q 33 Rl := by
    have hk1 := HKq.out;have b1 := hu2.same (hk1.2.trans HH.out.head) (by decide);have b2 := hu2.same hk1.1 (by decide);refine ⟨(World.cell?_of_block b1).trans hs0.1, (World.cell?_of_block b2).trans hs0.2.1, fun j v hv => (World.cell?_of_block b2).trans (hs0.2.2 j v hv)⟩
   clear hd1 hu1 hu2 hput;refine hK.out _ _ hs1 (fun hHeld => ?_);clear hK K
   (try simp only [Act.put, lq])
   refine tkz [13] ?_
   iterate 1
    refine tkq (v := ?_) rfl (Or.inl ⟨by kernel_rfl, ?_⟩) ?_
    rotate_left
    ·(intro w hSw; (try dsimp only at hSw); go_simp) <;> with_reducible rfl
    (try simp only [Act.put, lq])
   refine tkw ?_;refine wpAnyH_done (by kernel_rfl) ?_ _;clear hs0 hs1 e0 e2;go_wp2;go_roundw
   case rel =>
    refine ⟨k + 1, _, by omega, by go_num, HD1.out, HU1.out, fun b hb => ?_⟩;have hP : S[k]? = some (q0, q) := HP.out;rw [frame_splice us _ n q0 b HDl.out HDq.out hb HLw.out, HF.out b hb, List.take_add_one, hP]
    by_cases e : b = q0
    ·rw [if_pos e, if_pos (by simp [e]), e]
    ·rw [if_neg e]
     by_cases q1 : b ∈ (S.take k).map (fun p => p.1)
     ·rw [if_pos q1, if_pos (by rw [List.map_append]; exact List.mem_append_left _ q1)]
     ·rw [if_neg q1, if_neg (by rw [List.map_append, List.mem_append]; rintro (h | h); exact q1 h; simp at h; exact e h)]
   case measure => simp [intOf]; omega
  ·obtain rfl : k = L := by omega
   have hus : us = ws := frames_ext hd.len HH.out.len (fun b hb => by
     rw [HF.out b hb, HL.out, List.take_length]
     by_cases q1 : b ∈ S.map (fun p => p.1)
     · rw [if_pos q1]
     · rw [if_neg q1, HH.out.out b hb q1])
   have HE : Hid (Dk wr B n ws (m + k + k)) := by rw [← hus]; exact hd
   clear hd hu hus HS;go_wp2;go_ret;exact ⟨rfl, HE.out.mono (by omega), HU.out⟩
end
end Go.Proofs.YtinaeifpoljfoaaGreatDoor
