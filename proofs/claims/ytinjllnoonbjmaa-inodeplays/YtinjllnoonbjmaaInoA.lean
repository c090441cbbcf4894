/- Package inode over a disk: get, put; what is read and laid by value, 32 words at once. -/
import Derived.Test.YtinjllnoonbjmaaDiskB
import Derived.Test.YtinjllnoonbjmaaBitC
import Derived.Test.YtinjllnoonbjmaaInoP
import Derived.Deep.MidRow
import Derived.Laws.ResultCell
import Derived.Laws.Rows
import Derived.Laws.Tables
import Derived.Deep.RegionHeld3
import Derived.Deep.RegionLaw
import Derived.Deep.AppendLies
namespace Go.Proofs.Ytinjllnoonbjmaa
open Go.RowKit
set_option linter.unusedVariables false

abbrev ptr (b : Nat) : Value := .pointer (some ⟨b, 0, none⟩)
abbrev sto (b : Nat) : Value := .iface 23 (ptr b)
theorem below_alloc (w : World) (o : Obj) : Below w.heap.size w (w.alloc o) := (Below.refl _ _).alloc (Nat.le_refl _) _
theorem meth_get (b : Nat) (W : World) : (method 275 23 (ptr b) "Get").run Try.prog W = .ok (59, ptr b) W := by kernel_rfl
theorem meth_put (b : Nat) (W : World) : (method 275 23 (ptr b) "Put").run Try.prog W = .ok (110, ptr b) W := by kernel_rfl
theorem ahead_put (b : Nat) (W : World) : (nilAhead 275 23 (ptr b) "Put").run Try.prog W = .ok (some false) W := by kernel_rfl
theorem sto_nil (b : Nat) (W : World) : (binOp BinOp.eql 74 (sto b) .nilIface).run Try.prog W = .ok (.bool false) W := by kernel_rfl
/-- 32 words that are 0. -/
def zc : Array Value := urow (List.replicate 32 0)
theorem lit_zc : (#[.int .u64 0, .int .u64 0, .int .u64 0, .int .u64 0, .int .u64 0, .int .u64 0, .int .u64 0, .int .u64 0, .int .u64 0, .int .u64 0, .int .u64 0, .int .u64 0, .int .u64 0, .int .u64 0, .int .u64 0, .int .u64 0, .int .u64 0, .int .u64 0, .int .u64 0, .int .u64 0, .int .u64 0, .int .u64 0, .int .u64 0, .int .u64 0, .int .u64 0, .int .u64 0, .int .u64 0, .int .u64 0, .int .u64 0, .int .u64 0, .int .u64 0, .int .u64 0] : Array Value) = zc := rfl
theorem contSize : (Try.prog.info? 117).map (·.size) = some 32 := by kernel_rfl
theorem urow_one (xs : List Int) : (urow xs).all (·.oneCell') = true := by
  unfold urow
  refine all_oneCell_toArray (fun v hv => ?_)
  simp only [List.mem_map] at hv
  obtain ⟨x, _, rfl⟩ := hv
  rfl
theorem urow_get (xs : List Int) (j : Nat) (h : j < xs.length) : (urow xs)[j]? = some (.int .u64 (xs.getD j 0)) := by simp [urow, h]
theorem build_zero (W : World) : (Instr.build 117 #[]).run Try.prog W = .ok (.agg zc) W := run_build W _ _ _ (by kernel_rfl)

theorem Upd.far {g c : Nat} {w w1 : World} {R : Array Value} (h : Upd g w w1) (hc : w.heap.size ≤ c) : Upd g w (w1.setRow c R) :=
  ⟨h.os, h.tape, h.output, by have := h.size; simpa using this, fun k hk hg => (setRow_other _ _ _ _ (by omega)).trans (h.block k hk hg)⟩
/-- A copy of 32 words over 32. -/
theorem copy_cont {w : World} {g : Nat} {t : TypeId} {us ws : List Int} (h : w.heap[g]? = some (.cells (urow us) t)) (hu : us.length = 32) (hl : ws.length = 32) (p : Nat)
    (hw : ∀ (j : Nat) (x : Int), ws[j]? = some x → w.cell? ⟨p, j, none⟩ = some (.int .u64 x)) (ty : TypeId) (c1 c2 : Nat) :
    (Builtin.copy_ #[100, 100] ty #[.slice (some ⟨g, 0, none⟩) 32 c1, .slice (some ⟨p, 0, none⟩) 32 c2]).run Try.prog w = .ok (goInt 32) (w.setRow g (urow ws)) := by
  have hr := run_copy_row Try.prog w 100 100 ty 99 g 0 32 c1 ⟨p, 0, none⟩ 32 c2 (urow us) t (uvs ws) Try.underlying100 (by kernel_rfl) h
    (by simp [uvs_len, hl])
    (fun j v hv => by
      obtain ⟨x, hx, rfl⟩ := uvs_get hv
      rw [add0, Nat.zero_add]
      exact hw j x hx)
    (by simp [uvs_len, hl, urow_size, hu]) (uvs_one ws)
  rw [hr, urow_splice us 0 ws (uvs ws) rfl (by omega)]
  have e : splice us 0 ws = ws := by
    unfold splice
    rw [List.take_zero, List.nil_append, List.drop_eq_nil_of_le (by omega), List.append_nil]
  simp [uvs_len, hl, e]

section
variable {w w' : World} {B G n gt pt : Nat} {vs : List Int}
set_option maxHeartbeats 1000000 in
set_option maxRecDepth 100000 in
theorem iget_at (h : Di.DiskAt w B G n vs gt pt) (b : Nat) (hb : b < n) (hgt : gt ≤ 1000000) :
    Calls Try.prog 83 #[sto B, .int .i64 b] w fun e w' => e = .returned (.tuple #[.agg (urow (frameOf vs b)), .int .i64 0]) ∧ Di.DiskAt w' B G n vs (gt + 1) pt ∧ Upd B w w' := by
  have hme := meth_get B
  obtain ⟨W2, hW2⟩ : ∃ W, W = (w.alloc (.cells zc 117)).alloc (.cells zc 117) := ⟨_, rfl⟩
  have hb2 : Below w.heap.size w W2 := by rw [hW2]; exact (below_alloc w _).trans ((below_alloc _ _).mono (by simp))
  have HB2 : Hid (Below w.heap.size w W2) := hb2
  have hg2 := Di.get_at B G n vs gt pt b W2 (h.below hb2) (by omega) (by omega) hgt
  simp only [Int.toNat_natCast] at hg2
  have HL : Hid _ := frameOf_length vs b n h.len hb
  have hR0 : W2.heap[w.heap.size]? = some (.cells zc 117) := by rw [hW2]; exact heap_alloc2_old w _ _
  have hR1 : W2.heap[w.heap.size + 1]? = some (.cells zc 117) := by rw [hW2]; exact heap_alloc2_new w _ _
  have HR0 : Hid _ := hR0
  have HR1 : Hid _ := hR1
  have HW : Hid _ := hW2
  have HBlt : Hid (B < w.heap.size) := lt_of_heap h.head
  have HGlt : Hid (G < w.heap.size) := lt_of_heap h.row
  have hz := lit_zc
  clear h hb2 hW2 hR0 hR1
  go_enter Try.func83, Try.ntmps83
  go_wp2_with fail
  rw [← HW.out]
  refine hg2.mono ?_
  rintro e w1 ⟨gg, rfl, hr1, hd1, hu1⟩
  have HD1 : Hid _ := hd1
  have HS2 : Hid (w.heap.size + 1 < W2.heap.size) := lt_of_heap HR1.out
  have hne0 : w.heap.size ≠ B := by have := HBlt.out; omega
  have hne1 : w.heap.size + 1 ≠ B := by have := HBlt.out; omega
  have hR0 : w1.heap[w.heap.size]? = some (.cells zc 117) := (hu1.block _ (by have := HS2.out; omega) hne0).trans HR0.out
  have hR1 : w1.heap[w.heap.size + 1]? = some (.cells zc 117) := (hu1.block _ HS2.out hne1).trans HR1.out
  have HU1 : Hid (Upd B w w1) := (Upd.of_below HB2.out).trans hu1
  obtain ⟨a, cap, e, -, -, hf⟩ := hr1
  obtain ⟨g', cur, e2, -, hh, hcell⟩ := hf (by intro e; have := HL.out; rw [e] at this; simp at this)
  rw [HL.out] at e
  simp only [Value.slice.injEq] at e
  obtain ⟨e3, -, -⟩ := e
  rw [e2] at e3
  simp only [Option.some.injEq, Addr.mk.injEq] at e3
  have e4 : gg = g' := e3.1
  subst e4
  have hcp := fun ty c1 c2 => copy_cont (w := w1) (g := w.heap.size + 1) (us := List.replicate 32 0) (ws := frameOf vs b) hR1 (by simp) HL.out gg (fun j x hx => by rw [cell_of_heap hh]; exact hcell j x hx) ty c1 c2
  obtain ⟨R, hR⟩ : ∃ R, R = urow (frameOf vs b) := ⟨_, rfl⟩
  have HRq : Hid _ := hR
  have HRs : Hid (R.size = 32) := by show _ = _; rw [hR, urow_size]; exact HL.out
  have HRo : Hid (R.all (·.oneCell') = true) := by show _ = _; rw [hR]; exact urow_one _
  rw [← hR] at hcp
  obtain ⟨c1, hc1⟩ : ∃ c, c = w.heap.size + 1 := ⟨_, rfl⟩
  obtain ⟨c0, hc0⟩ : ∃ c, c = w.heap.size := ⟨_, rfl⟩
  have HC : Hid (c0 ≠ c1) := by show _ ≠ _; omega
  have HC0 : Hid (w.heap.size ≤ c0 ∧ w.heap.size ≤ c1) := by show _ ∧ _; omega
  have H2 : Hid ((w1.setRow c1 R).heap[c1]? = some (.cells R 117 (0, 0))) := by rw [← hc1] at hR1; exact setRow_heap w1 c1 _ _ _ _ hR1
  have H3 : Hid ((w1.setRow c1 R).heap[c0]? = some (.cells zc 117 (0, 0))) := by rw [← hc0] at hR0; exact (setRow_other _ _ _ _ HC.out).trans hR0
  have H4 : Hid (((w1.setRow c1 R).setRow c0 R).heap[c0]? = some (.cells R 117 (0, 0))) := setRow_heap _ c0 _ _ _ _ H3.out
  rw [← hc1] at hcp ⊢
  rw [← hc0]
  clear hR hR0 hR1 hu1 hd1 hg2 hne0 hne1 hf hh hcell e2 e3 hc1 hc0 hz hme
  go_wp2_with (first
    | (refine wpList_load_row rfl 117 _ rfl c1 rfl 117 R (0, 0) _ H2.out Try.underlying117 rfl (by rw [HRs.out]; exact contSize) ?_)
    | (refine wpList_store_row rfl 117 _ _ rfl c0 R rfl rfl 117 zc H3.out (by rw [HRs.out]; exact contSize) (by rw [HRs.out]; rfl) HRo.out ?_)
    | go_in)
  refine bodyPost_ret (v := .tuple #[.agg R, .int .i64 0]) ?_ rfl ⟨by rw [← HRq.out], ?_, ?_⟩
  · rw [results_cell_tmp rfl]
    show ((asAddr (.pointer (some ⟨c0, 0, none⟩))).run _ _).andThen _ = _
    simp only [asAddr, Sem.run_pure, Result.andThen_ok]
    rw [run_loadVar_row _ c0 _ _ R (0, 0) _ H4.out Try.underlying117 rfl (by rw [HRs.out]; exact contSize)]
    rfl
  · have hd : Di.DiskAt w1 B G n vs (gt + 1) pt := HD1.out
    exact hd.keep ((setRow_other _ _ _ _ (by have := HC0.out; have := HBlt.out; omega)).trans (setRow_other _ _ _ _ (by have := HC0.out; have := HBlt.out; omega))) ((setRow_other _ _ _ _ (by have := HC0.out; have := HGlt.out; omega)).trans (setRow_other _ _ _ _ (by have := HC0.out; have := HGlt.out; omega)))
  · exact ((HU1.out).far HC0.out.2).far HC0.out.1
/-- Words that can be read are laid on the disk. -/
theorem dput_at (h : Di.DiskAt w B G n vs gt pt) (b : Nat) (hb : b < n) (hpt : pt ≤ 1000000) (p : Nat) (ws : List Int) (cap : Nat) (hp : p ≠ B) (hl : ws.length = 32) (hw : ∀ (j : Nat) (x : Int), ws[j]? = some x → w.cell? ⟨p, j, none⟩ = some (.int .u64 x)) :
    Calls Try.prog 110 #[ptr B, .int .i64 b, .slice (some ⟨p, 0, none⟩) 32 cap] w fun e w' => e = .returned (.int .i64 0) ∧ Di.DiskAt w' B G n (splice vs (b * 32) ws) gt (pt + 1) ∧ UpdP (fun k => k = B ∨ k = G) w w' := by
  have h0 : (0 : Int) ≤ (b : Int) := by omega
  have h1 : (b : Int) < (n : Int) := by omega
  have hc0 := h.c0
  have hc2 := h.c2
  have hfz := h.free 2
  have H1 : Hid _ := h.put1
  have hd0 := h.put1.c0
  have hr := Di.copy_in h.put1 b hb p ws hl (fun j x hx => by
    rw [World.cell?_of_block (w := w) (a := ⟨p, j, none⟩) (Below.heap_setCell _ _ _ _ (by show p ≠ B; exact hp))]
    exact hw j x hx)
  have HL : Hid _ := hl
  clear hl hw hp
  go_enter Try.func110, Try.ntmps110
  go_wp2_with fail
  refine (Di.has_at B G n vs gt pt b _ h true (Di.inB_yes h0 h1)).mono ?_
  rintro e w' ⟨rfl, rfl⟩
  go_wp2
  go_ret
  refine ⟨rfl, (H1.out).lay _ _ (by rw [HL.out]; omega), ((Upd.setCell B 2 _ _).p _ (Or.inl rfl)).trans ((Upd.setRow G _ _).p _ (Or.inr rfl))⟩
set_option maxHeartbeats 1000000 in
set_option maxRecDepth 100000 in
theorem iput_at (h : Di.DiskAt w B G n vs gt pt) (b : Nat) (hb : b < n) (hpt : pt ≤ 1000000) (ws : List Int) (hl : ws.length = 32) :
    Calls Try.prog 69 #[sto B, .int .i64 b, .agg (urow ws)] w fun e w' => e = .returned (.int .i64 0) ∧ Di.DiskAt w' B G n (splice vs (b * 32) ws) gt (pt + 1) ∧ UpdP (fun k => k = B ∨ k = G) w w' := by
  have hme := meth_put B
  have hah := ahead_put B
  obtain ⟨R, hR⟩ : ∃ R, R = urow ws := ⟨_, rfl⟩
  obtain ⟨W, hW⟩ : ∃ W, W = w.alloc (.cells R 117) := ⟨_, rfl⟩
  have hb1 : Below w.heap.size w W := by rw [hW]; exact below_alloc _ _
  have HB1 : Hid (Below w.heap.size w W) := hb1
  have hrow : W.heap[w.heap.size]? = some (.cells R 117) := by rw [hW]; exact heap_alloc_new _ _
  have HP : Hid (∀ q, Calls Try.prog 110 #[ptr B, .int .i64 b, .slice (some ⟨w.heap.size, 0, none⟩) 32 32] (W.drewN q) fun e w' => e = .returned (.int .i64 0) ∧ Di.DiskAt w' B G n (splice vs (b * 32) ws) gt (pt + 1) ∧ UpdP (fun k => k = B ∨ k = G) (W.drewN q) w') := fun q =>
    dput_at (w := W.drewN q) ((h.below hb1).keep rfl rfl) b hb hpt w.heap.size ws 32 (by have := lt_of_heap h.head; omega) hl (fun j x hx => by
      have hj : j < ws.length := (List.getElem?_eq_some_iff.1 hx).1
      show W.cell? _ = _
      rw [cell_of_heap hrow, hR, urow_get ws j hj, List.getD_eq_getElem?_getD, hx]
      rfl)
  have HRs : Hid (R.size = 32) := by show _ = _; rw [hR, urow_size]; exact hl
  have HW : Hid _ := hW
  rw [← hR]
  clear hR hb1 hrow hW h hl
  go_enter Try.func69, Try.ntmps69
  go_wp2_with fail
  rw [← HW.out]
  clear HW
  refine wp_region_held_drew (S := fun _ => True) (by kernel_rfl) trivial (fun hHeld => ?_)
  refine wpAnyH_take (i := 0) (v := ?_) rfl (by kernel_rfl) (by kernel_rfl) (by kernel_rfl) (fun _ _ _ h => h) (Or.inl ⟨by kernel_rfl, ?_⟩) (by assumption) ?_
  rotate_left
  · (intro w hSw; (try dsimp only at hSw); go_simp) <;> with_reducible rfl
  (try simp only [Act.put, List.getElem_toArray, List.getElem_cons_zero, List.setIfInBounds_toArray, List.set_cons_zero, List.set_cons_succ])
  refine wpAnyH_take (i := 1) (v := ?_) rfl (by kernel_rfl) (by kernel_rfl) (by kernel_rfl) (fun _ _ _ h => h) (Or.inl ⟨by kernel_rfl, ?_⟩) (by assumption) ?_
  rotate_left
  · (intro w hSw; (try dsimp only at hSw); go_simp) <;> with_reducible rfl
  (try simp only [Act.put, List.getElem_toArray, List.getElem_cons_zero, List.getElem_cons_succ, List.setIfInBounds_toArray, List.set_cons_zero, List.set_cons_succ])
  refine wpAnyH_take (i := 2) (v := ?_) rfl (by kernel_rfl) (by kernel_rfl) (by kernel_rfl) (fun _ _ _ h => h) (Or.inl ⟨by kernel_rfl, ?_⟩) (by assumption) ?_
  rotate_left
  · (intro w hSw; (try dsimp only at hSw); go_simp) <;> with_reducible rfl
  (try simp only [Act.put, List.getElem_toArray, List.getElem_cons_zero, List.getElem_cons_succ, List.setIfInBounds_toArray, List.set_cons_zero, List.set_cons_succ])
  refine wpAnyH_take (i := 3) (v := ?_) rfl (by kernel_rfl) (by kernel_rfl) (by kernel_rfl) (fun _ _ _ h => h) (Or.inl ⟨by kernel_rfl, ?_⟩) (by assumption) ?_
  rotate_left
  · (intro w hSw; (try dsimp only at hSw); go_simp) <;> with_reducible rfl
  (try simp only [Act.put, List.getElem_toArray, List.getElem_cons_zero, List.getElem_cons_succ, List.setIfInBounds_toArray, List.set_cons_zero, List.set_cons_succ])
  refine wpAnyH_take (i := 4) (v := ?_) rfl (by kernel_rfl) (by kernel_rfl) (by kernel_rfl) (fun _ _ _ h => h) (Or.inl ⟨by kernel_rfl, ?_⟩) (by assumption) ?_
  rotate_left
  · (intro w hSw; (try dsimp only at hSw); go_simp) <;> with_reducible rfl
  (try simp only [Act.put, List.getElem_toArray, List.getElem_cons_zero, List.getElem_cons_succ, List.setIfInBounds_toArray, List.set_cons_zero, List.set_cons_succ])
  refine wpAnyH_take (i := 5) (v := ?_) rfl (by kernel_rfl) (by kernel_rfl) (by kernel_rfl) (fun _ _ _ h => h) (Or.inl ⟨by kernel_rfl, ?_⟩) (by assumption) ?_
  rotate_left
  · (intro w hSw; (try dsimp only at hSw); go_simp) <;> with_reducible rfl
  (try simp only [Act.put, List.getElem_toArray, List.getElem_cons_zero, List.getElem_cons_succ, List.setIfInBounds_toArray, List.set_cons_zero, List.set_cons_succ])
  refine wpAnyH_ready (rs := [6]) (by kernel_rfl) (by simp) ?_
  refine AllReadyH.cons rfl (fun K hK => ?_) AllReadyH.nil
  go_simp
  refine (HP.out 1).mono ?_
  rintro e w1 ⟨rfl, hd1, hu1⟩
  have HD1 : Hid _ := hd1
  have HU1 : Hid (UpdP (fun k => k = B ∨ k = G) w w1) := ((UpdP.of_below HB1.out).trans (UpdP.of_below (Di.drewN_below ⟨1, rfl⟩))).trans hu1
  clear hd1 hu1 HP
  refine hK.out _ _ trivial (fun hHeld => ?_)
  clear hK K
  (try simp only [Act.put, List.getElem_toArray, List.getElem_cons_zero, List.getElem_cons_succ, List.setIfInBounds_toArray, List.set_cons_zero, List.set_cons_succ])
  refine wpAnyH_take (i := 7) (v := ?_) rfl (by kernel_rfl) (by kernel_rfl) (by kernel_rfl) (fun _ _ _ h => h) (Or.inl ⟨by kernel_rfl, ?_⟩) (by assumption) ?_
  rotate_left
  · (intro w hSw; (try dsimp only at hSw); go_simp) <;> with_reducible rfl
  (try simp only [Act.put, List.getElem_toArray, List.getElem_cons_zero, List.getElem_cons_succ, List.setIfInBounds_toArray, List.set_cons_zero, List.set_cons_succ])
  refine wpAnyH_done (by kernel_rfl) ?_ _
  go_wp2
  go_ret
  exact ⟨rfl, HD1.out, HU1.out⟩
end
end Go.Proofs.Ytinjllnoonbjmaa
