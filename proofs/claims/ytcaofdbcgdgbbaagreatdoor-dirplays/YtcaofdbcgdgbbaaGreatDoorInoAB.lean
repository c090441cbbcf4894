/- Package inode over a disk: get, put; what is read and laid by value, 32 words at once. -/
/- Package inode: a draft in the heap: the sheets of the blocks that a call changes; at. -/
import Derived.Test.YtcaofdbcgdgbbaaGreatDoorDiskAB
import Derived.Test.YtcaofdbcgdgbbaaGreatDoorBitAll
import Derived.Test.YtcaofdbcgdgbbaaGreatDoorInoPl
import Derived.Deep.MidRow
import Derived.Laws.ResultCell
import Derived.Laws.Rows
import Derived.Laws.Tables
import Derived.Deep.RegionHeld3
import Derived.Deep.RegionLaw
import Derived.Deep.AppendLies
import Derived.Great.FillDense
namespace Go.Proofs.YtcaofdbcgdgbbaaGreatDoor
open Go.RowKit
set_option linter.unusedVariables false

abbrev ptr (b : Nat) : Value := .pointer (some ⟨b, 0, none⟩)
abbrev sto (b : Nat) : Value := .iface 32 (ptr b)
theorem below_alloc (w : World) (o : Obj) : Below w.heap.size w (w.alloc o) := (Below.refl _ _).alloc (Nat.le_refl _) _
theorem meth_get (b : Nat) (W : World) : (method 337 32 (ptr b) "Get").run Tryz.prog W = .ok (63, ptr b) W := by kernel_rfl
theorem meth_put (b : Nat) (W : World) : (method 337 32 (ptr b) "Put").run Tryz.prog W = .ok (165, ptr b) W := by kernel_rfl
theorem ahead_put (b : Nat) (W : World) : (nilAhead 337 32 (ptr b) "Put").run Tryz.prog W = .ok (some false) W := by kernel_rfl
theorem sto_nil (b : Nat) (W : World) : (binOp BinOp.eql 73 (sto b) .nilIface).run Tryz.prog W = .ok (.bool false) W := by kernel_rfl
/-- 32 words that are 0. -/
def zc : Array Value := urow (List.replicate 32 0)
theorem lit_zc : (#[.int .u64 0, .int .u64 0, .int .u64 0, .int .u64 0, .int .u64 0, .int .u64 0, .int .u64 0, .int .u64 0, .int .u64 0, .int .u64 0, .int .u64 0, .int .u64 0, .int .u64 0, .int .u64 0, .int .u64 0, .int .u64 0, .int .u64 0, .int .u64 0, .int .u64 0, .int .u64 0, .int .u64 0, .int .u64 0, .int .u64 0, .int .u64 0, .int .u64 0, .int .u64 0, .int .u64 0, .int .u64 0, .int .u64 0, .int .u64 0, .int .u64 0, .int .u64 0] : Array Value) = zc := rfl
theorem contSize : (Tryz.prog.info? 122).map (·.size) = some 32 := by kernel_rfl
theorem urow_one (xs : List Int) : (urow xs).all (·.oneCell') = true := by
  unfold urow
  refine all_oneCell_toArray (fun v hv => ?_)
  simp only [List.mem_map] at hv
  obtain ⟨x, _, rfl⟩ := hv
  rfl
theorem urow_get (xs : List Int) (j : Nat) (h : j < xs.length) : (urow xs)[j]? = some (.int .u64 (xs.getD j 0)) := by simp [urow, h]
theorem build_zero (W : World) : (Instr.build 122 #[]).run Tryz.prog W = .ok (.agg zc) W := run_build W _ _ _ (by kernel_rfl)

theorem Upd.far {g c : Nat} {w w1 : World} {R : Array Value} (h : Upd g w w1) (hc : w.heap.size ≤ c) : Upd g w (w1.setRow c R) :=
  ⟨h.os, h.tape, h.output, by have := h.size; simpa using this, fun k hk hg => (setRow_other _ _ _ _ (by omega)).trans (h.block k hk hg)⟩
/-- A copy of 32 words over 32. -/
theorem copy_cont {w : World} {g : Nat} {t : TypeId} {us ws : List Int} (h : w.heap[g]? = some (.cells (urow us) t)) (hu : us.length = 32) (hl : ws.length = 32) (p : Nat)
    (hw : ∀ (j : Nat) (x : Int), ws[j]? = some x → w.cell? ⟨p, j, none⟩ = some (.int .u64 x)) (ty : TypeId) (c1 c2 : Nat) :
    (Builtin.copy_ #[113, 113] ty #[.slice (some ⟨g, 0, none⟩) 32 c1, .slice (some ⟨p, 0, none⟩) 32 c2]).run Tryz.prog w = .ok (goInt 32) (w.setRow g (urow ws)) := by
  have hr := run_copy_row Tryz.prog w 113 113 ty 120 g 0 32 c1 ⟨p, 0, none⟩ 32 c2 (urow us) t (uvs ws) Tryz.underlying113 (by kernel_rfl) h
    (by simp [uvs_len, hl])
    (fun j v hv => by
      obtain ⟨x, hx, rfl⟩ := uvs_get hv
      rw [add0, Nat.zero_add]
      exact hw j x hx)
    (by simp [uvs_len, hl, urow_size, hu]) (uvs_one ws)
  rw [hr, urow_splice us 0 ws (uvs ws) rfl (by omega)]
  have e : splice us 0 ws = ws := by
    unfold splice
    rw [List.take_zero, List.nil_append, List.drop_eq_nil_of_le (by omega), List.append_nil]
  simp [uvs_len, hl, e]

section
variable {w w' : World} {B G n gt pt : Nat} {vs : List Int}
set_option maxHeartbeats 1000000 in
set_option maxRecDepth 100000 in
theorem iget_at (h : Di.DiskAt w B G n vs gt pt) (b : Nat) (hb : b < n) (hgt : gt ≤ 1000000000000) :
    Calls Tryz.prog 97 #[sto B, .int .i64 b] w fun e w' => e = .returned (.tuple #[.agg (urow (frameOf vs b)), .int .i64 0]) ∧ Di.DiskAt w' B G n vs (gt + 1) pt ∧ Upd B w w' := by
  have hme := meth_get B
  obtain ⟨W2, hW2⟩ : ∃ W, W = (w.alloc (.cells zc 122)).alloc (.cells zc 122) := ⟨_, rfl⟩
  have hb2 : Below w.heap.size w W2 := by rw [hW2]; exact (below_alloc w _).trans ((below_alloc _ _).mono (by simp))
  have HB2 : Hid (Below w.heap.size w W2) := hb2
  have hg2 := Di.get_at B G n vs gt pt b W2 (h.below hb2) (by omega) (by omega) hgt
  simp only [Int.toNat_natCast] at hg2
  have HL : Hid _ := frameOf_length vs b n h.len hb
  have hR0 : W2.heap[w.heap.size]? = some (.cells zc 122) := by rw [hW2]; exact heap_alloc2_old w _ _
  have hR1 : W2.heap[w.heap.size + 1]? = some (.cells zc 122) := by rw [hW2]; exact heap_alloc2_new w _ _
  have HR0 : Hid _ := hR0
  have HR1 : Hid _ := hR1
  have HW : Hid _ := hW2
  have HBlt : Hid (B < w.heap.size) := lt_of_heap h.head
  have HGlt : Hid (G < w.heap.size) := lt_of_heap h.row
  have hz := lit_zc
  clear h hb2 hW2 hR0 hR1
  go_enter Tryz.func97, Tryz.ntmps97
  go_wp2_with fail
  rw [← HW.out]
  refine hg2.mono ?_
  rintro e w1 ⟨gg, rfl, hr1, hd1, hu1⟩
  have HD1 : Hid _ := hd1
  have HS2 : Hid (w.heap.size + 1 < W2.heap.size) := lt_of_heap HR1.out
  have hne0 : w.heap.size ≠ B := by have := HBlt.out; omega
  have hne1 : w.heap.size + 1 ≠ B := by have := HBlt.out; omega
  have hR0 : w1.heap[w.heap.size]? = some (.cells zc 122) := (hu1.block _ (by have := HS2.out; omega) hne0).trans HR0.out
  have hR1 : w1.heap[w.heap.size + 1]? = some (.cells zc 122) := (hu1.block _ HS2.out hne1).trans HR1.out
  have HU1 : Hid (Upd B w w1) := (Upd.of_below HB2.out).trans hu1
  obtain ⟨a, cap, e, -, -, hf⟩ := hr1
  obtain ⟨g', cur, e2, -, hh, hcell⟩ := hf (by intro e; have := HL.out; rw [e] at this; simp at this)
  rw [HL.out] at e
  simp only [Value.slice.injEq] at e
  obtain ⟨e3, -, -⟩ := e
  rw [e2] at e3
  simp only [Option.some.injEq, Addr.mk.injEq] at e3
  have e4 : gg = g' := e3.1
  subst e4
  have hcp := fun ty c1 c2 => copy_cont (w := w1) (g := w.heap.size + 1) (us := List.replicate 32 0) (ws := frameOf vs b) hR1 (by simp) HL.out gg (fun j x hx => by rw [cell_of_heap hh]; exact hcell j x hx) ty c1 c2
  obtain ⟨R, hR⟩ : ∃ R, R = urow (frameOf vs b) := ⟨_, rfl⟩
  have HRq : Hid _ := hR
  have HRs : Hid (R.size = 32) := by show _ = _; rw [hR, urow_size]; exact HL.out
  have HRo : Hid (R.all (·.oneCell') = true) := by show _ = _; rw [hR]; exact urow_one _
  rw [← hR] at hcp
  obtain ⟨c1, hc1⟩ : ∃ c, c = w.heap.size + 1 := ⟨_, rfl⟩
  obtain ⟨c0, hc0⟩ : ∃ c, c = w.heap.size := ⟨_, rfl⟩
  have HC : Hid (c0 ≠ c1) := by show _ ≠ _; omega
  have HC0 : Hid (w.heap.size ≤ c0 ∧ w.heap.size ≤ c1) := by show _ ∧ _; omega
  have H2 : Hid ((w1.setRow c1 R).heap[c1]? = some (.cells R 122 (0, 0))) := by rw [← hc1] at hR1; exact setRow_heap w1 c1 _ _ _ _ hR1
  have H3 : Hid ((w1.setRow c1 R).heap[c0]? = some (.cells zc 122 (0, 0))) := by rw [← hc0] at hR0; exact (setRow_other _ _ _ _ HC.out).trans hR0
  have H4 : Hid (((w1.setRow c1 R).setRow c0 R).heap[c0]? = some (.cells R 122 (0, 0))) := setRow_heap _ c0 _ _ _ _ H3.out
  rw [← hc1] at hcp ⊢
  rw [← hc0]
  clear hR hR0 hR1 hu1 hd1 hg2 hne0 hne1 hf hh hcell e2 e3 hc1 hc0 hz hme
  go_wp2_with (first
    | (refine wpList_load_row rfl 122 _ rfl c1 rfl 122 R (0, 0) _ H2.out Tryz.underlying122 rfl (by rw [HRs.out]; exact contSize) ?_)
    | (refine wpList_store_row rfl 122 _ _ rfl c0 R rfl rfl 122 zc H3.out (by rw [HRs.out]; exact contSize) (by rw [HRs.out]; rfl) HRo.out ?_)
    | go_in)
  refine bodyPost_ret (v := .tuple #[.agg R, .int .i64 0]) ?_ rfl ⟨by rw [← HRq.out], ?_, ?_⟩
  · rw [results_cell_tmp rfl]
    show ((asAddr (.pointer (some ⟨c0, 0, none⟩))).run _ _).andThen _ = _
    simp only [asAddr, Sem.run_pure, Result.andThen_ok]
    rw [run_loadVar_row _ c0 _ _ R (0, 0) _ H4.out Tryz.underlying122 rfl (by rw [HRs.out]; exact contSize)]
    rfl
  · have hd : Di.DiskAt w1 B G n vs (gt + 1) pt := HD1.out
    exact hd.keep ((setRow_other _ _ _ _ (by have := HC0.out; have := HBlt.out; omega)).trans (setRow_other _ _ _ _ (by have := HC0.out; have := HBlt.out; omega))) ((setRow_other _ _ _ _ (by have := HC0.out; have := HGlt.out; omega)).trans (setRow_other _ _ _ _ (by have := HC0.out; have := HGlt.out; omega)))
  · exact ((HU1.out).far HC0.out.2).far HC0.out.1
/-- Words that can be read are laid on the disk. -/
theorem dput_at (h : Di.DiskAt w B G n vs gt pt) (b : Nat) (hb : b < n) (hpt : pt ≤ 1000000000000) (p : Nat) (ws : List Int) (cap : Nat) (hp : p ≠ B) (hl : ws.length = 32) (hw : ∀ (j : Nat) (x : Int), ws[j]? = some x → w.cell? ⟨p, j, none⟩ = some (.int .u64 x)) :
    Calls Tryz.prog 165 #[ptr B, .int .i64 b, .slice (some ⟨p, 0, none⟩) 32 cap] w fun e w' => e = .returned (.int .i64 0) ∧ Di.DiskAt w' B G n (splice vs (b * 32) ws) gt (pt + 1) ∧ UpdP (fun k => k = B ∨ k = G) w w' := by
  have h0 : (0 : Int) ≤ (b : Int) := by omega
  have h1 : (b : Int) < (n : Int) := by omega
  have hc0 := h.c0
  have hc2 := h.c2
  have hfz := h.free 2
  have H1 : Hid _ := h.put1
  have hd0 := h.put1.c0
  have hr := Di.copy_in h.put1 b hb p ws hl (fun j x hx => by
    rw [World.cell?_of_block (w := w) (a := ⟨p, j, none⟩) (Below.heap_setCell _ _ _ _ (by show p ≠ B; exact hp))]
    exact hw j x hx)
  have HL : Hid _ := hl
  clear hl hw hp
  go_enter Tryz.func165, Tryz.ntmps165
  go_wp2_with fail
  refine (Di.has_at B G n vs gt pt b _ h true (Di.inB_yes h0 h1)).mono ?_
  rintro e w' ⟨rfl, rfl⟩
  go_wp2
  go_ret
  refine ⟨rfl, (H1.out).lay _ _ (by rw [HL.out]; omega), ((Upd.setCell B 2 _ _).p _ (Or.inl rfl)).trans ((Upd.setRow G _ _).p _ (Or.inr rfl))⟩
set_option maxHeartbeats 1000000 in
set_option maxRecDepth 100000 in
theorem iput_at (h : Di.DiskAt w B G n vs gt pt) (b : Nat) (hb : b < n) (hpt : pt ≤ 1000000000000) (ws : List Int) (hl : ws.length = 32) :
    Calls Tryz.prog 76 #[sto B, .int .i64 b, .agg (urow ws)] w fun e w' => e = .returned (.int .i64 0) ∧ Di.DiskAt w' B G n (splice vs (b * 32) ws) gt (pt + 1) ∧ UpdP (fun k => k = B ∨ k = G) w w' := by
  have hme := meth_put B
  have hah := ahead_put B
  obtain ⟨R, hR⟩ : ∃ R, R = urow ws := ⟨_, rfl⟩
  obtain ⟨W, hW⟩ : ∃ W, W = w.alloc (.cells R 122) := ⟨_, rfl⟩
  have hb1 : Below w.heap.size w W := by rw [hW]; exact below_alloc _ _
  have HB1 : Hid (Below w.heap.size w W) := hb1
  have hrow : W.heap[w.heap.size]? = some (.cells R 122) := by rw [hW]; exact heap_alloc_new _ _
  have HP : Hid (∀ q, Calls Tryz.prog 165 #[ptr B, .int .i64 b, .slice (some ⟨w.heap.size, 0, none⟩) 32 32] (W.drewN q) fun e w' => e = .returned (.int .i64 0) ∧ Di.DiskAt w' B G n (splice vs (b * 32) ws) gt (pt + 1) ∧ UpdP (fun k => k = B ∨ k = G) (W.drewN q) w') := fun q =>
    dput_at (w := W.drewN q) ((h.below hb1).keep rfl rfl) b hb hpt w.heap.size ws 32 (by have := lt_of_heap h.head; omega) hl (fun j x hx => by
      have hj : j < ws.length := (List.getElem?_eq_some_iff.1 hx).1
      show W.cell? _ = _
      rw [cell_of_heap hrow, hR, urow_get ws j hj, List.getD_eq_getElem?_getD, hx]
      rfl)
  have HRs : Hid (R.size = 32) := by show _ = _; rw [hR, urow_size]; exact hl
  have HW : Hid _ := hW
  rw [← hR]
  clear hR hb1 hrow hW h hl
  go_enter Tryz.func76, Tryz.ntmps76
  go_wp2_with fail
  rw [← HW.out]
  clear HW
  refine wp_region_held_drew (S := fun _ => True) (by kernel_rfl) trivial (fun hHeld => ?_)
  refine wpAnyH_take (i := 0) (v := ?_) rfl (by kernel_rfl) (by kernel_rfl) (by kernel_rfl) (fun _ _ _ h => h) (Or.inl ⟨by kernel_rfl, ?_⟩) (by assumption) ?_
  rotate_left
  · (intro w hSw; (try dsimp only at hSw); go_simp) <;> with_reducible rfl
  (try simp only [Act.put, List.getElem_toArray, List.getElem_cons_zero, List.setIfInBounds_toArray, List.set_cons_zero, List.set_cons_succ])
  refine wpAnyH_take (i := 1) (v := ?_) rfl (by kernel_rfl) (by kernel_rfl) (by kernel_rfl) (fun _ _ _ h => h) (Or.inl ⟨by kernel_rfl, ?_⟩) (by assumption) ?_
  rotate_left
  · (intro w hSw; (try dsimp only at hSw); go_simp) <;> with_reducible rfl
  (try simp only [Act.put, List.getElem_toArray, List.getElem_cons_zero, List.getElem_cons_succ, List.setIfInBounds_toArray, List.set_cons_zero, List.set_cons_succ])
  refine wpAnyH_take (i := 2) (v := ?_) rfl (by kernel_rfl) (by kernel_rfl) (by kernel_rfl) (fun _ _ _ h => h) (Or.inl ⟨by kernel_rfl, ?_⟩) (by assumption) ?_
  rotate_left
  · (intro w hSw; (try dsimp only at hSw); go_simp) <;> with_reducible rfl
  (try simp only [Act.put, List.getElem_toArray, List.getElem_cons_zero, List.getElem_cons_succ, List.setIfInBounds_toArray, List.set_cons_zero, List.set_cons_succ])
  refine wpAnyH_take (i := 3) (v := ?_) rfl (by kernel_rfl) (by kernel_rfl) (by kernel_rfl) (fun _ _ _ h => h) (Or.inl ⟨by kernel_rfl, ?_⟩) (by assumption) ?_
  rotate_left
  · (intro w hSw; (try dsimp only at hSw); go_simp) <;> with_reducible rfl
  (try simp only [Act.put, List.getElem_toArray, List.getElem_cons_zero, List.getElem_cons_succ, List.setIfInBounds_toArray, List.set_cons_zero, List.set_cons_succ])
  refine wpAnyH_take (i := 4) (v := ?_) rfl (by kernel_rfl) (by kernel_rfl) (by kernel_rfl) (fun _ _ _ h => h) (Or.inl ⟨by kernel_rfl, ?_⟩) (by assumption) ?_
  rotate_left
  · (intro w hSw; (try dsimp only at hSw); go_simp) <;> with_reducible rfl
  (try simp only [Act.put, List.getElem_toArray, List.getElem_cons_zero, List.getElem_cons_succ, List.setIfInBounds_toArray, List.set_cons_zero, List.set_cons_succ])
  refine wpAnyH_take (i := 5) (v := ?_) rfl (by kernel_rfl) (by kernel_rfl) (by kernel_rfl) (fun _ _ _ h => h) (Or.inl ⟨by kernel_rfl, ?_⟩) (by assumption) ?_
  rotate_left
  · (intro w hSw; (try dsimp only at hSw); go_simp) <;> with_reducible rfl
  (try simp only [Act.put, List.getElem_toArray, List.getElem_cons_zero, List.getElem_cons_succ, List.setIfInBounds_toArray, List.set_cons_zero, List.set_cons_succ])
  refine wpAnyH_ready (rs := [6]) (by kernel_rfl) (by simp) ?_
  refine AllReadyH.cons rfl (fun K hK => ?_) AllReadyH.nil
  go_simp
  refine (HP.out 1).mono ?_
  rintro e w1 ⟨rfl, hd1, hu1⟩
  have HD1 : Hid _ := hd1
  have HU1 : Hid (UpdP (fun k => k = B ∨ k = G) w w1) := ((UpdP.of_below HB1.out).trans (UpdP.of_below (Di.drewN_below ⟨1, rfl⟩))).trans hu1
  clear hd1 hu1 HP
  refine hK.out _ _ trivial (fun hHeld => ?_)
  clear hK K
  (try simp only [Act.put, List.getElem_toArray, List.getElem_cons_zero, List.getElem_cons_succ, List.setIfInBounds_toArray, List.set_cons_zero, List.set_cons_succ])
  refine wpAnyH_take (i := 7) (v := ?_) rfl (by kernel_rfl) (by kernel_rfl) (by kernel_rfl) (fun _ _ _ h => h) (Or.inl ⟨by kernel_rfl, ?_⟩) (by assumption) ?_
  rotate_left
  · (intro w hSw; (try dsimp only at hSw); go_simp) <;> with_reducible rfl
  (try simp only [Act.put, List.getElem_toArray, List.getElem_cons_zero, List.getElem_cons_succ, List.setIfInBounds_toArray, List.set_cons_zero, List.set_cons_succ])
  refine wpAnyH_done (by kernel_rfl) ?_ _
  go_wp2
  go_ret
  exact ⟨rfl, HD1.out, HU1.out⟩
end
end Go.Proofs.YtcaofdbcgdgbbaaGreatDoor

namespace Go.Proofs.YtcaofdbcgdgbbaaGreatDoor
open Go.RowKit
set_option linter.unusedVariables false

theorem ownsRow_at {w w' : World} {base : Nat} {e : TypeId} {size : Nat} {v : Value} {n : Nat} {xs : List Value} (h : w.ownsRow base e size v n xs) (hb : ∀ g, v.ownBlock = some g → w'.heap[g]? = w.heap[g]?) : w'.ownsRow base e size v n xs := by
  obtain ⟨h1, h2⟩ := h
  refine ⟨h1, ?_⟩
  rcases h2 with h2 | ⟨g, cap, cur, hv, hg, hh, r⟩
  · exact Or.inl h2
  · exact Or.inr ⟨g, cap, cur, hv, hg, (hb g (by rw [hv]; rfl)).trans hh, r⟩
theorem own_slice {w : World} {base : Nat} {e : TypeId} {size : Nat} {v : Value} {n : Nat} {xs : List Value} (h : w.ownsRow base e size v n xs) : ∃ a cap, v = .slice a n cap := by
  rcases h.2 with ⟨rfl, rfl⟩ | ⟨g, cap, cur, rfl, _⟩
  · exact ⟨none, 0, rfl⟩
  · exact ⟨_, cap, rfl⟩
theorem own_type {w : World} {base : Nat} {e : TypeId} {size : Nat} {v : Value} {n : Nat} {xs : List Value} (h : w.ownsRow base e size v n xs) {g : Nat} (hg : v.ownBlock = some g) : base ≤ g ∧ ∃ cs, w.heap[g]? = some (.cells cs e (0, 0)) := by
  rcases h.2 with ⟨rfl, _⟩ | ⟨g', cap, cur, rfl, hb, hh, _⟩
  · simp [Value.ownBlock] at hg
  · simp [Value.ownBlock] at hg
    subst hg
    exact ⟨hb, cur, hh⟩
theorem nodup_le : ∀ (n : Nat) (l : List Nat), l.Nodup → (∀ x ∈ l, x < n) → l.length ≤ n
  | 0, l, _, h => by
    cases l with
    | nil => exact Nat.le_refl _
    | cons x l => exact absurd (h x List.mem_cons_self) (by omega)
  | n + 1, l, hn, h => by
    by_cases q : n ∈ l
    · have := nodup_le n (l.erase n) (hn.erase n) (fun x hx => by
        have h1 := (hn.mem_erase_iff).1 hx
        have := h x h1.2
        have := h1.1
        omega)
      rw [List.length_erase_of_mem q] at this
      omega
    · have := nodup_le n l hn (fun x hx => by
        have := h x hx
        have : x ≠ n := fun e => q (by rw [← e]; exact hx)
        omega)
      omega

theorem nd_fst : ∀ {S : List (Nat × Nat)}, (S.map (fun p => p.1)).Nodup → ∀ {p q : Nat × Nat}, p ∈ S → q ∈ S → p.1 = q.1 → p = q
  | [], _, p, q, hp, _, _ => by cases hp
  | x :: S, h, p, q, hp, hq, e => by
    rw [List.map_cons, List.nodup_cons] at h
    rcases List.mem_cons.1 hp with hp | hp
    · rcases List.mem_cons.1 hq with hq | hq
      · rw [hp, hq]
      · exact absurd (List.mem_map.2 ⟨q, hq, by rw [← e, hp]⟩) h.1
    · rcases List.mem_cons.1 hq with hq | hq
      · exact absurd (List.mem_map.2 ⟨p, hp, by rw [e, hq]⟩) h.1
      · exact nd_fst h.2 hp hq e
/-- A sheet's cells. -/
def shRow (k : Nat) (A C : Array Value) : Array Value := #[.int .i64 (k : Int)] ++ A ++ C
theorem shRow_size {k : Nat} {A C : Array Value} (hA : A.size = 32) (hC : C.size = 32) : (shRow k A C).size = 65 := by simp [shRow, hA, hC]
theorem shRow_0 (k : Nat) (A C : Array Value) : (shRow k A C)[0]? = some (.int .i64 (k : Int)) := by simp [shRow, Array.getElem?_append]
theorem shRow_now {k : Nat} {A C : Array Value} (hA : A.size = 32) (j : Nat) : (shRow k A C)[33 + j]? = C[j]? := by
  unfold shRow
  rw [Array.getElem?_append_right (by simp [hA])]
  congr 1
  simp [hA]
/-- Cells laid from off on. -/
def setAt (cells : Array Value) (off : Nat) (cs : Array Value) : Array Value := (cells.toList.take off ++ cs.toList ++ cells.toList.drop (off + cs.size)).toArray
theorem setAt_size {cells cs : Array Value} {off : Nat} (h : off + cs.size ≤ cells.size) : (setAt cells off cs).size = cells.size := by
  simp [setAt]
  omega
theorem fill_put (place : Nat → Option (Nat × Nat)) (cells : Array Value) (i off : Nat) (v : Value) (cs : Array Value) (hv : v.cells = cs) (rest : List (Nat × Value)) (hp : place i = some (off, cs.size)) (hs : off + cs.size ≤ cells.size) :
    Instr.fill place cells ((i, v) :: rest) = Instr.fill place (setAt cells off cs) rest := by
  subst hv
  have e : (v.cells.zipIdx.foldl (fun cs (x : Value × Nat) => cs.setIfInBounds (off + x.2) x.1) cells) = setAt cells off v.cells := by
    obtain ⟨h1, h2⟩ := Go.Great.foldl_set off v.cells.toList 0 cells
    have e0 : v.cells.zipIdx.foldl (fun cs (x : Value × Nat) => cs.setIfInBounds (off + x.2) x.1) cells = (v.cells.toList.zipIdx 0).foldl (fun cs (x : Value × Nat) => cs.setIfInBounds (off + x.2) x.1) cells := by
      rw [← Array.foldl_toList, Array.toList_zipIdx]
    rw [e0]
    apply Array.ext_getElem?
    intro k
    rw [h2 k]
    unfold setAt
    simp only [Nat.add_zero, Array.length_toList, List.getElem?_toArray]
    by_cases q : off ≤ k ∧ k < off + v.cells.size ∧ k < cells.size
    · rw [if_pos q, List.getElem?_append_left (by simp; omega), List.getElem?_append_right (by simp; omega)]
      congr 1
      simp
      omega
    · rw [if_neg q]
      rcases Nat.lt_or_ge k off with q1 | q1
      · rw [List.getElem?_append_left (by simp; omega), List.getElem?_append_left (by simp; omega), List.getElem?_take, if_pos q1]
        simp
      · rcases Nat.lt_or_ge k (off + v.cells.size) with q2 | q2
        · omega
        · rw [List.getElem?_append_right (by simp; omega), List.getElem?_drop]
          simp only [List.length_append, List.length_take, Array.length_toList, Array.getElem?_toList]
          congr 1
          omega
  conv => lhs; unfold Instr.fill
  simp only [hp]
  rw [if_neg (by simp; omega)]
  exact congrArg (fun z => Instr.fill place z rest) e
theorem setAt_sheet {Z A C : Array Value} (k : Nat) (hZ : Z.size = 65) (hA : A.size = 32) (hC : C.size = 32) : setAt (setAt (setAt Z 0 #[.int .i64 (k : Int)]) 1 A) 33 C = shRow k A C := by
  have h1 : (setAt Z 0 #[.int .i64 (k : Int)]) = #[.int .i64 (k : Int)] ++ (Z.toList.drop 1).toArray := by
    apply Array.ext'
    simp [setAt]
  rw [h1]
  have h2 : setAt (#[.int .i64 (k : Int)] ++ (Z.toList.drop 1).toArray) 1 A = #[.int .i64 (k : Int)] ++ A ++ (Z.toList.drop 33).toArray := by
    apply Array.ext'
    simp only [setAt, Array.toList_append, List.toList_toArray]
    rw [hA]
    simp
  rw [h2]
  apply Array.ext'
  unfold setAt shRow
  simp only [Array.toList_append]
  have h3 : (([Value.int .i64 (k : Int)] ++ A.toList) ++ Z.toList.drop 33).take 33 = [Value.int .i64 (k : Int)] ++ A.toList := by
    rw [List.take_append_of_le_length (by simp [hA]), List.take_of_length_le (by simp [hA])]
  have h4 : (([Value.int .i64 (k : Int)] ++ A.toList) ++ Z.toList.drop 33).drop (33 + C.size) = [] := by
    rw [List.drop_eq_nil_of_le]
    simp [hA, hZ, hC]
  show ((([Value.int .i64 (k : Int)] ++ A.toList) ++ Z.toList.drop 33).take 33 ++ C.toList ++ (([Value.int .i64 (k : Int)] ++ A.toList) ++ Z.toList.drop 33).drop (33 + C.size)) = _
  rw [h3, h4, List.append_nil]
theorem sheet_built {k : Nat} {A C : Array Value} (hA : A.size = 32) (hC : C.size = 32) : Tryz.prog.built 142 [(0, .int .i64 (k : Int)), (1, .agg A), (2, .agg C)] = some (shRow k A C) := by
  have hinfo : ((Tryz.prog.info? 142).bind (·.zero)).map (fun z => z.cells.size) = some 65 := by kernel_rfl
  have hpl : (match Tryz.prog.underlying 142 with | some (.struct fields) => fields.toList.mapM (fun f => (Tryz.prog.info? f.type).map fun i => (f.offset, i.size)) | _ => none) = some [(0, 1), (1, 32), (33, 32)] := by kernel_rfl
  have hst : (match Tryz.prog.underlying 142 with | some (.struct _) => true | _ => false) = true := by kernel_rfl
  unfold Program.built
  cases hi : Tryz.prog.info? 142 with
  | none => rw [hi] at hinfo; cases hinfo
  | some it =>
    cases hu : Tryz.prog.underlying 142 with
    | none => rw [hu] at hst; cases hst
    | some d =>
      rw [hu] at hpl hst
      rw [hi] at hinfo
      cases hz : it.zero with
      | none => simp [hz] at hinfo
      | some z =>
        have hzs : z.cells.size = 65 := by simpa [hz] using hinfo
        cases d <;> try (cases hst; done)
        rename_i fields
        simp only at hpl
        simp only [hpl, hz]
        generalize z.cells = Z at *
        rw [fill_put _ _ _ 0 _ #[.int .i64 (k : Int)] rfl _ rfl (by rw [hzs]; show 0 + 1 ≤ 65; omega)]
        have hs1 : (setAt Z 0 #[.int .i64 (k : Int)]).size = 65 := by rw [setAt_size (by rw [hzs]; show 0 + 1 ≤ 65; omega), hzs]
        rw [fill_put _ _ _ 1 _ A rfl _ (by rw [hA]; rfl) (by rw [hs1, hA]; omega)]
        have hs2 : (setAt (setAt Z 0 #[.int .i64 (k : Int)]) 1 A).size = 65 := by rw [setAt_size (by rw [hs1, hA]; omega), hs1]
        rw [fill_put _ _ _ 33 _ C rfl _ (by rw [hC]; rfl) (by rw [hs2, hC]; omega), setAt_sheet k hzs hA hC]
        rfl
theorem build_sheet {k : Nat} {A C : Array Value} (hA : A.size = 32) (hC : C.size = 32) (W : World) : (Instr.build 142 #[(0, .int .i64 (k : Int)), (1, .agg A), (2, .agg C)]).run Tryz.prog W = .ok (.agg (shRow k A C)) W := run_build W _ _ _ (sheet_built hA hC)

/-- A block of a draft's own. -/
def IsD (w : World) (k : Nat) : Prop := ∃ cs t fr, w.heap[k]? = some (.cells cs t fr) ∧ (t = 77 ∨ t = 142 ∨ t = 139)
theorem isD_same {w w' : World} {k : Nat} (h : w'.heap[k]? = w.heap[k]?) : IsD w' k ↔ IsD w k := by unfold IsD; rw [h]
/-- What a draft's calls may touch: block B, and blocks of a draft's own from base on. -/
structure DT (base B : Nat) (w w' : World) : Prop where
  os : w'.os = w.os
  tape : w'.tape = w.tape
  output : w'.output = w.output
  size : w.heap.size ≤ w'.heap.size
  block : ∀ k, k < w.heap.size → k ≠ B → (k < base ∨ ¬ IsD w k) → w'.heap[k]? = w.heap[k]?
theorem DT.refl (base B : Nat) (w : World) : DT base B w w := ⟨rfl, rfl, rfl, Nat.le_refl _, fun _ _ _ _ => rfl⟩
theorem DT.trans {base B : Nat} {a b c : World} (h : DT base B a b) (k : DT base B b c) : DT base B a c :=
  ⟨k.os.trans h.os, k.tape.trans h.tape, k.output.trans h.output, Nat.le_trans h.size k.size, fun i hi hB hg => by
    have e := h.block i hi hB hg
    refine (k.block i (Nat.lt_of_lt_of_le hi h.size) hB ?_).trans e
    rcases hg with hg | hg
    · exact Or.inl hg
    · exact Or.inr (fun x => hg ((isD_same e).1 x))⟩
theorem DT.of_below {base B : Nat} {w w' : World} (h : Below w.heap.size w w') : DT base B w w' := ⟨h.os, h.tape, h.output, h.size, fun k hk _ _ => h.block k hk⟩
theorem DT.of_upd {base B : Nat} {w w' : World} (h : Upd B w w') : DT base B w w' := ⟨h.os, h.tape, h.output, h.size, fun k hk hB _ => h.block k hk hB⟩
/-- A store into a block of the draft's own. -/
theorem DT.of_own {base B q : Nat} {w w' : World} (h : Upd q w w') (hq : base ≤ q) (hd : IsD w q) : DT base B w w' := ⟨h.os, h.tape, h.output, h.size, fun k hk _ hg => h.block k hk (fun e => by
  subst e
  rcases hg with hg | hg
  · omega
  · exact hg hd)⟩
theorem DT.other {base B : Nat} {w w' : World} (h : DT base B w w') {k : Nat} {cs : Array Value} {t : TypeId} {fr : Nat × Nat} (hk : w.heap[k]? = some (.cells cs t fr)) (hB : k ≠ B) (ht : t ≠ 77 ∧ t ≠ 142 ∧ t ≠ 139) : w'.heap[k]? = some (.cells cs t fr) := by
  rw [h.block k (lt_of_heap hk) hB (Or.inr ?_)]
  · exact hk
  · rintro ⟨cs', t', fr', e, ht'⟩
    rw [hk] at e
    simp only [Option.some.injEq, Obj.cells.injEq] at e
    obtain ⟨_, rfl, _⟩ := e
    rcases ht' with e | e | e
    · exact ht.1 e
    · exact ht.2.1 e
    · exact ht.2.2 e
theorem DT.bm {base B : Nat} {w w' : World} (h : DT base B w w') {b g n : Nat} {ws : List Nat} (hb : Bi.BmAt w b g n ws) (h1 : b ≠ B) (h2 : g ≠ B) : Bi.BmAt w' b g n ws :=
  hb.keep ((h.other hb.head h1 (by decide)).trans hb.head.symm) ((h.other hb.row h2 (by decide)).trans hb.row.symm)

/-- A draft: its head is block bd, its store the disk B; the disk's words are vs, what they shall be is ws. -/
structure DrAt (w : World) (base bd B G n : Nat) (vs ws : List Int) (m : Nat) (sv : Value) (S : List (Nat × Nat)) : Prop where
  head : w.heap[bd]? = some (.cells #[sto B, sv, .int .i64 0] 77)
  own : w.ownsRow base 139 1 sv S.length (S.map (fun p => ptr p.2))
  bB : base ≤ bd
  sh : ∀ p ∈ S, base ≤ p.2 ∧ p.1 < n ∧ ∃ A : Array Value, A.size = 32 ∧ w.heap[p.2]? = some (.cells (shRow p.1 A (urow (frameOf ws p.1))) 142)
  nd : (S.map (fun p => p.1)).Nodup
  out : ∀ k, k < n → k ∉ S.map (fun p => p.1) → frameOf ws k = frameOf vs k
  len : ws.length = n * 32
  disk : ∃ gt pt, Di.DiskAt w B G n vs gt pt ∧ gt ≤ m + S.length ∧ pt ≤ m
  low : B < base ∧ G < base
  nn : n ≤ 1024
section
variable {w w' : World} {base bd B G n m : Nat} {vs ws : List Int} {sv : Value} {S : List (Nat × Nat)}
theorem DrAt.few (h : DrAt w base bd B G n vs ws m sv S) : S.length ≤ n := by
  have := nodup_le n (S.map (fun p => p.1)) h.nd (fun x hx => by
    obtain ⟨p, hp, rfl⟩ := List.mem_map.1 hx
    exact (h.sh p hp).2.1)
  simpa using this
theorem DrAt.isd (h : DrAt w base bd B G n vs ws m sv S) : IsD w bd := ⟨_, _, _, h.head, Or.inl rfl⟩
theorem DrAt.isq (h : DrAt w base bd B G n vs ws m sv S) {p : Nat × Nat} (hp : p ∈ S) : IsD w p.2 := by
  obtain ⟨_, _, A, _, hh⟩ := h.sh p hp
  exact ⟨_, _, _, hh, Or.inr (Or.inl rfl)⟩
theorem DrAt.iso (h : DrAt w base bd B G n vs ws m sv S) {g : Nat} (hg : sv.ownBlock = some g) : base ≤ g ∧ IsD w g := by
  obtain ⟨h1, cs, h2⟩ := own_type h.own hg
  exact ⟨h1, cs, _, _, h2, Or.inr (Or.inr rfl)⟩
/-- Kept, if the draft's own blocks and the disk are. -/
theorem DrAt.keep (h : DrAt w base bd B G n vs ws m sv S) (hk : ∀ k, base ≤ k → IsD w k → w'.heap[k]? = w.heap[k]?) (hB : w'.heap[B]? = w.heap[B]?) (hG : w'.heap[G]? = w.heap[G]?) : DrAt w' base bd B G n vs ws m sv S := by
  refine ⟨(hk bd h.bB h.isd).trans h.head, ownsRow_at h.own (fun g hg => hk g (h.iso hg).1 (h.iso hg).2), h.bB, fun p hp => ?_, h.nd, h.out, h.len, ?_, h.low, h.nn⟩
  · obtain ⟨h1, h2, A, h3, h4⟩ := h.sh p hp
    exact ⟨h1, h2, A, h3, (hk _ h1 (h.isq hp)).trans h4⟩
  · obtain ⟨gt, pt, hd, h1, h2⟩ := h.disk
    exact ⟨gt, pt, hd.keep hB hG, h1, h2⟩
theorem DrAt.below (h : DrAt w base bd B G n vs ws m sv S) (hb : Below w.heap.size w w') : DrAt w' base bd B G n vs ws m sv S := by
  obtain ⟨gt, pt, hd, h1, h2⟩ := h.disk
  exact h.keep (fun k _ ⟨_, _, _, e, _⟩ => hb.block k (lt_of_heap e)) (hb.block _ (lt_of_heap hd.head)) (hb.block _ (lt_of_heap hd.row))
/-- .. behind a change of a block of another type. -/
theorem DrAt.other (h : DrAt w base bd B G n vs ws m sv S) {g : Nat} (hu : Upd g w w') (hg : base ≤ g) (hd : ¬ IsD w g) : DrAt w' base bd B G n vs ws m sv S := by
  obtain ⟨gt, pt, hk, h1, h2⟩ := h.disk
  have := h.low
  exact h.keep (fun k _ e => hu.block k (by obtain ⟨_, _, _, e, _⟩ := e; exact lt_of_heap e) (fun q => hd (by rw [← q]; exact e))) (hu.block _ (lt_of_heap hk.head) (by omega)) (hu.block _ (lt_of_heap hk.row) (by omega))
theorem not_isD {k : Nat} {cs : Array Value} {t : TypeId} {fr : Nat × Nat} (hk : w.heap[k]? = some (.cells cs t fr)) (ht : t ≠ 77 ∧ t ≠ 142 ∧ t ≠ 139) : ¬ IsD w k := by
  rintro ⟨cs', t', fr', e, ht'⟩
  rw [hk] at e
  simp only [Option.some.injEq, Obj.cells.injEq] at e
  obtain ⟨_, rfl, _⟩ := e
  rcases ht' with e | e | e
  · exact ht.1 e
  · exact ht.2.1 e
  · exact ht.2.2 e
/-- A sheet's words are laid anew. -/
theorem DrAt.put (h : DrAt w base bd B G n vs ws m sv S) {b q : Nat} (hq : (b, q) ∈ S) {us : List Int} (hl : us.length = 32)
    (hw : ∀ A : Array Value, A.size = 32 → w.heap[q]? = some (.cells (shRow b A (urow (frameOf ws b))) 142) → w'.heap[q]? = some (.cells (shRow b A (urow us)) 142)) (hu : Upd q w w') :
    DrAt w' base bd B G n vs (splice ws (b * 32) us) m sv S ∧ DT base B w w' := by
  obtain ⟨hq1, hbn, A, hA, hh⟩ := h.sh _ hq
  dsimp only at hq1 hbn hh
  have hlow := h.low
  obtain ⟨gt, pt, hd, hg1, hg2⟩ := h.disk
  have hbd : bd ≠ q := by
    intro e
    have := h.head
    rw [e, hh] at this
    simp only [Option.some.injEq, Obj.cells.injEq] at this
    exact absurd this.2.1 (by decide)
  have hsl : (splice ws (b * 32) us).length = n * 32 := by rw [splice_length _ _ _ (by rw [h.len, hl]; omega), h.len]
  refine ⟨⟨(hu.block _ (lt_of_heap h.head) hbd).trans h.head, ownsRow_at h.own (fun g hg => ?_), h.bB, fun p hp => ?_, h.nd, fun k hk hn => ?_, hsl, ⟨gt, pt, hd.keep (hu.block _ (lt_of_heap hd.head) (by omega)) (hu.block _ (lt_of_heap hd.row) (by omega)), hg1, hg2⟩, h.low, h.nn⟩, DT.of_own hu hq1 ⟨_, _, _, hh, Or.inr (Or.inl rfl)⟩⟩
  · obtain ⟨h1, cs, h2⟩ := own_type h.own hg
    refine hu.block _ (lt_of_heap h2) (fun e => ?_)
    rw [e, hh] at h2
    simp only [Option.some.injEq, Obj.cells.injEq] at h2
    exact absurd h2.2.1 (by decide)
  · obtain ⟨h1, h2, A', h3, h4⟩ := h.sh p hp
    rw [frame_splice ws us n b p.1 h.len hbn h2 hl]
    by_cases e : p.2 = q
    · have e1 : p.1 = b := by
        rw [e, hh] at h4
        simp only [Option.some.injEq, Obj.cells.injEq] at h4
        have h5 := congrArg (fun z => z[0]?) h4.1
        simp only [shRow_0, Option.some.injEq, Value.int.injEq, true_and] at h5
        omega
      rw [if_pos e1]
      refine ⟨h1, h2, A', h3, ?_⟩
      rw [e, e1] at h4 ⊢
      exact hw A' h3 h4
    · have e1 : p.1 ≠ b := by
        intro e1
        exact e (by rw [nd_fst h.nd hp hq e1])
      rw [if_neg e1]
      exact ⟨h1, h2, A', h3, (hu.block _ (lt_of_heap h4) e).trans h4⟩
  · rw [frame_splice ws us n b k h.len hbn hk hl, if_neg (fun e => hn (by rw [e]; exact List.mem_map.2 ⟨_, hq, rfl⟩))]
    exact h.out k hk hn
end
end Go.Proofs.YtcaofdbcgdgbbaaGreatDoor
