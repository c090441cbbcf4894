/- Package inode: a file's block. -/
import Derived.Test.YtinjllnoonbjmaaInoU
namespace Go.Proofs.Ytinjllnoonbjmaa
open Go.RowKit
set_option linter.all false

section
variable {w w' : World} {X : FX} {vs ws : List Int} {m : Nat} {iw bw : List Nat} {kd lk sz : Int} {bl : List Nat}
/-- The store was asked once more. -/
theorem DrAt.got {base bd B G n gt pt : Nat} {sv : Value} {S : List (Nat × Nat)} (h : DrAt w base bd B G n vs ws m sv S) (hd : Di.DiskAt w' B G n vs gt pt) (h1 : gt ≤ m + S.length + 1) (h2 : pt ≤ m) (hu : Upd B w w') : DrAt w' base bd B G n vs ws (m + 1) sv S := by
  have hlow := h.low
  have hne : ∀ k, base ≤ k → IsD w k → w'.heap[k]? = w.heap[k]? := fun k hk ⟨_, _, _, e, _⟩ => hu.block k (lt_of_heap e) (by omega)
  refine ⟨(hne bd h.bB h.isd).trans h.head, ownsRow_at h.own (fun g hg => hne g (h.iso hg).1 (h.iso hg).2), h.bB, fun p hp => ?_, h.nd, h.out, h.len, ⟨gt, pt, hd, by omega, by omega⟩, hlow, h.nn⟩
  obtain ⟨q1, q2, A, q3, q4⟩ := h.sh p hp
  exact ⟨q1, q2, A, q3, (hne _ q1 (h.isq hp)).trans q4⟩
theorem FlAt.got {gt pt : Nat} (h : FlAt w X vs ws m iw bw kd lk sz bl) (hdr : Dr w' X.base X.bd X.B X.G X.n vs ws (m + 1)) (hu : Upd X.B w w') : FlAt w' X vs ws (m + 1) iw bw kd lk sz bl := by
  have h1 := h.low
  have h2 := h.lo
  have h3 := h.bm.lo
  exact ⟨(hu.block _ (lt_of_heap h.head) (by omega)).trans h.head, hdr, ⟨h.bm.bi.keep (hu.block _ h.bm.bi.ltb (by omega)) (hu.block _ h.bm.bi.ltg (by omega)), h.bm.bb.keep (hu.block _ h.bm.bb.ltb (by omega)) (hu.block _ h.bm.bb.ltg (by omega)), h.bm.lo, h.bm.ne⟩, h.bl6, h2⟩
theorem FlAt.other {g : Nat} {cs : Array Value} {t : TypeId} (h : FlAt w X vs ws m iw bw kd lk sz bl) (hu : Upd g w w') (hg : w.heap[g]? = some (.cells cs t (0, 0))) (hB : X.base ≤ g) (ht : t ≠ 78 ∧ t ≠ 134 ∧ t ≠ 131 ∧ t ≠ 95 ∧ t ≠ 137 ∧ t ≠ 99) : FlAt w' X vs ws m iw bw kd lk sz bl := by
  refine ⟨(hu.block _ (lt_of_heap h.head) (fun e => ?_)).trans h.head, h.dr.other hu hB (not_isD hg ⟨ht.1, ht.2.1, ht.2.2.1⟩), h.bm.other hu (fun cs' => ⟨fun e => ?_, fun e => ?_⟩), h.bl6, h.lo⟩
  · have := h.head
    rw [e, hg] at this
    simp only [Option.some.injEq, Obj.cells.injEq] at this
    exact ht.2.2.2.1 this.2.1
  · rw [hg] at e
    simp only [Option.some.injEq, Obj.cells.injEq] at e
    exact ht.2.2.2.2.1 e.2.1
  · rw [hg] at e
    simp only [Option.some.injEq, Obj.cells.injEq] at e
    exact ht.2.2.2.2.2 e.2.1
set_option maxHeartbeats 2000000 in
set_option maxRecDepth 100000 in
theorem fblock_at (h : FlAt w X vs ws m iw bw kd lk sz bl) (hm : m ≤ 900000) (hbs : X.base ≤ w.heap.size) (k b : Nat) (hk : k < 6) (hb : bl.getD k 0 = b) (hd : isDat X.n b = true) :
    Calls Try.prog 75 #[ptr X.bf, .int .i64 (k : Int)] w fun e w' => e = .returned (.tuple #[.agg (urow (frameOf vs b)), .int .i64 0]) ∧ FlAt w' X vs ws (m + 1) iw bw kd lk sz bl ∧ Upd X.B w w' := by
  obtain ⟨W0, hW0⟩ : ∃ W, W = w.alloc (.cells zc 117) := ⟨_, rfl⟩
  have hb0 : Below w.heap.size w W0 := by rw [hW0]; exact below_alloc _ _
  have hr0 : W0.heap[w.heap.size]? = some (.cells zc 117) := by rw [hW0]; exact heap_alloc_new _ _
  have h0 := h.below hb0
  have hH := fhas_at h0 k hk
  rw [hb, hd] at hH
  have hbn : b < X.n := by simp only [isDat, Bool.and_eq_true, decide_eq_true_eq] at hd; exact hd.2
  have H0 : Hid (FlAt W0 X vs ws m iw bw kd lk sz bl) := h0
  have HB0 : Hid (Below w.heap.size w W0) := hb0
  have HR0 : Hid _ := hr0
  have HW0 : Hid _ := hW0
  have Hb : Hid (bl.getD k 0 = b) := hb
  have hki : (k : Int) < 6 := by omega
  have hz := lit_zc
  clear h h0 hb0 hr0 hW0 hb hd
  go_enter Try.func75, Try.ntmps75
  go_wp2_with fail
  rw [← HW0.out]
  refine hH.mono ?_
  rintro e w1 ⟨rfl, hb1⟩
  have h1 := H0.out.below hb1
  obtain ⟨c0, c1, c2, c3, c4, c5, c6⟩ := h1.c
  have cb := h1.blk hk
  rw [Hb.out] at cb
  obtain ⟨sv, s0, s1, s2⟩ := h1.dr.cells
  have hs : w1.cell? ⟨X.bf, 0, none⟩ = some (ptr X.bd) ∧ w1.cell? ⟨X.bd, 0, none⟩ = some (sto X.B) ∧ w1.cell? ⟨X.bf, 7 + k, none⟩ = some (.int .i64 (b : Int)) := ⟨c0, s0, cb⟩
  obtain ⟨sv', S, hdr⟩ := h1.dr
  obtain ⟨gt, pt, hdk, hg1, hg2⟩ := hdr.disk
  have hfew := hdr.few
  have hnn := hdr.nn
  have hG := iget_at (w := w1.drew) (hdk.keep rfl rfl) b hbn (by omega)
  have HD : Hid (DrAt w1.drew X.base X.bd X.B X.G X.n vs ws m sv' S) := hdr.below (Di.drewN_below ⟨1, rfl⟩)
  have HG : Hid (gt ≤ m + S.length ∧ pt ≤ m) := ⟨hg1, hg2⟩
  have H1 : Hid (FlAt w1.drew X vs ws m iw bw kd lk sz bl) := h1.below (Di.drewN_below (w := w1) ⟨1, rfl⟩)
  have HFr1 : Hid (Upd X.B w w1) := Upd.of_below (HB0.out.trans (hb1.mono HB0.out.size))
  have HR1 : Hid (w1.heap[w.heap.size]? = some (.cells zc 117)) := (hb1.block _ (lt_of_heap HR0.out)).trans HR0.out
  have HLn : Hid _ := frameOf_length vs b X.n hdk.len hbn
  obtain ⟨r0, hr0⟩ : ∃ r, r = w.heap.size := ⟨_, rfl⟩
  rw [← hr0] at HR1 ⊢
  have Hr0 : Hid (r0 = w.heap.size) := hr0
  obtain ⟨R, hR⟩ : ∃ R, R = urow (frameOf vs b) := ⟨_, rfl⟩
  have HRq : Hid (R = urow (frameOf vs b)) := hR
  have HRs : Hid (R.size = 32) := by show _ = _; rw [hR, urow_size]; exact HLn.out
  have HRo : Hid (R.all (·.oneCell') = true) := by show _ = _; rw [hR]; exact urow_one _
  rw [← hR] at hG
  clear hH h1 c0 c1 c2 c3 c4 c5 c6 cb s0 s1 s2 hdr hdk hg1 hg2 hb1 hr0 hR
  go_wp2_with fail
  refine wp_region_held_drew (S := fun w' => w'.cell? ⟨X.bf, 0, none⟩ = some (ptr X.bd) ∧ w'.cell? ⟨X.bd, 0, none⟩ = some (sto X.B) ∧ w'.cell? ⟨X.bf, 7 + k, none⟩ = some (.int .i64 (b : Int))) (by kernel_rfl) hs (fun hHeld => ?_)
  refine wpAnyH_take (i := 0) (v := ?_) rfl (by kernel_rfl) (by kernel_rfl) (by kernel_rfl) (fun _ _ _ h => h) (Or.inl ⟨by kernel_rfl, ?_⟩) (by assumption) ?_
  rotate_left
  · (intro w hSw; (try dsimp only at hSw); go_simp) <;> with_reducible rfl
  (try simp only [Act.put, List.getElem_toArray, List.getElem_cons_zero, List.setIfInBounds_toArray, List.set_cons_zero, List.set_cons_succ])
  refine wpAnyH_take (i := 1) (v := ?_) rfl (by kernel_rfl) (by kernel_rfl) (by kernel_rfl) (fun _ _ _ h => h) (Or.inl ⟨by kernel_rfl, ?_⟩) (by assumption) ?_
  rotate_left
  · (intro w hSw; (try dsimp only at hSw); go_simp) <;> with_reducible rfl
  (try simp only [Act.put, List.getElem_toArray, List.getElem_cons_zero, List.getElem_cons_succ, List.setIfInBounds_toArray, List.set_cons_zero, List.set_cons_succ])
  refine wpAnyH_take (i := 2) (v := ?_) rfl (by kernel_rfl) (by kernel_rfl) (by kernel_rfl) (fun _ _ _ h => h) (Or.inl ⟨by kernel_rfl, ?_⟩) (by assumption) ?_
  rotate_left
  · (intro w hSw; (try dsimp only at hSw); go_simp) <;> with_reducible rfl
  (try simp only [Act.put, List.getElem_toArray, List.getElem_cons_zero, List.getElem_cons_succ, List.setIfInBounds_toArray, List.set_cons_zero, List.set_cons_succ])
  refine wpAnyH_take (i := 3) (v := ?_) rfl (by kernel_rfl) (by kernel_rfl) (by kernel_rfl) (fun _ _ _ h => h) (Or.inl ⟨by kernel_rfl, ?_⟩) (by assumption) ?_
  rotate_left
  · (intro w hSw; (try dsimp only at hSw); go_simp) <;> with_reducible rfl
  (try simp only [Act.put, List.getElem_toArray, List.getElem_cons_zero, List.getElem_cons_succ, List.setIfInBounds_toArray, List.set_cons_zero, List.set_cons_succ])
  refine wpAnyH_take (i := 4) (v := ?_) rfl (by kernel_rfl) (by kernel_rfl) (by kernel_rfl) (fun _ _ _ h => h) (Or.inl ⟨by kernel_rfl, ?_⟩) (by assumption) ?_
  rotate_left
  · (intro w hSw; (try dsimp only at hSw); go_simp) <;> with_reducible rfl
  (try simp only [Act.put, List.getElem_toArray, List.getElem_cons_zero, List.getElem_cons_succ, List.setIfInBounds_toArray, List.set_cons_zero, List.set_cons_succ])
  refine wpAnyH_take (i := 5) (v := ?_) rfl (by kernel_rfl) (by kernel_rfl) (by kernel_rfl) (fun _ _ _ h => h) (Or.inl ⟨by kernel_rfl, ?_⟩) (by assumption) ?_
  rotate_left
  · (intro w hSw; (try dsimp only at hSw); go_simp) <;> with_reducible rfl
  (try simp only [Act.put, List.getElem_toArray, List.getElem_cons_zero, List.getElem_cons_succ, List.setIfInBounds_toArray, List.set_cons_zero, List.set_cons_succ])
  refine wpAnyH_take (i := 6) (v := ?_) rfl (by kernel_rfl) (by kernel_rfl) (by kernel_rfl) (fun _ _ _ h => h) (Or.inl ⟨by kernel_rfl, ?_⟩) (by assumption) ?_
  rotate_left
  · (intro w hSw; (try dsimp only at hSw); go_simp) <;> with_reducible rfl
  (try simp only [Act.put, List.getElem_toArray, List.getElem_cons_zero, List.getElem_cons_succ, List.setIfInBounds_toArray, List.set_cons_zero, List.set_cons_succ])
  refine wpAnyH_take (i := 7) (v := ?_) rfl (by kernel_rfl) (by kernel_rfl) (by kernel_rfl) (fun _ _ _ h => h) (Or.inl ⟨by kernel_rfl, ?_⟩) (by assumption) ?_
  rotate_left
  · (intro w hSw; (try dsimp only at hSw); go_simp) <;> with_reducible rfl
  (try simp only [Act.put, List.getElem_toArray, List.getElem_cons_zero, List.getElem_cons_succ, List.setIfInBounds_toArray, List.set_cons_zero, List.set_cons_succ])
  refine wpAnyH_take (i := 8) (v := ?_) rfl (by kernel_rfl) (by kernel_rfl) (by kernel_rfl) (fun _ _ _ h => h) (Or.inl ⟨by kernel_rfl, ?_⟩) (by assumption) ?_
  rotate_left
  · (intro w hSw; (try dsimp only at hSw); go_simp) <;> with_reducible rfl
  (try simp only [Act.put, List.getElem_toArray, List.getElem_cons_zero, List.getElem_cons_succ, List.setIfInBounds_toArray, List.set_cons_zero, List.set_cons_succ])
  refine wpAnyH_take (i := 9) (v := ?_) rfl (by kernel_rfl) (by kernel_rfl) (by kernel_rfl) (fun _ _ _ h => h) (Or.inl ⟨by kernel_rfl, ?_⟩) (by assumption) ?_
  rotate_left
  · (intro w hSw; (try dsimp only at hSw); go_simp) <;> with_reducible rfl
  (try simp only [Act.put, List.getElem_toArray, List.getElem_cons_zero, List.getElem_cons_succ, List.setIfInBounds_toArray, List.set_cons_zero, List.set_cons_succ])
  refine wpAnyH_take (i := 10) (v := ?_) rfl (by kernel_rfl) (by kernel_rfl) (by kernel_rfl) (fun _ _ _ h => h) (Or.inl ⟨by kernel_rfl, ?_⟩) (by assumption) ?_
  rotate_left
  · (intro w hSw; (try dsimp only at hSw); go_simp) <;> with_reducible rfl
  (try simp only [Act.put, List.getElem_toArray, List.getElem_cons_zero, List.getElem_cons_succ, List.setIfInBounds_toArray, List.set_cons_zero, List.set_cons_succ])
  refine wpAnyH_take (i := 11) (v := ?_) rfl (by kernel_rfl) (by kernel_rfl) (by kernel_rfl) (fun _ _ _ h => h) (Or.inl ⟨by kernel_rfl, ?_⟩) (by assumption) ?_
  rotate_left
  · (intro w hSw; (try dsimp only at hSw); go_simp) <;> with_reducible rfl
  (try simp only [Act.put, List.getElem_toArray, List.getElem_cons_zero, List.getElem_cons_succ, List.setIfInBounds_toArray, List.set_cons_zero, List.set_cons_succ])
  refine wpAnyH_take (i := 12) (v := ?_) rfl (by kernel_rfl) (by kernel_rfl) (by kernel_rfl) (fun _ _ _ h => h) (Or.inl ⟨by kernel_rfl, ?_⟩) (by assumption) ?_
  rotate_left
  · (intro w hSw; (try dsimp only at hSw); go_simp) <;> with_reducible rfl
  (try simp only [Act.put, List.getElem_toArray, List.getElem_cons_zero, List.getElem_cons_succ, List.setIfInBounds_toArray, List.set_cons_zero, List.set_cons_succ])
  refine wpAnyH_take (i := 13) (v := ?_) rfl (by kernel_rfl) (by kernel_rfl) (by kernel_rfl) (fun _ _ _ h => h) (Or.inl ⟨by kernel_rfl, ?_⟩) (by assumption) ?_
  rotate_left
  · (intro w hSw; (try dsimp only at hSw); go_simp) <;> with_reducible rfl
  (try simp only [Act.put, List.getElem_toArray, List.getElem_cons_zero, List.getElem_cons_succ, List.setIfInBounds_toArray, List.set_cons_zero, List.set_cons_succ])
  refine wpAnyH_ready (rs := [14]) (by kernel_rfl) (by simp) ?_
  refine AllReadyH.cons rfl (fun K hK => ?_) AllReadyH.nil
  go_simp
  refine hG.mono ?_
  rintro e w2 ⟨rfl, hd2, hu2⟩
  have hdr2 : DrAt w2 X.base X.bd X.B X.G X.n vs ws (m + 1) sv' S := HD.out.got hd2 (by have := HG.out; omega) HG.out.2 hu2
  have h2 : FlAt w2 X vs ws (m + 1) iw bw kd lk sz bl := H1.out.got (gt := 0) (pt := 0) ⟨_, _, hdr2⟩ hu2
  have hlw := h2.low
  have hlo := h2.lo
  have hbk : w2.heap[X.bf]? = w1.heap[X.bf]? := hu2.block X.bf (lt_of_heap H1.out.head) (by omega)
  obtain ⟨sv2, t0, t1, t2⟩ := h2.dr.cells
  have hs2 : w2.cell? ⟨X.bf, 0, none⟩ = some (ptr X.bd) ∧ w2.cell? ⟨X.bd, 0, none⟩ = some (sto X.B) ∧ w2.cell? ⟨X.bf, 7 + k, none⟩ = some (.int .i64 (b : Int)) := ⟨(World.cell?_of_block hbk).trans hs.1, t0, (World.cell?_of_block hbk).trans hs.2.2⟩
  have hr2 : w2.heap[r0]? = some (.cells zc 117) := (hu2.block r0 (lt_of_heap HR1.out) (by have := Hr0.out; omega)).trans HR1.out
  have H2 : Hid (FlAt w2 X vs ws (m + 1) iw bw kd lk sz bl) := h2
  have HR2 : Hid _ := hr2
  have HFr2 : Hid (Upd X.B w w2) := (HFr1.out.trans (Upd.of_below (Di.drewN_below (w := w1) ⟨1, rfl⟩))).trans hu2
  have h3 := h2.other (Upd.setRow r0 w2 R) hr2 (by rw [Hr0.out]; exact hbs) (by decide)
  have H3 : Hid (FlAt (w2.setRow r0 R) X vs ws (m + 1) iw bw kd lk sz bl) := h3
  have HFr3 : Hid (Upd X.B w (w2.setRow r0 R)) := HFr2.out.far (by rw [Hr0.out]; exact Nat.le_refl _)
  have hbk3 : (w2.setRow r0 R).heap[X.bf]? = w2.heap[X.bf]? := h3.head.trans h2.head.symm
  obtain ⟨sv3, v0, v1, v2⟩ := h3.dr.cells
  have hs3 : (w2.setRow r0 R).cell? ⟨X.bf, 0, none⟩ = some (ptr X.bd) ∧ (w2.setRow r0 R).cell? ⟨X.bd, 0, none⟩ = some (sto X.B) ∧ (w2.setRow r0 R).cell? ⟨X.bf, 7 + k, none⟩ = some (.int .i64 (b : Int)) := ⟨(World.cell?_of_block hbk3).trans hs2.1, v0, (World.cell?_of_block hbk3).trans hs2.2.2⟩
  have HR3 : Hid ((w2.setRow r0 R).heap[r0]? = some (.cells R 117)) := setRow_heap w2 r0 _ _ _ _ hr2
  clear hG hd2 hu2 hdr2 h2 hlw hlo hbk t0 t1 t2 hr2 h3 hbk3 v0 v1 v2
  refine hK.out _ _ hs2 (fun hHeld => ?_)
  clear hK K
  (try simp only [Act.put, List.getElem_toArray, List.getElem_cons_zero, List.getElem_cons_succ, List.setIfInBounds_toArray, List.set_cons_zero, List.set_cons_succ])
  refine wpAnyH_take (i := 15) (v := ?_) rfl (by kernel_rfl) (by kernel_rfl) (by kernel_rfl) (fun _ _ _ h => h) (Or.inl ⟨by kernel_rfl, ?_⟩) (by assumption) ?_
  rotate_left
  · (intro w hSw; (try dsimp only at hSw); go_simp) <;> with_reducible rfl
  (try simp only [Act.put, List.getElem_toArray, List.getElem_cons_zero, List.getElem_cons_succ, List.setIfInBounds_toArray, List.set_cons_zero, List.set_cons_succ])
  refine wpAnyH_take (i := 16) (v := ?_) rfl (by kernel_rfl) (by kernel_rfl) (by kernel_rfl) (fun _ _ _ h => h) (Or.inl ⟨by kernel_rfl, ?_⟩) (by assumption) ?_
  rotate_left
  · (intro w hSw; (try dsimp only at hSw); go_simp) <;> with_reducible rfl
  (try simp only [Act.put, List.getElem_toArray, List.getElem_cons_zero, List.getElem_cons_succ, List.setIfInBounds_toArray, List.set_cons_zero, List.set_cons_succ])
  refine wpAnyH_ready (rs := [17]) (by kernel_rfl) (by simp) ?_
  refine AllReadyH.cons rfl (fun K hK => ?_) AllReadyH.nil
  refine step_store_row rfl 117 _ _ rfl r0 R rfl rfl 117 zc HR2.out (by rw [HRs.out]; exact contSize) (by rw [HRs.out]; rfl) HRo.out ?_
  refine hK.out _ _ hs3 (fun hHeld => ?_)
  clear hK K
  (try simp only [Act.put, List.getElem_toArray, List.getElem_cons_zero, List.getElem_cons_succ, List.setIfInBounds_toArray, List.set_cons_zero, List.set_cons_succ])
  refine wpAnyH_take (i := 18) (v := ?_) rfl (by kernel_rfl) (by kernel_rfl) (by kernel_rfl) (fun _ _ _ h => h) (Or.inl ⟨by kernel_rfl, ?_⟩) (by assumption) ?_
  rotate_left
  · (intro w hSw; (try dsimp only at hSw); go_simp) <;> with_reducible rfl
  (try simp only [Act.put, List.getElem_toArray, List.getElem_cons_zero, List.getElem_cons_succ, List.setIfInBounds_toArray, List.set_cons_zero, List.set_cons_succ])
  refine wpAnyH_done (by kernel_rfl) ?_ _
  clear hs hs2 hs3
  go_wp2
  refine bodyPost_ret (v := .tuple #[.agg R, .int .i64 0]) ?_ rfl ⟨by rw [HRq.out], H3.out, HFr3.out⟩
  rw [results_cell_tmp rfl]
  show ((asAddr (.pointer (some ⟨r0, 0, none⟩))).run _ _).andThen _ = _
  simp only [asAddr, Sem.run_pure, Result.andThen_ok]
  rw [run_loadVar_row _ r0 _ _ R (0, 0) _ HR3.out Try.underlying117 rfl (by rw [HRs.out]; exact contSize)]
  rfl
end
end Go.Proofs.Ytinjllnoonbjmaa
