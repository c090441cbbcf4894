/- Package inode: Get, Put, Left. -/
import Derived.Test.YtinjllnoonbjmaaInoX
import Derived.Test.YtinjllnoonbjmaaInoZ
namespace Go.Proofs.Ytinjllnoonbjmaa
open Go.RowKit
set_option linter.all false

/-- A disk of words. -/
def Dk (w : World) (B G n : Nat) (vs : List Int) (m : Nat) : Prop := ∃ gt pt, Di.DiskAt w B G n vs gt pt ∧ gt ≤ m ∧ pt ≤ m
/-- What a call may touch: the disk. -/
abbrev BG (B G : Nat) (w w' : World) : Prop := UpdP (fun k => k = B ∨ k = G) w w'
section
variable {w w' : World} {B G n m : Nat} {vs : List Int} {F : FS}
theorem Dk.mono {m' : Nat} (h : Dk w B G n vs m) (hm : m ≤ m') : Dk w B G n vs m' := by
  obtain ⟨gt, pt, hd, h1, h2⟩ := h
  exact ⟨gt, pt, hd, by omega, by omega⟩
theorem Dk.below (h : Dk w B G n vs m) (hb : Below w.heap.size w w') : Dk w' B G n vs m := by
  obtain ⟨gt, pt, hd, h1, h2⟩ := h
  exact ⟨gt, pt, hd.below hb, h1, h2⟩
theorem Dk.lt (h : Dk w B G n vs m) : B < w.heap.size ∧ G < w.heap.size := by
  obtain ⟨gt, pt, hd, h1, h2⟩ := h
  exact ⟨lt_of_heap hd.head, lt_of_heap hd.row⟩
theorem Dk.len (h : Dk w B G n vs m) : vs.length = n * 32 := by
  obtain ⟨gt, pt, hd, h1, h2⟩ := h
  exact hd.len
theorem bg_dt {base : Nat} {w1 : World} (h : DT base B w w1) (hb : w.heap.size ≤ base) : BG B G w w1 := ⟨h.os, h.tape, h.output, h.size, fun k hk hn => h.block k hk (fun e => hn (Or.inl e)) (Or.inl (by omega))⟩
theorem bg_start {base : Nat} {W1 w2 : World} (h1 : Below w.heap.size w W1) (hT : DT base B W1 w2) (hb : w.heap.size ≤ base) : BG B G w w2 :=
  ⟨hT.os.trans h1.os, hT.tape.trans h1.tape, hT.output.trans h1.output, Nat.le_trans h1.size hT.size, fun k hk hn => (hT.block k (Nat.lt_of_lt_of_le hk h1.size) (fun e => hn (Or.inl e)) (Or.inl (by omega))).trans (h1.block k hk)⟩
theorem bg_fr {X : FX} {w1 : World} (h : Fr X w w1) (hb : w.heap.size ≤ X.base) (hB : X.B = B) : BG B G w w1 := ⟨h.os, h.tape, h.output, h.size, fun k hk hn => h.block k hk (fun e => hn (Or.inl (by rcases e with e | e; exact e.trans hB; omega)))⟩
theorem bg_new {p : Nat} {w1 w2 : World} (h : BG B G w w1) (hu : Upd p w1 w2) (hp : w.heap.size ≤ p) : BG B G w w2 := ⟨hu.os.trans h.os, hu.tape.trans h.tape, hu.output.trans h.output, Nat.le_trans h.size hu.size, fun k hk hn => (hu.block k (Nat.lt_of_lt_of_le hk h.size) (by omega)).trans (h.block k hk hn)⟩
set_option maxHeartbeats 1000000 in
theorem get_out (b : Nat) (i : Int) (hi : isI i = false) (w : World) :
    Calls Try.prog 21 #[sto b, .int .i64 i] w fun e w' => e = .returned (.tuple #[.agg zi, .int .i64 101]) ∧ Below w.heap.size w w' := by
  have hI := fun W => isInode_at i W
  rw [hi] at hI
  have hni := sto_nil b
  clear hi
  go_enter Try.func21, Try.ntmps21
  go_wp2_with fail
  refine (hI _).mono ?_
  rintro e w1 ⟨rfl, hw⟩
  rw [hw]
  clear hw w1 hI
  go_wp2
  refine bodyPost_ret (v := .tuple #[.agg zi, .int .i64 101]) ?_ rfl ⟨rfl, ?_⟩
  · rw [results_cell_tmp rfl, ← lit_zi]
    go_simp
  · exact below_alloc _ _
set_option maxHeartbeats 2000000 in
set_option maxRecDepth 100000 in
theorem get_in (h : Dk w B G n vs m) (hm : m ≤ 900000) (hn : 13 ≤ n) (hn2 : n ≤ 1024) (i : Nat) (hi : i < 32) (hf : ∀ x ∈ rowW vs i, Fit x) :
    Calls Try.prog 21 #[sto B, .int .i64 (i : Int)] w fun e w' => e = .returned (.tuple #[.agg (irow (rowW vs i)), .int .i64 0]) ∧ Dk w' B G n vs (m + 2000) ∧ BG B G w w' := by
  have hI := fun W => isInode_at (i : Int) W
  rw [isI_nat hi] at hI
  have hni := sto_nil B
  have hlt := h.lt
  have hlen := h.len
  obtain ⟨W0, hW0⟩ : ∃ W, W = w.alloc (.cells zi 47) := ⟨_, rfl⟩
  have hb0 : Below w.heap.size w W0 := by rw [hW0]; exact below_alloc _ _
  have hs0 : W0.heap.size = w.heap.size + 1 := by rw [hW0]; simp
  have hr0 : W0.heap[w.heap.size]? = some (.cells zi 47) := by rw [hW0]; exact heap_alloc_new _ _
  obtain ⟨gt, pt, hd, h1, h2⟩ := h.below hb0
  have hst := Dr.start hd h1 h2 hn2
  obtain ⟨W1, hW1⟩ : ∃ W, W = W0.alloc (.cells #[sto B, .slice none 0 0, .int .i64 0] 78) := ⟨_, rfl⟩
  have hb1 : Below W0.heap.size W0 W1 := by rw [hW1]; exact below_alloc _ _
  rw [← hW1] at hst
  have hG := dinode_at hst hm hn hb1.size i hi hf
  have HR0 : Hid (W1.heap[w.heap.size]? = some (.cells zi 47)) := (hb1.block _ (lt_of_heap hr0)).trans hr0
  have HW0 : Hid _ := hW0
  have HW1 : Hid _ := hW1
  have HB1 : Hid (Below w.heap.size w W1) := hb0.trans (hb1.mono hb0.size)
  have HS0 : Hid (W0.heap.size = w.heap.size + 1) := hs0
  have HS1 : Hid (W1.heap.size = w.heap.size + 2) := by rw [hW1]; show _ = _; simp; omega
  have HBl : Hid (B < w.heap.size) := hlt.1
  have HRl : Hid ((rowW vs i).length = 9) := rowW_len hlen (by omega)
  have hz := lit_zi
  clear h hb0 hs0 hr0 hd h1 h2 hst hb1 hW0 hW1 hf hlt hlen
  go_enter Try.func21, Try.ntmps21
  go_wp2_with fail
  rw [← HW0.out]
  refine (hI _).mono ?_
  rintro e w1 ⟨rfl, hw⟩
  rw [hw]
  clear hw w1 hI
  go_wp2_with fail
  rw [← HW1.out]
  refine hG.mono ?_
  rintro e w2 ⟨rfl, hdr, hdt⟩
  obtain ⟨sv, e0, e1, e2⟩ := hdr.cells
  have HD : Hid (Dr w2 W0.heap.size W0.heap.size B G n vs vs m) := hdr
  have HT : Hid (DT W0.heap.size B W1 w2) := hdt
  obtain ⟨R, hR⟩ : ∃ R, R = irow (rowW vs i) := ⟨_, rfl⟩
  have HRs : Hid (R.size = 9) := by rw [hR]; show _ = _; rw [irow_size]; exact HRl.out
  have HRo : Hid (R.all (·.oneCell') = true) := by rw [hR]; exact irow_one _
  have HRq : Hid (R = irow (rowW vs i)) := hR
  have HR2 : Hid (w2.heap[w.heap.size]? = some (.cells zi 47)) := hdt.other HR0.out (by have := HBl.out; omega) (by decide)
  rw [← hR]
  obtain ⟨W3, hW3⟩ : ∃ W, W = w2.alloc (.cells R 47) := ⟨_, rfl⟩
  have hb3 : Below w2.heap.size w2 W3 := by rw [hW3]; exact below_alloc _ _
  have hbl : W0.heap.size < w2.heap.size := by have := hdt.size; have := HS1.out; have := HS0.out; omega
  have HW3 : Hid _ := hW3
  have HB3 : Hid (Below w2.heap.size w2 W3) := hb3
  have HP3 : Hid (W3.heap[w2.heap.size]? = some (.cells R 47)) := by rw [hW3]; exact heap_alloc_new _ _
  have e23 : W3.cell? ⟨W0.heap.size, 2, none⟩ = some (.int .i64 0) := (hb3.cell hbl).trans e2
  have HR3 : Hid (W3.heap[w.heap.size]? = some (.cells zi 47)) := (hb3.block _ (lt_of_heap HR2.out)).trans HR2.out
  clear hG hdr hdt e0 e1 e2 hR hW3 hb3
  go_wp2_with (first
    | (refine wpList_store_row rfl 47 _ _ rfl w2.heap.size R rfl rfl 47 zi (heap_alloc_new _ _) (by rw [HRs.out]; exact inoSize) (by rw [HRs.out]; rfl) HRo.out ?_; rw [setRow_alloc_new])
    | go_in)
  rw [← HW3.out]
  clear HW3
  obtain ⟨p, hp⟩ : ∃ p, p = w2.heap.size := ⟨_, rfl⟩
  have Hp : Hid (p = w2.heap.size) := hp
  obtain ⟨r0, hr0⟩ : ∃ r, r = w.heap.size := ⟨_, rfl⟩
  have Hr0 : Hid (r0 = w.heap.size) := hr0
  obtain ⟨bd, hbd⟩ : ∃ r, r = W0.heap.size := ⟨_, rfl⟩
  have Hbd : Hid (bd = W0.heap.size) := hbd
  rw [← hbd] at e23
  rw [← hp] at HP3
  rw [← hr0] at HR3
  rw [← hp, ← hr0, ← hbd]
  obtain ⟨Rl, hRl⟩ : ∃ l, l = R.toList := ⟨_, rfl⟩
  have hRr : W3.rangeAt p 0 Rl := fun j v hv => by rw [Nat.zero_add, cell_of_heap HP3.out]; rw [hRl] at hv; simpa using hv
  have HRls : Hid (Rl.length = 9) := by rw [hRl]; show _ = _; rw [Array.length_toList]; exact HRs.out
  have HRlq : Hid (Rl.toArray = R) := by rw [hRl]; rfl
  have hs : W3.cell? ⟨bd, 2, none⟩ = some (.int .i64 0) ∧ W3.rangeAt p 0 Rl := ⟨e23, hRr⟩
  have HNe : Hid (r0 ≠ p ∧ r0 ≠ bd) := by have := Hp.out; have := Hr0.out; have := HS0.out; have := Hbd.out; show _ ∧ _; omega
  have HN4 : Hid ((W3.setRow r0 R).heap[r0]? = some (.cells R 47)) := setRow_heap W3 r0 _ _ _ _ HR3.out
  have hs4 : (W3.setRow r0 R).cell? ⟨bd, 2, none⟩ = some (.int .i64 0) ∧ (W3.setRow r0 R).rangeAt p 0 Rl := ⟨(World.cell?_of_block (setRow_other _ _ _ _ (Ne.symm HNe.out.2))).trans e23, fun j v hv => (World.cell?_of_block (setRow_other _ _ _ _ (Ne.symm HNe.out.1))).trans (hRr j v hv)⟩
  clear hp hr0 hbd hRl hRr e23 hz
  refine wp_region_held_drew (S := fun w' => w'.cell? ⟨bd, 2, none⟩ = some (.int .i64 0) ∧ w'.rangeAt p 0 Rl) (by kernel_rfl) hs (fun hHeld => ?_)
  refine wpAnyH_take (i := 0) (v := .agg (Rl).toArray) rfl (by kernel_rfl) (by kernel_rfl) (by kernel_rfl) (fun _ _ _ h => h) (yieldsIf_load_mid (by kernel_rfl) 47 _ rfl p 0 rfl (Rl) _ (fun w h => h.2) Try.underlying47 rfl (by rw [HRls.out]; exact inoSize)) (by assumption) ?_
  (try simp only [Act.put, List.getElem_toArray, List.getElem_cons_zero, List.getElem_cons_succ, List.setIfInBounds_toArray, List.set_cons_zero, List.set_cons_succ])
  refine wpAnyH_take (i := 1) (v := ?_) rfl (by kernel_rfl) (by kernel_rfl) (by kernel_rfl) (fun _ _ _ h => h) (Or.inl ⟨by kernel_rfl, ?_⟩) (by assumption) ?_
  rotate_left
  · (intro w hSw; (try dsimp only at hSw); go_simp) <;> with_reducible rfl
  (try simp only [Act.put, List.getElem_toArray, List.getElem_cons_zero, List.getElem_cons_succ, List.setIfInBounds_toArray, List.set_cons_zero, List.set_cons_succ])
  refine wpAnyH_take (i := 2) (v := ?_) rfl (by kernel_rfl) (by kernel_rfl) (by kernel_rfl) (fun _ _ _ h => h) (Or.inl ⟨by kernel_rfl, ?_⟩) (by assumption) ?_
  rotate_left
  · (intro w hSw; (try dsimp only at hSw); go_simp) <;> with_reducible rfl
  (try simp only [Act.put, List.getElem_toArray, List.getElem_cons_zero, List.getElem_cons_succ, List.setIfInBounds_toArray, List.set_cons_zero, List.set_cons_succ])
  refine wpAnyH_take (i := 3) (v := ?_) rfl (by kernel_rfl) (by kernel_rfl) (by kernel_rfl) (fun _ _ _ h => h) (Or.inl ⟨by kernel_rfl, ?_⟩) (by assumption) ?_
  rotate_left
  · (intro w hSw; (try dsimp only at hSw); go_simp) <;> with_reducible rfl
  (try simp only [Act.put, List.getElem_toArray, List.getElem_cons_zero, List.getElem_cons_succ, List.setIfInBounds_toArray, List.set_cons_zero, List.set_cons_succ])
  refine wpAnyH_take (i := 4) (v := ?_) rfl (by kernel_rfl) (by kernel_rfl) (by kernel_rfl) (fun _ _ _ h => h) (Or.inl ⟨by kernel_rfl, ?_⟩) (by assumption) ?_
  rotate_left
  · (intro w hSw; (try dsimp only at hSw); go_simp) <;> with_reducible rfl
  (try simp only [Act.put, List.getElem_toArray, List.getElem_cons_zero, List.getElem_cons_succ, List.setIfInBounds_toArray, List.set_cons_zero, List.set_cons_succ])
  refine wpAnyH_ready (rs := [5]) (by kernel_rfl) (by simp) ?_
  refine AllReadyH.cons rfl (fun K hK => ?_) AllReadyH.nil
  rw [HRlq.out]
  refine step_store_row rfl 47 _ _ rfl r0 R rfl rfl 47 zi HR3.out (by rw [HRs.out]; exact inoSize) (by rw [HRs.out]; rfl) HRo.out ?_
  refine hK.out _ _ hs4 (fun hHeld => ?_)
  clear hK K
  (try simp only [Act.put, List.getElem_toArray, List.getElem_cons_zero, List.getElem_cons_succ, List.setIfInBounds_toArray, List.set_cons_zero, List.set_cons_succ])
  refine wpAnyH_take (i := 6) (v := ?_) rfl (by kernel_rfl) (by kernel_rfl) (by kernel_rfl) (fun _ _ _ h => h) (Or.inl ⟨by kernel_rfl, ?_⟩) (by assumption) ?_
  rotate_left
  · (intro w hSw; (try dsimp only at hSw); go_simp) <;> with_reducible rfl
  (try simp only [Act.put, List.getElem_toArray, List.getElem_cons_zero, List.getElem_cons_succ, List.setIfInBounds_toArray, List.set_cons_zero, List.set_cons_succ])
  refine wpAnyH_done (by kernel_rfl) ?_ _
  clear hs hs4
  go_wp2
  obtain ⟨W5, hW5⟩ : ∃ W, W = (W3.setRow r0 R).drew := ⟨_, rfl⟩
  have hD3 := HD.out.below HB3.out
  have hD4 : Dr (W3.setRow r0 R) W0.heap.size W0.heap.size B G n vs vs m := by
    obtain ⟨sv, S, hd⟩ := hD3
    obtain ⟨gt, pt, hk, _⟩ := hd.disk
    have hb := HBl.out
    have hr := Hr0.out
    have h0 := HS0.out
    have hlw := hd.low
    refine ⟨sv, S, hd.keep (fun k hk hi => setRow_other _ _ _ _ (by omega)) (setRow_other _ _ _ _ (by omega)) (setRow_other _ _ _ _ (fun e => ?_))⟩
    have := hk.row
    rw [e, HR3.out] at this
    simp only [Option.some.injEq, Obj.cells.injEq] at this
    exact absurd this.2.1 (by decide)
  obtain ⟨gt, pt, hk, q1, q2⟩ := hD4.disk
  refine bodyPost_ret (v := .tuple #[.agg R, .int .i64 0]) ?_ rfl ⟨by rw [HRq.out], ⟨gt, pt, hk.keep rfl rfl, by omega, by omega⟩, ?_⟩
  · rw [results_cell_tmp rfl]
    show ((asAddr (.pointer (some ⟨r0, 0, none⟩))).run _ _).andThen _ = _
    simp only [asAddr, Sem.run_pure, Result.andThen_ok]
    rw [run_loadVar_row _ r0 _ _ R (0, 0) _ (show (W3.drew.setRow r0 R).heap[r0]? = _ from HN4.out) Try.underlying47 rfl (by rw [HRs.out]; exact inoSize)]
    rfl
  · have hT := HT.out
    have a1 : BG B G w w2 := bg_start HB1.out hT (by rw [HS0.out]; omega)
    have a2 := bg_new (a1.trans (UpdP.of_below HB3.out)) (Upd.setRow r0 W3 R) (by rw [Hr0.out]; exact Nat.le_refl _)
    exact ⟨a2.os, a2.tape, a2.output, a2.size, a2.block⟩
end
end Go.Proofs.Ytinjllnoonbjmaa
