/- A draft of fscore's over no store: what inode does on it. -/
/- A draft of fscore's over no store: inode's at, row, lay, setHead, setInode. -/
import Derived.Test.YtcjpahnlckfgoaaGreatDoorFsFG
import Derived.Deep.RegionHeld3
namespace Go.Proofs.YtcjpahnlckfgoaaGreatDoor
open Go.RowKit
set_option linter.unusedVariables false

abbrev fsto (d : Nat) : Value := .iface 146 (ptr d)
/-- fscore's draft over no store, behind so many errors. -/
def NilF (w : World) (d : Nat) (e : Int) : Prop := w.heap[d]? = some (.cells #[.nilIface, .slice none 0 0, .int .i64 e] 149)
/-- inode's draft over it. -/
def NilD (w : World) (bd d : Nat) (e : Int) : Prop := w.heap[bd]? = some (.cells #[fsto d, .slice none 0 0, .int .i64 e] 102)
theorem NilF.err {w : World} {d : Nat} (h : NilF w d 0) : NilF (w.setCell ⟨d, 2, none⟩ (.int .i64 101)) d 101 := by
  unfold NilF
  rw [setCell_eq_setRow w d 2 _ _ _ _ h, setRow_heap w d _ _ _ _ h]
  rfl
theorem NilD.err {w : World} {bd d : Nat} (h : NilD w bd d 0) : NilD (w.setCell ⟨bd, 2, none⟩ (.int .i64 101)) bd d 101 := by
  unfold NilD
  rw [setCell_eq_setRow w bd 2 _ _ _ _ h, setRow_heap w bd _ _ _ _ h]
  rfl
section
variable {w : World} {d bd : Nat}
set_option maxRecDepth 100000 in
theorem fask_nil (h : NilF w d 0) (b : Int) : Calls Tryz.prog 249 #[ptr d, .int .i64 b] w fun e w' => e = .returned (.tuple #[.slice none 0 0, .int .i64 101]) ∧ w' = w := by
  have c0 : w.cell? ⟨d, 0, none⟩ = some .nilIface := by rw [cell_of_heap h]; rfl
  clear h
  go_enter Tryz.func249, Tryz.ntmps249
  go_wp2
  go_ret2
  exact ⟨rfl, rfl⟩
set_option maxRecDepth 100000 in
set_option maxHeartbeats 1000000 in
theorem fleaf_nil (h : NilF w d 0) (b : Int) : Calls Tryz.prog 248 #[ptr d, .int .i64 b] w fun e w' => e = .returned (.tuple #[.pointer none, .int .i64 101]) ∧ NilF w' d 101 ∧ Upd d w w' := by
  have c1 : w.cell? ⟨d, 1, none⟩ = some (.slice none 0 0) := by rw [cell_of_heap h]; rfl
  have c2 : w.cell? ⟨d, 2, none⟩ = some (.int .i64 0) := by rw [cell_of_heap h]; rfl
  have f2 : w.frozen? ⟨d, 2, none⟩ = false := frozen_of_heap h
  have hA := fask_nil h b
  have HE : Hid (NilF (w.setCell ⟨d, 2, none⟩ (.int .i64 101)) d 101) := h.err
  clear h
  go_enter Tryz.func248, Tryz.ntmps248
  go_wp2
  go_loopw [16] (fun s wr => s = .int .i64 0 ∧ wr = w) (fun _ _ => 0)
  case atStart => exact ⟨rfl, rfl⟩
  case round =>
    obtain ⟨rfl, rfl⟩ := hrel
    go_wp2_with fail
    refine hA.mono ?_
    rintro e w1 ⟨rfl, hw⟩
    rw [hw]
    clear hA hw w1
    go_wp2
    go_ret2
    exact ⟨rfl, HE.out, Upd.setCell _ _ _ _⟩
set_option maxRecDepth 100000 in
theorem fget_nil (h : NilF w d 0) (b : Int) : Calls Tryz.prog 246 #[ptr d, .int .i64 b] w fun e w' => e = .returned (.tuple #[.slice none 0 0, .int .i64 101]) ∧ NilF w' d 101 ∧ Upd d w w' := by
  have hL := fleaf_nil h b
  clear h
  go_enter Tryz.func246, Tryz.ntmps246
  go_wp2_with fail
  refine hL.mono ?_
  rintro e w1 ⟨rfl, hn, hu⟩
  have HE : Hid (NilF w1 d 101 ∧ Upd d w w1) := ⟨hn, hu⟩
  clear hL hn hu
  go_wp2
  go_ret2
  exact ⟨rfl, HE.out⟩
set_option maxRecDepth 100000 in
set_option maxHeartbeats 1000000 in
theorem iget_nil (h : NilF w d 0) (b : Int) : Calls Tryz.prog 110 #[fsto d, .int .i64 b] w fun e w' => e = .returned (.tuple #[.agg zc, .int .i64 101]) ∧ NilF w' d 101 ∧ Upd d w w' := by
  have hme := (dft_ok (dsk 0 0 0) 0 d []).mget
  have hcf := (dft_ok (dsk 0 0 0) 0 d []).cget
  obtain ⟨W2, hW2⟩ : ∃ W, W = (w.alloc (.cells zc 105)).alloc (.cells zc 105) := ⟨_, rfl⟩
  have hb2 : Below w.heap.size w W2 := by rw [hW2]; exact (below_alloc w _).trans ((below_alloc _ _).mono (by simp))
  have HB2 : Hid (Below w.heap.size w W2) := hb2
  have hg2 := fget_nil (w := W2) (d := d) ((hb2.block _ (lt_of_heap h)).trans h) b
  have hR0 : W2.heap[w.heap.size]? = some (.cells zc 105) := by rw [hW2]; exact heap_alloc2_old w _ _
  have hR1 : W2.heap[w.heap.size + 1]? = some (.cells zc 105) := by rw [hW2]; exact heap_alloc2_new w _ _
  have hdl := lt_of_heap h
  have HR0 : Hid _ := hR0
  have HR1 : Hid _ := hR1
  have HW : Hid _ := hW2
  have hz := lit_zc
  have hme' : ∀ W, (method 414 146 (ptr d) "Get").run Tryz.prog W = .ok (246, ptr d) W := hme
  have hcf' : ∀ (args : Array Value) (W : World), (callFunc 246 args).run Tryz.prog W = .ok (.enter 246 args) W := hcf
  clear h hb2 hW2 hR0 hR1 hme hcf
  go_enter Tryz.func110, Tryz.ntmps110
  go_wp2_with fail
  rw [← HW.out]
  refine hg2.mono ?_
  rintro e w1 ⟨rfl, hn, hu1⟩
  have HSt : Hid (NilF w1 d 101 ∧ Upd d W2 w1) := ⟨hn, hu1⟩
  have hR0 : w1.heap[w.heap.size]? = some (.cells zc 105) := by rw [hu1.block _ (lt_of_heap HR0.out) (by omega)]; exact HR0.out
  have hR1 : w1.heap[w.heap.size + 1]? = some (.cells zc 105) := by rw [hu1.block _ (lt_of_heap HR1.out) (by omega)]; exact HR1.out
  obtain ⟨R, hR⟩ : ∃ R, R = zc := ⟨_, rfl⟩
  have HRq : Hid (R = zc) := hR
  have HRs : Hid (R.size = 32) := by show _ = _; rw [hR]; rfl
  have HRo : Hid (R.all (·.oneCell') = true) := by show _ = _; rw [hR]; exact urow_one _
  obtain ⟨c1, hc1⟩ : ∃ c, c = w.heap.size + 1 := ⟨_, rfl⟩
  obtain ⟨c0, hc0⟩ : ∃ c, c = w.heap.size := ⟨_, rfl⟩
  have H2 : Hid (w1.heap[c1]? = some (.cells R 105 (0, 0))) := by rw [hc1, hR]; exact hR1
  have H3 : Hid (w1.heap[c0]? = some (.cells R 105 (0, 0))) := by rw [hc0, hR]; exact hR0
  have H4 : Hid ((w1.setRow c0 R).heap[c0]? = some (.cells R 105 (0, 0))) := setRow_heap _ c0 _ _ _ _ H3.out
  have HE : Hid (NilF (w1.setRow c0 R) d 101 ∧ Upd d w (w1.setRow c0 R)) := by
    refine ⟨(setRow_other _ _ _ _ (by omega)).trans hn, ?_⟩
    have u1 := Upd.setRow c0 w1 R
    refine ⟨u1.os.trans (hu1.os.trans HB2.out.os), u1.tape.trans (hu1.tape.trans HB2.out.tape), u1.output.trans (hu1.output.trans HB2.out.output), Nat.le_trans HB2.out.size (Nat.le_trans hu1.size u1.size), fun k hk hne => ?_⟩
    rw [u1.block k (Nat.lt_of_lt_of_le hk (Nat.le_trans HB2.out.size hu1.size)) (by omega), hu1.block k (Nat.lt_of_lt_of_le hk HB2.out.size) hne, HB2.out.block k hk]
  rw [← hc1]
  rw [← hc0]
  clear hR hR0 hR1 hn hu1 hg2 hc1 hc0 hz hme' hcf'
  go_wp2_with (first
    | (refine wpList_load_row rfl 105 _ rfl c1 rfl 105 R (0, 0) _ H2.out Tryz.underlying105 rfl (by rw [HRs.out]; exact contSize) ?_)
    | (refine wpList_store_row rfl 105 _ _ rfl c0 R rfl rfl 105 R H3.out (by rw [HRs.out]; exact contSize) rfl HRo.out ?_)
    | go_in)
  refine bodyPost_ret (v := .tuple #[.agg R, .int .i64 101]) ?_ rfl ⟨by rw [← HRq.out], HE.out⟩
  · rw [results_cell_tmp rfl]
    show ((asAddr (.pointer (some ⟨c0, 0, none⟩))).run _ _).andThen _ = _
    simp only [asAddr, Sem.run_pure, Result.andThen_ok]
    rw [run_loadVar_row _ c0 _ _ R (0, 0) _ H4.out Tryz.underlying105 rfl (by rw [HRs.out]; exact contSize)]
    rfl
end
end Go.Proofs.YtcjpahnlckfgoaaGreatDoor

namespace Go.Proofs.YtcjpahnlckfgoaaGreatDoor
open Go.RowKit
set_option linter.unusedVariables false
set_option linter.unusedSimpArgs false

/-- A content of nobody's. -/
abbrev Con (w : World) (q : Nat) : Prop := ∃ R : Array Value, R.size = 32 ∧ (∀ j, j < 32 → ∃ y, R[j]? = some (.int .u64 y)) ∧ w.heap[q]? = some (.cells R 105)
theorem con_zc {w : World} {q : Nat} (h : w.heap[q]? = some (.cells zc 105)) : Con w q := ⟨zc, rfl, fun j hj => ⟨0, by
  unfold zc urow
  rw [List.getElem?_toArray, List.getElem?_map, List.getElem?_replicate, if_pos hj]
  rfl⟩, h⟩
section
variable {w : World} {d bd : Nat}
set_option maxRecDepth 100000 in
set_option maxHeartbeats 1000000 in
theorem at_nil1 (h : NilD w bd d 101) (b : Int) : Calls Tryz.prog 50 #[ptr bd, .int .i64 b] w fun e w' => e = .returned (ptr w.heap.size) ∧ w' = w.alloc (.cells zc 105) := by
  have c1 : w.cell? ⟨bd, 1, none⟩ = some (.slice none 0 0) := by rw [cell_of_heap h]; rfl
  have c2 : w.cell? ⟨bd, 2, none⟩ = some (.int .i64 101) := by rw [cell_of_heap h]; rfl
  have hz := lit_zc
  clear h
  go_enter Tryz.func50, Tryz.ntmps50
  go_wp2
  go_loopw [15] (fun s wr => s = .int .i64 0 ∧ wr = w) (fun _ _ => 0)
  case atStart => exact ⟨rfl, rfl⟩
  case round =>
    obtain ⟨rfl, rfl⟩ := hrel
    go_wp2
    go_ret
    exact ⟨rfl, rfl⟩
set_option maxRecDepth 100000 in
set_option maxHeartbeats 1000000 in
theorem at_nil0 (h : NilD w bd d 0) (hf : NilF w d 0) (b : Int) : Calls Tryz.prog 50 #[ptr bd, .int .i64 b] w fun e w' => ∃ q, e = .returned (ptr q) ∧ w.heap.size ≤ q ∧ w'.heap[q]? = some (.cells zc 105) ∧ NilD w' bd d 101 ∧ UpdP (fun k => k = bd ∨ k = d) w w' := by
  have c0 : w.cell? ⟨bd, 0, none⟩ = some (fsto d) := by rw [cell_of_heap h]; rfl
  have c1 : w.cell? ⟨bd, 1, none⟩ = some (.slice none 0 0) := by rw [cell_of_heap h]; rfl
  have c2 : w.cell? ⟨bd, 2, none⟩ = some (.int .i64 0) := by rw [cell_of_heap h]; rfl
  have hG := iget_nil hf b
  have hz := lit_zc
  have hne : bd ≠ d := fun e => by
    unfold NilD at h
    unfold NilF at hf
    rw [e, hf] at h
    simp only [Option.some.injEq, Obj.cells.injEq] at h
    exact absurd h.2.1 (by decide)
  have HNe : Hid (bd ≠ d) := hne
  have HD : Hid (NilD w bd d 0) := h
  clear h hf hne
  go_enter Tryz.func50, Tryz.ntmps50
  go_wp2
  go_loopw [15] (fun s wr => s = .int .i64 0 ∧ wr = w) (fun _ _ => 0)
  case atStart => exact ⟨rfl, rfl⟩
  case round =>
    obtain ⟨rfl, rfl⟩ := hrel
    go_wp2_with fail
    refine hG.mono ?_
    rintro e w1 ⟨rfl, hn, hu⟩
    have h1 : NilD w1 bd d 0 := (hu.block _ (lt_of_heap HD.out) HNe.out).trans HD.out
    obtain ⟨R, hR⟩ : ∃ R, R = zc := ⟨_, rfl⟩
    have HRs : Hid (R.size = 32) := by show _ = _; rw [hR]; rfl
    have HRo : Hid (R.all (·.oneCell') = true) := by show _ = _; rw [hR]; exact urow_one _
    rw [← hR] at hz
    rw [← hR]
    obtain ⟨W2, hW2⟩ : ∃ W, W = w1.alloc (.cells R 105) := ⟨_, rfl⟩
    have hb2 : Below w1.heap.size w1 W2 := by rw [hW2]; exact below_alloc _ _
    have hs2 : W2.heap.size = w1.heap.size + 1 := by rw [hW2]; simp
    have h2 : NilD W2 bd d 0 := (hb2.block _ (lt_of_heap h1)).trans h1
    have d2 : W2.cell? ⟨bd, 2, none⟩ = some (.int .i64 0) := by rw [cell_of_heap h2]; rfl
    have f2 : W2.frozen? ⟨bd, 2, none⟩ = false := frozen_of_heap h2
    obtain ⟨W3, hW3⟩ : ∃ W, W = W2.setCell ⟨bd, 2, none⟩ (.int .i64 101) := ⟨_, rfl⟩
    have h3 : NilD W3 bd d 101 := by rw [hW3]; exact h2.err
    have hu3 : Upd bd W2 W3 := by rw [hW3]; exact Upd.setCell _ _ _ _
    have hb4 : Below W3.heap.size W3 (W3.alloc (.cells R 105)) := below_alloc _ _
    have hs3 : W3.heap.size = W2.heap.size := by rw [hW3]; simp [World.setCell]
    have HE : Hid (wr.heap.size ≤ W2.heap.size ∧ (W3.alloc (.cells R 105)).heap[W2.heap.size]? = some (.cells zc 105) ∧ NilD (W3.alloc (.cells R 105)) bd d 101 ∧ UpdP (fun k => k = bd ∨ k = d) wr (W3.alloc (.cells R 105))) := by
      refine ⟨Nat.le_trans hu.size hb2.size, by rw [← hR, ← hs3]; exact heap_alloc_new _ _, (hb4.block _ (lt_of_heap h3)).trans h3, ?_⟩
      exact UpdP.trans (UpdP.trans (UpdP.trans (hu.p _ (Or.inr rfl)) (UpdP.of_below hb2)) (hu3.p _ (Or.inl rfl))) (UpdP.of_below hb4)
    have HW2 : Hid _ := hW2
    have HW3 : Hid _ := hW3
    clear hG hn hu h1 h2 h3 hu3 hb4 hb2 hs2 hs3 hW2 hW3 hR c0 c1 c2
    go_wp2_with (first
      | (refine wpList_store_row rfl 105 _ _ rfl w1.heap.size R rfl rfl 105 R (heap_alloc_new _ _) (by rw [HRs.out]; exact contSize) rfl HRo.out ?_; rw [setRow_alloc_new, ← HW2.out])
      | go_in)
    rw [← HW3.out]
    go_ret
    exact ⟨_, rfl, HE.out⟩
set_option maxRecDepth 100000 in
theorem ilay_nil (h : NilD w bd d 101) : Calls Tryz.prog 54 #[ptr bd] w fun e w' => e = .returned (.int .i64 101) ∧ w' = w := by
  have c2 : w.cell? ⟨bd, 2, none⟩ = some (.int .i64 101) := by rw [cell_of_heap h]; rfl
  clear h
  go_enter Tryz.func54, Tryz.ntmps54
  go_wp2
  go_ret
  exact ⟨rfl, rfl⟩
set_option maxRecDepth 100000 in
set_option maxHeartbeats 1000000 in
theorem setHead_nil {M hi hb n : Nat} {iw bw : List Nat} (h : NilD w bd d 101) (hbm : BmsE w M hi hb n iw bw) :
    Calls Tryz.prog 51 #[ptr bd, .agg #[ptr hi, ptr hb]] w fun e w' => e = .returned (.tuple #[]) ∧ Below w.heap.size w w' := by
  obtain ⟨gi, gb, hbm⟩ := hbm
  have hbl := hbm.bb.wf.len
  have hle := hbm.bb.le
  have HL : Hid ((hdW n iw bw).length = 32) := hdW_len hbm.bi.wf.len (by rw [hbl]; omega)
  obtain ⟨W0, hW0⟩ : ∃ W, W = w.alloc (.cells #[ptr hi, ptr hb] 111) := ⟨_, rfl⟩
  have hb0 : Below w.heap.size w W0.drew := by rw [hW0]; exact (below_alloc _ _).drew
  have hp0 : W0.heap[w.heap.size]? = some (.cells #[ptr hi, ptr hb] 111) := by rw [hW0]; exact heap_alloc_new _ _
  have hA := at_nil1 (w := W0.drew) (bd := bd) (d := d) ((hb0.block _ (lt_of_heap h)).trans h) 0
  obtain ⟨W1, hW1⟩ : ∃ W, W = W0.drew.alloc (.cells zc 105) := ⟨_, rfl⟩
  rw [← hW1] at hA
  have hb1 : Below W0.drew.heap.size W0.drew W1 := by rw [hW1]; exact below_alloc _ _
  obtain ⟨q, hq⟩ : ∃ q, q = W0.drew.heap.size := ⟨_, rfl⟩
  have hq1 : W1.heap[q]? = some (.cells zc 105) := by rw [hW1, hq]; exact heap_alloc_new _ _
  have hql : w.heap.size < q := by rw [hq, hW0]; show _ < (w.heap.push _).size; simp
  rw [← hq] at hA
  have HB1 : Hid (Below w.heap.size w W1) := hb0.trans (hb1.mono hb0.size)
  obtain ⟨p0, hp⟩ : ∃ p, p = w.heap.size := ⟨_, rfl⟩
  have h1 : W1.heap[p0]? = some (.cells #[ptr hi, ptr hb] 111) := by
    rw [hb1.block p0 (by show p0 < W0.heap.size; rw [hp]; exact lt_of_heap hp0), hp]
    exact hp0
  have hWd := hwords_at (hbm.below HB1.out)
  have c0 : W0.drew.cell? ⟨p0, 0, none⟩ = some (ptr hi) ∧ W0.drew.cell? ⟨p0, 1, none⟩ = some (ptr hb) := by rw [hp]; constructor <;> (rw [World.cell?_drew, cell_of_heap hp0]; rfl)
  have c1 : W1.cell? ⟨p0, 0, none⟩ = some (ptr hi) ∧ W1.cell? ⟨p0, 1, none⟩ = some (ptr hb) := by constructor <;> (rw [cell_of_heap h1]; rfl)
  have HP1 : Hid _ := h1
  have HQ1 : Hid (W1.heap[q]? = some (.cells zc 105)) := hq1
  have HW0 : Hid _ := hW0
  have Hpq : Hid (p0 = w.heap.size) := hp
  have hqp : p0 ≠ q := by omega
  clear h hbm hbl hle hb0 hp0 hW0 hW1 hb1 hq hq1 hp h1
  go_enter Tryz.func51, Tryz.ntmps51
  go_wp2_with fail
  rw [← HW0.out, ← Hpq.out]
  clear HW0
  refine wp_region_held_drew (S := fun w' => w'.cell? ⟨p0, 0, none⟩ = some (ptr hi) ∧ w'.cell? ⟨p0, 1, none⟩ = some (ptr hb)) (by kernel_rfl) c0 (fun hHeld => ?_)
  refine wpAnyH_take (i := 0) (v := ?_) rfl (by kernel_rfl) (by kernel_rfl) (by kernel_rfl) (fun _ _ _ h => h) (Or.inl ⟨by kernel_rfl, ?_⟩) (by assumption) ?_
  rotate_left
  · (intro w hSw; (try dsimp only at hSw); go_simp) <;> with_reducible rfl
  (try simp only [Act.put, List.getElem_toArray, List.getElem_cons_zero, List.setIfInBounds_toArray, List.set_cons_zero, List.set_cons_succ])
  refine wpAnyH_take (i := 2) (v := ?_) rfl (by kernel_rfl) (by kernel_rfl) (by kernel_rfl) (fun _ _ _ h => h) (Or.inl ⟨by kernel_rfl, ?_⟩) (by assumption) ?_
  rotate_left
  · (intro w hSw; (try dsimp only at hSw); go_simp) <;> with_reducible rfl
  (try simp only [Act.put, List.getElem_toArray, List.getElem_cons_zero, List.getElem_cons_succ, List.setIfInBounds_toArray, List.set_cons_zero, List.set_cons_succ])
  refine wpAnyH_ready (rs := [1]) (by kernel_rfl) (by simp) ?_
  refine AllReadyH.cons rfl (fun K hK => ?_) AllReadyH.nil
  go_simp
  refine hA.mono ?_
  rintro e w1 ⟨rfl, hw⟩
  subst hw
  clear hA c0
  refine hK.out _ _ c1 (fun hHeld => ?_)
  clear hK K
  (try simp only [Act.put, List.getElem_toArray, List.getElem_cons_zero, List.getElem_cons_succ, List.setIfInBounds_toArray, List.set_cons_zero, List.set_cons_succ])
  refine wpAnyH_ready (rs := [3]) (by kernel_rfl) (by simp) ?_
  refine AllReadyH.cons rfl (fun K hK => ?_) AllReadyH.nil
  go_simp
  refine hWd.mono ?_
  rintro e w2 ⟨rfl, hb2⟩
  have h2 : w2.heap[p0]? = some (.cells #[ptr hi, ptr hb] 111) := (hb2.block _ (lt_of_heap HP1.out)).trans HP1.out
  have c2 : w2.cell? ⟨p0, 0, none⟩ = some (ptr hi) ∧ w2.cell? ⟨p0, 1, none⟩ = some (ptr hb) := by constructor <;> (rw [cell_of_heap h2]; rfl)
  have hq2 : w2.heap[q]? = some (.cells zc 105) := (hb2.block _ (lt_of_heap HQ1.out)).trans HQ1.out
  obtain ⟨R, hR⟩ : ∃ R, R = urow (hdW n iw bw) := ⟨_, rfl⟩
  have HRs : Hid (R.size = 32) := by rw [hR]; show _ = _; rw [urow_size]; exact HL.out
  have HRo : Hid (R.all (·.oneCell') = true) := by rw [hR]; exact urow_one _
  have HB2 : Hid (Below w.heap.size w w2) := HB1.out.trans (hb2.mono HB1.out.size)
  have HTh : Hid (w2.there q 0 32) := fun j hj => by
    refine ⟨?_, frozen_of_heap hq2⟩
    rw [cell_of_heap hq2, Nat.zero_add, Array.getElem?_eq_getElem (show j < zc.size from hj)]
    rfl
  obtain ⟨k1, k2⟩ := setCells_heap q R.toList 0 w2 zc 105 hq2
  have h3 : (w2.setCells q 0 R.toList).heap[p0]? = some (.cells #[ptr hi, ptr hb] 111) := (k2.block _ (lt_of_heap h2) hqp).trans h2
  have c3 : (w2.setCells q 0 R.toList).cell? ⟨p0, 0, none⟩ = some (ptr hi) ∧ (w2.setCells q 0 R.toList).cell? ⟨p0, 1, none⟩ = some (ptr hb) := by constructor <;> (rw [cell_of_heap h3]; rfl)
  have HB3 : Hid (Below w.heap.size w (w2.setCells q 0 R.toList)) := HB2.out.trans (k2.below (by omega) HB2.out.size)
  rw [← hR]
  clear hb2 h2 hq2 hR k1 k2 h3 c1 hWd
  refine hK.out _ _ c2 (fun hHeld => ?_)
  clear hK K
  (try simp only [Act.put, List.getElem_toArray, List.getElem_cons_zero, List.getElem_cons_succ, List.setIfInBounds_toArray, List.set_cons_zero, List.set_cons_succ])
  refine wpAnyH_take (i := 4) (v := ?_) rfl (by kernel_rfl) (by kernel_rfl) (by kernel_rfl) (fun _ _ _ h => h) (Or.inl ⟨by kernel_rfl, ?_⟩) (by assumption) ?_
  rotate_left
  · (intro w hSw; (try dsimp only at hSw); go_simp) <;> with_reducible rfl
  (try simp only [Act.put, List.getElem_toArray, List.getElem_cons_zero, List.getElem_cons_succ, List.setIfInBounds_toArray, List.set_cons_zero, List.set_cons_succ])
  refine wpAnyH_ready (rs := [5]) (by kernel_rfl) (by simp) ?_
  refine AllReadyH.cons rfl (fun K hK => ?_) AllReadyH.nil
  refine step_store_mid rfl 105 _ _ rfl q 0 R rfl rfl (by rw [HRs.out]; exact HTh.out) (by rw [HRs.out]; exact contSize) HRo.out ?_
  refine hK.out _ _ c3 (fun hHeld => ?_)
  clear hK K
  (try simp only [Act.put, List.getElem_toArray, List.getElem_cons_zero, List.getElem_cons_succ, List.setIfInBounds_toArray, List.set_cons_zero, List.set_cons_succ])
  refine wpAnyH_done (by kernel_rfl) ?_ _
  clear c2 c3
  go_wp2
  go_end0
  exact ⟨rfl, HB3.out⟩
end
end Go.Proofs.YtcjpahnlckfgoaaGreatDoor
