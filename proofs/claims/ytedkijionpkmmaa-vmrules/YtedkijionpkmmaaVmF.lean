/- One step: operations that put numbers down. -/
import Derived.Test.YtedkijionpkmmaaVmD
namespace Go.Proofs.Ytedkijionpkmmaa
open Go.RowKit
set_option linter.unusedVariables false
set_option maxHeartbeats 1000000 in
theorem step_puts (s : List UInt8) (hs : s.length ≤ 1000000000) (M b : Nat) (pc : Int) (hpc : -9223372036854775808 ≤ pc ∧ pc ≤ 9223372036854775807) (sv : Value) (st : List Int) (w : World) (h : MachV M w b pc sv st) (hl : st.length ≤ 99990)
    (he : (one s pc).2 = 0) (hcan : canDo (one s pc).1 st = true) (hws : Wds st) (hop : (one s pc).1.op = 0 ∨ (one s pc).1.op = 1 ∨ (one s pc).1.op = 2 ∨ (one s pc).1.op = 4 ∨ (one s pc).1.op = 5 ∨ (one s pc).1.op = 18) :
    Calls Try.prog 23 #[tx s, .pointer (some ⟨b, 0, none⟩), .agg opTable] w fun e w' => Does M b w sv (eff (one s pc).1 st).1 (eff (one s pc).1 st).2.1 (eff (one s pc).1 st).2.2 e w' := by
  have hone := one_at s pc hs hpc
  obtain ⟨hfit, ⟨ho1, ho2⟩, hpos, ⟨hlen1, hlen2⟩, ⟨hpc1, hpc2⟩, hj, hsy⟩ := one_good hs he
  have HJ : Hid _ := hj
  have HSY : Hid _ := hsy
  have HP : Hid _ := hpos
  clear hj hsy hpos
  have hcb := canBeDone_at (one s pc).1 hfit
  have HC : Hid _ := hcan
  have HCC : Hid _ := hcan
  clear hcan
  generalize one s pc = o at *
  obtain ⟨i, er⟩ := o
  obtain ⟨T, hT⟩ : ∃ T, opTable = T := ⟨_, rfl⟩
  have HT : Hid _ := hT
  rw [hT]
  clear hT
  dsimp only at *
  subst he
  obtain ⟨W, hW⟩ : ∃ W, W = (w.alloc (.cells T 62)).alloc (.cells (actRow actNo) 30) := ⟨_, rfl⟩
  have HT0 : Hid (W.heap[w.heap.size]? = some (.cells opTable 62)) := by rw [hW, HT.out]; show _ = _; rw [Below.heap_alloc _ _ _ (by simp), heap_alloc_new]
  have HB : Hid (Below w.heap.size w W) := by rw [hW]; exact two_allocs _ _ _
  have HR : Hid (W.heap[w.heap.size + 1]? = some (.cells (actRow actNo) 30)) := by rw [hW]; exact heap_alloc2_new _ _ _
  have h2 := h.below HB.out
  have c0 := h.c0
  have hlt := lt_of_heap h.head
  clear h
  unfold actRow actNo at hW
  dsimp only at hW
  go_enter Try.func23, Try.ntmps23
  go_wp2_with fail
  rw [← hW]
  clear hW
  refine (hone W).mono ?_
  clear hone
  rintro e w1 ⟨rfl, hb1⟩
  dsimp only [insRow]
  go_wp2_with fail
  obtain ⟨w2, hw2⟩ : ∃ w2, w2 = w1.alloc (.cells #[.int .i64 i.op, .int .u64 i.arg, .int .i64 i.pos, .int .i64 i.len] 48) := ⟨_, rfl⟩
  rw [← hw2]
  have HB2 : Hid (Below W.heap.size W w2) := by rw [hw2]; exact hb1.trans ((below_alloc w1 _).mono hb1.size)
  have HI2 : Hid (w2.heap[w1.heap.size]? = some (.cells (insRow i) 48)) := by rw [hw2]; exact heap_alloc_new _ _
  clear hw2
  have hm2 : MachV M w2.drew b pc sv st := (h2.below HB2.out).below ((Below.refl _ _).drew)
  have hcb2 := hcb M b pc sv st w2.drew hm2 hl
  rw [HC.out] at hcb2
  have hc : w2.drew.cell? ⟨w1.heap.size, 0, none⟩ = some (.int .i64 i.op) ∧ w2.drew.cell? ⟨w1.heap.size, 1, none⟩ = some (.int .u64 i.arg) ∧ w2.drew.cell? ⟨w1.heap.size, 2, none⟩ = some (.int .i64 i.pos) ∧ w2.drew.cell? ⟨w1.heap.size, 3, none⟩ = some (.int .i64 i.len) ∧ w2.drew.cell? ⟨b, 1, none⟩ = some sv := by
    obtain ⟨⟨d0, d1, d2, d3⟩, _⟩ := cells4 HI2.out
    exact ⟨d0, d1, d2, d3, hm2.c1⟩
  clear hcb HC
  unfold insRow at hcb2
  go_region_held3 (fun w' => w'.cell? ⟨w1.heap.size, 0, none⟩ = some (.int .i64 i.op) ∧ w'.cell? ⟨w1.heap.size, 1, none⟩ = some (.int .u64 i.arg) ∧ w'.cell? ⟨w1.heap.size, 2, none⟩ = some (.int .i64 i.pos) ∧ w'.cell? ⟨w1.heap.size, 3, none⟩ = some (.int .i64 i.len) ∧ w'.cell? ⟨b, 1, none⟩ = some sv)
    (first | go_keep | (exact hc) | (exact hcq))
    (first | (go_at_call 35; refine hcb2.mono ?_; rintro e wq ⟨rfl, hbq⟩; have hcq : wq.cell? ⟨w1.heap.size, 0, none⟩ = some (.int .i64 i.op) ∧ wq.cell? ⟨w1.heap.size, 1, none⟩ = some (.int .u64 i.arg) ∧ wq.cell? ⟨w1.heap.size, 2, none⟩ = some (.int .i64 i.pos) ∧ wq.cell? ⟨w1.heap.size, 3, none⟩ = some (.int .i64 i.len) ∧ wq.cell? ⟨b, 1, none⟩ = some sv := ⟨(hbq.cell (cell_lt hc.1)).trans hc.1, (hbq.cell (cell_lt hc.2.1)).trans hc.2.1, (hbq.cell (cell_lt hc.2.2.1)).trans hc.2.2.1, (hbq.cell (cell_lt hc.2.2.2.1)).trans hc.2.2.2.1, (hbq.cell (cell_lt hc.2.2.2.2)).trans hc.2.2.2.2⟩))
  have HB3 : Hid (Below W.heap.size W wq) := HB2.out.trans (((Below.refl _ _).drew).trans (hbq.mono HB2.out.size))
  have hm3 : MachV M wq b pc sv st := h2.below HB3.out
  have HI3 : Hid (wq.heap[w1.heap.size]? = some (.cells (insRow i) 48)) := (hbq.block _ (lt_of_heap HI2.out)).trans HI2.out
  have hIlt := lt_of_heap HI3.out
  obtain ⟨⟨d0, d1, d2, d3⟩, _⟩ := cells4 HI3.out
  have e0 := hm3.c0
  have e1 := hm3.free 0
  have hW1 : W.heap.size ≤ w1.heap.size := hb1.size
  have hWs : w.heap.size ≤ W.heap.size := HB.out.size
  go_wp2_with fail
  go_region
  obtain ⟨w3, hw3⟩ : ∃ w3, w3 = (wq.setCell ⟨b, 0, none⟩ (.int .i64 (pc + i.len))).drew := ⟨_, rfl⟩
  rw [← hw3]
  have hm4 : MachV M w3 b (pc + i.len) sv st := by rw [hw3]; exact (hm3.put0 _).below ((Below.refl _ _).drew)
  have HH4 : Hid (∀ k, k ≠ b → w3.heap[k]? = wq.heap[k]?) := fun k hk => by rw [hw3]; exact Below.heap_setCell _ _ _ _ hk
  have HU4 : Hid (Upd b w w3) := by rw [hw3]; exact (Upd.of_below (HB.out.trans (HB3.out.mono HB.out.size))).trans ((Upd.setCell _ _ _ _).trans (Upd.drew _ _))
  clear hw3
  have HT4 : Hid (w3.heap[w.heap.size]? = some (.cells opTable 62)) := (HH4.out _ (by omega)).trans ((HB3.out.block _ (lt_of_heap HT0.out)).trans HT0.out)
  have HR4 : Hid (w3.heap[w.heap.size + 1]? = some (.cells (actRow actNo) 30)) := (HH4.out _ (by omega)).trans ((HB3.out.block _ (lt_of_heap HR.out)).trans HR.out)
  have HI4 : Hid (w3.heap[w1.heap.size]? = some (.cells (insRow i) 48)) := (HH4.out _ (by omega)).trans HI3.out
  have HN4 : Hid (∀ o : Obj, MachV M (w3.alloc o) b (pc + i.len) sv st) := fun o => hm4.below (below_alloc _ _)
  have HR4a : Hid (∀ o : Obj, (w3.alloc o).heap[w.heap.size + 1]? = some (.cells (actRow actNo) 30)) := fun o => (Below.heap_alloc _ _ _ (lt_of_heap HR4.out)).trans HR4.out
  have HG4 : Hid (∀ o : Obj, Went b w sv (w3.alloc o) sv) := fun o => (Went.of_upd HU4.out rfl).trans (Went.of_below (below_alloc _ _))
  have h34 : w.heap.size + 1 < w3.heap.size := lt_of_heap HR4.out
  clear d0 d1 d2 d3 e0 e1 hm3 hm4 hm2 c0
  obtain ⟨⟨d0, d1, d2, d3⟩, _⟩ := cells4 HI4.out
  rcases hop with hn | hn | hn | hn | hn | hn
  · have d0' : w3.cell? ⟨w1.heap.size, 0, none⟩ = some (.int .i64 0) := by rw [← hn]; exact d0
    have HE : Hid (eff i (st) = (pc + i.len, i.arg :: st, actNo)) := by show eff i (st) = _; unfold eff; rw [hn, HP.out]; rfl
    have t0 : w3.cell? ⟨w.heap.size, 0, none⟩ = some .nilFunc := by rw [cell_of_heap HT4.out]; rfl
    have t1 : w3.cell? ⟨w.heap.size, 1, none⟩ = some (.func (.func 38) #[] #[]) := by rw [cell_of_heap HT4.out]; rfl
    have hq : ∀ w : World, (binOp BinOp.neq 57 .nilFunc .nilFunc).run Try.prog w = .ok (.bool false) w := fun w => by kernel_rfl
    have hI4 : w1.heap.size < w3.heap.size := lt_of_heap HI4.out
    clear d0 hn
    go_wp2_with fail
    refine (pushArg_at ⟨0, i.arg, i.pos, i.len⟩ M b (pc + i.len) sv st _ (HN4.out _) (by omega)).mono ?_
    rintro e w5 ⟨rfl, sv5, hm5, hg5⟩
    have HG5 : Hid _ := (HG4.out _).trans hg5
    have HR5 : Hid (w5.heap[w.heap.size + 1]? = some (.cells (actRow actNo) 30)) := Went.stays hg5 (HN4.out _) (HR4a.out _) (by decide) (by decide)
    clear hg5
    dsimp only [actRow, actNo]
    obtain ⟨⟨c0, c1, c2, c3⟩, f0, f1, f2, f3⟩ := cells4 HR5.out
    go_wp2
    (try simp only [Exit.inBlock, Exit.then])
    refine bodyPost_ret (results_cell_row rfl _ _ (w.heap.size + 1) 30 _ (0, 0) _ rfl (put4_row HR5.out) Try.underlying30 rfl actSize) rfl ?_
    rw [HE.out]
    exact ⟨rfl, _, (hm5).put4 HR5.out (by decide) (by decide) _ _ _ _, (HG5.out).put4 (by omega) _ _ _ _⟩

  · have d0' : w3.cell? ⟨w1.heap.size, 0, none⟩ = some (.int .i64 1) := by rw [← hn]; exact d0
    have HE : Hid (eff i (st) = (pc + i.len, i.arg :: st, actNo)) := by show eff i (st) = _; unfold eff; rw [hn, HP.out]; rfl
    have t0 : w3.cell? ⟨w.heap.size, 2, none⟩ = some .nilFunc := by rw [cell_of_heap HT4.out]; rfl
    have t1 : w3.cell? ⟨w.heap.size, 3, none⟩ = some (.func (.func 38) #[] #[]) := by rw [cell_of_heap HT4.out]; rfl
    have hq : ∀ w : World, (binOp BinOp.neq 57 .nilFunc .nilFunc).run Try.prog w = .ok (.bool false) w := fun w => by kernel_rfl
    have hI4 : w1.heap.size < w3.heap.size := lt_of_heap HI4.out
    clear d0 hn
    go_wp2_with fail
    refine (pushArg_at ⟨1, i.arg, i.pos, i.len⟩ M b (pc + i.len) sv st _ (HN4.out _) (by omega)).mono ?_
    rintro e w5 ⟨rfl, sv5, hm5, hg5⟩
    have HG5 : Hid _ := (HG4.out _).trans hg5
    have HR5 : Hid (w5.heap[w.heap.size + 1]? = some (.cells (actRow actNo) 30)) := Went.stays hg5 (HN4.out _) (HR4a.out _) (by decide) (by decide)
    clear hg5
    dsimp only [actRow, actNo]
    obtain ⟨⟨c0, c1, c2, c3⟩, f0, f1, f2, f3⟩ := cells4 HR5.out
    go_wp2
    (try simp only [Exit.inBlock, Exit.then])
    refine bodyPost_ret (results_cell_row rfl _ _ (w.heap.size + 1) 30 _ (0, 0) _ rfl (put4_row HR5.out) Try.underlying30 rfl actSize) rfl ?_
    rw [HE.out]
    exact ⟨rfl, _, (hm5).put4 HR5.out (by decide) (by decide) _ _ _ _, (HG5.out).put4 (by omega) _ _ _ _⟩

  · have d0' : w3.cell? ⟨w1.heap.size, 0, none⟩ = some (.int .i64 2) := by rw [← hn]; exact d0
    obtain ⟨x, r, rfl⟩ : ∃ x r, st = x :: r := by
      have := HCC.out
      unfold canDo at this
      rw [hn] at this
      match st, this with
      | [], h => simp [movesOf] at h
      | x :: r, _ => exact ⟨x, r, rfl⟩
    simp only [List.length_cons] at hl
    have HE : Hid (eff i (x :: r) = (pc + i.len, x :: x :: r, actNo)) := by show eff i (x :: r) = _; unfold eff; rw [hn, HP.out]; rfl
    have t0 : w3.cell? ⟨w.heap.size, 4, none⟩ = some .nilFunc := by rw [cell_of_heap HT4.out]; rfl
    have t1 : w3.cell? ⟨w.heap.size, 5, none⟩ = some (.func (.func 39) #[] #[]) := by rw [cell_of_heap HT4.out]; rfl
    have hq : ∀ w : World, (binOp BinOp.neq 57 .nilFunc .nilFunc).run Try.prog w = .ok (.bool false) w := fun w => by kernel_rfl
    have hI4 : w1.heap.size < w3.heap.size := lt_of_heap HI4.out
    clear d0 hn
    go_wp2_with fail
    refine (dup_at ⟨2, i.arg, i.pos, i.len⟩ M b (pc + i.len) sv x r _ (HN4.out _) (by omega)).mono ?_
    rintro e w5 ⟨rfl, sv5, hm5, hg5⟩
    have HG5 : Hid _ := (HG4.out _).trans hg5
    have HR5 : Hid (w5.heap[w.heap.size + 1]? = some (.cells (actRow actNo) 30)) := Went.stays hg5 (HN4.out _) (HR4a.out _) (by decide) (by decide)
    clear hg5
    dsimp only [actRow, actNo]
    obtain ⟨⟨c0, c1, c2, c3⟩, f0, f1, f2, f3⟩ := cells4 HR5.out
    go_wp2
    (try simp only [Exit.inBlock, Exit.then])
    refine bodyPost_ret (results_cell_row rfl _ _ (w.heap.size + 1) 30 _ (0, 0) _ rfl (put4_row HR5.out) Try.underlying30 rfl actSize) rfl ?_
    rw [HE.out]
    exact ⟨rfl, _, (hm5).put4 HR5.out (by decide) (by decide) _ _ _ _, (HG5.out).put4 (by omega) _ _ _ _⟩

  · have d0' : w3.cell? ⟨w1.heap.size, 0, none⟩ = some (.int .i64 4) := by rw [← hn]; exact d0
    obtain ⟨x, y, r, rfl⟩ : ∃ x y r, st = x :: y :: r := by
      have := HCC.out
      unfold canDo at this
      rw [hn] at this
      match st, this with
      | [], h => simp [movesOf] at h
      | [_], h => simp [movesOf] at h
      | x :: y :: r, _ => exact ⟨x, y, r, rfl⟩
    simp only [List.length_cons] at hl
    have HE : Hid (eff i (x :: y :: r) = (pc + i.len, y :: x :: r, actNo)) := by show eff i (x :: y :: r) = _; unfold eff; rw [hn, HP.out]; rfl
    have t0 : w3.cell? ⟨w.heap.size, 8, none⟩ = some .nilFunc := by rw [cell_of_heap HT4.out]; rfl
    have t1 : w3.cell? ⟨w.heap.size, 9, none⟩ = some (.func (.func 41) #[] #[]) := by rw [cell_of_heap HT4.out]; rfl
    have hq : ∀ w : World, (binOp BinOp.neq 57 .nilFunc .nilFunc).run Try.prog w = .ok (.bool false) w := fun w => by kernel_rfl
    have hI4 : w1.heap.size < w3.heap.size := lt_of_heap HI4.out
    clear d0 hn
    go_wp2_with fail
    refine (swap_at ⟨4, i.arg, i.pos, i.len⟩ M b (pc + i.len) sv x y r _ (HN4.out _) (by omega)).mono ?_
    rintro e w5 ⟨rfl, sv5, hm5, hg5⟩
    have HG5 : Hid _ := (HG4.out _).trans hg5
    have HR5 : Hid (w5.heap[w.heap.size + 1]? = some (.cells (actRow actNo) 30)) := Went.stays hg5 (HN4.out _) (HR4a.out _) (by decide) (by decide)
    clear hg5
    dsimp only [actRow, actNo]
    obtain ⟨⟨c0, c1, c2, c3⟩, f0, f1, f2, f3⟩ := cells4 HR5.out
    go_wp2
    (try simp only [Exit.inBlock, Exit.then])
    refine bodyPost_ret (results_cell_row rfl _ _ (w.heap.size + 1) 30 _ (0, 0) _ rfl (put4_row HR5.out) Try.underlying30 rfl actSize) rfl ?_
    rw [HE.out]
    exact ⟨rfl, _, (hm5).put4 HR5.out (by decide) (by decide) _ _ _ _, (HG5.out).put4 (by omega) _ _ _ _⟩

  · have d0' : w3.cell? ⟨w1.heap.size, 0, none⟩ = some (.int .i64 5) := by rw [← hn]; exact d0
    obtain ⟨x, y, r, rfl⟩ : ∃ x y r, st = x :: y :: r := by
      have := HCC.out
      unfold canDo at this
      rw [hn] at this
      match st, this with
      | [], h => simp [movesOf] at h
      | [_], h => simp [movesOf] at h
      | x :: y :: r, _ => exact ⟨x, y, r, rfl⟩
    simp only [List.length_cons] at hl
    have HE : Hid (eff i (x :: y :: r) = (pc + i.len, y :: x :: y :: r, actNo)) := by show eff i (x :: y :: r) = _; unfold eff; rw [hn, HP.out]; rfl
    have t0 : w3.cell? ⟨w.heap.size, 10, none⟩ = some .nilFunc := by rw [cell_of_heap HT4.out]; rfl
    have t1 : w3.cell? ⟨w.heap.size, 11, none⟩ = some (.func (.func 42) #[] #[]) := by rw [cell_of_heap HT4.out]; rfl
    have hq : ∀ w : World, (binOp BinOp.neq 57 .nilFunc .nilFunc).run Try.prog w = .ok (.bool false) w := fun w => by kernel_rfl
    have hI4 : w1.heap.size < w3.heap.size := lt_of_heap HI4.out
    clear d0 hn
    go_wp2_with fail
    refine (over_at ⟨5, i.arg, i.pos, i.len⟩ M b (pc + i.len) sv x y r _ (HN4.out _) (by omega)).mono ?_
    rintro e w5 ⟨rfl, sv5, hm5, hg5⟩
    have HG5 : Hid _ := (HG4.out _).trans hg5
    have HR5 : Hid (w5.heap[w.heap.size + 1]? = some (.cells (actRow actNo) 30)) := Went.stays hg5 (HN4.out _) (HR4a.out _) (by decide) (by decide)
    clear hg5
    dsimp only [actRow, actNo]
    obtain ⟨⟨c0, c1, c2, c3⟩, f0, f1, f2, f3⟩ := cells4 HR5.out
    go_wp2
    (try simp only [Exit.inBlock, Exit.then])
    refine bodyPost_ret (results_cell_row rfl _ _ (w.heap.size + 1) 30 _ (0, 0) _ rfl (put4_row HR5.out) Try.underlying30 rfl actSize) rfl ?_
    rw [HE.out]
    exact ⟨rfl, _, (hm5).put4 HR5.out (by decide) (by decide) _ _ _ _, (HG5.out).put4 (by omega) _ _ _ _⟩

  · have d0' : w3.cell? ⟨w1.heap.size, 0, none⟩ = some (.int .i64 18) := by rw [← hn]; exact d0
    obtain ⟨x, r, rfl⟩ : ∃ x r, st = x :: r := by
      have := HCC.out
      unfold canDo at this
      rw [hn] at this
      match st, this with
      | [], h => simp [movesOf] at h
      | x :: r, _ => exact ⟨x, r, rfl⟩
    simp only [List.length_cons] at hl
    have HE : Hid (eff i (x :: r) = (pc + i.len, (if x = 0 then 1 else 0) :: r, actNo)) := by show eff i (x :: r) = _; unfold eff; rw [hn, HP.out]; rfl
    have t0 : w3.cell? ⟨w.heap.size, 36, none⟩ = some .nilFunc := by rw [cell_of_heap HT4.out]; rfl
    have t1 : w3.cell? ⟨w.heap.size, 37, none⟩ = some (.func (.func 56) #[] #[]) := by rw [cell_of_heap HT4.out]; rfl
    have hq : ∀ w : World, (binOp BinOp.neq 57 .nilFunc .nilFunc).run Try.prog w = .ok (.bool false) w := fun w => by kernel_rfl
    have hI4 : w1.heap.size < w3.heap.size := lt_of_heap HI4.out
    clear d0 hn
    go_wp2_with fail
    refine (not_at ⟨18, i.arg, i.pos, i.len⟩ M b (pc + i.len) sv x r _ (HN4.out _) (by omega)).mono ?_
    rintro e w5 ⟨rfl, sv5, hm5, hg5⟩
    have HG5 : Hid _ := (HG4.out _).trans hg5
    have HR5 : Hid (w5.heap[w.heap.size + 1]? = some (.cells (actRow actNo) 30)) := Went.stays hg5 (HN4.out _) (HR4a.out _) (by decide) (by decide)
    clear hg5
    dsimp only [actRow, actNo]
    obtain ⟨⟨c0, c1, c2, c3⟩, f0, f1, f2, f3⟩ := cells4 HR5.out
    go_wp2
    (try simp only [Exit.inBlock, Exit.then])
    refine bodyPost_ret (results_cell_row rfl _ _ (w.heap.size + 1) 30 _ (0, 0) _ rfl (put4_row HR5.out) Try.underlying30 rfl actSize) rfl ?_
    rw [HE.out]
    exact ⟨rfl, _, (hm5).put4 HR5.out (by decide) (by decide) _ _ _ _, (HG5.out).put4 (by omega) _ _ _ _⟩
end Go.Proofs.Ytedkijionpkmmaa
