/- One step of the machine. -/
import Derived.Test.YtedkijionpkmmaaVmC
import Derived.Test.YtedkijionpkmmaaCodD
namespace Go.Proofs.Ytedkijionpkmmaa
open Go.RowKit
set_option linter.unusedVariables false

def actFault : Act4 := ⟨4, 0, 0, 0⟩
/-- What an instruction that can be done does: the place, the stack, what it asks for. -/
def eff (i : Ins) (st : List Int) : Int × List Int × Act4 :=
  let b := st.headD 0
  let a := st.tail.headD 0
  let n := i.pos + i.len
  if i.op = 0 ∨ i.op = 1 then (n, i.arg :: st, actNo) else if i.op = 2 then (n, b :: b :: st.drop 1, actNo) else if i.op = 3 then (n, st.drop 1, actNo)
  else if i.op = 4 then (n, a :: b :: st.drop 2, actNo) else if i.op = 5 then (n, a :: b :: a :: st.drop 2, actNo) else if i.op = 18 then (n, (if b = 0 then 1 else 0) :: st.drop 1, actNo)
  else if i.op = 19 then (n, st.drop 1, ⟨1, b, 0, 0⟩) else if i.op = 20 then (n, st.drop 2, ⟨2, b, a, 0⟩) else if i.op = 21 then (i.arg, st, actNo)
  else if i.op = 22 then (if b = 0 then i.arg else n, st.drop 1, actNo) else if i.op = 23 then (i.pos, st, ⟨3, 0, 0, i.arg⟩) else (n, two i.op a b :: st.drop 2, actNo)
/-- One step. -/
def vstep (s : List UInt8) (pc : Int) (st : List Int) : Int × List Int × Act4 :=
  if (one s pc).2 = 0 ∧ canDo (one s pc).1 st = true then eff (one s pc).1 st else (pc, st, actFault)
theorem vstep_no {s : List UInt8} {pc : Int} {st : List Int} (h : (one s pc).2 ≠ 0) : vstep s pc st = (pc, st, actFault) := by unfold vstep; rw [if_neg (fun x => h x.1)]
theorem vstep_not {s : List UInt8} {pc : Int} {st : List Int} (h : canDo (one s pc).1 st = false) : vstep s pc st = (pc, st, actFault) := by unfold vstep; rw [if_neg (fun x => by rw [h] at x; exact absurd x.2 (by simp))]
theorem vstep_yes {s : List UInt8} {pc : Int} {st : List Int} (h : (one s pc).2 = 0) (h2 : canDo (one s pc).1 st = true) : vstep s pc st = eff (one s pc).1 st := by unfold vstep; rw [if_pos ⟨h, h2⟩]
/-- What One answers where it answers well. -/
theorem one_good {s : List UInt8} {pc : Int} (hl : s.length ≤ 1000000000) (h : (one s pc).2 = 0) : (one s pc).1.Fit ∧ (0 ≤ (one s pc).1.op ∧ (one s pc).1.op ≤ 23) ∧ (one s pc).1.pos = pc ∧ (1 ≤ (one s pc).1.len ∧ (one s pc).1.len ≤ 9) ∧ (0 ≤ pc ∧ pc + (one s pc).1.len ≤ s.length) ∧
    (((one s pc).1.op = 21 ∨ (one s pc).1.op = 22) → 0 ≤ (one s pc).1.arg ∧ (one s pc).1.arg ≤ 65535) ∧ ((one s pc).1.op = 23 → 0 ≤ (one s pc).1.arg ∧ (one s pc).1.arg ≤ 255) := by
  unfold one at h ⊢
  split at h
  · simp at h
  · rename_i hr
    split at h
    · rename_i hi
      rw [if_neg hr, if_pos hi]
      have hb := isIns_bound hi
      have hw : wAt s pc.toNat ≤ 8 := opw_le _
      have hn := leN_bound ((s.drop (pc.toNat + 1)).take (wAt s pc.toNat))
      have hlen : ((s.drop (pc.toNat + 1)).take (wAt s pc.toNat)).length = wAt s pc.toNat := by simp; omega
      rw [hlen] at hn
      refine ⟨insAt_fit s _ hi (by omega), ?_, ?_, ?_, ?_, ?_, ?_⟩ <;> simp only [insAt]
      · omega
      · omega
      · omega
      · omega
      · intro ho
        have : wAt s pc.toNat = 2 := by unfold wAt; rcases ho with ho | ho <;> (rw [ho]; rfl)
        rw [this] at hn ⊢
        have h2 : (256 : Int) ^ 2 = 65536 := by decide
        omega
      · intro ho
        have : wAt s pc.toNat = 1 := by unfold wAt; rw [ho]; rfl
        rw [this] at hn ⊢
        have h2 : (256 : Int) ^ 1 = 256 := by decide
        omega
    · simp at h

/-- Every number on the stack is a word. -/
def Wds (st : List Int) : Prop := ∀ x ∈ st, Wd x

set_option maxHeartbeats 1000000 in
theorem step_no (s : List UInt8) (hs : s.length ≤ 1000000000) (M b : Nat) (pc : Int) (hpc : -9223372036854775808 ≤ pc ∧ pc ≤ 9223372036854775807) (sv : Value) (st : List Int) (w : World) (h : MachV M w b pc sv st) (hl : st.length ≤ 99990)
    (he : (one s pc).2 ≠ 0) :
    Calls Try.prog 23 #[tx s, .pointer (some ⟨b, 0, none⟩), .agg opTable] w fun e w' => Takes M b w sv pc st actFault e w' := by
  have hone := one_at s pc hs hpc
  have hne : ((one s pc).2 == 0) = false := by simpa using he
  have hne' : ((one s pc).2 != 0) = true := by simpa using he
  generalize one s pc = o at *
  obtain ⟨i, er⟩ := o
  obtain ⟨T, hT⟩ : ∃ T, opTable = T := ⟨_, rfl⟩
  have HT : Hid _ := hT
  rw [hT]
  clear hT
  dsimp only at *
  obtain ⟨W, hW⟩ : ∃ W, W = (w.alloc (.cells T 62)).alloc (.cells (actRow actNo) 30) := ⟨_, rfl⟩
  have HB : Hid (Below w.heap.size w W) := by rw [hW]; exact two_allocs _ _ _
  have HR : Hid (W.heap[w.heap.size + 1]? = some (.cells (actRow actNo) 30)) := by rw [hW]; exact heap_alloc2_new _ _ _
  have h2 := h.below HB.out
  have c0 := h.c0
  have hlt := lt_of_heap h.head
  clear h
  unfold actRow actNo at hW
  dsimp only at hW
  go_enter Try.func23, Try.ntmps23
  go_wp2_with fail
  rw [← hW]
  clear hW
  refine (hone W).mono ?_
  clear hone
  rintro e w1 ⟨rfl, hb1⟩
  dsimp only [insRow]
  go_wp2_with fail
  go_quiet (fail)
  obtain ⟨w2, hw2⟩ : ∃ w2, w2 = (w1.alloc (.cells #[.int .i64 i.op, .int .u64 i.arg, .int .i64 i.pos, .int .i64 i.len] 48)).drewN nq := ⟨_, rfl⟩
  rw [← hw2]
  have HB2 : Hid (Below W.heap.size W w2) := by rw [hw2]; exact hb1.trans (below_drewN ((below_alloc w1 _).mono hb1.size) nq)
  clear hw2
  have HR2 : Hid (w2.heap[w.heap.size + 1]? = some (.cells (actRow actNo) 30)) := (HB2.out.block _ (lt_of_heap HR.out)).trans HR.out
  obtain ⟨⟨c0, c1, c2, c3⟩, f0, f1, f2, f3⟩ := cells4 HR2.out
  go_wp2
  (try simp only [Exit.inBlock, Exit.then])
  exact bodyPost_ret (results_cell_row rfl _ _ (w.heap.size + 1) 30 _ (0, 0) _ rfl (put4_row HR2.out) Try.underlying30 rfl actSize) rfl ⟨rfl, _, (h2.below HB2.out).put4 HR2.out (by decide) (by decide) _ _ _ _, rfl, (Upd.of_below (HB.out.trans (HB2.out.mono HB.out.size))).put4 (by omega) _ _ _ _⟩

set_option maxHeartbeats 1000000 in
theorem step_not (s : List UInt8) (hs : s.length ≤ 1000000000) (M b : Nat) (pc : Int) (hpc : -9223372036854775808 ≤ pc ∧ pc ≤ 9223372036854775807) (sv : Value) (st : List Int) (w : World) (h : MachV M w b pc sv st) (hl : st.length ≤ 99990)
    (he : (one s pc).2 = 0) (hcan : canDo (one s pc).1 st = false) :
    Calls Try.prog 23 #[tx s, .pointer (some ⟨b, 0, none⟩), .agg opTable] w fun e w' => Takes M b w sv pc st actFault e w' := by
  have hone := one_at s pc hs hpc
  have hfit := (one_good hs he).1
  have hcb := canBeDone_at (one s pc).1 hfit
  have HC : Hid _ := hcan
  clear hcan
  generalize one s pc = o at *
  obtain ⟨i, er⟩ := o
  obtain ⟨T, hT⟩ : ∃ T, opTable = T := ⟨_, rfl⟩
  have HT : Hid _ := hT
  rw [hT]
  clear hT
  dsimp only at *
  subst he
  obtain ⟨W, hW⟩ : ∃ W, W = (w.alloc (.cells T 62)).alloc (.cells (actRow actNo) 30) := ⟨_, rfl⟩
  have HB : Hid (Below w.heap.size w W) := by rw [hW]; exact two_allocs _ _ _
  have HR : Hid (W.heap[w.heap.size + 1]? = some (.cells (actRow actNo) 30)) := by rw [hW]; exact heap_alloc2_new _ _ _
  have h2 := h.below HB.out
  have c0 := h.c0
  have hlt := lt_of_heap h.head
  clear h
  unfold actRow actNo at hW
  dsimp only at hW
  go_enter Try.func23, Try.ntmps23
  go_wp2_with fail
  rw [← hW]
  clear hW
  refine (hone W).mono ?_
  clear hone
  rintro e w1 ⟨rfl, hb1⟩
  dsimp only [insRow]
  go_wp2_with fail
  obtain ⟨w2, hw2⟩ : ∃ w2, w2 = w1.alloc (.cells #[.int .i64 i.op, .int .u64 i.arg, .int .i64 i.pos, .int .i64 i.len] 48) := ⟨_, rfl⟩
  rw [← hw2]
  have HB2 : Hid (Below W.heap.size W w2) := by rw [hw2]; exact hb1.trans ((below_alloc w1 _).mono hb1.size)
  have HI2 : Hid (w2.heap[w1.heap.size]? = some (.cells (insRow i) 48)) := by rw [hw2]; exact heap_alloc_new _ _
  clear hw2
  have hm2 : MachV M w2.drew b pc sv st := (h2.below HB2.out).below ((Below.refl _ _).drew)
  have hcb2 := hcb M b pc sv st w2.drew hm2 hl
  rw [HC.out] at hcb2
  have hc : w2.drew.cell? ⟨w1.heap.size, 0, none⟩ = some (.int .i64 i.op) ∧ w2.drew.cell? ⟨w1.heap.size, 1, none⟩ = some (.int .u64 i.arg) ∧ w2.drew.cell? ⟨w1.heap.size, 2, none⟩ = some (.int .i64 i.pos) ∧ w2.drew.cell? ⟨w1.heap.size, 3, none⟩ = some (.int .i64 i.len) ∧ w2.drew.cell? ⟨b, 1, none⟩ = some sv := by
    obtain ⟨⟨d0, d1, d2, d3⟩, _⟩ := cells4 HI2.out
    exact ⟨d0, d1, d2, d3, hm2.c1⟩
  clear hcb HC
  unfold insRow at hcb2
  go_region_held3 (fun w' => w'.cell? ⟨w1.heap.size, 0, none⟩ = some (.int .i64 i.op) ∧ w'.cell? ⟨w1.heap.size, 1, none⟩ = some (.int .u64 i.arg) ∧ w'.cell? ⟨w1.heap.size, 2, none⟩ = some (.int .i64 i.pos) ∧ w'.cell? ⟨w1.heap.size, 3, none⟩ = some (.int .i64 i.len) ∧ w'.cell? ⟨b, 1, none⟩ = some sv)
    (first | go_keep | (exact hc) | (exact hcq))
    (first | (go_at_call 35; refine hcb2.mono ?_; rintro e wq ⟨rfl, hbq⟩; have hcq : wq.cell? ⟨w1.heap.size, 0, none⟩ = some (.int .i64 i.op) ∧ wq.cell? ⟨w1.heap.size, 1, none⟩ = some (.int .u64 i.arg) ∧ wq.cell? ⟨w1.heap.size, 2, none⟩ = some (.int .i64 i.pos) ∧ wq.cell? ⟨w1.heap.size, 3, none⟩ = some (.int .i64 i.len) ∧ wq.cell? ⟨b, 1, none⟩ = some sv := ⟨(hbq.cell (cell_lt hc.1)).trans hc.1, (hbq.cell (cell_lt hc.2.1)).trans hc.2.1, (hbq.cell (cell_lt hc.2.2.1)).trans hc.2.2.1, (hbq.cell (cell_lt hc.2.2.2.1)).trans hc.2.2.2.1, (hbq.cell (cell_lt hc.2.2.2.2)).trans hc.2.2.2.2⟩))
  have HB3 : Hid (Below W.heap.size W wq) := HB2.out.trans (((Below.refl _ _).drew).trans (hbq.mono HB2.out.size))
  have HR2 : Hid (wq.heap[w.heap.size + 1]? = some (.cells (actRow actNo) 30)) := (HB3.out.block _ (lt_of_heap HR.out)).trans HR.out
  obtain ⟨⟨c0, c1, c2, c3⟩, f0, f1, f2, f3⟩ := cells4 HR2.out
  go_wp2
  (try simp only [Exit.inBlock, Exit.then])
  exact bodyPost_ret (results_cell_row rfl _ _ (w.heap.size + 1) 30 _ (0, 0) _ rfl (put4_row HR2.out) Try.underlying30 rfl actSize) rfl ⟨rfl, _, (h2.below HB3.out).put4 HR2.out (by decide) (by decide) _ _ _ _, rfl, (Upd.of_below (HB.out.trans (HB3.out.mono HB.out.size))).put4 (by omega) _ _ _ _⟩
end Go.Proofs.Ytedkijionpkmmaa
