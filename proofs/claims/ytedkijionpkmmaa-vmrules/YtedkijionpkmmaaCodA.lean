/- The small functions of package code and of its reference: operations, widths, what fits, system calls and moves. -/
import Derived.Test.YtedkijionpkmmaaRows
import Derived.Test.YtedkijionpkmmaaPlain
import Derived.Test.YtedkijionpkmmaaCodM
import Derived.WalkKit
import Derived.WalkSpells
import Derived.WalkLawsBesides
import Derived.Deep.RegionHeld3
import Derived.Deep.QuietTactic
namespace Go.Proofs.Ytedkijionpkmmaa
open Go.RowKit
set_option linter.unusedVariables false

/-- An instruction as cells. -/
def insRow (i : Ins) : Array Value := #[.int .i64 i.op, .int .u64 i.arg, .int .i64 i.pos, .int .i64 i.len]

/-- How many numbers a call takes. -/
def argsOf (n : Int) : Int :=
  if n = 2 ∨ n = 17 ∨ n = 18 ∨ n = 19 then 0 else if n = 1 ∨ n = 4 ∨ n = 6 ∨ n = 9 ∨ n = 10 then 1
  else if n = 3 ∨ n = 11 ∨ n = 12 ∨ n = 15 ∨ n = 16 then 2 else if n = 5 ∨ n = 7 ∨ n = 8 then 3 else if n = 13 ∨ n = 14 then 4 else -1
theorem argsOf_low (n : Int) : -1 ≤ argsOf n ∧ argsOf n ≤ 4 := by
  unfold argsOf
  (repeat' split) <;> omega

theorem ret_bool {x y : Bool} (h : x = y) : Ending.returned (.bool x) = Ending.returned (.bool y) := by rw [h]
theorem ret_int {x y : Int} (h : x = y) : Ending.returned (.int .i64 x) = Ending.returned (.int .i64 y) := by rw [h]
theorem ret_two {x y z u : Int} (h : x = y) (k : z = u) : Ending.returned (.tuple #[.int .i64 x, .int .i64 z]) = Ending.returned (.tuple #[.int .i64 y, .int .i64 u]) := by rw [h, k]

theorem isOp_at (op : Int) (w : World) :
    Calls Try.prog 65 #[.int .i64 op] w fun e w' => e = .returned (.bool (decide (0 ≤ op) && decide (op ≤ 23))) ∧ w' = w := by
  go_enter Try.func65, Try.ntmps65
  go_wp2
  all_goals
    go_ret
    refine ⟨?_, rfl⟩
    congr 2
    simp
    omega

/-- The kind of operand behind an operation. -/
def kindOf (op : Int) : Int := if op = 0 ∨ op = 23 then 1 else if op = 21 ∨ op = 22 then 2 else if op = 1 then 3 else 0
theorem operandOf_at (op : Int) (w : World) :
    Calls Try.prog 69 #[.int .i64 op] w fun e w' => e = .returned (.int .i64 (kindOf op)) ∧ w' = w := by
  go_enter Try.func69, Try.ntmps69
  go_wp2
  all_goals
    go_ret
    refine ⟨ret_int ?_, rfl⟩
    simp only [beq_iff_eq, beq_eq_false_iff_ne, ne_eq] at *
    unfold kindOf
    (repeat' split) <;> omega

theorem width_at (op : Int) (w : World) :
    Calls Try.prog 66 #[.int .i64 op] w fun e w' => e = .returned (.int .i64 (opw op)) ∧ w' = w := by
  go_enter Try.func66, Try.ntmps66
  go_wp2_with fail
  refine (operandOf_at _ _).mono ?_
  rintro e w' ⟨rfl, rfl⟩
  go_wp2
  all_goals
    go_ret
    refine ⟨?_, rfl⟩
    congr 2
    unfold kindOf at *
    unfold opw
    (repeat' split) <;> simp_all

/-- The reference's word for it: -1 of what is no operation. -/
def rop (op : Int) : Int := if 0 ≤ op ∧ op ≤ 23 then (opw op : Int) else -1
theorem roperand_at (op : Int) (w : World) :
    Calls Try.prog 62 #[.int .i64 op] w fun e w' => e = .returned (.int .i64 (rop op)) ∧ w' = w := by
  go_enter Try.func62, Try.ntmps62
  go_wp2
  all_goals
    go_ret
    refine ⟨ret_int ?_, rfl⟩
    simp only [beq_iff_eq, beq_eq_false_iff_ne, ne_eq] at *
    unfold rop opw
    (repeat' split) <;> omega

theorem args_at (n : Int) (w : World) :
    Calls Try.prog 64 #[.int .i64 n] w fun e w' => e = .returned (.int .i64 (argsOf n)) ∧ w' = w := by
  go_enter Try.func64, Try.ntmps64
  go_wp2
  all_goals
    go_ret
    refine ⟨ret_int ?_, rfl⟩
    simp only [beq_iff_eq, beq_eq_false_iff_ne, ne_eq] at *
    unfold argsOf
    (repeat' split) <;> omega
theorem rargs_at (n : Int) (w : World) :
    Calls Try.prog 63 #[.int .i64 n] w fun e w' => e = .returned (.int .i64 (argsOf n)) ∧ w' = w := by
  go_enter Try.func63, Try.ntmps63
  go_wp2
  all_goals
    go_ret
    refine ⟨ret_int ?_, rfl⟩
    simp only [beq_iff_eq, beq_eq_false_iff_ne, ne_eq] at *
    unfold argsOf
    (repeat' split) <;> omega

/-- A shift to the right by whole bytes. -/
theorem pow256 (k : Nat) : (256 : Int) ^ k = 2 ^ (8 * k) := by rw [Int.pow_mul]; rfl
theorem shr256 (a : Int) (n : Nat) : a / 2 ^ (8 * (n : Int)).toNat = a / 256 ^ n := by
  have h1 : ((8 * (n : Int))).toNat = 8 * n := by omega
  rw [h1, pow256]
theorem wrap8 (k : Nat) (h : k ≤ 8) : IntKind.i64.wrap (8 * (k : Int)) = 8 * (k : Int) := by
  have : k = 0 ∨ k = 1 ∨ k = 2 ∨ k = 3 ∨ k = 4 ∨ k = 5 ∨ k = 6 ∨ k = 7 ∨ k = 8 := by omega
  rcases this with rfl | rfl | rfl | rfl | rfl | rfl | rfl | rfl | rfl <;> decide

theorem fits_at (i : Ins) (hi : i.Fit) (w : World) :
    Calls Try.prog 71 #[.agg (insRow i)] w fun e w' => e = .returned (.bool (decide (i.arg / 256 ^ opw i.op = 0))) ∧ Below w.heap.size w w' := by
  obtain ⟨op, arg, pos, len⟩ := i
  obtain ⟨b1, b2, b3, b4⟩ := hi
  have hw8 := opw_le op
  have hwr := wrap8 (opw op) hw8
  dsimp only [insRow] at *
  generalize hq : arg / 256 ^ opw op = q at *
  have HQ : Hid _ := hq
  clear hq
  generalize hn : opw op = n at *
  have HN : Hid _ := hn
  clear hn
  obtain ⟨W, hW⟩ : ∃ W, W = w.alloc (.cells #[.int .i64 op, .int .u64 arg, .int .i64 pos, .int .i64 len] 48) := ⟨_, rfl⟩
  have hbel : Below w.heap.size w W := by rw [hW]; exact (Below.refl _ _).alloc (Nat.le_refl _) _
  have hc : W.cell? ⟨w.heap.size, 0, none⟩ = some (.int .i64 op) ∧ W.cell? ⟨w.heap.size, 1, none⟩ = some (.int .u64 arg) := by
    have := heap_alloc_new w (.cells #[.int .i64 op, .int .u64 arg, .int .i64 pos, .int .i64 len] 48)
    rw [← hW] at this
    exact ⟨by rw [cell_of_heap this]; rfl, by rw [cell_of_heap this]; rfl⟩
  go_enter Try.func71, Try.ntmps71
  go_wp2_with fail
  rw [← hW]
  clear hW
  go_region_held3 (fun w' => w'.cell? ⟨w.heap.size, 0, none⟩ = some (.int .i64 op) ∧ w'.cell? ⟨w.heap.size, 1, none⟩ = some (.int .u64 arg))
    (first | go_keep | (exact hc))
    (first | (go_at_call 66; refine (width_at op _).mono ?_; rw [HN.out]; rintro e wq ⟨rfl, rfl⟩))
  all_goals
    go_wp2
    go_ret
    refine ⟨ret_bool ?_, hbel.drew⟩
    rw [shr256, HQ.out]
    rfl

/-- What an instruction takes and puts. -/
def movesOf (op arg : Int) : Int × Int :=
  if op = 0 ∨ op = 1 then (0, 1) else if op = 2 then (1, 2) else if op = 3 ∨ op = 22 then (1, 0) else if op = 4 then (2, 2) else if op = 5 then (2, 3)
  else if op = 18 ∨ op = 19 then (1, 1) else if op = 20 then (2, 0) else if op = 21 then (0, 0)
  else if op = 23 then (if arg ≤ 255 ∧ 0 ≤ argsOf arg then (argsOf arg, 1) else (-1, -1)) else if 6 ≤ op ∧ op ≤ 17 then (2, 1) else (-1, -1)

theorem wrapu (a : Int) (h0 : 0 ≤ a) (h : a ≤ 255) : IntKind.i64.wrap a = a := by
  simp [IntKind.wrap, IntKind.bits, IntKind.signed]
  omega
theorem sysMoves_at (arg pos len : Int) (hi : (Ins.mk 23 arg pos len).Fit) (w : World) :
    Calls Try.prog 70 #[.agg (insRow ⟨23, arg, pos, len⟩)] w fun e w' => e = .returned (.tuple #[.int .i64 (movesOf 23 arg).1, .int .i64 (movesOf 23 arg).2]) ∧ Below w.heap.size w w' := by
  have hfa := fits_at ⟨23, arg, pos, len⟩ hi
  obtain ⟨b1, b2, b3, b4⟩ := hi
  have ho : opw 23 = 1 := by decide
  have hm : movesOf 23 arg = if arg ≤ 255 ∧ 0 ≤ argsOf arg then (argsOf arg, 1) else (-1, -1) := rfl
  have HM : Hid _ := hm
  clear hm
  dsimp only [insRow] at *
  rw [ho] at hfa
  have hla := argsOf_low arg
  generalize hn : argsOf arg = n at *
  have HN : Hid _ := hn
  clear hn
  generalize hM : movesOf 23 arg = M at *
  clear hM
  obtain ⟨W, hW⟩ : ∃ W, W = w.alloc (.cells #[.int .i64 23, .int .u64 arg, .int .i64 pos, .int .i64 len] 48) := ⟨_, rfl⟩
  have hbel : Below w.heap.size w W := by rw [hW]; exact (Below.refl _ _).alloc (Nat.le_refl _) _
  have hnew : W.heap[w.heap.size]? = some (.cells #[.int .i64 23, .int .u64 arg, .int .i64 pos, .int .i64 len] 48) := by rw [hW]; exact heap_alloc_new _ _
  have c0 : W.cell? ⟨w.heap.size, 0, none⟩ = some (.int .i64 23) := by rw [cell_of_heap hnew]; rfl
  have c1 : W.cell? ⟨w.heap.size, 1, none⟩ = some (.int .u64 arg) := by rw [cell_of_heap hnew]; rfl
  have c2 : W.cell? ⟨w.heap.size, 2, none⟩ = some (.int .i64 pos) := by rw [cell_of_heap hnew]; rfl
  have c3 : W.cell? ⟨w.heap.size, 3, none⟩ = some (.int .i64 len) := by rw [cell_of_heap hnew]; rfl
  by_cases ha : arg ≤ 255
  · have hq : decide (arg / 256 ^ 1 = 0) = true := by simp; omega
    have hwa := wrapu arg b2.1 ha
    rw [hq] at hfa
    clear hq
    go_enter Try.func70, Try.ntmps70
    go_wp2_with fail
    rw [← hW]
    clear hW
    refine (hfa W).mono ?_
    rintro e w1 ⟨rfl, hb1⟩
    have d1 : w1.cell? ⟨w.heap.size, 1, none⟩ = some (.int .u64 arg) := by rw [hb1.cell (p := ⟨w.heap.size, 1, none⟩) (lt_of_heap hnew)]; exact c1
    go_wp2_with fail
    refine (args_at arg w1).mono ?_
    rw [HN.out]
    rintro e w2 ⟨rfl, rfl⟩
    by_cases h0 : 0 ≤ n
    · have hM : M = (n, 1) := by rw [HM.out, if_pos ⟨ha, h0⟩]
      subst hM
      go_wp2
      go_ret2
      exact ⟨rfl, hbel.trans (hb1.mono hbel.size)⟩
    · have hM : M = (-1, -1) := by rw [HM.out, if_neg (fun h => h0 h.2)]
      subst hM
      go_wp2
      go_ret2
      exact ⟨rfl, hbel.trans (hb1.mono hbel.size)⟩
  · have hq : decide (arg / 256 ^ 1 = 0) = false := by simp; omega
    rw [hq] at hfa
    clear hq
    have hM : M = (-1, -1) := by rw [HM.out, if_neg (fun h => ha h.1)]
    subst hM
    go_enter Try.func70, Try.ntmps70
    go_wp2_with fail
    rw [← hW]
    clear hW
    refine (hfa W).mono ?_
    rintro e w1 ⟨rfl, hb1⟩
    go_wp2
    go_ret2
    exact ⟨rfl, hbel.trans (hb1.mono hbel.size)⟩

theorem moves_sys (arg pos len : Int) (hi : (Ins.mk 23 arg pos len).Fit) (w : World) :
    Calls Try.prog 68 #[.agg (insRow ⟨23, arg, pos, len⟩)] w fun e w' => e = .returned (.tuple #[.int .i64 (movesOf 23 arg).1, .int .i64 (movesOf 23 arg).2]) ∧ Below w.heap.size w w' := by
  have hfa := sysMoves_at arg pos len hi
  dsimp only [insRow] at *
  generalize hM : movesOf 23 arg = M at *
  clear hM
  obtain ⟨W, hW⟩ : ∃ W, W = w.alloc (.cells #[.int .i64 23, .int .u64 arg, .int .i64 pos, .int .i64 len] 48) := ⟨_, rfl⟩
  have hbel : Below w.heap.size w W := by rw [hW]; exact (Below.refl _ _).alloc (Nat.le_refl _) _
  go_enter Try.func68, Try.ntmps68
  go_wp2_with fail
  rw [← hW]
  clear hW
  refine (hfa W).mono ?_
  rintro e w1 ⟨rfl, hb1⟩
  go_wp2
  go_ret2
  exact ⟨rfl, hbel.trans (hb1.mono hbel.size)⟩

set_option maxHeartbeats 2000000 in
theorem moves_at (i : Ins) (hi : i.Fit) (w : World) :
    Calls Try.prog 68 #[.agg (insRow i)] w fun e w' => e = .returned (.tuple #[.int .i64 (movesOf i.op i.arg).1, .int .i64 (movesOf i.op i.arg).2]) ∧ Below w.heap.size w w' := by
  obtain ⟨op, arg, pos, len⟩ := i
  by_cases h : op = 23
  · subst h; exact moves_sys arg pos len hi w
  have h23 : (op == 23) = false := by simpa using h
  dsimp only [insRow] at *
  generalize hM : movesOf op arg = M at *
  have HM : Hid _ := hM
  clear hM h
  go_enter Try.func68, Try.ntmps68
  go_wp2
  all_goals
    go_ret2
    refine ⟨?_, (Below.refl _ _).alloc (Nat.le_refl _) _⟩
    rw [← HM.out]
    clear HM
    simp only [beq_iff_eq, beq_eq_false_iff_ne, ne_eq] at *
    unfold movesOf
    repeat (first | rw [if_pos (by omega)] | rw [if_neg (by omega)])
    first | rfl | (exfalso; omega)

theorem rmoves_sys (arg pos len : Int) (hi : (Ins.mk 23 arg pos len).Fit) (w : World) :
    Calls Try.prog 26 #[.agg (insRow ⟨23, arg, pos, len⟩)] w fun e w' => e = .returned (.tuple #[.int .i64 (movesOf 23 arg).1, .int .i64 (movesOf 23 arg).2]) ∧ Below w.heap.size w w' := by
  obtain ⟨b1, b2, b3, b4⟩ := hi
  have hm : movesOf 23 arg = if arg ≤ 255 ∧ 0 ≤ argsOf arg then (argsOf arg, 1) else (-1, -1) := rfl
  have HM : Hid _ := hm
  clear hm
  dsimp only [insRow] at *
  have hla := argsOf_low arg
  have hra := rargs_at arg
  generalize hn : argsOf arg = n at *
  clear hn
  generalize hM : movesOf 23 arg = M at *
  clear hM
  have hbel : ∀ o, Below w.heap.size w (w.alloc o) := fun o => (Below.refl _ _).alloc (Nat.le_refl _) _
  by_cases ha : arg ≤ 255
  · have hwa := wrapu arg b2.1 ha
    by_cases h0 : 0 ≤ n
    · have hM : M = (n, 1) := by rw [HM.out, if_pos ⟨ha, h0⟩]
      subst hM
      go_enter Try.func26, Try.ntmps26
      go_wp2_with fail
      refine (hra _).mono ?_
      rintro e w1 ⟨rfl, rfl⟩
      go_wp2_with fail
      refine (hra _).mono ?_
      rintro e w1 ⟨rfl, rfl⟩
      go_wp2
      go_ret2
      exact ⟨rfl, hbel _⟩
    · have hM : M = (-1, -1) := by rw [HM.out, if_neg (fun h => h0 h.2)]
      subst hM
      go_enter Try.func26, Try.ntmps26
      go_wp2_with fail
      refine (hra _).mono ?_
      rintro e w1 ⟨rfl, rfl⟩
      go_wp2
      go_ret2
      exact ⟨rfl, hbel _⟩
  · have hM : M = (-1, -1) := by rw [HM.out, if_neg (fun h => ha h.1)]
    subst hM
    go_enter Try.func26, Try.ntmps26
    go_wp2
    go_ret2
    exact ⟨rfl, hbel _⟩

set_option maxHeartbeats 2000000 in
theorem rmoves_at (i : Ins) (hi : i.Fit) (w : World) :
    Calls Try.prog 26 #[.agg (insRow i)] w fun e w' => e = .returned (.tuple #[.int .i64 (movesOf i.op i.arg).1, .int .i64 (movesOf i.op i.arg).2]) ∧ Below w.heap.size w w' := by
  obtain ⟨op, arg, pos, len⟩ := i
  by_cases h : op = 23
  · subst h; exact rmoves_sys arg pos len hi w
  have h23 : (op == 23) = false := by simpa using h
  dsimp only [insRow] at *
  generalize hM : movesOf op arg = M at *
  have HM : Hid _ := hM
  clear hM h
  go_enter Try.func26, Try.ntmps26
  go_wp2
  all_goals
    go_ret2
    refine ⟨?_, (Below.refl _ _).alloc (Nat.le_refl _) _⟩
    rw [← HM.out]
    clear HM
    simp only [beq_iff_eq, beq_eq_false_iff_ne, ne_eq] at *
    unfold movesOf
    repeat (first | rw [if_pos (by omega)] | rw [if_neg (by omega)])
    first | rfl | (exfalso; omega)
end Go.Proofs.Ytedkijionpkmmaa
