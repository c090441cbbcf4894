/- The contract of slices.Repeat at one number, and of what it calls. -/
import Derived.Test.YteipppdkbpfkaaaValB
import Derived.Laws.CopyOwn
import Derived.Laws.Bits64b
namespace Go.Proofs.Yteipppdkbpfkaaa
open Go.RowKit
set_option linter.unusedVariables false

theorem and_low (n : Nat) (h : n < 4294967296) : bits .and .u64 (n : Int) 4294967295 = n := by
  have h1 := bits_and_u64_nat n 4294967295 (by omega) (by omega)
  have h2 : n &&& 4294967295 = n := by
    have := Nat.and_two_pow_sub_one_of_lt_two_pow (n := 32) (x := n) (by omega)
    simpa using this
  rw [h2] at h1
  exact h1
theorem mul64_at (n : Nat) (hn : n ≤ 1000000) (w : World) :
    Calls Try.prog 39 #[.int .u64 1, .int .u64 n] w fun e w' => e = .returned (.tuple #[.int .u64 0, .int .u64 n]) ∧ w' = w := by
  have h1 := and_low 1 (by omega)
  have h0 := and_low 0 (by omega)
  have hN := and_low n (by omega)
  have hd : (n : Int) / 4294967296 = 0 := by omega
  have hd2 : (n : Int) / 2 ^ 32 = 0 := by omega
  simp only [Int.cast_ofNat_Int] at h1 h0
  go_enter Try.func39, Try.ntmps39
  go_wp2
  go_ret2
  exact ⟨by simp, rfl⟩
theorem mul_at (n : Nat) (hn : n ≤ 1000000) (w : World) :
    Calls Try.prog 35 #[.int .u64 1, .int .u64 n] w fun e w' => e = .returned (.tuple #[.int .u64 0, .int .u64 n]) ∧ w' = w := by
  go_enter Try.func35, Try.ntmps35
  go_wp2_with fail
  refine (mul64_at n hn w).mono ?_
  rintro e w1 ⟨rfl, rfl⟩
  go_wp2
  go_ret2
  exact ⟨rfl, rfl⟩

/-- A row of ints. -/
def irow (vs : List Int) : List Value := vs.map (Value.int .i64)
theorem irow_len (vs : List Int) : (irow vs).length = vs.length := by simp [irow]
/-- So many -1, and then 0, n in all. -/
def fil (n k : Nat) : List Value := irow (List.replicate k (-1) ++ List.replicate (n - k) 0)
theorem fil_len (n k : Nat) (h : k ≤ n) : (fil n k).length = n := by simp [fil, irow]; omega
theorem fil_zero (n : Nat) : fil n 0 = List.replicate n (.int .i64 0) := by simp [fil, irow]
theorem fil_full (n : Nat) : fil n n = irow (List.replicate n (-1)) := by simp [fil]
theorem fil_step (n k m : Nat) (h : k + m ≤ n) : splice (fil n k) k (List.replicate m (.int .i64 (-1))) = fil n (k + m) := by
  unfold splice fil irow
  simp only [List.map_append, List.map_replicate, List.length_replicate]
  rw [List.take_append_of_le_length (by simp), List.take_of_length_le (by simp), List.drop_append]
  simp only [List.drop_replicate, List.length_replicate]
  have e1 : k - (k + m) = 0 := by omega
  have e2 : n - k - (k + m - k) = n - (k + m) := by omega
  rw [e1, e2, ← List.append_assoc, List.replicate_append_replicate]
  simp
theorem fil_get (n k j : Nat) (h : j < k) : (fil n k)[j]? = some (.int .i64 (-1)) := by
  unfold fil irow
  rw [List.map_append, List.getElem?_append_left (by simp; omega)]
  simp [h]
theorem intInfo : (Try.prog.info? 3).map (fun i => (i.zero, i.size, i.bytes)) = some (some (.int .i64 0), 1, 8) := by kernel_rfl
theorem intSize : (Try.prog.info? 3).map (·.size) = some 1 := by kernel_rfl
theorem zeros_eq (n : Nat) : Array.replicate (n * 1) (Value.int .i64 0) = (fil n 0).toArray := by rw [fil_zero]; simp

set_option maxHeartbeats 1000000 in
theorem repeat_at (n : Nat) (hn1 : 1 ≤ n) (hn : n ≤ 1000000) (g0 c0 : Nat) (w : World) (hc : w.cell? ⟨g0, 0, none⟩ = some (.int .i64 (-1))) :
    Calls Try.prog 30 #[.slice (some ⟨g0, 0, none⟩) 1 c0, .int .i64 n] w fun e w' =>
      e = .returned (.slice (some ⟨w.heap.size, 0, none⟩) n n) ∧ w'.heap[w.heap.size]? = some (.cells (irow (List.replicate n (-1))).toArray 3 (0, 0)) ∧ Below w.heap.size w w' := by
  have hg0 := cell_lt hc
  dsimp only at hg0
  have hw1 : IntKind.u64.wrap (n : Int) = n := uwrap_nat n (by omega)
  have hw2 : IntKind.i64.wrap (n : Int) = n := by simp [IntKind.wrap, IntKind.bits, IntKind.signed]; omega
  have hmk := run_make_flat (P := Try.prog) 25 3 (.int .i64 0) (.int .i64 0) 1 8 Try.underlying25 intInfo rfl (by omega) .i64 .i64 n (by omega) (by omega)
  simp only [zeros_eq] at hmk
  have hmul := mul_at n hn
  obtain ⟨W, hW⟩ : ∃ W, W = w.alloc (.cells (fil n 0).toArray 3) := ⟨_, rfl⟩
  have hnew : W.heap[w.heap.size]? = some (.cells (fil n 0).toArray 3 (0, 0)) := by rw [hW]; exact heap_alloc_new _ _
  have hbW : Below w.heap.size w W := by rw [hW]; exact (Below.refl _ _).alloc (Nat.le_refl _) _
  have hcW : W.cell? ⟨g0, 0, none⟩ = some (.int .i64 (-1)) := by rw [hbW.cell (p := ⟨g0, 0, none⟩) hg0]; exact hc
  have hcopy := run_copy_row Try.prog W 25 25 3 3 w.heap.size 0 n n ⟨g0, 0, none⟩ 1 c0 (fil n 0).toArray 3 [.int .i64 (-1)] Try.underlying25 intSize hnew
    (by show 1 = min 1 n; omega) (fun j v hj => by
      cases j with
      | zero => simp at hj; subst hj; rw [addr_add]; exact hcW
      | succ j => simp at hj) (by have := fil_len n 0 (by omega); simp; omega) (by simp [Value.oneCell'])
  obtain ⟨W1, hW1⟩ : ∃ W1, W1 = W.setRow w.heap.size ((fil n 0).toArray.toList.take 0 ++ [Value.int .i64 (-1)] ++ (fil n 0).toArray.toList.drop (0 + [Value.int .i64 (-1)].length)).toArray := ⟨_, rfl⟩
  rw [← hW1] at hcopy
  have HX1 : Hid (W1.heap[w.heap.size]? = some (.cells (fil n 1).toArray 3 (0, 0))) := by
    show _ = _
    rw [hW1, setRow_heap W _ _ _ _ _ hnew]
    have := fil_step n 0 1 (by omega)
    rw [Nat.zero_add] at this
    rw [← this]
    simp [splice]
  have hb1 : Below w.heap.size w W1 := by rw [hW1]; exact below_setRow hbW (Nat.le_refl _) _
  have hg : goInt ([Value.int .i64 (-1)] : List Value).length = .int .i64 1 := rfl
  rw [hg] at hcopy
  clear hW1 hnew hcW hg hbW hc
  have hmkw := hmk w
  rw [← hW] at hmkw
  clear hW hmk
  go_enter Try.func30, Try.ntmps30
  go_wp2_with fail
  refine (hmul w).mono ?_
  rintro e w1 ⟨rfl, rfl⟩
  go_wp2
  go_loopg [8] n (fun gk s wr => ∃ (k : Nat), 1 ≤ k ∧ k ≤ n ∧ n - k ≤ gk ∧ s = .int .i64 k ∧ Hid (wr.heap[w1.heap.size]? = some (.cells (fil n k).toArray 3 (0, 0))) ∧ Below w1.heap.size w1 wr)
  case atStart => exact ⟨1, by omega, by omega, by omega, rfl, HX1, hb1⟩
  case round =>
    obtain ⟨k, hk1, hkn, hgk, rfl, HX, hb⟩ := hrel
    clear HX1 hb1 hcopy hmkw hmul
    by_cases hlt : k < n
    · have hcell : ∀ j, j < k → wr.cell? ⟨w1.heap.size, j, none⟩ = some (.int .i64 (-1)) := fun j hj => by
        rw [cell_of_heap HX.out]
        simpa using fil_get n k j hj
      obtain ⟨m, hm⟩ : ∃ m, m = min k (n - k) := ⟨_, rfl⟩
      have hm1 : 1 ≤ m ∧ k + m ≤ n ∧ m ≤ k := by omega
      have hcp := run_copy_row Try.prog wr.drew 25 25 3 3 w1.heap.size k (n - k) (n - k) ⟨w1.heap.size, 0, none⟩ k n (fil n k).toArray 3 (List.replicate m (.int .i64 (-1))) Try.underlying25 intSize HX.out
        (by simp; exact hm) (fun j v hj => by
          have hj2 : j < m ∧ Value.int .i64 (-1) = v := by simpa [List.getElem?_replicate] using hj
          rw [addr_add, ← hj2.2]
          exact hcell j (by omega)) (by have := fil_len n k (by omega); simp; omega) (by simp [Value.oneCell'])
      obtain ⟨W2, hW2⟩ : ∃ W2, W2 = wr.drew.setRow w1.heap.size ((fil n k).toArray.toList.take k ++ List.replicate m (Value.int .i64 (-1)) ++ (fil n k).toArray.toList.drop (k + (List.replicate m (Value.int .i64 (-1))).length)).toArray := ⟨_, rfl⟩
      rw [← hW2] at hcp
      have HX2 : Hid (W2.heap[w1.heap.size]? = some (.cells (fil n (k + m)).toArray 3 (0, 0))) := by
        show _ = _
        rw [hW2, setRow_heap wr.drew _ _ _ _ _ HX.out, ← fil_step n k m (by omega)]
        simp [splice]
      have hb2 : Below w1.heap.size w1 W2 := by rw [hW2]; exact below_setRow hb.drew (Nat.le_refl _) _
      have hg : goInt (List.replicate m (Value.int .i64 (-1))).length = .int .i64 m := by simp [goInt]
      rw [hg] at hcp
      clear hm hcell hW2 hg
      go_wp2
      go_region
      all_goals
        go_wp2
        go_roundg (n - (k + m))
        case measure => omega
        case rel => exact ⟨k + m, by omega, by omega, by omega, by go_num, HX2, hb2⟩
    · obtain rfl : k = n := by omega
      have HX2 : Hid _ := fil_full k ▸ HX.out
      go_wp2
      go_ret
      exact ⟨rfl, HX2.out, hb⟩
end Go.Proofs.Yteipppdkbpfkaaa
