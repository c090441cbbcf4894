/- The contract of slices.Repeat at one number, and of what it calls. -/
import Derived.Test.YtedkijionpkmmaaValB
import Derived.Laws.CopyOwn
import Derived.Laws.Bits64b
namespace Go.Proofs.Ytedkijionpkmmaa
open Go.RowKit
set_option linter.unusedVariables false

theorem and_low (n : Nat) (h : n < 4294967296) : bits .and .u64 (n : Int) 4294967295 = n := by
  have h1 := bits_and_u64_nat n 4294967295 (by omega) (by omega)
  have h2 : n &&& 4294967295 = n := by
    have := Nat.and_two_pow_sub_one_of_lt_two_pow (n := 32) (x := n) (by omega)
    simpa using this
  rw [h2] at h1
  exact h1
/-- A row of ints. -/
def irow (vs : List Int) : List Value := vs.map (Value.int .i64)
theorem irow_len (vs : List Int) : (irow vs).length = vs.length := by simp [irow]
/-- So many -1, and then 0, n in all. -/
def fil (n k : Nat) : List Value := irow (List.replicate k (-1) ++ List.replicate (n - k) 0)
theorem fil_len (n k : Nat) (h : k ≤ n) : (fil n k).length = n := by simp [fil, irow]; omega
theorem fil_zero (n : Nat) : fil n 0 = List.replicate n (.int .i64 0) := by simp [fil, irow]
theorem fil_full (n : Nat) : fil n n = irow (List.replicate n (-1)) := by simp [fil]
theorem fil_step (n k m : Nat) (h : k + m ≤ n) : splice (fil n k) k (List.replicate m (.int .i64 (-1))) = fil n (k + m) := by
  unfold splice fil irow
  simp only [List.map_append, List.map_replicate, List.length_replicate]
  rw [List.take_append_of_le_length (by simp), List.take_of_length_le (by simp), List.drop_append]
  simp only [List.drop_replicate, List.length_replicate]
  have e1 : k - (k + m) = 0 := by omega
  have e2 : n - k - (k + m - k) = n - (k + m) := by omega
  rw [e1, e2, ← List.append_assoc, List.replicate_append_replicate]
  simp
theorem fil_get (n k j : Nat) (h : j < k) : (fil n k)[j]? = some (.int .i64 (-1)) := by
  unfold fil irow
  rw [List.map_append, List.getElem?_append_left (by simp; omega)]
  simp [h]
theorem intInfo : (Try.prog.info? 3).map (fun i => (i.zero, i.size, i.bytes)) = some (some (.int .i64 0), 1, 8) := by kernel_rfl
theorem intSize : (Try.prog.info? 3).map (·.size) = some 1 := by kernel_rfl
theorem zeros_eq (n : Nat) : Array.replicate (n * 1) (Value.int .i64 0) = (fil n 0).toArray := by rw [fil_zero]; simp

end Go.Proofs.Ytedkijionpkmmaa
