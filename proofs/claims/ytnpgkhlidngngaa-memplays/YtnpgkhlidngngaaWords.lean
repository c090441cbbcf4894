/- The contract of janusref01.Words at two equal rows of words, and at two that are none. -/
import Derived.Test.YtnpgkhlidngngaaMemA
import Derived.Test.YtnpgkhlidngngaaPlain
import Derived.Deep.QuietTactic
import Derived.BigQuiet
namespace Go.Proofs.Ytnpgkhlidngngaa
open Go.RowKit
set_option linter.unusedVariables false

set_option maxHeartbeats 400000 in
theorem words_none (w : World) :
    Calls Try.prog 19 #[.slice none 0 0, .slice none 0 0] w fun e w' => e = .returned (.bool true) ∧ ∃ q, w' = w.drewN q := by
  go_enter Try.func19, Try.ntmps19
  go_wp2
  refine wp_loop_rounds 1 ?_
  rw [rounds_succ]
  go_wp2
  go_ret
  exact ⟨rfl, 0, rfl⟩

set_option maxHeartbeats 400000 in
theorem words_same (ga gb oa ob n ca cb : Nat) (xs : List Int) (w : World) (hn : n ≤ 1000000)
    (hca : ∀ j, j < n → w.cell? ⟨ga, oa + j, none⟩ = some (.int .u64 (xs.getD j 0))) (hcb : ∀ j, j < n → w.cell? ⟨gb, ob + j, none⟩ = some (.int .u64 (xs.getD j 0))) :
    Calls Try.prog 19 #[.slice (some ⟨ga, oa, none⟩) n ca, .slice (some ⟨gb, ob, none⟩) n cb] w fun e w' => e = .returned (.bool true) ∧ ∃ q, w' = w.drewN q := by
  have HA : Hid _ := hca
  have HB : Hid _ := hcb
  clear hca hcb
  go_enter Try.func19, Try.ntmps19
  go_wp2
  go_loopw [5] (fun i wr => ∃ k q : Nat, k ≤ n ∧ i = .int .i64 k ∧ wr = w.drewN q) (fun i _ => n - (intOf i).toNat)
  case atStart => exact ⟨0, 0, Nat.zero_le _, rfl, rfl⟩
  case round =>
    obtain ⟨k, q, hk, rfl, rfl⟩ := hrel
    by_cases hlt : k < n
    · have h1 : (k : Int) < (n : Int) := by omega
      have ha := HA.out k hlt
      have hb := HB.out k hlt
      go_wp2
      go_quiet (fail)
      go_wp2
      go_roundw
      case rel => exact ⟨k + 1, _, by omega, by go_num, rfl⟩
      case measure => simp [intOf]; omega
    · go_wp2
      go_ret
      exact ⟨rfl, q, rfl⟩

theorem row_cell {w : World} {g t : Nat} {xs : List Int} (h : w.heap[g]? = some (.cells (urow xs) t)) (j : Nat) (hj : j < xs.length) : w.cell? ⟨g, 0 + j, none⟩ = some (.int .u64 (xs.getD j 0)) := by
  rw [cell_of_heap h]
  simp [urow, hj]
theorem drewN_below {w w' : World} (h : ∃ q, w' = w.drewN q) : Below w.heap.size w w' ∧ w'.heap = w.heap := by
  obtain ⟨q, rfl⟩ := h
  exact ⟨⟨rfl, rfl, rfl, Nat.le_refl _, fun _ _ => rfl⟩, rfl⟩

end Go.Proofs.Ytnpgkhlidngngaa
