/- januslaw07.VmPieces where the machine, the text or the memory is not such as it asks for. -/
import Derived.Test.YtedkijionpkmmaaVmP
namespace Go.Proofs.Ytedkijionpkmmaa
open Go.RowKit
set_option linter.unusedVariables false

set_option maxHeartbeats 4000000 in
theorem pieces_no (s : List UInt8) (hs : s.length ≤ 9223372036854775807) (pc : Int) (a0 : Option Addr) (k0 c0 : Nat) (hk0 : k0 ≤ 9223372036854775807) (ma : Option Addr) (mn mc : Nat) (hmn : mn ≤ 9223372036854775807) (fuel : Int) (w : World)
    (hno : smallB pc k0 = false ∨ (smallB pc k0 = true ∧ 2000 < s.length) ∨ (smallB pc k0 = true ∧ s.length ≤ 2000 ∧ 500 < mn)) :
    Calls Try.prog 5 #[tx s, .agg #[.int .i64 pc, .slice a0 k0 c0], .agg #[.slice ma mn mc, .int .i64 fuel]] w fun e w' => e = .returned (.bool true) ∧ Below w.heap.size w w' := by
  have hsz : (ByteArray.mk s.toArray).size = s.length := by simp [ByteArray.size]
  have hsm := small_at pc a0 k0 c0 hk0
  obtain ⟨W, hW⟩ : ∃ W, W = (w.alloc (.cells #[.int .i64 pc, .slice a0 k0 c0] 24)).alloc (.cells #[.slice ma mn mc, .int .i64 fuel] 51) := ⟨_, rfl⟩
  obtain ⟨xb, x1, x2, x3⟩ := laidAB hW
  have HB : Hid (Below w.heap.size w W) := xb
  have H1 : Hid (W.heap[w.heap.size]? = some (.cells #[.int .i64 pc, .slice a0 k0 c0] 24)) := x1
  have H2 : Hid (W.heap[w.heap.size + 1]? = some (.cells #[.slice ma mn mc, .int .i64 fuel] 51)) := x2
  clear xb x1 x2 x3
  generalize hSM : smallB pc k0 = sm at *
  clear hSM
  set_option maxRecDepth 20000 in
  go_enter Try.func5, Try.ntmps5
  go_wp2_with fail
  rw [← hW]
  clear hW
  have y0 : W.cell? ⟨w.heap.size + 1, 0, none⟩ = some (.slice ma mn mc) := by rw [cell_of_heap H2.out]; rfl
  have y1 : W.cell? ⟨w.heap.size + 1, 1, none⟩ = some (.int .i64 fuel) := by rw [cell_of_heap H2.out]; rfl
  go_quiet (fail)
  obtain ⟨V, hV⟩ : ∃ V, V = W.drewN nq := ⟨_, rfl⟩
  rw [← hV]
  have HBV : Hid (Below W.heap.size W V) := by rw [hV]; exact below_drewN (Below.refl _ _) nq
  clear hV y0 y1
  have HV1 : Hid (V.heap[w.heap.size]? = some (.cells #[.int .i64 pc, .slice a0 k0 c0] 24)) := (HBV.out.block _ (lt_of_heap H1.out)).trans H1.out
  have x0 : V.cell? ⟨w.heap.size, 0, none⟩ = some (.int .i64 pc) := by rw [cell_of_heap HV1.out]; rfl
  have x1 : V.cell? ⟨w.heap.size, 1, none⟩ = some (.slice a0 k0 c0) := by rw [cell_of_heap HV1.out]; rfl
  go_wp2_with fail
  refine (hsm V).mono ?_
  clear hsm x0 x1
  rintro e w1 ⟨rfl, hb1⟩
  have HBw1 : Hid (Below w.heap.size w w1) := HB.out.trans ((HBV.out.trans (hb1.mono HBV.out.size)).mono HB.out.size)
  clear hb1
  rcases hno with rfl | ⟨rfl, hlong⟩ | ⟨rfl, hshort, hbig⟩
  all_goals
    go_wp2_with fail
    refine (awake_at _).mono ?_
    rintro e wx ⟨rfl, hbx⟩
    have HBx : Hid (Below w.heap.size w wx) := HBw1.out.trans (hbx.mono HBw1.out.size)
    go_wp2
    go_ret
    exact ⟨rfl, HBx.out⟩
end Go.Proofs.Ytedkijionpkmmaa
