/- januslaw19's awake: true in every world; a deed as cells. -/
import Derived.Test.YtpnmaoinnmmfdaaPpJ
import Derived.Test.YtpnmaoinnmmfdaaKinds
namespace Go.Proofs.Ytpnmaoinnmmfdaa
open Go.ChangeShapes Go.WideShapes Go.ChangeAt Go.RowKit Go.Lib
set_option linter.unusedVariables false

theorem upd_below {b : Nat} {w w1 w2 : World} (h : Below w.heap.size w w1) (hu : Upd b w1 w2) (hb : w.heap.size ≤ b) : Below w.heap.size w w2 := h.trans (hu.below hb h.size)
def q1 : PS := mkS PS.none
def q2 : PS := puS q1 0 [97, 98, 99, 100, 101, 102, 103, 104, 105, 106]
def q3 : PS := taS q2 0 3
def q4 : PS := puS q3 0 [120, 121]
def q5 : PS := taS q4 0 9
def q6 : PS := drS q5 0
def q7 : PS := drS q6 0
theorem k1 : mkI PS.none = 0 ∧ mkE PS.none = 0 := ⟨by kernel_rfl, by kernel_rfl⟩
theorem k2 : puI q1 0 [97, 98, 99, 100, 101, 102, 103, 104, 105, 106] = 8 := by kernel_rfl
theorem k3 : taT q2 0 3 = [97, 98, 99] := by kernel_rfl
theorem k4 : puI q3 0 [120, 121] = 2 := by kernel_rfl
theorem k5 : taT q4 0 9 = [100, 101, 102, 103, 104, 120, 121] := by kernel_rfl
theorem k6 : drE q5 0 = 0 := by kernel_rfl
theorem k7 : drE q6 0 = 106 := by kernel_rfl
theorem k8 : puI q7 0 [97] = 0 := by kernel_rfl
set_option maxRecDepth 100000 in
set_option maxHeartbeats 4000000 in
theorem awake_at (w : World) :
    Calls Try.prog 23 #[] w fun e w' => e = .returned (.bool true) ∧ Below w.heap.size w w' := by
  have hN := new_at w
  obtain ⟨b, hb⟩ : ∃ b, b = w.heap.size := ⟨_, rfl⟩
  rw [← hb] at hN
  have HB : Hid (b = w.heap.size) := hb
  have hne := ptr_eq b
  clear hb
  go_enter Try.func23, Try.ntmps23
  go_wp2_with fail
  refine hN.mono ?_
  rintro x w1 ⟨rfl, hA1, hb1, -⟩
  have HB1 : Hid (Below w.heap.size w w1) := by rw [← HB.out]; exact hb1
  have h2 := make_at b _ w1 hA1
  rw [k1.1, k1.2] at h2
  clear hN hA1 hb1
  go_wp2_with fail
  refine h2.mono ?_
  rintro x w2 ⟨rfl, hA2, hu2⟩
  have HB2 : Hid (Below w.heap.size w w2) := upd_below HB1.out hu2 (by rw [HB.out]; exact Nat.le_refl _)
  have h3 := put_at b q1 0 [97, 98, 99, 100, 101, 102, 103, 104, 105, 106] w2 hA2
  rw [k2] at h3
  clear h2 hA2 hu2 HB1
  go_wp2_with fail
  refine h3.mono ?_
  rintro x w3 ⟨rfl, hA3, hu3⟩
  have HB3 : Hid (Below w.heap.size w w3) := upd_below HB2.out hu3 (by rw [HB.out]; exact Nat.le_refl _)
  have h4 := take_at b q2 0 3 w3 hA3
  rw [k3] at h4
  clear h3 hA3 hu3 HB2
  go_wp2_with fail
  refine h4.mono ?_
  rintro x w4 ⟨rfl, hA4, hu4⟩
  have HB4 : Hid (Below w.heap.size w w4) := upd_below HB3.out hu4 (by rw [HB.out]; exact Nat.le_refl _)
  have h5 := put_at b q3 0 [120, 121] w4 hA4
  rw [k4] at h5
  clear h4 hA4 hu4 HB3
  go_wp2_with fail
  refine h5.mono ?_
  rintro x w5 ⟨rfl, hA5, hu5⟩
  have HB5 : Hid (Below w.heap.size w w5) := upd_below HB4.out hu5 (by rw [HB.out]; exact Nat.le_refl _)
  have h6 := take_at b q4 0 9 w5 hA5
  rw [k5] at h6
  clear h5 hA5 hu5 HB4
  go_wp2_with fail
  refine h6.mono ?_
  rintro x w6 ⟨rfl, hA6, hu6⟩
  have HB6 : Hid (Below w.heap.size w w6) := upd_below HB5.out hu6 (by rw [HB.out]; exact Nat.le_refl _)
  have h7 := drop_at b q5 0 w6 hA6
  rw [k6] at h7
  clear h6 hA6 hu6 HB5
  go_wp2_with fail
  refine h7.mono ?_
  rintro x w7 ⟨rfl, hA7, hu7⟩
  have HB7 : Hid (Below w.heap.size w w7) := upd_below HB6.out hu7 (by rw [HB.out]; exact Nat.le_refl _)
  have h8 := drop_at b q6 0 w7 hA7
  rw [k7] at h8
  clear h7 hA7 hu7 HB6
  go_wp2_with fail
  refine h8.mono ?_
  rintro x w8 ⟨rfl, hA8, hu8⟩
  have HB8 : Hid (Below w.heap.size w w8) := upd_below HB7.out hu8 (by rw [HB.out]; exact Nat.le_refl _)
  have h9 := put_at b q7 0 [97] w8 hA8
  rw [k8] at h9
  clear h8 hA8 hu8 HB7
  go_wp2_with fail
  refine h9.mono ?_
  rintro x w9 ⟨rfl, hA9, hu9⟩
  have HB9 : Hid (Below w.heap.size w w9) := upd_below HB8.out hu9 (by rw [HB.out]; exact Nat.le_refl _)
  clear h9 hA9 hu9 HB8
  go_wp2
  go_ret
  exact ⟨rfl, HB9.out⟩

structure Deed where
  kind : Int
  id : Int
  n : Int
  s : List UInt8
abbrev deedRow (d : Deed) : Array Value := #[.int .i64 d.kind, .int .i64 d.id, .int .i64 d.n, tx d.s]
/-- A deed in its block. -/
def Box (w : World) (D : Nat) (d : Deed) : Prop := w.heap[D]? = some (.cells (deedRow d) 31)
theorem Box.cells {w : World} {D : Nat} {d : Deed} (h : Box w D d) : w.cell? ⟨D, 0, none⟩ = some (.int .i64 d.kind) ∧ w.cell? ⟨D, 1, none⟩ = some (.int .i64 d.id) ∧ w.cell? ⟨D, 2, none⟩ = some (.int .i64 d.n) ∧ w.cell? ⟨D, 3, none⟩ = some (tx d.s) := by
  refine ⟨?_, ?_, ?_, ?_⟩ <;> (rw [cell_of_heap h]; rfl)
theorem Box.below {w w' : World} {D : Nat} {d : Deed} (h : Box w D d) (hb : Below w.heap.size w w') : Box w' D d := (hb.block _ (lt_of_heap h)).trans h
theorem Box.upd {w w' : World} {b D : Nat} {d : Deed} (h : Box w D d) (hu : Upd b w w') (hp : D ≠ b) : Box w' D d := (hu.block _ (lt_of_heap h) hp).trans h
abbrev deedCK : List CK := [.i .i64, .i .i64, .i .i64, .s]
theorem deedKinds : kindsOf Try.prog 9 31 = some deedCK := by kernel_rfl
theorem deedSize : Try.prog.cellsOf 31 = 4 := by kernel_rfl
end Go.Proofs.Ytpnmaoinnmmfdaa
