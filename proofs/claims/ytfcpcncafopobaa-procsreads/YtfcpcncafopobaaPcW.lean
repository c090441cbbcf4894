/- Package procs: januslaw21's awake; a deed. (Written by PcW.py.) -/
import Derived.Test.YtfcpcncafopobaaPcC
import Derived.Test.YtfcpcncafopobaaPcD
import Derived.Test.YtfcpcncafopobaaPcE
import Derived.Test.YtfcpcncafopobaaPcI
import Derived.Test.YtfcpcncafopobaaKinds
namespace Go.Proofs.Ytfcpcncafopobaa
open Go.RowKit Go.Lib
set_option linter.unusedVariables false

def aw1 : St := beS St0
def aw2 : St := fkS aw1 1
def aw3 : St := fkS aw2 2
def aw4 : St := exS aw3 3 5
def aw5 : St := wtS aw4 2
def aw6 : St := exS aw5 2 0
def aw7 : St := wtS aw6 1
def aw8 : St := wtS aw7 1
def aw9 : St := beS aw8
theorem aw_0 : beN St0 = 1 := by kernel_rfl
theorem aw_1 : fkN aw1 1 = 2 := by kernel_rfl
theorem aw_2 : fkE aw1 1 = 0 := by kernel_rfl
theorem aw_3 : fkN aw2 2 = 3 := by kernel_rfl
theorem aw_4 : fkE aw2 2 = 0 := by kernel_rfl
theorem aw_5 : exE aw3 3 = 0 := by kernel_rfl
theorem aw_6 : wtN aw4 2 = 3 := by kernel_rfl
theorem aw_7 : wtT aw4 2 = 5 := by kernel_rfl
theorem aw_8 : wtE aw4 2 = 0 := by kernel_rfl
theorem aw_9 : wtB aw4 2 = true := by kernel_rfl
theorem aw_10 : exE aw5 2 = 0 := by kernel_rfl
theorem aw_11 : wtN aw6 1 = 2 := by kernel_rfl
theorem aw_12 : wtT aw6 1 = 0 := by kernel_rfl
theorem aw_13 : wtE aw6 1 = 0 := by kernel_rfl
theorem aw_14 : wtB aw6 1 = true := by kernel_rfl
theorem aw_15 : wtN aw7 1 = 0 := by kernel_rfl
theorem aw_16 : wtT aw7 1 = 0 := by kernel_rfl
theorem aw_17 : wtE aw7 1 = 10 := by kernel_rfl
theorem aw_18 : wtB aw7 1 = false := by kernel_rfl
theorem aw_19 : beN aw8 = 0 := by kernel_rfl
theorem aw_20 : parI aw9 1 = 0 := by kernel_rfl
theorem aw_21 : parI aw9 2 = -1 := by kernel_rfl
set_option maxRecDepth 100000 in
set_option maxHeartbeats 8000000 in
theorem awake_at (w : World) : Calls Try.prog 28 #[] w fun e w' => e = .returned (.bool true) ∧ Below w.heap.size w w' := by
  have hNew := new_at w
  obtain ⟨B, hB⟩ : ∃ B, B = w.heap.size := ⟨_, rfl⟩
  rw [← hB] at hNew ⊢
  have hq := eq_procs B
  have HBs : Hid (B = w.heap.size) := hB
  clear hB
  go_enter Try.func28, Try.ntmps28
  go_wp2_with fail
  refine hNew.mono ?_
  rintro e w0 ⟨rfl, hA, hb⟩
  have HA0 : Hid (PrAt w0 B B St0) := hA
  have HB0 : Hid (Below B w w0) := hb
  clear hNew hA hb
  have h := begin_at B B (St0) w0 HA0.out
  rw [aw_0] at h
  go_wp2_with fail
  refine h.mono ?_
  rintro e w1 ⟨rfl, hA, hT⟩
  have HA1 : Hid (PrAt w1 B B (beS (St0))) := hA
  have HB1 : Hid (Below B w w1) := HB0.out.trans (hT.below (by have := HA0.out.low; omega))
  clear h hA hT HA0 HB0
  have h := fork_at B B (aw1) 1 w1 HA1.out
  rw [aw_1, aw_2] at h
  go_wp2_with fail
  refine h.mono ?_
  rintro e w2 ⟨rfl, hA, hT⟩
  have HA2 : Hid (PrAt w2 B B (fkS (aw1) 1)) := hA
  have HB2 : Hid (Below B w w2) := HB1.out.trans (hT.below (by have := HA1.out.low; omega))
  clear h hA hT HA1 HB1
  have h := fork_at B B (aw2) 2 w2 HA2.out
  rw [aw_3, aw_4] at h
  go_wp2_with fail
  refine h.mono ?_
  rintro e w3 ⟨rfl, hA, hT⟩
  have HA3 : Hid (PrAt w3 B B (fkS (aw2) 2)) := hA
  have HB3 : Hid (Below B w w3) := HB2.out.trans (hT.below (by have := HA2.out.low; omega))
  clear h hA hT HA2 HB2
  have h := exit_at B B (aw3) 3 5 w3 HA3.out
  rw [aw_5] at h
  go_wp2_with fail
  refine h.mono ?_
  rintro e w4 ⟨rfl, hA, hT⟩
  have HA4 : Hid (PrAt w4 B B (exS (aw3) 3 5)) := hA
  have HB4 : Hid (Below B w w4) := HB3.out.trans (hT.below (by have := HA3.out.low; omega))
  clear h hA hT HA3 HB3
  have h := wait_at B B (aw4) 2 w4 HA4.out
  rw [aw_6, aw_7, aw_8, aw_9] at h
  go_wp2_with fail
  refine h.mono ?_
  rintro e w5 ⟨rfl, hA, hT⟩
  have HA5 : Hid (PrAt w5 B B (wtS (aw4) 2)) := hA
  have HB5 : Hid (Below B w w5) := HB4.out.trans (hT.below (by have := HA4.out.low; omega))
  clear h hA hT HA4 HB4
  have h := exit_at B B (aw5) 2 0 w5 HA5.out
  rw [aw_10] at h
  go_wp2_with fail
  refine h.mono ?_
  rintro e w6 ⟨rfl, hA, hT⟩
  have HA6 : Hid (PrAt w6 B B (exS (aw5) 2 0)) := hA
  have HB6 : Hid (Below B w w6) := HB5.out.trans (hT.below (by have := HA5.out.low; omega))
  clear h hA hT HA5 HB5
  have h := wait_at B B (aw6) 1 w6 HA6.out
  rw [aw_11, aw_12, aw_13, aw_14] at h
  go_wp2_with fail
  refine h.mono ?_
  rintro e w7 ⟨rfl, hA, hT⟩
  have HA7 : Hid (PrAt w7 B B (wtS (aw6) 1)) := hA
  have HB7 : Hid (Below B w w7) := HB6.out.trans (hT.below (by have := HA6.out.low; omega))
  clear h hA hT HA6 HB6
  have h := wait_at B B (aw7) 1 w7 HA7.out
  rw [aw_15, aw_16, aw_17, aw_18] at h
  go_wp2_with fail
  refine h.mono ?_
  rintro e w8 ⟨rfl, hA, hT⟩
  have HA8 : Hid (PrAt w8 B B (wtS (aw7) 1)) := hA
  have HB8 : Hid (Below B w w8) := HB7.out.trans (hT.below (by have := HA7.out.low; omega))
  clear h hA hT HA7 HB7
  have h := begin_at B B (aw8) w8 HA8.out
  rw [aw_19] at h
  go_wp2_with fail
  refine h.mono ?_
  rintro e w9 ⟨rfl, hA, hT⟩
  have HA9 : Hid (PrAt w9 B B (beS (aw8))) := hA
  have HB9 : Hid (Below B w w9) := HB8.out.trans (hT.below (by have := HA8.out.low; omega))
  clear h hA hT HA8 HB8
  have h := parent_at B B (aw9) 1 w9 HA9.out
  rw [aw_20] at h
  go_wp2_with fail
  refine h.mono ?_
  rintro e wx ⟨rfl, hw⟩
  rw [hw]
  clear hw wx h
  have h := parent_at B B (aw9) 2 w9 HA9.out
  rw [aw_21] at h
  go_wp2_with fail
  refine h.mono ?_
  rintro e wx ⟨rfl, hw⟩
  rw [hw]
  clear hw wx h
  go_wp2
  go_ret
  exact ⟨rfl, HB9.out⟩

structure Deed where
  kind : Int
  pid : Int
  n : Int
abbrev deedRow (d : Deed) : Array Value := #[.int .i64 d.kind, .int .i64 d.pid, .int .i64 d.n]
/-- A deed in its block. -/
def Box (w : World) (D : Nat) (d : Deed) : Prop := w.heap[D]? = some (.cells (deedRow d) 33)
theorem Box.cells {w : World} {D : Nat} {d : Deed} (h : Box w D d) : w.cell? ⟨D, 0, none⟩ = some (.int .i64 d.kind) ∧ w.cell? ⟨D, 1, none⟩ = some (.int .i64 d.pid) ∧ w.cell? ⟨D, 2, none⟩ = some (.int .i64 d.n) := by
  refine ⟨?_, ?_, ?_⟩ <;> (rw [cell_of_heap h]; rfl)
theorem Box.below {w w' : World} {D : Nat} {d : Deed} (h : Box w D d) (hb : Below w.heap.size w w') : Box w' D d := (hb.block _ (lt_of_heap h)).trans h
theorem Box.tch {w w' : World} {B D : Nat} {d : Deed} (h : Box w D d) (hu : Tch B w w') : Box w' D d := hu.other h (by decide) (by decide)
abbrev deedCK : List CK := [.i .i64, .i .i64, .i .i64]
theorem deedKinds : kindsOf Try.prog 9 33 = some deedCK := by kernel_rfl
theorem deedSize : Try.prog.cellsOf 33 = 3 := by kernel_rfl
theorem deedOf {l : List Value} (h : Fits deedCK l) : ∃ d : Deed, l = (deedRow d).toList ∧ (Lit.int .i64 d.n).wf = true := by
  obtain ⟨_, _, rfl, ⟨a0, rfl, -⟩, _, _, rfl, ⟨a1, rfl, -⟩, _, _, rfl, ⟨a2, rfl, h2⟩, rfl⟩ := h
  exact ⟨⟨a0, a1, a2⟩, rfl, h2⟩
end Go.Proofs.Ytfcpcncafopobaa
