/- januslaw22: the walk of UnixNone. -/
import Derived.Test.YtikjfdihocgfpaaGreatDoorUxNTUxM
import Derived.Test.YtikjfdihocgfpaaGreatDoorUxS
set_option linter.all false
namespace Go.Proofs.YtikjfdihocgfpaaGreatDoor
open Go.RowKit
set_option maxRecDepth 100000 in
set_option maxHeartbeats 4000000 in
theorem none_walk (k p n : Int) (x : Cl) (pc : Int) (v : Value) (w : World) :
    Calls Tryz.prog 5 #[.agg #[.int .i64 k, .int .i64 p, .int .i64 n, .int .i64 x.n, .int .u64 x.a, .int .u64 x.b, .int .u64 x.c, Pp.tx x.t, Pp.tx x.u, .int .i64 pc, v]] w fun e w' => e = .returned (.bool true) ∧ Below w.heap.size w w' := by
  obtain ⟨xn, xa, xb, xc, xt, xu⟩ := x
  obtain ⟨W, hW⟩ : ∃ W, W = w.alloc (.cells #[.int .i64 k, .int .i64 p, .int .i64 n, .int .i64 xn, .int .u64 xa, .int .u64 xb, .int .u64 xc, Pp.tx xt, Pp.tx xu, .int .i64 pc, v] 55) := ⟨_, rfl⟩
  obtain ⟨D, hD⟩ : ∃ D, D = w.heap.size := ⟨_, rfl⟩
  have HX0 : Hid (W.heap[D]? = some (.cells #[.int .i64 k, .int .i64 p, .int .i64 n, .int .i64 xn, .int .u64 xa, .int .u64 xb, .int .u64 xc, Pp.tx xt, Pp.tx xu, .int .i64 pc, v] 55)) := by rw [hW, hD]; exact heap_alloc_new _ _
  have HB0 : Hid (Below w.heap.size w W) := by rw [hW]; exact below_alloc _ _
  have HW : Hid _ := hW
  have HD : Hid _ := hD
  clear hW hD
  have hC : ∀ V : World, V.heap[D]? = some (.cells #[.int .i64 k, .int .i64 p, .int .i64 n, .int .i64 xn, .int .u64 xa, .int .u64 xb, .int .u64 xc, Pp.tx xt, Pp.tx xu, .int .i64 pc, v] 55) →
      V.cell? ⟨D, 1, none⟩ = some (.int .i64 p) ∧ V.cell? ⟨D, 2, none⟩ = some (.int .i64 n) ∧ V.cell? ⟨D, 3, none⟩ = some (.int .i64 xn) ∧ V.cell? ⟨D, 4, none⟩ = some (.int .u64 xa) ∧ V.cell? ⟨D, 5, none⟩ = some (.int .u64 xb) ∧ V.cell? ⟨D, 6, none⟩ = some (.int .u64 xc) ∧ V.cell? ⟨D, 7, none⟩ = some (Pp.tx xt) ∧ V.cell? ⟨D, 8, none⟩ = some (Pp.tx xu) ∧ V.cell? ⟨D, 9, none⟩ = some (.int .i64 pc) ∧ V.cell? ⟨D, 10, none⟩ = some v := fun V h => by
    refine ⟨?_, ?_, ?_, ?_, ?_, ?_, ?_, ?_, ?_, ?_⟩ <;> (rw [cell_of_heap h]; rfl)
  have HC : Hid (∀ V : World, V.heap[D]? = some (.cells #[.int .i64 k, .int .i64 p, .int .i64 n, .int .i64 xn, .int .u64 xa, .int .u64 xb, .int .u64 xc, Pp.tx xt, Pp.tx xu, .int .i64 pc, v] 55) →
      V.cell? ⟨D, 1, none⟩ = some (.int .i64 p) ∧ V.cell? ⟨D, 2, none⟩ = some (.int .i64 n) ∧ V.cell? ⟨D, 3, none⟩ = some (.int .i64 xn) ∧ V.cell? ⟨D, 4, none⟩ = some (.int .u64 xa) ∧ V.cell? ⟨D, 5, none⟩ = some (.int .u64 xb) ∧ V.cell? ⟨D, 6, none⟩ = some (.int .u64 xc) ∧ V.cell? ⟨D, 7, none⟩ = some (Pp.tx xt) ∧ V.cell? ⟨D, 8, none⟩ = some (Pp.tx xu) ∧ V.cell? ⟨D, 9, none⟩ = some (.int .i64 pc) ∧ V.cell? ⟨D, 10, none⟩ = some v) := hC
  clear hC
  obtain ⟨c1, c2, c3, c4, c5, c6, c7, c8, c9, c10⟩ := HC.out _ HX0.out
  go_enter Tryz.func5, Tryz.ntmps5
  go_wp2_with fail
  rw [← Hid.out HW, ← Hid.out HD]
  refine (sig_nil _ _ _ _).mono ?_
  rintro e1 w1 ⟨rfl, hb⟩
  have HX1 : Hid _ := (hb.block _ (lt_of_heap HX0.out)).trans HX0.out
  have HB1 : Hid (Below w.heap.size w w1) := HB0.out.trans (hb.mono HB0.out.size)
  clear c1 c2 c3 c4 c5 c6 c7 c8 c9 c10 hb HW HD
  obtain ⟨c1, c2, c3, c4, c5, c6, c7, c8, c9, c10⟩ := HC.out _ HX1.out
  go_wp2_with fail
  refine (do_nil _ ⟨xn, xa, xb, xc, xt, xu⟩ [] _).mono ?_
  rintro e1 w2 ⟨rfl, hb⟩
  have HX2 : Hid _ := (hb.block _ (lt_of_heap HX1.out)).trans HX1.out
  have HB2 : Hid (Below w.heap.size w w2) := HB1.out.trans (hb.mono HB1.out.size)
  clear c1 c2 c3 c4 c5 c6 c7 c8 c9 c10 hb
  obtain ⟨w3, hw3⟩ : ∃ V, V = w2.alloc (.cells #[.int .i64 0, .int .i64 3, .string ⟨#[]⟩, .int .i64 0, .int .i64 0] 39) := ⟨_, rfl⟩
  have hb3 : Below w2.heap.size w2 w3 := by rw [hw3]; exact below_alloc _ _
  have HX3 : Hid _ := (hb3.block _ (lt_of_heap HX2.out)).trans HX2.out
  have HB3 : Hid (Below w.heap.size w w3) := HB2.out.trans (hb3.mono HB2.out.size)
  obtain ⟨r, hr⟩ : ∃ r, r = w2.heap.size := ⟨_, rfl⟩
  have HR3 : Hid (w3.heap[r]? = some (.cells #[.int .i64 0, .int .i64 3, .string ⟨#[]⟩, .int .i64 0, .int .i64 0] 39)) := by rw [hw3, hr]; exact heap_alloc_new _ _
  have HW3 : Hid (w3 = w2.alloc (.cells #[.int .i64 0, .int .i64 3, .string ⟨#[]⟩, .int .i64 0, .int .i64 0] 39)) := hw3
  have Hr : Hid (r = w2.heap.size) := hr
  clear hw3 hb3 hr
  obtain ⟨c1, c2, c3, c4, c5, c6, c7, c8, c9, c10⟩ := HC.out _ HX2.out
  have heq : ∀ V, (binOp .eql 39 (.agg #[.int .i64 0, .int .i64 3, .string ⟨#[]⟩, .int .i64 0, .int .i64 0]) (.agg #[.int .i64 0, .int .i64 3, .string ⟨#[]⟩, .int .i64 0, .int .i64 0])).run Tryz.prog V = .ok (.bool true) V := fun V => by kernel_rfl
  have hse : ((⟨#[]⟩ : ByteArray) == ⟨#[]⟩) = true := by decide
  go_upto_region 4 with fail
  rw [← Hr.out, ← HW3.out]
  clear c1 c2 c3 c4 c5 c6 c7 c8 c9 c10
  obtain ⟨c1, c2, c3, c4, c5, c6, c7, c8, c9, c10⟩ := HC.out _ HX3.out
  go_wp2_with fail
  refine (kill_nil _ _ _).mono ?_
  rintro e1 v1 ⟨rfl, hw⟩
  rw [hw]
  clear hw v1
  go_wp2_with fail
  refine (saved_nil _ _).mono ?_
  rintro e1 w4 ⟨rfl, hb⟩
  have HX4 : Hid _ := (hb.block _ (lt_of_heap HX3.out)).trans HX3.out
  have HR4 : Hid (w4.heap[r]? = some (.cells #[.int .i64 0, .int .i64 3, .string ⟨#[]⟩, .int .i64 0, .int .i64 0] 39)) := (hb.block _ (lt_of_heap HR3.out)).trans HR3.out
  have HB4 : Hid (Below w.heap.size w w4) := HB3.out.trans (hb.mono HB3.out.size)
  clear c1 c2 c3 c4 c5 c6 c7 c8 c9 c10 hb
  obtain ⟨w5, hw5⟩ : ∃ V, V = w4.alloc (.cells #[.int .i64 0, .slice none 0 0] 53) := ⟨_, rfl⟩
  have hb5 : Below w4.heap.size w4 w5 := by rw [hw5]; exact below_alloc _ _
  have HX5 : Hid _ := (hb5.block _ (lt_of_heap HX4.out)).trans HX4.out
  have HR5 : Hid (w5.heap[r]? = some (.cells #[.int .i64 0, .int .i64 3, .string ⟨#[]⟩, .int .i64 0, .int .i64 0] 39)) := (hb5.block _ (lt_of_heap HR4.out)).trans HR4.out
  have HB5 : Hid (Below w.heap.size w w5) := HB4.out.trans (hb5.mono HB4.out.size)
  have HW5 : Hid (w5 = w4.alloc (.cells #[.int .i64 0, .slice none 0 0] 53)) := hw5
  clear hw5 hb5
  obtain ⟨c1, c2, c3, c4, c5, c6, c7, c8, c9, c10⟩ := HC.out _ HX5.out
  go_upto_region 6 with fail
  rw [← HW5.out]
  have r0 : w5.cell? ⟨r, 0, none⟩ = some (.int .i64 0) := by rw [cell_of_heap HR5.out]; rfl
  have r1 : w5.cell? ⟨r, 1, none⟩ = some (.int .i64 3) := by rw [cell_of_heap HR5.out]; rfl
  have r2 : w5.cell? ⟨r, 2, none⟩ = some (.string ⟨#[]⟩) := by rw [cell_of_heap HR5.out]; rfl
  have r3 : w5.cell? ⟨r, 3, none⟩ = some (.int .i64 0) := by rw [cell_of_heap HR5.out]; rfl
  have r4 : w5.cell? ⟨r, 4, none⟩ = some (.int .i64 0) := by rw [cell_of_heap HR5.out]; rfl
  go_wp2_with fail
  refine (begin_nil _ _).mono ?_
  rintro e1 v1 ⟨rfl, hw⟩
  rw [hw]
  clear hw v1
  go_wp2_with fail
  refine (ulive_nil _ _).mono ?_
  rintro e1 v1 ⟨rfl, hw⟩
  rw [hw]
  clear hw v1
  go_wp2_with fail
  refine (pids_nil _).mono ?_
  rintro e1 v1 ⟨rfl, hw⟩
  rw [hw]
  clear hw v1
  go_wp2_with fail
  refine (encode_nil _).mono ?_
  rintro e1 w6 ⟨rfl, hb⟩
  have HB6 : Hid (Below w.heap.size w w6) := HB5.out.trans (hb.mono HB5.out.size)
  clear c1 c2 c3 c4 c5 c6 c7 c8 c9 c10 r0 r1 r2 r3 r4 hb
  go_wp2_with fail
  refine (awake_at _).mono ?_
  rintro e1 w7 ⟨rfl, hb⟩
  have HB7 : Hid (Below w.heap.size w w7) := HB6.out.trans (hb.mono HB6.out.size)
  clear hb
  go_wp2
  go_ret
  exact ⟨rfl, HB7.out⟩
end Go.Proofs.YtikjfdihocgfpaaGreatDoor
