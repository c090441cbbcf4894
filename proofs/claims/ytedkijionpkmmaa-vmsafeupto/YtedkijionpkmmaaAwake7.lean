/- januslaw07's awake: true in every world. -/
import Derived.Test.YtedkijionpkmmaaVmL
import Derived.Laws.StructEq
namespace Go.Proofs.Ytedkijionpkmmaa
open Go.RowKit
set_option linter.unusedVariables false

theorem run_a : vrun [0, 2, 0, 3, 6, 23, 17] 9 0 [] [] = ⟨5, [5], [], ⟨3, 0, 0, 17⟩, 3⟩ := by kernel_rfl
theorem run_b : vrun [0, 1, 0, 64, 14] 3 0 [] [] = ⟨5, [0], [], actNo, 3⟩ := by kernel_rfl
theorem step_c : vstep [20] 0 [5, 9] = (1, [], ⟨2, 5, 9, 0⟩) := by kernel_rfl
theorem step_d : vstep [3] 0 [] = (0, [], actFault) := by kernel_rfl
theorem one_e : one [23, 17] 0 = (⟨23, 17, 0, 2⟩, 0) := by kernel_rfl
theorem args_e : argsOf 17 = 0 := by kernel_rfl
theorem fine0 : Fine7 99990 0 [] [] := ⟨by omega, by simp, fun x h => by simp at h, fun x h => by simp at h⟩
theorem urd_nil (w : World) : URd w (.slice none 0 0) [] := Or.inl ⟨rfl, rfl⟩
theorem urd_new (w : World) (xs : List Int) : URd (w.alloc (.cells (uvs xs).toArray 25)) (.slice (some ⟨w.heap.size, 0, none⟩) xs.length xs.length) xs :=
  Or.inr (Or.inl ⟨w.heap.size, 0, xs.length, rfl, Nat.le_refl _, fun j x hj => by
    rw [Nat.zero_add, cell_of_heap (heap_alloc_new w _)]
    simp [uvs, hj]⟩)

theorem laidAB {w W : World} {A B : Obj} (hW : W = (w.alloc A).alloc B) : Below w.heap.size w W ∧ W.heap[w.heap.size]? = some A ∧ W.heap[w.heap.size + 1]? = some B ∧ W.heap.size = w.heap.size + 1 + 1 := by
  subst hW
  exact ⟨two_allocs _ _ _, by rw [Below.heap_alloc _ _ _ (by simp), heap_alloc_new], heap_alloc2_new _ _ _, by simp⟩
/-- What awake has in hand. -/
structure AwK (w : World) (b1 b3 b5 b10 b12 b13 : Nat) (s1 s2 s3 : Value) : Prop where
  h1 : w.heap[b1]? = some (.cells #[.int .i64 5, s1] 24)
  h3 : w.heap[b3]? = some (.cells (actRow ⟨3, 0, 0, 17⟩) 30)
  h5 : w.heap[b5]? = some (.cells #[.int .i64 5, s2] 24)
  h10 : w.heap[b10]? = some (.cells (actRow ⟨2, 5, 9, 0⟩) 30)
  h12 : w.heap[b12]? = some (.cells (actRow actFault) 30)
  h13 : w.heap[b13]? = some (.cells #[.int .i64 2, s3] 24)
  u1 : URd w s1 [5]
  u2 : URd w s2 [0]
  u3 : URd w s3 [7]
theorem AwK.below {w w' : World} {b1 b3 b5 b10 b12 b13 : Nat} {s1 s2 s3 : Value} (h : AwK w b1 b3 b5 b10 b12 b13 s1 s2 s3) (k : Below w.heap.size w w') : AwK w' b1 b3 b5 b10 b12 b13 s1 s2 s3 :=
  ⟨(k.block _ (lt_of_heap h.h1)).trans h.h1, (k.block _ (lt_of_heap h.h3)).trans h.h3, (k.block _ (lt_of_heap h.h5)).trans h.h5, (k.block _ (lt_of_heap h.h10)).trans h.h10, (k.block _ (lt_of_heap h.h12)).trans h.h12, (k.block _ (lt_of_heap h.h13)).trans h.h13, h.u1.below k, h.u2.below k, h.u3.below k⟩

set_option maxHeartbeats 2000000 in
theorem awake_at (w : World) : Calls Try.prog 8 #[] w fun e w' => e = .returned (.bool true) ∧ Below w.heap.size w w' := by
  have hrun1 := fun (v : World) => run_at [0, 2, 0, 3, 6, 23, 17] (by simp) 0 (.slice none 0 0) [] (.slice none 0 0) [] 9 v (urd_nil v) (urd_nil v) fine0 (by simp) (by omega)
  have hrun2 := fun (v : World) => run_at [0, 1, 0, 64, 14] (by simp) 0 (.slice none 0 0) [] (.slice none 0 0) [] 3 v (urd_nil v) (urd_nil v) fine0 (by simp) (by omega)
  have hstep3 := fun (v : World) => stepc_at [20] (by simp) 0 _ [5, 9] (v.alloc (.cells (uvs [9, 5]).toArray 25)) (urd_new v [9, 5]) ⟨by omega, by simp, fun x h => by unfold Wd; simp at h; omega, fun x h => by simp at h⟩
  have hstep4 := fun (v : World) => stepc_at [3] (by simp) 0 (.slice none 0 0) [] v (urd_nil v) fine0
  have hdone := fun (v : World) => done_at [23, 17] (by simp) 0 (by omega) (.slice none 0 0) [] 7 v (urd_nil v) (by simp) (by rw [one_e]) (by rw [one_e]) (by rw [one_e]; decide) (by rw [one_e]; decide)
  have e9 : (9 : Int).toNat = 9 := rfl
  have e3 : (3 : Int).toNat = 3 := rfl
  rw [e9, run_a] at hrun1
  rw [e3, run_b] at hrun2
  rw [step_c] at hstep3
  rw [step_d] at hstep4
  rw [one_e] at hdone
  simp only [Int.zero_add] at hdone
  clear e9 e3
  go_enter Try.func8, Try.ntmps8
  go_wp2_with fail
  refine (hrun1 _).mono ?_
  rintro e w1 ⟨⟨s1, m1, rfl, ho1, _⟩, hb1⟩
  obtain ⟨a1, k1, c1, rfl⟩ := own_slice ho1
  have HU1 : Hid (URd w1 (.slice a1 k1 c1) [5]) := URd.of_own ho1
  clear ho1
  dsimp only [actRow]
  go_wp2_with fail
  obtain ⟨V1, hV1⟩ : ∃ V, V = (w1.alloc (.cells #[.int .i64 5, .slice a1 k1 c1] 24)).alloc (.cells #[.int .i64 3, .int .u64 0, .int .u64 0, .int .i64 17] 30) := ⟨_, rfl⟩
  rw [← hV1]
  obtain ⟨p1, q1, r1, z1⟩ := laidAB hV1
  have HB1 : Hid (Below w1.heap.size w1 V1) := p1
  have HV1 : Hid (V1.heap[w1.heap.size]? = some (.cells #[.int .i64 5, .slice a1 k1 c1] 24)) := q1
  have HA1 : Hid (V1.heap[w1.heap.size + 1]? = some (.cells (actRow ⟨3, 0, 0, 17⟩) 30)) := r1
  clear hV1 p1 q1 r1 z1
  refine (hrun2 _).mono ?_
  rintro e w2 ⟨⟨s2, m2, rfl, ho2, _⟩, hb2⟩
  obtain ⟨a2, k2, c2, rfl⟩ := own_slice ho2
  have HU2 : Hid (URd w2 (.slice a2 k2 c2) [0]) := URd.of_own ho2
  have HB2 : Hid (Below V1.heap.size V1 w2) := hb2
  clear ho2 hb2
  dsimp only [actRow, actNo]
  go_wp2_with fail
  obtain ⟨V2, hV2⟩ : ∃ V, V = (w2.alloc (.cells #[.int .i64 5, .slice a2 k2 c2] 24)).alloc (.cells #[.int .i64 0, .int .u64 0, .int .u64 0, .int .i64 0] 30) := ⟨_, rfl⟩
  rw [← hV2]
  obtain ⟨p1, q1, r1, z1⟩ := laidAB hV2
  have HB2b : Hid (Below w2.heap.size w2 V2) := p1
  have HV2 : Hid (V2.heap[w2.heap.size]? = some (.cells #[.int .i64 5, .slice a2 k2 c2] 24)) := q1
  have hs3 := hstep3 V2
  have hs3b : Hid (Below V2.heap.size V2 (V2.alloc (.cells (uvs [9, 5]).toArray 25))) := below_alloc _ _
  rw [z1] at hs3
  clear hV2 p1 q1 r1 z1 hstep3
  refine hs3.mono ?_
  clear hs3
  rintro e w3 ⟨⟨s3, rfl, ho3⟩, hb3⟩
  obtain ⟨a3, k3, c3, rfl⟩ := own_slice ho3
  have HB3 : Hid (Below V2.heap.size V2 w3) := hs3b.out.trans (hb3.mono hs3b.out.size)
  clear ho3 hb3
  dsimp only [actRow]
  go_wp2_with fail
  obtain ⟨V3, hV3⟩ : ∃ V, V = (w3.alloc (.cells #[.int .i64 1, .slice a3 k3 c3] 24)).alloc (.cells #[.int .i64 2, .int .u64 5, .int .u64 9, .int .i64 0] 30) := ⟨_, rfl⟩
  rw [← hV3]
  obtain ⟨p1, q1, r1, z1⟩ := laidAB hV3
  have HB3b : Hid (Below w3.heap.size w3 V3) := p1
  have HA3 : Hid (V3.heap[w3.heap.size + 1]? = some (.cells (actRow ⟨2, 5, 9, 0⟩) 30)) := r1
  clear hV3 p1 q1 r1 z1
  refine (hstep4 _).mono ?_
  rintro e w4 ⟨⟨s4, rfl, ho4⟩, hb4⟩
  obtain ⟨a4, k4, c4, rfl⟩ := own_slice ho4
  have HB4 : Hid (Below V3.heap.size V3 w4) := hb4
  clear ho4 hb4
  dsimp only [actRow, actFault]
  go_wp2_with fail
  obtain ⟨V4, hV4⟩ : ∃ V, V = (w4.alloc (.cells #[.int .i64 0, .slice a4 k4 c4] 24)).alloc (.cells #[.int .i64 4, .int .u64 0, .int .u64 0, .int .i64 0] 30) := ⟨_, rfl⟩
  rw [← hV4]
  obtain ⟨p1, q1, r1, z1⟩ := laidAB hV4
  have HB4b : Hid (Below w4.heap.size w4 V4) := p1
  have HA4 : Hid (V4.heap[w4.heap.size + 1]? = some (.cells (actRow actFault) 30)) := r1
  clear hV4 p1 q1 r1 z1
  refine (hdone _).mono ?_
  rintro e w5 ⟨s5, rfl, ho5, hb5⟩
  obtain ⟨a5, k5, c5, rfl⟩ := own_slice ho5
  have HU5 : Hid (URd w5 (.slice a5 k5 c5) [7]) := by
    have h := ho5
    rw [args_e] at h
    exact URd.of_own h
  have HB5 : Hid (Below V4.heap.size V4 w5) := hb5
  clear ho5 hb5
  have f1 : Below w1.heap.size w1 w2 := HB1.out.trans (HB2.out.mono HB1.out.size)
  have f2 : Below w2.heap.size w2 w3 := HB2b.out.trans (HB3.out.mono HB2b.out.size)
  have f3 : Below w3.heap.size w3 w4 := HB3b.out.trans (HB4.out.mono HB3b.out.size)
  have f4 : Below w4.heap.size w4 w5 := HB4b.out.trans (HB5.out.mono HB4b.out.size)
  have f35 : Below w3.heap.size w3 w5 := f3.trans (f4.mono f3.size)
  have f25 : Below w2.heap.size w2 w5 := f2.trans (f35.mono f2.size)
  have f15 : Below w1.heap.size w1 w5 := f1.trans (f25.mono f1.size)
  have fV1 : Below V1.heap.size V1 w5 := HB2.out.trans (f25.mono HB2.out.size)
  have fV2 : Below V2.heap.size V2 w5 := HB3.out.trans (f35.mono HB3.out.size)
  have fV3 : Below V3.heap.size V3 w5 := HB4.out.trans (f4.mono HB4.out.size)
  have HW : Hid (Below w.heap.size w w5) := hb1.trans (f15.mono hb1.size)
  obtain ⟨W, hW⟩ : ∃ W, W = w5.alloc (.cells #[.int .i64 2, .slice a5 k5 c5] 24) := ⟨_, rfl⟩
  have HK : Hid (AwK W w1.heap.size (w1.heap.size + 1) w2.heap.size (w3.heap.size + 1) (w4.heap.size + 1) w5.heap.size (.slice a1 k1 c1) (.slice a2 k2 c2) (.slice a5 k5 c5)) := by
    have hb : Below w5.heap.size w5 W := by rw [hW]; exact below_alloc _ _
    have g1 : Below V1.heap.size V1 W := fV1.trans (hb.mono fV1.size)
    have g2 : Below V2.heap.size V2 W := fV2.trans (hb.mono fV2.size)
    have g3 : Below V3.heap.size V3 W := fV3.trans (hb.mono fV3.size)
    have g4 : Below V4.heap.size V4 W := HB5.out.trans (hb.mono HB5.out.size)
    exact ⟨(g1.block _ (lt_of_heap HV1.out)).trans HV1.out, (g1.block _ (lt_of_heap HA1.out)).trans HA1.out, (g2.block _ (lt_of_heap HV2.out)).trans HV2.out, (g3.block _ (lt_of_heap HA3.out)).trans HA3.out, (g4.block _ (lt_of_heap HA4.out)).trans HA4.out, by rw [hW]; exact heap_alloc_new _ _, URd.below (URd.below HU1.out f15) hb, URd.below (URd.below HU2.out f25) hb, URd.below HU5.out hb⟩
  have HWW : Hid (Below w.heap.size w W) := by rw [hW]; exact HW.out.trans ((below_alloc _ _).mono HW.out.size)
  have hzW : W.heap.size = w5.heap.size + 1 := by rw [hW]; simp
  have x1 : w5.cell? ⟨w1.heap.size, 1, none⟩ = some (.slice a1 k1 c1) := by rw [cell_of_heap ((fV1.block _ (lt_of_heap HV1.out)).trans HV1.out)]; rfl
  have xlt := cell_lt x1
  clear f1 f2 f3 f4 f35 f25 f15 fV1 fV2 fV3 HW HB1 HV1 HA1 HB2 HB2b HV2 hs3b HB3 HB3b HA3 HB4 HB4b HA4 HB5 HU1 HU2 HU5 hb1 hrun1 hrun2 hstep4 hdone
  generalize w1.heap.size = b1 at *
  generalize w2.heap.size = b5 at *
  generalize w3.heap.size = b9 at *
  generalize w4.heap.size = b11 at *
  have HZ : Hid _ := hzW
  clear hzW
  go_wp2_with fail
  rw [← hW]
  clear hW x1 xlt
  have hws1 := words_same [5] (.slice a1 k1 c1) _ (W.alloc (.cells (uvs [5]).toArray 25)) (URd.below HK.out.u1 (below_alloc _ _)) (urd_new W [5]) (by simp)
  rw [HZ.out] at hws1
  generalize w5.heap.size = b13 at *
  refine hws1.mono ?_
  clear hws1
  rintro e w6 ⟨rfl, hb6⟩
  have hB6 : Below W.heap.size W w6 := (below_alloc _ _).trans (hb6.mono (below_alloc _ _).size)
  have HK6 : Hid (AwK w6 _ _ _ _ _ _ _ _ _) := HK.out.below hB6
  have HW6 : Hid (Below w.heap.size w w6) := HWW.out.trans (hB6.mono HWW.out.size)
  have v0 : w6.cell? ⟨b1, 0, none⟩ = some (.int .i64 5) := by rw [cell_of_heap HK6.out.h1]; rfl
  obtain ⟨⟨x0, x1, x2, x3⟩, _⟩ := cells4 HK6.out.h3
  have y1 : w6.cell? ⟨b5, 1, none⟩ = some (.slice a2 k2 c2) := by rw [cell_of_heap HK6.out.h5]; rfl
  clear hB6 hb6
  go_wp2_with fail
  have hws2 := words_same [0] (.slice a2 k2 c2) _ (w6.alloc (.cells (uvs [0]).toArray 25)) (URd.below HK6.out.u2 (below_alloc _ _)) (urd_new w6 [0]) (by simp)
  refine hws2.mono ?_
  clear hws2 v0 x0 x1 x2 x3 y1
  rintro e w7 ⟨rfl, hb7⟩
  have hB7 : Below w6.heap.size w6 w7 := (below_alloc _ _).trans (hb7.mono (below_alloc _ _).size)
  have HK7 : Hid (AwK w7 _ _ _ _ _ _ _ _ _) := HK6.out.below hB7
  have HW7 : Hid (Below w.heap.size w w7) := HW6.out.trans (hB7.mono HW6.out.size)
  obtain ⟨⟨x0, x1, x2, x3⟩, _⟩ := cells4 HK7.out.h10
  obtain ⟨⟨y0, y1, y2, y3⟩, _⟩ := cells4 HK7.out.h12
  have z0 : w7.cell? ⟨b13, 0, none⟩ = some (.int .i64 2) := by rw [cell_of_heap HK7.out.h13]; rfl
  have z1 : w7.cell? ⟨b13, 1, none⟩ = some (.slice a5 k5 c5) := by rw [cell_of_heap HK7.out.h13]; rfl
  clear hB7 hb7
  have heq : ∀ w : World, (binOp BinOp.eql 30 (.agg #[.int .i64 2, .int .u64 5, .int .u64 9, .int .i64 0]) (.agg #[.int .i64 2, .int .u64 5, .int .u64 9, .int .i64 0])).run Try.prog w = .ok (.bool true) w := fun w => by go_simp
  dsimp only [actFault] at *
  go_wp2_with fail
  have hws3 := words_same [7] (.slice a5 k5 c5) _ (w7.alloc (.cells (uvs [7]).toArray 25)) (URd.below HK7.out.u3 (below_alloc _ _)) (urd_new w7 [7]) (by simp)
  refine hws3.mono ?_
  clear hws3 x0 x1 x2 x3 y0 y1 y2 y3 z0 z1
  rintro e w8 ⟨rfl, hb8⟩
  have HW8 : Hid (Below w.heap.size w w8) := HW7.out.trans (((below_alloc _ _).trans (hb8.mono (below_alloc _ _).size)).mono HW7.out.size)
  clear hb8
  go_wp2
  go_ret
  exact ⟨rfl, HW8.out⟩
end Go.Proofs.Ytedkijionpkmmaa
