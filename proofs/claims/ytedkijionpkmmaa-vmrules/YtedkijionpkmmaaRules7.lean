/- januslaw07.VmRules: what was added is taken away again; a number by another one, times that, and the rest are the number; twice not is whether it is not 0. For every input. -/
import Derived.Test.YtedkijionpkmmaaAwake7
import Derived.BigQuiet
namespace Go.Proofs.Ytedkijionpkmmaa
open Go.RowKit
set_option linter.unusedVariables false

theorem rules_a (a b : Int) : vrun [5, 6, 4, 7] 4 0 [a, b] [] = ⟨4, [IntKind.u64.wrap (IntKind.u64.wrap (a + b) - b)], [], actNo, 4⟩ := by kernel_rfl
theorem rules_b (a b : Int) (h : b ≠ 0) : vrun [9] 1 0 [b, a] [] = ⟨1, [a / b], [], actNo, 1⟩ := by
  have ho : one [9] 0 = (⟨9, 0, 0, 1⟩, 0) := by kernel_rfl
  have hc : canDo ⟨9, 0, 0, 1⟩ [b, a] = true := by simp [canDo, movesOf, h]
  have hv : vstep [9] 0 [b, a] = (1, [a / b], actNo) := by
    rw [vstep_yes (by rw [ho]) (by rw [ho]; exact hc), ho]
    rfl
  have hn : von [9] 0 [b, a] [] = (1, [a / b], [], actNo) := by
    unfold von
    rw [hv]
    rfl
  rw [vrun_go (by rw [hn]; rfl), hn]
  rfl
theorem rules_b0 (a : Int) : vrun [9] 1 0 [0, a] [] = ⟨0, [0, a], [], actFault, 0⟩ := by kernel_rfl
theorem rules_c (a b : Int) (h : b ≠ 0) : vrun [10] 1 0 [b, a] [] = ⟨1, [a % b], [], actNo, 1⟩ := by
  have ho : one [10] 0 = (⟨10, 0, 0, 1⟩, 0) := by kernel_rfl
  have hc : canDo ⟨10, 0, 0, 1⟩ [b, a] = true := by simp [canDo, movesOf, h]
  have hv : vstep [10] 0 [b, a] = (1, [a % b], actNo) := by
    rw [vstep_yes (by rw [ho]) (by rw [ho]; exact hc), ho]
    rfl
  have hn : von [10] 0 [b, a] [] = (1, [a % b], [], actNo) := by
    unfold von
    rw [hv]
    rfl
  rw [vrun_go (by rw [hn]; rfl), hn]
  rfl
theorem rules_c0 (a : Int) : vrun [10] 1 0 [0, a] [] = ⟨0, [0, a], [], actFault, 0⟩ := by kernel_rfl
theorem rules_d (a : Int) : vrun [18, 18] 2 0 [a] [] = ⟨2, [if (if a = 0 then (1 : Int) else 0) = 0 then 1 else 0], [], actNo, 2⟩ := by kernel_rfl
theorem rules_e (a b : Int) : vrun [13, 13] 1 0 [b, b, a] [] = ⟨1, [bits .xor .u64 b b, a], [], actNo, 1⟩ := by kernel_rfl
theorem back_sub (a b : Int) (ha : Wd a) (hb : Wd b) : IntKind.u64.wrap (IntKind.u64.wrap (a + b) - b) = a := by
  rw [IntKind.wrap_u64, IntKind.wrap_u64]
  obtain ⟨h1, h2⟩ := ha
  obtain ⟨h3, h4⟩ := hb
  omega
theorem back_div (a b : Int) (ha : Wd a) (hb : Wd b) (h : b ≠ 0) : IntKind.u64.wrap (IntKind.u64.wrap (a / b * b) + a % b) = a ∧ a % b < b := by
  have h1 : a / b * b + a % b = a := by have := Int.mul_ediv_add_emod a b; rw [Int.mul_comm] at this; exact this
  obtain ⟨ha1, ha2⟩ := ha
  obtain ⟨hb1, hb2⟩ := hb
  have h2 := Int.emod_nonneg a h
  have h3 := Int.emod_lt_of_pos a (show 0 < b by omega)
  have h4 : 0 ≤ a / b * b := Int.mul_nonneg (Int.ediv_nonneg ha1 hb1) hb1
  generalize a / b * b = q at *
  generalize a % b = r at *
  rw [IntKind.wrap_u64, IntKind.wrap_u64]
  omega
theorem xor_self (b : Int) (hb : Wd b) : bits .xor .u64 b b = 0 := by
  obtain ⟨n, rfl⟩ : ∃ n : Nat, b = n := ⟨b.toNat, by have := hb.1; omega⟩
  have h1 : n < 18446744073709551616 := by have := hb.2; omega
  rw [bits_xor_u64_nat n n h1 h1]
  simp

theorem own_pos {w : World} {M : Nat} {v : Value} {n : Nat} {xs : List Int} (h : w.ownsRow M 25 1 v n (uvs xs)) (hn : 0 < n) : ∃ g cap, v = .slice (some ⟨g, 0, none⟩) n cap ∧ n ≤ cap ∧ ∀ (j : Nat) (x : Int), xs[j]? = some x → w.cell? ⟨g, j, none⟩ = some (.int .u64 x) := by
  rcases h.2 with ⟨e2, e3⟩ | ⟨g, cap, cur, e2, hb, hh, h1, h2, h3, h4⟩
  · omega
  · refine ⟨g, cap, e2, h1, fun j x hj => ?_⟩
    have := h.cells (g := g) (by rw [e2]; rfl) j (.int .u64 x) (by simp [uvs, hj])
    rwa [add0, Nat.zero_add] at this

/-- A machine and an act in two blocks, one behind the other. -/
structure MA (w : World) (b : Nat) (pc : Int) (g n cap : Nat) (xs : List Int) (act : Act4) : Prop where
  m : w.heap[b]? = some (.cells #[.int .i64 pc, .slice (some ⟨g, 0, none⟩) n cap] 24)
  a : w.heap[b + 1]? = some (.cells (actRow act) 30)
  c : ∀ (j : Nat) (x : Int), xs[j]? = some x → w.cell? ⟨g, j, none⟩ = some (.int .u64 x)
  le : n ≤ cap
theorem MA.below {w w' : World} {b : Nat} {pc : Int} {g n cap : Nat} {xs : List Int} {act : Act4} (h : MA w b pc g n cap xs act) (k : Below w.heap.size w w') : MA w' b pc g n cap xs act :=
  ⟨(k.block _ (lt_of_heap h.m)).trans h.m, (k.block _ (lt_of_heap h.a)).trans h.a, fun j x hj => (k.cell (cell_lt (h.c j x hj))).trans (h.c j x hj), h.le⟩
theorem MA.lay {w w' : World} {pc : Int} {g n cap : Nat} {xs : List Int} {act : Act4} (hc : ∀ (j : Nat) (x : Int), xs[j]? = some x → w.cell? ⟨g, j, none⟩ = some (.int .u64 x)) (hle : n ≤ cap)
    (hw : w' = (w.alloc (.cells #[.int .i64 pc, .slice (some ⟨g, 0, none⟩) n cap] 24)).alloc (.cells (actRow act) 30)) : MA w' w.heap.size pc g n cap xs act ∧ Below w.heap.size w w' := by
  obtain ⟨p1, q1, r1, _⟩ := laidAB hw
  exact ⟨⟨q1, r1, fun j x hj => (p1.cell (cell_lt (hc j x hj))).trans (hc j x hj), hle⟩, p1⟩
theorem MA.v {w : World} {b : Nat} {pc : Int} {g n cap : Nat} {xs : List Int} {act : Act4} (h : MA w b pc g n cap xs act) : w.cell? ⟨b, 1, none⟩ = some (.slice (some ⟨g, 0, none⟩) n cap) := by rw [cell_of_heap h.m]; rfl
theorem MA.k {w : World} {b : Nat} {pc : Int} {g n cap : Nat} {xs : List Int} {act : Act4} (h : MA w b pc g n cap xs act) : w.cell? ⟨b + 1, 0, none⟩ = some (.int .i64 act.kind) := by rw [cell_of_heap h.a]; rfl

/-- Run on a stack that was just made, without a memory: the machine and the act that it hands over. -/
theorem run_new (s : List UInt8) (hs : s.length ≤ 1000000000) (st : List Int) (hst : Wds st) (hl : st.length ≤ 100) (fuel : Nat) (hf : fuel ≤ 1000) (R : Ran) (hR : vrun s fuel 0 st [] = R) (hp : 0 < R.st.length) (v : World) :
    Calls Try.prog 21 #[tx s, .agg #[.int .i64 0, .slice (some ⟨v.heap.size, 0, none⟩) st.reverse.length st.reverse.length], .slice none 0 0, .int .i64 fuel] (v.alloc (.cells (uvs st.reverse).toArray 25)) fun e w' =>
      ∃ g cap mv, e = .returned (.tuple #[.agg #[.int .i64 R.pc, .slice (some ⟨g, 0, none⟩) R.st.length cap], mv, .agg (actRow R.act), .int .i64 R.n]) ∧ R.st.length ≤ cap ∧ (∀ (j : Nat) (x : Int), R.st.reverse[j]? = some x → w'.cell? ⟨g, j, none⟩ = some (.int .u64 x)) ∧ Below v.heap.size v w' := by
  refine (run_at s hs 0 _ st (.slice none 0 0) [] fuel _ (urd_new v st.reverse) (urd_nil _) ⟨by omega, by omega, hst, fun x h => by simp at h⟩ (by simp) (by omega)).mono ?_
  rw [Int.toNat_natCast, hR]
  rintro e w' ⟨⟨sv, mv, rfl, ho, _⟩, hb⟩
  obtain ⟨g, cap, rfl, hle, hc⟩ := own_pos ho hp
  exact ⟨g, cap, mv, rfl, hle, hc, (below_alloc _ _).trans (hb.mono (below_alloc _ _).size)⟩

set_option maxHeartbeats 4000000 in
theorem rules_yes (a b : Int) (ha : Wd a) (hb : Wd b) (h : b ≠ 0) (w : World) :
    Calls Try.prog 6 #[.int .u64 a, .int .u64 b] w fun e w' => e = .returned (.bool true) ∧ Below w.heap.size w w' := by
  have h0 : Wd 0 := by unfold Wd; omega
  have r1 := run_new [5, 6, 4, 7] (by simp) [a, b] (fun x h => by simp at h; rcases h with rfl | rfl <;> assumption) (by simp) 4 (by omega) _ (rules_a a b) (by simp)
  have r2 := run_new [9] (by simp) [b, a] (fun x h => by simp at h; rcases h with rfl | rfl <;> assumption) (by simp) 1 (by omega) _ (rules_b a b h) (by simp)
  have r3 := run_new [10] (by simp) [b, a] (fun x h => by simp at h; rcases h with rfl | rfl <;> assumption) (by simp) 1 (by omega) _ (rules_c a b h) (by simp)
  have r4 := run_new [18, 18] (by simp) [a] (fun x h => by simp at h; subst h; assumption) (by simp) 2 (by omega) _ (rules_d a) (by simp)
  have r5 := run_new [13, 13] (by simp) [b, b, a] (fun x h => by simp at h; rcases h with rfl | rfl <;> assumption) (by simp) 1 (by omega) _ (rules_e a b) (by simp)
  rw [back_sub a b ha hb] at r1
  rw [xor_self b hb] at r5
  obtain ⟨nn, hnn⟩ : ∃ nn : Int, (if (if a = 0 then (1 : Int) else 0) = 0 then (1 : Int) else 0) = nn := ⟨_, rfl⟩
  rw [hnn] at r4
  have HNN : Hid _ := hnn
  clear hnn
  dsimp only [actRow, actNo, actFault] at r1 r2 r3 r4 r5
  obtain ⟨hbk, hbl⟩ := back_div a b ha hb h
  have hdq := wd_div a b ha hb.1
  have hmq := wd_mod a b ha hb
  generalize hqe : a / b = q at *
  generalize hre : a % b = r at *
  have HBK : Hid _ := hbk
  clear hbk hqe hre
  obtain ⟨hb1', hb2'⟩ := hb
  obtain ⟨ha1', ha2'⟩ := ha
  obtain ⟨hq1, hq2⟩ := hdq
  obtain ⟨hm1, hm2⟩ := hmq
  have hb0 : (b == 0) = false := by simpa using h
  have hb1 : (b != 0) = true := by simpa using h
  set_option maxRecDepth 20000 in
  go_enter Try.func6, Try.ntmps6
  go_wp2_with fail
  refine (r1 w).mono ?_
  clear r1
  rintro e w1 ⟨g1, p1, m1, rfl, hle1, hc1, hb1⟩
  have c1 := hc1 0 a rfl
  have l1 := cell_lt c1
  clear hc1
  go_wp2_with fail
  obtain ⟨V1, hV1⟩ : ∃ V, V = (w1.alloc (.cells #[.int .i64 4, .slice (some ⟨g1, 0, none⟩) 1 p1] 24)).alloc (.cells #[.int .i64 0, .int .u64 0, .int .u64 0, .int .i64 0] 30) := ⟨_, rfl⟩
  rw [← hV1]
  obtain ⟨x1, _, _, z1⟩ := laidAB hV1
  have HB1 : Hid (Below w.heap.size w V1) := hb1.trans (x1.mono hb1.size)
  have q2 := r2 V1
  rw [z1] at q2
  have HZ1 : Hid _ := z1
  clear hV1 x1 z1 c1 l1 hle1 r2 hb1
  refine q2.mono ?_
  clear q2
  rintro e w2 ⟨g2, p2, m2, rfl, hle2, hc2, hb2⟩
  rw [← HZ1.out] at hb2
  have HB2 : Hid (Below w.heap.size w w2) := HB1.out.trans (hb2.mono HB1.out.size)
  have HC2 : Hid _ := hc2
  clear hc2 hb2
  go_wp2_with fail
  obtain ⟨V2, hV2⟩ : ∃ V, V = (w2.alloc (.cells #[.int .i64 1, .slice (some ⟨g2, 0, none⟩) 1 p2] 24)).alloc (.cells #[.int .i64 0, .int .u64 0, .int .u64 0, .int .i64 0] 30) := ⟨_, rfl⟩
  rw [← hV2]
  have z2 := (laidAB hV2).2.2.2
  obtain ⟨hM2, x2⟩ := MA.lay (act := actNo) HC2.out hle2 hV2
  have HM2 : Hid (MA V2 w2.heap.size 1 g2 1 p2 ([q]).reverse actNo) := hM2
  have HB2b : Hid (Below w.heap.size w V2) := HB2.out.trans (x2.mono HB2.out.size)
  have q3 := r3 V2
  rw [z2] at q3
  have HZ2 : Hid _ := z2
  clear hV2 z2 hM2 x2 r3 HC2 hle2
  refine q3.mono ?_
  clear q3
  rintro e w3 ⟨g3, p3, m3, rfl, hle3, hc3, hb3⟩
  rw [← HZ2.out] at hb3
  have HM3 : Hid (MA w3 w2.heap.size 1 g2 1 p2 ([q]).reverse actNo) := MA.below HM2.out hb3
  have HB3 : Hid (Below w.heap.size w w3) := HB2b.out.trans (hb3.mono HB2b.out.size)
  generalize w2.heap.size = b2 at *
  have k2 := HM3.out.k
  have l2 : b2 + 1 < w3.heap.size := cell_lt k2
  have l2b : b2 < w3.heap.size := by omega
  have HC3 : Hid _ := hc3
  clear hc3 hb3 HM2
  dsimp only [actNo, actFault] at k2
  go_wp2_with fail
  obtain ⟨V3, hV3⟩ : ∃ V, V = (w3.alloc (.cells #[.int .i64 1, .slice (some ⟨g3, 0, none⟩) 1 p3] 24)).alloc (.cells #[.int .i64 0, .int .u64 0, .int .u64 0, .int .i64 0] 30) := ⟨_, rfl⟩
  rw [← hV3]
  obtain ⟨hM4, x3⟩ := MA.lay (act := actNo) HC3.out hle3 hV3
  have HM4 : Hid (MA V3 w3.heap.size 1 g3 1 p3 ([r]).reverse actNo) := hM4
  have HM5 : Hid (MA V3 b2 1 g2 1 p2 ([q]).reverse actNo) := MA.below HM3.out x3
  have HB4 : Hid (Below w.heap.size w V3) := HB3.out.trans (x3.mono HB3.out.size)
  clear hV3 hM4 x3 HC3 hle3 k2 l2 l2b
  generalize w3.heap.size = b3 at *
  have t1 := HM5.out.v
  have t2 := HM4.out.v
  have t3 := HM5.out.c 0 q rfl
  have t4 := HM4.out.c 0 r rfl
  have t5 : 1 ≤ p2 := HM5.out.le
  have t6 : 1 ≤ p3 := HM4.out.le
  have hge : decide (b ≤ r) = false := decide_eq_false (by omega)
  have hk := HBK.out
  have hbk1 : (IntKind.u64.wrap (IntKind.u64.wrap (q * b) + r) != a) = false := by simp [hk]
  clear hk
  go_quiet (fail)
  obtain ⟨V4, hV4⟩ : ∃ V, V = V3.drewN nq := ⟨_, rfl⟩
  rw [← hV4]
  have HB5 : Hid (Below w.heap.size w V4) := by rw [hV4]; exact below_drewN HB4.out nq
  clear hV4 t1 t2 t3 t4 t5 t6 hge hbk1 HM4 HM5 HM3
  go_wp2_with fail
  refine (r4 V4).mono ?_
  clear r4
  rintro e w4 ⟨g4, p4, m4, rfl, hle4, hc4, hb4⟩
  have HB6 : Hid (Below w.heap.size w w4) := HB5.out.trans (hb4.mono HB5.out.size)
  have HC4 : Hid _ := hc4
  clear hc4 hb4
  go_wp2_with fail
  obtain ⟨V5, hV5⟩ : ∃ V, V = (w4.alloc (.cells #[.int .i64 2, .slice (some ⟨g4, 0, none⟩) 1 p4] 24)).alloc (.cells #[.int .i64 0, .int .u64 0, .int .u64 0, .int .i64 0] 30) := ⟨_, rfl⟩
  rw [← hV5]
  have z5 := (laidAB hV5).2.2.2
  obtain ⟨hM6, x5⟩ := MA.lay (act := actNo) HC4.out hle4 hV5
  have HM6 : Hid (MA V5 w4.heap.size 2 g4 1 p4 [nn].reverse actNo) := hM6
  have HB7 : Hid (Below w.heap.size w V5) := HB6.out.trans (x5.mono HB6.out.size)
  have q5 := r5 V5
  rw [z5] at q5
  have HZ5 : Hid _ := z5
  clear hV5 z5 hM6 x5 r5 HC4 hle4
  refine q5.mono ?_
  clear q5
  rintro e w5 ⟨g5, p5, m5, rfl, hle5, hc5, hb5⟩
  rw [← HZ5.out] at hb5
  have HM7 : Hid (MA w5 w4.heap.size 2 g4 1 p4 [nn].reverse actNo) := MA.below HM6.out hb5
  have HB8 : Hid (Below w.heap.size w w5) := HB7.out.trans (hb5.mono HB7.out.size)
  generalize w4.heap.size = b4 at *
  have t1 := HM7.out.v
  have t2 := HM7.out.c 0 nn rfl
  have t3 : 1 ≤ p4 := HM7.out.le
  have t4 := hc5 1 0 rfl
  have u1 : b4 < w5.heap.size := cell_lt t1
  have u2 : g4 < w5.heap.size := cell_lt t2
  have u3 : g5 < w5.heap.size := cell_lt t4
  have u4 : 2 ≤ p5 := hle5
  clear hc5 hb5 HM6
  by_cases hz : a = 0
  · have hnn : nn = 0 := by rw [← HNN.out, hz]; rfl
    subst hnn
    have hz1 : (a == 0) = true := by simp [hz]
    have hz2 : (a != 0) = false := by simp [hz]
    clear hz
    go_wp2_with fail
    refine (awake_at _).mono ?_
    rintro e w6 ⟨rfl, hb6⟩
    have HB9 : Hid (Below w.heap.size w w6) := (HB8.out.trans ((two_allocs _ _ _).mono HB8.out.size)).trans (hb6.mono (Nat.le_trans HB8.out.size (two_allocs _ _ _).size))
    go_wp2
    go_ret
    exact ⟨rfl, HB9.out⟩
  · have hnn : nn = 1 := by rw [← HNN.out, if_neg hz]; rfl
    subst hnn
    have hz1 : (a == 0) = false := by simpa using hz
    have hz2 : (a != 0) = true := by simpa using hz
    clear hz
    go_wp2_with fail
    refine (awake_at _).mono ?_
    rintro e w6 ⟨rfl, hb6⟩
    have HB9 : Hid (Below w.heap.size w w6) := (HB8.out.trans ((two_allocs _ _ _).mono HB8.out.size)).trans (hb6.mono (Nat.le_trans HB8.out.size (two_allocs _ _ _).size))
    go_wp2
    go_ret
    exact ⟨rfl, HB9.out⟩
set_option maxHeartbeats 4000000 in
theorem rules_no (a : Int) (ha : Wd a) (w : World) :
    Calls Try.prog 6 #[.int .u64 a, .int .u64 0] w fun e w' => e = .returned (.bool true) ∧ Below w.heap.size w w' := by
  have h0 : Wd 0 := by unfold Wd; omega
  have r1 := run_new [5, 6, 4, 7] (by simp) [a, 0] (fun x h => by simp at h; rcases h with rfl | rfl <;> assumption) (by simp) 4 (by omega) _ (rules_a a 0) (by simp)
  have r2 := run_new [9] (by simp) [0, a] (fun x h => by simp at h; rcases h with rfl | rfl <;> assumption) (by simp) 1 (by omega) _ (rules_b0 a) (by simp)
  have r3 := run_new [10] (by simp) [0, a] (fun x h => by simp at h; rcases h with rfl | rfl <;> assumption) (by simp) 1 (by omega) _ (rules_c0 a) (by simp)
  have r4 := run_new [18, 18] (by simp) [a] (fun x h => by simp at h; subst h; assumption) (by simp) 2 (by omega) _ (rules_d a) (by simp)
  have r5 := run_new [13, 13] (by simp) [0, 0, a] (fun x h => by simp at h; rcases h with rfl | rfl <;> assumption) (by simp) 1 (by omega) _ (rules_e a 0) (by simp)
  rw [back_sub a 0 ha h0] at r1
  rw [xor_self 0 h0] at r5
  obtain ⟨nn, hnn⟩ : ∃ nn : Int, (if (if a = 0 then (1 : Int) else 0) = 0 then (1 : Int) else 0) = nn := ⟨_, rfl⟩
  rw [hnn] at r4
  have HNN : Hid _ := hnn
  clear hnn
  dsimp only [actRow, actNo, actFault] at r1 r2 r3 r4 r5
  obtain ⟨ha1', ha2'⟩ := ha
  set_option maxRecDepth 20000 in
  go_enter Try.func6, Try.ntmps6
  go_wp2_with fail
  refine (r1 w).mono ?_
  clear r1
  rintro e w1 ⟨g1, p1, m1, rfl, hle1, hc1, hb1⟩
  have c1 := hc1 0 a rfl
  have l1 := cell_lt c1
  clear hc1
  go_wp2_with fail
  obtain ⟨V1, hV1⟩ : ∃ V, V = (w1.alloc (.cells #[.int .i64 4, .slice (some ⟨g1, 0, none⟩) 1 p1] 24)).alloc (.cells #[.int .i64 0, .int .u64 0, .int .u64 0, .int .i64 0] 30) := ⟨_, rfl⟩
  rw [← hV1]
  obtain ⟨x1, _, _, z1⟩ := laidAB hV1
  have HB1 : Hid (Below w.heap.size w V1) := hb1.trans (x1.mono hb1.size)
  have q2 := r2 V1
  rw [z1] at q2
  have HZ1 : Hid _ := z1
  clear hV1 x1 z1 c1 l1 hle1 r2 hb1
  refine q2.mono ?_
  clear q2
  rintro e w2 ⟨g2, p2, m2, rfl, hle2, hc2, hb2⟩
  rw [← HZ1.out] at hb2
  have HB2 : Hid (Below w.heap.size w w2) := HB1.out.trans (hb2.mono HB1.out.size)
  have HC2 : Hid _ := hc2
  clear hc2 hb2
  go_wp2_with fail
  obtain ⟨V2, hV2⟩ : ∃ V, V = (w2.alloc (.cells #[.int .i64 0, .slice (some ⟨g2, 0, none⟩) 2 p2] 24)).alloc (.cells #[.int .i64 4, .int .u64 0, .int .u64 0, .int .i64 0] 30) := ⟨_, rfl⟩
  rw [← hV2]
  have z2 := (laidAB hV2).2.2.2
  obtain ⟨hM2, x2⟩ := MA.lay (act := actFault) HC2.out hle2 hV2
  have HM2 : Hid (MA V2 w2.heap.size 0 g2 2 p2 ([0, a]).reverse actFault) := hM2
  have HB2b : Hid (Below w.heap.size w V2) := HB2.out.trans (x2.mono HB2.out.size)
  have q3 := r3 V2
  rw [z2] at q3
  have HZ2 : Hid _ := z2
  clear hV2 z2 hM2 x2 r3 HC2 hle2
  refine q3.mono ?_
  clear q3
  rintro e w3 ⟨g3, p3, m3, rfl, hle3, hc3, hb3⟩
  rw [← HZ2.out] at hb3
  have HM3 : Hid (MA w3 w2.heap.size 0 g2 2 p2 ([0, a]).reverse actFault) := MA.below HM2.out hb3
  have HB3 : Hid (Below w.heap.size w w3) := HB2b.out.trans (hb3.mono HB2b.out.size)
  generalize w2.heap.size = b2 at *
  have k2 := HM3.out.k
  have l2 : b2 + 1 < w3.heap.size := cell_lt k2
  have l2b : b2 < w3.heap.size := by omega
  have HC3 : Hid _ := hc3
  clear hc3 hb3 HM2
  dsimp only [actNo, actFault] at k2
  go_wp2_with fail
  obtain ⟨V3, hV3⟩ : ∃ V, V = (w3.alloc (.cells #[.int .i64 0, .slice (some ⟨g3, 0, none⟩) 2 p3] 24)).alloc (.cells #[.int .i64 4, .int .u64 0, .int .u64 0, .int .i64 0] 30) := ⟨_, rfl⟩
  rw [← hV3]
  obtain ⟨hM4, x3⟩ := MA.lay (act := actFault) HC3.out hle3 hV3
  have HM4 : Hid (MA V3 w3.heap.size 0 g3 2 p3 ([0, a]).reverse actFault) := hM4
  have HM5 : Hid (MA V3 b2 0 g2 2 p2 ([0, a]).reverse actFault) := MA.below HM3.out x3
  have HB4 : Hid (Below w.heap.size w V3) := HB3.out.trans (x3.mono HB3.out.size)
  clear hV3 hM4 x3 HC3 hle3 k2 l2 l2b
  generalize w3.heap.size = b3 at *
  go_quiet (fail)
  obtain ⟨V4, hV4⟩ : ∃ V, V = V3.drewN nq := ⟨_, rfl⟩
  rw [← hV4]
  have HB5 : Hid (Below w.heap.size w V4) := by rw [hV4]; exact below_drewN HB4.out nq
  clear hV4 HM4 HM5 HM3
  go_wp2_with fail
  refine (r4 V4).mono ?_
  clear r4
  rintro e w4 ⟨g4, p4, m4, rfl, hle4, hc4, hb4⟩
  have HB6 : Hid (Below w.heap.size w w4) := HB5.out.trans (hb4.mono HB5.out.size)
  have HC4 : Hid _ := hc4
  clear hc4 hb4
  go_wp2_with fail
  obtain ⟨V5, hV5⟩ : ∃ V, V = (w4.alloc (.cells #[.int .i64 2, .slice (some ⟨g4, 0, none⟩) 1 p4] 24)).alloc (.cells #[.int .i64 0, .int .u64 0, .int .u64 0, .int .i64 0] 30) := ⟨_, rfl⟩
  rw [← hV5]
  have z5 := (laidAB hV5).2.2.2
  obtain ⟨hM6, x5⟩ := MA.lay (act := actNo) HC4.out hle4 hV5
  have HM6 : Hid (MA V5 w4.heap.size 2 g4 1 p4 [nn].reverse actNo) := hM6
  have HB7 : Hid (Below w.heap.size w V5) := HB6.out.trans (x5.mono HB6.out.size)
  have q5 := r5 V5
  rw [z5] at q5
  have HZ5 : Hid _ := z5
  clear hV5 z5 hM6 x5 r5 HC4 hle4
  refine q5.mono ?_
  clear q5
  rintro e w5 ⟨g5, p5, m5, rfl, hle5, hc5, hb5⟩
  rw [← HZ5.out] at hb5
  have HM7 : Hid (MA w5 w4.heap.size 2 g4 1 p4 [nn].reverse actNo) := MA.below HM6.out hb5
  have HB8 : Hid (Below w.heap.size w w5) := HB7.out.trans (hb5.mono HB7.out.size)
  generalize w4.heap.size = b4 at *
  have t1 := HM7.out.v
  have t2 := HM7.out.c 0 nn rfl
  have t3 : 1 ≤ p4 := HM7.out.le
  have t4 := hc5 1 0 rfl
  have u1 : b4 < w5.heap.size := cell_lt t1
  have u2 : g4 < w5.heap.size := cell_lt t2
  have u3 : g5 < w5.heap.size := cell_lt t4
  have u4 : 2 ≤ p5 := hle5
  clear hc5 hb5 HM6
  by_cases hz : a = 0
  · have hnn : nn = 0 := by rw [← HNN.out, hz]; rfl
    subst hnn
    have hz1 : (a == 0) = true := by simp [hz]
    have hz2 : (a != 0) = false := by simp [hz]
    clear hz
    go_wp2_with fail
    refine (awake_at _).mono ?_
    rintro e w6 ⟨rfl, hb6⟩
    have HB9 : Hid (Below w.heap.size w w6) := (HB8.out.trans ((two_allocs _ _ _).mono HB8.out.size)).trans (hb6.mono (Nat.le_trans HB8.out.size (two_allocs _ _ _).size))
    go_wp2
    go_ret
    exact ⟨rfl, HB9.out⟩
  · have hnn : nn = 1 := by rw [← HNN.out, if_neg hz]; rfl
    subst hnn
    have hz1 : (a == 0) = false := by simpa using hz
    have hz2 : (a != 0) = true := by simpa using hz
    clear hz
    go_wp2_with fail
    refine (awake_at _).mono ?_
    rintro e w6 ⟨rfl, hb6⟩
    have HB9 : Hid (Below w.heap.size w w6) := (HB8.out.trans ((two_allocs _ _ _).mono HB8.out.size)).trans (hb6.mono (Nat.le_trans HB8.out.size (two_allocs _ _ _).size))
    go_wp2
    go_ret
    exact ⟨rfl, HB9.out⟩

theorem rules_at (a b : Int) (ha : Wd a) (hb : Wd b) (w : World) :
    Calls Try.prog 6 #[.int .u64 a, .int .u64 b] w fun e w' => e = .returned (.bool true) ∧ Below w.heap.size w w' := by
  by_cases h : b = 0
  · subst h
    exact rules_no a ha w
  · exact rules_yes a b ha hb h w
end Go.Proofs.Ytedkijionpkmmaa
