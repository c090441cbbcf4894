/- Proved: januslaw02.MmuPlaces answers true for every place, page and way of use (an address within a mapped page is that page's frame and the word there), at the commit of this claim; no condition beyond the row's own. -/
import Derived.Test.YthkffhfjkddpkaaDeed2
import Derived.Test.YthkffhfjkddpkaaMmuI
namespace Go.Proofs.Ythkffhfjkddpkaa
open Go.ChangeShapes Go.WideShapes Go.ChangeAt Go.RowKit Go.Joins
set_option linter.unusedVariables false

theorem pageCells {w : World} {g : Nat} {fr : Int} {wt : Bool} {t : TypeId} (h : w.heap[g]? = some (.cells #[.int .i64 fr, .bool wt] t)) : w.cell? ⟨g, 0, none⟩ = some (.int .i64 fr) ∧ w.cell? ⟨g, 1, none⟩ = some (.bool wt) := by
  refine ⟨?_, ?_⟩ <;> (rw [cell_of_heap h]; rfl)
theorem box2_new (w : World) (o1 o : Obj) : ((w.alloc o1).alloc o).drew.heap[w.heap.size + 1]? = some o := by
  have := heap_alloc_new (w.alloc o1) o
  rw [World.size_alloc] at this
  exact this
theorem below_box2 (w : World) (o1 o : Obj) : Below w.heap.size w ((w.alloc o1).alloc o).drew :=
  (((Below.refl _ _).alloc (Nat.le_refl _) _).alloc (by simp) _).drew

set_option maxHeartbeats 4000000 in
theorem places_no (p q : Int) (x : Int × Bool) (wr : Bool) (w : World) (h : (isPg p && decide (0 ≤ x.1)) = false) :
    Calls Try.prog 5 #[.agg #[.int .i64 p, .int .i64 q], pv x, .bool wr] w fun e w' => e = .returned (.bool true) ∧ Below w.heap.size w w' := by
  have e1 : mapV p x = 101 := by simp [mapV, h]
  have ht : ¬ (0 ≤ p ∧ p < 4 ∧ 0 ≤ x.1) := by simp [isPg] at h; omega
  obtain ⟨W, hW⟩ : ∃ W, W = ((w.alloc (.cells #[.int .i64 p, .int .i64 q] 62)).alloc (.cells #[.int .i64 x.1, .bool x.2] 29)).drew := ⟨_, rfl⟩
  have hx0 : Hid _ := box2_new w (.cells #[.int .i64 p, .int .i64 q] 62) (.cells #[.int .i64 x.1, .bool x.2] 29)
  have B0 := below_box2 w (.cells #[.int .i64 p, .int .i64 q] 62) (.cells #[.int .i64 x.1, .bool x.2] 29)
  rw [← hW] at hx0 B0
  have HW : Hid _ := hW
  clear hW
  unfold pv
  have hc : decide (p < 0) = true ∨ (decide (p < 0) = false ∧ decide (4 ≤ p) = true) ∨ (decide (p < 0) = false ∧ decide (4 ≤ p) = false ∧ decide (x.1 < 0) = true) := by simp; omega
  clear ht h
  rcases hc with h1 | ⟨h1, h2⟩ | ⟨h1, h2, h3⟩
  all_goals
    go_enter Try.func5, Try.ntmps5
    go_wp2
    go_region
    rw [← HW.out]
    go_wp2_with fail
    refine (new_any _).mono ?_
    rintro e w1 ⟨rfl, t1, b1⟩
    have hx1 : Hid _ := (b1.block (w.heap.size + 1) (lt_of_heap hx0.out)).trans hx0.out
    obtain ⟨c0, c1⟩ := pageCells hx1.out
    have hs0 := B0.size
    have hs0' := lt_of_heap hx0.out
    have B1 := B0.trans (b1.mono B0.size)
    go_wp2_with fail
    refine (map_at _ _ _ p x _ t1).mono ?_
    rintro e w2 ⟨rfl, t2, u2⟩
    rw [e1]
    have hx2 : Hid _ := (u2.block _ (lt_of_heap hx1.out) (by omega)).trans hx1.out
    obtain ⟨c0, c1⟩ := pageCells hx2.out
    have B2 := B1.trans (u2.below (B := w.heap.size) (by omega) (by have := b1.size; omega))
    clear t1 t2 b1 u2
    go_wp2_with fail
    refine (awake_any _).mono ?_
    rintro e w3 ⟨rfl, b3⟩
    go_wp2
    go_ret
    exact ⟨rfl, B2.trans (b3.mono B2.size)⟩

set_option maxHeartbeats 4000000 in
theorem places_yes (p q : Int) (x : Int × Bool) (wr : Bool) (w : World) (hp0 : 0 ≤ p) (hp1 : p < 4) (hx : 0 ≤ x.1) (hq0 : -9223372036854775808 ≤ q) (hq1 : q ≤ 9223372036854775807) :
    Calls Try.prog 5 #[.agg #[.int .i64 p, .int .i64 q], pv x, .bool wr] w fun e w' => e = .returned (.bool true) ∧ Below w.heap.size w w' := by
  have hpg : isPg p = true := by simp [isPg]; omega
  have e1 : mapV p x = 0 := by simp [mapV, hpg, hx]
  have t1' : -32 < q.tmod 32 := Int.lt_tmod_of_pos q (by omega)
  have t2' : q.tmod 32 < 32 := Int.tmod_lt_of_pos q (by omega)
  have hm0 : 0 ≤ (q.tmod 32 + 32).tmod 32 := Int.tmod_nonneg 32 (by omega)
  have hm1 : (q.tmod 32 + 32).tmod 32 < 32 := Int.tmod_lt_of_pos _ (by omega)
  have hv : ∀ m : Int, 0 ≤ m → m < 32 → walkV (mapF (fun _ => none) p x) (p * 32 + m) wr = if wr && !x.2 then (0, 0, 103) else (x.1, m, 0) := by
    intro m m0 m1
    have a1 : ¬ (128 ≤ p * 32 + m) := by omega
    have a2 : (p * 32 + m) / 32 = p := by omega
    have a3 : (p * 32 + m) % 32 = m := by omega
    simp [walkV, a1, a2, a3, mapF, hpg, hx, reachV]
  obtain ⟨W, hW⟩ : ∃ W, W = ((w.alloc (.cells #[.int .i64 p, .int .i64 q] 62)).alloc (.cells #[.int .i64 x.1, .bool x.2] 29)).drew := ⟨_, rfl⟩
  have hx0 : Hid _ := box2_new w (.cells #[.int .i64 p, .int .i64 q] 62) (.cells #[.int .i64 x.1, .bool x.2] 29)
  have B0 := below_box2 w (.cells #[.int .i64 p, .int .i64 q] 62) (.cells #[.int .i64 x.1, .bool x.2] 29)
  rw [← hW] at hx0 B0
  have HW : Hid _ := hW
  clear hW
  unfold pv
  obtain ⟨fr, wt⟩ := x
  cases wr <;> cases wt
  all_goals
    go_enter Try.func5, Try.ntmps5
    go_wp2
    go_region
    rw [← HW.out]
    go_wp2_with fail
    refine (new_any _).mono ?_
    rintro e w1 ⟨rfl, t1, b1⟩
    have hx1 : Hid _ := (b1.block (w.heap.size + 1) (lt_of_heap hx0.out)).trans hx0.out
    obtain ⟨c0, c1⟩ := pageCells hx1.out
    have hs0 := B0.size
    have hs0' := lt_of_heap hx0.out
    have B1 := B0.trans (b1.mono B0.size)
    go_wp2_with fail
    refine (map_at _ _ _ p (fr, _) _ t1).mono ?_
    rintro e w2 ⟨rfl, t2, u2⟩
    rw [e1]
    have hx2 : Hid _ := (u2.block _ (lt_of_heap hx1.out) (by omega)).trans hx1.out
    obtain ⟨c0, c1⟩ := pageCells hx2.out
    have B2 := B1.trans (u2.below (B := w.heap.size) (by omega) (by have := b1.size; omega))
    go_wp2_with fail
    have m0 : 0 ≤ q.tmod 32 % 32 := by omega
    have m1 : q.tmod 32 % 32 < 32 := by omega
    refine (walk_at _ _ _ (p * 32 + q.tmod 32 % 32) _ _ t2 (by omega)).mono ?_
    rintro e w3 ⟨rfl, b3⟩
    rw [hv _ m0 m1]
    have hx3 : Hid _ := (b3.block _ (lt_of_heap hx2.out)).trans hx2.out
    obtain ⟨c0, c1⟩ := pageCells hx3.out
    have B3 := B2.trans (b3.mono B2.size)
    clear t1 t2 b1 u2 b3
    simp only [t3, if_true, if_false, Bool.false_eq_true, Bool.not_true, Bool.not_false, Bool.and_true, Bool.and_false, Bool.and_self]
    go_wp2_with fail
    refine (awake_any _).mono ?_
    rintro e w4 ⟨rfl, b4⟩
    go_wp2
    go_ret
    exact ⟨rfl, B3.trans (b4.mono B3.size)⟩

theorem own : ownKnob Try.prog.godebug = none := by kernel_rfl
theorem laidOut : laidOutB Try.prog = true := by kernel_rfl
theorem pairKinds : kindsOf Try.prog 9 62 = some [.i .i64, .i .i64] := by kernel_rfl
theorem pageKinds : kindsOf Try.prog 9 29 = some [.i .i64, .b] := by kernel_rfl

set_option maxRecDepth 100000 in
theorem places_lifted (os : Os) (started : os.Started) (H : Type) (enc : TypeId × Value → H) :
    ReturnsInHanded {} Try.checked os 5 .any (Rows.mmuPlacesSpec.pre6 enc Try.prog Try.f5 Rows.mmuPlacesRow.domain false) (Rows.mmuPlacesSpec.post enc Try.prog Try.f5 false true false false) := by
  refine returnsInHanded_of_change (C := Try.checked) own started (by kernel_rfl) Try.func5
    (ChangeSpec.witness6 (enc := enc) (C := Try.checked) false ⟨#[], #[.agg #[.int .i64 0, .int .i64 0], .agg #[.int .i64 0, .bool false], .bool false], []⟩ 8 (by kernel_rfl) (by kernel_rfl) (by kernel_rfl) (by kernel_rfl)) ?_
  intro W base args ds gs before hval0 hW hcnd _
  have hval : ∀ (j : Nat) t v, Try.f5.params[j]? = some t → args[j]? = some v → Value.okWide Try.prog W .any base t v := hval0
  have hW' := hW
  obtain ⟨p, q, hA0, hV, rfl, hfz, hnd⟩ := hW
  have hA : DataW.TrodAll enc Try.prog W 0 (fun _ => true) true Try.f5.params.toList args.toList ds p := hA0
  rw [Try.params5] at hA hval
  obtain ⟨v0, vs0, d0, ds0, p0, q0, hargs, rfl, rfl, h0, r0⟩ := trodAll_cons hA
  obtain ⟨v1, vs1, d1, ds1, p1, q1, rfl, rfl, rfl, h1, r1⟩ := trodAll_cons r0
  obtain ⟨v2, vs2, d2, ds2, p2, q2, rfl, rfl, rfl, h2, r2⟩ := trodAll_cons r1
  obtain ⟨rfl, rfl, rfl⟩ := trodAll_nil r2
  obtain rfl : args = #[v0, v1, v2] := by cases args; simp_all
  obtain ⟨rfl, rfl⟩ := trodVars_none hV
  have lt0 : ∀ x ∈ p0, x.block < W.heap.size := by obtain ⟨m, hm⟩ := h0; exact DataW.trod_lt m _ _ _ hm
  have lt1 : ∀ x ∈ p1, x.block < W.heap.size := by obtain ⟨m, hm⟩ := h1; exact DataW.trod_lt m _ _ _ hm
  have lt2 : ∀ x ∈ p2, x.block < W.heap.size := by obtain ⟨m, hm⟩ := h2; exact DataW.trod_lt m _ _ _ hm
  obtain ⟨cs0, rfl, fit0⟩ := array_fits Try.underlying62 pairKinds (hval 0 62 v0 rfl rfl) h0
  obtain ⟨cs1, rfl, fit1⟩ := agg_fits Try.underlying29 pageKinds (hval 1 29 v1 rfl rfl) h1
  obtain ⟨_, _, e0, ⟨a, rfl, ha⟩, _, _, rfl, ⟨b, rfl, hb⟩, rfl⟩ := fit0
  obtain ⟨_, _, e1, ⟨fr, rfl, hfr⟩, _, _, rfl, ⟨wt, rfl⟩, rfl⟩ := fit1
  obtain rfl : cs0 = #[.int .i64 a, .int .i64 b] := Array.toList_inj.1 e0
  obtain rfl : cs1 = #[.int .i64 fr, .bool wt] := Array.toList_inj.1 e1
  obtain ⟨wr, rfl, hd2, hp2⟩ := open_bool Try.underlying4 (hval 2 4 v2 rfl rfl) h2
  have hwalk : Calls Try.prog 5 #[.agg #[.int .i64 a, .int .i64 b], .agg #[.int .i64 fr, .bool wt], .bool wr] W fun e w' => e = .returned (.bool true) ∧ Below W.heap.size W w' := by
    cases hc : (isPg a && decide (0 ≤ fr)) with
    | false => exact places_no a b (fr, wt) wr W hc
    | true =>
      simp [isPg] at hc
      have := bounds_i64 hb
      exact places_yes a b (fr, wt) wr W (by omega) (by omega) (by simp; omega) (by omega) (by omega)
  clear hA0 hval0
  refine hwalk.mono fun e W' ⟨he, bel⟩ => ?_
  subst he
  exact ⟨_, rfl, _, _, _, [], _, [], hW', trodAll_mk1 (shut_bool Try.underlying4 _), (trodAll_cons_mk (Below.trod laidOut (by kernel_rfl) (of_decide_eq_true (by kernel_rfl)) h0 bel lt0) (trodAll_cons_mk (Below.trod laidOut (by kernel_rfl) (of_decide_eq_true (by kernel_rfl)) h1 bel lt1) (trodAll_cons_mk (Below.trod laidOut (by kernel_rfl) (of_decide_eq_true (by kernel_rfl)) h2 bel lt2) trodAll_mk0))), rfl, bel.frame _, fun h => by cases h⟩

theorem places_holds : Rows.MmuPlacesSaid :=
  OpenClaim.holds_of_wide 5 Try.f5 rfl rfl rfl rfl rfl rfl rfl ⟨rfl, rfl, rfl, rfl, rfl⟩ rfl rfl rfl rfl rfl (by kernel_rfl) Try.func5 (by kernel_rfl)
    (of_decide_eq_true (by kernel_rfl)) (by unfold Func.isWrapper; first | (rw [if_pos (by decide +kernel)]; kernel_rfl) | (rw [if_neg (by decide +kernel)]; exact ⟨rfl, rfl⟩))
    (fun os started H enc _ => places_lifted os started H enc)
#print axioms places_holds
end Go.Proofs.Ythkffhfjkddpkaa
