/- Proved: januslaw15.InodePuts answers true for every two numbers and every inode (an inode that was put is got, and no other one changes), at the commit of this claim; no condition beyond the row's own. -/
import Derived.Test.YtinjllnoonbjmaaLwC
namespace Go.Proofs.Ytinjllnoonbjmaa
open Go.ChangeShapes Go.WideShapes Go.ChangeAt Go.RowKit Go.Lib
set_option linter.unusedVariables false

theorem gw_same {vs xs : List Int} {n i : Nat} (hl : vs.length = n * 32) (hi : i < 32) (hn : 13 ≤ n) (hx : xs.length = 9) : gwX (putW vs i xs) (i : Int) = xs := by
  unfold gwX
  rw [if_pos (isI_nat hi), Int.toNat_natCast, rowW_put hl hi hi hn hx, if_pos rfl]
theorem gw_other {vs xs : List Int} {n i : Nat} (hl : vs.length = n * 32) (hi : i < 32) (hn : 13 ≤ n) (hx : xs.length = 9) (k : Int) (hk : k ≠ (i : Int)) : gwX (putW vs i xs) k = gwX vs k := by
  unfold gwX
  cases h : isI k with
  | true =>
    obtain ⟨j, rfl, hj⟩ := isI_of h
    rw [if_pos rfl, if_pos rfl, Int.toNat_natCast, rowW_put hl hi hj hn hx, if_neg (fun e => hk (by rw [e]))]
  | false => rfl
theorem row_fit_put {vs xs : List Int} {n i : Nat} (hl : vs.length = n * 32) (hi : i < 32) (hn : 13 ≤ n) (hx : xs.length = 9) (hf : ∀ i, i < 32 → ∀ x ∈ rowW vs i, Fit x) (hxf : ∀ x ∈ xs, Fit x) : ∀ k, k < 32 → ∀ x ∈ rowW (putW vs i xs) k, Fit x := by
  intro k hk
  rw [rowW_put hl hi hk hn hx]
  split
  · exact hxf
  · exact hf k hk
set_option maxHeartbeats 4000000 in
set_option maxRecDepth 100000 in
theorem puts_walk (i k : Int) (xs : List Int) (hx : xs.length = 9) (hf : I64s xs) (w : World) :
    Calls Try.prog 8 #[.int .i64 i, .int .i64 k, .agg (irow xs)] w fun e w' => e = .returned (.bool true) ∧ Below w.heap.size w w' := by
  obtain ⟨X, hX⟩ : ∃ X, X = irow xs := ⟨_, rfl⟩
  rw [← hX]
  obtain ⟨W, hW⟩ : ∃ W, W = w.alloc (.cells X 47) := ⟨_, rfl⟩
  have hbox : W.heap[w.heap.size]? = some (.cells X 47) := by rw [hW]; exact heap_alloc_new _ _
  have HO : Hid (Below w.heap.size w W) := by rw [hW]; exact below_alloc _ _
  have HW : Hid _ := hW
  have hP := pair_at 20 W (by omega) (by omega)
  obtain ⟨D, hD⟩ : ∃ D, D = w.heap.size := ⟨_, rfl⟩
  rw [← hD] at hbox
  have HDq : Hid (D = w.heap.size) := hD
  have HDl : Hid (D < W.heap.size) := lt_of_heap hbox
  have HXr : Hid (∀ V : World, Below W.heap.size W V → V.heap[D]? = some (.cells X 47)) := fun V hV => (hV.block D HDl.out).trans hbox
  have HXq : Hid (X = irow xs) := hX
  have HXl : Hid (xs.length = 9) := hx
  have HXs : Hid (X.size = 9) := by rw [hX]; show _ = _; rw [irow_size]; exact hx
  have HXo : Hid (X.all (·.oneCell') = true) := by rw [hX]; exact irow_one _
  have HXf : Hid (I64s xs) := hf
  have HCl : Hid (∀ V : World, Below W.heap.size W V → ∀ j, j < 9 → V.cell? ⟨D, j, none⟩ = some (.int .i64 (xs.getD j 0))) := fun V hV j hj => by
    rw [cell_of_heap (HXr.out V hV), HXq.out]
    exact irow_get _ _ (by rw [HXl.out]; exact hj)
  clear hbox hW hD hX hx hf
  go_enter Try.func8, Try.ntmps8
  go_wp2_with fail
  rw [← HW.out]
  clear HW
  refine hP.mono ?_
  rintro e w1 ⟨B, bx, rfl, ⟨G, gx, hpr⟩, hb1⟩
  have HL : Hid (W.heap.size ≤ B ∧ W.heap.size ≤ G) := ⟨hpr.lo.1, hpr.lo.2.1⟩
  have H1 : Hid (Fs w1 B G (F0 20) 2000) := hpr.fs
  have HB1 : Hid (Below W.heap.size W w1) := hb1
  rw [← HDq.out]
  have c0 := HCl.out w1 hb1 0 (by omega)
  have c1 := HCl.out w1 hb1 1 (by omega)
  have c2 := HCl.out w1 hb1 2 (by omega)
  clear hP hpr hb1
  have hA := awake_at w1
  have HN3 : Hid (0 ≤ xs.getD 0 0 → 0 ≤ xs.getD 1 0 → 0 ≤ xs.getD 2 0 → (∀ p, p < 6 → 0 ≤ xs.getD (3 + p) 0) → ∀ x ∈ xs, Fit x) := fun q0 q1 q2 q3 x hx => by
    refine ⟨?_, by have := (HXf.out x hx).2; omega⟩
    obtain ⟨j, hj0, rfl⟩ := List.getElem_of_mem hx
    have hj := hj0
    rw [HXl.out] at hj
    have e : xs[j] = xs.getD j 0 := by rw [List.getD_eq_getElem?_getD, List.getElem?_eq_getElem]; rfl
    rw [e]
    rcases Nat.lt_or_ge j 3 with h | h
    · match j, h with
      | 0, _ => exact q0
      | 1, _ => exact q1
      | 2, _ => exact q2
    · have := q3 (j - 3) (by omega)
      rwa [show 3 + (j - 3) = j by omega] at this
  generalize xs.getD 0 0 = a at *
  generalize xs.getD 1 0 = b at *
  generalize xs.getD 2 0 = c at *
  have hcase : a < 0 ∨ (0 ≤ a ∧ b < 0) ∨ (0 ≤ a ∧ 0 ≤ b ∧ c < 0) ∨ (0 ≤ a ∧ 0 ≤ b ∧ 0 ≤ c) := by omega
  rcases hcase with q | ⟨q, q1⟩ | ⟨q, q1, q2⟩ | ⟨q, q1, q2⟩
  rotate_right
  · have HN4 : Hid ((∀ p, p < 6 → 0 ≤ xs.getD (3 + p) 0) → ∀ x ∈ xs, Fit x) := HN3.out q q1 q2
    go_wp2
    go_loopw [10] (fun s wr => ∃ (j : Nat), j ≤ 6 ∧ s = .int .i64 j ∧ wr = w1 ∧ Hid (∀ p, p < j → 0 ≤ xs.getD (3 + p) 0)) (fun s _ => 6 - (intOf s).toNat)
    case atStart => exact ⟨0, by omega, rfl, rfl, fun p hp => by omega⟩
    case round =>
      obtain ⟨j, hj, rfl, rfl, HJ⟩ := hrel
      by_cases hlt : j < 6
      · have hki : decide ((j : Int) < 6) = true := by simp; omega
        have hk6 : (j : Int) < 6 := by omega
        have cj := HCl.out wr HB1.out (3 + j) (by omega)
        have HJ2 : Hid (0 ≤ xs.getD (3 + j) 0 → ∀ p, p < j + 1 → 0 ≤ xs.getD (3 + p) 0) := fun h p hp => by
          by_cases e : p = j
          · rw [e]; exact h
          · exact HJ.out p (by omega)
        generalize xs.getD (3 + j) 0 = y at *
        by_cases hy : y < 0
        · go_wp2_with (first | (go_at_call 26; refine hA.mono ?_; rintro e w7 ⟨rfl, hb7⟩) | go_in)
          go_ret
          exact ⟨rfl, HO.out.trans ((HB1.out.trans (hb7.mono HB1.out.size)).mono HO.out.size)⟩
        · have hy0 : 0 ≤ y := by omega
          go_wp2
          go_roundw
          case rel => exact ⟨j + 1, by omega, by go_num, by first | trivial | rfl, HJ2.out hy0⟩
          case measure => simp [intOf]; omega
      · have hki : decide ((j : Int) < 6) = false := by simp; omega
        have hk6 : ¬ (j : Int) < 6 := by omega
        have hj6 : j = 6 := by omega
        rw [hj6] at HJ
        have HFx : Hid (∀ x ∈ xs, Fit x) := HN4.out HJ.out
        clear HJ HN3 HN4 hA hj6 c0 c1 c2
        obtain ⟨vs, h1⟩ := H1.out
        have HVl : Hid (vs.length = 20 * 32) := h1.dk.len
        have HVf : Hid (∀ i, i < 32 → ∀ x ∈ rowW vs i, Fit x) := fun i hi => by rw [h1.row hi]; exact h1.inv.fit hi
        have hC := getw (n := 20) h1.dk (by omega) (by omega) (by omega) k HVf.out
        obtain ⟨R, hR⟩ : ∃ R, R = irow (gwX vs k) := ⟨_, rfl⟩
        have HRs : Hid (R.size = 9) := by rw [hR]; show _ = _; rw [irow_size]; exact gwX_len HVl.out (by omega) k
        have HRo : Hid (R.all (·.oneCell') = true) := by rw [hR]; exact irow_one _
        have HRq : Hid (R = irow (gwX vs k)) := hR
        rw [← hR] at hC
        obtain ⟨ra, hra⟩ : ∃ r, r = gtR k := ⟨_, rfl⟩
        rw [← hra] at hC
        have HRa : Hid (ra = gtR k) := hra
        clear hR h1 H1 hra
        have hz := lit_zi
        go_wp2_with fail
        refine hC.mono ?_
        rintro e w2 ⟨rfl, hd2, hbg⟩
        obtain ⟨W3, hW3⟩ : ∃ W, W = w2.alloc (.cells R 47) := ⟨_, rfl⟩
        have hb3 : Below w2.heap.size w2 W3 := by rw [hW3]; exact below_alloc _ _
        have HB2 : Hid (Below W.heap.size W w2) := HB1.out.trans (bg_below hbg HL.out.1 HL.out.2 HB1.out.size)
        have HB3 : Hid (Below W.heap.size W W3) := HB2.out.trans (hb3.mono HB2.out.size)
        have hd3 := hd2.below hb3
        have hXr := HXr.out W3 HB3.out
        have HW3 : Hid _ := hW3
        obtain ⟨p1, hp1⟩ : ∃ p, p = w2.heap.size := ⟨_, rfl⟩
        have HP1 : Hid (W3.heap[p1]? = some (.cells R 47)) := by rw [hp1, hW3]; exact heap_alloc_new _ _
        have Hp1 : Hid (p1 = w2.heap.size) := hp1
        clear hC hbg HB1 hW3 hb3 hd2 hp1
        cases hi : isI i with
        | false =>
          have hC := fun V => put_out B i hi X V
          have hi2 : (i < 0) ∨ (¬ i < 0 ∧ 32 ≤ i) := by
            simp only [isI, Bool.and_eq_false_iff, decide_eq_false_iff_not] at hi
            omega
          clear hi
          rcases hi2 with hi1 | ⟨hi1, hi2⟩
          all_goals
            go_wp2_with (first
              | (refine wpList_store_row rfl 47 _ _ rfl w2.heap.size R rfl rfl 47 zi (heap_alloc_new _ _) (by rw [HRs.out]; exact inoSize) (by rw [HRs.out]; rfl) HRo.out ?_; rw [setRow_alloc_new, ← HW3.out, ← Hp1.out])
              | (refine wpList_load_row rfl 47 _ rfl D rfl 47 X (0, 0) _ hXr Try.underlying47 rfl (by rw [HXs.out]; exact inoSize) ?_)
              | fail)
            refine (hC _).mono ?_
            rintro e w4 ⟨rfl, hb4⟩
            have HB4 : Hid (Below W.heap.size W w4) := HB3.out.trans (hb4.mono HB3.out.size)
            have hA := awake_at w4
            clear hC hXr hd3
            go_wp2_with (first | (go_at_call 26; refine hA.mono ?_; rintro e w7 ⟨rfl, hb7⟩) | go_in)
            go_ret
            exact ⟨rfl, HO.out.trans ((HB4.out.trans (hb7.mono HB4.out.size)).mono HO.out.size)⟩
        | true =>
          obtain ⟨i, rfl, hi2⟩ := isI_of hi
          have hC := put_in hd3 (by omega) (by omega) (by omega) i hi2 xs HXl.out HFx.out
          rw [← HXq.out] at hC
          have hi0 : ¬ ((i : Nat) : Int) < 0 := by omega
          have hi32 : ¬ 32 ≤ ((i : Nat) : Int) := by omega
          go_wp2_with (first
            | (refine wpList_store_row rfl 47 _ _ rfl w2.heap.size R rfl rfl 47 zi (heap_alloc_new _ _) (by rw [HRs.out]; exact inoSize) (by rw [HRs.out]; rfl) HRo.out ?_; rw [setRow_alloc_new, ← HW3.out, ← Hp1.out])
            | (refine wpList_load_row rfl 47 _ rfl D rfl 47 X (0, 0) _ hXr Try.underlying47 rfl (by rw [HXs.out]; exact inoSize) ?_)
            | fail)
          refine hC.mono ?_
          rintro e w4 ⟨rfl, hd4, hbg⟩
          have HB4 : Hid (Below W.heap.size W w4) := HB3.out.trans (bg_below hbg HL.out.1 HL.out.2 HB3.out.size)
          obtain ⟨us, hus⟩ : ∃ us, us = putW vs i xs := ⟨_, rfl⟩
          have HUf : Hid (∀ i, i < 32 → ∀ x ∈ rowW us i, Fit x) := by rw [hus]; exact row_fit_put HVl.out hi2 (by omega) HXl.out HVf.out HFx.out
          have HUi : Hid (gwX us (i : Int) = xs) := by rw [hus]; exact gw_same HVl.out hi2 (by omega) HXl.out
          have HUk : Hid (k ≠ (i : Int) → gwX us k = gwX vs k) := by rw [hus]; exact fun h => gw_other HVl.out hi2 (by omega) HXl.out k h
          have HP1b : Hid (p1 < W3.heap.size ∧ p1 ≠ B ∧ p1 ≠ G) := by
            have := lt_of_heap HP1.out
            have h3 := hd3
            obtain ⟨_, _, hd, _, _⟩ := h3
            exact ⟨this, (fun e => by have := HP1.out; rw [e, hd.head] at this; cases this), (fun e => by have := HP1.out; rw [e, hd.row] at this; cases this)⟩
          have HP4 : Hid (w4.heap[p1]? = some (.cells R 47)) := (hbg.block p1 HP1b.out.1 (by intro h; rcases h with h | h; exact HP1b.out.2.1 h; exact HP1b.out.2.2 h)).trans HP1.out
          rw [← hus] at hd4
          clear hus hC hd3 hbg HB3 HP1 HW3 hXr
          have hC := getw hd4 (by omega) (by omega) (by omega) (i : Int) HUf.out
          rw [HUi.out, ← HXq.out, show gtR (i : Int) = 0 from if_pos (isI_nat hi2)] at hC
          clear hd4
          go_wp2_with fail
          refine hC.mono ?_
          rintro e w5 ⟨rfl, hd5, hbg⟩
          obtain ⟨W6, hW6⟩ : ∃ W, W = w5.alloc (.cells X 47) := ⟨_, rfl⟩
          have hb6 : Below w5.heap.size w5 W6 := by rw [hW6]; exact below_alloc _ _
          have HB5 : Hid (Below W.heap.size W w5) := HB4.out.trans (bg_below hbg HL.out.1 HL.out.2 HB4.out.size)
          have HB6 : Hid (Below W.heap.size W W6) := HB5.out.trans (hb6.mono HB5.out.size)
          have hd6 := hd5.below hb6
          have HW6 : Hid _ := hW6
          obtain ⟨p2, hp2⟩ : ∃ p, p = w5.heap.size := ⟨_, rfl⟩
          have HQ2 : Hid (W6.heap[p2]? = some (.cells X 47)) := by rw [hp2, hW6]; exact heap_alloc_new _ _
          have Hp2 : Hid (p2 = w5.heap.size) := hp2
          have HQ1 : Hid (W6.heap[p1]? = some (.cells R 47)) := by
            have hl : p1 < w4.heap.size := lt_of_heap HP4.out
            exact (hb6.block p1 (Nat.lt_of_lt_of_le hl hbg.size)).trans ((hbg.block p1 hl (by intro h; rcases h with h | h; exact HP1b.out.2.1 h; exact HP1b.out.2.2 h)).trans HP4.out)
          have HP2b : Hid (p2 ≠ B ∧ p2 ≠ G) := by
            have h3 := hd6
            obtain ⟨_, _, hd, _, _⟩ := h3
            exact ⟨(fun e => by have := HQ2.out; rw [e, hd.head] at this; cases this), (fun e => by have := HQ2.out; rw [e, hd.row] at this; cases this)⟩
          clear hC hbg HB4 hW6 hb6 hd5 hp2 HP4
          have hC := getw hd6 (by omega) (by omega) (by omega) k HUf.out
          have HKl : Hid ((gwX us k).length = 9) := gwX_len hd6.len (by omega) k
          obtain ⟨R3, hR3⟩ : ∃ R, R = irow (gwX us k) := ⟨_, rfl⟩
          have HTs : Hid (R3.size = 9) := by rw [hR3]; show _ = _; rw [irow_size]; exact HKl.out
          have HTo : Hid (R3.all (·.oneCell') = true) := by rw [hR3]; exact irow_one _
          have HTq : Hid (k ≠ (i : Int) → R3 = R) := fun h => by rw [hR3, HUk.out h, ← HRq.out]
          have hE1 : ∀ V, (binOp BinOp.eql 47 (.agg X) (.agg X)).run Try.prog V = .ok (.bool true) V := fun V => by rw [HXq.out]; exact ino_eq xs HXl.out V
          have hE2 : ∀ V, (binOp BinOp.eql 47 (.agg R) (.agg R)).run Try.prog V = .ok (.bool true) V := fun V => by rw [HRq.out]; exact ino_eq _ (gwX_len HVl.out (by omega) k) V
          rw [← hR3] at hC
          rw [← HRa.out] at hC
          clear hR3 HUf HUi HUk HVl HVf HKl HFx hi hd6
          go_wp2_with (first
            | (refine wpList_store_row rfl 47 _ _ rfl w5.heap.size X rfl rfl 47 zi (heap_alloc_new _ _) (by rw [HXs.out]; exact inoSize) (by rw [HXs.out]; rfl) HXo.out ?_; rw [setRow_alloc_new, ← HW6.out, ← Hp2.out])
            | fail)
          refine hC.mono ?_
          rintro e w8 ⟨rfl, hd8, hbg⟩
          obtain ⟨W9, hW9⟩ : ∃ W, W = w8.alloc (.cells R3 47) := ⟨_, rfl⟩
          have hb9 : Below w8.heap.size w8 W9 := by rw [hW9]; exact below_alloc _ _
          have HB8 : Hid (Below W.heap.size W w8) := HB6.out.trans (bg_below hbg HL.out.1 HL.out.2 HB6.out.size)
          have HB9 : Hid (Below W.heap.size W W9) := HB8.out.trans (hb9.mono HB8.out.size)
          have HW9 : Hid _ := hW9
          obtain ⟨p3, hp3⟩ : ∃ p, p = w8.heap.size := ⟨_, rfl⟩
          have HZ3 : Hid (W9.heap[p3]? = some (.cells R3 47)) := by rw [hp3, hW9]; exact heap_alloc_new _ _
          have Hp3 : Hid (p3 = w8.heap.size) := hp3
          have HZ1 : Hid (W9.heap[p1]? = some (.cells R 47)) := by
            have hl : p1 < W6.heap.size := lt_of_heap HQ1.out
            exact (hb9.block p1 (Nat.lt_of_lt_of_le hl hbg.size)).trans ((hbg.block p1 hl (by intro h; rcases h with h | h; exact HP1b.out.2.1 h; exact HP1b.out.2.2 h)).trans HQ1.out)
          have HZ2 : Hid (W9.heap[p2]? = some (.cells X 47)) := by
            have hl : p2 < W6.heap.size := lt_of_heap HQ2.out
            exact (hb9.block p2 (Nat.lt_of_lt_of_le hl hbg.size)).trans ((hbg.block p2 hl (by intro h; rcases h with h | h; exact HP2b.out.1 h; exact HP2b.out.2 h)).trans HQ2.out)
          have HZD : Hid (W9.heap[D]? = some (.cells X 47)) := HXr.out W9 HB9.out
          have hA := awake_at W9
          clear hC hbg HB6 HB8 hW9 hb9 hd8 hp3 HQ1 HQ2
          by_cases hki : k = (i : Int)
          · have hkd : (k == (i : Int)) = true := by simp [hki]
            have Hki : Hid _ := hki
            clear hki
            go_wp2_with (first
              | (refine wpList_store_row rfl 47 _ _ rfl w8.heap.size R3 rfl rfl 47 zi (heap_alloc_new _ _) (by rw [HTs.out]; exact inoSize) (by rw [HTs.out]; rfl) HTo.out ?_; rw [setRow_alloc_new, ← HW9.out, ← Hp3.out])
              | (refine wpList_load_rowW (by rfl) 47 _ rfl p2 rfl 47 X (0, 0) _ HZ2.out Try.underlying47 rfl (by rw [HXs.out]; exact inoSize) ?_)
              | (refine wpList_load_rowW (by rfl) 47 _ rfl D rfl 47 X (0, 0) _ HZD.out Try.underlying47 rfl (by rw [HXs.out]; exact inoSize) ?_)
              | (go_at_call 26; refine hA.mono ?_; rintro e w10 ⟨rfl, hb10⟩) | go_in)
            go_ret
            exact ⟨rfl, HO.out.trans ((HB9.out.trans (hb10.mono HB9.out.size)).mono HO.out.size)⟩
          · have hkd : (k == (i : Int)) = false := by simp [hki]
            rw [HTq.out hki] at HTs HTo HW9 HZ3
            have hTe := HTq.out hki
            subst hTe
            have Hki : Hid _ := hki
            clear hki
            go_wp2_with (first
              | (refine wpList_store_row rfl 47 _ _ rfl w8.heap.size R3 rfl rfl 47 zi (heap_alloc_new _ _) (by rw [HTs.out]; exact inoSize) (by rw [HTs.out]; rfl) HTo.out ?_; rw [setRow_alloc_new, ← HW9.out, ← Hp3.out])
              | (refine wpList_load_rowW (by rfl) 47 _ rfl p2 rfl 47 X (0, 0) _ HZ2.out Try.underlying47 rfl (by rw [HXs.out]; exact inoSize) ?_)
              | (refine wpList_load_rowW (by rfl) 47 _ rfl D rfl 47 X (0, 0) _ HZD.out Try.underlying47 rfl (by rw [HXs.out]; exact inoSize) ?_)
              | (refine wpList_load_rowW (by rfl) 47 _ rfl p3 rfl 47 R3 (0, 0) _ HZ3.out Try.underlying47 rfl (by rw [HTs.out]; exact inoSize) ?_)
              | (refine wpList_load_rowW (by rfl) 47 _ rfl p1 rfl 47 R3 (0, 0) _ HZ1.out Try.underlying47 rfl (by rw [HTs.out]; exact inoSize) ?_)
              | (go_at_call 26; refine hA.mono ?_; rintro e w10 ⟨rfl, hb10⟩) | go_in)
            go_ret
            exact ⟨rfl, HO.out.trans ((HB9.out.trans (hb10.mono HB9.out.size)).mono HO.out.size)⟩
  all_goals
    go_wp2_with (first | (go_at_call 26; refine hA.mono ?_; rintro e w7 ⟨rfl, hb7⟩) | go_in)
    go_ret
    exact ⟨rfl, HO.out.trans ((HB1.out.trans (hb7.mono HB1.out.size)).mono HO.out.size)⟩

theorem own : ownKnob Try.prog.godebug = none := by kernel_rfl
theorem laidOut : laidOutB Try.prog = true := by kernel_rfl

set_option maxRecDepth 100000 in
theorem puts_lifted (os : Os) (started : os.Started) (H : Type) (enc : TypeId × Value → H) :
    ReturnsInHanded {} Try.checked os 8 .any (Rows.inodePutsSpec.pre6 enc Try.prog Try.f8 Rows.inodePutsRow.domain false) (Rows.inodePutsSpec.post enc Try.prog Try.f8 false true false false) := by
  refine returnsInHanded_of_change (C := Try.checked) own started (by kernel_rfl) Try.func8
    (ChangeSpec.witness6 (enc := enc) (C := Try.checked) false ⟨#[], #[.int .i64 0, .int .i64 0, .agg #[.int .i64 0, .int .i64 0, .int .i64 0, .int .i64 0, .int .i64 0, .int .i64 0, .int .i64 0, .int .i64 0, .int .i64 0]], []⟩ 8 (by kernel_rfl) (by kernel_rfl) (by kernel_rfl) (by kernel_rfl)) ?_
  intro W base args ds gs before hval0 hW hcnd _
  have hval : ∀ (j : Nat) t v, Try.f8.params[j]? = some t → args[j]? = some v → Value.okWide Try.prog W .any base t v := hval0
  have hW' := hW
  obtain ⟨p, q, hA0, hV, rfl, hfz, hnd⟩ := hW
  have hA : DataW.TrodAll enc Try.prog W 0 (fun _ => true) true Try.f8.params.toList args.toList ds p := hA0
  rw [Try.params8] at hA hval
  obtain ⟨v0, vs0, d0, ds0, p0, q0, hargs, rfl, rfl, h0, r0⟩ := trodAll_cons hA
  obtain ⟨v1, vs1, d1, ds1, p1, q1, rfl, rfl, rfl, h1, r1⟩ := trodAll_cons r0
  obtain ⟨v2, vs2, d2, ds2, p2, q2, rfl, rfl, rfl, h2, r2⟩ := trodAll_cons r1
  obtain ⟨rfl, rfl, rfl⟩ := trodAll_nil r2
  obtain rfl : args = #[v0, v1, v2] := by cases args; simp_all
  obtain ⟨rfl, rfl⟩ := trodVars_none hV
  obtain ⟨a0, rfl, rfl, rfl, w0⟩ := open_int Try.underlying3 (hval 0 3 v0 rfl rfl) h0
  obtain ⟨a1, rfl, rfl, rfl, w1⟩ := open_int Try.underlying3 (hval 1 3 v1 rfl rfl) h1
  have k2 := h2
  have lt2 : ∀ x ∈ p2, x.block < W.heap.size := by obtain ⟨m, hm⟩ := k2; exact DataW.trod_lt m _ _ _ hm
  obtain ⟨cs2, rfl, fit2⟩ := agg_fits Try.underlying47 inoKinds (hval 2 47 v2 rfl rfl) h2
  clear hA0 hval0
  obtain ⟨xs, hxl, hxf, hcs⟩ := inoOf fit2
  obtain rfl : cs2 = irow xs := Array.toList_inj.1 hcs
  have hwalk : Calls Try.prog 8 #[.int .i64 a0, .int .i64 a1, .agg (irow xs)] W fun e w' => e = .returned (.bool true) ∧ Below W.heap.size W w' := puts_walk a0 a1 xs hxl hxf W
  refine hwalk.mono fun e W' ⟨he, bel⟩ => ?_
  subst he
  exact ⟨_, rfl, _, _, _, [], _, [], hW', trodAll_mk1 (shut_bool Try.underlying4 _), (trodAll_cons_mk (shut_int Try.underlying3 w0) (trodAll_cons_mk (shut_int Try.underlying3 w1) (trodAll_cons_mk (Below.trod laidOut (by kernel_rfl) (of_decide_eq_true (by kernel_rfl)) k2 bel lt2) trodAll_mk0))), rfl, bel.frame _, fun h => by cases h⟩

theorem puts_holds : Rows.InodePutsSaid :=
  OpenClaim.holds_of_wide 8 Try.f8 rfl rfl rfl rfl rfl rfl rfl ⟨rfl, rfl, rfl, rfl, rfl⟩ rfl rfl rfl rfl rfl (by kernel_rfl) Try.func8 (by kernel_rfl)
    (of_decide_eq_true (by kernel_rfl)) (by unfold Func.isWrapper; first | (rw [if_pos (by decide +kernel)]; kernel_rfl) | (rw [if_neg (by decide +kernel)]; exact ⟨rfl, rfl⟩))
    (fun os started H enc _ => puts_lifted os started H enc)
#print axioms puts_holds
end Go.Proofs.Ytinjllnoonbjmaa
