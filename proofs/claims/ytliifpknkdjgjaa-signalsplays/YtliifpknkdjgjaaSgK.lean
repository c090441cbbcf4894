/- Package signals: read. -/
import Derived.Test.YtliifpknkdjgjaaSgJ
import Derived.Laws.IdiomCopy
namespace Go.Proofs.Ytliifpknkdjgjaa
open Go.RowKit Go.Lib
set_option linter.unusedVariables false

theorem SgR.hands {w w' : World} {row : Array Value} {o : Nat} {p : Sg} {h : List Int} (hR : SgR w row o p) (hl : h.length = 15) (hw : KeepW w w') : SgR w' (putA row o (uvs h)) o ⟨h, p.q, p.k⟩ := by
  have hs := hR.size
  have hu : (uvs h).length = 15 := by rw [uvs_len]; exact hl
  obtain ⟨a, c, h1, h2, h3⟩ := hR.stk
  refine ⟨by rw [putA_size]; exact hs, fun j hj => ?_, ?_, ?_, ?_, ⟨a, c, ?_, h2, h3.kept hw⟩⟩
  · rw [putA_in _ _ _ j (by omega) (by omega)]
    show (uvs h)[j]? = some (Value.int .u64 (h.getD j 0))
    unfold uvs
    rw [List.getElem?_map, List.getElem?_eq_getElem (by omega), List.getD_eq_getElem?_getD, List.getElem?_eq_getElem (by omega)]
    rfl
  · rw [putA_out _ _ _ _ (by omega)]; exact hR.pen
  · rw [putA_out _ _ _ _ (by omega)]; exact hR.inh
  · rw [putA_out _ _ _ _ (by omega)]; exact hR.pc
  · rw [putA_out _ _ _ _ (by omega)]; exact h1
theorem putA_same15 {vs : List Value} (o : Nat) (row : Array Value) (h : vs.length = 15) : Same o row (putA row o vs) := ⟨putA_size _ _ _, fun k hk => putA_out vs o row k (by omega)⟩
theorem other_w (x : Int) (h0 : 0 ≤ x) (h1 : x < 18446744073709551616) : bits .andNot .u64 x 65534 = ((x.toNat &&& 18446744073709486081 : Nat) : Int) ∧ ((((x.toNat &&& 18446744073709486081 : Nat) : Int)) != 0) = !okQ x := by
  obtain ⟨q, rfl⟩ : ∃ q : Nat, x = (q : Int) := ⟨x.toNat, by omega⟩
  rw [Int.toNat_natCast]
  exact ⟨u64_andNot_nat q 65534 (by omega) (by decide), other_bits q (by omega)⟩
set_option maxRecDepth 100000 in
set_option maxHeartbeats 8000000 in
theorem read_at (b o : Nat) (p0 : Sg) (row : Array Value) (a : Option Addr) (n cap : Nat) (D : List Int) (w : World) (hB : SB w b row) (hR : SgR w row o p0) (hk0 : p0.k = none) (hr : Rd w a D) (hn : n = D.length) (hcap : n ≤ cap) (hu : U64 D) (hn9 : n ≤ 2000) (hne : 0 < n → ∀ g off, a = some ⟨g, off, none⟩ → g ≠ b) :
    Calls Try.prog 38 #[.pointer (some ⟨b, o, none⟩), .slice a n cap] w fun x w' => (rd1 D = none → x = .returned (.tuple #[.int .i64 0, .bool false])) ∧ (∀ m p, rd1 D = some (m, p) → x = .returned (.tuple #[.int .i64 (m : Nat), .bool true]) ∧ ∃ row', SB w' b row' ∧ SgR w' row' o p ∧ Same o row row') ∧ Upd b w w' := by
  by_cases h17 : n < 17
  · have g0 : decide ((n : Int) < 17) = true := decide_eq_true (by omega)
    have HN : Hid (rd1 D = none) := by show _ = _; unfold rd1; rw [if_pos (by omega)]
    clear hB hR hr hn hu hn9 hne hk0
    go_enter Try.func38, Try.ntmps38
    go_wp2
    go_ret2
    exact ⟨fun _ => rfl, fun m p h => (by rw [HN.out] at h; cases h), Upd.refl _ _⟩
  · have g0 : decide ((n : Int) < 17) = false := decide_eq_false (by omega)
    obtain ⟨x15, h15⟩ : ∃ x, D[15]? = some x := ⟨D[15]'(by omega), List.getElem?_eq_getElem _⟩
    obtain ⟨x16, h16⟩ : ∃ x, D[16]? = some x := ⟨D[16]'(by omega), List.getElem?_eq_getElem _⟩
    have e15 : D.getD 15 0 = x15 := by rw [List.getD_eq_getElem?_getD, h15]; rfl
    have e16 : D.getD 16 0 = x16 := by rw [List.getD_eq_getElem?_getD, h16]; rfl
    obtain ⟨s, off, rfl, d15⟩ := hr 15 x15 h15
    obtain ⟨_, _, e1, d16⟩ := hr 16 x16 h16
    simp only [Option.some.injEq, Addr.mk.injEq, and_true] at e1
    obtain ⟨rfl, rfl⟩ := e1
    have hsb := hne (by omega) s off rfl
    obtain ⟨p15, q15⟩ := u64_get hu h15
    obtain ⟨p16, q16⟩ := u64_get hu h16
    have hl15 : (D.take 15).length = 15 := by rw [List.length_take]; omega
    have hu15 : (uvs (D.take 15)).length = 15 := by rw [uvs_len]; exact hl15
    have hsz := hR.size
    have hcp := fun ty => run_copy_cells (P := Try.prog) w 28 28 ty 27 b o 15 15 ⟨s, off, none⟩ n cap (uvs (D.take 15)) Try.underlying28 (by kernel_rfl) (by rw [hu15]; exact (Nat.min_eq_right (by omega)).symm)
      (fun j v hv => by
        obtain ⟨x, hx, rfl⟩ := uvs_get hv
        have hj : j < 15 := by have := (List.getElem?_eq_some_iff.1 hx).1; omega
        rw [List.getElem?_take_of_lt hj] at hx
        obtain ⟨_, _, e2, hc⟩ := hr j x hx
        simp only [Option.some.injEq, Addr.mk.injEq, and_true] at e2
        obtain ⟨rfl, rfl⟩ := e2
        have : (⟨s, off, none⟩ : Addr).add j = ⟨s, off + j, none⟩ := by simp [Addr.add]
        rw [this]
        exact hc)
      (fun j hj => by rw [hB.cell, Array.getElem?_eq_getElem (by omega)]; rfl) (fun j hj => hB.free _) (uvs_one _)
    rw [hu15] at hcp
    obtain ⟨w1, hw1⟩ : ∃ w1, w1 = w.setCells b o (uvs (D.take 15)) := ⟨_, rfl⟩
    have hu1 : Upd b w w1 := by rw [hw1]; exact upd_sets _ _ _ _
    have hB1 : SB w1 b (putA row o (uvs (D.take 15))) := by rw [hw1]; exact hB.sets _ _ _ _
    have hR1 := hR.hands hl15 (hB.kw hu1)
    have hs1 := putA_same15 o row hu15
    rw [← hw1] at hcp
    obtain ⟨row1, hrow1⟩ : ∃ r, r = putA row o (uvs (D.take 15)) := ⟨_, rfl⟩
    rw [← hrow1] at hB1 hR1 hs1
    have k15 := hu1.block s (by have := cell_lt d15; exact this) hsb
    have f15 : w1.cell? ⟨s, off + 15, none⟩ = some (.int .u64 x15) := cell_same d15 k15
    have f16 : w1.cell? ⟨s, off + 16, none⟩ = some (.int .u64 x16) := cell_same d16 k15
    have c15 := (hB1.cell (o + 15)).trans hR1.pen
    have r15 := hB1.free (o + 15)
    obtain ⟨w2, hw2⟩ : ∃ w2, w2 = w1.setCell ⟨b, o + 15, none⟩ (.int .u64 x15) := ⟨_, rfl⟩
    have hu2 : Upd b w1 w2 := by rw [hw2]; exact Upd.setCell _ _ _ _
    have hB2 : SB w2 b (row1.setIfInBounds (o + 15) (.int .u64 x15)) := by rw [hw2]; exact hB1.set _ _
    have hx15 : ((x15.toNat : Nat) : Int) = x15 := by omega
    have hR2 : SgR w2 (row1.setIfInBounds (o + 15) (.int .u64 x15)) o ⟨D.take 15, x15.toNat, p0.k⟩ := by
      have := hR1.pend x15.toNat (hB1.kw hu2)
      rw [hx15] at this
      exact this
    have hs2 : Same o row (row1.setIfInBounds (o + 15) (.int .u64 x15)) := hs1.trans (Same.set _ _ (by omega))
    generalize row1.setIfInBounds (o + 15) (.int .u64 x15) = row2 at *
    have hH : Calls Try.prog 45 #[.pointer (some ⟨b, o, none⟩), .int .i64 9] w2 fun x w' => x = .returned (.int .u64 ((D.take 15).getD 8 0)) ∧ w' = w2 := handler_at b o 8 ⟨D.take 15, x15.toNat, p0.k⟩ row2 w2 hB2 hR2 (by omega)
    have e8 : (D.take 15).getD 8 0 = D.getD 8 0 := by rw [List.getD_eq_getElem?_getD, List.getD_eq_getElem?_getD, List.getElem?_take_of_lt (by omega)]
    rw [e8] at hH
    have f16' : w2.cell? ⟨s, off + 16, none⟩ = some (.int .u64 x16) := cell_same f16 (hu2.block s (by have := cell_lt f16; exact this) hsb)
    have c15' := (hB2.cell (o + 15)).trans hR2.pen
    dsimp only at c15'
    rw [hx15] at c15'
    obtain ⟨hbt, hok⟩ := other_w x15 p15 q15
    have HU2 : Hid (Upd b w w2) := hu1.trans hu2
    have HB2 : Hid (SB w2 b row2) := hB2
    have HR2 : Hid (SgR w2 row2 o ⟨D.take 15, x15.toNat, none⟩) := by rw [← hk0]; exact hR2
    have HS2 : Hid (Same o row row2) := hs2
    have HW2 : Hid (w2 = w1.setCell ⟨b, o + 15, none⟩ (.int .u64 x15)) := hw2
    have hn15 : (15 : Int) < (n : Int) := by omega
    have hn16 : (16 : Int) < (n : Int) := by omega
    have HD : Hid (rd1 D = if D.getD 8 0 ≠ dfl ∨ okQ x15 = false ∨ 1 < x16 then none else if x16 = 0 then some (17, ⟨D.take 15, x15.toNat, none⟩) else (rdV (D.drop 17)).map (fun z => (19 + z.2.length, ⟨D.take 15, x15.toNat, some z⟩))) := by
      show _ = _
      unfold rd1
      rw [if_neg (by omega), e15, e16]
    have hrw : Rd w2 (some ⟨s, off, none⟩) D := by
      intro j x hx
      obtain ⟨_, _, e2, hc⟩ := hr j x hx
      simp only [Option.some.injEq, Addr.mk.injEq, and_true] at e2
      obtain ⟨rfl, rfl⟩ := e2
      exact ⟨s, off, rfl, cell_same hc ((hu1.trans hu2).block s (by have := cell_lt hc; exact this) hsb)⟩
    have HRw : Hid (Rd w2 (some ⟨s, off, none⟩) D) := hrw
    have HU : Hid (U64 D) := hu
    have HN : Hid (n = D.length) := hn
    generalize hq8 : D.getD 8 0 = x8 at *
    generalize hqb : (x15.toNat &&& 18446744073709486081 : Nat) = ob at *
    clear hB hR hr hn hu hne hk0 h15 h16 e15 e16 d15 d16 hl15 hu15 hw1 hu1 hB1 hR1 hs1 hrow1 k15 hw2 hu2 hB2 hR2 hs2 e8 hq8 hqb hrw hx15 h17 hsz
    go_enter Try.func38, Try.ntmps38
    go_upto_region 5 with fail
    rw [← HW2.out]
    clear f15 c15 r15 hcp HW2
    by_cases hbad : x8 ≠ dfl ∨ okQ x15 = false ∨ 1 < x16
    · have HNo : Hid (rd1 D = none) := by show _ = _; rw [HD.out, if_pos hbad]
      by_cases h8 : x8 = dfl
      · have g1 : (x8 != 18446744073709551615) = false := by rw [h8]; rfl
        cases hq : okQ x15 with
        | false =>
          rw [hq] at hok
          clear hbad h8 hq HD
          go_wp2_with fail
          refine hH.mono ?_
          rintro x w3 ⟨rfl, hw⟩
          rw [hw]
          clear hw w3 hH
          go_wp2
          go_ret2
          exact ⟨fun _ => rfl, fun m p h => (by rw [HNo.out] at h; cases h), HU2.out⟩
        | true =>
          rw [hq] at hok
          have g2 : decide (1 < x16) = true := decide_eq_true (by
            rcases hbad with h | h | h
            · exact absurd h8 h
            · rw [hq] at h; cases h
            · exact h)
          clear hbad h8 hq HD
          go_wp2_with fail
          refine hH.mono ?_
          rintro x w3 ⟨rfl, hw⟩
          rw [hw]
          clear hw w3 hH
          go_wp2
          go_ret2
          exact ⟨fun _ => rfl, fun m p h => (by rw [HNo.out] at h; cases h), HU2.out⟩
      · have g1 : (x8 != 18446744073709551615) = true := bne_iff_ne.2 h8
        clear hbad h8 HD
        go_wp2_with fail
        refine hH.mono ?_
        rintro x w3 ⟨rfl, hw⟩
        rw [hw]
        clear hw w3 hH
        go_wp2
        go_ret2
        exact ⟨fun _ => rfl, fun m p h => (by rw [HNo.out] at h; cases h), HU2.out⟩
    · have h8 : x8 = dfl := Classical.byContradiction (fun e => hbad (Or.inl e))
      have hq : okQ x15 = true := by
        cases e : okQ x15 with
        | true => rfl
        | false => exact absurd (Or.inr (Or.inl e)) hbad
      have hm : ¬ 1 < x16 := fun e => hbad (Or.inr (Or.inr e))
      have g1 : (x8 != 18446744073709551615) = false := by rw [h8]; rfl
      have g2 : decide (1 < x16) = false := decide_eq_false hm
      rw [hq] at hok
      by_cases hx0 : x16 = 0
      · have HYes : Hid (rd1 D = some (17, ⟨D.take 15, x15.toNat, none⟩)) := by show _ = _; rw [HD.out, if_neg hbad, if_pos hx0]
        have g3 : (x16 == 0) = true := by rw [hx0]; rfl
        clear hbad h8 hq hm hx0 HD
        go_wp2_with fail
        refine hH.mono ?_
        rintro x w3 ⟨rfl, hw⟩
        rw [hw]
        clear hw w3 hH
        go_wp2
        go_ret2
        refine ⟨fun h => (by rw [HYes.out] at h; cases h), fun m p h => ?_, HU2.out⟩
        rw [HYes.out] at h
        cases h
        exact ⟨rfl, row2, HB2.out, HR2.out, HS2.out⟩
      · have g3 : (x16 == 0) = false := beq_false_of_ne hx0
        obtain ⟨a2, c2, hcut, hc2, hrd⟩ := cut_wl D (some ⟨s, off, none⟩) n cap 17 HN.out (by omega) hcap
        have hcut' : ∀ V, (Instr.slice 28 (.slice (some ⟨s, off, none⟩) n cap) (some (.int .i64 17)) none none).run Try.prog V = .ok (.slice a2 (n - 17) c2) V := hcut
        have hV := readVm_at a2 (n - 17) c2 (D.drop 17) w2 (hrd w2 HRw.out) (by rw [List.length_drop, ← HN.out]) hc2 (HU.out.drop 17) (by omega)
        have HD2 : Hid (rd1 D = (rdV (D.drop 17)).map (fun z => (19 + z.2.length, ⟨D.take 15, x15.toNat, some z⟩))) := by show _ = _; rw [HD.out, if_neg hbad, if_neg hx0]
        generalize n - 17 = n2 at *
        clear hbad h8 hq hm hx0 HD hcut hrd
        go_wp2_with fail
        refine hH.mono ?_
        rintro x w3 ⟨rfl, hw⟩
        rw [hw]
        clear hw w3 hH
        go_wp2_with fail
        refine hV.mono ?_
        rintro x w3 ⟨hx1, hx2, hb3⟩
        cases hz : rdV (D.drop 17) with
        | none =>
          have hx := hx1 hz
          have HNo : Hid (rd1 D = none) := by show _ = _; rw [HD2.out, hz]; rfl
          have HU3 : Hid (Upd b w w3) := HU2.out.trans (Upd.of_below hb3)
          subst hx
          clear hx1 hx2 hb3 hV hz HD2 hcut'
          go_wp2
          go_ret2
          refine ⟨fun _ => rfl, fun m p h => (by rw [HNo.out] at h; cases h), HU3.out.trans (Upd.alloc _ _ _)⟩
        | some z =>
          obtain ⟨a', c', hx, hzc, hzT⟩ := hx2 z hz
          obtain ⟨pc, st⟩ := z
          dsimp only at hx hzc hzT
          have HYes : Hid (rd1 D = some (19 + st.length, ⟨D.take 15, x15.toNat, some (pc, st)⟩)) := by show _ = _; rw [HD2.out, hz]; rfl
          subst hx
          obtain ⟨V, hV0⟩ : ∃ V, V = w3.alloc (.cells #[.int .i64 pc, .slice a' st.length c'] 30) := ⟨_, rfl⟩
          obtain ⟨q, hq⟩ : ∃ q, q = w3.heap.size := ⟨_, rfl⟩
          have hbV : Below w3.heap.size w3 V := by rw [hV0]; exact below_alloc _ _
          have hB3 := (HB2.out.below hb3).below hbV
          have hK3 : KeepW w2 V := (KeepW.below hb3).trans (KeepW.below hbV)
          have hR3 := HR2.out.kept hK3
          have k0 : V.heap[q]? = some (.cells #[.int .i64 pc, .slice a' st.length c'] 30 (0, 0)) := by rw [hV0, hq]; exact heap_alloc_new _ _
          have y16 := (hB3.cell (o + 16)).trans hR3.inh
          obtain ⟨a0, c0, e18, -, -⟩ := hR3.stk
          have y17 := (hB3.cell (o + 17)).trans hR3.pc
          have y18 := (hB3.cell (o + 18)).trans e18
          have z16 := (hB3.drew.cell (o + 16)).trans hR3.inh
          have z17 := (hB3.drew.cell (o + 17)).trans hR3.pc
          have z18 := (hB3.drew.cell (o + 18)).trans e18
          have x16a := hB3.free (o + 16)
          have x17a := hB3.free (o + 17)
          have x18a := hB3.free (o + 18)
          have w16 := hB3.drew.free (o + 16)
          have w17 := hB3.drew.free (o + 17)
          have w18 := hB3.drew.free (o + 18)
          have v0 : V.cell? ⟨q, 0, none⟩ = some (.int .i64 pc) := by rw [cell_of_heap k0]; rfl
          have v1 : V.cell? ⟨q, 1, none⟩ = some (.slice a' st.length c') := by rw [cell_of_heap k0]; rfl
          have u0 : V.drew.cell? ⟨q, 0, none⟩ = some (.int .i64 pc) := v0
          have u1 : V.drew.cell? ⟨q, 1, none⟩ = some (.slice a' st.length c') := v1
          have hqb : q ≠ b := by have := HB2.out.lt; have := hb3.size; omega
          have HF : Hid (∃ row', SB (((V.drew.setCell ⟨b, o + 16, none⟩ (.bool true)).setCell ⟨b, o + 17, none⟩ (.int .i64 pc)).setCell ⟨b, o + 18, none⟩ (.slice a' st.length c')) b row' ∧ SgR (((V.drew.setCell ⟨b, o + 16, none⟩ (.bool true)).setCell ⟨b, o + 17, none⟩ (.int .i64 pc)).setCell ⟨b, o + 18, none⟩ (.slice a' st.length c')) row' o ⟨D.take 15, x15.toNat, some (pc, st)⟩ ∧ Same o row row') := by
            have hu := upd_three b o V.drew (.bool true) (.int .i64 pc) (.slice a' st.length c')
            refine ⟨_, hB3.drew.three _ _ _, ?_, HS2.out.trans (same_three o row2 (.bool true) (.int .i64 pc) (.slice a' st.length c'))⟩
            have hkd : KeepW V V.drew := KeepW.below (Below.refl V.heap.size V).drew
            exact (hR3.kept hkd).three (k := some (pc, st)) a' c' hzc (((hzT.kept (KeepW.below hbV)).kept hkd).kept (hB3.drew.kw hu))
          have HU3 : Hid (Upd b w (((V.drew.setCell ⟨b, o + 16, none⟩ (.bool true)).setCell ⟨b, o + 17, none⟩ (.int .i64 pc)).setCell ⟨b, o + 18, none⟩ (.slice a' st.length c'))) := by
            have hu := upd_three b o V.drew (.bool true) (.int .i64 pc) (.slice a' st.length c')
            exact ((HU2.out.trans (Upd.of_below hb3)).trans (Upd.of_below hbV)).trans ((Upd.drew b V).trans hu)
          have HV0 : Hid _ := hV0
          have HQ : Hid (q = w3.heap.size) := hq
          have hqs : IntKind.i64.wrap (19 + (st.length : Int)) = 19 + (st.length : Int) := by
            have : st.length ≤ 32 := by
              match hD : D.drop 17, hz with
              | x :: y :: t, hz =>
                rw [rdV] at hz
                split at hz
                · cases hz
                · cases hz; rw [List.length_take]; omega
            simp [IntKind.wrap, IntKind.bits, IntKind.signed]; omega
          rw [show (⟨D.take 15, x15.toNat, none⟩ : Sg).k = none from rfl] at y16 z16
          generalize (⟨D.take 15, x15.toNat, none⟩ : Sg).pc = kpc at *
          generalize (⟨D.take 15, x15.toNat, none⟩ : Sg).st.length = kl at *
          generalize hsl : st.length = sl at *
          clear hx1 hx2 hb3 hV hz HD2 hcut' hV0 hbV hB3 hK3 hR3 k0 e18 hq hzT hzc hsl
          go_upto_region 13 with fail
          rw [← HV0.out, ← HQ.out]
          clear HV0
          go_region
          all_goals
            go_wp2
            go_ret2
            obtain ⟨row', e1, e2, e3⟩ := HF.out
            refine ⟨fun h => (by rw [HYes.out] at h; cases h), fun m p h => ?_, HU3.out⟩
            rw [HYes.out] at h
            cases h
            exact ⟨by simp, row', e1, e2, e3⟩
end Go.Proofs.Ytliifpknkdjgjaa
