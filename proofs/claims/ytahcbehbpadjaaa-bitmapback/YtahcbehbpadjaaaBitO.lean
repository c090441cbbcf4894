/- The reference of layer 14: Of. -/
import Derived.Test.YtahcbehbpadjaaaBitR
namespace Go.Proofs.Ytahcbehbpadjaaa
open Go.ChangeShapes Go.WideShapes Go.ChangeAt Go.RowKit Go.Lib
set_option linter.unusedVariables false

theorem and_one (x r : Nat) (hx : x < 18446744073709551616) : bits .and .u64 (((x : Nat) : Int) / 2 ^ r) 1 = ((x / 2 ^ r % 2 : Nat) : Int) := by
  have e : ((x : Nat) : Int) / 2 ^ r = ((x / 2 ^ r : Nat) : Int) := by simp
  have h := u64_and_nat (x / 2 ^ r) 1 (Nat.lt_of_le_of_lt (Nat.div_le_self _ _) hx) (by omega)
  rw [nat_mask1] at h
  rw [e]
  exact h
theorem one_bit (x r : Nat) : ((((x / 2 ^ r % 2 : Nat)) : Int) == 0) = !(x.testBit r) := by
  rw [Nat.testBit_eq_decide_div_mod_eq]
  generalize x / 2 ^ r = y
  rcases (by omega : y % 2 = 0 ∨ y % 2 = 1) with e | e <;> rw [e] <;> rfl

set_option maxHeartbeats 1000000 in
theorem rof_at (n : Int) (ws : List Nat) (v : Value) (w : World) (h : NRd w v ws) (hlt : ∀ x ∈ ws, x < 18446744073709551616) (hsz : ws.length ≤ 100) :
    Calls Try.prog 23 #[.int .i64 n, v] w fun e w' => ∃ p r, e = .returned (.tuple #[p, .int .i64 r]) ∧ Below w.heap.size w w' ∧
      ((r = 0 ∧ ofOK n ws) ∨ (r = 101 ∧ ¬ ofOK n ws)) := by
  have H : Hid (NRd w v ws) := h
  obtain ⟨a, cap, rfl⟩ := h.is
  clear h
  by_cases hn : 1 ≤ n ∧ n ≤ 1024
  · obtain ⟨n, rfl⟩ : ∃ m : Nat, n = (m : Int) := ⟨n.toNat, by omega⟩
    have hN := rnew_at n w (by omega) (by omega)
    have hd : ((n : Int) + 63).tdiv 64 = (((n + 63) / 64 : Nat) : Int) := by
      rw [Int.tdiv_eq_ediv_of_nonneg (by omega)]
      omega
    by_cases hl : ws.length = (n + 63) / 64
    · have HL : Hid (ws.length = (n + 63) / 64) := hl
      have hpos : 0 < ws.length := by omega
      rw [← hl] at hd
      have hWL : Hid (∀ i, i / 64 < ws.length → ws.getD (i / 64) 0 < 18446744073709551616) := fun i hi => by
        rw [List.getD_eq_getElem?_getD, List.getElem?_eq_getElem hi]
        exact hlt _ (List.getElem_mem hi)
      have HLt : Hid _ := hlt
      obtain ⟨L, hLq⟩ : ∃ L, L = ws.length := ⟨_, rfl⟩
      have HLq : Hid (L = ws.length) := hLq
      obtain ⟨g, o, cap', hv, hcell⟩ := NRd.has H.out hpos
      simp only [Value.slice.injEq] at hv
      obtain ⟨rfl, -, rfl⟩ := hv
      have HC : Hid (∀ i, i / 64 < ws.length → w.cell? ⟨g, o + i / 64, none⟩ = some (.int .u64 ((ws.getD (i / 64) 0 : Nat) : Int))) := fun i hi => hcell _ _ (by rw [List.getD_eq_getElem?_getD, List.getElem?_eq_getElem hi]; rfl)
      rw [← hLq] at hd hpos hsz ⊢
      clear hLq hcell hlt H hl
      go_enter Try.func23, Try.ntmps23
      go_wp2_with fail
      refine hN.mono ?_
      rintro e w1 ⟨rfl, hB, hb, hs⟩
      have HB : Hid _ := hB
      have Hb : Hid (Below w.heap.size w w1) := hb
      obtain ⟨c, hcq⟩ : ∃ b, b = w.heap.size + 1 := ⟨_, rfl⟩
      obtain ⟨h, hhq⟩ : ∃ gg, gg = w.heap.size := ⟨_, rfl⟩
      have HHQ : Hid (h = w.heap.size) := hhq
      have hwr := wrap_small L (by omega)
      rw [← hcq] at HB ⊢
      rw [← hhq] at HB
      clear hB hb hs hN hcq hhq
      go_wp2
      go_loopw [7] (fun s wr => ∃ (i : Nat) (B : List Bool), i ≤ 64 * L ∧ s = .int .i64 i ∧ RbAt wr c h B ∧ Hid (B.length = n) ∧ Below w.heap.size w wr ∧ ∀ j, j < i → n ≤ j → bt ws j = false) (fun s _ => 64 * L - (intOf s).toNat)
      case atStart => exact ⟨0, _, by omega, rfl, HB.out, by simp [Hid], Hb.out, fun j hj => by omega⟩
      case round =>
        clear HB Hb
        obtain ⟨i, B, hi, rfl, hB, HBl, hb, hA⟩ := hrel
        have HB : Hid _ := hB
        have Hb : Hid (Below w.heap.size w wr) := hb
        have HA : Hid _ := hA
        clear hA
        by_cases hlt : i < 64 * L
        · have hii : (i : Int) < 64 * (L : Int) := by omega
          have hq : i / 64 < L := by omega
          have hqw : i / 64 < ws.length := by rw [← HLq.out]; exact hq
          have c1 := HC.out i hqw
          have c1 : wr.cell? ⟨g, o + i / 64, none⟩ = _ := (hb.cell (cell_lt c1)).trans c1
          have ha := and_one (ws.getD (i / 64) 0) (i % 64) (hWL.out i hqw)
          have ho := one_bit (ws.getD (i / 64) 0) (i % 64)
          have hbt : (ws.getD (i / 64) 0).testBit (i % 64) = bt ws i := rfl
          rw [hbt] at ho
          have hd1 := tdiv64 i
          have ht1 := tmod64 i
          have hr64 : i % 64 < 64 := Nat.mod_lt _ (by omega)
          have c0 := hB.c0
          rw [HBl.out] at c0
          generalize ws.getD (i / 64) 0 / 2 ^ (i % 64) % 2 = t at *
          generalize ws.getD (i / 64) 0 = x at *
          obtain ⟨p, hp⟩ : ∃ p, p = i / 64 := ⟨_, rfl⟩
          obtain ⟨r, hr⟩ : ∃ r, r = i % 64 := ⟨_, rfl⟩
          have hwr := wrap_small p (by omega)
          rw [← hp] at hd1 hq c1
          rw [← hr] at ht1 hr64 ha
          clear hbt
          cases hB2 : bt ws i with
          | false =>
            rw [hB2] at ho
            have HBF : Hid (bt ws i = false) := hB2
            have ho : ((t : Int) == 0) = true := ho
            clear hp hr hB hb hqw hB2 HC hWL
            go_wp2
            go_roundw
            case rel =>
              refine ⟨i + 1, B, by omega, by go_num, HB.out, HBl, Hb.out, fun j hj hnj => ?_⟩
              by_cases e : j = i
              · rw [e]; exact HBF.out
              · exact HA.out j (by omega) hnj
            case measure => simp [intOf]; omega
          | true =>
            rw [hB2] at ho
            have HBF : Hid (bt ws i = true) := hB2
            have ho : ((t : Int) == 0) = false := ho
            by_cases hin : i < n
            · have g1 : decide ((n : Int) ≤ (i : Int)) = false := decide_eq_false (by omega)
              have hiN : (i : Int) < (n : Int) := by omega
              have c2 := hB.bl.cell (i := i) (by rw [HBl.out]; exact hin)
              have f2 := hB.bl.free i
              generalize B.getD i false = y at *
              clear hp hr hB hb hqw hB2 HC hWL
              go_wp2
              go_roundw
              case rel =>
                refine ⟨i + 1, _, by omega, by go_num, RbAt.set HB.out i true, by show _ = _; rw [List.length_set]; exact HBl.out, upd_belowR Hb.out (Upd.setCell h i wr _) (by have := HHQ.out; omega) Hb.out.size, fun j hj hnj => HA.out j (by omega) hnj⟩
              case measure => simp [intOf]; omega
            · have g1 : decide ((n : Int) ≤ (i : Int)) = true := decide_eq_true (by omega)
              have HNo : Hid (¬ Wf n ws) := fun k => by
                have := k.past i (by omega)
                rw [HBF.out] at this
                cases this
              clear hp hr hB hb hqw hB2 HC hWL
              go_wp2
              go_ret2
              exact ⟨_, _, rfl, Hb.out, Or.inr ⟨rfl, fun k => HNo.out k.2.2⟩⟩
        · have HY : Hid (Wf n ws) := ⟨HL.out, HLt.out, fun j hj => by
            by_cases q : j < i
            · exact HA.out j q hj
            · exact bt_far ws j (by rw [← HLq.out]; omega)⟩
          have hii : decide ((i : Int) < 64 * (L : Int)) = false := decide_eq_false (by omega)
          clear hB hb HC hWL
          go_wp2
          go_ret2
          exact ⟨_, _, rfl, Hb.out, Or.inl ⟨rfl, by omega, by omega, HY.out⟩⟩
    · have HNo : Hid (¬ Wf n ws) := fun k => hl k.len
      have hne : ((ws.length : Int) != (((n + 63) / 64 : Nat) : Int)) = true := by simp only [bne_iff_ne, ne_eq]; omega
      have hwr := wrap_small ((n + 63) / 64) (by omega)
      generalize (n + 63) / 64 = L at *
      clear hl H
      go_enter Try.func23, Try.ntmps23
      go_wp2_with fail
      refine hN.mono ?_
      rintro e w1 ⟨rfl, hB, hb, hs⟩
      have Hb : Hid (Below w.heap.size w w1) := hb
      clear hB hb hs hN
      go_wp2
      go_ret2
      exact ⟨_, _, rfl, Hb.out, Or.inr ⟨rfl, fun k => HNo.out k.2.2⟩⟩
  · have hN := rnew_no n w (by omega)
    go_enter Try.func23, Try.ntmps23
    go_wp2_with fail
    refine hN.mono ?_
    rintro e w1 ⟨rfl, hw⟩
    rw [hw]
    clear hw w1 hN
    go_wp2
    go_ret2
    exact ⟨_, _, rfl, Below.refl _ _, Or.inr ⟨rfl, fun k => hn ⟨k.1, k.2.1⟩⟩⟩
end Go.Proofs.Ytahcbehbpadjaaa
