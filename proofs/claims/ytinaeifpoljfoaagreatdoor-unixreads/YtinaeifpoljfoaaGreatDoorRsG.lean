import Derived.Test.YtinaeifpoljfoaaGreatDoorRsATRsF
set_option linter.all false
set_option maxRecDepth 100000
set_option maxHeartbeats 16000000
namespace Go.Proofs.YtinaeifpoljfoaaGreatDoor
open Go.RowKit Go.Lib
namespace Ow
end Ow
namespace Sg
open Ow
theorem xdecode_at (a : Option Addr) (n cap : Nat) (D : List Int) (w : World) (hr : Rd w a D) (hn : n = D.length) (hcap : n ≤ cap) (hu : U64 D) (hn9 : n ≤ 3000) :
  Calls Tryz.prog 21 #[.slice a n cap] w fun x w' => (∃ p, x = .returned (.tuple #[.pointer p, .int .i64 (deE D)])) ∧ Below w.heap.size w w' := by
 have hNew := xnew_at w;have HRd := hid hr;have HU := hid hu;have HN := hid hn;obtain ⟨b, hb⟩ : ∃ b, b = w.heap.size := ⟨_, rfl⟩;have HBb := hid hb;clear hr hu hn
 go_enter Tryz.func21, Tryz.ntmps21
 go_wp2_with fail
 refine hNew.mono ?_;rintro x w1 ⟨rfl, hA1, hb1⟩;rw [← hb] at hA1 ⊢;have HA := hid hA1;have HB1 := hid hb1;clear hNew hA1 hb1 hb;go_wp2
 go_loopw [5, 6] (fun s i wr => ∃ (k : Nat) (ak : Option Addr) (nk ck : Nat) (Dk : List Int) (S : SS), k ≤ 8 ∧ i = .int .i64 k ∧ .slice ak nk ck = s ∧ nk = Dk.length ∧ nk ≤ ck ∧ nk ≤ 3000 ∧ Rd w ak Dk ∧ U64 Dk ∧ Step D Dk S k ∧ SOk S ∧ (∀ j, k ≤ j → S j = Sg.first) ∧ RgAt wr b S ∧ Below w.heap.size w wr) (fun _ i _ => 8 - (intOf i).toNat)
 case atStart => exact ⟨0, a, n, cap, D, SS.first, by omega, rfl, rfl, HN.out, hcap, hn9, HRd.out, HU.out, Or.inl rfl, ok_first, fun _ _ => rfl, HA.out, HB1.out⟩
 case round =>
  obtain ⟨k, ak, nk, ck, Dk, S, hk, rfl, rfl, hnk, hck, hn9k, hRk, hUk, hSt, hF, hno, hA, hB⟩ := hrel;have HB := hid hB;have HSt := hid hSt;have HF := hid hF;have HNo := hid hno;have HRk := hid hRk;have HUk := hid hUk;have HNk := hid hnk;clear HA HB1;have HA := hid hA
  by_cases hlt : k < 8
  ·have i1 : decide ((k : Int) < 8) = true := decide_eq_true (by omega)
   have hki : (k : Int) < 8 := by omega
   by_cases h17 : nk < 17
   ·have i2 : decide ((nk : Int) < 17) = true := decide_eq_true (by omega)
    have HE : Hid (deE D = 101) := deE_no (hSt.bad hlt (short_none (by omega)));clear hSt hF hno hA hB hRk hUk hnk h17 hn9 hcap;go_wp2
    go_ret2
    exact ⟨⟨none, by rw [HE.out]; rfl⟩, HB.out⟩
   ·have i2 : decide ((nk : Int) < 17) = false := decide_eq_false (by omega)
    obtain ⟨x8, h8⟩ : ∃ x, Dk[8]? = some x := ⟨Dk[8]'(by omega), List.getElem?_eq_getElem _⟩;obtain ⟨x15, h15⟩ : ∃ x, Dk[15]? = some x := ⟨Dk[15]'(by omega), List.getElem?_eq_getElem _⟩;obtain ⟨x16, h16⟩ : ∃ x, Dk[16]? = some x := ⟨Dk[16]'(by omega), List.getElem?_eq_getElem _⟩
    have HE8 : Hid (Dk.getD 8 0 = x8) := by show _ = _; rw [List.getD_eq_getElem?_getD, h8]; rfl
    have HE15 : Hid (Dk.getD 15 0 = x15) := by show _ = _; rw [List.getD_eq_getElem?_getD, h15]; rfl
    have HE16 : Hid (Dk.getD 16 0 = x16) := by show _ = _; rw [List.getD_eq_getElem?_getD, h16]; rfl
    obtain ⟨s, off, rfl, d15⟩ := hRk 15 x15 h15;obtain ⟨_, _, e1, d16⟩ := hRk 16 x16 h16;simp only [Option.some.injEq, Addr.mk.injEq, and_true] at e1;obtain ⟨rfl, rfl⟩ := e1;obtain ⟨p15, q15⟩ := u64_get hUk h15;obtain ⟨p16, q16⟩ := u64_get hUk h16
    have hsw : s < w.heap.size := by have := cell_lt d15; exact this
    have hsb : s ≠ b := by have := HBb.out; omega
    obtain ⟨row, hRB, hRR⟩ := hA;have HRB := hid hRB;have HRR := hid hRR;have HD15 := hid d15;have HD16 := hid d16
    have hR0 : RgR wr row (k * 33) (part Dk x15.toNat 0) := by
     rw [part_zero, ← hno k (Nat.le_refl _)];exact hRR.at' k hlt
    have HR0 := hid hR0
    have hnk15 : (15 : Int) < (nk : Int) := by omega
    have hnk16 : (16 : Int) < (nk : Int) := by omega
    have hkw : k * 33 + 33 ≤ row.size := by rw [hRR.size]; omega
    have HLn : Hid (17 ≤ Dk.length) := by show 17 ≤ Dk.length; omega
    clear hSt hF hno hB hRk hUk hnk hRB hRR h8 h15 h16 d15 d16 hR0 HA hn9 hcap;go_wp2;generalize hwx : wr = wq at *;clear hwx
    go_loopw [8] (fun i wr => ∃ (j : Nat) (row' : Array Value), j ≤ 15 ∧ i = .int .i64 j ∧ RB wr b row' ∧ RgR wr row' (k * 33) (part Dk x15.toNat j) ∧ SameR (k * 33) row row' ∧ Upd b wq wr) (fun i _ => 15 - (intOf i).toNat)
    case atStart => exact ⟨0, row, by omega, rfl, HRB.out, HR0.out, SameR.refl _ _, Upd.refl _ _⟩
    case round =>
     clear HR0;obtain ⟨j, row', hj, rfl, hRB2, hRR2, hSm, hUp⟩ := hrel;have HSm := hid hSm;have HUp := hid hUp;have HRB2 := hid hRB2;have HRR2 := hid hRR2;have HB2 : Hid (Below w.heap.size w wr) := HB.out.trans (hUp.below (by have := HBb.out; omega) HB.out.size);have hs' : row'.size = row.size := hSm.1
     by_cases hjl : j < 15
     ·have j1 : decide ((j : Int) < 15) = true := decide_eq_true (by omega)
      have hji : (j : Int) < 15 := by omega
      have hjn : (j : Int) < (nk : Int) := by omega
      obtain ⟨y, hy⟩ : ∃ y, Dk[j]? = some y := ⟨Dk[j]'(by have := HLn.out; omega), List.getElem?_eq_getElem _⟩;obtain ⟨_, _, e1, dj⟩ := HRk.out j y hy;simp only [Option.some.injEq, Addr.mk.injEq, and_true] at e1;obtain ⟨rfl, rfl⟩ := e1;have c0 := (HB2.out.cell (cell_lt dj)).trans dj;have c0' : wr.drew.cell? ⟨s, off + j, none⟩ = some (.int .u64 y) := c0;have c1 := (hRB2.cell (k * 33 + j)).trans (hRR2.hnd j hjl);have c1' : wr.drew.cell? ⟨b, k * 33 + j, none⟩ = _ := c1;have f1 := hRB2.free (k * 33 + j);have f1' : wr.drew.frozen? ⟨b, k * 33 + j, none⟩ = false := f1;obtain ⟨V, hV⟩ : ∃ V, V = (wr.setCell ⟨b, k * 33 + j, none⟩ (.int .u64 y)).drew := ⟨_, rfl⟩
      have hu1 : Upd b wr V := by rw [hV]; exact (Upd.setCell b _ wr _).trans (Upd.drew b _)
      have hRB3 : RB V b (row'.setIfInBounds (k * 33 + j) (.int .u64 y)) := by rw [hV]; exact RB.drew (hRB2.set _ _)
      have e15 := (HB2.out.cell (cell_lt HD15.out)).trans HD15.out;have e15v : V.cell? ⟨s, off + 15, none⟩ = some (.int .u64 x15) := cell_same e15 (hu1.block s (by have := cell_lt e15; exact this) hsb);have e15v' : V.drew.cell? ⟨s, off + 15, none⟩ = some (.int .u64 x15) := e15v;have g1 := hRB3.cell (k * 33 + 15 + j);rw [Array.getElem?_setIfInBounds, if_neg (by omega), hRR2.pen j hjl] at g1;have g1' : V.drew.cell? ⟨b, k * 33 + 15 + j, none⟩ = _ := g1;have r1 := hRB3.free (k * 33 + 15 + j);have r1' : V.drew.frozen? ⟨b, k * 33 + 15 + j, none⟩ = false := r1;have HBt : Hid ((bits .and .u64 (x15 / 2 ^ (j + 1)) 1 == 1) = x15.toNat.testBit (j + 1)) := shr_bit p15 q15 (j + 1)
      have hs1 : IntKind.i64.wrap ((j : Int) + 1) = (j : Int) + 1 := by simp [IntKind.wrap, IntKind.bits, IntKind.signed]; omega
      have HV := hid hV
      have HFin : Hid (∀ bt : Bool, bt = x15.toNat.testBit (j + 1) → RB ((V.setCell ⟨b, k * 33 + 15 + j, none⟩ (.bool bt)).drew) b ((row'.setIfInBounds (k * 33 + j) (.int .u64 y)).setIfInBounds (k * 33 + 15 + j) (.bool bt)) ∧ RgR ((V.setCell ⟨b, k * 33 + 15 + j, none⟩ (.bool bt)).drew) ((row'.setIfInBounds (k * 33 + j) (.int .u64 y)).setIfInBounds (k * 33 + 15 + j) (.bool bt)) (k * 33) (part Dk x15.toNat (j + 1)) ∧ SameR (k * 33) row ((row'.setIfInBounds (k * 33 + j) (.int .u64 y)).setIfInBounds (k * 33 + 15 + j) (.bool bt)) ∧ Upd b wq ((V.setCell ⟨b, k * 33 + 15 + j, none⟩ (.bool bt)).drew)) := fun bt hbt => by
       subst hbt;have hu2 : Upd b V ((V.setCell ⟨b, k * 33 + 15 + j, none⟩ (.bool (x15.toNat.testBit (j + 1)))).drew) := (Upd.setCell b _ V _).trans (Upd.drew b _);exact ⟨RB.drew (hRB3.set _ _), part_step hRR2 hjl hy (hRB2.kw hu1) (hRB3.kw hu2), (hSm.trans (SameR.set _ _ (by omega))).trans (SameR.bit _ _ (by omega)), (hUp.trans hu1).trans hu2⟩
      generalize (part Dk x15.toNat j).q.testBit (j + 1) = ob at *;generalize (part Dk x15.toNat j).h.getD j 0 = oh at *;clear hRB2 hRR2 hSm hUp hV hu1 hRB3 e15 dj hs'
      go_wp2_with fail
      go_region
      all_goals
       rw [← HV.out];clear HV c0 c0' c1 c1' f1 f1'
       go_wp2_with fail
       go_region
       all_goals
        obtain ⟨e1, e2, e3, e4⟩ := HFin.out _ HBt.out;go_wp2;go_roundw
        case rel => exact ⟨j + 1, _, by omega, by go_num, e1, e2, e3, e4⟩
        case measure => simp [intOf]; omega
     ·obtain rfl : j = 15 := by omega
      have j1 : decide (((15 : Nat) : Int) < 15) = false := rfl
      have hRRa : RgR wr row' (k * 33) ⟨Dk.take 15, mq x15.toNat, none⟩ := by rw [← part_all]; exact hRR2
      have HRRa := hid hRRa;have e16 := (HB2.out.cell (cell_lt HD16.out)).trans HD16.out;have c30 := (hRB2.cell (k * 33 + 30)).trans hRRa.inh;have f30 := hRB2.free (k * 33 + 30);dsimp only [Option.isSome] at c30;have HS' := hid hs'
      have HW : Hid (∀ gb : Bool, RB (wr.setCell ⟨b, k * 33 + 30, none⟩ (.bool gb)) b (row'.setIfInBounds (k * 33 + 30) (.bool gb)) ∧ (wr.setCell ⟨b, k * 33 + 30, none⟩ (.bool gb)).cell? ⟨b, k * 33 + 8, none⟩ = some (.int .u64 x8) ∧ (wr.setCell ⟨b, k * 33 + 30, none⟩ (.bool gb)).cell? ⟨b, k * 33 + 30, none⟩ = some (.bool gb) ∧ Upd b wr (wr.setCell ⟨b, k * 33 + 30, none⟩ (.bool gb))) := fun gb => by
       have h1 := hRB2.set (k * 33 + 30) (.bool gb);have v8 := h1.cell (k * 33 + 8);rw [Array.getElem?_setIfInBounds, if_neg (by omega), hRRa.hnd 8 (by omega)] at v8
       have e8 : (⟨Dk.take 15, mq x15.toNat, none⟩ : Sg).h.getD 8 0 = x8 := by
        show (Dk.take 15).getD 8 0 = x8
        rw [← HE8.out, List.getD_eq_getElem?_getD, List.getD_eq_getElem?_getD, List.getElem?_take_of_lt (by omega)]
       rw [e8] at v8;have v30 := h1.cell (k * 33 + 30);rw [Array.getElem?_setIfInBounds, if_pos rfl, if_pos (by omega)] at v30;exact ⟨h1, v8, v30, Upd.setCell _ _ _ _⟩
      obtain ⟨a2, c2, hcut, hc2, hrd⟩ := cut_wl Dk (some ⟨s, off, none⟩) nk ck 17 HNk.out (by omega) hck;have hcut' : ∀ V, (Instr.slice 22 (.slice (some ⟨s, off, none⟩) nk ck) (some (.int .i64 17)) none none).run Tryz.prog V = .ok (.slice a2 (nk - 17) c2) V := hcut
      have HR2 : Hid (Rd w a2 (Dk.drop 17)) := by
       intro i x hx;have hl := (List.getElem?_eq_some_iff.1 hx).1;have := hrd w HRk.out;exact this i x hx
      have HN2 : Hid (nk - 17 = (Dk.drop 17).length) := by show _ = _; rw [List.length_drop, ← HNk.out]
      have hn29 : nk - 17 ≤ 3000 := by omega
      have hU2 : U64 (Dk.drop 17) := HUk.out.drop 17;generalize nk - 17 = n2 at *;clear hRB2 hRR2 hSm hUp hs' hRRa hcut hrd
      by_cases h8 : x8 = dfl
      ·have g8 : (x8 != 18446744073709551615) = false := by rw [h8]; rfl
       have H8 : Hid (Dk.getD 8 0 = dfl) := HE8.out.trans h8
       by_cases hx1 : x16 = 1
       ·have g16 : (x16 == 1) = true := by rw [hx1]; rfl
        have HX : Hid (Dk.getD 16 0 = 1) := HE16.out.trans hx1;obtain ⟨r1, r2, r3, r4⟩ := HW.out true;obtain ⟨W1, hW1⟩ : ∃ W1, W1 = wr.setCell ⟨b, k * 33 + 30, none⟩ (.bool true) := ⟨_, rfl⟩;rw [← hW1] at r1 r2 r3 r4;have HW1 := hid hW1;have HR1 := hid r1;have HU1 := hid r4;have HB3 : Hid (Below w.heap.size w W1) := HB2.out.trans (r4.below (by have := HBb.out; omega) HB2.out.size);clear hW1 r1 r4 hx1 h8
        by_cases hn2 : n2 < 2
        ·have i3 : decide ((n2 : Int) < 2) = true := decide_eq_true (by omega)
         have hz : rdV (Dk.drop 17) = none := by
          have := HN2.out
          match hD : Dk.drop 17, this with
          | [], _ => rfl
          | [x], _ => rfl
          | x :: y :: r, this => simp at this; omega
         have HE : Hid (deE D = 101) := deE_no (HSt.out.bad hlt (vm_none HX.out hz));clear hz hn2 hn29 hU2 h17
         go_upto_region 15 with fail
         rw [← HW1.out];clear HW1 c30 f30 e16;go_wp2
         go_ret2
         exact ⟨⟨none, by rw [HE.out]; rfl⟩, HB3.out⟩
        ·have i3 : decide ((n2 : Int) < 2) = false := decide_eq_false (by omega)
         obtain ⟨pc, c, t, hDt⟩ : ∃ pc c t, Dk.drop 17 = pc :: c :: t := by
          have := HN2.out
          match hD : Dk.drop 17, this with
          | [], this => simp at this; omega
          | [x], this => simp at this; omega
          | x :: y :: r, _ => exact ⟨x, y, r, rfl⟩
         have hnl : n2 = t.length + 2 := by have := HN2.out; rw [hDt] at this; exact this
         obtain ⟨s2, off2, rfl, d0⟩ := HR2.out 0 pc (by rw [hDt]; rfl);obtain ⟨_, _, e1, d1⟩ := HR2.out 1 c (by rw [hDt]; rfl);simp only [Option.some.injEq, Addr.mk.injEq, and_true] at e1;obtain ⟨rfl, rfl⟩ := e1;rw [Nat.add_zero] at d0;obtain ⟨p0, p1⟩ := u64_get hU2 (j := 0) (x := pc) (by rw [hDt]; rfl);obtain ⟨q0, q1⟩ := u64_get hU2 (j := 1) (x := c) (by rw [hDt]; rfl);have y0 := (HB3.out.cell (cell_lt d0)).trans d0;have y1 := (HB3.out.cell (cell_lt d1)).trans d1
         have n0 : (0 : Int) < (n2 : Int) := by omega
         have n1 : (1 : Int) < (n2 : Int) := by omega
         have hw1 : IntKind.i64.wrap ((n2 : Int) - 2) = (n2 : Int) - 2 := by simp [IntKind.wrap, IntKind.bits, IntKind.signed]; omega
         clear d0 d1
         by_cases hpc : 1048576 < pc
         ·have i4 : decide (1048576 < pc) = true := decide_eq_true hpc
          have hz : rdV (Dk.drop 17) = none := by rw [hDt, rdV, if_pos (Or.inl hpc)]
          have HE : Hid (deE D = 101) := deE_no (HSt.out.bad hlt (vm_none HX.out hz));clear hz hn2 hn29 hU2 h17 hDt hnl p0 p1 q0 q1 hpc
          go_upto_region 15 with fail
          rw [← HW1.out];clear HW1 c30 f30 e16;go_wp2
          go_ret2
          exact ⟨⟨none, by rw [HE.out]; rfl⟩, HB3.out⟩
         ·have i4 : decide (1048576 < pc) = false := decide_eq_false hpc
          by_cases hc : 32 < c
          ·have i5 : decide (32 < c) = true := decide_eq_true hc
           have hz : rdV (Dk.drop 17) = none := by rw [hDt, rdV, if_pos (Or.inr (Or.inl hc))]
           have HE : Hid (deE D = 101) := deE_no (HSt.out.bad hlt (vm_none HX.out hz));clear hz hn2 hn29 hU2 h17 hDt hnl p0 p1 q0 q1 hpc hc
           go_upto_region 15 with fail
           rw [← HW1.out];clear HW1 c30 f30 e16;go_wp2
           go_ret2
           exact ⟨⟨none, by rw [HE.out]; rfl⟩, HB3.out⟩
          ·have i5 : decide (32 < c) = false := decide_eq_false hc
           obtain ⟨m, rfl⟩ : ∃ m : Nat, c = (m : Int) := ⟨c.toNat, by omega⟩
           have hwm : IntKind.i64.wrap (m : Int) = (m : Int) := by simp [IntKind.wrap, IntKind.bits, IntKind.signed]; omega
           by_cases hl : (n2 : Int) - 2 < (m : Int)
           ·have i6 : decide ((n2 : Int) - 2 < (m : Int)) = true := decide_eq_true hl
            have hz : rdV (Dk.drop 17) = none := by rw [hDt, rdV, if_pos (Or.inr (Or.inr (by omega)))]
            have HE : Hid (deE D = 101) := deE_no (HSt.out.bad hlt (vm_none HX.out hz));clear hz hn2 hn29 hU2 h17 hDt hnl p0 p1 q0 q1 hpc hc hl
            go_upto_region 15 with fail
            rw [← HW1.out];clear HW1 c30 f30 e16;go_wp2
            go_ret2
            exact ⟨⟨none, by rw [HE.out]; rfl⟩, HB3.out⟩
           ·have i6 : decide ((n2 : Int) - 2 < (m : Int)) = false := decide_eq_false hl
            have hs2w : s2 < w.heap.size := by have := (HR2.out 0 pc (by rw [hDt]; rfl)); obtain ⟨g', o', e', hc'⟩ := this; simp only [Option.some.injEq, Addr.mk.injEq, and_true] at e'; obtain ⟨rfl, rfl⟩ := e'; exact cell_lt hc'
            have hs2b : s2 ≠ b := by have := HBb.out; omega
            obtain ⟨st, hste⟩ : ∃ st, st = t.take m := ⟨_, rfl⟩
            have hst : st.length = m := by rw [hste, List.length_take]; omega
            have hz : rdV (Dk.drop 17) = some (pc, st) := by rw [hDt, rdV, if_neg (by omega), Int.toNat_natCast, hste]
            obtain ⟨a5, c5, hcutb, hrdb⟩ := cut_wb (Dk.drop 17) (some ⟨s2, off2, none⟩) n2 c2 2 (2 + m) HN2.out (by omega) (by omega) hc2;obtain ⟨a6, c6, hcutc, hc6, hrdc⟩ := cut_wl (Dk.drop 17) (some ⟨s2, off2, none⟩) n2 c2 (2 + m) HN2.out (by omega) hc2
            have e2m : (((2 + m : Nat)) : Int) = 2 + (m : Int) := by omega
            rw [show 2 + m - 2 = m by omega] at hcutb hrdb
            have hcutb' : ∀ V, (Instr.slice 22 (.slice (some ⟨s2, off2, none⟩) n2 c2) (some (.int .i64 2)) (some (.int .i64 (2 + (m : Int)))) none).run Tryz.prog V = .ok (.slice a5 m c5) V := by rw [← e2m]; exact hcutb
            have hcutc' : ∀ V, (Instr.slice 22 (.slice (some ⟨s2, off2, none⟩) n2 c2) (some (.int .i64 (2 + (m : Int)))) none none).run Tryz.prog V = .ok (.slice a6 (n2 - (2 + m)) c6) V := by rw [← e2m]; exact hcutc
            have hrd5 : Rd w a5 st := by have := hrdb w HR2.out; rw [hDt] at this; rw [hste]; exact this
            have HR6 : Hid (Rd w a6 ((Dk.drop 17).drop (2 + m))) := hrdc w HR2.out
            have HN6 : Hid (n2 - (2 + m) = ((Dk.drop 17).drop (2 + m)).length) := by show _ = _; rw [List.length_drop, ← HN2.out]
            have HU6 : Hid (U64 ((Dk.drop 17).drop (2 + m))) := hU2.drop _
            have hn6 : n2 - (2 + m) ≤ 3000 := by omega
            obtain ⟨a7, c7, w3, hrun, hown, hU7⟩ := appS (w := W1.drew) (B := W1.heap.size) (n := 0) (c := 0) (a := none) (sa := a5) (cap := c5) (D := []) (E := st) (World.ownsRow_nil _ _ _ 1) rfl (Nat.le_refl _) (by omega) hst (by omega) (hrd5.below HB3.out.drew);rw [List.nil_append, Nat.zero_add] at hown;rw [Nat.zero_add] at hrun;have hrun' : ∀ ty, (Builtin.append_ #[22, 22] ty #[.slice none 0 0, .slice a5 m c5]).run Tryz.prog W1.drew = .ok (.slice a7 m c7) w3 := hrun;have hbw : Below W1.heap.size W1 w3 := (Below.refl W1.heap.size W1).drew.trans hU7.bel;have y0d : W1.drew.cell? ⟨s2, off2, none⟩ = some (.int .u64 pc) := y0;have y0' : w3.cell? ⟨s2, off2, none⟩ = some (.int .u64 pc) := cell_same y0 (hbw.block s2 (by have := cell_lt y0; exact this))
            have hown2 : w3.ownsRow W1.heap.size 45 1 (.slice a7 st.length c7) st.length (uvs st) := by rw [hst]; rw [hst] at hown; exact hown
            obtain ⟨a8, c8, hv8, hcc8, hT8⟩ := own_trd hown2;simp only [Value.slice.injEq] at hv8;obtain ⟨rfl, -, rfl⟩ := hv8;have hRB3 := HR1.out.below hbw
            have hsz3 : (row'.setIfInBounds (k * 33 + 30) (.bool true)).size = row.size := by rw [Array.size_setIfInBounds]; exact HS'.out
            have HTh : Hid (w3.there b (k * 33 + 31) 2) := hRB3.there _ _ (by omega);obtain ⟨V, hV⟩ : ∃ V, V = w3.setCells b (k * 33 + 31) [.int .i64 pc, .slice a7 m c7] := ⟨_, rfl⟩
            have hRBV : RB V b (putA (row'.setIfInBounds (k * 33 + 30) (.bool true)) (k * 33 + 31) [.int .i64 pc, .slice a7 m c7]) := by rw [hV]; exact RB.sets _ _ _ _ hRB3
            have huV : Upd b w3 V := by rw [hV]; exact upd_sets _ _ _ _
            have y0v : V.cell? ⟨s2, off2, none⟩ = some (.int .u64 pc) := cell_same y0' (huV.block s2 (by have := cell_lt y0'; exact this) hs2b);have HBV : Hid (Below w.heap.size w V) := (HB3.out.trans (hbw.mono HB3.out.size)).trans (huV.below (by have := HBb.out; omega) (Nat.le_trans HB3.out.size hbw.size));have hKr : KeepW wr V := ((HRB2.out.kw HU1.out).trans (KeepW.below hbw)).trans (hRB3.kw huV)
            have hRV : RgR V (putA (row'.setIfInBounds (k * 33 + 30) (.bool true)) (k * 33 + 31) [.int .i64 pc, .slice a7 m c7]) (k * 33) ⟨Dk.take 15, mq x15.toNat, some (pc, st)⟩ := by
             refine HRRa.out.vm (k := some (pc, st)) ⟨by rw [putA_size, Array.size_setIfInBounds], fun i hi => ?_⟩ (fun i hi => ?_) ?_ ?_ a7 c7 ?_ hcc8 (hT8.kept (hRB3.kw huV))
             ·rw [putA_out _ _ _ _ (by simp; omega), Array.getElem?_setIfInBounds, if_neg (by omega)]
             ·rw [putA_out _ _ _ _ (by simp; omega), Array.getElem?_setIfInBounds, if_neg (by omega)]
             ·rw [putA_out _ _ _ _ (by simp), Array.getElem?_setIfInBounds, if_pos rfl, if_pos (by have := HS'.out; omega)]; rfl
             ·have := putA_in [.int .i64 pc, .slice a7 m c7] (k * 33 + 31) (row'.setIfInBounds (k * 33 + 30) (.bool true)) 0 (by simp) (by simp only [List.length_cons, List.length_nil]; omega)
              exact this
             ·have := putA_in [.int .i64 pc, .slice a7 m c7] (k * 33 + 31) (row'.setIfInBounds (k * 33 + 30) (.bool true)) 1 (by simp) (by simp only [List.length_cons, List.length_nil]; omega)
              show _ = some (Value.slice a7 st.length c7)
              rw [hst];exact this
            have HA2 : Hid (RgAt V b (S.set k ⟨Dk.take 15, mq x15.toNat, some (pc, st)⟩)) := ⟨_, hRBV, HRR.out.put (HSm.out.trans ⟨by rw [putA_size, Array.size_setIfInBounds], fun i hi => by rw [putA_out _ _ _ _ (by simp; omega), Array.getElem?_setIfInBounds, if_neg (by omega)]⟩) hRV ((HRB.out.kw HUp.out).trans hKr)⟩
            have HSt2 : Hid (Step D ((Dk.drop 17).drop (2 + m)) (S.set k ⟨Dk.take 15, mq x15.toNat, some (pc, st)⟩) (k + 1)) := by
             have h := HSt.out.full hlt HLn.out H8.out HE15.out HX.out p15 hz;rw [hst] at h;exact h
            have HF2 : Hid (SOk (S.set k ⟨Dk.take 15, mq x15.toNat, some (pc, st)⟩)) := HF.out.set (read_okV HUk.out HLn.out H8.out hz)
            have HNo2 : Hid (∀ i, k + 1 ≤ i → (S.set k ⟨Dk.take 15, mq x15.toNat, some (pc, st)⟩) i = Sg.first) := fun i hi => by rw [SS.set_other _ _ _ _ (by omega)]; exact HNo.out i (by omega)
            have HV := hid hV
            have hs2 : IntKind.i64.wrap (2 + (m : Int)) = 2 + (m : Int) := by simp [IntKind.wrap, IntKind.bits, IntKind.signed]; omega
            have hwp : IntKind.i64.wrap pc = pc := by simp [IntKind.wrap, IntKind.bits, IntKind.signed]; omega
            have n0n : 0 < n2 := by omega
            generalize n2 - (2 + m) = n6 at *;clear hz hn2 hn29 hU2 h17 hDt hnl p0 p1 q0 q1 hpc hc hl hste hst hcutb hcutc hrdb hrdc hrd5 hrun hown hown2 hU7 hbw hcc8 hT8 hRB3 hsz3 hV hRBV huV hKr hRV e2m
            go_upto_region 15 with fail
            rw [← HW1.out];clear HW1 c30 f30 e16
            go_upto_region 22 with fail
            refine wp_region_held_drew (S := fun w' => w'.cell? ⟨s2, off2, none⟩ = some (.int .u64 pc)) (by kernel_rfl) y0d (fun hHeld => ?_);refine tkz [0, 1, 2, 3, 4, 5, 6, 7, 8] ?_
            iterate 9
             refine tkq (v := ?_) rfl (Or.inl ⟨by kernel_rfl, ?_⟩) ?_
             rotate_left
             ·(intro w hSw; (try dsimp only at hSw); go_simp) <;> with_reducible rfl
             (try simp only [Act.put, lq])
            refine tkw ?_
            refine rdy 9 rfl fun K hK => ?_
            refine wp_append_eq _ _ _ rfl _ _ _ rfl rfl hrun' ?_;refine hK.out _ _ y0' (fun hHeld => ?_);clear hK K
            (try simp only [Act.put, lq])
            refine tkz [10, 11, 12] ?_
            iterate 3
             refine tkq (v := ?_) rfl (Or.inl ⟨by kernel_rfl, ?_⟩) ?_
             rotate_left
             ·(intro w hSw; (try dsimp only at hSw); go_simp) <;> with_reducible rfl
             (try simp only [Act.put, lq])
            refine tkw ?_
            refine rdy 13 rfl fun K hK => ?_
            refine wp_store_mid 119 _ _ rfl b (k * 33 + 31) #[.int .i64 pc, .slice a7 m c7] rfl rfl HTh.out vmSize (by simp [Value.oneCell']) ?_
            (try dsimp only)
            rw [← HV.out];refine hK.out _ _ y0v (fun hHeld => ?_);clear hK K;refine wpAnyH_done (by kernel_rfl) ?_ _;clear hHeld;go_wp2;go_roundw
            case rel => exact ⟨k + 1, a6, n6, c6, (Dk.drop 17).drop (2 + m), _, by omega, by go_num, rfl, HN6.out, hc6, hn6, HR6.out, HU6.out, HSt2.out, HF2.out, HNo2.out, HA2.out, HBV.out⟩
            case measure => simp [intOf]; omega
       ·have g16 : (x16 == 1) = false := beq_false_of_ne hx1
        obtain ⟨r1, r2, r3, r4⟩ := HW.out false;obtain ⟨W1, hW1⟩ : ∃ W1, W1 = wr.setCell ⟨b, k * 33 + 30, none⟩ (.bool false) := ⟨_, rfl⟩;rw [← hW1] at r1 r2 r3 r4;have HW1 := hid hW1;have HB3 : Hid (Below w.heap.size w W1) := HB2.out.trans (r4.below (by have := HBb.out; omega) HB2.out.size);obtain ⟨a0, c0, e18, hcc, hT⟩ := HRRa.out.stk;have hK1 := HRB2.out.kw r4
        have hR1 : RgR W1 (row'.setIfInBounds (k * 33 + 30) (.bool false)) (k * 33) ⟨Dk.take 15, mq x15.toNat, none⟩ := by
         refine HRRa.out.vm (k := none) (SameR.set _ _ (by omega)) (fun i hi => ?_) ?_ ?_ a0 c0 ?_ hcc (hT.kept hK1)
         ·rw [Array.getElem?_setIfInBounds, if_neg (by omega)]
         ·rw [Array.getElem?_setIfInBounds, if_pos rfl, if_pos (by have := HS'.out; omega)]; rfl
         ·rw [Array.getElem?_setIfInBounds, if_neg (by omega)]; exact HRRa.out.pc
         ·rw [Array.getElem?_setIfInBounds, if_neg (by omega)]; exact e18
        have HA2 : Hid (RgAt W1 b (S.set k ⟨Dk.take 15, mq x15.toNat, none⟩)) := ⟨_, r1, HRR.out.put (HSm.out.trans (SameR.set _ _ (by omega))) hR1 ((HRB.out.kw HUp.out).trans hK1)⟩;have HSt2 : Hid (Step D (Dk.drop 17) (S.set k ⟨Dk.take 15, mq x15.toNat, none⟩) (k + 1)) := HSt.out.plain hlt HLn.out H8.out HE15.out HE16.out p15 p16 hx1;have HF2 : Hid (SOk (S.set k ⟨Dk.take 15, mq x15.toNat, none⟩)) := HF.out.set (read_ok HUk.out HLn.out H8.out)
        have HNo2 : Hid (∀ i, k + 1 ≤ i → (S.set k ⟨Dk.take 15, mq x15.toNat, none⟩) i = Sg.first) := fun i hi => by rw [SS.set_other _ _ _ _ (by omega)]; exact HNo.out i (by omega)
        have HU2 := hid hU2;clear hW1 r1 r4 hx1 h8 e18 hcc hT hK1 hR1 hU2 h17
        go_upto_region 15 with fail
        rw [← HW1.out];clear HW1 c30 f30 e16;go_wp2;go_roundw
        case rel => exact ⟨k + 1, a2, n2, c2, Dk.drop 17, _, by omega, by go_num, rfl, HN2.out, hc2, hn29, HR2.out, HU2.out, HSt2.out, HF2.out, HNo2.out, HA2.out, HB3.out⟩
        case measure => simp [intOf]; omega
      ·have g8 : (x8 != 18446744073709551615) = true := bne_iff_ne.2 h8
       have HE : Hid (deE D = 101) := deE_no (HSt.out.bad hlt (eight_none (by rw [HE8.out]; exact h8)))
       cases hg : (x16 == 1) with
       | true =>
        have g16 : (x16 == 1) = true := hg;obtain ⟨r1, r2, r3, r4⟩ := HW.out true;obtain ⟨W1, hW1⟩ : ∃ W1, W1 = wr.setCell ⟨b, k * 33 + 30, none⟩ (.bool true) := ⟨_, rfl⟩;rw [← hW1] at r2 r3 r4;have HW1 := hid hW1;have HB3 : Hid (Below w.heap.size w W1) := HB2.out.trans (r4.below (by have := HBb.out; omega) HB2.out.size);clear hW1 r1 r4 h8 hg hU2 h17
        go_upto_region 15 with fail
        rw [← HW1.out];clear HW1 c30 f30 e16;go_wp2
        go_ret2
        exact ⟨⟨none, by rw [HE.out]; rfl⟩, HB3.out⟩
       | false =>
        have g16 : (x16 == 1) = false := hg;obtain ⟨r1, r2, r3, r4⟩ := HW.out false;obtain ⟨W1, hW1⟩ : ∃ W1, W1 = wr.setCell ⟨b, k * 33 + 30, none⟩ (.bool false) := ⟨_, rfl⟩;rw [← hW1] at r2 r3 r4;have HW1 := hid hW1;have HB3 : Hid (Below w.heap.size w W1) := HB2.out.trans (r4.below (by have := HBb.out; omega) HB2.out.size);clear hW1 r1 r4 h8 hg hU2 h17
        go_upto_region 15 with fail
        rw [← HW1.out];clear HW1 c30 f30 e16;go_wp2
        go_ret2
        exact ⟨⟨none, by rw [HE.out]; rfl⟩, HB3.out⟩
  ·have i1 : decide ((k : Int) < 8) = false := decide_eq_false (by omega)
   have hEn := xencode_at b S wr hA hF;have HE : Hid (deE D = if decide (encS S = D) then 0 else 101) := deE_end hSt (by omega) HU.out hF hno;have hel := encS_len hF;clear hSt hF hno hA hB hRk hUk hnk
   go_wp2_with fail
   refine hEn.mono ?_;rintro x w2 ⟨v, rfl, hown, hb2⟩;obtain ⟨av, cv, rfl, _, hrd⟩ := own_rd hown;have hb2' := HB.out.trans (hb2.mono HB.out.size);have hWo := words_any (encS S) D av a cv cap w2 hrd (HRd.out.below hb2') (by omega) (by rw [← HN.out]; omega);rw [← HN.out] at hWo;have HB2 := hid hb2';generalize hel2 : (encS S).length = el at *;clear hEn hown hrd hb2 hb2' hel2
   go_wp2_with fail
   refine hWo.mono ?_;rintro x w3 ⟨rfl, hb3⟩;have HB3 : Hid (Below w.heap.size w w3) := HB2.out.trans (hb3.mono HB2.out.size)
   cases hd : decide (encS S = D) with
   | true =>
    rw [hd] at HE;clear hWo hb3 hd;go_wp2
    go_ret2
    exact ⟨⟨_, by rw [HE.out]; rfl⟩, HB3.out⟩
   | false =>
    rw [hd] at HE;clear hWo hb3 hd;go_wp2
    go_ret2
    exact ⟨⟨_, by rw [HE.out]; rfl⟩, HB3.out⟩
end Sg
end Go.Proofs.YtinaeifpoljfoaaGreatDoor
