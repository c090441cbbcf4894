/- Proved: januslaw20.SignalsOnce answers true for all numbers (signals that are sent, however often, are told once each, the last one first, then the lowest first; those to be ignored never), at the commit of this claim; no condition beyond the row's own. -/
import Derived.Test.YtliifpknkdjgjaaOncM20
namespace Go.Proofs.Ytliifpknkdjgjaa
open Go.ChangeShapes Go.WideShapes Go.ChangeAt Go.RowKit Go.Lib Go.Joins
set_option linter.unusedVariables false

set_option maxRecDepth 100000 in
set_option maxHeartbeats 8000000 in
theorem once_walk (a0 a1 : Option Addr) (len0 len1 cap0 cap1 : Nat) (D0 D1 : List Int) (w : World) (hl0 : len0 ≤ 9223372036854775807) (hl1 : len1 ≤ 9223372036854775807) (hn0 : len0 = D0.length) (hn1 : len1 = D1.length) (h0 : IRow w a0 D0) (h1 : IRow w a1 D1) :
    Calls Try.prog 5 #[.slice a0 len0 cap0, .slice a1 len1 cap1] w fun e w' => e = .returned (.bool true) ∧ Below w.heap.size w w' := by
  have hN := new_at w
  obtain ⟨b, hb⟩ : ∃ b, b = w.heap.size := ⟨_, rfl⟩
  rw [← hb] at hN
  have HBb : Hid (b = w.heap.size) := hb
  have hne := ptr_eq b 0
  have HR0 : Hid (IRow w a0 D0) := h0
  have HR1 : Hid (IRow w a1 D1) := h1
  have HN0 : Hid (len0 = D0.length) := hn0
  have HN1 : Hid (len1 = D1.length) := hn1
  have hlit := brow_lit
  clear hb h0 h1 hn0 hn1
  go_enter Try.func5, Try.ntmps5
  go_wp2_with fail
  refine hN.mono ?_
  rintro e w1 ⟨rfl, hA, hb1⟩
  rw [HBb.out] at hb1
  have HB1 : Hid (Below w.heap.size w w1) := hb1
  have HA1 : Hid (SgAt w1 b SS.first) := hA
  clear hN hA hb1
  go_wp2
  clear hlit
  obtain ⟨W, hW⟩ : ∃ W, W = (w1.alloc (.cells (brow (fun _ => false)) 46)).alloc (.cells (brow (fun _ => false)) 46) := ⟨_, rfl⟩
  obtain ⟨n, hn⟩ : ∃ n, n = w1.heap.size := ⟨_, rfl⟩
  obtain ⟨y, hy⟩ : ∃ y, y = w1.heap.size + 1 := ⟨_, rfl⟩
  have hbW : Below w1.heap.size w1 W := by rw [hW]; exact below_alloc2 _ _ _
  have hf0 : ∀ j, j < 16 → igB (SS.first 0) j = false := fun j hj => by
    unfold igB
    show (decide (1 ≤ j) && decide ((List.replicate 15 dfl).getD (j - 1) 0 = ign)) = false
    by_cases h1 : 1 ≤ j
    · rw [List.getD_eq_getElem?_getD, List.getElem?_replicate, if_pos (by omega), decide_eq_false (p := (some dfl).getD 0 = ign) (by show ¬ dfl = ign; unfold dfl ign; omega), Bool.and_false]
    · rw [decide_eq_false h1, Bool.false_and]
  have HBo : Hid (Both20 W b n y SS.first) := by
    refine ⟨HA1.out.below hbW, ok_first, rfl, ?_, ?_⟩
    · rw [brow_ext hf0, hW, hn, Below.heap_alloc _ _ _ (by simp)]
      exact heap_alloc_new _ _
    · rw [brow_ext (g := fun _ => false) (fun j hj => (by show (0 : Nat).testBit j = false; simp)), hW, hy]
      have := heap_alloc_new (w1.alloc (.cells (brow (fun _ => false)) 46)) (.cells (brow (fun _ => false)) 46)
      simpa using this
  have HBW : Hid (Below w.heap.size w W) := HB1.out.trans (hbW.mono HB1.out.size)
  have HNe : Hid (n ≠ b ∧ y ≠ b ∧ n ≠ y ∧ w.heap.size ≤ n ∧ w.heap.size ≤ y ∧ w.heap.size ≤ b) := by
    have h1 := HA1.out.lt
    have h2 := HBb.out
    have h3 := HB1.out.size
    show _ ∧ _
    omega
  rw [← hW, ← hy, ← hn]
  clear hW hn hy hbW hf0 HA1 HB1
  go_loopw [8] (fun s wr => ∃ (k : Nat) (S : SS), k ≤ len1 ∧ k ≤ 50 ∧ s = .int .i64 k ∧ Both20 wr b n y S ∧ Below w.heap.size w wr) (fun s _ => 50 - (intOf s).toNat)
  case atStart => exact ⟨0, _, by omega, by omega, rfl, HBo.out, HBW.out⟩
  case round =>
    clear HBo HBW
    obtain ⟨k, S, hk, hk50, rfl, hBo, hB⟩ := hrel
    have HBo2 : Hid (Both20 wr b n y S) := hBo
    have HB : Hid (Below w.heap.size w wr) := hB
    by_cases hlt : k < len1 ∧ k < 50
    · obtain ⟨l1, l2⟩ := hlt
      have i1 : decide ((k : Int) < (len1 : Int)) = true := decide_eq_true (by omega)
      have i2 : decide ((k : Int) < 50) = true := decide_eq_true (by omega)
      have hki : (k : Int) < (len1 : Int) := by omega
      obtain ⟨x, hx⟩ : ∃ x, D1[k]? = some x := ⟨D1[k]'(by rw [← HN1.out]; exact l1), List.getElem?_eq_getElem _⟩
      obtain ⟨gb, off, rfl, d0⟩ := HR1.out k x hx
      have e0 := (hB.cell (cell_lt d0)).trans d0
      have hgl : gb < w.heap.size := cell_lt d0
      have hS := set_at b S 1 x 18446744073709551614 wr HBo2.out.at' HBo2.out.ok
      by_cases hE : seE 1 x = 0
      · obtain ⟨m, rfl, hm, h8⟩ := se_ok hE
        rw [hE] at hS
        have q1 : decide ((m : Int) + 1 < 1) = false := decide_eq_false (by omega)
        have q2 : decide (15 < (m : Int) + 1) = false := decide_eq_false (by omega)
        have hmi : (m : Int) + 1 < 16 := by omega
        have hmn : ((m : Int) + 1) = ((m + 1 : Nat) : Int) := by omega
        have HM : Hid (m < 15 ∧ m ≠ 8) := ⟨hm, h8⟩
        clear hE hx hB hBo
        rw [hmn] at hS e0 q1 q2 hmi
        clear hmn
        generalize hz : m + 1 = z at *
        have HZ : Hid (m + 1 = z) := hz
        clear hz d0
        go_wp2_with fail
        refine hS.mono ?_
        rintro e w2 ⟨rfl, hA, hu⟩
        have e1 : w2.cell? ⟨gb, off + k, none⟩ = some (.int .i64 (z : Int)) := cell_same e0 (hu.block gb (by have := HB.out.size; omega) (by have := HNe.out; have := HBb.out; omega))
        have k1 := (hu.block n (lt_of_heap HBo2.out.no) HNe.out.1).trans HBo2.out.no
        have k2 := (hu.block y (lt_of_heap HBo2.out.yes) HNe.out.2.1).trans HBo2.out.yes
        have r0 : w2.cell? ⟨n, z, none⟩ = some (.bool (igB (S 0) z)) := by rw [cell_of_heap k1]; exact brow_get _ _ (by omega)
        have rf : w2.frozen? ⟨n, z, none⟩ = false := frozen_of_heap k1
        have HB2 : Hid (Below w.heap.size w w2) := upd_below HB.out hu HNe.out.2.2.2.2.2
        have HBo3 : Hid (Both20 (w2.setCell ⟨n, z, none⟩ (.bool true)) b n y (seS S 1 (z : Int) 18446744073709551614)) := by
          have hz2 := HZ.out
          subst hz2
          have hcast : ((m + 1 : Nat) : Int) = (m : Int) + 1 := by omega
          rw [hcast] at hA ⊢
          refine ⟨hA.keep (Below.heap_setCell _ _ _ _ (by have := HNe.out; show b ≠ n; omega)) (kw_set k1 (by decide) _ _), ok_se HBo2.out.ok _ _ _ (by omega), ?_, ?_, ?_⟩
          · rw [at1_se _ HM.out.1 HM.out.2]; exact HBo2.out.out
          · rw [heap_set k1, brow_set (m + 1) (ig_set HBo2.out.ok HM.out.1 HM.out.2)]
          · rw [Below.heap_setCell _ _ _ _ (by have := HNe.out; show y ≠ n; omega), k2, at1_se _ HM.out.1 HM.out.2]
        have HB3 : Hid (Below w.heap.size w (w2.setCell ⟨n, z, none⟩ (.bool true))) := HB2.out.trans ((Upd.setCell n z _ _).below (by have := HNe.out; omega) HB2.out.size)
        clear hS hA hu k1 k2 e0
        go_wp2
        go_roundw
        case rel => exact ⟨k + 1, _, by omega, by omega, by go_num, HBo3.out, HB3.out⟩
        case measure => simp [intOf]; omega
      · have HSt : Hid (seS S 1 x 18446744073709551614 = S) := se_err hE _
        have g0 : (seE 1 x == 0) = false := beq_false_of_ne hE
        generalize seE 1 x = er at *
        clear hE hx hB hBo d0
        go_wp2_with fail
        refine hS.mono ?_
        rintro e w2 ⟨rfl, hA, hu⟩
        rw [HSt.out] at hA
        have HB2 : Hid (Below w.heap.size w w2) := upd_below HB.out hu HNe.out.2.2.2.2.2
        have HBo3 : Hid (Both20 w2 b n y S) := ⟨hA, HBo2.out.ok, HBo2.out.out, (hu.block n (lt_of_heap HBo2.out.no) HNe.out.1).trans HBo2.out.no, (hu.block y (lt_of_heap HBo2.out.yes) HNe.out.2.1).trans HBo2.out.yes⟩
        clear hS hA hu e0
        go_wp2
        go_roundw
        case rel => exact ⟨k + 1, _, by omega, by omega, by go_num, HBo3.out, HB2.out⟩
        case measure => simp [intOf]; omega
    · have stop : (decide ((k : Int) < (len1 : Int)) = false ∧ len1 ≤ k) ∨ (decide ((k : Int) < (len1 : Int)) = true ∧ decide ((k : Int) < 50) = false ∧ k < len1 ∧ 50 ≤ k) := by
        simp only [decide_eq_true_eq, decide_eq_false_iff_not]
        omega
      have HBo : Hid (Both20 wr b n y S) := HBo2.out
      have HBW : Hid (Below w.heap.size w wr) := HB.out
      clear hBo hB hlt HR1 HN1 HBo2 HB
      rcases stop with ⟨g0, l0⟩ | ⟨g0, g1, l0, l1⟩
      all_goals
        go_wp2
        clear g0
        try clear g1
        try clear l1
        clear l0
        clear hk hk50
        generalize S = S1 at *
        generalize wr = W1 at *
        go_loopw [9] (fun s wr => ∃ (k : Nat) (S : SS), k ≤ len0 ∧ k ≤ 50 ∧ s = .int .i64 k ∧ Both20 wr b n y S ∧ Below w.heap.size w wr) (fun s _ => 50 - (intOf s).toNat)
        case atStart => exact ⟨0, _, by omega, by omega, rfl, HBo.out, HBW.out⟩
        case round =>
          clear HBo HBW
          obtain ⟨k, S, hk, hk50, rfl, hBo, hB⟩ := hrel
          have HBo2 : Hid (Both20 wr b n y S) := hBo
          have HB : Hid (Below w.heap.size w wr) := hB
          by_cases hlt : k < len0 ∧ k < 50
          · obtain ⟨l1, l2⟩ := hlt
            have i1 : decide ((k : Int) < (len0 : Int)) = true := decide_eq_true (by omega)
            have i2 : decide ((k : Int) < 50) = true := decide_eq_true (by omega)
            have hki : (k : Int) < (len0 : Int) := by omega
            obtain ⟨x, hx⟩ : ∃ x, D0[k]? = some x := ⟨D0[k]'(by rw [← HN0.out]; exact l1), List.getElem?_eq_getElem _⟩
            obtain ⟨gb, off, rfl, d0⟩ := HR0.out k x hx
            have e0 := (hB.cell (cell_lt d0)).trans d0
            have hgl : gb < w.heap.size := cell_lt d0
            have hS := send_at b S 1 x wr HBo2.out.at' HBo2.out.ok
            by_cases hE : sdE 1 x = 0
            · obtain ⟨m, rfl, hm⟩ := sd_ok hE
              rw [hE] at hS
              have q1 : decide ((m : Int) + 1 < 1) = false := decide_eq_false (by omega)
              have q2 : decide (15 < (m : Int) + 1) = false := decide_eq_false (by omega)
              have hmi : (m : Int) + 1 < 16 := by omega
              have hmn : ((m : Int) + 1) = ((m + 1 : Nat) : Int) := by omega
              have HM : Hid (m < 15) := hm
              clear hE hx hB hBo
              rw [hmn] at hS e0 q1 q2 hmi
              clear hmn
              generalize hz : m + 1 = z at *
              have HZ : Hid (m + 1 = z) := hz
              clear hz d0
              go_wp2_with fail
              refine hS.mono ?_
              rintro e w2 ⟨rfl, hA, hu⟩
              have e1 : w2.cell? ⟨gb, off + k, none⟩ = some (.int .i64 (z : Int)) := cell_same e0 (hu.block gb (by have := HB.out.size; omega) (by have := HNe.out; have := HBb.out; omega))
              have k1 := (hu.block n (lt_of_heap HBo2.out.no) HNe.out.1).trans HBo2.out.no
              have k2 := (hu.block y (lt_of_heap HBo2.out.yes) HNe.out.2.1).trans HBo2.out.yes
              have r0 : w2.cell? ⟨y, z, none⟩ = some (.bool ((S 0).q.testBit z)) := by rw [cell_of_heap k2]; exact brow_get _ _ (by omega)
              have rf : w2.frozen? ⟨y, z, none⟩ = false := frozen_of_heap k2
              have HB2 : Hid (Below w.heap.size w w2) := upd_below HB.out hu HNe.out.2.2.2.2.2
              have HBo3 : Hid (Both20 (w2.setCell ⟨y, z, none⟩ (.bool true)) b n y (sdS S 1 (z : Int))) := by
                have hz2 := HZ.out
                subst hz2
                have hcast : ((m + 1 : Nat) : Int) = (m : Int) + 1 := by omega
                rw [hcast] at hA ⊢
                refine ⟨hA.keep (Below.heap_setCell _ _ _ _ (by have := HNe.out; show b ≠ y; omega)) (kw_set k2 (by decide) _ _), ok_sd HBo2.out.ok _ _, ?_, ?_, ?_⟩
                · rw [at1_sd HM.out]; exact HBo2.out.out
                · rw [Below.heap_setCell _ _ _ _ (by have := HNe.out; show n ≠ y; omega), k1, at1_sd HM.out]; rfl
                · rw [heap_set k2, brow_set (m + 1) (yes_set HM.out)]
              have HB3 : Hid (Below w.heap.size w (w2.setCell ⟨y, z, none⟩ (.bool true))) := HB2.out.trans ((Upd.setCell y z _ _).below (by have := HNe.out; omega) HB2.out.size)
              clear hS hA hu k1 k2 e0
              go_wp2
              go_roundw
              case rel => exact ⟨k + 1, _, by omega, by omega, by go_num, HBo3.out, HB3.out⟩
              case measure => simp [intOf]; omega
            · have HSt : Hid (sdS S 1 x = S) := sd_err hE
              have g0 : (sdE 1 x == 0) = false := beq_false_of_ne hE
              generalize sdE 1 x = er at *
              clear hE hx hB hBo d0
              go_wp2_with fail
              refine hS.mono ?_
              rintro e w2 ⟨rfl, hA, hu⟩
              rw [HSt.out] at hA
              have HB2 : Hid (Below w.heap.size w w2) := upd_below HB.out hu HNe.out.2.2.2.2.2
              have HBo3 : Hid (Both20 w2 b n y S) := ⟨hA, HBo2.out.ok, HBo2.out.out, (hu.block n (lt_of_heap HBo2.out.no) HNe.out.1).trans HBo2.out.no, (hu.block y (lt_of_heap HBo2.out.yes) HNe.out.2.1).trans HBo2.out.yes⟩
              clear hS hA hu e0
              go_wp2
              go_roundw
              case rel => exact ⟨k + 1, _, by omega, by omega, by go_num, HBo3.out, HB2.out⟩
              case measure => simp [intOf]; omega
          · have stop : (decide ((k : Int) < (len0 : Int)) = false ∧ len0 ≤ k) ∨ (decide ((k : Int) < (len0 : Int)) = true ∧ decide ((k : Int) < 50) = false ∧ k < len0 ∧ 50 ≤ k) := by
              simp only [decide_eq_true_eq, decide_eq_false_iff_not]
              omega
            have HBo : Hid (Both20 wr b n y S) := HBo2.out
            have HBW : Hid (Below w.heap.size w wr) := HB.out
            clear hBo hB hlt HR0 HN0 HBo2 HB
            rcases stop with ⟨g0, l0⟩ | ⟨g0, g1, l0, l1⟩
            all_goals
              clear hk hk50
              generalize S = S1 at *
              generalize wr = W1 at *
              have y9 : W1.cell? ⟨y, 9, none⟩ = some (.bool ((S1 0).q.testBit 9)) := by rw [cell_of_heap HBo.out.yes]; exact brow_get _ _ (by omega)
              have HOk0 : Hid ((S1 0).Ok) := HBo.out.ok 0 (by omega)
              have hNx := snext_at b S1 1 W1 HBo.out.at' HBo.out.ok
              have after : ∃ e : Bool, (S1 0).q.testBit 9 = e := ⟨_, rfl⟩
              obtain ⟨e9, h9⟩ := after
              rw [h9] at y9
              cases e9 with
              | true =>
                have hnx : (S1 0).nx = (9, clr (S1 0).q 9) := by unfold Sg.nx; rw [h9, if_pos rfl]
                have n1 : nxI S1 1 = 9 := by rw [at1_nxI, hnx]
                have n2 : nxB S1 1 = true := by rw [at1_nxB, hnx]; rfl
                have n3 : nxH S1 1 = 18446744073709551615 := by
                  rw [at1_nxH, hnx, if_neg (by omega)]
                  show (S1 0).h.getD 8 0 = _
                  rw [List.getD_eq_getElem?_getD, HOk0.out.nine]
                  rfl
                rw [n1, n2, n3] at hNx
                have HT0 : Hid (Told (S1 0).h (S1 0).q.testBit 1 ((nxS S1 1) 0)) := by
                  rw [at1_nx, hnx]
                  refine Told.first rfl HBo.out.out (HOk0.out.pend.clr (by omega)) ?_ (fun j hj => ?_)
                  · show (clr (S1 0).q 9).testBit 9 = false
                    rw [clr_bit HOk0.out.pend.1 (by omega), if_pos rfl]
                  · show (clr (S1 0).q 9).testBit j = _
                    rw [clr_bit HOk0.out.pend.1 (by omega), if_neg hj]
                clear hnx n1 n2 n3 h9
                go_wp2_with fail
                refine hNx.mono ?_
                rintro e w2 ⟨rfl, hA, hu⟩
                have HB2 : Hid (Below w.heap.size w w2) := upd_below HBW.out hu HNe.out.2.2.2.2.2
                have HA2 : Hid (SgAt w2 b (nxS S1 1)) := hA
                have HO2 : Hid (SOk (nxS S1 1)) := ok_nx HBo.out.ok _
                have HNo : Hid (w2.heap[n]? = some (.cells (brow (igB (S1 0))) 46 (0, 0))) := (hu.block n (lt_of_heap HBo.out.no) HNe.out.1).trans HBo.out.no
                have HYe : Hid (w2.heap[y]? = some (.cells (brow (S1 0).q.testBit) 46 (0, 0))) := (hu.block y (lt_of_heap HBo.out.yes) HNe.out.2.1).trans HBo.out.yes
                clear hNx hA hu HBW HBo y9 HOk0
                go_wp2
                generalize nxS S1 1 = T0 at *
                have HGG : Hid (∀ k, 1 ≤ k → decide ((S1 0).h.getD (k - 1) 0 = ign) = igB (S1 0) k) := fun k hk => by unfold igB; rw [decide_eq_true hk]; rfl
                generalize igB (S1 0) = GG at *
                generalize (S1 0).h = HL at *
                generalize (S1 0).q.testBit = YY at *
                go_loopw [13] (fun s wr => ∃ (k : Nat) (T : SS), 1 ≤ k ∧ k ≤ 16 ∧ s = .int .i64 k ∧ Told HL YY k (T 0) ∧ SgAt wr b T ∧ SOk T ∧ wr.heap[n]? = some (.cells (brow GG) 46 (0, 0)) ∧ wr.heap[y]? = some (.cells (brow YY) 46 (0, 0)) ∧ Below w.heap.size w wr) (fun s _ => 16 - (intOf s).toNat)
                case atStart => exact ⟨1, T0, by omega, by omega, rfl, HT0.out, HA2.out, HO2.out, HNo.out, HYe.out, HB2.out⟩
                case round =>
                  clear HT0 HA2 HO2 HNo HYe HB2
                  obtain ⟨k, T, hk1, hk16, rfl, hT, hA, hO, hNo, hYe, hB⟩ := hrel
                  have HT : Hid (Told HL YY k (T 0)) := hT
                  have HA : Hid (SgAt wr b T) := hA
                  have HO : Hid (SOk T) := hO
                  have HNo : Hid (wr.heap[n]? = some (.cells (brow GG) 46 (0, 0))) := hNo
                  have HYe : Hid (wr.heap[y]? = some (.cells (brow YY) 46 (0, 0))) := hYe
                  have HB : Hid (Below w.heap.size w wr) := hB
                  have hNx := snext_at b T 1 wr hA hO
                  by_cases hlt : k ≤ 15
                  · have i1 : decide ((k : Int) ≤ 15) = true := decide_eq_true (by omega)
                    have hki : (k : Int) < 16 := by omega
                    have rn : wr.cell? ⟨n, k, none⟩ = some (.bool (GG k)) := by rw [cell_of_heap hNo]; exact brow_get _ _ (by omega)
                    have ry : wr.cell? ⟨y, k, none⟩ = some (.bool (YY k)) := by rw [cell_of_heap hYe]; exact brow_get _ _ (by omega)
                    by_cases h9 : k = 9
                    · have g0 : ((k : Int) == 9) = true := by rw [h9]; rfl
                      have HT2 : Hid (Told HL YY (k + 1) (T 0)) := hT.skip (by omega) (Or.inl h9)
                      clear hT hA hO hNo hYe hB hNx h9 rn ry
                      go_wp2
                      go_roundw
                      case rel => exact ⟨k + 1, T, by omega, by omega, by go_num, HT2.out, HA.out, HO.out, HNo.out, HYe.out, HB.out⟩
                      case measure => simp [intOf]; omega
                    · have g0 : ((k : Int) == 9) = false := beq_false_of_ne (by omega)
                      have hGk := HGG.out k hk1
                      cases hy : YY k with
                      | false =>
                        rw [hy] at ry
                        have HT2 : Hid (Told HL YY (k + 1) (T 0)) := hT.skip (by omega) (Or.inr (Or.inl hy))
                        clear hT hA hO hNo hYe hB hNx h9 rn hy hGk
                        go_wp2
                        go_roundw
                        case rel => exact ⟨k + 1, T, by omega, by omega, by go_num, HT2.out, HA.out, HO.out, HNo.out, HYe.out, HB.out⟩
                        case measure => simp [intOf]; omega
                      | true =>
                        rw [hy] at ry
                        cases hg : GG k with
                        | true =>
                          rw [hg] at rn hGk
                          have HT2 : Hid (Told HL YY (k + 1) (T 0)) := hT.skip (by omega) (Or.inr (Or.inr (by simpa using hGk.symm)))
                          clear hT hA hO hNo hYe hB hNx h9 hy hGk hg
                          go_wp2
                          go_roundw
                          case rel => exact ⟨k + 1, T, by omega, by omega, by go_num, HT2.out, HA.out, HO.out, HNo.out, HYe.out, HB.out⟩
                          case measure => simp [intOf]; omega
                        | false =>
                          rw [hg] at rn hGk
                          obtain ⟨t1, t2⟩ := hT.take hk1 (by omega) h9 hy (by simpa using hGk.symm)
                          have HT2 : Hid (Told HL YY (k + 1) ((nxS T 1) 0)) := by rw [at1_nx]; exact t2
                          have n1 : nxI T 1 = k := by rw [at1_nxI, t1]
                          have n2 : nxB T 1 = true := by rw [at1_nxB, t1]; exact bne_iff_ne.2 (by omega)
                          rw [n1, n2] at hNx
                          have g3 : ((k : Int) != (k : Int)) = false := by simp
                          generalize nxH T 1 = hx at hNx
                          clear hT hA hO hNo hYe hB h9 hy hGk hg t1 t2 n1 n2
                          go_wp2_with fail
                          refine hNx.mono ?_
                          rintro e w3 ⟨rfl, hA, hu⟩
                          have HB3 : Hid (Below w.heap.size w w3) := upd_below HB.out hu HNe.out.2.2.2.2.2
                          have HA3 : Hid (SgAt w3 b (nxS T 1)) := hA
                          have HO3 : Hid (SOk (nxS T 1)) := ok_nx HO.out _
                          have HNo3 : Hid (w3.heap[n]? = some (.cells (brow GG) 46 (0, 0))) := (hu.block n (lt_of_heap HNo.out) HNe.out.1).trans HNo.out
                          have HYe3 : Hid (w3.heap[y]? = some (.cells (brow YY) 46 (0, 0))) := (hu.block y (lt_of_heap HYe.out) HNe.out.2.1).trans HYe.out
                          clear hNx hA hu HNo HYe HA HO HB HT rn ry
                          go_wp2
                          go_roundw
                          case rel => exact ⟨k + 1, nxS T 1, by omega, by omega, by go_num, HT2.out, HA3.out, HO3.out, HNo3.out, HYe3.out, HB3.out⟩
                          case measure => simp [intOf]; omega
                  · obtain rfl : k = 16 := by omega
                    have i1 : decide (((16 : Nat) : Int) ≤ 15) = false := rfl
                    have n2 : nxB T 1 = false := by rw [at1_nxB, hT.fin]; rfl
                    rw [n2] at hNx
                    generalize nxI T 1 = ix at hNx
                    generalize nxH T 1 = hx at hNx
                    clear hT hA hO hNo hYe hB n2
                    go_wp2_with fail
                    refine hNx.mono ?_
                    rintro e w3 ⟨rfl, hA, hu⟩
                    have HB3 : Hid (Below w.heap.size w w3) := upd_below HB.out hu HNe.out.2.2.2.2.2
                    clear hNx hA hu
                    go_wp2_with fail
                    refine (awake_at _).mono ?_
                    rintro e w4 ⟨rfl, hb4⟩
                    go_wp2
                    go_ret
                    exact ⟨rfl, HB3.out.trans (hb4.mono HB3.out.size)⟩
              | false =>
                have HT0 : Hid (Told (S1 0).h (S1 0).q.testBit 1 (S1 0)) := Told.first rfl HBo.out.out HOk0.out.pend h9 (fun j _ => rfl)
                have HB2 : Hid (Below w.heap.size w W1) := HBW.out
                have HA2 : Hid (SgAt W1 b S1) := HBo.out.at'
                have HO2 : Hid (SOk S1) := HBo.out.ok
                have HNo : Hid (W1.heap[n]? = some (.cells (brow (igB (S1 0))) 46 (0, 0))) := HBo.out.no
                have HYe : Hid (W1.heap[y]? = some (.cells (brow (S1 0).q.testBit) 46 (0, 0))) := HBo.out.yes
                clear hNx HBW HBo HOk0 h9
                go_wp2
                clear y9
                generalize hw2 : W1 = w2 at *
                generalize hT0 : S1 = T0 at HA2 HO2
                rw [hT0] at HT0 HNo HYe
                clear hw2 hT0
                have HGG : Hid (∀ k, 1 ≤ k → decide ((T0 0).h.getD (k - 1) 0 = ign) = igB (T0 0) k) := fun k hk => by unfold igB; rw [decide_eq_true hk]; rfl
                generalize igB (T0 0) = GG at *
                generalize (T0 0).h = HL at *
                generalize (T0 0).q.testBit = YY at *
                go_loopw [13] (fun s wr => ∃ (k : Nat) (T : SS), 1 ≤ k ∧ k ≤ 16 ∧ s = .int .i64 k ∧ Told HL YY k (T 0) ∧ SgAt wr b T ∧ SOk T ∧ wr.heap[n]? = some (.cells (brow GG) 46 (0, 0)) ∧ wr.heap[y]? = some (.cells (brow YY) 46 (0, 0)) ∧ Below w.heap.size w wr) (fun s _ => 16 - (intOf s).toNat)
                case atStart => exact ⟨1, T0, by omega, by omega, rfl, HT0.out, HA2.out, HO2.out, HNo.out, HYe.out, HB2.out⟩
                case round =>
                  clear HT0 HA2 HO2 HNo HYe HB2
                  obtain ⟨k, T, hk1, hk16, rfl, hT, hA, hO, hNo, hYe, hB⟩ := hrel
                  have HT : Hid (Told HL YY k (T 0)) := hT
                  have HA : Hid (SgAt wr b T) := hA
                  have HO : Hid (SOk T) := hO
                  have HNo : Hid (wr.heap[n]? = some (.cells (brow GG) 46 (0, 0))) := hNo
                  have HYe : Hid (wr.heap[y]? = some (.cells (brow YY) 46 (0, 0))) := hYe
                  have HB : Hid (Below w.heap.size w wr) := hB
                  have hNx := snext_at b T 1 wr hA hO
                  by_cases hlt : k ≤ 15
                  · have i1 : decide ((k : Int) ≤ 15) = true := decide_eq_true (by omega)
                    have hki : (k : Int) < 16 := by omega
                    have rn : wr.cell? ⟨n, k, none⟩ = some (.bool (GG k)) := by rw [cell_of_heap hNo]; exact brow_get _ _ (by omega)
                    have ry : wr.cell? ⟨y, k, none⟩ = some (.bool (YY k)) := by rw [cell_of_heap hYe]; exact brow_get _ _ (by omega)
                    by_cases h9 : k = 9
                    · have g0 : ((k : Int) == 9) = true := by rw [h9]; rfl
                      have HT2 : Hid (Told HL YY (k + 1) (T 0)) := hT.skip (by omega) (Or.inl h9)
                      clear hT hA hO hNo hYe hB hNx h9 rn ry
                      go_wp2
                      go_roundw
                      case rel => exact ⟨k + 1, T, by omega, by omega, by go_num, HT2.out, HA.out, HO.out, HNo.out, HYe.out, HB.out⟩
                      case measure => simp [intOf]; omega
                    · have g0 : ((k : Int) == 9) = false := beq_false_of_ne (by omega)
                      have hGk := HGG.out k hk1
                      cases hy : YY k with
                      | false =>
                        rw [hy] at ry
                        have HT2 : Hid (Told HL YY (k + 1) (T 0)) := hT.skip (by omega) (Or.inr (Or.inl hy))
                        clear hT hA hO hNo hYe hB hNx h9 rn hy hGk
                        go_wp2
                        go_roundw
                        case rel => exact ⟨k + 1, T, by omega, by omega, by go_num, HT2.out, HA.out, HO.out, HNo.out, HYe.out, HB.out⟩
                        case measure => simp [intOf]; omega
                      | true =>
                        rw [hy] at ry
                        cases hg : GG k with
                        | true =>
                          rw [hg] at rn hGk
                          have HT2 : Hid (Told HL YY (k + 1) (T 0)) := hT.skip (by omega) (Or.inr (Or.inr (by simpa using hGk.symm)))
                          clear hT hA hO hNo hYe hB hNx h9 hy hGk hg
                          go_wp2
                          go_roundw
                          case rel => exact ⟨k + 1, T, by omega, by omega, by go_num, HT2.out, HA.out, HO.out, HNo.out, HYe.out, HB.out⟩
                          case measure => simp [intOf]; omega
                        | false =>
                          rw [hg] at rn hGk
                          obtain ⟨t1, t2⟩ := hT.take hk1 (by omega) h9 hy (by simpa using hGk.symm)
                          have HT2 : Hid (Told HL YY (k + 1) ((nxS T 1) 0)) := by rw [at1_nx]; exact t2
                          have n1 : nxI T 1 = k := by rw [at1_nxI, t1]
                          have n2 : nxB T 1 = true := by rw [at1_nxB, t1]; exact bne_iff_ne.2 (by omega)
                          rw [n1, n2] at hNx
                          have g3 : ((k : Int) != (k : Int)) = false := by simp
                          generalize nxH T 1 = hx at hNx
                          clear hT hA hO hNo hYe hB h9 hy hGk hg t1 t2 n1 n2
                          go_wp2_with fail
                          refine hNx.mono ?_
                          rintro e w3 ⟨rfl, hA, hu⟩
                          have HB3 : Hid (Below w.heap.size w w3) := upd_below HB.out hu HNe.out.2.2.2.2.2
                          have HA3 : Hid (SgAt w3 b (nxS T 1)) := hA
                          have HO3 : Hid (SOk (nxS T 1)) := ok_nx HO.out _
                          have HNo3 : Hid (w3.heap[n]? = some (.cells (brow GG) 46 (0, 0))) := (hu.block n (lt_of_heap HNo.out) HNe.out.1).trans HNo.out
                          have HYe3 : Hid (w3.heap[y]? = some (.cells (brow YY) 46 (0, 0))) := (hu.block y (lt_of_heap HYe.out) HNe.out.2.1).trans HYe.out
                          clear hNx hA hu HNo HYe HA HO HB HT rn ry
                          go_wp2
                          go_roundw
                          case rel => exact ⟨k + 1, nxS T 1, by omega, by omega, by go_num, HT2.out, HA3.out, HO3.out, HNo3.out, HYe3.out, HB3.out⟩
                          case measure => simp [intOf]; omega
                  · obtain rfl : k = 16 := by omega
                    have i1 : decide (((16 : Nat) : Int) ≤ 15) = false := rfl
                    have n2 : nxB T 1 = false := by rw [at1_nxB, hT.fin]; rfl
                    rw [n2] at hNx
                    generalize nxI T 1 = ix at hNx
                    generalize nxH T 1 = hx at hNx
                    clear hT hA hO hNo hYe hB n2
                    go_wp2_with fail
                    refine hNx.mono ?_
                    rintro e w3 ⟨rfl, hA, hu⟩
                    have HB3 : Hid (Below w.heap.size w w3) := upd_below HB.out hu HNe.out.2.2.2.2.2
                    clear hNx hA hu
                    go_wp2_with fail
                    refine (awake_at _).mono ?_
                    rintro e w4 ⟨rfl, hb4⟩
                    go_wp2
                    go_ret
                    exact ⟨rfl, HB3.out.trans (hb4.mono HB3.out.size)⟩

theorem own : ownKnob Try.prog.godebug = none := by kernel_rfl
theorem laidOut : laidOutB Try.prog = true := by kernel_rfl

set_option maxRecDepth 100000 in
theorem once_lifted (os : Os) (started : os.Started) (H : Type) (enc : TypeId × Value → H) :
    ReturnsInHanded {} Try.checked os 5 .any (Rows.signalsOnceSpec.pre6 enc Try.prog Try.f5 Rows.signalsOnceRow.domain false) (Rows.signalsOnceSpec.post enc Try.prog Try.f5 false true false false) := by
  refine returnsInHanded_of_change (C := Try.checked) own started (by kernel_rfl) Try.func5
    (ChangeSpec.witness6 (enc := enc) (C := Try.checked) false ⟨#[], #[.slice none 0 0, .slice none 0 0], []⟩ 8 (by kernel_rfl) (by kernel_rfl) (by kernel_rfl) (by kernel_rfl)) ?_
  intro W base args ds gs before hval0 hW hcnd _
  have hval : ∀ (j : Nat) t v, Try.f5.params[j]? = some t → args[j]? = some v → Value.okWide Try.prog W .any base t v := hval0
  have hW' := hW
  obtain ⟨p, q, hA0, hV, rfl, hfz, hnd⟩ := hW
  have hA : DataW.TrodAll enc Try.prog W 0 (fun _ => true) true Try.f5.params.toList args.toList ds p := hA0
  rw [Try.params5] at hA hval
  obtain ⟨v0, vs0, d0, ds0, p0, q0, hargs, rfl, rfl, h0, r0⟩ := trodAll_cons hA
  obtain ⟨v1, vs1, d1, ds1, p1, q1, rfl, rfl, rfl, h1, r1⟩ := trodAll_cons r0
  obtain ⟨rfl, rfl, rfl⟩ := trodAll_nil r1
  obtain rfl : args = #[v0, v1] := by cases args; simp_all
  obtain ⟨rfl, rfl⟩ := trodVars_none hV
  have k0 := h0
  have lt0 : ∀ x ∈ p0, x.block < W.heap.size := by obtain ⟨m, hm⟩ := k0; exact DataW.trod_lt m _ _ _ hm
  obtain ⟨a0, len0, cap0, rfl⟩ := okWide_slice Try.underlying45 (hval 0 45 v0 rfl rfl)
  have k1 := h1
  have lt1 : ∀ x ∈ p1, x.block < W.heap.size := by obtain ⟨m, hm⟩ := k1; exact DataW.trod_lt m _ _ _ hm
  obtain ⟨a1, len1, cap1, rfl⟩ := okWide_slice Try.underlying45 (hval 1 45 v1 rfl rfl)
  clear hA0 hval0
  have hin0 : len0 ≤ 9223372036854775807 ∧ ∃ D : List Int, len0 = D.length ∧ IRow W a0 D := by
    obtain ⟨fuel, hf⟩ := h0
    exact ints_in (by simpa [Value.cells] using hf)
  have hin1 : len1 ≤ 9223372036854775807 ∧ ∃ D : List Int, len1 = D.length ∧ IRow W a1 D := by
    obtain ⟨fuel, hf⟩ := h1
    exact ints_in (by simpa [Value.cells] using hf)
  obtain ⟨q0, D0, e0, r0'⟩ := hin0
  obtain ⟨q1, D1, e1, r1'⟩ := hin1
  have hwalk : Calls Try.prog 5 #[.slice a0 len0 cap0, .slice a1 len1 cap1] W fun e w' => e = .returned (.bool true) ∧ Below W.heap.size W w' := once_walk a0 a1 len0 len1 cap0 cap1 D0 D1 W q0 q1 e0 e1 r0' r1'
  refine hwalk.mono fun e W' ⟨he, bel⟩ => ?_
  subst he
  exact ⟨_, rfl, _, _, _, [], _, [], hW', trodAll_mk1 (shut_bool Try.underlying4 _), (trodAll_cons_mk (Below.trod laidOut (by kernel_rfl) (of_decide_eq_true (by kernel_rfl)) k0 bel lt0) (trodAll_cons_mk (Below.trod laidOut (by kernel_rfl) (of_decide_eq_true (by kernel_rfl)) k1 bel lt1) trodAll_mk0)), rfl, bel.frame _, fun h => by cases h⟩

theorem once_holds : Rows.SignalsOnceSaid :=
  OpenClaim.holds_of_wide 5 Try.f5 rfl rfl rfl rfl rfl rfl rfl ⟨rfl, rfl, rfl, rfl, rfl⟩ rfl rfl rfl rfl rfl (by kernel_rfl) Try.func5 (by kernel_rfl)
    (of_decide_eq_true (by kernel_rfl)) (by unfold Func.isWrapper; first | (rw [if_pos (by decide +kernel)]; kernel_rfl) | (rw [if_neg (by decide +kernel)]; exact ⟨rfl, rfl⟩))
    (fun os started H enc _ => once_lifted os started H enc)
#print axioms once_holds
end Go.Proofs.Ytliifpknkdjgjaa
