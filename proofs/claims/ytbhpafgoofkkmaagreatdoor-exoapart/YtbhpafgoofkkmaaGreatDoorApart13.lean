/- Proved: januslaw13.ExoApart answers true for all rows of words and all raw calls (what environment 1 sees, and what its own calls answer, is the same whatever the others do, as long as nobody grants it something or sends to it, nor it to them), at the commit of this claim; where the variable exo.forms is laid as the program's text lays it (the card ties that). -/
import Derived.Test.YtbhpafgoofkkmaaGreatDoorApT13
import Derived.Test.YtbhpafgoofkkmaaGreatDoorRefuses13
import Derived.Deep.DeepCutAuto
import Derived.Deep.CutBlock
namespace Go.Proofs.YtbhpafgoofkkmaaGreatDoor
open Go.ChangeShapes Go.WideShapes Go.ChangeAt Go.RowKit
set_option linter.unusedVariables false

set_option maxRecDepth 100000 in
set_option maxHeartbeats 4000000 in
theorem apart_walk (a0 b0 : Option Addr) (ll lc ol oc : Nat) (w : World) (hF : Frm w) (hl : ll ≤ 9223372036854775807) (ho : ol ≤ 9223372036854775807) (HL : Hid (RowsAt w a0 ll)) (HO : Hid (AsksAt w b0 ol)) :
    Calls Tryz.prog 5 #[.slice a0 ll lc, .slice b0 ol oc] w fun x w' => x = .returned (.bool true) ∧ Below w.heap.size w w' := by
  have HF : Hid (Frm w) := hF
  clear hF
  have hwo := worlds_at w
  go_enter Tryz.func5, Tryz.ntmps5
  go_wp2_with fail
  refine hwo.mono ?_
  rintro x w1 ⟨K, L, X, rfl, hE1, hb1, hK, hLow⟩
  have HLow : Hid (XLow L w.heap.size) := hLow
  have HE1 : Hid (ExoAt w1 K L (wS 4)) := hE1
  have HB1 : Hid (Below w.heap.size w w1) := hb1
  have hw2 := worlds_at w1
  clear hE1 hb1 hK hLow hwo
  go_wp2_with fail
  refine hw2.mono ?_
  rintro x w2 ⟨K', L', X', rfl, hE2, hb2, hK', hLow'⟩
  have HLow' : Hid (XLow L' w.heap.size) := hLow'.mono HB1.out.size
  have HD0 : Hid (Duo2 w w2 K K' L L' 0 (al 0) (al 0)) := by
    have hbl : Below w.heap.size w w2 := HB1.out.trans (hb2.mono HB1.out.size)
    refine ⟨⟨HE1.out.below hb2, (XI.zero 8 16).env _, Nat.le_refl _, rfl, hbl⟩, ⟨hE2, (XI.zero 8 16).env _, Nat.le_refl _, rfl, hbl⟩, fun q h1 h2 => ?_⟩
    have q1 := HE1.out.feet_lt h1
    rcases h2 with h2 | h2
    · have := hLow'.f q h2; omega
    · have := hLow'.x q h2; omega
  clear hE2 hb2 hK' hLow' hw2 HE1 HB1
  go_wp2_with fail
  go_loopw [11] (fun s wr => ∃ (k : Nat), k ≤ 3 ∧ s = .int .i64 k ∧ Hid (Duo2 w wr K K' L L' (2 * k) (al k) (al k))) (fun s _ => 3 - (intOf s).toNat)
  case atStart => exact ⟨0, by omega, rfl, HD0⟩
  case round =>
    clear HD0
    obtain ⟨k, hk, rfl, HD⟩ := hrel
    by_cases hlt : k < 3
    · have ik : (k : Int) < 3 := by omega
      have hR1 := duo_lit HD.out HF.out HLow.out 1 [0] 1 rfl (u64s_lit rfl) (al_start k).Q (by rintro x rest q; injection q with q; subst q; decide) (by omega) (al (k + 1)) (fun a' c' => by rw [raw_zero]; rfl)
      clear HD
      go_wp2_with fail
      refine hR1.mono ?_
      rintro x w3 ⟨a3, n3, c3, r3, rfl, hD3⟩
      have hR2 := duo_lit hD3.swap HF.out HLow'.out 1 [0] 1 rfl (u64s_lit rfl) (al_start k).Q (by rintro x rest q; injection q with q; subst q; decide) (by omega) (al (k + 1)) (fun a' c' => by rw [raw_zero]; rfl)
      clear hR1 hD3
      go_wp2_with fail
      refine hR2.mono ?_
      rintro x w4 ⟨a4, n4, c4, r4, rfl, hD4⟩
      have HD4 : Hid (Duo2 w w4 K K' L L' (2 * (k + 1)) (al (k + 1)) (al (k + 1))) := hD4.swap
      clear hR2 hD4
      go_wp2
      go_roundw
      case rel => exact ⟨k + 1, by omega, by go_num, HD4⟩
      case measure => simp [intOf]; omega
    · have hk3 : k = 3 := by omega
      have kg : ¬ (k : Int) < 3 := by omega
      rw [hk3] at HD
      have hR1 := duo_lit HD.out HF.out HLow.out 1 [13, 2, 2] 3 rfl (u64s_lit rfl) (al_start 3).Q (by rintro x rest q; injection q with q; subst q; decide) (by omega) al4 (fun a' c' => by rw [raw_ext]; rfl)
      clear HD
      go_wp2_with fail
      refine hR1.mono ?_
      rintro x w3 ⟨a3, n3, c3, r3, rfl, hD3⟩
      have hR2 := duo_lit hD3.swap HF.out HLow'.out 1 [13, 2, 2] 3 rfl (u64s_lit rfl) (al_start 3).Q (by rintro x rest q; injection q with q; subst q; decide) (by omega) al4 (fun a' c' => by rw [raw_ext]; rfl)
      clear hR1 hD3
      go_wp2_with fail
      refine hR2.mono ?_
      rintro x w4 ⟨a4, n4, c4, r4, rfl, hD4⟩
      have HD4 : Hid (Duo2 w w4 K K' L L' (8 + 3000 * 0) al4 al4) := hD4.swap
      have HA4 : Hid (ApR al4 al4) := al4_start.ap
      clear hR2 hD4
      go_wp2
      go_loopw [12, 13] (fun sn si wr => ∃ (n i : Nat) (S M : XS), i ≤ ll ∧ i ≤ 60 ∧ n ≤ 2 * i ∧ n ≤ ol ∧ sn = .int .i64 n ∧ si = .int .i64 i ∧ Hid (Duo2 w wr K K' L L' (8 + 3000 * i) S M) ∧ Hid (ApR S M)) (fun _ si _ => 60 - (intOf si).toNat)
      case atStart => exact ⟨0, 0, _, _, by omega, by omega, by omega, by omega, rfl, rfl, HD4, HA4⟩
      case round =>
        clear HD4 HA4
        obtain ⟨n, i, S, M, hil, hi6, hn2, hno, rfl, rfl, HD, HA⟩ := hrel
        by_cases hlt : i < ll ∧ i < 60
        · obtain ⟨l1, l2⟩ := hlt
          have g0 : decide ((i : Int) < (ll : Int)) = true := decide_eq_true (by omega)
          have g1 : decide ((i : Int) < 60) = true := decide_eq_true (by omega)
          have ii : (i : Int) < (ll : Int) := by omega
          go_upto_block 4 with fail
          go_cut [12] (fun sn wc => ∃ (n' : Nat) (M' : XS), n' ≤ 2 * i + 2 ∧ n' ≤ ol ∧ sn = .int .i64 n' ∧ Hid (Duo2 w wc K K' L L' (8 + 3000 * i + 2) S M') ∧ Hid (ApR S M'))
          case first =>
            go_wp2_with fail
            go_loopw [12, 14] (fun sn sj wq => ∃ (n' j : Nat) (M' : XS), j ≤ 2 ∧ n' ≤ 2 * i + j ∧ n' ≤ ol ∧ sn = .int .i64 n' ∧ sj = .int .i64 j ∧ Hid (Duo2 w wq K K' L L' (8 + 3000 * i + j) S M') ∧ Hid (ApR S M')) (fun _ sj _ => 2 - (intOf sj).toNat)
            case atStart => exact ⟨n, 0, M, by omega, by omega, by omega, rfl, rfl, HD, HA⟩
            case round =>
              clear HD HA
              obtain ⟨n', j, M', hj, hn', hno', rfl, rfl, HD, HA⟩ := hrel
              by_cases hlt : j < 2 ∧ n' < ol
              · obtain ⟨j1, j2⟩ := hlt
                obtain ⟨gb, off, d, rfl, c0, c1, hok⟩ := HO.out n' j2
                have q0 : decide ((j : Int) < 2) = true := decide_eq_true (by omega)
                have q1 : decide ((n' : Int) < (ol : Int)) = true := decide_eq_true (by omega)
                have ij : (n' : Int) < (ol : Int) := by omega
                have hbr : Below w.heap.size w wr := HD.out.a.bl
                have z0 := (hbr.cell (cell_lt c0)).trans c0
                have z1 := (hbr.cell (cell_lt c1)).trans c1
                obtain ⟨V, hV⟩ : ∃ V, V = wr.alloc (.cells (askRow d) 32) := ⟨_, rfl⟩
                have hbV : Below wr.heap.size wr V := by rw [hV]; exact Ca.below_alloc _ _
                have hX : V.heap[wr.heap.size]? = some (.cells (askRow d) 32) := by rw [hV]; exact heap_alloc_new _ _
                have HDV : Hid (Duo2 w V K K' L L' (8 + 3000 * i + j) S M') := HD.out.below hbV
                have HOk : Hid (RdV w (.slice d.a d.ws.length d.cap) d.ws ∧ U64s d.ws) := hok
                have HBV : Hid (Below w.heap.size w V) := hbr.trans (hbV.mono hbr.size)
                have e0 : V.cell? ⟨wr.heap.size, 0, none⟩ = some (.int .i64 d.e) := by rw [cell_of_heap hX]; rfl
                have e1 : V.cell? ⟨wr.heap.size, 1, none⟩ = some (.slice d.a d.ws.length d.cap) := by rw [cell_of_heap hX]; rfl
                have HE : Hid _ := And.intro e0 e1
                have hjo := joined_at (.slice d.a d.ws.length d.cap) d.ws V (HOk.out.1.below HBV.out)
                clear hok hbV hX hbr c0 c1 HD e0 e1
                have HV : Hid (V = wr.alloc (.cells #[.int .i64 d.e, .slice d.a d.ws.length d.cap] 32)) := hV
                clear hV
                by_cases he : d.e = 1
                · have hee : (d.e == 1) = true := by simpa using he
                  have HD2 : Hid (Duo2 w V K K' L L' (8 + 3000 * i + (j + 1)) S M') := HDV.out.mono (by omega)
                  clear HDV hjo HE
                  rw [HV.out, he] at HD2
                  clear HV
                  go_wp2
                  go_roundw
                  case rel => exact ⟨n' + 1, j + 1, M', by omega, by omega, by omega, by go_num, by go_num, HD2, HA⟩
                  case measure => simp [intOf]; omega
                · have hee : (d.e == 1) = false := by simpa using he
                  have HNe : Hid (d.e ≠ 1) := he
                  clear he
                  cases hj1 : joinB d.ws with
                  | true =>
                    rw [hj1] at hjo
                    have HD2 : Hid (Duo2 w V K K' L L' (8 + 3000 * i + (j + 1)) S M') := HDV.out.mono (by omega)
                    clear HDV HE hj1
                    go_wp2_with fail
                    rw [← HV.out]
                    clear HV
                    refine hjo.mono ?_
                    rintro x w5 ⟨rfl, hw⟩
                    rw [hw]
                    clear hw w5 hjo
                    go_wp2
                    go_roundw
                    case rel => exact ⟨n' + 1, j + 1, M', by omega, by omega, by omega, by go_num, by go_num, HD2, HA⟩
                    case measure => simp [intOf]; omega
                  | false =>
                    rw [hj1] at hjo
                    have hjn := join_no hj1
                    have hraw := duo_raw HDV.out.swap HF.out HLow'.out d.e (.slice d.a d.ws.length d.cap) d.ws (HDV.out.swap.words HLow'.out HOk.out.1) HOk.out.2 HA.out.qM (fun x rest q => (hjn x rest q).2.1) (by omega)
                    have HJn : Hid _ := hjn
                    clear hj1 hjn
                    obtain ⟨e0, e1⟩ := HE.out
                    clear HE
                    go_wp2_with fail
                    rw [← HV.out]
                    clear HV
                    refine hjo.mono ?_
                    rintro x w5 ⟨rfl, hw⟩
                    rw [hw]
                    clear hw w5 hjo
                    go_wp2_with fail
                    refine hraw.mono ?_
                    rintro x w6 ⟨a, nn, c, a', c', rfl, _, hD6, _⟩
                    have HD6 : Hid (Duo2 w w6 K K' L L' (8 + 3000 * i + (j + 1)) S (rawS M' d.e d.ws a' c').1) := hD6.swap
                    have HA6 : Hid (ApR S (rawS M' d.e d.ws a' c').1) := HA.out.otherS (ok_of HDV.out.b.ex HDV.out.b.xi) HNe.out HOk.out.2 HJn.out a' c'
                    clear hD6 hraw HA HDV e0 e1
                    go_wp2
                    go_roundw
                    case rel => exact ⟨n' + 1, j + 1, _, by omega, by omega, by omega, by go_num, by go_num, HD6, HA6⟩
                    case measure => simp [intOf]; omega
              · have HD2 : Hid (Duo2 w wr K K' L L' (8 + 3000 * i + 2) S M') := HD.out.mono (by omega)
                clear HD
                go_wp2
                all_goals
                  go_meet
                  case rel => exact ⟨n', M', by omega, by omega, rfl, HD2, HA⟩
          case rest =>
            clear HD HA
            obtain ⟨n', M', hn', hno', rfl, HD, HA⟩ := hcut
            obtain ⟨gb, off, av, cv, ws, rfl, c0, hrd, hus⟩ := HL.out i l1
            have z0 := (HD.out.a.bl.cell (cell_lt c0)).trans c0
            have hjo := joined_at (.slice av ws.length cv) ws wc (hrd.below HD.out.a.bl)
            have HRd : Hid (RdV w (.slice av ws.length cv) ws ∧ U64s ws) := ⟨hrd, hus⟩
            have HD2 : Hid (Duo2 w wc K K' L L' (8 + 3000 * (i + 1)) S M') := HD.out.mono (by omega)
            clear c0 hrd hus
            cases hws : ws with
            | nil =>
              subst hws
              have hlen : (([] : List Int).length : Int) = 0 := rfl
              dsimp only [List.length_nil, joinB] at *
              go_wp2_with fail
              refine hjo.mono ?_
              rintro x w5 ⟨rfl, hw⟩
              rw [hw]
              clear hw w5 hjo
              go_wp2
              go_roundw
              case rel => exact ⟨n', i + 1, S, M', by omega, by omega, by omega, by omega, rfl, by go_num, HD2, HA⟩
              case measure => simp [intOf]; omega
            | cons x rest =>
              have hln : ws.length = rest.length + 1 := by rw [hws]; rfl
              have HWs : Hid (ws = x :: rest) := hws
              have hjx : joinB ws = (x == 1 || x == 11 || x == 14) := by rw [hws]; rfl
              obtain ⟨g, o, rfl, -⟩ := rdv_has HRd.out.1 rest.length hln
              have f0 : wc.cell? ⟨g, o, none⟩ = some (.int .u64 x) := by
                have := rdv_cell (HRd.out.1.below HD.out.a.bl) (j := 0) (by omega)
                rw [hws] at this
                simpa using this
              have hl0 : (((ws.length : Nat) : Int) == 0) = false := by rw [beq_eq_false_iff_ne]; omega
              have hl1 : (0 : Int) < ((ws.length : Nat) : Int) := by omega
              clear hws hln
              generalize hN : ws.length = N at *
              have HN : Hid _ := hN
              clear hN
              cases hj1 : (x == 1 || x == 11 || x == 14) with
              | true =>
                rw [hjx, hj1] at hjo
                clear hjx hj1
                go_wp2_with fail
                refine hjo.mono ?_
                rintro x w5 ⟨rfl, hw⟩
                rw [hw]
                clear hw w5 hjo
                go_wp2
                go_roundw
                case rel => exact ⟨n', i + 1, S, M', by omega, by omega, by omega, by omega, rfl, by go_num, HD2, HA⟩
                case measure => simp [intOf]; omega
              | false =>
                rw [hjx, hj1] at hjo
                clear hjx
                simp only [Bool.or_eq_false_iff, beq_eq_false_iff_ne, ne_eq] at hj1
                by_cases hx0 : x = 0
                · subst hx0
                  clear hj1
                  go_wp2_with fail
                  refine hjo.mono ?_
                  rintro x w5 ⟨rfl, hw⟩
                  rw [hw]
                  clear hw w5 hjo
                  go_wp2
                  go_roundw
                  case rel => exact ⟨n', i + 1, S, M', by omega, by omega, by omega, by omega, rfl, by go_num, HD2, HA⟩
                  case measure => simp [intOf]; omega
                · by_cases hx12 : x = 12
                  · subst hx12
                    clear hj1 hx0
                    go_wp2_with fail
                    refine hjo.mono ?_
                    rintro x w5 ⟨rfl, hw⟩
                    rw [hw]
                    clear hw w5 hjo
                    go_wp2
                    go_roundw
                    case rel => exact ⟨n', i + 1, S, M', by omega, by omega, by omega, by omega, rfl, by go_num, HD2, HA⟩
                    case measure => simp [intOf]; omega
                  · by_cases hx13 : x = 13
                    · subst hx13
                      clear hj1 hx0 hx12
                      go_wp2_with fail
                      refine hjo.mono ?_
                      rintro x w5 ⟨rfl, hw⟩
                      rw [hw]
                      clear hw w5 hjo
                      go_wp2
                      go_roundw
                      case rel => exact ⟨n', i + 1, S, M', by omega, by omega, by omega, by omega, rfl, by go_num, HD2, HA⟩
                      case measure => simp [intOf]; omega
                    · have hall : ∀ y r, ws = y :: r → y ≠ 0 ∧ y ≠ 1 ∧ y ≠ 11 ∧ y ≠ 12 ∧ y ≠ 13 ∧ y ≠ 14 := by
                        intro y r q
                        rw [HWs.out] at q
                        injection q with q _
                        subst q
                        exact ⟨hx0, hj1.1.1, hj1.1.2, hx12, hx13, hj1.2⟩
                      have b0 : (x == 0) = false := by simpa using hx0
                      have b12 : (x == 12) = false := by simpa using hx12
                      have b13 : (x == 13) = false := by simpa using hx13
                      have hr1 := duo_raw HD.out HF.out HLow.out 1 (.slice (some ⟨g, o, none⟩) N cv) ws (HD.out.words HLow.out HRd.out.1) HRd.out.2 HA.out.qS (fun y r q => (hall y r q).2.2.1) (by omega)
                      have HAll : Hid _ := hall
                      clear hall hx0 hx12 hx13 hj1 HD2
                      go_wp2_with fail
                      refine hjo.mono ?_
                      rintro x w5 ⟨rfl, hw⟩
                      rw [hw]
                      clear hw w5 hjo
                      go_wp2_with fail
                      refine hr1.mono ?_
                      rintro x w6 ⟨a6, n6, c6, a', c', rfl, hr6, hD6, ht6⟩
                      have hr2 := duo_raw hD6.swap HF.out HLow'.out 1 (.slice (some ⟨g, o, none⟩) N cv) ws (hD6.swap.words HLow'.out HRd.out.1) HRd.out.2 HA.out.qM (fun y r q => (HAll.out y r q).2.2.1) (by omega)
                      have HR6 : Hid (URow 0 w6 (.slice a6 n6 c6) (rawS S 1 ws a' c').2.1) := hr6.mono (Nat.zero_le _)
                      have HD6 : Hid _ := hD6
                      obtain ⟨E, hE⟩ : ∃ E, E = (rawS S 1 ws a' c').2.2 := ⟨_, rfl⟩
                      rw [← hE]
                      have HEq : Hid _ := hE
                      clear hE hr1 hr6 hD6 ht6
                      go_wp2_with fail
                      refine hr2.mono ?_
                      rintro x w7 ⟨b7, n7, c7, a'', c'', rfl, hr7, hD7, ht7⟩
                      obtain ⟨hA7, heq⟩ := HA.out.ownS (ok_of HD.out.a.ex HD.out.a.xi) (ok_of HD.out.b.ex HD.out.b.xi) HRd.out.2 HAll.out a' a'' c' c''
                      have hx6 := URow.tch HR6.out ht7 HD6.out.b.ex
                      have hlA := raw_len HD.out.a.ex HA.out.qS 1 ws a' c'
                      rw [heq] at hr7
                      rw [heq, ← HEq.out]
                      have HD7 : Hid (Duo2 w w7 K K' L L' (8 + 3000 * i + 2 + 1 + 1) (rawS S 1 ws a' c').1 (rawS M' 1 ws a'' c'').1) := hD7.swap
                      have HA8 : Hid (ApR (rawS S 1 ws a' c').1 (rawS M' 1 ws a'' c'').1) := hA7
                      obtain ⟨_, _, e6, _, r6⟩ := hx6.rdv
                      obtain ⟨_, _, e7, _, r7⟩ := hr7.rdv
                      simp only [Value.slice.injEq] at e6 e7
                      rw [← e6.1] at r6
                      rw [← e7.1] at r7
                      have hn6 := e6.2.1
                      have hn7 := e7.2.1
                      clear e6 e7 heq HEq hA7 hD7 hr7 hx6 ht7 hr2 HR6 HD6 HD HA
                      generalize (rawS S 1 ws a' c').2.1 = A at *
                      generalize (rawS S 1 ws a' c').1 = S7 at *
                      generalize (rawS M' 1 ws a'' c'').1 = M7 at *
                      subst hn6 hn7
                      have hW1 := Ip.words_same A a6 b7 c6 c7 w7 r6 r7 hlA
                      clear r6 r7 hlA
                      go_wp2_with fail
                      refine hW1.mono ?_
                      rintro x w8 ⟨rfl, hb8⟩
                      have HD8 : Hid (Duo2 w w8 K K' L L' (8 + 3000 * i + 2 + 1 + 1) S7 M7) := HD7.out.below hb8
                      clear hW1 hb8 HD7
                      have hse1 := duo_sees HD8.out HLow.out 1 (by omega)
                      go_wp2_with fail
                      refine hse1.mono ?_
                      rintro x w9 ⟨v9, m9, rfl, hr9, hD9, ht9⟩
                      have hse2 := duo_sees hD9.swap HLow'.out 1 (by omega)
                      have HR9 : Hid (URow 0 w9 v9 (seesV S7 1)) := hr9.mono (Nat.zero_le _)
                      have HD9 : Hid _ := hD9
                      obtain ⟨a9, n9, c9, hv9⟩ := hr9.shape
                      subst hv9
                      clear hse1 hr9 hD9 ht9
                      go_wp2_with fail
                      refine hse2.mono ?_
                      rintro x w10 ⟨v10, m10, rfl, hr10, hD10, ht10⟩
                      have hx9 := URow.tch HR9.out ht10 HD9.out.b.ex
                      rw [HA8.out.sees (ok_of HD8.out.a.ex HD8.out.a.xi)] at hr10
                      have hlX : (seesV S7 1).length ≤ 1000000 := sees_len HD8.out.a.ex HD8.out.a.d 1
                      have HD10 : Hid (Duo2 w w10 K K' L L' (8 + 3000 * i + 2 + 1 + 1 + 1024 + 1024) (S7.mv m9) (M7.mv m10)) := hD10.swap
                      have HA10 : Hid (ApR (S7.mv m9) (M7.mv m10)) := HA8.out.mv m9 m10
                      obtain ⟨a10, n10, c10, hv10⟩ := hr10.shape
                      subst hv10
                      obtain ⟨_, _, e9, _, r9⟩ := hx9.rdv
                      obtain ⟨_, _, e10, _, r10⟩ := hr10.rdv
                      simp only [Value.slice.injEq] at e9 e10
                      rw [← e9.1] at r9
                      rw [← e10.1] at r10
                      have hn9 := e9.2.1
                      have hn10 := e10.2.1
                      clear e9 e10
                      generalize seesV S7 1 = XX at *
                      subst hn9 hn10
                      have hW2 := Ip.words_same XX a9 a10 c9 c10 w10 r9 r10 hlX
                      clear hse2 hr10 hD10 ht10 hx9 r9 r10 hlX HR9 HD9
                      go_wp2_with fail
                      refine hW2.mono ?_
                      rintro x w11 ⟨rfl, hb11⟩
                      have HD11 : Hid (Duo2 w w11 K K' L L' (8 + 3000 * i + 2 + 1 + 1 + 1024 + 1024) (S7.mv m9) (M7.mv m10)) := HD10.out.below hb11
                      clear hW2 hb11 HD10
                      have HD12 : Hid (Duo2 w w11 K K' L L' (8 + 3000 * (i + 1)) (S7.mv m9) (M7.mv m10)) := HD11.out.mono (by omega)
                      clear HD11
                      go_wp2
                      go_roundw
                      case rel => exact ⟨n', i + 1, _, _, by omega, by omega, by omega, by omega, rfl, by go_num, HD12, HA10⟩
                      case measure => simp [intOf]; omega
        · have HD8 : Hid (Duo2 w wr K K' L L' (8 + 3000 * i) S M) := HD
          have HA8 : Hid (ApR S M) := HA
          clear HD HA
          have hways : ¬ ((i : Int) < (ll : Int)) ∨ ((i : Int) < (ll : Int) ∧ ¬ ((i : Int) < 60)) := by omega
          rcases hways with hw1 | ⟨hw1, hw2⟩
          all_goals
            have hse1 := duo_sees HD8.out HLow.out 1 (by omega)
            go_wp2_with fail
            refine hse1.mono ?_
            rintro x w9 ⟨v9, m9, rfl, hr9, hD9, ht9⟩
            have hse2 := duo_sees hD9.swap HLow'.out 1 (by omega)
            have HR9 : Hid (URow 0 w9 v9 (seesV S 1)) := hr9.mono (Nat.zero_le _)
            have HD9 : Hid _ := hD9
            obtain ⟨a9, n9, c9, hv9⟩ := hr9.shape
            subst hv9
            clear hse1 hr9 hD9 ht9
            go_wp2_with fail
            refine hse2.mono ?_
            rintro x w10 ⟨v10, m10, rfl, hr10, hD10, ht10⟩
            have hx9 := URow.tch HR9.out ht10 HD9.out.b.ex
            rw [HA8.out.sees (ok_of HD8.out.a.ex HD8.out.a.xi)] at hr10
            have hlX : (seesV S 1).length ≤ 1000000 := sees_len HD8.out.a.ex HD8.out.a.d 1
            have HD10 : Hid (Duo2 w w10 K K' L L' (8 + 3000 * i + 1024 + 1024) (S.mv m9) (M.mv m10)) := hD10.swap
            have HA10 : Hid (ApR (S.mv m9) (M.mv m10)) := HA8.out.mv m9 m10
            obtain ⟨a10, n10, c10, hv10⟩ := hr10.shape
            subst hv10
            obtain ⟨_, _, e9, _, r9⟩ := hx9.rdv
            obtain ⟨_, _, e10, _, r10⟩ := hr10.rdv
            simp only [Value.slice.injEq] at e9 e10
            rw [← e9.1] at r9
            rw [← e10.1] at r10
            have hn9 := e9.2.1
            have hn10 := e10.2.1
            clear e9 e10
            generalize seesV S 1 = XX at *
            subst hn9 hn10
            have hW2 := Ip.words_same XX a9 a10 c9 c10 w10 r9 r10 hlX
            clear hse2 hr10 hD10 ht10 hx9 r9 r10 hlX HR9 HD9
            go_wp2_with fail
            refine hW2.mono ?_
            rintro x w11 ⟨rfl, hb11⟩
            have HD11 : Hid (Duo2 w w11 K K' L L' (8 + 3000 * i + 1024 + 1024) (S.mv m9) (M.mv m10)) := HD10.out.below hb11
            clear hW2 hb11 HD10
            have HB11 : Hid (Below w.heap.size w w11) := HD11.out.a.bl
            have hFw := HF.out.below (Frm.pos HF.out) HB11.out
            go_wp2_with fail
            refine (awake_at w11 hFw).mono ?_
            rintro x w12 ⟨rfl, hb12⟩
            go_wp2
            go_ret
            exact ⟨rfl, HB11.out.trans (hb12.mono HB11.out.size)⟩
end Go.Proofs.YtbhpafgoofkkmaaGreatDoor
