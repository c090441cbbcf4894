/- The reference of package pipes: Decode, walked. -/
import Derived.Test.YtpnmaoinnmmfdaaRpC
namespace Go.Proofs.Ytpnmaoinnmmfdaa
open Go.RowKit Go.Lib
set_option linter.unusedVariables false

set_option maxRecDepth 100000 in
set_option maxHeartbeats 8000000 in
theorem xdecode_at (a : Option Addr) (n cap : Nat) (D : List Int) (w : World) (hr : Rd w a D) (hn : n = D.length) (hu : U64 D) (hn9 : n ≤ 2000) :
    Calls Try.prog 24 #[.slice a n cap] w fun x w' => (∃ p, x = .returned (.tuple #[.pointer p, .int .i64 (deE D)])) ∧ Below w.heap.size w w' := by
  have hz := zero_ref
  have HRr : Hid (RpR rrow PS.none) := rrow_R
  generalize rrow = R at *
  have HRd : Hid (Rd w a D) := hr
  have HU : Hid (U64 D) := hu
  have HN : Hid (n = D.length) := hn
  clear hr hu hn
  go_enter Try.func24, Try.ntmps24
  go_wp2
  have HA : Hid (RpAt (w.alloc (.cells R 29)) w.heap.size PS.none) := ⟨R, heap_alloc_new _ _, HRr.out⟩
  have HB1 : Hid (Below w.heap.size w (w.alloc (.cells R 29))) := below_alloc _ _
  generalize w.alloc (.cells R 29) = W0 at *
  obtain ⟨b, hb⟩ : ∃ b, b = w.heap.size := ⟨_, rfl⟩
  rw [← hb] at HA ⊢
  have HBb : Hid (b = w.heap.size) := hb
  clear hb hz
  go_loopw [5, 6] (fun s i wr => ∃ (k at' : Nat) (S : PS), k ≤ 16 ∧ at' ≤ n ∧ i = .int .i64 k ∧ s = .int .i64 at' ∧ Step D S k at' ∧ Fit8 S ∧ (∀ j, k ≤ j → S j = none) ∧ RpAt wr b S ∧ Below w.heap.size w wr) (fun _ i _ => 16 - (intOf i).toNat)
  case atStart => exact ⟨0, 0, PS.none, by omega, by omega, rfl, rfl, Or.inl rfl, fits_none, fun _ _ => rfl, HA.out, HB1.out⟩
  case round =>
    clear HA HB1
    obtain ⟨k, p, S, hk, hp, rfl, rfl, hSt, hF, hno, hA, hB⟩ := hrel
    have HSt : Hid (Step D S k p) := hSt
    have HF : Hid (Fit8 S) := hF
    have HNo : Hid (∀ j, k ≤ j → S j = none) := hno
    have HA : Hid (RpAt wr b S) := hA
    have HB : Hid (Below w.heap.size w wr) := hB
    by_cases hlt : k < 16
    · have i1 : decide ((k : Int) < 16) = true := decide_eq_true (by omega)
      have hki : (k : Int) < 16 := by omega
      by_cases hpn : p < n
      · have i2 : decide ((n : Int) ≤ (p : Int)) = false := decide_eq_false (by omega)
        have i2n : decide (n ≤ p) = false := decide_eq_false (by omega)
        have hpi : (p : Int) < (n : Int) := by omega
        obtain ⟨x, hx⟩ : ∃ x, D[p]? = some x := ⟨D[p]'(by rw [← HN.out]; exact hpn), List.getElem?_eq_getElem _⟩
        obtain ⟨g, off, rfl, d0⟩ := HRd.out p x hx
        have c0 := (hB.cell (cell_lt d0)).trans d0
        have hs1 : IntKind.i64.wrap ((p : Int) + 1) = (p : Int) + 1 := by simp [IntKind.wrap, IntKind.bits, IntKind.signed]; omega
        by_cases h0 : x = 0
        · rw [h0] at c0
          have HS2 : Hid (Step D S (k + 1) (p + 1)) := hSt.skip hlt (by rw [hx, h0]) (hno k (Nat.le_refl _))
          clear hSt hF hno hA hB hx h0 d0
          go_wp2
          go_roundw
          case rel => exact ⟨k + 1, p + 1, S, by omega, by omega, by go_num, by go_num, HS2.out, HF.out, fun j hj => HNo.out j (by omega), HA.out, HB.out⟩
          case measure => simp [intOf]; omega
        · have g0 : (x == 0) = false := beq_false_of_ne h0
          by_cases hp1 : p + 1 < n
          · have i3 : decide ((n : Int) ≤ (p : Int) + 1) = false := decide_eq_false (by omega)
            have hpi1 : (p : Int) + 1 < (n : Int) := by omega
            obtain ⟨c, hc⟩ : ∃ c, D[p + 1]? = some c := ⟨D[p + 1]'(by rw [← HN.out]; exact hp1), List.getElem?_eq_getElem _⟩
            obtain ⟨_, _, e1, d1⟩ := HRd.out (p + 1) c hc
            simp only [Option.some.injEq, Addr.mk.injEq, and_true] at e1
            obtain ⟨rfl, rfl⟩ := e1
            have c1 := (hB.cell (cell_lt d1)).trans d1
            have hcu := u64_get HU.out hc
            obtain ⟨hc0, hc1⟩ := hcu
            by_cases h8 : 8 < c
            · have i4 : decide (8 < c) = true := decide_eq_true h8
              have HE : Hid (deE D = 101) := deE_no (hSt.bad hlt (bad_one hx h0 (by rw [drop_cons hc, rdB, if_pos (Or.inl h8)])))
              clear hSt hF hno hA hB hx hc d0 d1
              go_wp2
              go_ret2
              exact ⟨⟨none, by rw [HE.out]; rfl⟩, HB.out⟩
            · have i4 : decide (8 < c) = false := decide_eq_false h8
              obtain ⟨m, rfl⟩ : ∃ m : Nat, c = (m : Int) := ⟨c.toNat, by omega⟩
              have hw3 : IntKind.i64.wrap (m : Int) = (m : Int) := by simp [IntKind.wrap, IntKind.bits, IntKind.signed]; omega
              obtain ⟨r, hre⟩ : ∃ r : Int, r = (n : Int) - (p : Int) := ⟨_, rfl⟩
              obtain ⟨q, hqe⟩ : ∃ q : Int, q = r - 2 := ⟨_, rfl⟩
              have hs2 : IntKind.i64.wrap ((n : Int) - (p : Int)) = r := by rw [hre]; simp [IntKind.wrap, IntKind.bits, IntKind.signed]; omega
              have hs3 : IntKind.i64.wrap (r - 2) = q := by rw [hqe, hre]; simp [IntKind.wrap, IntKind.bits, IntKind.signed]; omega
              by_cases hl : q < (m : Int)
              · have i5 : decide (q < (m : Int)) = true := decide_eq_true hl
                have HE : Hid (deE D = 101) := deE_no (hSt.bad hlt (bad_one hx h0 (by rw [drop_cons hc, rdB, if_pos (Or.inr (by rw [List.length_drop, ← HN.out]; omega))])))
                clear hSt hF hno hA hB hx hc d0 d1 hre hqe hl hc0 hc1 h8 h0
                go_wp2
                go_ret2
                exact ⟨⟨none, by rw [HE.out]; rfl⟩, HB.out⟩
              · have i5 : decide (q < (m : Int)) = false := decide_eq_false hl
                have hmn : p + 2 + m ≤ n := by omega
                have HSt2 : Hid (Step D (S.set k (some (unB ((D.drop (p + 2)).take m)))) (k + 1) (p + (2 + m))) := hSt.got hlt hx h0 hc (by omega) (by rw [← HN.out]; exact hmn)
                have hm8 : m ≤ 8 := by omega
                obtain ⟨row, hRB, hRR⟩ := hA
                have c2 := (hRB.cell k).trans (hRR.made k hlt)
                have f2 := hRB.free k
                rw [hno k (Nat.le_refl _)] at c2
                dsimp only [Option.isSome] at c2
                have hgb : g ≠ b := by have h1 := cell_lt d0; have h2 := HBb.out; dsimp only at h1; omega
                have c0'' : (wr.setCell ⟨b, k, none⟩ (.bool true)).cell? ⟨g, off + (p + 1), none⟩ = some (.int .u64 (m : Int)) := by
                  rw [← c1]
                  exact cell_same (w := wr) (w' := wr.setCell ⟨b, k, none⟩ (.bool true)) c1 (Below.heap_setCell _ _ _ _ hgb) |>.trans c1.symm
                have HRB2 : Hid (RB (wr.setCell ⟨b, k, none⟩ (.bool true)) b (row.setIfInBounds k (.bool true))) := hRB.set k _
                have HRR : Hid (RpR row S) := hRR
                have HB2 : Hid (Below w.heap.size w (wr.setCell ⟨b, k, none⟩ (.bool true))) := HB.out.trans ((Upd.setCell b k _ _).below (by have := HBb.out; omega) HB.out.size)
                clear hSt hF hno hB hx hc d0 d1 hRB hRR HA HB HSt hre hqe hl hc0 hc1 h8 h0
                go_wp2
                have HC3 : Hid ((row.setIfInBounds k (.bool true))[16 + k]? = some (tx [])) := by
                  show _ = _
                  rw [Array.getElem?_setIfInBounds, if_neg (by omega), HRR.out.txt k hlt, HNo.out k (Nat.le_refl _)]
                  rfl
                generalize wr.setCell ⟨b, k, none⟩ (.bool true) = W1 at *
                clear c0 c1 c2 f2 c0'' i4 i5 hs2 hs3
                go_loopw [8, 9] (fun s i wr => ∃ (j : Nat) (aj : Option Addr) (cj : Nat), j ≤ m ∧ i = .int .i64 j ∧ .slice aj j cj = s ∧ wr.ownsRow w.heap.size 5 1 (.slice aj j cj) (unB ((D.drop (p + 2)).take j)).length (bvs (unB ((D.drop (p + 2)).take j))) ∧ UY w.heap.size W1 wr) (fun _ i _ => m - (intOf i).toNat)
                case atStart => exact ⟨0, none, 0, by omega, rfl, rfl, World.ownsRow_nil _ _ _ 1, UY.refl _ _⟩
                case round =>
                  obtain ⟨j, aj, cj, hj, rfl, rfl, hown, hY⟩ := hrel
                  have HY : Hid (UY w.heap.size W1 wr) := hY
                  have HB3 : Hid (Below w.heap.size w wr) := HB2.out.trans hY.bel
                  have hlj : (unB ((D.drop (p + 2)).take j)).length = j := by rw [unB_len, List.length_take, List.length_drop, ← HN.out]; omega
                  by_cases hjm : j < m
                  · have j1 : decide ((j : Int) < (m : Int)) = true := decide_eq_true (by omega)
                    obtain ⟨y, hy⟩ : ∃ y, D[p + 2 + j]? = some y := ⟨D[p + 2 + j]'(by rw [← HN.out]; omega), List.getElem?_eq_getElem _⟩
                    obtain ⟨_, _, e1, d0⟩ := HRd.out (p + 2 + j) y hy
                    simp only [Option.some.injEq, Addr.mk.injEq, and_true] at e1
                    obtain ⟨rfl, rfl⟩ := e1
                    have c0 := (HB3.out.cell (cell_lt d0)).trans d0
                    have hyu := u64_get HU.out hy
                    have hwy := wrap_u8 hyu.1
                    obtain ⟨yb, hyb⟩ : ∃ yb, yb = UInt8.ofNat (y % 256).toNat := ⟨_, rfl⟩
                    rw [← hyb] at hwy
                    have hsn := unB_snoc (ws := D.drop (p + 2)) (j := j) (x := y) (by rw [List.getElem?_drop]; exact hy)
                    rw [← hyb] at hsn
                    obtain ⟨a3, c3, w3, hrun, hown3, hY3⟩ := appB hown hlj HB3.out.size (by omega) yb (yb.toNat : Int) rfl
                    rw [← hsn] at hown3
                    have HRun : Hid _ := hrun
                    have HO3 : Hid (w3.ownsRow w.heap.size 5 1 (.slice a3 (j + 1) c3) (unB ((D.drop (p + 2)).take (j + 1))).length (bvs (unB ((D.drop (p + 2)).take (j + 1))))) := hown3
                    have HY3 : Hid (UY w.heap.size W1 w3) := hY.trans hY3
                    have hs4 : IntKind.i64.wrap ((p : Int) + 2) = (p : Int) + 2 := by simp [IntKind.wrap, IntKind.bits, IntKind.signed]; omega
                    have hs5 : IntKind.i64.wrap ((p : Int) + 2 + (j : Int)) = (p : Int) + 2 + (j : Int) := by simp [IntKind.wrap, IntKind.bits, IntKind.signed]; omega
                    have hin : (p : Int) + 2 + (j : Int) < (n : Int) := by omega
                    have hin2 : p + 2 + j < n := by omega
                    generalize (yb.toNat : Int) = z at *
                    clear hrun hown3 hY3 hsn hyb hyu hy d0 hown hY hlj HB3
                    go_wp2_with (at_builtin; refine wpList_append_eq rfl _ _ _ rfl _ _ _ rfl rfl HRun.out ?_)
                    go_roundw
                    case rel => exact ⟨j + 1, a3, c3, by omega, by go_num, rfl, HO3.out, HY3.out⟩
                    case measure => simp [intOf]; omega
                  · obtain rfl : j = m := by omega
                    have j1 : decide ((j : Int) < (j : Int)) = false := decide_eq_false (by omega)
                    have hRB3 := hY.rb HRB2.out
                    have c3 := (hRB3.cell (16 + k)).trans HC3.out
                    have f3 := hRB3.free (16 + k)
                    have c3' : wr.drew.cell? ⟨b, 16 + k, none⟩ = some (tx []) := c3
                    have f3' : wr.drew.frozen? ⟨b, 16 + k, none⟩ = false := f3
                    have hst := own_string hown hlj.symm wr rfl
                    have hst2 := own_string hown hlj.symm wr.drew rfl
                    have HRR2 : Hid (RpR ((row.setIfInBounds k (.bool true)).setIfInBounds (16 + k) (tx (unB ((D.drop (p + 2)).take j)))) (S.set k (some (unB ((D.drop (p + 2)).take j))))) := HRR.out.both (o := some _) hlt
                    have HRB3 : Hid (RB wr b (row.setIfInBounds k (.bool true))) := hRB3
                    have HF2 : Hid (Fit8 (S.set k (some (unB ((D.drop (p + 2)).take j))))) := fits_set HF.out (fun l e => by cases e; rw [hlj]; exact hm8)
                    have hs6 : IntKind.i64.wrap (2 + (j : Int)) = 2 + (j : Int) := by simp [IntKind.wrap, IntKind.bits, IntKind.signed]; omega
                    have hs7 : IntKind.i64.wrap ((p : Int) + (2 + (j : Int))) = (p : Int) + (2 + (j : Int)) := by simp [IntKind.wrap, IntKind.bits, IntKind.signed]; omega
                    generalize unB ((D.drop (p + 2)).take j) = T at *
                    clear hown hY hlj hRB3
                    go_wp2_with fail
                    go_region
                    all_goals
                      go_wp2
                      go_roundw
                      case rel => exact ⟨k + 1, p + (2 + j), S.set k (some T), by omega, by omega, by go_num, by first | go_num | (simp), HSt2.out, HF2.out, fun i hi => (by rw [PS.set_other _ _ _ _ (by omega)]; exact HNo.out i (by omega)), ⟨_, RB.set (RB.drew HRB3.out) _ _, HRR2.out⟩, HB3.out.drew.trans ((Upd.setCell b _ _ _).below (by have := HBb.out; omega) (by have := HB3.out.size; simpa using this))⟩
                      case measure => simp [intOf]; omega
          · have i3 : decide ((n : Int) ≤ (p : Int) + 1) = true := decide_eq_true (by omega)
            have HE : Hid (deE D = 101) := deE_no (hSt.bad hlt (bad_one hx h0 (by rw [List.drop_eq_nil_of_le (by rw [← HN.out]; omega)]; rfl)))
            clear hSt hF hno hA hB hx d0
            go_wp2
            go_ret2
            exact ⟨⟨none, by rw [HE.out]; rfl⟩, HB.out⟩
      · have i2 : decide ((n : Int) ≤ (p : Int)) = true := decide_eq_true (by omega)
        have HE : Hid (deE D = 101) := deE_no (hSt.bad hlt (bad_end (by rw [← HN.out]; omega)))
        clear hSt hF hno hA hB
        go_wp2
        go_ret2
        exact ⟨⟨none, by rw [HE.out]; rfl⟩, HB.out⟩
    · have i1 : decide ((k : Int) < 16) = false := decide_eq_false (by omega)
      have hEn := xencode_at b S wr hA hF
      have HE : Hid (deE D = if decide (encS S = D) then 0 else 101) := deE_end hSt (by omega) (fun x hx => (HU.out x hx).1) hF hno
      have hel := encS_len hF
      clear hSt hF hno hA hB
      go_wp2_with fail
      refine hEn.mono ?_
      rintro x w2 ⟨v, rfl, hown, hb2⟩
      obtain ⟨av, cv, rfl, _, hrd⟩ := own_rd hown
      have hb2' := HB.out.trans (hb2.mono HB.out.size)
      have hWo := words_any (encS S) D av a cv cap w2 hrd (HRd.out.below hb2') (by omega) (by rw [← HN.out]; omega)
      rw [← HN.out] at hWo
      have HB2 : Hid (Below w.heap.size w w2) := hb2'
      generalize hel2 : (encS S).length = el at *
      clear hEn hown hrd hb2 hb2' hel2
      go_wp2_with fail
      refine hWo.mono ?_
      rintro x w3 ⟨rfl, hb3⟩
      have HB3 : Hid (Below w.heap.size w w3) := HB2.out.trans (hb3.mono HB2.out.size)
      cases hd : decide (encS S = D) with
      | true =>
        rw [hd] at HE
        clear hWo hb3 hd
        go_wp2
        go_ret2
        exact ⟨⟨_, by rw [HE.out]; rfl⟩, HB3.out⟩
      | false =>
        rw [hd] at HE
        clear hWo hb3 hd
        go_wp2
        go_ret2
        exact ⟨⟨_, by rw [HE.out]; rfl⟩, HB3.out⟩
end Go.Proofs.Ytpnmaoinnmmfdaa
