/- Package fds: Fork, Gone; rows of files. -/
import Derived.Test.YtkdbmfckfbmbiaaFdE
import Derived.Test.YtkdbmfckfbmbiaaFdI
namespace Go.Proofs.Ytkdbmfckfbmbiaa
open Go.RowKit
set_option linter.unusedVariables false

theorem forkTo_no {S : FS} {a c k : Nat} (h : ¬ ((forkTo S a c k).t (c * 6 + k) = 0 ∧ (forkTo S a c k).t (a * 6 + k) ≠ 0)) : forkTo S a c (k + 1) = forkTo S a c k := if_neg h
theorem forkTo_yes {S : FS} {a c k q : Nat} (h : (forkTo S a c k).t (c * 6 + k) = 0) (h2 : (forkTo S a c k).t (a * 6 + k) = q + 1) : forkTo S a c (k + 1) = ((forkTo S a c k).setT (c * 6 + k) (q + 1)).setF q (((forkTo S a c k).f q).re (((forkTo S a c k).f q).refs + 1)) := by
  show forkStep (forkTo S a c k) a c k = _
  unfold forkStep
  rw [if_pos ⟨h, by omega⟩, h2]
  rfl
set_option maxHeartbeats 4000000 in
theorem fork_at (b : Nat) (S : FS) (n d : Int) (w : World) (h : FdAt w b S) (hI : Inv S) :
    Calls Try.prog 20 #[.pointer (some ⟨b, 0, none⟩), .int .i64 n, .int .i64 d] w fun e w' => e = .returned (.tuple #[]) ∧ FdAt w' b (forkT S n d) ∧ Upd b w w' := by
  cases hp : isP n with
  | false =>
    have hF := table_no b n w hp
    have HT : Hid (forkT S n d = S) := by show _ = _; unfold forkT; rw [hp]; rfl
    have HH : Hid (FdAt w b S) := h
    cases hq : isP d with
    | false =>
      have hG := table_no b d w hq
      clear h hp hq
      go_enter Try.func20, Try.ntmps20
      go_wp2_with fail
      refine hF.mono ?_
      rintro e w1 ⟨rfl, hw⟩
      rw [hw]
      clear hw w1 hF
      go_wp2_with fail
      refine hG.mono ?_
      rintro e w1 ⟨rfl, hw⟩
      rw [hw]
      clear hw w1 hG
      go_wp2
      refine bodyPost_ret (results_none rfl _ _ _) rfl ?_
      exact ⟨rfl, by rw [HT.out]; exact HH.out, Upd.refl _ _⟩
    | true =>
      obtain ⟨c, rfl, hc⟩ := isP_nat hq
      have hG := table_at b c w hc
      clear h hp hq
      go_enter Try.func20, Try.ntmps20
      go_wp2_with fail
      refine hF.mono ?_
      rintro e w1 ⟨rfl, hw⟩
      rw [hw]
      clear hw w1 hF
      go_wp2_with fail
      refine hG.mono ?_
      rintro e w1 ⟨rfl, hw⟩
      rw [hw]
      clear hw w1 hG
      go_wp2
      refine bodyPost_ret (results_none rfl _ _ _) rfl ?_
      exact ⟨rfl, by rw [HT.out]; exact HH.out, Upd.refl _ _⟩
  | true =>
    obtain ⟨a, rfl, ha⟩ := isP_nat hp
    have hF := table_at b a w ha
    have hne := tptr_eq b
    cases hq : isP d with
    | false =>
      have hG := table_no b d w hq
      have HT : Hid (forkT S ((a : Int) + 1) d = S) := by show _ = _; unfold forkT; rw [hp, hq]; rfl
      have HH : Hid (FdAt w b S) := h
      clear h hp hq
      go_enter Try.func20, Try.ntmps20
      go_wp2_with fail
      refine hF.mono ?_
      rintro e w1 ⟨rfl, hw⟩
      rw [hw]
      clear hw w1 hF
      go_wp2_with fail
      refine hG.mono ?_
      rintro e w1 ⟨rfl, hw⟩
      rw [hw]
      clear hw w1 hG
      go_wp2
      refine bodyPost_ret (results_none rfl _ _ _) rfl ?_
      exact ⟨rfl, by rw [HT.out]; exact HH.out, Upd.refl _ _⟩
    | true =>
      obtain ⟨c, rfl, hc⟩ := isP_nat hq
      have hG := table_at b c w hc
      have HT : Hid (forkT S ((a : Int) + 1) ((c : Int) + 1) = forkTo S a c 6) := forkT_yes ha hc
      have HH : Hid (FdAt w b S) := h
      have HI : Hid (Inv S) := hI
      clear h hp hq hI
      go_enter Try.func20, Try.ntmps20
      go_wp2_with fail
      refine hF.mono ?_
      rintro e w1 ⟨rfl, hw⟩
      rw [hw]
      clear hw w1 hF
      go_wp2_with fail
      refine hG.mono ?_
      rintro e w1 ⟨rfl, hw⟩
      rw [hw]
      clear hw w1 hG
      go_wp2
      go_loopw [23] (fun s wr => ∃ (k : Nat), k ≤ 6 ∧ s = .int .i64 k ∧ FdAt wr b (forkTo S a c k) ∧ Upd b w wr) (fun s _ => 6 - (intOf s).toNat)
      case atStart => exact ⟨0, by omega, rfl, HH.out, Upd.refl _ _⟩
      case round =>
        clear HH
        obtain ⟨k, hk, rfl, hH, hU⟩ := hrel
        have HU : Hid (Upd b w wr) := hU
        by_cases hlt : k < 6
        · have hInv := HI.out.forkTo ha hc k (by omega)
          have ca := hH.tcell (i := a * 6 + k) (o := 160 + a * 6 + k) (by omega) (by omega)
          have cc := hH.tcell (i := c * 6 + k) (o := 160 + c * 6 + k) (by omega) (by omega)
          have da := hH.drew.tcell (i := a * 6 + k) (o := 160 + a * 6 + k) (by omega) (by omega)
          have dc := hH.drew.tcell (i := c * 6 + k) (o := 160 + c * 6 + k) (by omega) (by omega)
          have hki : (k : Int) < 6 := by omega
          have i1 : decide ((k : Int) < 6) = true := decide_eq_true (by omega)
          have HF : Hid (FdAt wr.drew b (forkTo S a c k)) := hH.drew
          by_cases h0 : (forkTo S a c k).t (c * 6 + k) = 0
          · by_cases h1 : (forkTo S a c k).t (a * 6 + k) = 0
            · have HS : Hid (forkTo S a c (k + 1) = forkTo S a c k) := forkTo_no (fun q => q.2 h1)
              rw [h0] at cc dc
              rw [h1] at ca da
              clear hInv h0 h1 hH hU
              generalize forkTo S a c k = Sk at *
              go_wp2_with fail
              go_region
              all_goals
                go_wp2
                go_roundw
                case rel => exact ⟨k + 1, by omega, by go_num, by rw [HS.out]; exact HF.out, HU.out.trans (Upd.drew _ _)⟩
                case measure => simp [intOf]; omega
            · obtain ⟨q, hq⟩ : ∃ q, (forkTo S a c k).t (a * 6 + k) = q + 1 := ⟨(forkTo S a c k).t (a * 6 + k) - 1, by omega⟩
              have HS : Hid _ := forkTo_yes h0 hq
              have hq32 : q < 32 := by have := hInv.name (a * 6 + k) (by omega); omega
              obtain ⟨hr0, hr1⟩ := hInv.bound hq32
              rw [h0] at cc dc
              rw [hq, Int.natCast_add, Int.natCast_one] at ca da
              obtain ⟨p0, p1, p2, p3, p4⟩ := hH.drew.cells hq32
              have ft := hH.drew.free (160 + c * 6 + k)
              have f4 := hH.drew.free (q * 5 + 4)
              have o4 : q * 5 + 4 ≠ 160 + c * 6 + k := by omega
              have gq : ((q : Int) + 1 == 0) = false := beq_false_of_ne (by omega)
              have gq' : ((q : Int) + 1 != 0) = true := by simp; omega
              have hqi : (q : Int) < 32 := by omega
              have f4' : wr.frozen? ⟨b, q * 5 + 4, none⟩ = false := hH.free (q * 5 + 4)
              have ft' : wr.frozen? ⟨b, 160 + c * 6 + k, none⟩ = false := hH.free (160 + c * 6 + k)
              clear hInv h0 h1 hH hU hq
              generalize forkTo S a c k = Sk at *
              have p4' : wr.cell? ⟨b, q * 5 + 4, none⟩ = some (.int .i64 (Sk.f q).refs) := p4
              go_wp2_with fail
              go_region
              all_goals
                go_wp2_with fail
                go_region
                all_goals
                  go_wp2
                  go_roundw
                  case rel =>
                    refine ⟨k + 1, by omega, by go_num, ?_, ?_⟩
                    · rw [HS.out]
                      exact ((HF.out.setT (i := c * 6 + k) (o := 160 + c * 6 + k) (by omega) (by omega) (q + 1)).re hq32 _).drew
                    · exact (((HU.out.trans (Upd.drew _ _)).trans (Upd.setCell b (160 + c * 6 + k) _ _)).trans (Upd.setCell b (q * 5 + 4) _ _)).trans (Upd.drew _ _)
                  case measure => simp [intOf]; omega
          · have HS : Hid (forkTo S a c (k + 1) = forkTo S a c k) := forkTo_no (fun q => h0 q.1)
            generalize hx : (forkTo S a c k).t (c * 6 + k) = x at *
            generalize hy : (forkTo S a c k).t (a * 6 + k) = y at *
            have gx : ((x : Int) == 0) = false := beq_false_of_ne (by omega)
            clear hInv h0 hH hU hx hy
            generalize forkTo S a c k = Sk at *
            go_wp2_with fail
            go_region
            all_goals
              go_wp2
              go_roundw
              case rel => exact ⟨k + 1, by omega, by go_num, by rw [HS.out]; exact HF.out, HU.out.trans (Upd.drew _ _)⟩
              case measure => simp [intOf]; omega
        · obtain rfl : k = 6 := by omega
          have HF : Hid (FdAt wr b (forkTo S a c 6)) := hH
          clear hH hU
          go_wp2
          go_end0
          exact ⟨rfl, by rw [HT.out]; exact HF.out, HU.out⟩
end Go.Proofs.Ytkdbmfckfbmbiaa
