/- januslaw18.FdsPlays: the walk. -/
import Derived.Test.YtkdbmfckfbmbiaaPlD18
import Derived.Deep.DeepCutAuto
import Derived.Deep.CutBlock
import Derived.BigQuiet
namespace Go.Proofs.Ytkdbmfckfbmbiaa
open Go.ChangeShapes Go.WideShapes Go.ChangeAt Go.RowKit
set_option linter.unusedVariables false

set_option maxRecDepth 100000 in
set_option maxHeartbeats 16000000 in
theorem plays_walk (a0' : Option Addr) (len cap : Nat) (w : World) (hlen : len ≤ 9223372036854775807) (hdeeds : Hid (DeedsAt w a0' len)) :
    Calls Try.prog 3 #[.slice a0' len cap] w fun e w' => e = .returned (.bool true) ∧ Below w.heap.size w w' := by
  have hN := new_at w
  obtain ⟨b0, hb⟩ : ∃ b, b = w.heap.size := ⟨_, rfl⟩
  rw [← hb] at hN
  have hbb0 : w.heap.size ≤ b0 := by omega
  have hne0 := ptr_eq b0
  have HBb : Hid (b0 = w.heap.size) := hb
  clear hb
  go_enter Try.func3, Try.ntmps3
  go_wp2_with fail
  refine hN.mono ?_
  rintro e w1 ⟨rfl, hA1, hB1, -⟩
  have HA1 : Hid (FdAt w1 b0 FS.zero) := hA1
  have HB1 : Hid (Below w.heap.size w w1) := by rw [← HBb.out]; exact hB1
  clear hN hA1 hB1
  go_wp2
  have HD0 : Hid (Duo (w1.alloc (.cells #[.slice none 0 0] 28)) w1.heap.size b0 w1.heap.size FS.zero) := ⟨HA1.out.below (below_alloc _ _), ⟨.slice none 0 0, [], ⟨heap_alloc_new _ _, World.ownsRow_nil _ _ _ _, fun e he => (by simp at he), Nat.le_refl _⟩, rl_zero⟩, Inv.zero, FitS.zero, by simp⟩
  have HB0 : Hid (Below w.heap.size w (w1.alloc (.cells #[.slice none 0 0] 28))) := HB1.out.alloc HB1.out.size _
  have hBB : w.heap.size ≤ w1.heap.size := HB1.out.size
  generalize w1.alloc (.cells #[.slice none 0 0] 28) = W0 at *
  obtain ⟨B, hBe⟩ : ∃ B, B = w1.heap.size := ⟨_, rfl⟩
  obtain ⟨c, hce⟩ : ∃ c, c = w1.heap.size := ⟨_, rfl⟩
  have HD0' : Hid (Duo W0 B b0 c FS.zero) := by rw [hBe, hce]; exact HD0.out
  rw [← hBe] at hBB
  rw [← hce]
  clear HA1 HB1 hne0 hBe hce HD0
  go_loopw [3, 5] (fun p s wr => ∃ (k b : Nat) (S : FS), k ≤ len ∧ k ≤ 150 ∧ .pointer (some ⟨b, 0, none⟩) = p ∧ s = .int .i64 k ∧ Duo wr B b c S ∧ Below w.heap.size w wr ∧ w.heap.size ≤ b) (fun _ s _ => 150 - (intOf s).toNat)
  case atStart => exact ⟨0, b0, _, by omega, by omega, rfl, rfl, HD0'.out, HB0.out, hbb0⟩
  case round =>
    clear HD0' HB0 hbb0 HBb
    obtain ⟨k, b, S, hk, hk2, rfl, rfl, hD, hB, hbb⟩ := hrel
    have hn1 := ptr_eq b
    by_cases hlt : k < len ∧ k < 150
    · obtain ⟨l1, l2⟩ := hlt
      obtain ⟨gb, off, d, rfl, hd⟩ := (hdeeds.out.below hB) k l1
      obtain ⟨e0, e1, e2, e3, e4, e5, e6, e7, e8⟩ := hd.cells
      obtain ⟨dk, dp, df, dn, ⟨xk, xi, xo, xa, xr⟩⟩ := d
      dsimp only at e0 e1 e2 e3 e4 e5 e6 e7 e8
      have g0 : decide ((k : Int) < (len : Int)) = true := decide_eq_true (by omega)
      have g1 : decide ((k : Int) < 150) = true := decide_eq_true (by omega)
      have ik : (k : Int) < (len : Int) := by omega
      obtain ⟨W, hW⟩ : ∃ W, W = wr.alloc (.cells #[.int .i64 dk, .int .i64 dp, .int .i64 df, .int .i64 dn, .int .i64 xk, .int .i64 xi, .int .i64 xo, .bool xa, .int .i64 xr] 32) := ⟨_, rfl⟩
      have hbW : Below wr.heap.size wr W := by rw [hW]; exact below_alloc _ _
      obtain ⟨D, hDn⟩ : ∃ D, D = wr.heap.size := ⟨_, rfl⟩
      have HX : Hid (Box W D ⟨dk, dp, df, dn, ⟨xk, xi, xo, xa, xr⟩⟩) := by rw [hW, hDn]; exact heap_alloc_new _ _
      have HD : Hid (Duo W B b c S) := hD.below hbW
      have HB : Hid (Below w.heap.size w W) := hB.trans (hbW.mono hB.size)
      have HW : Hid _ := hW
      have HDn : Hid _ := hDn
      clear hW hbW hD hB hDn hd
      by_cases hsk : (dk = 0 ∧ fitB ⟨xk, xi, xo, xa, xr⟩ = false) ∨ (dk = 4 ∧ 1048576 < dn)
      · as_aux_lemma =>
        obtain ⟨c0, c1, c2, c3, c4, c5, c6, c7, c8⟩ := Box.cells HX.out
        dsimp only at c0 c1 c2 c3 c4 c5 c6 c7 c8
        go_upto_region 8 with fail
        rw [← HW.out, ← HDn.out]
        clear HW HDn e0 e1 e2 e3 e4 e5 e6 e7 e8 hdeeds
        rcases hsk with ⟨h0, hft⟩ | ⟨h4, hnn⟩
        · have k0 : (dk == 0) = true := by simpa using h0
          have hFt := fit_at ⟨xk, xi, xo, xa, xr⟩ W
          rw [hft] at hFt
          dsimp only [Fl.row] at hFt
          have k4 : (dk == 4) = false := by rw [h0]; rfl
          clear h0 hft
          go_wp2_with fail
          refine hFt.mono ?_
          rintro e w1 ⟨rfl, hb1⟩
          have HX1 : Hid _ := Box.below HX.out hb1
          have HB1 : Hid (Below w.heap.size w w1) := HB.out.trans (hb1.mono HB.out.size)
          have HD1 : Hid (Duo w1 B b c S) := HD.out.below hb1
          obtain ⟨p0, p1, p2, p3, p4, p5, p6, p7, p8⟩ := Box.cells HX1.out
          dsimp only at p0 p1 p2 p3 p4 p5 p6 p7 p8
          clear hFt hb1
          go_wp2
          go_roundw
          case rel => exact ⟨k + 1, b, S, by omega, by omega, rfl, by go_num, HD1.out, HB1.out, hbb⟩
          case measure => simp [intOf]; omega
        · have k0 : (dk == 0) = false := by rw [h4]; rfl
          have k4 : (dk == 4) = true := by simpa using h4
          have hn9 : decide (1048576 < dn) = true := decide_eq_true hnn
          clear h4 hnn
          go_wp2
          go_roundw
          case rel => exact ⟨k + 1, b, S, by omega, by omega, rfl, by go_num, HD.out, HB.out, hbb⟩
          case measure => simp [intOf]; omega
      have HSk : Hid (¬ ((dk = 0 ∧ fitB ⟨xk, xi, xo, xa, xr⟩ = false) ∨ (dk = 4 ∧ 1048576 < dn))) := hsk
      clear hsk
      go_upto_region 8 with fail
      rw [← HW.out, ← HDn.out]
      clear HW HDn e0 e1 e2 e3 e4 e5 e6 e7 e8 hdeeds
      go_cut [66] (fun t wc => t = .bool false ∧ Duo wc B b c S ∧ Box wc D ⟨dk, dp, df, dn, ⟨xk, xi, xo, xa, xr⟩⟩ ∧ Below w.heap.size w wc)
      case first => as_aux_lemma =>
        obtain ⟨c0, c1, c2, c3, c4, c5, c6, c7, c8⟩ := Box.cells HX.out
        dsimp only at c0 c1 c2 c3 c4 c5 c6 c7 c8
        by_cases h0 : dk = 0
        · have k0 : (dk == 0) = true := by simpa using h0
          have hft : fitB ⟨xk, xi, xo, xa, xr⟩ = true := by
            cases hq : fitB ⟨xk, xi, xo, xa, xr⟩ with
            | true => rfl
            | false => exact absurd (Or.inl ⟨h0, hq⟩) HSk.out
          have hFt := fit_at ⟨xk, xi, xo, xa, xr⟩ W
          rw [hft] at hFt
          dsimp only [Fl.row] at hFt
          have k4 : (dk == 4) = false := by rw [h0]; rfl
          clear h0
          go_wp2_with fail
          refine hFt.mono ?_
          rintro e w1 ⟨rfl, hb1⟩
          have HX1 : Hid _ := Box.below HX.out hb1
          have HB1 : Hid (Below w.heap.size w w1) := HB.out.trans (hb1.mono HB.out.size)
          have HD1 : Hid (Duo w1 B b c S) := HD.out.below hb1
          obtain ⟨p0, p1, p2, p3, p4, p5, p6, p7, p8⟩ := Box.cells HX1.out
          dsimp only at p0 p1 p2 p3 p4 p5 p6 p7 p8
          clear hFt hb1
          go_wp2_with fail
          go_meet
          case rel => exact ⟨by simp, HD1.out, HX1.out, HB1.out⟩
        · have k0 : (dk == 0) = false := beq_false_of_ne h0
          by_cases h4 : dk = 4
          · have k4 : (dk == 4) = true := by simpa using h4
            have hnn : decide (1048576 < dn) = false := decide_eq_false (fun q => HSk.out (Or.inr ⟨h4, q⟩))
            clear h4 h0
            go_wp2_with fail
            go_meet
            case rel => exact ⟨by simp, HD.out, HX.out, HB.out⟩
          · have k4 : (dk == 4) = false := beq_false_of_ne h4
            clear h4 h0
            go_wp2_with fail
            go_meet
            case rel => exact ⟨by simp, HD.out, HX.out, HB.out⟩
      obtain ⟨rfl, hD, hX, hB⟩ := hcut
      clear HX HD HB
      have HX : Hid (Box wc D ⟨dk, dp, df, dn, ⟨xk, xi, xo, xa, xr⟩⟩) := hX
      have HD : Hid (Duo wc B b c S) := hD
      have HB : Hid (Below w.heap.size w wc) := hB
      have HFx : Hid (dk = 0 → Fit ⟨xk, xi, xo, xa, xr⟩) := fun h0 => fitB_fit (by
        cases hq : fitB ⟨xk, xi, xo, xa, xr⟩ with
        | true => rfl
        | false => exact absurd (Or.inl ⟨h0, hq⟩) HSk.out)
      have HNn : Hid (dk = 4 → dn ≤ 1048576) := fun h4 => by
        have := HSk.out
        omega
      clear hD hX hB HSk
      generalize wc = W at *
      obtain ⟨q0, q1, q2, q3, q4, q5, q6, q7, q8⟩ := Box.cells HX.out
      dsimp only at q0
      clear q1 q2 q3 q4 q5 q6 q7 q8
      go_upto_block 2 with fail
      clear q0
      go_cut [3, 7, 8, 9, 10, 11, 12, 13, 14, 15, 16, 17, 18, 19, 20, 21, 22, 23, 24, 25, 26, 27, 28] (fun p ok _ _ _ _ _ _ _ _ _ _ _ _ _ _ _ _ _ _ _ _ _ wc => ∃ (b' : Nat) (S' : FS), .pointer (some ⟨b', 0, none⟩) = p ∧ ok = .bool true ∧ Duo wc B b' c S' ∧ Box wc D ⟨dk, dp, df, dn, ⟨xk, xi, xo, xa, xr⟩⟩ ∧ Below w.heap.size w wc ∧ w.heap.size ≤ b')
      case first => as_aux_lemma =>
        have hdr : Below W.heap.size W W.drew := (Below.refl _ _).drew
        obtain ⟨c0, c1, c2, c3, c4, c5, c6, c7, c8⟩ := Box.cells HX.out
        obtain ⟨f0, f1, f2, f3, f4, f5, f6, f7, f8⟩ := Box.cells (Box.below HX.out hdr)
        have HXd : Hid (Box W.drew D ⟨dk, dp, df, dn, ⟨xk, xi, xo, xa, xr⟩⟩) := Box.below HX.out hdr
        have HDd : Hid (Duo W.drew B b c S) := HD.out.below hdr
        have HBd : Hid (Below w.heap.size w W.drew) := HB.out.drew
        dsimp only at c0 c1 c2 c3 c4 c5 c6 c7 c8 f0 f1 f2 f3 f4 f5 f6 f7 f8
        have kinds : (dk == 0) = true ∨ ((dk == 0) = false ∧ (dk == 1) = true) ∨ ((dk == 0) = false ∧ (dk == 1) = false ∧ (dk == 2) = true) ∨ ((dk == 0) = false ∧ (dk == 1) = false ∧ (dk == 2) = false ∧ (dk == 3) = true) ∨ ((dk == 0) = false ∧ (dk == 1) = false ∧ (dk == 2) = false ∧ (dk == 3) = false ∧ (dk == 4) = true) ∨ ((dk == 0) = false ∧ (dk == 1) = false ∧ (dk == 2) = false ∧ (dk == 3) = false ∧ (dk == 4) = false ∧ (dk == 5) = true) ∨ ((dk == 0) = false ∧ (dk == 1) = false ∧ (dk == 2) = false ∧ (dk == 3) = false ∧ (dk == 4) = false ∧ (dk == 5) = false ∧ (dk == 6) = true) ∨ ((dk == 0) = false ∧ (dk == 1) = false ∧ (dk == 2) = false ∧ (dk == 3) = false ∧ (dk == 4) = false ∧ (dk == 5) = false ∧ (dk == 6) = false) := by
          simp only [beq_iff_eq, beq_eq_false_iff_ne]
          omega
        clear hdr
        rcases kinds with k0 | ⟨k0, k1⟩ | ⟨k0, k1, k2⟩ | ⟨k0, k1, k2, k3⟩ | ⟨k0, k1, k2, k3, k4⟩ | ⟨k0, k1, k2, k3, k4, k5⟩ | ⟨k0, k1, k2, k3, k4, k5, k6⟩ | ⟨k0, k1, k2, k3, k4, k5, k6⟩
        · as_aux_lemma =>
          have hFx := HFx.out (by simpa using k0)
          have hop := open_at b S dp ⟨xk, xi, xo, xa, xr⟩ W HD.out.fd
          have hrf := fun (w1 : World) (h1 : FdAt w1 b (openT S dp ⟨xk, xi, xo, xa, xr⟩)) (hu1 : Upd b W w1) => HD.out.ropen dp ⟨xk, xi, xo, xa, xr⟩ hFx h1 hu1
          generalize openA S dp = r at hop hrf
          generalize openE S dp = r2 at hop hrf
          generalize openT S dp ⟨xk, xi, xo, xa, xr⟩ = S1 at hop hrf
          dsimp only [Fl.row] at hop hrf
          clear hFx
          go_wp2_with fail
          refine hop.mono ?_
          rintro e w1 ⟨rfl, hE1, hu1⟩
          have HX1 : Hid _ := Box.updF HX.out hu1 HD.out.fd
          have HB1 : Hid (Below w.heap.size w w1) := upd_below HB.out hu1 hbb
          have hrf1 := hrf w1 hE1 hu1
          obtain ⟨p0, p1, p2, p3, p4, p5, p6, p7, p8⟩ := Box.cells HX1.out
          dsimp only at p0 p1 p2 p3 p4 p5 p6 p7 p8
          clear hE1 hu1 hrf hop c0 c1 c2 c3 c4 c5 c6 c7 c8
          go_wp2_with fail
          refine hrf1.mono ?_
          rintro e w2 ⟨rfl, hD2, hu2⟩
          have HX2 : Hid _ := Box.ru HX1.out hu2
          have HB2 : Hid (Below w.heap.size w w2) := RU.below HB1.out hu2 hBB
          have HD2 : Hid _ := hD2
          clear hD2 hu2 hrf1 p0 p1 p2 p3 p4 p5 p6 p7 p8
          go_wp2_with fail
          go_meet
          case rel => exact ⟨b, S1, rfl, by simp, HD2.out, HX2.out, HB2.out, hbb⟩
        · as_aux_lemma =>
          have hop := dup_at b S dp df W HD.out.fd HD.out.inv
          have hrf := fun (w1 : World) (h1 : FdAt w1 b (dupT S dp df)) (hu1 : Upd b W w1) => HD.out.rdup dp df h1 hu1
          generalize dupA S dp df = r at hop hrf
          generalize dupE S dp df = r2 at hop hrf
          generalize dupT S dp df = S1 at hop hrf
          go_wp2_with fail
          refine hop.mono ?_
          rintro e w1 ⟨rfl, hE1, hu1⟩
          have HX1 : Hid _ := Box.updF HX.out hu1 HD.out.fd
          have HB1 : Hid (Below w.heap.size w w1) := upd_below HB.out hu1 hbb
          have hrf1 := hrf w1 hE1 hu1
          obtain ⟨p0, p1, p2, p3, p4, p5, p6, p7, p8⟩ := Box.cells HX1.out
          dsimp only at p0 p1 p2 p3 p4 p5 p6 p7 p8
          clear hE1 hu1 hrf hop c0 c1 c2 c3 c4 c5 c6 c7 c8
          go_wp2_with fail
          refine hrf1.mono ?_
          rintro e w2 ⟨rfl, hD2, hu2⟩
          have HX2 : Hid _ := Box.ru HX1.out hu2
          have HB2 : Hid (Below w.heap.size w w2) := RU.below HB1.out hu2 hBB
          have HD2 : Hid _ := hD2
          clear hD2 hu2 hrf1 p0 p1 p2 p3 p4 p5 p6 p7 p8
          go_wp2_with fail
          go_meet
          case rel => exact ⟨b, S1, rfl, by simp, HD2.out, HX2.out, HB2.out, hbb⟩
        · as_aux_lemma =>
          have hop := close_at b S dp df W HD.out.fd HD.out.inv
          have hrf := fun (w1 : World) (h1 : FdAt w1 b (closeT S dp df)) (hu1 : Upd b W w1) => HD.out.rclose dp df h1 hu1
          generalize closeX S dp df = r at hop hrf
          generalize getE S dp df = r2 at hop hrf
          generalize closeT S dp df = S1 at hop hrf
          have hfe := file_eq r
          obtain ⟨rk, ri, ro, ra, rr⟩ := r
          dsimp only [Fl.row] at hfe hop hrf
          go_wp2_with fail
          refine hop.mono ?_
          rintro e w1 ⟨rfl, hE1, hu1⟩
          obtain ⟨V1, hV1⟩ : ∃ V, V = w1.alloc (.cells #[.int .i64 rk, .int .i64 ri, .int .i64 ro, .bool ra, .int .i64 rr] 30) := ⟨_, rfl⟩
          obtain ⟨X1, hX1⟩ : ∃ X, X = w1.heap.size := ⟨_, rfl⟩
          have hbv : Below w1.heap.size w1 V1 := by rw [hV1]; exact below_alloc w1 _
          have hXw1 := Box.updF HX.out hu1 HD.out.fd
          have HF1 : Hid (FB V1 X1 ⟨rk, ri, ro, ra, rr⟩) := by rw [hV1, hX1]; exact heap_alloc_new _ _
          have HX1 : Hid _ := Box.below hXw1 hbv
          have HB1 : Hid (Below w.heap.size w V1) := upd_below HB.out (hu1.trans (Upd.of_below hbv)) hbb
          have hrf1 := hrf V1 (hE1.below hbv) (hu1.trans (Upd.of_below hbv))
          have hXw := Box.cells hXw1
          clear hbv hE1 hu1 hXw1
          have HV1 : Hid _ := hV1
          have HXe1 : Hid _ := hX1
          obtain ⟨p0, p1, p2, p3, p4, p5, p6, p7, p8⟩ := Box.cells HX1.out
          obtain ⟨k0', k1', k2', k3', k4', k5', k6', k7', k8'⟩ := hXw
          have hlt1 : D < w1.heap.size := cell_lt k0'
          dsimp only at p0 p1 p2 p3 p4 p5 p6 p7 p8 k0' k1' k2' k3' k4' k5' k6' k7' k8'
          clear hrf hop c0 c1 c2 c3 c4 c5 c6 c7 c8 hV1 hX1
          go_wp2_with fail
          rw [← HV1.out, ← HXe1.out]
          clear HV1 HXe1 k0' k1' k2' k3' k4' k5' k6' k7' k8' hlt1
          refine hrf1.mono ?_
          rintro e w2 ⟨rfl, hD2, hu2⟩
          obtain ⟨V2, hV2⟩ : ∃ V, V = w2.alloc (.cells #[.int .i64 rk, .int .i64 ri, .int .i64 ro, .bool ra, .int .i64 rr] 30) := ⟨_, rfl⟩
          obtain ⟨X2, hX2⟩ : ∃ X, X = w2.heap.size := ⟨_, rfl⟩
          have hbv : Below w2.heap.size w2 V2 := by rw [hV2]; exact below_alloc w2 _
          have hXx := Box.ru HX1.out hu2
          have hFF := FB.ru HF1.out hu2
          have hBw2 : Below w.heap.size w w2 := RU.below HB1.out hu2 hBB
          have hFV := FB.below hFF hbv
          have hGV : FB V2 X2 ⟨rk, ri, ro, ra, rr⟩ := by rw [hV2, hX2]; exact heap_alloc_new _ _
          have HX2 : Hid _ := Box.below hXx hbv
          have HB2 : Hid (Below w.heap.size w V2) := hBw2.trans (hbv.mono hBw2.size)
          have HD2 : Hid _ := hD2.below hbv
          obtain ⟨f0', f1', f2', f3', f4'⟩ := box_cells hFV
          obtain ⟨h0', h1', h2', h3', h4'⟩ := box_cells hGV
          obtain ⟨l0', l1', l2', l3', l4'⟩ := box_cells hFF
          have hX1l : X1 < w2.heap.size := lt_of_heap hFF
          dsimp only at f0' f1' f2' f3' f4' h0' h1' h2' h3' h4' l0' l1' l2' l3' l4'
          have HV2 : Hid _ := hV2
          have HXe2 : Hid _ := hX2
          have hX2l : X2 < V2.heap.size := lt_of_heap hGV
          clear hD2 hu2 hrf1 hFF hFV hGV hXx hBw2 hbv hV2 hX2 p0 p1 p2 p3 p4 p5 p6 p7 p8
          go_upto_region 26 with fail
          rw [← HV2.out, ← HXe2.out]
          clear HV2 HXe2 l0' l1' l2' l3' l4' hX1l
          go_wp2_with fail
          go_meet
          case rel => exact ⟨b, S1, rfl, by simp, HD2.out, HX2.out, HB2.out, hbb⟩
        · as_aux_lemma =>
          have hop := get_at b S dp df W HD.out.fd HD.out.inv
          have hrf := fun (w1 : World) (h1 : Duo w1 B b c S) => h1.rget dp df
          generalize getX S dp df = r at hop hrf
          generalize getE S dp df = r2 at hop hrf
          have hfe := file_eq r
          obtain ⟨rk, ri, ro, ra, rr⟩ := r
          dsimp only [Fl.row] at hfe hop hrf
          go_wp2_with fail
          refine hop.mono ?_
          rintro e w1 ⟨rfl, hb1⟩
          obtain ⟨V1, hV1⟩ : ∃ V, V = w1.alloc (.cells #[.int .i64 rk, .int .i64 ri, .int .i64 ro, .bool ra, .int .i64 rr] 30) := ⟨_, rfl⟩
          obtain ⟨X1, hX1⟩ : ∃ X, X = w1.heap.size := ⟨_, rfl⟩
          have hbv : Below W.heap.size W V1 := by rw [hV1]; exact hb1.trans ((below_alloc w1 _).mono hb1.size)
          have HF1 : Hid (FB V1 X1 ⟨rk, ri, ro, ra, rr⟩) := by rw [hV1, hX1]; exact heap_alloc_new _ _
          have HX1 : Hid _ := Box.below HX.out hbv
          have HB1 : Hid (Below w.heap.size w V1) := HB.out.trans (hbv.mono HB.out.size)
          have hrf1 := hrf V1 (HD.out.below hbv)
          have hXw := (Box.cells (Box.below HX.out hb1))
          clear hbv hb1
          have HV1 : Hid _ := hV1
          have HXe1 : Hid _ := hX1
          obtain ⟨p0, p1, p2, p3, p4, p5, p6, p7, p8⟩ := Box.cells HX1.out
          obtain ⟨k0', k1', k2', k3', k4', k5', k6', k7', k8'⟩ := hXw
          have hlt1 : D < w1.heap.size := cell_lt k0'
          dsimp only at p0 p1 p2 p3 p4 p5 p6 p7 p8 k0' k1' k2' k3' k4' k5' k6' k7' k8'
          clear hrf hop c0 c1 c2 c3 c4 c5 c6 c7 c8 hV1 hX1
          go_wp2_with fail
          rw [← HV1.out, ← HXe1.out]
          clear HV1 HXe1 k0' k1' k2' k3' k4' k5' k6' k7' k8' hlt1
          refine hrf1.mono ?_
          rintro e w2 ⟨rfl, hD2, hu2⟩
          obtain ⟨V2, hV2⟩ : ∃ V, V = w2.alloc (.cells #[.int .i64 rk, .int .i64 ri, .int .i64 ro, .bool ra, .int .i64 rr] 30) := ⟨_, rfl⟩
          obtain ⟨X2, hX2⟩ : ∃ X, X = w2.heap.size := ⟨_, rfl⟩
          have hbv : Below w2.heap.size w2 V2 := by rw [hV2]; exact below_alloc w2 _
          have hXx := Box.below HX1.out hu2
          have hFF := FB.below HF1.out hu2
          have hBw2 : Below w.heap.size w w2 := HB1.out.trans (hu2.mono HB1.out.size)
          have hFV := FB.below hFF hbv
          have hGV : FB V2 X2 ⟨rk, ri, ro, ra, rr⟩ := by rw [hV2, hX2]; exact heap_alloc_new _ _
          have HX2 : Hid _ := Box.below hXx hbv
          have HB2 : Hid (Below w.heap.size w V2) := hBw2.trans (hbv.mono hBw2.size)
          have HD2 : Hid _ := hD2.below hbv
          obtain ⟨f0', f1', f2', f3', f4'⟩ := box_cells hFV
          obtain ⟨h0', h1', h2', h3', h4'⟩ := box_cells hGV
          obtain ⟨l0', l1', l2', l3', l4'⟩ := box_cells hFF
          have hX1l : X1 < w2.heap.size := lt_of_heap hFF
          dsimp only at f0' f1' f2' f3' f4' h0' h1' h2' h3' h4' l0' l1' l2' l3' l4'
          have HV2 : Hid _ := hV2
          have HXe2 : Hid _ := hX2
          have hX2l : X2 < V2.heap.size := lt_of_heap hGV
          clear hD2 hu2 hrf1 hFF hFV hGV hXx hBw2 hbv hV2 hX2 p0 p1 p2 p3 p4 p5 p6 p7 p8
          go_upto_region 30 with fail
          rw [← HV2.out, ← HXe2.out]
          clear HV2 HXe2 l0' l1' l2' l3' l4' hX1l
          go_wp2_with fail
          go_meet
          case rel => exact ⟨b, S, rfl, by simp, HD2.out, HX2.out, HB2.out, hbb⟩
        · as_aux_lemma =>
          have hNn := HNn.out (by simpa using k4)
          have hop := seek_at b S dp df dn W.drew HDd.out.fd HDd.out.inv
          have hrf := fun (w1 : World) (h1 : FdAt w1 b (seekT S dp df dn)) (hu1 : Upd b W.drew w1) => HDd.out.rseek dp df dn hNn h1 hu1
          generalize seekE S dp df dn = r at hop hrf
          generalize seekT S dp df dn = S1 at hop hrf
          go_wp2_with fail
          clear c0 c1 c2 c3 c4 c5 c6 c7 c8
          refine wp_region_held_drew (S := fun w' => w'.cell? ⟨D, 1, none⟩ = some (.int .i64 dp) ∧ w'.cell? ⟨D, 2, none⟩ = some (.int .i64 df) ∧ w'.cell? ⟨D, 3, none⟩ = some (.int .i64 dn)) (by kernel_rfl) ⟨f1, f2, f3⟩ (fun hHeld => ?_)
          refine wpAnyH_take (i := 0) (v := ?_) rfl (by kernel_rfl) (by kernel_rfl) (by kernel_rfl) (fun _ _ _ h => h) (Or.inl ⟨by kernel_rfl, ?_⟩) (by assumption) ?_
          rotate_left
          · (intro w hSw; (try dsimp only at hSw); go_simp) <;> with_reducible rfl
          (try simp only [Act.put, List.getElem_toArray, List.getElem_cons_zero, List.setIfInBounds_toArray, List.set_cons_zero, List.set_cons_succ])
          refine wpAnyH_take (i := 1) (v := ?_) rfl (by kernel_rfl) (by kernel_rfl) (by kernel_rfl) (fun _ _ _ h => h) (Or.inl ⟨by kernel_rfl, ?_⟩) (by assumption) ?_
          rotate_left
          · (intro w hSw; (try dsimp only at hSw); go_simp) <;> with_reducible rfl
          (try simp only [Act.put, List.getElem_toArray, List.getElem_cons_zero, List.getElem_cons_succ, List.setIfInBounds_toArray, List.set_cons_zero, List.set_cons_succ])
          refine wpAnyH_take (i := 2) (v := ?_) rfl (by kernel_rfl) (by kernel_rfl) (by kernel_rfl) (fun _ _ _ h => h) (Or.inl ⟨by kernel_rfl, ?_⟩) (by assumption) ?_
          rotate_left
          · (intro w hSw; (try dsimp only at hSw); go_simp) <;> with_reducible rfl
          (try simp only [Act.put, List.getElem_toArray, List.getElem_cons_zero, List.getElem_cons_succ, List.setIfInBounds_toArray, List.set_cons_zero, List.set_cons_succ])
          refine wpAnyH_take (i := 3) (v := ?_) rfl (by kernel_rfl) (by kernel_rfl) (by kernel_rfl) (fun _ _ _ h => h) (Or.inl ⟨by kernel_rfl, ?_⟩) (by assumption) ?_
          rotate_left
          · (intro w hSw; (try dsimp only at hSw); go_simp) <;> with_reducible rfl
          (try simp only [Act.put, List.getElem_toArray, List.getElem_cons_zero, List.getElem_cons_succ, List.setIfInBounds_toArray, List.set_cons_zero, List.set_cons_succ])
          refine wpAnyH_take (i := 4) (v := ?_) rfl (by kernel_rfl) (by kernel_rfl) (by kernel_rfl) (fun _ _ _ h => h) (Or.inl ⟨by kernel_rfl, ?_⟩) (by assumption) ?_
          rotate_left
          · (intro w hSw; (try dsimp only at hSw); go_simp) <;> with_reducible rfl
          (try simp only [Act.put, List.getElem_toArray, List.getElem_cons_zero, List.getElem_cons_succ, List.setIfInBounds_toArray, List.set_cons_zero, List.set_cons_succ])
          refine wpAnyH_take (i := 5) (v := ?_) rfl (by kernel_rfl) (by kernel_rfl) (by kernel_rfl) (fun _ _ _ h => h) (Or.inl ⟨by kernel_rfl, ?_⟩) (by assumption) ?_
          rotate_left
          · (intro w hSw; (try dsimp only at hSw); go_simp) <;> with_reducible rfl
          (try simp only [Act.put, List.getElem_toArray, List.getElem_cons_zero, List.getElem_cons_succ, List.setIfInBounds_toArray, List.set_cons_zero, List.set_cons_succ])
          refine wpAnyH_take (i := 6) (v := ?_) rfl (by kernel_rfl) (by kernel_rfl) (by kernel_rfl) (fun _ _ _ h => h) (Or.inl ⟨by kernel_rfl, ?_⟩) (by assumption) ?_
          rotate_left
          · (intro w hSw; (try dsimp only at hSw); go_simp) <;> with_reducible rfl
          (try simp only [Act.put, List.getElem_toArray, List.getElem_cons_zero, List.getElem_cons_succ, List.setIfInBounds_toArray, List.set_cons_zero, List.set_cons_succ])
          refine wpAnyH_take (i := 8) (v := ?_) rfl (by kernel_rfl) (by kernel_rfl) (by kernel_rfl) (fun _ _ _ h => h) (Or.inl ⟨by kernel_rfl, ?_⟩) (by assumption) ?_
          rotate_left
          · (intro w hSw; (try dsimp only at hSw); go_simp) <;> with_reducible rfl
          (try simp only [Act.put, List.getElem_toArray, List.getElem_cons_zero, List.getElem_cons_succ, List.setIfInBounds_toArray, List.set_cons_zero, List.set_cons_succ])
          refine wpAnyH_take (i := 9) (v := ?_) rfl (by kernel_rfl) (by kernel_rfl) (by kernel_rfl) (fun _ _ _ h => h) (Or.inl ⟨by kernel_rfl, ?_⟩) (by assumption) ?_
          rotate_left
          · (intro w hSw; (try dsimp only at hSw); go_simp) <;> with_reducible rfl
          (try simp only [Act.put, List.getElem_toArray, List.getElem_cons_zero, List.getElem_cons_succ, List.setIfInBounds_toArray, List.set_cons_zero, List.set_cons_succ])
          refine wpAnyH_take (i := 10) (v := ?_) rfl (by kernel_rfl) (by kernel_rfl) (by kernel_rfl) (fun _ _ _ h => h) (Or.inl ⟨by kernel_rfl, ?_⟩) (by assumption) ?_
          rotate_left
          · (intro w hSw; (try dsimp only at hSw); go_simp) <;> with_reducible rfl
          (try simp only [Act.put, List.getElem_toArray, List.getElem_cons_zero, List.getElem_cons_succ, List.setIfInBounds_toArray, List.set_cons_zero, List.set_cons_succ])
          refine wpAnyH_take (i := 11) (v := ?_) rfl (by kernel_rfl) (by kernel_rfl) (by kernel_rfl) (fun _ _ _ h => h) (Or.inl ⟨by kernel_rfl, ?_⟩) (by assumption) ?_
          rotate_left
          · (intro w hSw; (try dsimp only at hSw); go_simp) <;> with_reducible rfl
          (try simp only [Act.put, List.getElem_toArray, List.getElem_cons_zero, List.getElem_cons_succ, List.setIfInBounds_toArray, List.set_cons_zero, List.set_cons_succ])
          refine wpAnyH_take (i := 12) (v := ?_) rfl (by kernel_rfl) (by kernel_rfl) (by kernel_rfl) (fun _ _ _ h => h) (Or.inl ⟨by kernel_rfl, ?_⟩) (by assumption) ?_
          rotate_left
          · (intro w hSw; (try dsimp only at hSw); go_simp) <;> with_reducible rfl
          (try simp only [Act.put, List.getElem_toArray, List.getElem_cons_zero, List.getElem_cons_succ, List.setIfInBounds_toArray, List.set_cons_zero, List.set_cons_succ])
          refine wpAnyH_take (i := 13) (v := ?_) rfl (by kernel_rfl) (by kernel_rfl) (by kernel_rfl) (fun _ _ _ h => h) (Or.inl ⟨by kernel_rfl, ?_⟩) (by assumption) ?_
          rotate_left
          · (intro w hSw; (try dsimp only at hSw); go_simp) <;> with_reducible rfl
          (try simp only [Act.put, List.getElem_toArray, List.getElem_cons_zero, List.getElem_cons_succ, List.setIfInBounds_toArray, List.set_cons_zero, List.set_cons_succ])
          refine wpAnyH_take (i := 14) (v := ?_) rfl (by kernel_rfl) (by kernel_rfl) (by kernel_rfl) (fun _ _ _ h => h) (Or.inl ⟨by kernel_rfl, ?_⟩) (by assumption) ?_
          rotate_left
          · (intro w hSw; (try dsimp only at hSw); go_simp) <;> with_reducible rfl
          (try simp only [Act.put, List.getElem_toArray, List.getElem_cons_zero, List.getElem_cons_succ, List.setIfInBounds_toArray, List.set_cons_zero, List.set_cons_succ])
          refine wpAnyH_ready (rs := [7]) (by kernel_rfl) (by simp) ?_
          refine AllReadyH.cons rfl (fun K hK => ?_) AllReadyH.nil
          go_simp
          refine hop.mono ?_
          rintro e w1 ⟨rfl, hE1, hu1⟩
          have hX1 := Box.updF HXd.out hu1 HDd.out.fd
          have HB1 : Hid (Below w.heap.size w w1) := upd_below HBd.out hu1 hbb
          have HX1 : Hid _ := hX1
          obtain ⟨g0, g1, g2, g3, g4, g5, g6, g7, g8⟩ := Box.cells hX1
          have hrf1 := hrf w1 hE1 hu1
          clear hX1 hE1 hu1 hrf hop
          refine hK.out _ _ ⟨g1, g2, g3⟩ (fun hHeld => ?_)
          clear hK K
          (try simp only [Act.put, List.getElem_toArray, List.getElem_cons_zero, List.getElem_cons_succ, List.setIfInBounds_toArray, List.set_cons_zero, List.set_cons_succ])
          refine wpAnyH_ready (rs := [15]) (by kernel_rfl) (by simp) ?_
          refine AllReadyH.cons rfl (fun K hK => ?_) AllReadyH.nil
          go_simp
          refine hrf1.mono ?_
          rintro e w2 ⟨rfl, hD2, hu2⟩
          have hX2 := Box.ru HX1.out hu2
          have HB2 : Hid (Below w.heap.size w w2) := RU.below HB1.out hu2 hBB
          have HX2 : Hid _ := hX2
          have HD2 : Hid _ := hD2
          obtain ⟨m0, m1, m2, m3, m4, m5, m6, m7, m8⟩ := Box.cells hX2
          clear hX2 hD2 hu2 hrf1
          refine hK.out _ _ ⟨m1, m2, m3⟩ (fun hHeld => ?_)
          clear hK K
          (try simp only [Act.put, List.getElem_toArray, List.getElem_cons_zero, List.getElem_cons_succ, List.setIfInBounds_toArray, List.set_cons_zero, List.set_cons_succ])
          refine wpAnyH_take (i := 16) (v := ?_) rfl (by kernel_rfl) (by kernel_rfl) (by kernel_rfl) (fun _ _ _ h => h) (Or.inl ⟨by kernel_rfl, ?_⟩) (by assumption) ?_
          rotate_left
          · (intro w hSw; (try dsimp only at hSw); go_simp) <;> with_reducible rfl
          (try simp only [Act.put, List.getElem_toArray, List.getElem_cons_zero, List.getElem_cons_succ, List.setIfInBounds_toArray, List.set_cons_zero, List.set_cons_succ])
          refine wpAnyH_take (i := 17) (v := ?_) rfl (by kernel_rfl) (by kernel_rfl) (by kernel_rfl) (fun _ _ _ h => h) (Or.inl ⟨by kernel_rfl, ?_⟩) (by assumption) ?_
          rotate_left
          · (intro w hSw; (try dsimp only at hSw); go_simp) <;> with_reducible rfl
          (try simp only [Act.put, List.getElem_toArray, List.getElem_cons_zero, List.getElem_cons_succ, List.setIfInBounds_toArray, List.set_cons_zero, List.set_cons_succ])
          refine wpAnyH_done (by kernel_rfl) ?_ _
          clear hHeld
          go_wp2_with fail
          go_meet
          case rel => exact ⟨b, S1, rfl, by simp, HD2.out, HX2.out, HB2.out, hbb⟩
        · as_aux_lemma =>
          have hop := fork_at b S dp dn W HD.out.fd HD.out.inv
          have hrf := fun (w1 : World) (h1 : FdAt w1 b (forkT S dp dn)) (hu1 : Upd b W w1) => HD.out.rfork dp dn h1 hu1
          generalize forkT S dp dn = S1 at hop hrf
          go_wp2_with fail
          refine hop.mono ?_
          rintro e w1 ⟨rfl, hE1, hu1⟩
          have HX1 : Hid _ := Box.updF HX.out hu1 HD.out.fd
          have HB1 : Hid (Below w.heap.size w w1) := upd_below HB.out hu1 hbb
          have hrf1 := hrf w1 hE1 hu1
          obtain ⟨p0, p1, p2, p3, p4, p5, p6, p7, p8⟩ := Box.cells HX1.out
          dsimp only at p0 p1 p2 p3 p4 p5 p6 p7 p8
          clear hE1 hu1 hrf hop c0 c1 c2 c3 c4 c5 c6 c7 c8
          go_wp2_with fail
          refine hrf1.mono ?_
          rintro e w2 ⟨rfl, hD2, hu2⟩
          have HX2 : Hid _ := Box.ru HX1.out hu2
          have HB2 : Hid (Below w.heap.size w w2) := RU.below HB1.out hu2 hBB
          have HD2 : Hid _ := hD2
          clear hD2 hu2 hrf1 p0 p1 p2 p3 p4 p5 p6 p7 p8
          go_wp2_with fail
          go_meet
          case rel => exact ⟨b, S1, rfl, by simp, HD2.out, HX2.out, HB2.out, hbb⟩
        · as_aux_lemma =>
          have hop := gone_at b S dp W.drew HDd.out.fd HDd.out.inv
          have hrf := fun (w1 : World) (h1 : FdAt w1 b (goneTo S dp 6)) (hu1 : Upd b W.drew w1) => HDd.out.rgone dp h1 hu1
          have hgl := goneL_len S dp 6
          generalize goneL S dp 6 = G at hop hrf hgl
          generalize goneTo S dp 6 = S1 at hop hrf
          go_wp2_with fail
          clear c0 c1 c2 c3 c4 c5 c6 c7 c8
          refine wp_region_held_drew (S := fun w' => w'.cell? ⟨D, 1, none⟩ = some (.int .i64 dp)) (by kernel_rfl) f1 (fun hHeld => ?_)
          refine wpAnyH_take (i := 0) (v := ?_) rfl (by kernel_rfl) (by kernel_rfl) (by kernel_rfl) (fun _ _ _ h => h) (Or.inl ⟨by kernel_rfl, ?_⟩) (by assumption) ?_
          rotate_left
          · (intro w hSw; (try dsimp only at hSw); go_simp) <;> with_reducible rfl
          (try simp only [Act.put, List.getElem_toArray, List.getElem_cons_zero, List.setIfInBounds_toArray, List.set_cons_zero, List.set_cons_succ])
          refine wpAnyH_take (i := 1) (v := ?_) rfl (by kernel_rfl) (by kernel_rfl) (by kernel_rfl) (fun _ _ _ h => h) (Or.inl ⟨by kernel_rfl, ?_⟩) (by assumption) ?_
          rotate_left
          · (intro w hSw; (try dsimp only at hSw); go_simp) <;> with_reducible rfl
          (try simp only [Act.put, List.getElem_toArray, List.getElem_cons_zero, List.getElem_cons_succ, List.setIfInBounds_toArray, List.set_cons_zero, List.set_cons_succ])
          refine wpAnyH_take (i := 2) (v := ?_) rfl (by kernel_rfl) (by kernel_rfl) (by kernel_rfl) (fun _ _ _ h => h) (Or.inl ⟨by kernel_rfl, ?_⟩) (by assumption) ?_
          rotate_left
          · (intro w hSw; (try dsimp only at hSw); go_simp) <;> with_reducible rfl
          (try simp only [Act.put, List.getElem_toArray, List.getElem_cons_zero, List.getElem_cons_succ, List.setIfInBounds_toArray, List.set_cons_zero, List.set_cons_succ])
          refine wpAnyH_take (i := 4) (v := ?_) rfl (by kernel_rfl) (by kernel_rfl) (by kernel_rfl) (fun _ _ _ h => h) (Or.inl ⟨by kernel_rfl, ?_⟩) (by assumption) ?_
          rotate_left
          · (intro w hSw; (try dsimp only at hSw); go_simp) <;> with_reducible rfl
          (try simp only [Act.put, List.getElem_toArray, List.getElem_cons_zero, List.getElem_cons_succ, List.setIfInBounds_toArray, List.set_cons_zero, List.set_cons_succ])
          refine wpAnyH_take (i := 5) (v := ?_) rfl (by kernel_rfl) (by kernel_rfl) (by kernel_rfl) (fun _ _ _ h => h) (Or.inl ⟨by kernel_rfl, ?_⟩) (by assumption) ?_
          rotate_left
          · (intro w hSw; (try dsimp only at hSw); go_simp) <;> with_reducible rfl
          (try simp only [Act.put, List.getElem_toArray, List.getElem_cons_zero, List.getElem_cons_succ, List.setIfInBounds_toArray, List.set_cons_zero, List.set_cons_succ])
          refine wpAnyH_take (i := 6) (v := ?_) rfl (by kernel_rfl) (by kernel_rfl) (by kernel_rfl) (fun _ _ _ h => h) (Or.inl ⟨by kernel_rfl, ?_⟩) (by assumption) ?_
          rotate_left
          · (intro w hSw; (try dsimp only at hSw); go_simp) <;> with_reducible rfl
          (try simp only [Act.put, List.getElem_toArray, List.getElem_cons_zero, List.getElem_cons_succ, List.setIfInBounds_toArray, List.set_cons_zero, List.set_cons_succ])
          refine wpAnyH_ready (rs := [3]) (by kernel_rfl) (by simp) ?_
          refine AllReadyH.cons rfl (fun K hK => ?_) AllReadyH.nil
          go_simp
          refine hop.mono ?_
          rintro e w1 ⟨va, rfl, hown1, hE1, hu1⟩
          have hX1 := Box.updF HXd.out hu1 HDd.out.fd
          have HB1 : Hid (Below w.heap.size w w1) := upd_below HBd.out hu1 hbb
          have HX1 : Hid _ := hX1
          have HO1 : Hid (w1.ownsRow W.drew.heap.size 30 5 va G.length (fls G)) := hown1
          obtain ⟨aa, ca, rfl, -⟩ := FlR.of_own hown1
          obtain ⟨g0, g1, g2, g3, g4, g5, g6, g7, g8⟩ := Box.cells hX1
          have hrf1 := hrf w1 hE1 hu1
          clear hX1 hE1 hu1 hrf hop hown1
          refine hK.out _ _ g1 (fun hHeld => ?_)
          clear hK K
          (try simp only [Act.put, List.getElem_toArray, List.getElem_cons_zero, List.getElem_cons_succ, List.setIfInBounds_toArray, List.set_cons_zero, List.set_cons_succ])
          refine wpAnyH_ready (rs := [7]) (by kernel_rfl) (by simp) ?_
          refine AllReadyH.cons rfl (fun K hK => ?_) AllReadyH.nil
          go_simp
          refine hrf1.mono ?_
          rintro e w2 ⟨vb, rfl, hown2, hD2, hu2⟩
          have hX2 := Box.ru HX1.out hu2
          obtain ⟨ab, cb, rfl, hfb⟩ := FlR.of_own hown2
          obtain ⟨a9, c9, e9, hfa⟩ := FlR.of_own (own_ru HO1.out hu2)
          simp only [Value.slice.injEq, true_and] at e9
          obtain ⟨rfl, rfl⟩ := e9
          have HFa : Hid (FlR w2 aa G) := hfa
          have HFb : Hid (FlR w2 ab G) := hfb
          have HB2 : Hid (Below w.heap.size w w2) := RU.below HB1.out hu2 hBB
          have HX2 : Hid _ := hX2
          have HD2 : Hid _ := hD2
          obtain ⟨m0, m1, m2, m3, m4, m5, m6, m7, m8⟩ := Box.cells hX2
          clear hX2 hD2 hu2 hrf1 hown2 hfa hfb HO1
          refine hK.out _ _ m1 (fun hHeld => ?_)
          clear hK K
          (try simp only [Act.put, List.getElem_toArray, List.getElem_cons_zero, List.getElem_cons_succ, List.setIfInBounds_toArray, List.set_cons_zero, List.set_cons_succ])
          refine wpAnyH_take (i := 8) (v := ?_) rfl (by kernel_rfl) (by kernel_rfl) (by kernel_rfl) (fun _ _ _ h => h) (Or.inl ⟨by kernel_rfl, ?_⟩) (by assumption) ?_
          rotate_left
          · (intro w hSw; (try dsimp only at hSw); go_simp) <;> with_reducible rfl
          (try simp only [Act.put, List.getElem_toArray, List.getElem_cons_zero, List.getElem_cons_succ, List.setIfInBounds_toArray, List.set_cons_zero, List.set_cons_succ])
          refine wpAnyH_take (i := 9) (v := ?_) rfl (by kernel_rfl) (by kernel_rfl) (by kernel_rfl) (fun _ _ _ h => h) (Or.inl ⟨by kernel_rfl, ?_⟩) (by assumption) ?_
          rotate_left
          · (intro w hSw; (try dsimp only at hSw); go_simp) <;> with_reducible rfl
          (try simp only [Act.put, List.getElem_toArray, List.getElem_cons_zero, List.getElem_cons_succ, List.setIfInBounds_toArray, List.set_cons_zero, List.set_cons_succ])
          refine wpAnyH_done (by kernel_rfl) ?_ _
          clear hHeld
          generalize hGl : G.length = gl at *
          have HGl : Hid (G.length = gl) := hGl
          clear hGl m0 m1 m2 m3 m4 m5 m6 m7 m8 f0 f1 f2 f3 f4 f5 f6 f7 f8 g0 g1 g2 g3 g4 g5 g6 g7 g8
          go_wp2
          go_loopw [7, 26] (fun ok i wr => ∃ (j : Nat), j ≤ gl ∧ ok = .bool true ∧ i = .int .i64 j ∧ Below w2.heap.size w2 wr) (fun _ i _ => gl - (intOf i).toNat)
          case atStart => exact ⟨0, by omega, by simp, rfl, Below.refl _ _⟩
          case round =>
            obtain ⟨j, hj, rfl, rfl, hbj⟩ := hrel
            have HBj : Hid (Below w2.heap.size w2 wr) := hbj
            by_cases hjl : j < gl
            · have j1 : decide ((j : Int) < (gl : Int)) = true := decide_eq_true (by omega)
              have hji : (j : Int) < (gl : Int) := by omega
              obtain ⟨x, hx⟩ : ∃ x, G[j]? = some x := ⟨G[j]'(by rw [HGl.out]; exact hjl), List.getElem?_eq_getElem _⟩
              obtain ⟨ga, rfl, ha⟩ := (HFa.out.below hbj) j x hx
              obtain ⟨gb', rfl, hb'⟩ := (HFb.out.below hbj) j x hx
              have a0 : wr.cell? ⟨ga, j * 5, none⟩ = some (.int .i64 x.kind) := ha 0 (by omega)
              have a1 : wr.cell? ⟨ga, j * 5 + 1, none⟩ = some (.int .i64 x.id) := ha 1 (by omega)
              have a2 : wr.cell? ⟨ga, j * 5 + 2, none⟩ = some (.int .i64 x.off) := ha 2 (by omega)
              have a3 : wr.cell? ⟨ga, j * 5 + 3, none⟩ = some (.bool x.app) := ha 3 (by omega)
              have a4 : wr.cell? ⟨ga, j * 5 + 4, none⟩ = some (.int .i64 x.refs) := ha 4 (by omega)
              have b0 : wr.cell? ⟨gb', j * 5, none⟩ = some (.int .i64 x.kind) := hb' 0 (by omega)
              have b1 : wr.cell? ⟨gb', j * 5 + 1, none⟩ = some (.int .i64 x.id) := hb' 1 (by omega)
              have b2 : wr.cell? ⟨gb', j * 5 + 2, none⟩ = some (.int .i64 x.off) := hb' 2 (by omega)
              have b3 : wr.cell? ⟨gb', j * 5 + 3, none⟩ = some (.bool x.app) := hb' 3 (by omega)
              have b4 : wr.cell? ⟨gb', j * 5 + 4, none⟩ = some (.int .i64 x.refs) := hb' 4 (by omega)
              have hfe := file_eq x
              obtain ⟨yk, yi, yo, ya, yr⟩ := x
              dsimp only [Fl.row] at hfe a0 a1 a2 a3 a4 b0 b1 b2 b3 b4
              clear hx ha hb' hbj
              go_wp2_with fail
              go_quiet (fail)
              have HBq : Hid (Below w2.heap.size w2 (wr.drewN nq)) := below_drewN HBj.out nq
              generalize wr.drewN nq = Vq at *
              (try simp only [Exit.then])
              go_wp2
              go_roundw
              case rel => exact ⟨j + 1, by omega, by simp, by go_num, HBq.out⟩
              case measure => simp [intOf]; omega
            · have j1 : decide ((j : Int) < (gl : Int)) = false := decide_eq_false (by omega)
              clear hbj
              go_wp2_with fail
              go_meet
              case rel => exact ⟨b, S1, rfl, rfl, HD2.out.below HBj.out, Box.below HX2.out HBj.out, HB2.out.trans (HBj.out.mono HB2.out.size), hbb⟩
        · as_aux_lemma =>
          have hop := HD.out.enc
          have HU6 : Hid (U64 (encW S)) := enc_u64 HD.out.inv HD.out.fit
          have HEl : Hid ((encW S).length ≤ 1000) := HD.out.encLen
          have HOk : Hid (okW (encW S) = true) := dec_ok HD.out.inv HD.out.fit
          clear c0 c1 c2 c3 c4 c5 c6 c7 c8
          go_wp2_with fail
          refine hop.mono ?_
          rintro e w1 ⟨av, cv, rfl, hrd, hcv, hb1⟩
          have hDc2 := decode_at av cv (encW S) w1 hrd HU6.out hcv (by have := HEl.out; omega)
          have HB1 : Hid (Below w.heap.size w w1) := HB.out.trans (hb1.mono HB.out.size)
          have HX1 : Hid _ := Box.below HX.out hb1
          have HD1 : Hid (Duo w1 B b c S) := HD.out.below hb1
          clear hop hrd hb1 hcv
          generalize hel : (encW S).length = el at *
          clear hel
          go_wp2_with fail
          refine hDc2.mono ?_
          rintro e w2 ⟨hx2, -, hb2⟩
          obtain ⟨b2, hx, hb2b, hA2⟩ := hx2 HOk.out
          subst hx
          have HB2 : Hid (Below w.heap.size w w2) := HB1.out.trans (hb2.mono HB1.out.size)
          have HX2 : Hid _ := Box.below HX1.out hb2
          have hD1b := HD1.out.below hb2
          obtain ⟨v9, L9, hR9, hL9⟩ := hD1b.rf
          have HD2 : Hid (Duo w2 B b2 c (decS (encW S))) := ⟨hA2, ⟨v9, L9, hR9, by unfold RL; rw [dec_ref hD1b.inv]; exact hL9⟩, dec_inv hD1b.inv, dec_fit hD1b.inv hD1b.fit, hD1b.sz⟩
          have hbs : w.heap.size ≤ b2 := Nat.le_trans HB1.out.size hb2b
          have hnn := ptr_eq b2
          clear hDc2 hx2 hb2 hA2 HB1 HX1 HD1 hD1b hR9 hL9 hb2b
          go_wp2_with fail
          go_meet
          case rel => exact ⟨b2, _, rfl, rfl, HD2.out, HX2.out, HB2.out, hbs⟩
      case rest => as_aux_lemma =>
        obtain ⟨b', S', rfl, rfl, hD, hX, hB, hbb'⟩ := hcut
        clear HX HD HB hn1
        have hdr : Below wc.heap.size wc wc.drew := (Below.refl _ _).drew
        have HX : Hid (Box wc.drew D ⟨dk, dp, df, dn, ⟨xk, xi, xo, xa, xr⟩⟩) := Box.below hX hdr
        have HD : Hid (Duo wc.drew B b' c S') := hD.below hdr
        have HB : Hid (Below w.heap.size w wc.drew) := hB.drew
        have hL := leftA_at b' S' dp wc.drew HD.out.fd
        have hxL := HD.out.rleft dp
        generalize leftA S' dp = ln at hL hxL
        obtain ⟨x0, x1, x2, x3, x4, x5, x6, x7, x8⟩ := Box.cells HX.out
        dsimp only at x0 x1 x2 x3 x4 x5 x6 x7 x8
        clear hdr hX hD hB
        go_wp2_with fail
        refine wp_region_held_drew (S := fun w' => w'.cell? ⟨D, 1, none⟩ = some (.int .i64 dp) ∧ w'.cell? ⟨D, 4, none⟩ = some (.int .i64 xk)) (by kernel_rfl) ⟨x1, x4⟩ (fun hHeld => ?_)
        refine wpAnyH_take (i := 0) (v := ?_) rfl (by kernel_rfl) (by kernel_rfl) (by kernel_rfl) (fun _ _ _ h => h) (Or.inl ⟨by kernel_rfl, ?_⟩) (by assumption) ?_
        rotate_left
        · (intro w hSw; (try dsimp only at hSw); go_simp) <;> with_reducible rfl
        (try simp only [Act.put, List.getElem_toArray, List.getElem_cons_zero, List.setIfInBounds_toArray, List.set_cons_zero, List.set_cons_succ])
        refine wpAnyH_take (i := 1) (v := ?_) rfl (by kernel_rfl) (by kernel_rfl) (by kernel_rfl) (fun _ _ _ h => h) (Or.inl ⟨by kernel_rfl, ?_⟩) (by assumption) ?_
        rotate_left
        · (intro w hSw; (try dsimp only at hSw); go_simp) <;> with_reducible rfl
        (try simp only [Act.put, List.getElem_toArray, List.getElem_cons_zero, List.getElem_cons_succ, List.setIfInBounds_toArray, List.set_cons_zero, List.set_cons_succ])
        refine wpAnyH_take (i := 2) (v := ?_) rfl (by kernel_rfl) (by kernel_rfl) (by kernel_rfl) (fun _ _ _ h => h) (Or.inl ⟨by kernel_rfl, ?_⟩) (by assumption) ?_
        rotate_left
        · (intro w hSw; (try dsimp only at hSw); go_simp) <;> with_reducible rfl
        (try simp only [Act.put, List.getElem_toArray, List.getElem_cons_zero, List.getElem_cons_succ, List.setIfInBounds_toArray, List.set_cons_zero, List.set_cons_succ])
        refine wpAnyH_take (i := 3) (v := ?_) rfl (by kernel_rfl) (by kernel_rfl) (by kernel_rfl) (fun _ _ _ h => h) (Or.inl ⟨by kernel_rfl, ?_⟩) (by assumption) ?_
        rotate_left
        · (intro w hSw; (try dsimp only at hSw); go_simp) <;> with_reducible rfl
        (try simp only [Act.put, List.getElem_toArray, List.getElem_cons_zero, List.getElem_cons_succ, List.setIfInBounds_toArray, List.set_cons_zero, List.set_cons_succ])
        refine wpAnyH_take (i := 4) (v := ?_) rfl (by kernel_rfl) (by kernel_rfl) (by kernel_rfl) (fun _ _ _ h => h) (Or.inl ⟨by kernel_rfl, ?_⟩) (by assumption) ?_
        rotate_left
        · (intro w hSw; (try dsimp only at hSw); go_simp) <;> with_reducible rfl
        (try simp only [Act.put, List.getElem_toArray, List.getElem_cons_zero, List.getElem_cons_succ, List.setIfInBounds_toArray, List.set_cons_zero, List.set_cons_succ])
        refine wpAnyH_take (i := 5) (v := ?_) rfl (by kernel_rfl) (by kernel_rfl) (by kernel_rfl) (fun _ _ _ h => h) (Or.inl ⟨by kernel_rfl, ?_⟩) (by assumption) ?_
        rotate_left
        · (intro w hSw; (try dsimp only at hSw); go_simp) <;> with_reducible rfl
        (try simp only [Act.put, List.getElem_toArray, List.getElem_cons_zero, List.getElem_cons_succ, List.setIfInBounds_toArray, List.set_cons_zero, List.set_cons_succ])
        refine wpAnyH_take (i := 7) (v := ?_) rfl (by kernel_rfl) (by kernel_rfl) (by kernel_rfl) (fun _ _ _ h => h) (Or.inl ⟨by kernel_rfl, ?_⟩) (by assumption) ?_
        rotate_left
        · (intro w hSw; (try dsimp only at hSw); go_simp) <;> with_reducible rfl
        (try simp only [Act.put, List.getElem_toArray, List.getElem_cons_zero, List.getElem_cons_succ, List.setIfInBounds_toArray, List.set_cons_zero, List.set_cons_succ])
        refine wpAnyH_take (i := 8) (v := ?_) rfl (by kernel_rfl) (by kernel_rfl) (by kernel_rfl) (fun _ _ _ h => h) (Or.inl ⟨by kernel_rfl, ?_⟩) (by assumption) ?_
        rotate_left
        · (intro w hSw; (try dsimp only at hSw); go_simp) <;> with_reducible rfl
        (try simp only [Act.put, List.getElem_toArray, List.getElem_cons_zero, List.getElem_cons_succ, List.setIfInBounds_toArray, List.set_cons_zero, List.set_cons_succ])
        refine wpAnyH_take (i := 9) (v := ?_) rfl (by kernel_rfl) (by kernel_rfl) (by kernel_rfl) (fun _ _ _ h => h) (Or.inl ⟨by kernel_rfl, ?_⟩) (by assumption) ?_
        rotate_left
        · (intro w hSw; (try dsimp only at hSw); go_simp) <;> with_reducible rfl
        (try simp only [Act.put, List.getElem_toArray, List.getElem_cons_zero, List.getElem_cons_succ, List.setIfInBounds_toArray, List.set_cons_zero, List.set_cons_succ])
        refine wpAnyH_ready (rs := [6]) (by kernel_rfl) (by simp) ?_
        refine AllReadyH.cons rfl (fun K hK => ?_) AllReadyH.nil
        go_simp
        refine hL.mono ?_
        rintro e w3 ⟨rfl, hw⟩
        rw [hw]
        clear hw w3 hL
        refine hK.out _ _ ⟨x1, x4⟩ (fun hHeld => ?_)
        clear hK K
        (try simp only [Act.put, List.getElem_toArray, List.getElem_cons_zero, List.getElem_cons_succ, List.setIfInBounds_toArray, List.set_cons_zero, List.set_cons_succ])
        refine wpAnyH_ready (rs := [10]) (by kernel_rfl) (by simp) ?_
        refine AllReadyH.cons rfl (fun K hK => ?_) AllReadyH.nil
        go_simp
        refine hxL.mono ?_
        rintro e w3 ⟨rfl, hw⟩
        rw [hw]
        clear hw w3 hxL
        refine hK.out _ _ ⟨x1, x4⟩ (fun hHeld => ?_)
        clear hK K
        (try simp only [Act.put, List.getElem_toArray, List.getElem_cons_zero, List.getElem_cons_succ, List.setIfInBounds_toArray, List.set_cons_zero, List.set_cons_succ])
        refine wpAnyH_take (i := 11) (v := ?_) rfl (by kernel_rfl) (by kernel_rfl) (by kernel_rfl) (fun _ _ _ h => h) (Or.inl ⟨by kernel_rfl, ?_⟩) (by assumption) ?_
        rotate_left
        · (intro w hSw; (try dsimp only at hSw); go_simp) <;> with_reducible rfl
        (try simp only [Act.put, List.getElem_toArray, List.getElem_cons_zero, List.getElem_cons_succ, List.setIfInBounds_toArray, List.set_cons_zero, List.set_cons_succ])
        refine wpAnyH_take (i := 12) (v := ?_) rfl (by kernel_rfl) (by kernel_rfl) (by kernel_rfl) (fun _ _ _ h => h) (Or.inl ⟨by kernel_rfl, ?_⟩) (by assumption) ?_
        rotate_left
        · (intro w hSw; (try dsimp only at hSw); go_simp) <;> with_reducible rfl
        (try simp only [Act.put, List.getElem_toArray, List.getElem_cons_zero, List.getElem_cons_succ, List.setIfInBounds_toArray, List.set_cons_zero, List.set_cons_succ])
        refine wpAnyH_take (i := 13) (v := ?_) rfl (by kernel_rfl) (by kernel_rfl) (by kernel_rfl) (fun _ _ _ h => h) (Or.inl ⟨by kernel_rfl, ?_⟩) (by assumption) ?_
        rotate_left
        · (intro w hSw; (try dsimp only at hSw); go_simp) <;> with_reducible rfl
        (try simp only [Act.put, List.getElem_toArray, List.getElem_cons_zero, List.getElem_cons_succ, List.setIfInBounds_toArray, List.set_cons_zero, List.set_cons_succ])
        refine wpAnyH_take (i := 14) (v := ?_) rfl (by kernel_rfl) (by kernel_rfl) (by kernel_rfl) (fun _ _ _ h => h) (Or.inl ⟨by kernel_rfl, ?_⟩) (by assumption) ?_
        rotate_left
        · (intro w hSw; (try dsimp only at hSw); go_simp) <;> with_reducible rfl
        (try simp only [Act.put, List.getElem_toArray, List.getElem_cons_zero, List.getElem_cons_succ, List.setIfInBounds_toArray, List.set_cons_zero, List.set_cons_succ])
        refine wpAnyH_take (i := 15) (v := ?_) rfl (by kernel_rfl) (by kernel_rfl) (by kernel_rfl) (fun _ _ _ h => h) (Or.inl ⟨by kernel_rfl, ?_⟩) (by assumption) ?_
        rotate_left
        · (intro w hSw; (try dsimp only at hSw); go_simp) <;> with_reducible rfl
        (try simp only [Act.put, List.getElem_toArray, List.getElem_cons_zero, List.getElem_cons_succ, List.setIfInBounds_toArray, List.set_cons_zero, List.set_cons_succ])
        refine wpAnyH_take (i := 16) (v := ?_) rfl (by kernel_rfl) (by kernel_rfl) (by kernel_rfl) (fun _ _ _ h => h) (Or.inl ⟨by kernel_rfl, ?_⟩) (by assumption) ?_
        rotate_left
        · (intro w hSw; (try dsimp only at hSw); go_simp) <;> with_reducible rfl
        (try simp only [Act.put, List.getElem_toArray, List.getElem_cons_zero, List.getElem_cons_succ, List.setIfInBounds_toArray, List.set_cons_zero, List.set_cons_succ])
        refine wpAnyH_take (i := 17) (v := ?_) rfl (by kernel_rfl) (by kernel_rfl) (by kernel_rfl) (fun _ _ _ h => h) (Or.inl ⟨by kernel_rfl, ?_⟩) (by assumption) ?_
        rotate_left
        · (intro w hSw; (try dsimp only at hSw); go_simp) <;> with_reducible rfl
        (try simp only [Act.put, List.getElem_toArray, List.getElem_cons_zero, List.getElem_cons_succ, List.setIfInBounds_toArray, List.set_cons_zero, List.set_cons_succ])
        refine wpAnyH_take (i := 19) (v := ?_) rfl (by kernel_rfl) (by kernel_rfl) (by kernel_rfl) (fun _ _ _ h => h) (Or.inl ⟨by kernel_rfl, ?_⟩) (by assumption) ?_
        rotate_left
        · (intro w hSw; (try dsimp only at hSw); go_simp) <;> with_reducible rfl
        (try simp only [Act.put, List.getElem_toArray, List.getElem_cons_zero, List.getElem_cons_succ, List.setIfInBounds_toArray, List.set_cons_zero, List.set_cons_succ])
        refine wpAnyH_take (i := 20) (v := ?_) rfl (by kernel_rfl) (by kernel_rfl) (by kernel_rfl) (fun _ _ _ h => h) (Or.inl ⟨by kernel_rfl, ?_⟩) (by assumption) ?_
        rotate_left
        · (intro w hSw; (try dsimp only at hSw); go_simp) <;> with_reducible rfl
        (try simp only [Act.put, List.getElem_toArray, List.getElem_cons_zero, List.getElem_cons_succ, List.setIfInBounds_toArray, List.set_cons_zero, List.set_cons_succ])
        refine wpAnyH_take (i := 21) (v := ?_) rfl (by kernel_rfl) (by kernel_rfl) (by kernel_rfl) (fun _ _ _ h => h) (Or.inl ⟨by kernel_rfl, ?_⟩) (by assumption) ?_
        rotate_left
        · (intro w hSw; (try dsimp only at hSw); go_simp) <;> with_reducible rfl
        (try simp only [Act.put, List.getElem_toArray, List.getElem_cons_zero, List.getElem_cons_succ, List.setIfInBounds_toArray, List.set_cons_zero, List.set_cons_succ])
        refine wpAnyH_take (i := 22) (v := ?_) rfl (by kernel_rfl) (by kernel_rfl) (by kernel_rfl) (fun _ _ _ h => h) (Or.inl ⟨by kernel_rfl, ?_⟩) (by assumption) ?_
        rotate_left
        · (intro w hSw; (try dsimp only at hSw); go_simp) <;> with_reducible rfl
        (try simp only [Act.put, List.getElem_toArray, List.getElem_cons_zero, List.getElem_cons_succ, List.setIfInBounds_toArray, List.set_cons_zero, List.set_cons_succ])
        refine wpAnyH_ready (rs := [18]) (by kernel_rfl) (by simp) ?_
        refine AllReadyH.cons rfl (fun K hK => ?_) AllReadyH.nil
        go_simp
        refine (ids_at b' S' xk wc.drew HD.out.fd).mono ?_
        rintro e w3 ⟨a3, c3, rfl, hr3, hb3⟩
        have HX3 : Hid _ := Box.below HX.out hb3
        have HD3 : Hid (Duo w3 B b' c S') := HD.out.below hb3
        have HB3 : Hid (Below w.heap.size w w3) := HB.out.trans (hb3.mono HB.out.size)
        have HI3 : Hid (IRow w3 a3 (idsA S' xk)) := hr3
        obtain ⟨p0, p1, p2, p3, p4, p5, p6, p7, p8⟩ := Box.cells HX3.out
        clear hb3 hr3 HX HD HB
        refine hK.out _ _ ⟨p1, p4⟩ (fun hHeld => ?_)
        clear hK K
        (try simp only [Act.put, List.getElem_toArray, List.getElem_cons_zero, List.getElem_cons_succ, List.setIfInBounds_toArray, List.set_cons_zero, List.set_cons_succ])
        refine wpAnyH_ready (rs := [23]) (by kernel_rfl) (by simp) ?_
        refine AllReadyH.cons rfl (fun K hK => ?_) AllReadyH.nil
        go_simp
        refine (HD3.out.rids xk).mono ?_
        rintro e w4 ⟨a4, c4, rfl, hr4, hb4⟩
        have HX4 : Hid _ := Box.below HX3.out hb4
        have HD4 : Hid (Duo w4 B b' c S') := HD3.out.below hb4
        have HB4 : Hid (Below w.heap.size w w4) := HB3.out.trans (hb4.mono HB3.out.size)
        have hIn := ints_same (idsA S' xk) a3 a4 c3 c4 w4 (HI3.out.below hb4) hr4 (by have := idsA_len S' xk; omega)
        generalize (idsA S' xk).length = il at *
        obtain ⟨q0, q1, q2, q3, q4, q5, q6, q7, q8⟩ := Box.cells HX4.out
        clear hb4 hr4 HX3 HD3 HB3 HI3
        refine hK.out _ _ ⟨q1, q4⟩ (fun hHeld => ?_)
        clear hK K
        (try simp only [Act.put, List.getElem_toArray, List.getElem_cons_zero, List.getElem_cons_succ, List.setIfInBounds_toArray, List.set_cons_zero, List.set_cons_succ])
        refine wpAnyH_ready (rs := [24]) (by kernel_rfl) (by simp) ?_
        refine AllReadyH.cons rfl (fun K hK => ?_) AllReadyH.nil
        go_simp
        refine hIn.mono ?_
        rintro e w5 ⟨rfl, hb5⟩
        have HX5 : Hid _ := Box.below HX4.out hb5
        have HD5 : Hid (Duo w5 B b' c S') := HD4.out.below hb5
        have HB5 : Hid (Below w.heap.size w w5) := HB4.out.trans (hb5.mono HB4.out.size)
        obtain ⟨r0, r1, r2, r3, r4, r5, r6, r7, r8⟩ := Box.cells HX5.out
        clear hb5 hIn HX4 HD4 HB4
        refine hK.out _ _ ⟨r1, r4⟩ (fun hHeld => ?_)
        clear hK K
        (try simp only [Act.put, List.getElem_toArray, List.getElem_cons_zero, List.getElem_cons_succ, List.setIfInBounds_toArray, List.set_cons_zero, List.set_cons_succ])
        refine wpAnyH_take (i := 25) (v := ?_) rfl (by kernel_rfl) (by kernel_rfl) (by kernel_rfl) (fun _ _ _ h => h) (Or.inl ⟨by kernel_rfl, ?_⟩) (by assumption) ?_
        rotate_left
        · (intro w hSw; (try dsimp only at hSw); go_simp) <;> with_reducible rfl
        (try simp only [Act.put, List.getElem_toArray, List.getElem_cons_zero, List.getElem_cons_succ, List.setIfInBounds_toArray, List.set_cons_zero, List.set_cons_succ])
        refine wpAnyH_take (i := 26) (v := ?_) rfl (by kernel_rfl) (by kernel_rfl) (by kernel_rfl) (fun _ _ _ h => h) (Or.inl ⟨by kernel_rfl, ?_⟩) (by assumption) ?_
        rotate_left
        · (intro w hSw; (try dsimp only at hSw); go_simp) <;> with_reducible rfl
        (try simp only [Act.put, List.getElem_toArray, List.getElem_cons_zero, List.getElem_cons_succ, List.setIfInBounds_toArray, List.set_cons_zero, List.set_cons_succ])
        refine wpAnyH_take (i := 27) (v := ?_) rfl (by kernel_rfl) (by kernel_rfl) (by kernel_rfl) (fun _ _ _ h => h) (Or.inl ⟨by kernel_rfl, ?_⟩) (by assumption) ?_
        rotate_left
        · (intro w hSw; (try dsimp only at hSw); go_simp) <;> with_reducible rfl
        (try simp only [Act.put, List.getElem_toArray, List.getElem_cons_zero, List.getElem_cons_succ, List.setIfInBounds_toArray, List.set_cons_zero, List.set_cons_succ])
        refine wpAnyH_take (i := 28) (v := ?_) rfl (by kernel_rfl) (by kernel_rfl) (by kernel_rfl) (fun _ _ _ h => h) (Or.inl ⟨by kernel_rfl, ?_⟩) (by assumption) ?_
        rotate_left
        · (intro w hSw; (try dsimp only at hSw); go_simp) <;> with_reducible rfl
        (try simp only [Act.put, List.getElem_toArray, List.getElem_cons_zero, List.getElem_cons_succ, List.setIfInBounds_toArray, List.set_cons_zero, List.set_cons_succ])
        refine wpAnyH_take (i := 30) (v := ?_) rfl (by kernel_rfl) (by kernel_rfl) (by kernel_rfl) (fun _ _ _ h => h) (Or.inl ⟨by kernel_rfl, ?_⟩) (by assumption) ?_
        rotate_left
        · (intro w hSw; (try dsimp only at hSw); go_simp) <;> with_reducible rfl
        (try simp only [Act.put, List.getElem_toArray, List.getElem_cons_zero, List.getElem_cons_succ, List.setIfInBounds_toArray, List.set_cons_zero, List.set_cons_succ])
        refine wpAnyH_ready (rs := [29]) (by kernel_rfl) (by simp) ?_
        refine AllReadyH.cons rfl (fun K hK => ?_) AllReadyH.nil
        go_simp
        refine HD5.out.enc.mono ?_
        rintro e w6 ⟨a6, c6, rfl, hr6, _, hb6⟩
        have HX6 : Hid _ := Box.below HX5.out hb6
        have HD6 : Hid (Duo w6 B b' c S') := HD5.out.below hb6
        have HB6 : Hid (Below w.heap.size w w6) := HB5.out.trans (hb6.mono HB5.out.size)
        have HI6 : Hid (Rd w6 a6 (encW S')) := hr6
        obtain ⟨s0, s1, s2, s3, s4, s5, s6, s7, s8⟩ := Box.cells HX6.out
        clear hb6 hr6 HX5 HD5 HB5
        refine hK.out _ _ ⟨s1, s4⟩ (fun hHeld => ?_)
        clear hK K
        (try simp only [Act.put, List.getElem_toArray, List.getElem_cons_zero, List.getElem_cons_succ, List.setIfInBounds_toArray, List.set_cons_zero, List.set_cons_succ])
        refine wpAnyH_ready (rs := [31]) (by kernel_rfl) (by simp) ?_
        refine AllReadyH.cons rfl (fun K hK => ?_) AllReadyH.nil
        go_simp
        refine HD6.out.renc.mono ?_
        rintro e w7 ⟨a7, c7, rfl, hr7, hb7⟩
        have HX7 : Hid _ := Box.below HX6.out hb7
        have HD7 : Hid (Duo w7 B b' c S') := HD6.out.below hb7
        have HB7 : Hid (Below w.heap.size w w7) := HB6.out.trans (hb7.mono HB6.out.size)
        have hWo := words_same (encW S') a6 a7 c6 c7 w7 (HI6.out.below hb7) hr7 (by have := HD7.out.encLen; omega)
        generalize (encW S').length = el at *
        obtain ⟨t0, t1, t2, t3, t4, t5, t6, t7, t8⟩ := Box.cells HX7.out
        clear hb7 hr7 HX6 HD6 HB6 HI6
        refine hK.out _ _ ⟨t1, t4⟩ (fun hHeld => ?_)
        clear hK K
        (try simp only [Act.put, List.getElem_toArray, List.getElem_cons_zero, List.getElem_cons_succ, List.setIfInBounds_toArray, List.set_cons_zero, List.set_cons_succ])
        refine wpAnyH_ready (rs := [32]) (by kernel_rfl) (by simp) ?_
        refine AllReadyH.cons rfl (fun K hK => ?_) AllReadyH.nil
        go_simp
        refine hWo.mono ?_
        rintro e w8 ⟨rfl, hb8⟩
        have HX8 : Hid _ := Box.below HX7.out hb8
        have HD8 : Hid (Duo w8 B b' c S') := HD7.out.below hb8
        have HB8 : Hid (Below w.heap.size w w8) := HB7.out.trans (hb8.mono HB7.out.size)
        obtain ⟨y0, y1, y2, y3, y4, y5, y6, y7, y8⟩ := Box.cells HX8.out
        clear hb8 hWo HX7 HD7 HB7
        refine hK.out _ _ ⟨y1, y4⟩ (fun hHeld => ?_)
        clear hK K
        (try simp only [Act.put, List.getElem_toArray, List.getElem_cons_zero, List.getElem_cons_succ, List.setIfInBounds_toArray, List.set_cons_zero, List.set_cons_succ])
        refine wpAnyH_take (i := 33) (v := ?_) rfl (by kernel_rfl) (by kernel_rfl) (by kernel_rfl) (fun _ _ _ h => h) (Or.inl ⟨by kernel_rfl, ?_⟩) (by assumption) ?_
        rotate_left
        · (intro w hSw; (try dsimp only at hSw); go_simp) <;> with_reducible rfl
        (try simp only [Act.put, List.getElem_toArray, List.getElem_cons_zero, List.getElem_cons_succ, List.setIfInBounds_toArray, List.set_cons_zero, List.set_cons_succ])
        refine wpAnyH_take (i := 34) (v := ?_) rfl (by kernel_rfl) (by kernel_rfl) (by kernel_rfl) (fun _ _ _ h => h) (Or.inl ⟨by kernel_rfl, ?_⟩) (by assumption) ?_
        rotate_left
        · (intro w hSw; (try dsimp only at hSw); go_simp) <;> with_reducible rfl
        (try simp only [Act.put, List.getElem_toArray, List.getElem_cons_zero, List.getElem_cons_succ, List.setIfInBounds_toArray, List.set_cons_zero, List.set_cons_succ])
        refine wpAnyH_done (by kernel_rfl) ?_ _
        clear hHeld
        go_wp2
        go_roundw
        case rel => exact ⟨k + 1, b', S', by omega, by omega, rfl, by go_num, HD8.out, HB8.out, hbb'⟩
        case measure => simp [intOf]; omega
    · as_aux_lemma =>
      have HB : Hid (Below w.heap.size w wr) := hB
      clear hD hB hdeeds
      have hkl : k < len ∨ len ≤ k := by omega
      rcases hkl with hkl | hkl
      · have g0 : decide ((k : Int) < (len : Int)) = true := decide_eq_true (by omega)
        have g1 : decide ((k : Int) < 150) = false := decide_eq_false (by omega)
        go_wp2_with fail
        refine (awake_at _).mono ?_
        rintro e w6 ⟨rfl, hb6⟩
        go_wp2
        go_ret
        exact ⟨rfl, HB.out.trans (hb6.mono HB.out.size)⟩
      · have g0 : decide ((k : Int) < (len : Int)) = false := decide_eq_false (by omega)
        go_wp2_with fail
        refine (awake_at _).mono ?_
        rintro e w6 ⟨rfl, hb6⟩
        go_wp2
        go_ret
        exact ⟨rfl, HB.out.trans (hb6.mono HB.out.size)⟩
end Go.Proofs.Ytkdbmfckfbmbiaa
