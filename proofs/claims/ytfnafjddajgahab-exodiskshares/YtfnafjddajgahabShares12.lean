/- Proved: januslaw12.ExodiskShares answers true for all rights and every number (who was given an extent's capability reads what its giver puts, and may put just with that right), at the commit of this claim; no condition beyond the row's own. -/
import Derived.Test.YtfnafjddajgahabXdN
import Derived.ProofKit
import Derived.OpenShut
import Derived.ChangeOld
import Derived.Below
namespace Go.Proofs.Ytfnafjddajgahab
open Go.ChangeShapes Go.WideShapes Go.ChangeAt Go.RowKit Go.Lib Ca
set_option linter.unusedVariables false

/-- The slots when environment 2 was given the extent with these rights. -/
def Ts (r : Int) : Tab := (Tf 1 1 2).set 128 ⟨⟨2, 1, 2, r⟩, 1, 1⟩
theorem sh_no (r : Int) (h : r < 1 ∨ 7 < r) : giveA (Tf 1 1 2) 1 1 2 r = 0 ∧ giveR (Tf 1 1 2) 1 1 2 r = 104 ∧ giveT (Tf 1 1 2) 1 1 2 r = Tf 1 1 2 := by
  have hg : giveOK (Tf 1 1 2) 1 1 r = false := by
    have hR : areR r = false := by simp [areR]; omega
    unfold giveOK mayG
    rw [hR]
    simp
  unfold giveA giveR giveT
  rw [hg]
  exact ⟨rfl, rfl, rfl⟩
theorem sh_yes (r : Int) (h1 : 1 ≤ r) (h2 : r ≤ 7) : giveA (Tf 1 1 2) 1 1 2 r = 1 ∧ giveR (Tf 1 1 2) 1 1 2 r = 0 ∧ giveT (Tf 1 1 2) 1 1 2 r = Ts r := by
  have hg : giveOK (Tf 1 1 2) 1 1 r = true := by
    have hc : r = 1 ∨ r = 2 ∨ r = 3 ∨ r = 4 ∨ r = 5 ∨ r = 6 ∨ r = 7 := by omega
    rcases hc with e | e | e | e | e | e | e
    all_goals
      rw [e]
      decide +kernel
  have hf : freeT (Tf 1 1 2) 2 = 0 := by kernel_rfl
  have he : isE 2 = true := rfl
  have e : Int.toNat 2 = 2 := rfl
  unfold giveA giveR giveT
  rw [if_pos hg, if_pos hg, if_pos hg, if_pos he, if_pos he, if_pos he, e]
  unfold putA putE putT
  rw [hf]
  exact ⟨rfl, rfl, rfl⟩
theorem sh_put1 (r : Int) (l : Lines) (ws : List Int) (h : ws.length = 32) : putRr (Ts r) 1 1 2 ws.length = 0 ∧ putLl (Ts r) l 1 1 2 ws = putL l 2 ws := by
  have hm : mayX (Ts r) 1 1 2 2 = true := by kernel_rfl
  unfold putRr putLl
  rw [hm, h]
  exact ⟨rfl, rfl⟩
theorem sh_get (r : Int) (l : Lines) (vs : List Int) (ws : List Int) (b : Bool) (hb : (bits .and .i64 r 1 != 0) = b) : getRr (Ts r) 2 1 2 = (if b then 0 else 104) ∧ getWw (Ts r) (putL l 2 ws) vs 2 1 2 = (if b then ws else []) ∧ getLl (Ts r) (putL l 2 ws) vs 2 1 2 = putL l 2 ws := by
  have hm : mayX (Ts r) 2 1 2 1 = b := by
    rw [← hb]
    have h1 : getT (Ts r) 2 1 = ⟨2, 1, 2, r⟩ := by kernel_rfl
    unfold mayX hasR
    rw [h1]
    show ((true && (bits .and .i64 r 1 != 0)) && (true && true)) = _
    simp
  unfold getRr getWw getLl
  rw [hm]
  cases b
  · exact ⟨rfl, rfl, rfl⟩
  · exact ⟨rfl, (getL_put l vs 2 ws).1, (getL_put l vs 2 ws).2⟩
theorem sh_put2 (r : Int) (l : Lines) (ws : List Int) (h : ws.length = 32) (b : Bool) (hb : (bits .and .i64 r 2 != 0) = b) : putRr (Ts r) 2 1 1 ws.length = (if b then 0 else 104) := by
  have hm : mayX (Ts r) 2 1 1 2 = b := by
    rw [← hb]
    have h1 : getT (Ts r) 2 1 = ⟨2, 1, 2, r⟩ := by kernel_rfl
    unfold mayX hasR
    rw [h1]
    show ((true && (bits .and .i64 r 2 != 0)) && (true && true)) = _
    simp
  unfold putRr
  rw [hm, h]
  cases b <;> rfl
theorem sh_rev (r : Int) : revR (Ts r) 1 1 = 0 ∧ ∀ l vs, getRr (revT (Ts r) 1 1) 2 1 2 = 104 ∧ getWw (revT (Ts r) 1 1) l vs 2 1 2 = [] ∧ getLl (revT (Ts r) 1 1) l vs 2 1 2 = l := by
  have hi : (getT (Ts r) 1 1).is = true := by kernel_rfl
  have ht : revT (Ts r) 1 1 = (Ca.revS (Ts r) (1, 1) 2).1 := revT_is hi (N := 1) (by kernel_rfl)
  refine ⟨by unfold revR; rw [if_pos hi], fun l vs => ?_⟩
  have hm : mayX (revT (Ts r) 1 1) 2 1 2 1 = false := by
    rw [ht]
    kernel_rfl
  unfold getRr getWw getLl
  rw [hm]
  exact ⟨rfl, rfl, rfl⟩

set_option maxRecDepth 100000 in
set_option maxHeartbeats 4000000 in
theorem shares_walk (r v : Int) (w : World) :
    Calls Try.prog 5 #[.int .i64 r, .int .u64 v] w fun e w' => e = .returned (.bool true) ∧ Below w.heap.size w w' := by
  go_enter Try.func5, Try.ntmps5
  go_wp2_with fail
  refine (xnew_at 4 w (by decide) (by decide)).mono ?_
  rintro x w1 ⟨K, Y, rfl, hK0, hb, -, hft⟩
  have hK1 : KAt w1 K Y 4 0 (V0 4) L0 T0 := hK0
  have HB1 : Hid _ := hb
  have HF : Hid _ := hft
  clear hK0 hb hft
  have h1 := xalloc_at hK1 1 1 2 ⟨by decide, by decide⟩ ⟨by decide, by decide⟩
  obtain ⟨e1, e2, e3⟩ := first_alloc 4 1 (by decide) (by decide) 1 2 (by decide) (by decide) (by decide)
  replace e1 : xallocA T0 4 1 1 2 = 1 := e1
  replace e2 : xallocR T0 4 1 1 2 = 0 := e2
  replace e3 : xallocT T0 4 1 1 2 = Tf 1 1 2 := e3
  rw [e1, e2, e3] at h1
  clear e1 e2 e3 hK1
  go_wp2_with fail
  refine h1.mono ?_
  rintro x w2 ⟨rfl, hK2, hu2⟩
  have HB2 : Hid _ := feet_below HB1.out HF.out hu2
  have h2 := xgrant_at hK2 1 1 2 r
  clear HB1 hu2 hK2 h1
  have hcase : r < 1 ∨ (¬ r < 1 ∧ 7 < r) ∨ (1 ≤ r ∧ r ≤ 7) := by omega
  rcases hcase with hr | ⟨hr0, hr⟩ | ⟨hr1, hr2⟩
  · obtain ⟨q1, q2, q3⟩ := sh_no r (Or.inl hr)
    rw [q1, q2, q3] at h2
    clear q1 q2 q3
    go_wp2_with fail
    refine h2.mono ?_
    rintro x w3 ⟨rfl, hK3, hu3⟩
    have HB3 : Hid _ := feet_below HB2.out HF.out hu3
    clear hK3 hu3 h2 HB2
    go_wp2_with fail
    refine (Go.Proofs.Ytfnafjddajgahab.awake_at _).mono ?_
    rintro x w4 ⟨rfl, hb4⟩
    go_wp2
    go_ret
    exact ⟨rfl, HB3.out.trans (hb4.mono HB3.out.size)⟩
  · obtain ⟨q1, q2, q3⟩ := sh_no r (Or.inr hr)
    rw [q1, q2, q3] at h2
    clear q1 q2 q3
    go_wp2_with fail
    refine h2.mono ?_
    rintro x w3 ⟨rfl, hK3, hu3⟩
    have HB3 : Hid _ := feet_below HB2.out HF.out hu3
    clear hK3 hu3 h2 HB2
    go_wp2_with fail
    refine (Go.Proofs.Ytfnafjddajgahab.awake_at _).mono ?_
    rintro x w4 ⟨rfl, hb4⟩
    go_wp2
    go_ret
    exact ⟨rfl, HB3.out.trans (hb4.mono HB3.out.size)⟩
  · obtain ⟨q1, q2, q3⟩ := sh_yes r hr1 hr2
    rw [q1, q2, q3] at h2
    clear q1 q2 q3
    have g1 : decide (r < 1) = false := decide_eq_false (by omega)
    have g2 : decide (7 < r) = false := decide_eq_false (by omega)
    clear hr1 hr2
    go_wp2_with fail
    refine h2.mono ?_
    rintro x w3 ⟨rfl, hK3, hu3⟩
    have HB3 : Hid _ := feet_below HB2.out HF.out hu3
    have HK3 : Hid _ := hK3
    clear hK3 hu3 h2 HB2
    go_wp2_with fail
    refine (Di.block_row 32 v w3).mono ?_
    rintro x w4 ⟨u, rfl, hr4, hb4⟩
    have hws := aw_block v
    have HB4 : Hid (Below w.heap.size w w4) := HB3.out.trans (hb4.mono HB3.out.size)
    have hK4 := HK3.out.below hb4
    have HBk : Hid (∀ W : World, Calls Try.prog 9 #[.int .i64 32, .int .u64 v] W fun e w' => ∃ u, e = .returned u ∧ URow W.heap.size w' u (Di.blk v (Di.cnt 32)) ∧ Below W.heap.size W w') := fun W => Di.block_row 32 v W
    generalize Di.blk v (Di.cnt 32) = ws at *
    have h4 := xput_at hK4 1 1 2 ⟨by decide, by decide⟩ hr4
    rw [(sh_put1 r L0 ws hws).1, (sh_put1 r L0 ws hws).2] at h4
    have HL : Hid _ := hws
    clear HB3 HK3 hb4 hK4 hr4 hws
    go_wp2_with fail
    refine h4.mono ?_
    rintro x w5 ⟨rfl, hK5, hu5⟩
    have HB5 : Hid _ := feet_below HB4.out HF.out hu5
    obtain ⟨rd, hrd⟩ : ∃ b, (bits .and .i64 r 1 != 0) = b := ⟨_, rfl⟩
    obtain ⟨wt, hwt⟩ : ∃ b, (bits .and .i64 r 2 != 0) = b := ⟨_, rfl⟩
    cases rd with
    | false =>
      cases wt with
      | false =>
        have h5 := xget_at hK5 2 1 2 ⟨by decide, by decide⟩ (by decide)
        obtain ⟨q1, q2, q3⟩ : getRr (Ts r) 2 1 2 = 104 ∧ getWw (Ts r) (putL L0 2 ws) (V0 4) 2 1 2 = [] ∧ getLl (Ts r) (putL L0 2 ws) (V0 4) 2 1 2 = putL L0 2 ws := sh_get r L0 (V0 4) ws false hrd
        rw [q1, q2, q3] at h5
        have HRD : Hid _ := hrd
        have HWT : Hid _ := hwt
        clear HB4 hu5 hK5 h4 hrd hwt q1 q2 q3
        go_wp2_with fail
        refine h5.mono ?_
        rintro x w6 ⟨v6, rfl, hr6, hK6, hu6⟩
        have HB6 : Hid _ := feet_below HB5.out HF.out hu6
        have HR6 : Hid (URow w5.heap.size w6 v6 []) := hr6
        have HK6 : Hid _ := hK6
        clear HB5 hu6 hK6 h5 hr6
        go_wp2_with fail
        refine (Di.block_row 32 _ w6).mono ?_
        rintro x w7 ⟨u7, rfl, hr7, hb7⟩
        have HB7 : Hid (Below w.heap.size w w7) := HB6.out.trans (hb7.mono HB6.out.size)
        have HR7 : Hid (URow w5.heap.size w7 v6 []) := URow.keepB HR6.out hb7
        have hK7 := HK6.out.below hb7
        have h7 := xput_at hK7 2 1 1 ⟨by decide, by decide⟩ hr7
        have q1 : putRr (Ts r) 2 1 1 (Di.blk (IntKind.u64.wrap (v + 1)) (Di.cnt 32)).length = 104 := sh_put2 r (putL L0 2 ws) _ (aw_block _) false HWT.out
        rw [q1] at h7
        generalize putLl (Ts r) (putL L0 2 ws) 2 1 1 _ = l7 at h7
        have HK7 : Hid _ := hK7
        clear HB6 HK6 HR6 hb7 hK7 hr7 q1
        go_wp2_with fail
        refine h7.mono ?_
        rintro x w8 ⟨rfl, hK8, hu8⟩
        have HB8 : Hid _ := feet_below HB7.out HF.out hu8
        have HR8 : Hid (URow w5.heap.size w8 v6 []) := URow.keepT HR7.out hu8 HK7.out.noW
        have h8 := xrevoke_at hK8 1 1
        rw [(sh_rev r).1] at h8
        have HK8 : Hid _ := hK8
        have i1 := HRD.out
        have i2 := HWT.out
        clear HB7 HK7 HR7 hu8 hK8 h7
        go_wp2_with fail
        refine h8.mono ?_
        rintro x w9 ⟨rfl, hK9, hu9⟩
        have HB9 : Hid _ := feet_below HB8.out HF.out hu9
        have HR9 : Hid (URow w5.heap.size w9 v6 []) := URow.keepT HR8.out hu9 HK8.out.noW
        have h9 := xget_at hK9 2 1 2 ⟨by decide, by decide⟩ (by decide)
        rw [((sh_rev r).2 L0 []).1, ((sh_rev r).2 _ _).2.1, ((sh_rev r).2 _ _).2.2] at h9
        have HK9 : Hid _ := hK9
        clear HB8 HK8 HR8 hu9 hK9 h8 i1 i2 HRD HWT
        go_wp2_with fail
        refine h9.mono ?_
        rintro x w10 ⟨v10, rfl, -, -, hu10⟩
        have HB10 : Hid _ := feet_below HB9.out HF.out hu10
        have HR10 : Hid (URow w5.heap.size w10 v6 []) := URow.keepT HR9.out hu10 HK9.out.noW
        clear HB9 HK9 HR9 hu10 h9
        have HB12 : Hid _ := HB10.out
        go_wp2_with fail
        refine (Go.Proofs.Ytfnafjddajgahab.awake_at _).mono ?_
        rintro x w13 ⟨rfl, hb13⟩
        go_wp2
        go_ret
        exact ⟨rfl, HB12.out.trans (hb13.mono HB12.out.size)⟩
      | true =>
        have h5 := xget_at hK5 2 1 2 ⟨by decide, by decide⟩ (by decide)
        obtain ⟨q1, q2, q3⟩ : getRr (Ts r) 2 1 2 = 104 ∧ getWw (Ts r) (putL L0 2 ws) (V0 4) 2 1 2 = [] ∧ getLl (Ts r) (putL L0 2 ws) (V0 4) 2 1 2 = putL L0 2 ws := sh_get r L0 (V0 4) ws false hrd
        rw [q1, q2, q3] at h5
        have HRD : Hid _ := hrd
        have HWT : Hid _ := hwt
        clear HB4 hu5 hK5 h4 hrd hwt q1 q2 q3
        go_wp2_with fail
        refine h5.mono ?_
        rintro x w6 ⟨v6, rfl, hr6, hK6, hu6⟩
        have HB6 : Hid _ := feet_below HB5.out HF.out hu6
        have HR6 : Hid (URow w5.heap.size w6 v6 []) := hr6
        have HK6 : Hid _ := hK6
        clear HB5 hu6 hK6 h5 hr6
        go_wp2_with fail
        refine (Di.block_row 32 _ w6).mono ?_
        rintro x w7 ⟨u7, rfl, hr7, hb7⟩
        have HB7 : Hid (Below w.heap.size w w7) := HB6.out.trans (hb7.mono HB6.out.size)
        have HR7 : Hid (URow w5.heap.size w7 v6 []) := URow.keepB HR6.out hb7
        have hK7 := HK6.out.below hb7
        have h7 := xput_at hK7 2 1 1 ⟨by decide, by decide⟩ hr7
        have q1 : putRr (Ts r) 2 1 1 (Di.blk (IntKind.u64.wrap (v + 1)) (Di.cnt 32)).length = 0 := sh_put2 r (putL L0 2 ws) _ (aw_block _) true HWT.out
        rw [q1] at h7
        generalize putLl (Ts r) (putL L0 2 ws) 2 1 1 _ = l7 at h7
        have HK7 : Hid _ := hK7
        clear HB6 HK6 HR6 hb7 hK7 hr7 q1
        go_wp2_with fail
        refine h7.mono ?_
        rintro x w8 ⟨rfl, hK8, hu8⟩
        have HB8 : Hid _ := feet_below HB7.out HF.out hu8
        have HR8 : Hid (URow w5.heap.size w8 v6 []) := URow.keepT HR7.out hu8 HK7.out.noW
        have h8 := xrevoke_at hK8 1 1
        rw [(sh_rev r).1] at h8
        have HK8 : Hid _ := hK8
        have i1 := HRD.out
        have i2 := HWT.out
        clear HB7 HK7 HR7 hu8 hK8 h7
        go_wp2_with fail
        refine h8.mono ?_
        rintro x w9 ⟨rfl, hK9, hu9⟩
        have HB9 : Hid _ := feet_below HB8.out HF.out hu9
        have HR9 : Hid (URow w5.heap.size w9 v6 []) := URow.keepT HR8.out hu9 HK8.out.noW
        have h9 := xget_at hK9 2 1 2 ⟨by decide, by decide⟩ (by decide)
        rw [((sh_rev r).2 L0 []).1, ((sh_rev r).2 _ _).2.1, ((sh_rev r).2 _ _).2.2] at h9
        have HK9 : Hid _ := hK9
        clear HB8 HK8 HR8 hu9 hK9 h8 i1 i2 HRD HWT
        go_wp2_with fail
        refine h9.mono ?_
        rintro x w10 ⟨v10, rfl, -, -, hu10⟩
        have HB10 : Hid _ := feet_below HB9.out HF.out hu10
        have HR10 : Hid (URow w5.heap.size w10 v6 []) := URow.keepT HR9.out hu10 HK9.out.noW
        clear HB9 HK9 HR9 hu10 h9
        have HB12 : Hid _ := HB10.out
        go_wp2_with fail
        refine (Go.Proofs.Ytfnafjddajgahab.awake_at _).mono ?_
        rintro x w13 ⟨rfl, hb13⟩
        go_wp2
        go_ret
        exact ⟨rfl, HB12.out.trans (hb13.mono HB12.out.size)⟩
    | true =>
      cases wt with
      | false =>
        have h5 := xget_at hK5 2 1 2 ⟨by decide, by decide⟩ (by decide)
        obtain ⟨q1, q2, q3⟩ : getRr (Ts r) 2 1 2 = 0 ∧ getWw (Ts r) (putL L0 2 ws) (V0 4) 2 1 2 = ws ∧ getLl (Ts r) (putL L0 2 ws) (V0 4) 2 1 2 = putL L0 2 ws := sh_get r L0 (V0 4) ws true hrd
        rw [q1, q2, q3] at h5
        have HRD : Hid _ := hrd
        have HWT : Hid _ := hwt
        clear HB4 hu5 hK5 h4 hrd hwt q1 q2 q3
        go_wp2_with fail
        refine h5.mono ?_
        rintro x w6 ⟨v6, rfl, hr6, hK6, hu6⟩
        have HB6 : Hid _ := feet_below HB5.out HF.out hu6
        have HR6 : Hid (URow w5.heap.size w6 v6 ws) := hr6
        have HK6 : Hid _ := hK6
        clear HB5 hu6 hK6 h5 hr6
        go_wp2_with fail
        refine (Di.block_row 32 _ w6).mono ?_
        rintro x w7 ⟨u7, rfl, hr7, hb7⟩
        have HB7 : Hid (Below w.heap.size w w7) := HB6.out.trans (hb7.mono HB6.out.size)
        have HR7 : Hid (URow w5.heap.size w7 v6 ws) := URow.keepB HR6.out hb7
        have hK7 := HK6.out.below hb7
        have h7 := xput_at hK7 2 1 1 ⟨by decide, by decide⟩ hr7
        have q1 : putRr (Ts r) 2 1 1 (Di.blk (IntKind.u64.wrap (v + 1)) (Di.cnt 32)).length = 104 := sh_put2 r (putL L0 2 ws) _ (aw_block _) false HWT.out
        rw [q1] at h7
        generalize putLl (Ts r) (putL L0 2 ws) 2 1 1 _ = l7 at h7
        have HK7 : Hid _ := hK7
        clear HB6 HK6 HR6 hb7 hK7 hr7 q1
        go_wp2_with fail
        refine h7.mono ?_
        rintro x w8 ⟨rfl, hK8, hu8⟩
        have HB8 : Hid _ := feet_below HB7.out HF.out hu8
        have HR8 : Hid (URow w5.heap.size w8 v6 ws) := URow.keepT HR7.out hu8 HK7.out.noW
        have h8 := xrevoke_at hK8 1 1
        rw [(sh_rev r).1] at h8
        have HK8 : Hid _ := hK8
        have i1 := HRD.out
        have i2 := HWT.out
        clear HB7 HK7 HR7 hu8 hK8 h7
        go_wp2_with fail
        refine h8.mono ?_
        rintro x w9 ⟨rfl, hK9, hu9⟩
        have HB9 : Hid _ := feet_below HB8.out HF.out hu9
        have HR9 : Hid (URow w5.heap.size w9 v6 ws) := URow.keepT HR8.out hu9 HK8.out.noW
        have h9 := xget_at hK9 2 1 2 ⟨by decide, by decide⟩ (by decide)
        rw [((sh_rev r).2 L0 []).1, ((sh_rev r).2 _ _).2.1, ((sh_rev r).2 _ _).2.2] at h9
        have HK9 : Hid _ := hK9
        clear HB8 HK8 HR8 hu9 hK9 h8 i1 i2 HRD HWT
        go_wp2_with fail
        refine h9.mono ?_
        rintro x w10 ⟨v10, rfl, -, -, hu10⟩
        have HB10 : Hid _ := feet_below HB9.out HF.out hu10
        have HR10 : Hid (URow w5.heap.size w10 v6 ws) := URow.keepT HR9.out hu10 HK9.out.noW
        clear HB9 HK9 HR9 hu10 h9
        go_wp2_with fail
        refine (HBk.out w10).mono ?_
        rintro x w11 ⟨u11, rfl, hr11, hb11⟩
        have HB11 : Hid (Below w.heap.size w w11) := HB10.out.trans (hb11.mono HB10.out.size)
        have hw := Di.words_same w5.heap.size w10.heap.size _ _ ws w11 (URow.keepB HR10.out hb11) hr11 (by rw [HL.out]; omega)
        clear hr11 hb11 HB10 HR10
        go_wp2_with fail
        refine hw.mono ?_
        rintro x w12 ⟨rfl, hq⟩
        have hb12 := Di.drewN_below hq
        have HB12 : Hid (Below w.heap.size w w12) := HB11.out.trans (hb12.mono HB11.out.size)
        clear hq hb12 hw
        go_wp2_with fail
        refine (Go.Proofs.Ytfnafjddajgahab.awake_at _).mono ?_
        rintro x w13 ⟨rfl, hb13⟩
        go_wp2
        go_ret
        exact ⟨rfl, HB12.out.trans (hb13.mono HB12.out.size)⟩
      | true =>
        have h5 := xget_at hK5 2 1 2 ⟨by decide, by decide⟩ (by decide)
        obtain ⟨q1, q2, q3⟩ : getRr (Ts r) 2 1 2 = 0 ∧ getWw (Ts r) (putL L0 2 ws) (V0 4) 2 1 2 = ws ∧ getLl (Ts r) (putL L0 2 ws) (V0 4) 2 1 2 = putL L0 2 ws := sh_get r L0 (V0 4) ws true hrd
        rw [q1, q2, q3] at h5
        have HRD : Hid _ := hrd
        have HWT : Hid _ := hwt
        clear HB4 hu5 hK5 h4 hrd hwt q1 q2 q3
        go_wp2_with fail
        refine h5.mono ?_
        rintro x w6 ⟨v6, rfl, hr6, hK6, hu6⟩
        have HB6 : Hid _ := feet_below HB5.out HF.out hu6
        have HR6 : Hid (URow w5.heap.size w6 v6 ws) := hr6
        have HK6 : Hid _ := hK6
        clear HB5 hu6 hK6 h5 hr6
        go_wp2_with fail
        refine (Di.block_row 32 _ w6).mono ?_
        rintro x w7 ⟨u7, rfl, hr7, hb7⟩
        have HB7 : Hid (Below w.heap.size w w7) := HB6.out.trans (hb7.mono HB6.out.size)
        have HR7 : Hid (URow w5.heap.size w7 v6 ws) := URow.keepB HR6.out hb7
        have hK7 := HK6.out.below hb7
        have h7 := xput_at hK7 2 1 1 ⟨by decide, by decide⟩ hr7
        have q1 : putRr (Ts r) 2 1 1 (Di.blk (IntKind.u64.wrap (v + 1)) (Di.cnt 32)).length = 0 := sh_put2 r (putL L0 2 ws) _ (aw_block _) true HWT.out
        rw [q1] at h7
        generalize putLl (Ts r) (putL L0 2 ws) 2 1 1 _ = l7 at h7
        have HK7 : Hid _ := hK7
        clear HB6 HK6 HR6 hb7 hK7 hr7 q1
        go_wp2_with fail
        refine h7.mono ?_
        rintro x w8 ⟨rfl, hK8, hu8⟩
        have HB8 : Hid _ := feet_below HB7.out HF.out hu8
        have HR8 : Hid (URow w5.heap.size w8 v6 ws) := URow.keepT HR7.out hu8 HK7.out.noW
        have h8 := xrevoke_at hK8 1 1
        rw [(sh_rev r).1] at h8
        have HK8 : Hid _ := hK8
        have i1 := HRD.out
        have i2 := HWT.out
        clear HB7 HK7 HR7 hu8 hK8 h7
        go_wp2_with fail
        refine h8.mono ?_
        rintro x w9 ⟨rfl, hK9, hu9⟩
        have HB9 : Hid _ := feet_below HB8.out HF.out hu9
        have HR9 : Hid (URow w5.heap.size w9 v6 ws) := URow.keepT HR8.out hu9 HK8.out.noW
        have h9 := xget_at hK9 2 1 2 ⟨by decide, by decide⟩ (by decide)
        rw [((sh_rev r).2 L0 []).1, ((sh_rev r).2 _ _).2.1, ((sh_rev r).2 _ _).2.2] at h9
        have HK9 : Hid _ := hK9
        clear HB8 HK8 HR8 hu9 hK9 h8 i1 i2 HRD HWT
        go_wp2_with fail
        refine h9.mono ?_
        rintro x w10 ⟨v10, rfl, -, -, hu10⟩
        have HB10 : Hid _ := feet_below HB9.out HF.out hu10
        have HR10 : Hid (URow w5.heap.size w10 v6 ws) := URow.keepT HR9.out hu10 HK9.out.noW
        clear HB9 HK9 HR9 hu10 h9
        go_wp2_with fail
        refine (HBk.out w10).mono ?_
        rintro x w11 ⟨u11, rfl, hr11, hb11⟩
        have HB11 : Hid (Below w.heap.size w w11) := HB10.out.trans (hb11.mono HB10.out.size)
        have hw := Di.words_same w5.heap.size w10.heap.size _ _ ws w11 (URow.keepB HR10.out hb11) hr11 (by rw [HL.out]; omega)
        clear hr11 hb11 HB10 HR10
        go_wp2_with fail
        refine hw.mono ?_
        rintro x w12 ⟨rfl, hq⟩
        have hb12 := Di.drewN_below hq
        have HB12 : Hid (Below w.heap.size w w12) := HB11.out.trans (hb12.mono HB11.out.size)
        clear hq hb12 hw
        go_wp2_with fail
        refine (Go.Proofs.Ytfnafjddajgahab.awake_at _).mono ?_
        rintro x w13 ⟨rfl, hb13⟩
        go_wp2
        go_ret
        exact ⟨rfl, HB12.out.trans (hb13.mono HB12.out.size)⟩

theorem own : ownKnob Try.prog.godebug = none := by kernel_rfl
theorem laidOut : laidOutB Try.prog = true := by kernel_rfl

set_option maxRecDepth 100000 in
theorem shares_lifted (os : Os) (started : os.Started) (H : Type) (enc : TypeId × Value → H) :
    ReturnsInHanded {} Try.checked os 5 .any (Rows.exodiskSharesSpec.pre6 enc Try.prog Try.f5 Rows.exodiskSharesRow.domain false) (Rows.exodiskSharesSpec.post enc Try.prog Try.f5 false true false false) := by
  refine returnsInHanded_of_change (C := Try.checked) own started (by kernel_rfl) Try.func5
    (ChangeSpec.witness6 (enc := enc) (C := Try.checked) false ⟨#[], #[.int .i64 0, .int .u64 0], []⟩ 8 (by kernel_rfl) (by kernel_rfl) (by kernel_rfl) (by kernel_rfl)) ?_
  intro W base args ds gs before hval0 hW hcnd _
  have hval : ∀ (j : Nat) t v, Try.f5.params[j]? = some t → args[j]? = some v → Value.okWide Try.prog W .any base t v := hval0
  have hW' := hW
  obtain ⟨p, q, hA0, hV, rfl, hfz, hnd⟩ := hW
  have hA : DataW.TrodAll enc Try.prog W 0 (fun _ => true) true Try.f5.params.toList args.toList ds p := hA0
  rw [Try.params5] at hA hval
  obtain ⟨v0, vs0, d0, ds0, p0, q0, hargs, rfl, rfl, h0, r0⟩ := trodAll_cons hA
  obtain ⟨v1, vs1, d1, ds1, p1, q1, rfl, rfl, rfl, h1, r1⟩ := trodAll_cons r0
  obtain ⟨rfl, rfl, rfl⟩ := trodAll_nil r1
  obtain rfl : args = #[v0, v1] := by cases args; simp_all
  obtain ⟨rfl, rfl⟩ := trodVars_none hV
  obtain ⟨a0, rfl, rfl, rfl, w0⟩ := open_int Try.underlying3 (hval 0 3 v0 rfl rfl) h0
  obtain ⟨a1, rfl, rfl, rfl, w1⟩ := open_int Try.underlying30 (hval 1 30 v1 rfl rfl) h1
  clear hA0 hval0
  have hwalk : Calls Try.prog 5 #[.int .i64 a0, .int .u64 a1] W fun e w' => e = .returned (.bool true) ∧ Below W.heap.size W w' := shares_walk a0 a1 W
  refine hwalk.mono fun e W' ⟨he, bel⟩ => ?_
  subst he
  exact ⟨_, rfl, _, _, _, [], _, [], hW', trodAll_mk1 (shut_bool Try.underlying4 _), (trodAll_cons_mk (shut_int Try.underlying3 w0) (trodAll_cons_mk (shut_int Try.underlying30 w1) trodAll_mk0)), rfl, bel.frame _, fun h => by cases h⟩

theorem shares_holds : Rows.ExodiskSharesSaid :=
  OpenClaim.holds_of_wide 5 Try.f5 rfl rfl rfl rfl rfl rfl rfl ⟨rfl, rfl, rfl, rfl, rfl⟩ rfl rfl rfl rfl rfl (by kernel_rfl) Try.func5 (by kernel_rfl)
    (of_decide_eq_true (by kernel_rfl)) (by unfold Func.isWrapper; first | (rw [if_pos (by decide +kernel)]; kernel_rfl) | (rw [if_neg (by decide +kernel)]; exact ⟨rfl, rfl⟩))
    (fun os started H enc _ => shares_lifted os started H enc)
#print axioms shares_holds
end Go.Proofs.Ytfnafjddajgahab
