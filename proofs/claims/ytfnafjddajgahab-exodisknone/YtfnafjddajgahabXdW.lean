/- The chapter's examples (januslaw12.awake) answer true; a kernel that is none. -/
import Derived.Test.YtfnafjddajgahabXdG
namespace Go.Proofs.Ytfnafjddajgahab
open Go.RowKit Ca
set_option linter.unusedVariables false

abbrev T0 : Tab := fun _ => Hd.no
abbrev V0 (n : Nat) : List Int := List.replicate (n * 32) 0
/-- The slots when environment e has had k blocks from f on, as the first. -/
def Tf (e : Nat) (f k : Int) : Tab := T0.set (e * 64) ⟨⟨2, f, k, 7⟩, 0, 0⟩
theorem hold_T0 (i : Int) : holdTo T0 2 i 12 = [] := by
  unfold holdTo
  rw [List.map_eq_nil_iff, List.filter_eq_nil_iff]
  intro m _ hh
  have : hasN T0 m 2 i 0 = false := hasN_miss (fun s _ => rfl)
  rw [this] at hh
  cases hh
theorem any_T0 (f : Int) : ∀ k, anyX T0 f k = false
  | 0 => rfl
  | k + 1 => by unfold anyX; rw [any_T0 f k, hold_T0]; rfl
theorem free_T0 (e : Nat) : freeT T0 e = 0 := by
  unfold freeT
  rfl
theorem first_alloc (n e : Nat) (he : e < 12) (hn : n ≤ 1024) (f k : Int) (h1 : 1 ≤ k) (h0 : 0 ≤ f) (h2 : f + k ≤ n) : xallocA T0 n e f k = 1 ∧ xallocR T0 n e f k = 0 ∧ xallocT T0 n e f k = Tf e f k := by
  have hE : isE e = true := by simp [isE]; omega
  have hA : areX n f k = true := by simp [areX]; omega
  have hM : mayB ⟨2, f, k, 7⟩ = true := by
    simp [mayB, longOk, areR]
    omega
  have hO : addOK e ⟨2, f, k, 7⟩ = true := by unfold addOK; rw [hE, hM]; rfl
  unfold xallocA xallocR xallocT
  rw [hE, hA, any_T0]
  simp only [Bool.and_self, if_true]
  unfold addA addR addT
  rw [hO]
  simp only [if_true, Int.toNat_natCast]
  unfold putA putE putT
  rw [free_T0]
  exact ⟨rfl, rfl, rfl⟩
theorem LInv.put0 (n b : Nat) (ws : List Int) (h : ws.length = 32) : LInv n (putL L0 b ws) := (LInv.zero n).set _ _ _ h
theorem getL_put (l : Lines) (vs : List Int) (b : Nat) (ws : List Int) : lookW (putL l b ws) vs b = ws ∧ getL (putL l b ws) vs b = putL l b ws := by
  have h1 : lookW (putL l b ws) vs b = ws := by unfold lookW putL; rw [Lines.set_same]; rfl
  refine ⟨h1, ?_⟩
  unfold getL
  rw [h1]
  funext i
  by_cases e : i = b
  · subst e; rw [Lines.set_same]; unfold putL; rw [Lines.set_same]
  · rw [Lines.set_other _ _ _ _ e]
theorem aw_put (ws : List Int) (h : ws.length = 32) : putRr (Tf 1 2 3) 1 1 4 ws.length = 0 ∧ putLl (Tf 1 2 3) L0 1 1 4 ws = putL L0 4 ws := by
  have hm : mayX (Tf 1 2 3) 1 1 4 2 = true := by kernel_rfl
  unfold putRr putLl
  rw [hm, h]
  exact ⟨rfl, rfl⟩
theorem aw_get (ws : List Int) : getRr (Tf 1 2 3) 1 1 4 = 0 ∧ getWw (Tf 1 2 3) (putL L0 4 ws) (V0 8) 1 1 4 = ws ∧ getLl (Tf 1 2 3) (putL L0 4 ws) (V0 8) 1 1 4 = putL L0 4 ws := by
  have hm : mayX (Tf 1 2 3) 1 1 4 1 = true := by kernel_rfl
  unfold getRr getWw getLl
  rw [hm]
  exact ⟨rfl, (getL_put L0 (V0 8) 4 ws).1, (getL_put L0 (V0 8) 4 ws).2⟩
theorem aw_disk : diskW 8 (V0 8) 4 = List.replicate 32 0 := by kernel_rfl
theorem aw_sync (ws : List Int) : syncN (putL L0 4 ws) 8 = 1 := by kernel_rfl
theorem aw_synced (ws : List Int) (h : ws.length = 32) : diskW 8 (syncV (putL L0 4 ws) (V0 8) 8) 4 = ws ∧ lookW (syncL (putL L0 4 ws) 8) (syncV (putL L0 4 ws) (V0 8) 8) 4 = ws := by
  have h1 := syncV_frame (LInv.put0 8 4 ws h) (vs := V0 8) (by simp) 4 (by omega) 8 (by omega)
  refine ⟨?_, rfl⟩
  have h2 : diskW 8 (syncV (putL L0 4 ws) (V0 8) 8) 4 = frameOf (syncV (putL L0 4 ws) (V0 8) 8) 4 := by
    unfold diskW
    rw [if_pos (by decide)]
    rfl
  rw [h2, h1]
  rfl
theorem aw_no (l : Lines) (vs : List Int) : getRr (Tf 1 2 3) 1 1 5 = 104 ∧ getWw (Tf 1 2 3) l vs 1 1 5 = [] ∧ getLl (Tf 1 2 3) l vs 1 1 5 = l := by
  have hm : mayX (Tf 1 2 3) 1 1 5 1 = false := by kernel_rfl
  unfold getRr getWw getLl
  rw [hm]
  exact ⟨rfl, rfl, rfl⟩
theorem aw_again : xallocA (Tf 1 2 3) 8 2 4 1 = 0 ∧ xallocR (Tf 1 2 3) 8 2 4 1 = 104 ∧ xallocT (Tf 1 2 3) 8 2 4 1 = Tf 1 2 3 := by
  have hy : anyX (Tf 1 2 3) 4 (Int.toNat 1) = true := by kernel_rfl
  have hE : (isE 2 && areX 8 4 1) = true := by kernel_rfl
  unfold xallocA xallocR xallocT
  rw [hE, hy]
  exact ⟨rfl, rfl, rfl⟩
theorem aw_find : findR (Tf 1 2 3) 1 1 2 1 = 0 ∧ findA (Tf 1 2 3) 1 1 2 1 = 4 ∧ findR (Tf 1 2 3) 1 1 3 1 = 101 := ⟨by kernel_rfl, by kernel_rfl, by kernel_rfl⟩
theorem aw_block (v : Int) : (Di.blk v (Di.cnt 32)).length = 32 := by rw [Di.blk_len]; decide

/-- What calls of a kernel that was made behind w leave of w. -/
theorem feet_below {w W W' : World} {Y : Yd} (h : Below w.heap.size w W) (hf : ∀ b, XFoot Y b → w.heap.size ≤ b) (hu : UpdP (XFoot Y) W W') : Below w.heap.size w W' := h.trans (hu.below hf h.size)
theorem URow.keepB {M : Nat} {w w' : World} {v : Value} {xs : List Int} (h : URow M w v xs) (hb : Below w.heap.size w w') : URow M w' v xs :=
  h.keepT (UpdP.of_below (P := fun _ => False) hb) (fun _ q => q.elim)
theorem URow.first {M g cap : Nat} {w : World} {ws : List Int} {x : Int} (h : URow M w (.slice (some ⟨g, 0, none⟩) 32 cap) ws) (h0 : ws[0]? = some x) : w.cell? ⟨g, 0, none⟩ = some (.int .u64 x) := by
  obtain ⟨a, c, e, _, _, hf⟩ := h
  obtain ⟨g', cur, rfl, _, hh, hc⟩ := hf (by intro e; rw [e] at h0; simp at h0)
  simp only [Value.slice.injEq, Option.some.injEq, Addr.mk.injEq] at e
  obtain ⟨⟨rfl, _⟩, _⟩ := e
  rw [cell_of_heap hh]
  exact hc 0 x h0

set_option maxRecDepth 100000 in
set_option maxHeartbeats 4000000 in
theorem awake_at (w : World) :
    Calls Try.prog 13 #[] w fun e w' => e = .returned (.bool true) ∧ Below w.heap.size w w' := by
  go_enter Try.func13, Try.ntmps13
  go_wp2_with fail
  refine (xnew_at 8 w (by decide) (by decide)).mono ?_
  rintro x w1 ⟨K, Y, rfl, hK0, hb, _, hft⟩
  have hK1 : KAt w1 K Y 8 0 (V0 8) L0 T0 := hK0
  have HB1 : Hid _ := hb
  have HF : Hid _ := hft
  clear hK0 hb hft
  have h1 := xalloc_at hK1 1 2 3 ⟨by decide, by decide⟩ ⟨by decide, by decide⟩
  obtain ⟨e1, e2, e3⟩ := first_alloc 8 1 (by decide) (by decide) 2 3 (by decide) (by decide) (by decide)
  replace e1 : xallocA T0 8 1 2 3 = 1 := e1
  replace e2 : xallocR T0 8 1 2 3 = 0 := e2
  replace e3 : xallocT T0 8 1 2 3 = Tf 1 2 3 := e3
  rw [e1, e2, e3] at h1
  clear e1 e2 e3 hK1
  go_wp2_with fail
  refine h1.mono ?_
  rintro x w2 ⟨rfl, hK2, hu2⟩
  have HB2 : Hid _ := feet_below HB1.out HF.out hu2
  have HK2 : Hid _ := hK2
  clear HB1 hu2 hK2 h1
  go_wp2_with fail
  refine (Di.block_row 32 5 w2).mono ?_
  rintro x w3 ⟨u, rfl, hr3, hb3⟩
  have hws := aw_block 5
  have hw0 : (Di.blk 5 (Di.cnt 32))[0]? = some 5 := by kernel_rfl
  have HB3 : Hid (Below w.heap.size w w3) := HB2.out.trans (hb3.mono HB2.out.size)
  have hK3 := HK2.out.below hb3
  generalize Di.blk 5 (Di.cnt 32) = ws at *
  have h3 := xput_at hK3 1 1 4 ⟨by decide, by decide⟩ hr3
  rw [(aw_put ws hws).1, (aw_put ws hws).2] at h3
  have HL : Hid _ := hws
  have H0 : Hid _ := hw0
  clear HB2 HK2 hb3 hK3 hr3 hws hw0
  go_wp2_with fail
  refine h3.mono ?_
  rintro x w4 ⟨rfl, hK4, hu4⟩
  have HB4 : Hid _ := feet_below HB3.out HF.out hu4
  have h4 := xget_at hK4 1 1 4 ⟨by decide, by decide⟩ (by decide)
  rw [(aw_get ws).1, (aw_get ws).2.1, (aw_get ws).2.2] at h4
  clear HB3 hu4 hK4 h3
  go_wp2_with fail
  refine h4.mono ?_
  rintro x w5 ⟨vw, rfl, hr5, hK5, hu5⟩
  obtain ⟨gw, cw, rfl, -⟩ := hr5.has HL.out
  have HB5 : Hid _ := feet_below HB4.out HF.out hu5
  have h5 := xdisk_at hK5 4 (by decide)
  rw [aw_disk] at h5
  have HK5 : Hid _ := hK5
  have HR5 : Hid (URow w4.heap.size w5 (.slice (some ⟨gw, 0, none⟩) 32 cw) ws) := hr5
  clear HB4 hu5 hK5 h4 hr5
  go_wp2_with fail
  refine h5.mono ?_
  rintro x w6 ⟨vx, rfl, hr6, hK6, hu6⟩
  obtain ⟨gx, cx, rfl, -⟩ := hr6.has (by simp)
  have HB6 : Hid _ := feet_below HB5.out HF.out hu6
  have HW6 : Hid (URow w4.heap.size w6 (.slice (some ⟨gw, 0, none⟩) 32 cw) ws) := URow.keepT HR5.out hu6 HK5.out.noW
  have h6 := xsync_at hK6 (by decide)
  rw [aw_sync] at h6
  have HK6 : Hid _ := hK6
  have HX6 : Hid (URow w5.heap.size w6 (.slice (some ⟨gx, 0, none⟩) 32 cx) (List.replicate 32 0)) := hr6
  clear HB5 hu6 hK6 h5 hr6 HR5 HK5
  go_wp2_with fail
  refine h6.mono ?_
  rintro x w7 ⟨rfl, hK7, hu7⟩
  have HB7 : Hid _ := feet_below HB6.out HF.out hu7
  have HW7 : Hid (URow w4.heap.size w7 (.slice (some ⟨gw, 0, none⟩) 32 cw) ws) := URow.keepT HW6.out hu7 HK6.out.noW
  have HX7 : Hid (URow w5.heap.size w7 (.slice (some ⟨gx, 0, none⟩) 32 cx) (List.replicate 32 0)) := URow.keepT HX6.out hu7 HK6.out.noW
  have h7 := xdisk_at hK7 4 (by decide)
  rw [(aw_synced ws HL.out).1] at h7
  have HK7 : Hid _ := hK7
  clear HB6 hu7 hK7 h6 HW6 HX6 HK6
  go_wp2_with fail
  refine h7.mono ?_
  rintro x w8 ⟨vy, rfl, hr8, hK8, hu8⟩
  obtain ⟨gy, cy, rfl, -⟩ := hr8.has HL.out
  have HB8 : Hid _ := feet_below HB7.out HF.out hu8
  have HW8 : Hid (URow w4.heap.size w8 (.slice (some ⟨gw, 0, none⟩) 32 cw) ws) := URow.keepT HW7.out hu8 HK7.out.noW
  have HX8 : Hid (URow w5.heap.size w8 (.slice (some ⟨gx, 0, none⟩) 32 cx) (List.replicate 32 0)) := URow.keepT HX7.out hu8 HK7.out.noW
  have HY8 : Hid (URow w7.heap.size w8 (.slice (some ⟨gy, 0, none⟩) 32 cy) ws) := hr8
  have h8 := xget_at hK8 1 1 5 ⟨by decide, by decide⟩ (by decide)
  rw [(aw_no L0 []).1, (aw_no _ _).2.1, (aw_no _ _).2.2] at h8
  have HK8 : Hid _ := hK8
  clear HB7 hu8 hK8 h7 HW7 HX7 HK7 hr8
  go_wp2_with fail
  refine h8.mono ?_
  rintro x w9 ⟨v9, rfl, hr9, hK9, hu9⟩
  have HB9 : Hid _ := feet_below HB8.out HF.out hu9
  have HW9 : Hid (URow w4.heap.size w9 (.slice (some ⟨gw, 0, none⟩) 32 cw) ws) := URow.keepT HW8.out hu9 HK8.out.noW
  have HX9 : Hid (URow w5.heap.size w9 (.slice (some ⟨gx, 0, none⟩) 32 cx) (List.replicate 32 0)) := URow.keepT HX8.out hu9 HK8.out.noW
  have HY9 : Hid (URow w7.heap.size w9 (.slice (some ⟨gy, 0, none⟩) 32 cy) ws) := URow.keepT HY8.out hu9 HK8.out.noW
  have h9 := xalloc_at hK9 2 4 1 ⟨by decide, by decide⟩ ⟨by decide, by decide⟩
  rw [aw_again.1, aw_again.2.1, aw_again.2.2] at h9
  have HK9 : Hid _ := hK9
  clear HB8 hu9 hK9 h8 HW8 HX8 HY8 HK8 hr9
  go_wp2_with fail
  refine h9.mono ?_
  rintro x w10 ⟨rfl, hK10, hu10⟩
  have HB10 : Hid _ := feet_below HB9.out HF.out hu10
  have HW10 : Hid (URow w4.heap.size w10 (.slice (some ⟨gw, 0, none⟩) 32 cw) ws) := URow.keepT HW9.out hu10 HK9.out.noW
  have HX10 : Hid (URow w5.heap.size w10 (.slice (some ⟨gx, 0, none⟩) 32 cx) (List.replicate 32 0)) := URow.keepT HX9.out hu10 HK9.out.noW
  have HY10 : Hid (URow w7.heap.size w10 (.slice (some ⟨gy, 0, none⟩) 32 cy) ws) := URow.keepT HY9.out hu10 HK9.out.noW
  have HK10 : Hid _ := hK10
  clear HB9 hu10 hK10 h9 HW9 HX9 HY9 HK9
  go_wp2_with fail
  refine (xview_at K 1 1 w10).mono ?_
  rintro x w11 ⟨rfl, hV, hb11, _⟩
  have HB11 : Hid (Below w.heap.size w w11) := HB10.out.trans (hb11.mono HB10.out.size)
  have HW11 : Hid (URow w4.heap.size w11 (.slice (some ⟨gw, 0, none⟩) 32 cw) ws) := URow.keepB HW10.out hb11
  have HX11 : Hid (URow w5.heap.size w11 (.slice (some ⟨gx, 0, none⟩) 32 cx) (List.replicate 32 0)) := URow.keepB HX10.out hb11
  have HY11 : Hid (URow w7.heap.size w11 (.slice (some ⟨gy, 0, none⟩) 32 cy) ws) := URow.keepB HY10.out hb11
  have hK11 := HK10.out.below hb11
  have h11 := xvget_yes hK11 hV 2 ⟨by decide, by decide⟩ (by decide) aw_find.1
  rw [aw_find.2.1] at h11
  have HK11 : Hid _ := hK11
  have HV11 : Hid (VAt w11 w10.heap.size K 1 1) := hV
  have HNV : Hid _ := hK11.noV hV
  clear HB10 hb11 hK11 HW10 HX10 HY10 HK10 hV
  generalize w10.heap.size = V at *
  go_wp2_with fail
  refine h11.mono ?_
  rintro x w12 ⟨vz, rfl, hr12, hK12, hu12⟩
  have hr12' : URow w11.heap.size w12 vz ws := by
    have := (aw_synced ws HL.out).2
    rw [← this]
    exact hr12
  obtain ⟨gz, cz, rfl, -⟩ := hr12'.has HL.out
  have HB12 : Hid _ := feet_below HB11.out HF.out hu12
  have HW12 : Hid (URow w4.heap.size w12 (.slice (some ⟨gw, 0, none⟩) 32 cw) ws) := URow.keepT HW11.out hu12 HK11.out.noW
  have HX12 : Hid (URow w5.heap.size w12 (.slice (some ⟨gx, 0, none⟩) 32 cx) (List.replicate 32 0)) := URow.keepT HX11.out hu12 HK11.out.noW
  have HY12 : Hid (URow w7.heap.size w12 (.slice (some ⟨gy, 0, none⟩) 32 cy) ws) := URow.keepT HY11.out hu12 HK11.out.noW
  have HZ12 : Hid (URow w11.heap.size w12 (.slice (some ⟨gz, 0, none⟩) 32 cz) ws) := hr12'
  have hV12 : VAt w12 V K 1 1 := VAt.keepP HV11.out hu12 HNV.out
  have h12 := xvget_no hK12 hV12 3 ⟨by decide, by decide⟩ (by rw [aw_find.2.2]; decide)
  rw [aw_find.2.2] at h12
  clear HB11 hu12 hK12 h11 HW11 HX11 HY11 HK11 hr12 hr12' hV12
  go_wp2_with fail
  refine h12.mono ?_
  rintro x w13 ⟨rfl, hb13⟩
  have HB13 : Hid (Below w.heap.size w w13) := HB12.out.trans (hb13.mono HB12.out.size)
  have hW13 : URow w4.heap.size w13 (.slice (some ⟨gw, 0, none⟩) 32 cw) ws := URow.keepB HW12.out hb13
  have hX13 : URow w5.heap.size w13 (.slice (some ⟨gx, 0, none⟩) 32 cx) (List.replicate 32 0) := URow.keepB HX12.out hb13
  have hY13 : URow w7.heap.size w13 (.slice (some ⟨gy, 0, none⟩) 32 cy) ws := URow.keepB HY12.out hb13
  have hZ13 : URow w11.heap.size w13 (.slice (some ⟨gz, 0, none⟩) 32 cz) ws := URow.keepB HZ12.out hb13
  have cw0 := hW13.first H0.out
  have cx0 := hX13.first (x := 0) rfl
  have cy0 := hY13.first H0.out
  have hw := Di.words_same w11.heap.size w4.heap.size _ _ ws w13 hZ13 hW13 (by rw [HL.out]; omega)
  clear HB12 HW12 HX12 HY12 HZ12 hW13 hX13 hY13 hZ13 h12 hb13
  go_wp2_with fail
  refine hw.mono ?_
  rintro x w14 ⟨rfl, hq⟩
  have hb14 := Di.drewN_below hq
  have HB14 : Hid (Below w.heap.size w w14) := HB13.out.trans (hb14.mono HB13.out.size)
  clear hq hb14 hw
  go_wp2
  go_ret
  exact ⟨rfl, HB14.out⟩
end Go.Proofs.Ytfnafjddajgahab
