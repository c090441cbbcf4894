/- Package fds: Decode. -/
import Derived.Test.YtkdbmfckfbmbiaaFdQ
namespace Go.Proofs.Ytkdbmfckfbmbiaa
open Go.RowKit
set_option linter.unusedVariables false

theorem okW_L {ws : List Int} (h : okL ws = false) : okW ws = false := by unfold okW; rw [h]; rfl
theorem okW_F {ws : List Int} (h : okFs ws = false) : okW ws = false := by unfold okW; rw [h]; simp
theorem okW_N {ws : List Int} (h : okNs ws = false) : okW ws = false := by unfold okW; rw [h]; simp
/-- What Decode answers. -/
def DecP (ws : List Int) (w : World) (e : Ending) (w' : World) : Prop :=
  (okW ws = true → ∃ b, e = .returned (.tuple #[.pointer (some ⟨b, 0, none⟩), .int .i64 0]) ∧ w.heap.size ≤ b ∧ FdAt w' b (decS ws)) ∧ (okW ws = false → e = .returned (.tuple #[.pointer none, .int .i64 101])) ∧ Below w.heap.size w w'
theorem DecP.no {ws : List Int} {w w' : World} (h : okW ws = false) (hb : Below w.heap.size w w') : DecP ws w (.returned (.tuple #[.pointer none, .int .i64 101])) w' :=
  ⟨(fun e => by rw [h] at e; cases e), fun _ => rfl, hb⟩
theorem decode_short (a : Option Addr) (cap : Nat) (ws : List Int) (w : World) (hr : Rd w a ws) (hu : U64 ws) (hL : okL ws = false) (hlen : ws.length ≤ 1000000) :
    Calls Try.prog 24 #[.slice a ws.length cap] w (DecP ws w) := by
  have HN : Hid (okW ws = false) := okW_L hL
  by_cases h0 : ws.length = 0
  · have HP : Hid (∀ w', Below w.heap.size w w' → DecP ws w (.returned (.tuple #[.pointer none, .int .i64 101])) w') := fun w' hb => DecP.no HN.out hb
    rw [h0]
    clear hr hu hL hlen h0 HN
    go_enter Try.func24, Try.ntmps24
    go_wp2
    go_ret2
    exact HP.out _ (Below.refl _ _)
  · have hg0 := get_getD (ws := ws) (j := 0) (by omega)
    obtain ⟨g, off, rfl, d0⟩ := hr 0 _ hg0
    obtain ⟨b0, b1⟩ := u64_get hu hg0
    rw [Nat.add_zero] at d0
    have HP : Hid (∀ w', Below w.heap.size w w' → DecP ws w (.returned (.tuple #[.pointer none, .int .i64 101])) w') := fun w' hb => DecP.no HN.out hb
    have e0 : ((ws.length : Int) == 0) = false := beq_false_of_ne (by omega)
    have hl0 : (0 : Int) < (ws.length : Int) := by omega
    by_cases h1 : ws.getD 0 0 ≤ 32
    · have g1 : decide (32 < ws.getD 0 0) = false := decide_eq_false (by omega)
      obtain ⟨n, hn⟩ : ∃ n : Nat, ws.getD 0 0 = n := ⟨(ws.getD 0 0).toNat, by omega⟩
      have hwn : wN ws = n := by unfold wN; rw [hn]; rfl
      have hne : ws.length ≠ 1 + n * 4 + 48 := by
        intro e
        unfold okL at hL
        rw [hwn, decide_eq_true (show 1 ≤ ws.length by omega), decide_eq_true h1, decide_eq_true e] at hL
        cases hL
      rw [hn] at d0 g1 h1
      have hwr : IntKind.i64.wrap (n : Int) = n := by simp [IntKind.wrap, IntKind.bits, IntKind.signed]; omega
      generalize hl : ws.length = l at *
      have gl : ((l : Int) != 1 + (n : Int) * 4 + 48) = true := by simp; omega
      have gl2 : ((l : Int) != (n : Int) * 4 + 49) = true := by simp; omega
      clear hr hu hL hg0 hn hwn hl HN b0 b1 hne
      go_enter Try.func24, Try.ntmps24
      go_wp2
      go_ret2
      exact HP.out _ (Below.refl _ _)
    · have g1 : decide (32 < ws.getD 0 0) = true := decide_eq_true (by omega)
      generalize ws.getD 0 0 = x at *
      generalize ws.length = l at *
      clear hr hu hL hg0 HN
      go_enter Try.func24, Try.ntmps24
      go_wp2
      go_ret2
      exact HP.out _ (Below.refl _ _)
theorem wN_bounds {ws : List Int} (h : okL ws = true) (hu : U64 ws) : wN ws ≤ 32 ∧ ws.getD 0 0 = (wN ws : Int) ∧ ws.length = 1 + wN ws * 4 + 48 := by
  unfold okL at h
  simp only [Bool.and_eq_true, decide_eq_true_eq] at h
  obtain ⟨⟨h1, h2⟩, h3⟩ := h
  have hg0 := get_getD (ws := ws) (j := 0) (by omega)
  have hb := u64_get hu hg0
  unfold wN at *
  exact ⟨by omega, by omega, h3⟩
theorem decS_inv {ws : List Int} (h : okL ws = true) (hu : U64 ws) (hn : okNs ws = true) : Inv (decS ws) := by
  obtain ⟨h1, h2, h3⟩ := wN_bounds h hu
  refine namesTo_inv (filesTo_inv _ _) (filesTo_t _ _) _ 48 (by omega) (fun j hj => ?_)
  unfold okNs okNm at hn
  rw [List.all_eq_true] at hn
  have := hn j (by simpa using hj)
  simp only [decide_eq_true_eq] at this
  omega
set_option maxRecDepth 100000 in
set_option maxHeartbeats 8000000 in
theorem decode_long (a : Option Addr) (cap : Nat) (ws : List Int) (w : World) (hr : Rd w a ws) (hu : U64 ws) (hcap : ws.length ≤ cap) (hL : okL ws = true) :
    Calls Try.prog 24 #[.slice a ws.length cap] w (DecP ws w) := by
  obtain ⟨n32, hd0, hlen⟩ := wN_bounds hL hu
  have hInv := decS_inv hL hu
  obtain ⟨n, hn⟩ : ∃ n, n = wN ws := ⟨_, rfl⟩
  rw [← hn] at n32 hd0 hlen
  obtain ⟨a1, c1, hs1, hc1, hrd1⟩ := cut_wlh ws a ws.length cap 1 (1 + n * 4) rfl (by omega) (by omega) hcap
  obtain ⟨a2, c2, hs2, hc2, hrd2⟩ := cut_wl ws a ws.length cap (1 + n * 4) rfl (by omega) hcap
  have hF1 : (ws.take (1 + n * 4)).drop 1 = wF ws := by unfold wF; rw [hn]
  have hF2 : ws.drop (1 + n * 4) = wT ws := by unfold wT; rw [hn]
  rw [hF1] at hrd1
  rw [hF2] at hrd2
  have hl1 : (wF ws).length = n * 4 := by unfold wF; rw [← hn, List.length_drop, List.length_take]; omega
  have hl2 : (wT ws).length = 48 := by unfold wT; rw [← hn, List.length_drop]; omega
  rw [show 1 + n * 4 - 1 = n * 4 by omega] at hs1 hc1
  rw [show ws.length - (1 + n * 4) = 48 by omega] at hs2 hc2
  have ec : ((1 + n * 4 : Nat) : Int) = 1 + (n : Int) * 4 := by omega
  rw [ec, show ((1 : Nat) : Int) = 1 from rfl] at hs1
  rw [ec] at hs2
  have hu1 : U64 (wF ws) := fun x hx => hu x (List.mem_of_mem_take (List.mem_of_mem_drop (by rw [← hF1] at hx; exact hx)))
  have hu2 : U64 (wT ws) := fun x hx => hu x (List.mem_of_mem_drop (by rw [← hF2] at hx; exact hx))
  have hg0 := get_getD (ws := ws) (j := 0) (by omega)
  obtain ⟨g, off, ea, d0⟩ := hr 0 _ hg0
  rw [Nat.add_zero, hd0] at d0
  obtain ⟨W, hW⟩ : ∃ W, W = w.alloc (.cells Try.zeroCells73 73) := ⟨_, rfl⟩
  have hbW : Below w.heap.size w W := by rw [hW]; exact below_alloc _ _
  have hFW : FdAt W w.heap.size FS.zero := by rw [hW, zc_lit]; exact fd_new w
  have HR1 : Hid _ := readFiles_at w w.heap.size a1 (n * 4) n c1 (wF ws) W rfl hl1 n32 hc1 (hrd1 w hr) hu1 hbW (Nat.le_refl _) hFW
  have HR2 : Hid (∀ V, FdAt V w.heap.size (filesTo (wF ws) n) → Below w.heap.size w V → _) := fun V hV hbV => readNames_at w w.heap.size n a2 c2 (wT ws) (filesTo (wF ws) n) V hl2 n32 (hrd2 w hr) hu2 hbV (Nat.le_refl _) hV (filesTo_inv _ _) (filesTo_t _ _)
  have HFs : Hid (okFs ws = okFm (wF ws) n) := by show _ = _; unfold okFs; rw [hn]
  have HNs : Hid (okNs ws = okNm (wT ws) n) := by show _ = _; unfold okNs; rw [hn]
  have HDS : Hid (decS ws = namesTo (filesTo (wF ws) n) (wT ws) 48) := by show _ = _; unfold decS; rw [hn]
  have HInv : Hid (okNs ws = true → Inv (decS ws)) := hInv
  have HOk : Hid (okW ws = (okFs ws && okNs ws && okO ws)) := by show _ = _; unfold okW; rw [hL]; simp
  have HOo : Hid (okO ws = ((List.range 48).all (fun i => inO (decS ws).t i == (decS ws).t i) && decide ((ord (decS ws).t).length = n))) := by show _ = _; unfold okO; rw [hn]
  have HW : Hid (W = w.alloc (.cells Try.zeroCells73 73)) := hW
  have HBW : Hid (Below w.heap.size w W) := hbW
  subst ea
  generalize hll : ws.length = l at *
  have e0 : ((l : Int) == 0) = false := beq_false_of_ne (by omega)
  have hl0 : (0 : Int) < (l : Int) := by omega
  have g1 : decide (32 < (n : Int)) = false := decide_eq_false (by omega)
  have hwr : IntKind.i64.wrap (n : Int) = n := by simp [IntKind.wrap, IntKind.bits, IntKind.signed]; omega
  have gl : ((l : Int) != 1 + (n : Int) * 4 + 48) = false := by simp; omega
  have hne := ptr_eq w.heap.size
  clear hr hu hL hInv hn hrd1 hrd2 hF1 hF2 hl1 hl2 ec hu1 hu2 hg0 hW hbW hFW hll hd0 hlen
  go_enter Try.func24, Try.ntmps24
  go_wp2_with fail
  rw [← Hid.out HW]
  clear HW
  refine Calls.mono HR1.out ?_
  cases hf : okFm (wF ws) n with
  | false =>
    have HN : Hid (okW ws = false) := okW_F (by rw [HFs.out]; exact hf)
    rintro e w1 ⟨rfl, -, hb1⟩
    have HB1 : Hid (Below w.heap.size w w1) := hb1
    clear hb1 hf
    go_wp2
    go_ret2
    exact DecP.no HN.out HB1.out
  | true =>
    rintro e w1 ⟨rfl, hf1, hb1⟩
    have hR := HR2.out w1 (hf1 (by simp)) hb1
    have HF : Hid (okFs ws = true) := by show _ = _; rw [HFs.out]; exact hf
    clear hf hf1 hb1 HR1 HR2
    go_wp2_with fail
    refine Calls.mono hR ?_
    cases hnn : okNm (wT ws) n with
    | false =>
      have HN : Hid (okW ws = false) := okW_N (by rw [HNs.out]; exact hnn)
      rintro e w2 ⟨rfl, -, hb2⟩
      have HB2 : Hid (Below w.heap.size w w2) := hb2
      clear hb2 hnn hR
      go_wp2
      go_ret2
      exact DecP.no HN.out HB2.out
    | true =>
      rintro e w2 ⟨rfl, hf2, hb2⟩
      have hF2 : FdAt w2 w.heap.size (decS ws) := by rw [HDS.out]; exact hf2 (by simp)
      have hNs : okNs ws = true := by rw [HNs.out]; exact hnn
      have hIv := HInv.out hNs
      have HNs2 : Hid (okNs ws = true) := hNs
      have HL : Hid (w2.rangeAt w.heap.size 160 (ivs (tabL (decS ws).t))) := hF2.trange
      have hIO := inOrder_at (decS ws).t hIv.name w2
      have hll : (ivs (tabL (decS ws).t)).length = 48 := by rw [ivs_len, tabL_len]
      have HOL : Hid ((ordI (decS ws).t 48).length = (ord (decS ws).t).length) := ordI_len (decS ws).t 48
      have HF2 : Hid (FdAt w2 w.heap.size (decS ws)) := hF2
      have HB2 : Hid (Below w.heap.size w w2) := hb2
      have hol := ord_len48 (decS ws).t
      clear hnn hR hf2 hF2 hb2 hNs hIv HInv HDS HFs HNs
      go_wp2_with (refine wpList_load_mid rfl 71 _ rfl w.heap.size 160 rfl (ivs (tabL (decS ws).t)) _ HL.out Try.underlying71 rfl (by rw [hll]; exact tabSize) ?_)
      refine hIO.mono ?_
      rintro e w3 ⟨v3, rfl, hown3, hb3⟩
      rw [HOL.out] at hown3
      obtain ⟨a3, c3, rfl⟩ := own_slice hown3
      have HSz : Hid ((tabR (inO (decS ws).t)).size = 48) := tabR_size _
      have hF3 := HF2.out.below hb3
      have hB3 : Below w.heap.size w w3 := HB2.out.trans (hb3.mono HB2.out.size)
      have hF4 := hF3.below (below_alloc w3 (.cells (tabR (inO (decS ws).t)) 71))
      have HF4 : Hid (FdAt (w3.alloc (.cells (tabR (inO (decS ws).t)) 71)) w.heap.size (decS ws)) := hF4
      have HB4 : Hid (Below w.heap.size w (w3.alloc (.cells (tabR (inO (decS ws).t)) 71))) := hB3.alloc hB3.size _
      have HR4 : Hid ((w3.alloc (.cells (tabR (inO (decS ws).t)) 71)).rangeAt w3.heap.size 0 (ivs (tabL (inO (decS ws).t)))) := by
        intro j u hu
        rw [Nat.zero_add, cell_of_heap (heap_alloc_new _ _)]
        show (ivs (tabL (inO (decS ws).t))).toArray[j]? = some u
        simpa using hu
      have HL4 : Hid ((w3.alloc (.cells (tabR (inO (decS ws).t)) 71)).rangeAt w.heap.size 160 (ivs (tabL (decS ws).t))) := hF4.trange
      have hne2 := fun V => tabs_ne (inO (decS ws).t) (decS ws).t V
      have hl5 : (ivs (tabL (inO (decS ws).t))).length = 48 := by rw [ivs_len, tabL_len]
      clear hIO HL hown3 hb3 HF2 HB2 hF3 hB3 hF4
      generalize hnl : (ord (decS ws).t).length = nl at *
      clear hnl
      go_wp2_with (refine wpList_store_row rfl 71 _ _ rfl w3.heap.size (tabR (inO (decS ws).t)) rfl rfl 71 _ (heap_alloc_new _ _) (by rw [HSz.out]; exact tabSize) (by rw [HSz.out]; rfl) (tabOne _) ?_; rw [setRow_alloc_new])
      generalize w3.alloc (.cells (tabR (inO (decS ws).t)) 71) = V at *
      generalize w3.heap.size = G at *
      cases hsame : (List.range 48).all (fun i => inO (decS ws).t i == (decS ws).t i) with
      | false =>
        have HN : Hid (okW ws = false) := by show _ = _; rw [HOk.out, HOo.out, hsame]; simp
        have hne3 : ∀ V, (binOp .neq 71 (.agg (ivs (tabL (inO (decS ws).t))).toArray) (.agg (ivs (tabL (decS ws).t)).toArray)).run Try.prog V = .ok (.bool true) V := fun V => by
          have := hne2 V
          rw [hsame] at this
          exact this
        clear hne2 hsame HOo HOk
        refine wp_region_held_drew (S := fun w' => w'.rangeAt G 0 (ivs (tabL (inO (decS ws).t))) ∧ w'.rangeAt w.heap.size 160 (ivs (tabL (decS ws).t))) (by kernel_rfl) ⟨(World.rangeAt_drew _ _ _ _).2 HR4.out, (World.rangeAt_drew _ _ _ _).2 HL4.out⟩ (fun hHeld => ?_)
        refine wpAnyH_take (i := 0) (v := .agg (ivs (tabL (inO (decS ws).t))).toArray) rfl (by kernel_rfl) (by kernel_rfl) (by kernel_rfl) (fun _ _ _ h => h) (yieldsIf_load_mid (by kernel_rfl) 71 _ rfl G 0 rfl (ivs (tabL (inO (decS ws).t))) _ (fun w hw => hw.1) Try.underlying71 rfl (by rw [hl5]; exact tabSize)) (by assumption) ?_
        (try simp only [Act.put, List.getElem_toArray, List.getElem_cons_zero, List.setIfInBounds_toArray, List.set_cons_zero, List.set_cons_succ])
        refine wpAnyH_take (i := 1) (v := ?_) rfl (by kernel_rfl) (by kernel_rfl) (by kernel_rfl) (fun _ _ _ h => h) (Or.inl ⟨by kernel_rfl, ?_⟩) (by assumption) ?_
        rotate_left
        · (intro w hSw; (try dsimp only at hSw); go_simp) <;> with_reducible rfl
        (try simp only [Act.put, List.getElem_toArray, List.getElem_cons_zero, List.getElem_cons_succ, List.setIfInBounds_toArray, List.set_cons_zero, List.set_cons_succ])
        refine wpAnyH_take (i := 2) (v := ?_) rfl (by kernel_rfl) (by kernel_rfl) (by kernel_rfl) (fun _ _ _ h => h) (Or.inl ⟨by kernel_rfl, ?_⟩) (by assumption) ?_
        rotate_left
        · (intro w hSw; (try dsimp only at hSw); go_simp) <;> with_reducible rfl
        (try simp only [Act.put, List.getElem_toArray, List.getElem_cons_zero, List.getElem_cons_succ, List.setIfInBounds_toArray, List.set_cons_zero, List.set_cons_succ])
        refine wpAnyH_take (i := 3) (v := ?_) rfl (by kernel_rfl) (by kernel_rfl) (by kernel_rfl) (fun _ _ _ h => h) (Or.inl ⟨by kernel_rfl, ?_⟩) (by assumption) ?_
        rotate_left
        · (intro w hSw; (try dsimp only at hSw); go_simp) <;> with_reducible rfl
        (try simp only [Act.put, List.getElem_toArray, List.getElem_cons_zero, List.getElem_cons_succ, List.setIfInBounds_toArray, List.set_cons_zero, List.set_cons_succ])
        refine wpAnyH_take (i := 4) (v := .agg (ivs (tabL (decS ws).t)).toArray) rfl (by kernel_rfl) (by kernel_rfl) (by kernel_rfl) (fun _ _ _ h => h) (yieldsIf_load_mid (by kernel_rfl) 71 _ rfl w.heap.size 160 rfl (ivs (tabL (decS ws).t)) _ (fun w hw => hw.2) Try.underlying71 rfl (by rw [hll]; exact tabSize)) (by assumption) ?_
        (try simp only [Act.put, List.getElem_toArray, List.getElem_cons_zero, List.getElem_cons_succ, List.setIfInBounds_toArray, List.set_cons_zero, List.set_cons_succ])
        refine wpAnyH_take (i := 5) (v := ?_) rfl (by kernel_rfl) (by kernel_rfl) (by kernel_rfl) (fun _ _ _ h => h) (Or.inl ⟨by kernel_rfl, ?_⟩) (by assumption) ?_
        rotate_left
        · (intro w hSw; (try dsimp only at hSw); go_simp) <;> with_reducible rfl
        (try simp only [Act.put, List.getElem_toArray, List.getElem_cons_zero, List.getElem_cons_succ, List.setIfInBounds_toArray, List.set_cons_zero, List.set_cons_succ])
        refine wpAnyH_take (i := 6) (v := ?_) rfl (by kernel_rfl) (by kernel_rfl) (by kernel_rfl) (fun _ _ _ h => h) (Or.inl ⟨by kernel_rfl, ?_⟩) (by assumption) ?_
        rotate_left
        · (intro w hSw; (try dsimp only at hSw); go_simp) <;> with_reducible rfl
        (try simp only [Act.put, List.getElem_toArray, List.getElem_cons_zero, List.getElem_cons_succ, List.setIfInBounds_toArray, List.set_cons_zero, List.set_cons_succ])
        refine wpAnyH_take (i := 7) (v := undef) rfl (by kernel_rfl) (by kernel_rfl) (by kernel_rfl) (fun _ _ _ h => h) (Or.inr ⟨by kernel_rfl, rfl⟩) (by assumption) ?_
        (try simp only [Act.put, List.getElem_toArray, List.getElem_cons_zero, List.getElem_cons_succ, List.setIfInBounds_toArray, List.set_cons_zero, List.set_cons_succ])
        refine wpAnyH_take (i := 8) (v := undef) rfl (by kernel_rfl) (by kernel_rfl) (by kernel_rfl) (fun _ _ _ h => h) (Or.inr ⟨by kernel_rfl, rfl⟩) (by assumption) ?_
        (try simp only [Act.put, List.getElem_toArray, List.getElem_cons_zero, List.getElem_cons_succ, List.setIfInBounds_toArray, List.set_cons_zero, List.set_cons_succ])
        refine wpAnyH_take (i := 9) (v := undef) rfl (by kernel_rfl) (by kernel_rfl) (by kernel_rfl) (fun _ _ _ h => h) (Or.inr ⟨by kernel_rfl, rfl⟩) (by assumption) ?_
        (try simp only [Act.put, List.getElem_toArray, List.getElem_cons_zero, List.getElem_cons_succ, List.setIfInBounds_toArray, List.set_cons_zero, List.set_cons_succ])
        refine wpAnyH_take (i := 10) (v := undef) rfl (by kernel_rfl) (by kernel_rfl) (by kernel_rfl) (fun _ _ _ h => h) (Or.inr ⟨by kernel_rfl, rfl⟩) (by assumption) ?_
        (try simp only [Act.put, List.getElem_toArray, List.getElem_cons_zero, List.getElem_cons_succ, List.setIfInBounds_toArray, List.set_cons_zero, List.set_cons_succ])
        refine wpAnyH_take (i := 11) (v := ?_) rfl (by kernel_rfl) (by kernel_rfl) (by kernel_rfl) (fun _ _ _ h => h) (Or.inl ⟨by kernel_rfl, ?_⟩) (by assumption) ?_
        rotate_left
        · (intro w hSw; (try dsimp only at hSw); go_simp) <;> with_reducible rfl
        (try simp only [Act.put, List.getElem_toArray, List.getElem_cons_zero, List.getElem_cons_succ, List.setIfInBounds_toArray, List.set_cons_zero, List.set_cons_succ])
        refine wpAnyH_done (by kernel_rfl) ?_ _
        clear hHeld
        go_wp2
        go_ret2
        exact DecP.no HN.out HB4.out.drew
      | true =>
        have hne3 : ∀ V, (binOp .neq 71 (.agg (ivs (tabL (inO (decS ws).t))).toArray) (.agg (ivs (tabL (decS ws).t)).toArray)).run Try.prog V = .ok (.bool false) V := fun V => by
          have := hne2 V
          rw [hsame] at this
          exact this
        rw [hsame] at HOo
        by_cases hnl : nl = n
        · have HY : Hid (okW ws = true) := by show _ = _; rw [HOk.out, HF.out, HNs2.out, HOo.out, decide_eq_true hnl]; rfl
          have gnl : ((nl : Int) != (n : Int)) = false := by simp [hnl]
          clear hne2 hsame HOo HOk hnl
          refine wp_region_held_drew (S := fun w' => w'.rangeAt G 0 (ivs (tabL (inO (decS ws).t))) ∧ w'.rangeAt w.heap.size 160 (ivs (tabL (decS ws).t))) (by kernel_rfl) ⟨(World.rangeAt_drew _ _ _ _).2 HR4.out, (World.rangeAt_drew _ _ _ _).2 HL4.out⟩ (fun hHeld => ?_)
          refine wpAnyH_take (i := 0) (v := .agg (ivs (tabL (inO (decS ws).t))).toArray) rfl (by kernel_rfl) (by kernel_rfl) (by kernel_rfl) (fun _ _ _ h => h) (yieldsIf_load_mid (by kernel_rfl) 71 _ rfl G 0 rfl (ivs (tabL (inO (decS ws).t))) _ (fun w hw => hw.1) Try.underlying71 rfl (by rw [hl5]; exact tabSize)) (by assumption) ?_
          (try simp only [Act.put, List.getElem_toArray, List.getElem_cons_zero, List.setIfInBounds_toArray, List.set_cons_zero, List.set_cons_succ])
          refine wpAnyH_take (i := 1) (v := ?_) rfl (by kernel_rfl) (by kernel_rfl) (by kernel_rfl) (fun _ _ _ h => h) (Or.inl ⟨by kernel_rfl, ?_⟩) (by assumption) ?_
          rotate_left
          · (intro w hSw; (try dsimp only at hSw); go_simp) <;> with_reducible rfl
          (try simp only [Act.put, List.getElem_toArray, List.getElem_cons_zero, List.getElem_cons_succ, List.setIfInBounds_toArray, List.set_cons_zero, List.set_cons_succ])
          refine wpAnyH_take (i := 2) (v := ?_) rfl (by kernel_rfl) (by kernel_rfl) (by kernel_rfl) (fun _ _ _ h => h) (Or.inl ⟨by kernel_rfl, ?_⟩) (by assumption) ?_
          rotate_left
          · (intro w hSw; (try dsimp only at hSw); go_simp) <;> with_reducible rfl
          (try simp only [Act.put, List.getElem_toArray, List.getElem_cons_zero, List.getElem_cons_succ, List.setIfInBounds_toArray, List.set_cons_zero, List.set_cons_succ])
          refine wpAnyH_take (i := 3) (v := ?_) rfl (by kernel_rfl) (by kernel_rfl) (by kernel_rfl) (fun _ _ _ h => h) (Or.inl ⟨by kernel_rfl, ?_⟩) (by assumption) ?_
          rotate_left
          · (intro w hSw; (try dsimp only at hSw); go_simp) <;> with_reducible rfl
          (try simp only [Act.put, List.getElem_toArray, List.getElem_cons_zero, List.getElem_cons_succ, List.setIfInBounds_toArray, List.set_cons_zero, List.set_cons_succ])
          refine wpAnyH_take (i := 4) (v := .agg (ivs (tabL (decS ws).t)).toArray) rfl (by kernel_rfl) (by kernel_rfl) (by kernel_rfl) (fun _ _ _ h => h) (yieldsIf_load_mid (by kernel_rfl) 71 _ rfl w.heap.size 160 rfl (ivs (tabL (decS ws).t)) _ (fun w hw => hw.2) Try.underlying71 rfl (by rw [hll]; exact tabSize)) (by assumption) ?_
          (try simp only [Act.put, List.getElem_toArray, List.getElem_cons_zero, List.getElem_cons_succ, List.setIfInBounds_toArray, List.set_cons_zero, List.set_cons_succ])
          refine wpAnyH_take (i := 5) (v := ?_) rfl (by kernel_rfl) (by kernel_rfl) (by kernel_rfl) (fun _ _ _ h => h) (Or.inl ⟨by kernel_rfl, ?_⟩) (by assumption) ?_
          rotate_left
          · (intro w hSw; (try dsimp only at hSw); go_simp) <;> with_reducible rfl
          (try simp only [Act.put, List.getElem_toArray, List.getElem_cons_zero, List.getElem_cons_succ, List.setIfInBounds_toArray, List.set_cons_zero, List.set_cons_succ])
          refine wpAnyH_take (i := 6) (v := ?_) rfl (by kernel_rfl) (by kernel_rfl) (by kernel_rfl) (fun _ _ _ h => h) (Or.inl ⟨by kernel_rfl, ?_⟩) (by assumption) ?_
          rotate_left
          · (intro w hSw; (try dsimp only at hSw); go_simp) <;> with_reducible rfl
          (try simp only [Act.put, List.getElem_toArray, List.getElem_cons_zero, List.getElem_cons_succ, List.setIfInBounds_toArray, List.set_cons_zero, List.set_cons_succ])
          refine wpAnyH_take (i := 7) (v := ?_) rfl (by kernel_rfl) (by kernel_rfl) (by kernel_rfl) (fun _ _ _ h => h) (Or.inl ⟨by kernel_rfl, ?_⟩) (by assumption) ?_
          rotate_left
          · (intro w hSw; (try dsimp only at hSw); go_simp) <;> with_reducible rfl
          (try simp only [Act.put, List.getElem_toArray, List.getElem_cons_zero, List.getElem_cons_succ, List.setIfInBounds_toArray, List.set_cons_zero, List.set_cons_succ])
          refine wpAnyH_take (i := 8) (v := ?_) rfl (by kernel_rfl) (by kernel_rfl) (by kernel_rfl) (fun _ _ _ h => h) (Or.inl ⟨by kernel_rfl, ?_⟩) (by assumption) ?_
          rotate_left
          · (intro w hSw; (try dsimp only at hSw); go_simp) <;> with_reducible rfl
          (try simp only [Act.put, List.getElem_toArray, List.getElem_cons_zero, List.getElem_cons_succ, List.setIfInBounds_toArray, List.set_cons_zero, List.set_cons_succ])
          refine wpAnyH_take (i := 9) (v := ?_) rfl (by kernel_rfl) (by kernel_rfl) (by kernel_rfl) (fun _ _ _ h => h) (Or.inl ⟨by kernel_rfl, ?_⟩) (by assumption) ?_
          rotate_left
          · (intro w hSw; (try dsimp only at hSw); go_simp) <;> with_reducible rfl
          (try simp only [Act.put, List.getElem_toArray, List.getElem_cons_zero, List.getElem_cons_succ, List.setIfInBounds_toArray, List.set_cons_zero, List.set_cons_succ])
          refine wpAnyH_take (i := 10) (v := ?_) rfl (by kernel_rfl) (by kernel_rfl) (by kernel_rfl) (fun _ _ _ h => h) (Or.inl ⟨by kernel_rfl, ?_⟩) (by assumption) ?_
          rotate_left
          · (intro w hSw; (try dsimp only at hSw); go_simp) <;> with_reducible rfl
          (try simp only [Act.put, List.getElem_toArray, List.getElem_cons_zero, List.getElem_cons_succ, List.setIfInBounds_toArray, List.set_cons_zero, List.set_cons_succ])
          refine wpAnyH_take (i := 11) (v := ?_) rfl (by kernel_rfl) (by kernel_rfl) (by kernel_rfl) (fun _ _ _ h => h) (Or.inl ⟨by kernel_rfl, ?_⟩) (by assumption) ?_
          rotate_left
          · (intro w hSw; (try dsimp only at hSw); go_simp) <;> with_reducible rfl
          (try simp only [Act.put, List.getElem_toArray, List.getElem_cons_zero, List.getElem_cons_succ, List.setIfInBounds_toArray, List.set_cons_zero, List.set_cons_succ])
          refine wpAnyH_done (by kernel_rfl) ?_ _
          clear hHeld
          go_wp2
          go_ret2
          exact ⟨fun _ => ⟨w.heap.size, rfl, Nat.le_refl _, HF4.out.drew⟩, (fun e => by rw [HY.out] at e; cases e), HB4.out.drew⟩
        · have HN : Hid (okW ws = false) := by show _ = _; rw [HOk.out, HOo.out, decide_eq_false hnl]; simp
          have gnl : ((nl : Int) != (n : Int)) = true := by simp; omega
          clear hne2 hsame HOo HOk hnl
          refine wp_region_held_drew (S := fun w' => w'.rangeAt G 0 (ivs (tabL (inO (decS ws).t))) ∧ w'.rangeAt w.heap.size 160 (ivs (tabL (decS ws).t))) (by kernel_rfl) ⟨(World.rangeAt_drew _ _ _ _).2 HR4.out, (World.rangeAt_drew _ _ _ _).2 HL4.out⟩ (fun hHeld => ?_)
          refine wpAnyH_take (i := 0) (v := .agg (ivs (tabL (inO (decS ws).t))).toArray) rfl (by kernel_rfl) (by kernel_rfl) (by kernel_rfl) (fun _ _ _ h => h) (yieldsIf_load_mid (by kernel_rfl) 71 _ rfl G 0 rfl (ivs (tabL (inO (decS ws).t))) _ (fun w hw => hw.1) Try.underlying71 rfl (by rw [hl5]; exact tabSize)) (by assumption) ?_
          (try simp only [Act.put, List.getElem_toArray, List.getElem_cons_zero, List.setIfInBounds_toArray, List.set_cons_zero, List.set_cons_succ])
          refine wpAnyH_take (i := 1) (v := ?_) rfl (by kernel_rfl) (by kernel_rfl) (by kernel_rfl) (fun _ _ _ h => h) (Or.inl ⟨by kernel_rfl, ?_⟩) (by assumption) ?_
          rotate_left
          · (intro w hSw; (try dsimp only at hSw); go_simp) <;> with_reducible rfl
          (try simp only [Act.put, List.getElem_toArray, List.getElem_cons_zero, List.getElem_cons_succ, List.setIfInBounds_toArray, List.set_cons_zero, List.set_cons_succ])
          refine wpAnyH_take (i := 2) (v := ?_) rfl (by kernel_rfl) (by kernel_rfl) (by kernel_rfl) (fun _ _ _ h => h) (Or.inl ⟨by kernel_rfl, ?_⟩) (by assumption) ?_
          rotate_left
          · (intro w hSw; (try dsimp only at hSw); go_simp) <;> with_reducible rfl
          (try simp only [Act.put, List.getElem_toArray, List.getElem_cons_zero, List.getElem_cons_succ, List.setIfInBounds_toArray, List.set_cons_zero, List.set_cons_succ])
          refine wpAnyH_take (i := 3) (v := ?_) rfl (by kernel_rfl) (by kernel_rfl) (by kernel_rfl) (fun _ _ _ h => h) (Or.inl ⟨by kernel_rfl, ?_⟩) (by assumption) ?_
          rotate_left
          · (intro w hSw; (try dsimp only at hSw); go_simp) <;> with_reducible rfl
          (try simp only [Act.put, List.getElem_toArray, List.getElem_cons_zero, List.getElem_cons_succ, List.setIfInBounds_toArray, List.set_cons_zero, List.set_cons_succ])
          refine wpAnyH_take (i := 4) (v := .agg (ivs (tabL (decS ws).t)).toArray) rfl (by kernel_rfl) (by kernel_rfl) (by kernel_rfl) (fun _ _ _ h => h) (yieldsIf_load_mid (by kernel_rfl) 71 _ rfl w.heap.size 160 rfl (ivs (tabL (decS ws).t)) _ (fun w hw => hw.2) Try.underlying71 rfl (by rw [hll]; exact tabSize)) (by assumption) ?_
          (try simp only [Act.put, List.getElem_toArray, List.getElem_cons_zero, List.getElem_cons_succ, List.setIfInBounds_toArray, List.set_cons_zero, List.set_cons_succ])
          refine wpAnyH_take (i := 5) (v := ?_) rfl (by kernel_rfl) (by kernel_rfl) (by kernel_rfl) (fun _ _ _ h => h) (Or.inl ⟨by kernel_rfl, ?_⟩) (by assumption) ?_
          rotate_left
          · (intro w hSw; (try dsimp only at hSw); go_simp) <;> with_reducible rfl
          (try simp only [Act.put, List.getElem_toArray, List.getElem_cons_zero, List.getElem_cons_succ, List.setIfInBounds_toArray, List.set_cons_zero, List.set_cons_succ])
          refine wpAnyH_take (i := 6) (v := ?_) rfl (by kernel_rfl) (by kernel_rfl) (by kernel_rfl) (fun _ _ _ h => h) (Or.inl ⟨by kernel_rfl, ?_⟩) (by assumption) ?_
          rotate_left
          · (intro w hSw; (try dsimp only at hSw); go_simp) <;> with_reducible rfl
          (try simp only [Act.put, List.getElem_toArray, List.getElem_cons_zero, List.getElem_cons_succ, List.setIfInBounds_toArray, List.set_cons_zero, List.set_cons_succ])
          refine wpAnyH_take (i := 7) (v := ?_) rfl (by kernel_rfl) (by kernel_rfl) (by kernel_rfl) (fun _ _ _ h => h) (Or.inl ⟨by kernel_rfl, ?_⟩) (by assumption) ?_
          rotate_left
          · (intro w hSw; (try dsimp only at hSw); go_simp) <;> with_reducible rfl
          (try simp only [Act.put, List.getElem_toArray, List.getElem_cons_zero, List.getElem_cons_succ, List.setIfInBounds_toArray, List.set_cons_zero, List.set_cons_succ])
          refine wpAnyH_take (i := 8) (v := ?_) rfl (by kernel_rfl) (by kernel_rfl) (by kernel_rfl) (fun _ _ _ h => h) (Or.inl ⟨by kernel_rfl, ?_⟩) (by assumption) ?_
          rotate_left
          · (intro w hSw; (try dsimp only at hSw); go_simp) <;> with_reducible rfl
          (try simp only [Act.put, List.getElem_toArray, List.getElem_cons_zero, List.getElem_cons_succ, List.setIfInBounds_toArray, List.set_cons_zero, List.set_cons_succ])
          refine wpAnyH_take (i := 9) (v := ?_) rfl (by kernel_rfl) (by kernel_rfl) (by kernel_rfl) (fun _ _ _ h => h) (Or.inl ⟨by kernel_rfl, ?_⟩) (by assumption) ?_
          rotate_left
          · (intro w hSw; (try dsimp only at hSw); go_simp) <;> with_reducible rfl
          (try simp only [Act.put, List.getElem_toArray, List.getElem_cons_zero, List.getElem_cons_succ, List.setIfInBounds_toArray, List.set_cons_zero, List.set_cons_succ])
          refine wpAnyH_take (i := 10) (v := ?_) rfl (by kernel_rfl) (by kernel_rfl) (by kernel_rfl) (fun _ _ _ h => h) (Or.inl ⟨by kernel_rfl, ?_⟩) (by assumption) ?_
          rotate_left
          · (intro w hSw; (try dsimp only at hSw); go_simp) <;> with_reducible rfl
          (try simp only [Act.put, List.getElem_toArray, List.getElem_cons_zero, List.getElem_cons_succ, List.setIfInBounds_toArray, List.set_cons_zero, List.set_cons_succ])
          refine wpAnyH_take (i := 11) (v := ?_) rfl (by kernel_rfl) (by kernel_rfl) (by kernel_rfl) (fun _ _ _ h => h) (Or.inl ⟨by kernel_rfl, ?_⟩) (by assumption) ?_
          rotate_left
          · (intro w hSw; (try dsimp only at hSw); go_simp) <;> with_reducible rfl
          (try simp only [Act.put, List.getElem_toArray, List.getElem_cons_zero, List.getElem_cons_succ, List.setIfInBounds_toArray, List.set_cons_zero, List.set_cons_succ])
          refine wpAnyH_done (by kernel_rfl) ?_ _
          clear hHeld
          go_wp2
          go_ret2
          exact DecP.no HN.out HB4.out.drew
theorem decode_at (a : Option Addr) (cap : Nat) (ws : List Int) (w : World) (hr : Rd w a ws) (hu : U64 ws) (hcap : ws.length ≤ cap) (hlen : ws.length ≤ 1000000) :
    Calls Try.prog 24 #[.slice a ws.length cap] w (DecP ws w) := by
  cases h : okL ws with
  | true => exact decode_long a cap ws w hr hu hcap h
  | false => exact decode_short a cap ws w hr hu h hlen
end Go.Proofs.Ytkdbmfckfbmbiaa
