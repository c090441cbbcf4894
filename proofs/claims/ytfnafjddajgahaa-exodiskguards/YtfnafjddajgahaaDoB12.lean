/- januslaw12.view: a View's Get and Put with both kernels; januslaw12.do as a whole. -/
import Derived.Test.YtfnafjddajgahaaDoA12
namespace Go.Proofs.Ytfnafjddajgahaa
open Go.RowKit Ca
set_option linter.unusedVariables false

theorem rel_no {T : Tab} {e s b : Int} (r : Int) (h : relE T e s b ≠ 0) : findR T e s b r ≠ 0 := by
  unfold relE at h
  unfold findR hasR
  cases hi : (getT T e s).is with
  | false => simp
  | true =>
    rw [hi] at h
    simp only [if_true] at h
    by_cases hb : 0 ≤ b ∧ b < (getT T e s).len
    · rw [if_pos hb] at h; exact absurd rfl h
    · rw [if_neg hb]
      split
      · decide
      · decide
theorem rel_yes {T : Tab} {n : Nat} (hI : XInv T n) (hn : n ≤ 1000) {e s b : Int} (h : relE T e s b = 0) : ∃ A : Nat, relA T e s b = A ∧ A < n ∧ ∀ r, (hasR T e s r = true → findR T e s b r = 0 ∧ findA T e s b r = A ∧ mayX T e s A r = true) ∧ (hasR T e s r = false → findR T e s b r = 104 ∧ mayX T e s A r = false) := by
  unfold relE at h
  cases hi : (getT T e s).is with
  | false => rw [hi] at h; cases h
  | true =>
    rw [hi] at h
    simp only [if_true] at h
    obtain ⟨_, o1, o2, o3, _⟩ := hI.get hi
    by_cases hb : 0 ≤ b ∧ b < (getT T e s).len
    · have hA : relA T e s b = (getT T e s).id + b := by unfold relA; rw [if_pos hi, if_pos hb]
      refine ⟨((getT T e s).id + b).toNat, by rw [hA]; omega, by omega, fun r => ⟨fun hr => ⟨?_, ?_, ?_⟩, fun hr => ⟨?_, ?_⟩⟩⟩
      · unfold findR; rw [if_pos hr, if_pos hb]
      · unfold findA; rw [if_pos hr, if_pos hb]; omega
      · unfold mayX; rw [hr]; simp; omega
      · unfold findR; rw [hr]; rfl
      · unfold mayX; rw [hr]; rfl
    · rw [if_neg hb] at h; cases h
section
variable {w W w' w1 w2 : World} {K0 X : Nat} {Y : Yd} {Q : Rq} {n m : Nat} {vs vs' : List Int} {l l' : Lines} {T T' : Tab} {L : List Ce} {last : Int}
theorem DoneS.below {e : Int} (h : DoneS w w1 K0 Y X Q n m e vs l T L last) (hb : Below w1.heap.size w1 w2) : DoneS w w2 K0 Y X Q n m e vs l T L last := by
  obtain ⟨vs', l', T', L', last', hD, q1, q2, q3, q4⟩ := h
  exact ⟨vs', l', T', L', last', hD.below hb, q1, q2, q3.trans (UpdP.of_below hb), q4⟩
theorem Duo.doneS {e : Int} (h : Duo w1 K0 Y X Q n m vs l T L last) (hu : UpdP (BF Y X Q) w w1) : DoneS w w1 K0 Y X Q n m e vs l T L last :=
  ⟨vs, l, T, L, last, ⟨h.ker.mono (by omega), h.ref.mono (by omega), h.rel, h.pos, h.n2⟩, by omega, by omega, hu, Step.same⟩
theorem vNo {V : Nat} {e s : Int} (h : RkX w X Q n m vs l L last) (hV : VAt w V K0 e s) : ¬ RF X Q V := by
  intro q
  obtain ⟨_, t, _, e1, q1⟩ := h.ty q
  exact apart hV e1 (fun q => by subst q; revert q1; decide) rfl

set_option maxRecDepth 100000 in
set_option maxHeartbeats 4000000 in
theorem view_6 (h : Duo w K0 Y X Q n m vs l T L last) (hl : L.length ≤ 800) (ht : last ≤ 800) (hm : m ≤ 800000) (d : De) (hfit : d.Fit) (hkd : d.kind = 6) :
    Calls Try.prog 80 #[ptr K0, ptr X, .agg (deRow d)] w fun x w' => ∃ b, x = .returned (.bool b) ∧ DoneS w w' K0 Y X Q n m d.env vs l T L last := by
  obtain ⟨kd, en, sl, ds, fi, nn, vv⟩ := d
  obtain ⟨-, he, hs, hd', hfi, hnn⟩ := hfit
  dsimp only at hkd he hs hd' hfi hnn
  subst hkd
  obtain ⟨W, hW⟩ : ∃ W, W = w.alloc (.cells (deRow ⟨6, en, sl, ds, fi, nn, vv⟩) 62) := ⟨_, rfl⟩
  have hbW : Below w.heap.size w W := by rw [hW]; exact below_alloc _ _
  have hx : W.heap[w.heap.size]? = some (.cells (deRow ⟨6, en, sl, ds, fi, nn, vv⟩) 62) := by rw [hW]; exact heap_alloc_new _ _
  have hd := h.below hbW
  have hlk := hd.lx hl ht
  have hn := h.n2
  have hn1 := h.ker.n1
  have HLk : Hid _ := hlk
  obtain ⟨a1, a2⟩ := hd.noB hx
  have HD : Hid _ := hd
  have HB : Hid (UpdP (BF Y X Q) w W) := UpdP.of_below hbW
  have HX : Hid _ := hx
  obtain ⟨⟨g0, g1, g2, g3⟩, g4, g5, g6⟩ := deC hx
  dsimp only at g0 g1 g2 g3 g4 g5 g6
  have hHl : L.length ≤ 800 ∧ last ≤ 800 := ⟨hl, ht⟩
  clear hbW hx hd hlk h hl ht
  dsimp only [deRow] at hW ⊢
  go_enter Try.func80, Try.ntmps80
  go_wp2_with fail
  rw [← hW]
  clear hW
  refine (xview_at K0 en sl W).mono ?_
  rintro x w1 ⟨rfl, hV1, hb1, _⟩
  have hx1 := de_keep (P := fun _ => False) (UpdP.of_below hb1) HX.out (fun e => e)
  have hD1 := HD.out.below hb1
  have hrl := rxrel_at hD1.ref HLk.out en sl fi hfi
  obtain ⟨⟨g0, g1, g2, g3⟩, g4, g5, g6⟩ := deC hx1
  dsimp only at g0 g1 g2 g3 g4 g5 g6
  have HU1 : Hid (UpdP (BF Y X Q) w w1) := HB.out.trans (UpdP.of_below hb1)
  have HV1 : Hid (VAt w1 W.heap.size K0 en sl) := hV1
  have HD1 : Hid _ := hD1
  have HX1 : Hid _ := hx1
  clear hV1 hb1 hx1 hD1
  generalize W.heap.size = V at *
  generalize w.heap.size = D at *
  go_wp2_with fail
  refine hrl.mono ?_
  rintro x w2 ⟨rfl, hb2⟩
  have hx2 := de_keep (P := fun _ => False) (UpdP.of_below hb2) HX1.out (fun e => e)
  have hD2 := HD1.out.below hb2
  have hV2 : VAt w2 V K0 en sl := (hb2.block _ (lt_of_heap HV1.out)).trans HV1.out
  obtain ⟨⟨g0, g1, g2, g3⟩, g4, g5, g6⟩ := deC hx2
  dsimp only at g0 g1 g2 g3 g4 g5 g6
  have HU2 : Hid (UpdP (BF Y X Q) w w2) := HU1.out.trans (UpdP.of_below hb2)
  have HV2 : Hid (VAt w2 V K0 en sl) := hV2
  have HD2 : Hid _ := hD2
  have HX2 : Hid _ := hx2
  have HNV : Hid _ := hD2.ker.noV hV2
  have HNR : Hid _ := vNo hD2.ref hV2
  clear hV2 hb2 hx2 hD2 hrl HV1 HD1 HX1 HU1
  by_cases hre : relE T en sl fi = 0
  · obtain ⟨A, hA, hAn, hways⟩ := rel_yes HD.out.ker.inv hn hre
    rw [hre, hA]
    obtain ⟨wy, wn⟩ := hways 1
    have hIA : I64 (A : Int) := ⟨by omega, by omega⟩
    clear hre hA hways
    cases hr : hasR T en sl 1 with
    | true =>
      obtain ⟨f1, f2, f3⟩ := wy hr
      have hvg := xvget_yes HD2.out.ker HV2.out fi hfi (by omega) f1
      rw [f2, Int.toNat_natCast] at hvg
      have HM : Hid _ := f3
      have HLW : Hid ((lookW l vs A).length = 32) := lookW_len HD2.out.ker.linv HD2.out.ker.len hAn
      clear wy wn hr f1 f2 f3
      go_wp2_with fail
      refine hvg.mono ?_
      rintro x w3 ⟨v3, rfl, hr3, hK3, hu3⟩
      have hR3 := HD2.out.other hu3
      have hx3 := de_keep hu3 HX2.out a1
      obtain ⟨⟨g0, g1, g2, g3⟩, g4, g5, g6⟩ := deC hx3
      dsimp only at g0 g1 g2 g3 g4 g5 g6
      have hrf := rxget_yes hR3 HLk.out en sl A hIA HM.out
      have HK3 : Hid _ := hK3
      have HR3 : Hid _ := hR3
      have HV3 : Hid (URow w2.heap.size w3 v3 (lookW l vs A)) := hr3
      have HU3 : Hid (UpdP (BF Y X Q) w w3) := HU2.out.trans (bfK hu3)
      clear hK3 hR3 hx3 hu3 hr3 hvg
      go_wp2_with fail
      refine hrf.mono ?_
      rintro x w4 ⟨u4, rfl, hr4, hR4, hu4⟩
      have hvs := Di.words_same w2.heap.size w3.heap.size v3 u4 _ w4 (URow.keepT HV3.out hu4 (fun k hk => (HR3.out.noT k hk).1)) hr4 (by rw [HLW.out]; omega)
      have HF : Hid (DoneS w w4 K0 Y X Q n m en vs l T L last) := Gw.done hn (keepR HK3.out HR3.out hu4) (hR4.gw HD.out.rel HD.out.pos) (by omega) (by omega) (HU3.out.trans (bfR hu4)) (Or.inr ⟨rfl, Or.inl ⟨rfl, _, rfl⟩⟩)
      clear hR4 hu4 hr4 hrf
      go_wp2_with fail
      refine hvs.mono ?_
      rintro x w5 ⟨rfl, hq5⟩
      have HF5 : Hid (DoneS w w5 K0 Y X Q n m en vs l T L last) := HF.out.below (Di.drewN_below hq5)
      clear hq5 hvs HF
      go_wp2
      go_ret
      exact ⟨_, rfl, HF5.out⟩
    | false =>
      obtain ⟨f1, f2⟩ := wn hr
      have hvg := xvget_no HD2.out.ker HV2.out fi hfi (by rw [f1]; decide)
      rw [f1] at hvg
      have HM : Hid _ := f2
      clear wy wn hr f1 f2
      go_wp2_with fail
      refine hvg.mono ?_
      rintro x w3 ⟨rfl, hb3⟩
      have hD3 := HD2.out.below hb3
      have hx3 := de_keep (P := fun _ => False) (UpdP.of_below hb3) HX2.out (fun e => e)
      obtain ⟨⟨g0, g1, g2, g3⟩, g4, g5, g6⟩ := deC hx3
      dsimp only at g0 g1 g2 g3 g4 g5 g6
      have hrf := rxget_no hD3.ref HLk.out en sl A hIA HM.out
      have HD3 : Hid _ := hD3
      have HU3 : Hid (UpdP (BF Y X Q) w w3) := HU2.out.trans (UpdP.of_below hb3)
      clear hD3 hx3 hb3 hvg
      go_wp2_with fail
      refine hrf.mono ?_
      rintro x w4 ⟨rfl, hb4⟩
      have hvs := Di.words_same 0 0 (.slice none 0 0) (.slice none 0 0) [] w4 (URow.nil _ _) (URow.nil _ _) (by simp)
      have HF : Hid (DoneS w w4 K0 Y X Q n m en vs l T L last) := (HD3.out.below hb4).doneS (HU3.out.trans (UpdP.of_below hb4))
      clear hb4 hrf
      go_wp2_with fail
      refine hvs.mono ?_
      rintro x w5 ⟨rfl, hq5⟩
      have HF5 : Hid (DoneS w w5 K0 Y X Q n m en vs l T L last) := HF.out.below (Di.drewN_below hq5)
      clear hq5 hvs HF
      go_wp2
      go_ret
      exact ⟨_, rfl, HF5.out⟩
  · have hvg := xvget_no HD2.out.ker HV2.out fi hfi (rel_no 1 hre)
    have hne : (relE T en sl fi != 0) = true := by simpa using hre
    clear hre
    generalize findR T en sl fi 1 = FR at *
    generalize relE T en sl fi = RE at *
    generalize relA T en sl fi = RA at *
    go_wp2_with fail
    refine hvg.mono ?_
    rintro x w3 ⟨rfl, hb3⟩
    have HF : Hid (DoneS w w3 K0 Y X Q n m en vs l T L last) := (HD2.out.below hb3).doneS (HU2.out.trans (UpdP.of_below hb3))
    clear hb3 hvg
    go_wp2
    all_goals
      go_ret
      exact ⟨_, rfl, HF.out⟩

set_option maxRecDepth 100000 in
set_option maxHeartbeats 4000000 in
theorem view_7 (h : Duo w K0 Y X Q n m vs l T L last) (hl : L.length ≤ 800) (ht : last ≤ 800) (hm : m ≤ 800000) (d : De) (hfit : d.Fit) (hkd : d.kind = 7) :
    Calls Try.prog 80 #[ptr K0, ptr X, .agg (deRow d)] w fun x w' => ∃ b, x = .returned (.bool b) ∧ DoneS w w' K0 Y X Q n m d.env vs l T L last := by
  obtain ⟨kd, en, sl, ds, fi, nn, vv⟩ := d
  obtain ⟨-, he, hs, hd', hfi, hnn⟩ := hfit
  dsimp only at hkd he hs hd' hfi hnn
  subst hkd
  obtain ⟨W, hW⟩ : ∃ W, W = w.alloc (.cells (deRow ⟨7, en, sl, ds, fi, nn, vv⟩) 62) := ⟨_, rfl⟩
  have hbW : Below w.heap.size w W := by rw [hW]; exact below_alloc _ _
  have hx : W.heap[w.heap.size]? = some (.cells (deRow ⟨7, en, sl, ds, fi, nn, vv⟩) 62) := by rw [hW]; exact heap_alloc_new _ _
  have hd := h.below hbW
  have hlk := hd.lx hl ht
  have hn := h.n2
  have hn1 := h.ker.n1
  have HLk : Hid _ := hlk
  obtain ⟨a1, a2⟩ := hd.noB hx
  have HD : Hid _ := hd
  have HB : Hid (UpdP (BF Y X Q) w W) := UpdP.of_below hbW
  have HX : Hid _ := hx
  obtain ⟨⟨g0, g1, g2, g3⟩, g4, g5, g6⟩ := deC hx
  dsimp only at g0 g1 g2 g3 g4 g5 g6
  have hHl : L.length ≤ 800 ∧ last ≤ 800 := ⟨hl, ht⟩
  clear hbW hx hd hlk h hl ht
  dsimp only [deRow] at hW ⊢
  go_enter Try.func80, Try.ntmps80
  go_wp2_with fail
  rw [← hW]
  clear hW
  refine (xview_at K0 en sl W).mono ?_
  rintro x w1 ⟨rfl, hV1, hb1, _⟩
  have hx1 := de_keep (P := fun _ => False) (UpdP.of_below hb1) HX.out (fun e => e)
  have hD1 := HD.out.below hb1
  have hrl := rxrel_at hD1.ref HLk.out en sl fi hfi
  obtain ⟨⟨g0, g1, g2, g3⟩, g4, g5, g6⟩ := deC hx1
  dsimp only at g0 g1 g2 g3 g4 g5 g6
  have HU1 : Hid (UpdP (BF Y X Q) w w1) := HB.out.trans (UpdP.of_below hb1)
  have HV1 : Hid (VAt w1 W.heap.size K0 en sl) := hV1
  have HD1 : Hid _ := hD1
  have HX1 : Hid _ := hx1
  clear hV1 hb1 hx1 hD1
  generalize W.heap.size = V at *
  generalize w.heap.size = D at *
  go_wp2_with fail
  refine hrl.mono ?_
  rintro x w2 ⟨rfl, hb2⟩
  have hx2 := de_keep (P := fun _ => False) (UpdP.of_below hb2) HX1.out (fun e => e)
  have hD2 := HD1.out.below hb2
  have hV2 : VAt w2 V K0 en sl := (hb2.block _ (lt_of_heap HV1.out)).trans HV1.out
  obtain ⟨⟨g0, g1, g2, g3⟩, g4, g5, g6⟩ := deC hx2
  dsimp only at g0 g1 g2 g3 g4 g5 g6
  have HU2 : Hid (UpdP (BF Y X Q) w w2) := HU1.out.trans (UpdP.of_below hb2)
  have HV2 : Hid (VAt w2 V K0 en sl) := hV2
  have HD2 : Hid _ := hD2
  have HX2 : Hid _ := hx2
  have HNV : Hid _ := hD2.ker.noV hV2
  have HNR : Hid _ := vNo hD2.ref hV2
  clear hV2 hb2 hx2 hD2 hrl HV1 HD1 HX1 HU1
  by_cases hre : relE T en sl fi = 0
  · obtain ⟨A, hA, hAn, hways⟩ := rel_yes HD.out.ker.inv hn hre
    rw [hre, hA]
    obtain ⟨wy, wn⟩ := hways 2
    have hIA : I64 (A : Int) := ⟨by omega, by omega⟩
    clear hre hA hways
    cases hr : hasR T en sl 2 with
    | true =>
      obtain ⟨f1, f2, -⟩ := wy hr
      clear wy wn hr
      go_wp2_with fail
      refine wp_region_held_drew (S := fun w' => w'.cell? ⟨D, 4, none⟩ = some (.int .i64 fi) ∧ w'.cell? ⟨D, 5, none⟩ = some (.int .i64 nn) ∧ w'.cell? ⟨D, 6, none⟩ = some (.int .u64 vv)) (by kernel_rfl) ⟨g4, g5, g6⟩ (fun hHeld => ?_)
      refine wpAnyH_take (i := 0) (v := ?_) rfl (by kernel_rfl) (by kernel_rfl) (by kernel_rfl) (fun _ _ _ h => h) (Or.inl ⟨by kernel_rfl, ?_⟩) (by assumption) ?_
      rotate_left
      · (intro w hSw; (try dsimp only at hSw); go_simp) <;> with_reducible rfl
      (try simp only [Act.put, List.getElem_toArray, List.getElem_cons_zero, List.setIfInBounds_toArray, List.set_cons_zero, List.set_cons_succ])
      refine wpAnyH_take (i := 1) (v := ?_) rfl (by kernel_rfl) (by kernel_rfl) (by kernel_rfl) (fun _ _ _ h => h) (Or.inl ⟨by kernel_rfl, ?_⟩) (by assumption) ?_
      rotate_left
      · (intro w hSw; (try dsimp only at hSw); go_simp) <;> with_reducible rfl
      (try simp only [Act.put, List.getElem_toArray, List.getElem_cons_zero, List.getElem_cons_succ, List.setIfInBounds_toArray, List.set_cons_zero, List.set_cons_succ])
      refine wpAnyH_take (i := 2) (v := ?_) rfl (by kernel_rfl) (by kernel_rfl) (by kernel_rfl) (fun _ _ _ h => h) (Or.inl ⟨by kernel_rfl, ?_⟩) (by assumption) ?_
      rotate_left
      · (intro w hSw; (try dsimp only at hSw); go_simp) <;> with_reducible rfl
      (try simp only [Act.put, List.getElem_toArray, List.getElem_cons_zero, List.getElem_cons_succ, List.setIfInBounds_toArray, List.set_cons_zero, List.set_cons_succ])
      refine wpAnyH_take (i := 3) (v := ?_) rfl (by kernel_rfl) (by kernel_rfl) (by kernel_rfl) (fun _ _ _ h => h) (Or.inl ⟨by kernel_rfl, ?_⟩) (by assumption) ?_
      rotate_left
      · (intro w hSw; (try dsimp only at hSw); go_simp) <;> with_reducible rfl
      (try simp only [Act.put, List.getElem_toArray, List.getElem_cons_zero, List.getElem_cons_succ, List.setIfInBounds_toArray, List.set_cons_zero, List.set_cons_succ])
      refine wpAnyH_take (i := 4) (v := ?_) rfl (by kernel_rfl) (by kernel_rfl) (by kernel_rfl) (fun _ _ _ h => h) (Or.inl ⟨by kernel_rfl, ?_⟩) (by assumption) ?_
      rotate_left
      · (intro w hSw; (try dsimp only at hSw); go_simp) <;> with_reducible rfl
      (try simp only [Act.put, List.getElem_toArray, List.getElem_cons_zero, List.getElem_cons_succ, List.setIfInBounds_toArray, List.set_cons_zero, List.set_cons_succ])
      refine wpAnyH_take (i := 5) (v := ?_) rfl (by kernel_rfl) (by kernel_rfl) (by kernel_rfl) (fun _ _ _ h => h) (Or.inl ⟨by kernel_rfl, ?_⟩) (by assumption) ?_
      rotate_left
      · (intro w hSw; (try dsimp only at hSw); go_simp) <;> with_reducible rfl
      (try simp only [Act.put, List.getElem_toArray, List.getElem_cons_zero, List.getElem_cons_succ, List.setIfInBounds_toArray, List.set_cons_zero, List.set_cons_succ])
      refine wpAnyH_take (i := 6) (v := ?_) rfl (by kernel_rfl) (by kernel_rfl) (by kernel_rfl) (fun _ _ _ h => h) (Or.inl ⟨by kernel_rfl, ?_⟩) (by assumption) ?_
      rotate_left
      · (intro w hSw; (try dsimp only at hSw); go_simp) <;> with_reducible rfl
      (try simp only [Act.put, List.getElem_toArray, List.getElem_cons_zero, List.getElem_cons_succ, List.setIfInBounds_toArray, List.set_cons_zero, List.set_cons_succ])
      refine wpAnyH_ready (rs := [7]) (by kernel_rfl) (by simp) ?_
      refine AllReadyH.cons rfl (fun K hK => ?_) AllReadyH.nil
      go_simp
      refine (Di.block_row nn vv w2.drew).mono ?_
      rintro x w3 ⟨u3, rfl, hr3, hb3⟩
      have hB3 : Below w2.heap.size w2 w3 := Below.trans (b := w2.drew) ⟨rfl, rfl, rfl, Nat.le_refl _, fun _ _ => rfl⟩ hb3
      have hD3 := HD2.out.below hB3
      have hx3 := de_keep (P := fun _ => False) (UpdP.of_below hB3) HX2.out (fun e => e)
      have hV3 : VAt w3 V K0 en sl := (hB3.block _ (lt_of_heap HV2.out)).trans HV2.out
      obtain ⟨⟨-, k1, k2, -⟩, k4, k5, k6⟩ := deC hx3
      dsimp only at k1 k2 k4 k5 k6
      have HBk : Hid (∀ W : World, Calls Try.prog 29 #[.int .i64 nn, .int .u64 vv] W fun e w' => ∃ u, e = .returned u ∧ URow W.heap.size w' u (Di.blk vv (Di.cnt nn)) ∧ Below W.heap.size W w') := fun W => Di.block_row nn vv W
      generalize Di.blk vv (Di.cnt nn) = ws at *
      have hop := xvput_yes hD3.ker hV3 fi hfi hr3 f1
      rw [f2] at hop
      have HD3 : Hid _ := hD3
      have HX3 : Hid _ := hx3
      have HU3 : Hid (UpdP (BF Y X Q) w w3) := HU2.out.trans (UpdP.of_below hB3)
      clear hr3 hb3 hB3 hD3 hx3 hV3
      refine hK.out _ _ ⟨k4, k5, k6⟩ (fun hHeld => ?_)
      clear hK K
      (try simp only [Act.put, List.getElem_toArray, List.getElem_cons_zero, List.getElem_cons_succ, List.setIfInBounds_toArray, List.set_cons_zero, List.set_cons_succ])
      refine wpAnyH_ready (rs := [8]) (by kernel_rfl) (by simp) ?_
      refine AllReadyH.cons rfl (fun K hK => ?_) AllReadyH.nil
      go_simp
      refine hop.mono ?_
      rintro x w4 ⟨rfl, hK4, hu4⟩
      have hR4 := HD3.out.other hu4
      have hx4 := de_keep hu4 HX3.out a1
      have HU4 : Hid (UpdP (BF Y X Q) w w4) := HU3.out.trans (bfK hu4)
      have HK4 : Hid _ := hK4
      have HR4 : Hid _ := hR4
      clear hK4 hR4 hu4 hop
      obtain ⟨⟨g0, g1, g2, -⟩, g4, g5, g6⟩ := deC hx4
      dsimp only at g0 g1 g2 g4 g5 g6
      have HX4 : Hid _ := hx4
      clear hx4
      refine hK.out _ _ ⟨g4, g5, g6⟩ (fun hHeld => ?_)
      clear hK K
      (try simp only [Act.put, List.getElem_toArray, List.getElem_cons_zero, List.getElem_cons_succ, List.setIfInBounds_toArray, List.set_cons_zero, List.set_cons_succ])
      refine wpAnyH_take (i := 9) (v := ?_) rfl (by kernel_rfl) (by kernel_rfl) (by kernel_rfl) (fun _ _ _ h => h) (Or.inl ⟨by kernel_rfl, ?_⟩) (by assumption) ?_
      rotate_left
      · (intro w hSw; (try dsimp only at hSw); go_simp) <;> with_reducible rfl
      (try simp only [Act.put, List.getElem_toArray, List.getElem_cons_zero, List.getElem_cons_succ, List.setIfInBounds_toArray, List.set_cons_zero, List.set_cons_succ])
      refine wpAnyH_done (by kernel_rfl) ?_ _
      go_wp2_with fail
      refine wp_region_held_drew (S := fun w' => w'.cell? ⟨D, 1, none⟩ = some (.int .i64 en) ∧ w'.cell? ⟨D, 2, none⟩ = some (.int .i64 sl) ∧ w'.cell? ⟨D, 5, none⟩ = some (.int .i64 nn) ∧ w'.cell? ⟨D, 6, none⟩ = some (.int .u64 vv)) (by kernel_rfl) ⟨g1, g2, g5, g6⟩ (fun hHeld2 => ?_)
      refine wpAnyH_take (i := 0) (v := ?_) rfl (by kernel_rfl) (by kernel_rfl) (by kernel_rfl) (fun _ _ _ h => h) (Or.inl ⟨by kernel_rfl, ?_⟩) (by assumption) ?_
      rotate_left
      · (intro w hSw; (try dsimp only at hSw); go_simp) <;> with_reducible rfl
      (try simp only [Act.put, List.getElem_toArray, List.getElem_cons_zero, List.setIfInBounds_toArray, List.set_cons_zero, List.set_cons_succ])
      refine wpAnyH_take (i := 1) (v := ?_) rfl (by kernel_rfl) (by kernel_rfl) (by kernel_rfl) (fun _ _ _ h => h) (Or.inl ⟨by kernel_rfl, ?_⟩) (by assumption) ?_
      rotate_left
      · (intro w hSw; (try dsimp only at hSw); go_simp) <;> with_reducible rfl
      (try simp only [Act.put, List.getElem_toArray, List.getElem_cons_zero, List.getElem_cons_succ, List.setIfInBounds_toArray, List.set_cons_zero, List.set_cons_succ])
      refine wpAnyH_take (i := 2) (v := ?_) rfl (by kernel_rfl) (by kernel_rfl) (by kernel_rfl) (fun _ _ _ h => h) (Or.inl ⟨by kernel_rfl, ?_⟩) (by assumption) ?_
      rotate_left
      · (intro w hSw; (try dsimp only at hSw); go_simp) <;> with_reducible rfl
      (try simp only [Act.put, List.getElem_toArray, List.getElem_cons_zero, List.getElem_cons_succ, List.setIfInBounds_toArray, List.set_cons_zero, List.set_cons_succ])
      refine wpAnyH_take (i := 3) (v := ?_) rfl (by kernel_rfl) (by kernel_rfl) (by kernel_rfl) (fun _ _ _ h => h) (Or.inl ⟨by kernel_rfl, ?_⟩) (by assumption) ?_
      rotate_left
      · (intro w hSw; (try dsimp only at hSw); go_simp) <;> with_reducible rfl
      (try simp only [Act.put, List.getElem_toArray, List.getElem_cons_zero, List.getElem_cons_succ, List.setIfInBounds_toArray, List.set_cons_zero, List.set_cons_succ])
      refine wpAnyH_take (i := 4) (v := ?_) rfl (by kernel_rfl) (by kernel_rfl) (by kernel_rfl) (fun _ _ _ h => h) (Or.inl ⟨by kernel_rfl, ?_⟩) (by assumption) ?_
      rotate_left
      · (intro w hSw; (try dsimp only at hSw); go_simp) <;> with_reducible rfl
      (try simp only [Act.put, List.getElem_toArray, List.getElem_cons_zero, List.getElem_cons_succ, List.setIfInBounds_toArray, List.set_cons_zero, List.set_cons_succ])
      refine wpAnyH_take (i := 5) (v := ?_) rfl (by kernel_rfl) (by kernel_rfl) (by kernel_rfl) (fun _ _ _ h => h) (Or.inl ⟨by kernel_rfl, ?_⟩) (by assumption) ?_
      rotate_left
      · (intro w hSw; (try dsimp only at hSw); go_simp) <;> with_reducible rfl
      (try simp only [Act.put, List.getElem_toArray, List.getElem_cons_zero, List.getElem_cons_succ, List.setIfInBounds_toArray, List.set_cons_zero, List.set_cons_succ])
      refine wpAnyH_take (i := 6) (v := ?_) rfl (by kernel_rfl) (by kernel_rfl) (by kernel_rfl) (fun _ _ _ h => h) (Or.inl ⟨by kernel_rfl, ?_⟩) (by assumption) ?_
      rotate_left
      · (intro w hSw; (try dsimp only at hSw); go_simp) <;> with_reducible rfl
      (try simp only [Act.put, List.getElem_toArray, List.getElem_cons_zero, List.getElem_cons_succ, List.setIfInBounds_toArray, List.set_cons_zero, List.set_cons_succ])
      refine wpAnyH_take (i := 7) (v := ?_) rfl (by kernel_rfl) (by kernel_rfl) (by kernel_rfl) (fun _ _ _ h => h) (Or.inl ⟨by kernel_rfl, ?_⟩) (by assumption) ?_
      rotate_left
      · (intro w hSw; (try dsimp only at hSw); go_simp) <;> with_reducible rfl
      (try simp only [Act.put, List.getElem_toArray, List.getElem_cons_zero, List.getElem_cons_succ, List.setIfInBounds_toArray, List.set_cons_zero, List.set_cons_succ])
      refine wpAnyH_take (i := 8) (v := ?_) rfl (by kernel_rfl) (by kernel_rfl) (by kernel_rfl) (fun _ _ _ h => h) (Or.inl ⟨by kernel_rfl, ?_⟩) (by assumption) ?_
      rotate_left
      · (intro w hSw; (try dsimp only at hSw); go_simp) <;> with_reducible rfl
      (try simp only [Act.put, List.getElem_toArray, List.getElem_cons_zero, List.getElem_cons_succ, List.setIfInBounds_toArray, List.set_cons_zero, List.set_cons_succ])
      refine wpAnyH_take (i := 9) (v := ?_) rfl (by kernel_rfl) (by kernel_rfl) (by kernel_rfl) (fun _ _ _ h => h) (Or.inl ⟨by kernel_rfl, ?_⟩) (by assumption) ?_
      rotate_left
      · (intro w hSw; (try dsimp only at hSw); go_simp) <;> with_reducible rfl
      (try simp only [Act.put, List.getElem_toArray, List.getElem_cons_zero, List.getElem_cons_succ, List.setIfInBounds_toArray, List.set_cons_zero, List.set_cons_succ])
      refine wpAnyH_take (i := 10) (v := ?_) rfl (by kernel_rfl) (by kernel_rfl) (by kernel_rfl) (fun _ _ _ h => h) (Or.inl ⟨by kernel_rfl, ?_⟩) (by assumption) ?_
      rotate_left
      · (intro w hSw; (try dsimp only at hSw); go_simp) <;> with_reducible rfl
      (try simp only [Act.put, List.getElem_toArray, List.getElem_cons_zero, List.getElem_cons_succ, List.setIfInBounds_toArray, List.set_cons_zero, List.set_cons_succ])
      refine wpAnyH_ready (rs := [11]) (by kernel_rfl) (by simp) ?_
      refine AllReadyH.cons rfl (fun K hK => ?_) AllReadyH.nil
      go_simp
      refine (HBk.out w4.drew).mono ?_
      rintro x w5 ⟨u5, rfl, hr5, hb5⟩
      have hB5 : Below w4.heap.size w4 w5 := Below.trans (b := w4.drew) ⟨rfl, rfl, rfl, Nat.le_refl _, fun _ _ => rfl⟩ hb5
      have hR5 := HR4.out.below hB5
      have hK5 := HK4.out.below hB5
      have hx5 := de_keep (P := fun _ => False) (UpdP.of_below hB5) HX4.out (fun e => e)
      obtain ⟨⟨-, k1, k2, -⟩, k4, k5, k6⟩ := deC hx5
      dsimp only at k1 k2 k4 k5 k6
      have hrf := rxput_at hR5 HLk.out en sl A hIA hr5
      have HK5 : Hid _ := hK5
      have HR5 : Hid _ := hR5
      have HX5 : Hid _ := hx5
      have HU5 : Hid (UpdP (BF Y X Q) w w5) := HU4.out.trans (UpdP.of_below hB5)
      clear hK5 hR5 hx5 hb5 hB5 hr5
      refine hK.out _ _ ⟨k1, k2, k5, k6⟩ (fun hHeld => ?_)
      clear hK K
      (try simp only [Act.put, List.getElem_toArray, List.getElem_cons_zero, List.getElem_cons_succ, List.setIfInBounds_toArray, List.set_cons_zero, List.set_cons_succ])
      refine wpAnyH_ready (rs := [12]) (by kernel_rfl) (by simp) ?_
      refine AllReadyH.cons rfl (fun K hK => ?_) AllReadyH.nil
      go_simp
      refine hrf.mono ?_
      rintro x w6 ⟨rfl, hR6, hu6⟩
      have hx6 := de_keep hu6 HX5.out a2
      obtain ⟨⟨-, k1, k2, -⟩, k4, k5, k6⟩ := deC hx6
      dsimp only at k1 k2 k4 k5 k6
      have HF : Hid (DoneS w w6 K0 Y X Q n m en vs l T L last) := Gw.done hn (keepR HK5.out HR5.out hu6) (hR6.gw HD.out.rel HD.out.pos) (by omega) (by omega) (HU5.out.trans (bfR hu6)) (Step.put HD.out.ker.inv sl A ws)
      clear hR6 hx6 hu6 hrf
      refine hK.out _ _ ⟨k1, k2, k5, k6⟩ (fun hHeld => ?_)
      clear hK K
      (try simp only [Act.put, List.getElem_toArray, List.getElem_cons_zero, List.getElem_cons_succ, List.setIfInBounds_toArray, List.set_cons_zero, List.set_cons_succ])
      refine wpAnyH_take (i := 13) (v := ?_) rfl (by kernel_rfl) (by kernel_rfl) (by kernel_rfl) (fun _ _ _ h => h) (Or.inl ⟨by kernel_rfl, ?_⟩) (by assumption) ?_
      rotate_left
      · (intro w hSw; (try dsimp only at hSw); go_simp) <;> with_reducible rfl
      (try simp only [Act.put, List.getElem_toArray, List.getElem_cons_zero, List.getElem_cons_succ, List.setIfInBounds_toArray, List.set_cons_zero, List.set_cons_succ])
      refine wpAnyH_take (i := 14) (v := ?_) rfl (by kernel_rfl) (by kernel_rfl) (by kernel_rfl) (fun _ _ _ h => h) (Or.inl ⟨by kernel_rfl, ?_⟩) (by assumption) ?_
      rotate_left
      · (intro w hSw; (try dsimp only at hSw); go_simp) <;> with_reducible rfl
      (try simp only [Act.put, List.getElem_toArray, List.getElem_cons_zero, List.getElem_cons_succ, List.setIfInBounds_toArray, List.set_cons_zero, List.set_cons_succ])
      refine wpAnyH_done (by kernel_rfl) ?_ _
      go_wp2
      go_ret
      exact ⟨_, rfl, HF.out⟩
    | false =>
      obtain ⟨f1, f3⟩ := wn hr
      have HM : Hid ((∀ k, putRr T en sl A k = 104) ∧ ∀ ws, putLl T l en sl A ws = l) := by
        show _ ∧ _
        unfold putRr putLl
        rw [f3]
        exact ⟨fun k => rfl, fun ws => rfl⟩
      have hfr : findR T en sl fi 2 ≠ 0 := by rw [f1]; decide
      clear wy wn hr f3
      go_wp2_with fail
      refine wp_region_held_drew (S := fun w' => w'.cell? ⟨D, 4, none⟩ = some (.int .i64 fi) ∧ w'.cell? ⟨D, 5, none⟩ = some (.int .i64 nn) ∧ w'.cell? ⟨D, 6, none⟩ = some (.int .u64 vv)) (by kernel_rfl) ⟨g4, g5, g6⟩ (fun hHeld => ?_)
      refine wpAnyH_take (i := 0) (v := ?_) rfl (by kernel_rfl) (by kernel_rfl) (by kernel_rfl) (fun _ _ _ h => h) (Or.inl ⟨by kernel_rfl, ?_⟩) (by assumption) ?_
      rotate_left
      · (intro w hSw; (try dsimp only at hSw); go_simp) <;> with_reducible rfl
      (try simp only [Act.put, List.getElem_toArray, List.getElem_cons_zero, List.setIfInBounds_toArray, List.set_cons_zero, List.set_cons_succ])
      refine wpAnyH_take (i := 1) (v := ?_) rfl (by kernel_rfl) (by kernel_rfl) (by kernel_rfl) (fun _ _ _ h => h) (Or.inl ⟨by kernel_rfl, ?_⟩) (by assumption) ?_
      rotate_left
      · (intro w hSw; (try dsimp only at hSw); go_simp) <;> with_reducible rfl
      (try simp only [Act.put, List.getElem_toArray, List.getElem_cons_zero, List.getElem_cons_succ, List.setIfInBounds_toArray, List.set_cons_zero, List.set_cons_succ])
      refine wpAnyH_take (i := 2) (v := ?_) rfl (by kernel_rfl) (by kernel_rfl) (by kernel_rfl) (fun _ _ _ h => h) (Or.inl ⟨by kernel_rfl, ?_⟩) (by assumption) ?_
      rotate_left
      · (intro w hSw; (try dsimp only at hSw); go_simp) <;> with_reducible rfl
      (try simp only [Act.put, List.getElem_toArray, List.getElem_cons_zero, List.getElem_cons_succ, List.setIfInBounds_toArray, List.set_cons_zero, List.set_cons_succ])
      refine wpAnyH_take (i := 3) (v := ?_) rfl (by kernel_rfl) (by kernel_rfl) (by kernel_rfl) (fun _ _ _ h => h) (Or.inl ⟨by kernel_rfl, ?_⟩) (by assumption) ?_
      rotate_left
      · (intro w hSw; (try dsimp only at hSw); go_simp) <;> with_reducible rfl
      (try simp only [Act.put, List.getElem_toArray, List.getElem_cons_zero, List.getElem_cons_succ, List.setIfInBounds_toArray, List.set_cons_zero, List.set_cons_succ])
      refine wpAnyH_take (i := 4) (v := ?_) rfl (by kernel_rfl) (by kernel_rfl) (by kernel_rfl) (fun _ _ _ h => h) (Or.inl ⟨by kernel_rfl, ?_⟩) (by assumption) ?_
      rotate_left
      · (intro w hSw; (try dsimp only at hSw); go_simp) <;> with_reducible rfl
      (try simp only [Act.put, List.getElem_toArray, List.getElem_cons_zero, List.getElem_cons_succ, List.setIfInBounds_toArray, List.set_cons_zero, List.set_cons_succ])
      refine wpAnyH_take (i := 5) (v := ?_) rfl (by kernel_rfl) (by kernel_rfl) (by kernel_rfl) (fun _ _ _ h => h) (Or.inl ⟨by kernel_rfl, ?_⟩) (by assumption) ?_
      rotate_left
      · (intro w hSw; (try dsimp only at hSw); go_simp) <;> with_reducible rfl
      (try simp only [Act.put, List.getElem_toArray, List.getElem_cons_zero, List.getElem_cons_succ, List.setIfInBounds_toArray, List.set_cons_zero, List.set_cons_succ])
      refine wpAnyH_take (i := 6) (v := ?_) rfl (by kernel_rfl) (by kernel_rfl) (by kernel_rfl) (fun _ _ _ h => h) (Or.inl ⟨by kernel_rfl, ?_⟩) (by assumption) ?_
      rotate_left
      · (intro w hSw; (try dsimp only at hSw); go_simp) <;> with_reducible rfl
      (try simp only [Act.put, List.getElem_toArray, List.getElem_cons_zero, List.getElem_cons_succ, List.setIfInBounds_toArray, List.set_cons_zero, List.set_cons_succ])
      refine wpAnyH_ready (rs := [7]) (by kernel_rfl) (by simp) ?_
      refine AllReadyH.cons rfl (fun K hK => ?_) AllReadyH.nil
      go_simp
      refine (Di.block_row nn vv w2.drew).mono ?_
      rintro x w3 ⟨u3, rfl, hr3, hb3⟩
      have hB3 : Below w2.heap.size w2 w3 := Below.trans (b := w2.drew) ⟨rfl, rfl, rfl, Nat.le_refl _, fun _ _ => rfl⟩ hb3
      have hD3 := HD2.out.below hB3
      have hx3 := de_keep (P := fun _ => False) (UpdP.of_below hB3) HX2.out (fun e => e)
      have hV3 : VAt w3 V K0 en sl := (hB3.block _ (lt_of_heap HV2.out)).trans HV2.out
      obtain ⟨⟨-, k1, k2, -⟩, k4, k5, k6⟩ := deC hx3
      dsimp only at k1 k2 k4 k5 k6
      have HBk : Hid (∀ W : World, Calls Try.prog 29 #[.int .i64 nn, .int .u64 vv] W fun e w' => ∃ u, e = .returned u ∧ URow W.heap.size w' u (Di.blk vv (Di.cnt nn)) ∧ Below W.heap.size W w') := fun W => Di.block_row nn vv W
      generalize Di.blk vv (Di.cnt nn) = ws at *
      have hop := xvput_no hD3.ker hV3 fi hfi u3 hfr
      rw [f1] at hop
      have HD3 : Hid _ := hD3
      have HX3 : Hid _ := hx3
      have HU3 : Hid (UpdP (BF Y X Q) w w3) := HU2.out.trans (UpdP.of_below hB3)
      clear hr3 hb3 hB3 hD3 hx3 hV3
      refine hK.out _ _ ⟨k4, k5, k6⟩ (fun hHeld => ?_)
      clear hK K
      (try simp only [Act.put, List.getElem_toArray, List.getElem_cons_zero, List.getElem_cons_succ, List.setIfInBounds_toArray, List.set_cons_zero, List.set_cons_succ])
      refine wpAnyH_ready (rs := [8]) (by kernel_rfl) (by simp) ?_
      refine AllReadyH.cons rfl (fun K hK => ?_) AllReadyH.nil
      go_simp
      refine hop.mono ?_
      rintro x w4 ⟨rfl, hb4⟩
      have hD4 := HD3.out.below hb4
      have hx4 := de_keep (P := fun _ => False) (UpdP.of_below hb4) HX3.out (fun e => e)
      have HU4 : Hid (UpdP (BF Y X Q) w w4) := HU3.out.trans (UpdP.of_below hb4)
      have HD4 : Hid _ := hD4
      have HK4 : Hid _ := hD4.ker
      have HR4 : Hid _ := hD4.ref
      clear hD4 hb4 hop
      obtain ⟨⟨g0, g1, g2, -⟩, g4, g5, g6⟩ := deC hx4
      dsimp only at g0 g1 g2 g4 g5 g6
      have HX4 : Hid _ := hx4
      clear hx4
      refine hK.out _ _ ⟨g4, g5, g6⟩ (fun hHeld => ?_)
      clear hK K
      (try simp only [Act.put, List.getElem_toArray, List.getElem_cons_zero, List.getElem_cons_succ, List.setIfInBounds_toArray, List.set_cons_zero, List.set_cons_succ])
      refine wpAnyH_take (i := 9) (v := ?_) rfl (by kernel_rfl) (by kernel_rfl) (by kernel_rfl) (fun _ _ _ h => h) (Or.inl ⟨by kernel_rfl, ?_⟩) (by assumption) ?_
      rotate_left
      · (intro w hSw; (try dsimp only at hSw); go_simp) <;> with_reducible rfl
      (try simp only [Act.put, List.getElem_toArray, List.getElem_cons_zero, List.getElem_cons_succ, List.setIfInBounds_toArray, List.set_cons_zero, List.set_cons_succ])
      refine wpAnyH_done (by kernel_rfl) ?_ _
      go_wp2_with fail
      refine wp_region_held_drew (S := fun w' => w'.cell? ⟨D, 1, none⟩ = some (.int .i64 en) ∧ w'.cell? ⟨D, 2, none⟩ = some (.int .i64 sl) ∧ w'.cell? ⟨D, 5, none⟩ = some (.int .i64 nn) ∧ w'.cell? ⟨D, 6, none⟩ = some (.int .u64 vv)) (by kernel_rfl) ⟨g1, g2, g5, g6⟩ (fun hHeld2 => ?_)
      refine wpAnyH_take (i := 0) (v := ?_) rfl (by kernel_rfl) (by kernel_rfl) (by kernel_rfl) (fun _ _ _ h => h) (Or.inl ⟨by kernel_rfl, ?_⟩) (by assumption) ?_
      rotate_left
      · (intro w hSw; (try dsimp only at hSw); go_simp) <;> with_reducible rfl
      (try simp only [Act.put, List.getElem_toArray, List.getElem_cons_zero, List.setIfInBounds_toArray, List.set_cons_zero, List.set_cons_succ])
      refine wpAnyH_take (i := 1) (v := ?_) rfl (by kernel_rfl) (by kernel_rfl) (by kernel_rfl) (fun _ _ _ h => h) (Or.inl ⟨by kernel_rfl, ?_⟩) (by assumption) ?_
      rotate_left
      · (intro w hSw; (try dsimp only at hSw); go_simp) <;> with_reducible rfl
      (try simp only [Act.put, List.getElem_toArray, List.getElem_cons_zero, List.getElem_cons_succ, List.setIfInBounds_toArray, List.set_cons_zero, List.set_cons_succ])
      refine wpAnyH_take (i := 2) (v := ?_) rfl (by kernel_rfl) (by kernel_rfl) (by kernel_rfl) (fun _ _ _ h => h) (Or.inl ⟨by kernel_rfl, ?_⟩) (by assumption) ?_
      rotate_left
      · (intro w hSw; (try dsimp only at hSw); go_simp) <;> with_reducible rfl
      (try simp only [Act.put, List.getElem_toArray, List.getElem_cons_zero, List.getElem_cons_succ, List.setIfInBounds_toArray, List.set_cons_zero, List.set_cons_succ])
      refine wpAnyH_take (i := 3) (v := ?_) rfl (by kernel_rfl) (by kernel_rfl) (by kernel_rfl) (fun _ _ _ h => h) (Or.inl ⟨by kernel_rfl, ?_⟩) (by assumption) ?_
      rotate_left
      · (intro w hSw; (try dsimp only at hSw); go_simp) <;> with_reducible rfl
      (try simp only [Act.put, List.getElem_toArray, List.getElem_cons_zero, List.getElem_cons_succ, List.setIfInBounds_toArray, List.set_cons_zero, List.set_cons_succ])
      refine wpAnyH_take (i := 4) (v := ?_) rfl (by kernel_rfl) (by kernel_rfl) (by kernel_rfl) (fun _ _ _ h => h) (Or.inl ⟨by kernel_rfl, ?_⟩) (by assumption) ?_
      rotate_left
      · (intro w hSw; (try dsimp only at hSw); go_simp) <;> with_reducible rfl
      (try simp only [Act.put, List.getElem_toArray, List.getElem_cons_zero, List.getElem_cons_succ, List.setIfInBounds_toArray, List.set_cons_zero, List.set_cons_succ])
      refine wpAnyH_take (i := 5) (v := ?_) rfl (by kernel_rfl) (by kernel_rfl) (by kernel_rfl) (fun _ _ _ h => h) (Or.inl ⟨by kernel_rfl, ?_⟩) (by assumption) ?_
      rotate_left
      · (intro w hSw; (try dsimp only at hSw); go_simp) <;> with_reducible rfl
      (try simp only [Act.put, List.getElem_toArray, List.getElem_cons_zero, List.getElem_cons_succ, List.setIfInBounds_toArray, List.set_cons_zero, List.set_cons_succ])
      refine wpAnyH_take (i := 6) (v := ?_) rfl (by kernel_rfl) (by kernel_rfl) (by kernel_rfl) (fun _ _ _ h => h) (Or.inl ⟨by kernel_rfl, ?_⟩) (by assumption) ?_
      rotate_left
      · (intro w hSw; (try dsimp only at hSw); go_simp) <;> with_reducible rfl
      (try simp only [Act.put, List.getElem_toArray, List.getElem_cons_zero, List.getElem_cons_succ, List.setIfInBounds_toArray, List.set_cons_zero, List.set_cons_succ])
      refine wpAnyH_take (i := 7) (v := ?_) rfl (by kernel_rfl) (by kernel_rfl) (by kernel_rfl) (fun _ _ _ h => h) (Or.inl ⟨by kernel_rfl, ?_⟩) (by assumption) ?_
      rotate_left
      · (intro w hSw; (try dsimp only at hSw); go_simp) <;> with_reducible rfl
      (try simp only [Act.put, List.getElem_toArray, List.getElem_cons_zero, List.getElem_cons_succ, List.setIfInBounds_toArray, List.set_cons_zero, List.set_cons_succ])
      refine wpAnyH_take (i := 8) (v := ?_) rfl (by kernel_rfl) (by kernel_rfl) (by kernel_rfl) (fun _ _ _ h => h) (Or.inl ⟨by kernel_rfl, ?_⟩) (by assumption) ?_
      rotate_left
      · (intro w hSw; (try dsimp only at hSw); go_simp) <;> with_reducible rfl
      (try simp only [Act.put, List.getElem_toArray, List.getElem_cons_zero, List.getElem_cons_succ, List.setIfInBounds_toArray, List.set_cons_zero, List.set_cons_succ])
      refine wpAnyH_take (i := 9) (v := ?_) rfl (by kernel_rfl) (by kernel_rfl) (by kernel_rfl) (fun _ _ _ h => h) (Or.inl ⟨by kernel_rfl, ?_⟩) (by assumption) ?_
      rotate_left
      · (intro w hSw; (try dsimp only at hSw); go_simp) <;> with_reducible rfl
      (try simp only [Act.put, List.getElem_toArray, List.getElem_cons_zero, List.getElem_cons_succ, List.setIfInBounds_toArray, List.set_cons_zero, List.set_cons_succ])
      refine wpAnyH_take (i := 10) (v := ?_) rfl (by kernel_rfl) (by kernel_rfl) (by kernel_rfl) (fun _ _ _ h => h) (Or.inl ⟨by kernel_rfl, ?_⟩) (by assumption) ?_
      rotate_left
      · (intro w hSw; (try dsimp only at hSw); go_simp) <;> with_reducible rfl
      (try simp only [Act.put, List.getElem_toArray, List.getElem_cons_zero, List.getElem_cons_succ, List.setIfInBounds_toArray, List.set_cons_zero, List.set_cons_succ])
      refine wpAnyH_ready (rs := [11]) (by kernel_rfl) (by simp) ?_
      refine AllReadyH.cons rfl (fun K hK => ?_) AllReadyH.nil
      go_simp
      refine (HBk.out w4.drew).mono ?_
      rintro x w5 ⟨u5, rfl, hr5, hb5⟩
      have hB5 : Below w4.heap.size w4 w5 := Below.trans (b := w4.drew) ⟨rfl, rfl, rfl, Nat.le_refl _, fun _ _ => rfl⟩ hb5
      have hR5 := HR4.out.below hB5
      have hK5 := HK4.out.below hB5
      have hx5 := de_keep (P := fun _ => False) (UpdP.of_below hB5) HX4.out (fun e => e)
      obtain ⟨⟨-, k1, k2, -⟩, k4, k5, k6⟩ := deC hx5
      dsimp only at k1 k2 k4 k5 k6
      have hrf := rxput_at hR5 HLk.out en sl A hIA hr5
      rw [HM.out.1 ws.length, HM.out.2 ws] at hrf
      have HK5 : Hid _ := hK5
      have HR5 : Hid _ := hR5
      have HX5 : Hid _ := hx5
      have HU5 : Hid (UpdP (BF Y X Q) w w5) := HU4.out.trans (UpdP.of_below hB5)
      clear hK5 hR5 hx5 hb5 hB5 hr5
      refine hK.out _ _ ⟨k1, k2, k5, k6⟩ (fun hHeld => ?_)
      clear hK K
      (try simp only [Act.put, List.getElem_toArray, List.getElem_cons_zero, List.getElem_cons_succ, List.setIfInBounds_toArray, List.set_cons_zero, List.set_cons_succ])
      refine wpAnyH_ready (rs := [12]) (by kernel_rfl) (by simp) ?_
      refine AllReadyH.cons rfl (fun K hK => ?_) AllReadyH.nil
      go_simp
      refine hrf.mono ?_
      rintro x w6 ⟨rfl, hR6, hu6⟩
      have hx6 := de_keep hu6 HX5.out a2
      obtain ⟨⟨-, k1, k2, -⟩, k4, k5, k6⟩ := deC hx6
      dsimp only at k1 k2 k4 k5 k6
      have HF : Hid (DoneS w w6 K0 Y X Q n m en vs l T L last) := Gw.done hn (keepR HK5.out HR5.out hu6) (hR6.gw HD.out.rel HD.out.pos) (by omega) (by omega) (HU5.out.trans (bfR hu6)) Step.same
      clear hR6 hx6 hu6 hrf
      refine hK.out _ _ ⟨k1, k2, k5, k6⟩ (fun hHeld => ?_)
      clear hK K
      (try simp only [Act.put, List.getElem_toArray, List.getElem_cons_zero, List.getElem_cons_succ, List.setIfInBounds_toArray, List.set_cons_zero, List.set_cons_succ])
      refine wpAnyH_take (i := 13) (v := ?_) rfl (by kernel_rfl) (by kernel_rfl) (by kernel_rfl) (fun _ _ _ h => h) (Or.inl ⟨by kernel_rfl, ?_⟩) (by assumption) ?_
      rotate_left
      · (intro w hSw; (try dsimp only at hSw); go_simp) <;> with_reducible rfl
      (try simp only [Act.put, List.getElem_toArray, List.getElem_cons_zero, List.getElem_cons_succ, List.setIfInBounds_toArray, List.set_cons_zero, List.set_cons_succ])
      refine wpAnyH_take (i := 14) (v := ?_) rfl (by kernel_rfl) (by kernel_rfl) (by kernel_rfl) (fun _ _ _ h => h) (Or.inl ⟨by kernel_rfl, ?_⟩) (by assumption) ?_
      rotate_left
      · (intro w hSw; (try dsimp only at hSw); go_simp) <;> with_reducible rfl
      (try simp only [Act.put, List.getElem_toArray, List.getElem_cons_zero, List.getElem_cons_succ, List.setIfInBounds_toArray, List.set_cons_zero, List.set_cons_succ])
      refine wpAnyH_done (by kernel_rfl) ?_ _
      go_wp2
      go_ret
      exact ⟨_, rfl, HF.out⟩
  · have hfr := rel_no 2 hre
    have hne : (relE T en sl fi != 0) = true := by simpa using hre
    clear hre
    generalize relE T en sl fi = RE at *
    generalize relA T en sl fi = RA at *
    go_wp2_with fail
    refine wp_region_held_drew (S := fun w' => w'.cell? ⟨D, 4, none⟩ = some (.int .i64 fi) ∧ w'.cell? ⟨D, 5, none⟩ = some (.int .i64 nn) ∧ w'.cell? ⟨D, 6, none⟩ = some (.int .u64 vv)) (by kernel_rfl) ⟨g4, g5, g6⟩ (fun hHeld => ?_)
    refine wpAnyH_take (i := 0) (v := ?_) rfl (by kernel_rfl) (by kernel_rfl) (by kernel_rfl) (fun _ _ _ h => h) (Or.inl ⟨by kernel_rfl, ?_⟩) (by assumption) ?_
    rotate_left
    · (intro w hSw; (try dsimp only at hSw); go_simp) <;> with_reducible rfl
    (try simp only [Act.put, List.getElem_toArray, List.getElem_cons_zero, List.setIfInBounds_toArray, List.set_cons_zero, List.set_cons_succ])
    refine wpAnyH_take (i := 1) (v := ?_) rfl (by kernel_rfl) (by kernel_rfl) (by kernel_rfl) (fun _ _ _ h => h) (Or.inl ⟨by kernel_rfl, ?_⟩) (by assumption) ?_
    rotate_left
    · (intro w hSw; (try dsimp only at hSw); go_simp) <;> with_reducible rfl
    (try simp only [Act.put, List.getElem_toArray, List.getElem_cons_zero, List.getElem_cons_succ, List.setIfInBounds_toArray, List.set_cons_zero, List.set_cons_succ])
    refine wpAnyH_take (i := 2) (v := ?_) rfl (by kernel_rfl) (by kernel_rfl) (by kernel_rfl) (fun _ _ _ h => h) (Or.inl ⟨by kernel_rfl, ?_⟩) (by assumption) ?_
    rotate_left
    · (intro w hSw; (try dsimp only at hSw); go_simp) <;> with_reducible rfl
    (try simp only [Act.put, List.getElem_toArray, List.getElem_cons_zero, List.getElem_cons_succ, List.setIfInBounds_toArray, List.set_cons_zero, List.set_cons_succ])
    refine wpAnyH_take (i := 3) (v := ?_) rfl (by kernel_rfl) (by kernel_rfl) (by kernel_rfl) (fun _ _ _ h => h) (Or.inl ⟨by kernel_rfl, ?_⟩) (by assumption) ?_
    rotate_left
    · (intro w hSw; (try dsimp only at hSw); go_simp) <;> with_reducible rfl
    (try simp only [Act.put, List.getElem_toArray, List.getElem_cons_zero, List.getElem_cons_succ, List.setIfInBounds_toArray, List.set_cons_zero, List.set_cons_succ])
    refine wpAnyH_take (i := 4) (v := ?_) rfl (by kernel_rfl) (by kernel_rfl) (by kernel_rfl) (fun _ _ _ h => h) (Or.inl ⟨by kernel_rfl, ?_⟩) (by assumption) ?_
    rotate_left
    · (intro w hSw; (try dsimp only at hSw); go_simp) <;> with_reducible rfl
    (try simp only [Act.put, List.getElem_toArray, List.getElem_cons_zero, List.getElem_cons_succ, List.setIfInBounds_toArray, List.set_cons_zero, List.set_cons_succ])
    refine wpAnyH_take (i := 5) (v := ?_) rfl (by kernel_rfl) (by kernel_rfl) (by kernel_rfl) (fun _ _ _ h => h) (Or.inl ⟨by kernel_rfl, ?_⟩) (by assumption) ?_
    rotate_left
    · (intro w hSw; (try dsimp only at hSw); go_simp) <;> with_reducible rfl
    (try simp only [Act.put, List.getElem_toArray, List.getElem_cons_zero, List.getElem_cons_succ, List.setIfInBounds_toArray, List.set_cons_zero, List.set_cons_succ])
    refine wpAnyH_take (i := 6) (v := ?_) rfl (by kernel_rfl) (by kernel_rfl) (by kernel_rfl) (fun _ _ _ h => h) (Or.inl ⟨by kernel_rfl, ?_⟩) (by assumption) ?_
    rotate_left
    · (intro w hSw; (try dsimp only at hSw); go_simp) <;> with_reducible rfl
    (try simp only [Act.put, List.getElem_toArray, List.getElem_cons_zero, List.getElem_cons_succ, List.setIfInBounds_toArray, List.set_cons_zero, List.set_cons_succ])
    refine wpAnyH_ready (rs := [7]) (by kernel_rfl) (by simp) ?_
    refine AllReadyH.cons rfl (fun K hK => ?_) AllReadyH.nil
    go_simp
    refine (Di.block_row nn vv w2.drew).mono ?_
    rintro x w3 ⟨u3, rfl, hr3, hb3⟩
    have hB3 : Below w2.heap.size w2 w3 := Below.trans (b := w2.drew) ⟨rfl, rfl, rfl, Nat.le_refl _, fun _ _ => rfl⟩ hb3
    have hD3 := HD2.out.below hB3
    have hx3 := de_keep (P := fun _ => False) (UpdP.of_below hB3) HX2.out (fun e => e)
    have hV3 : VAt w3 V K0 en sl := (hB3.block _ (lt_of_heap HV2.out)).trans HV2.out
    obtain ⟨⟨-, k1, k2, -⟩, k4, k5, k6⟩ := deC hx3
    dsimp only at k1 k2 k4 k5 k6
    have HBk : Hid (∀ W : World, Calls Try.prog 29 #[.int .i64 nn, .int .u64 vv] W fun e w' => ∃ u, e = .returned u ∧ URow W.heap.size w' u (Di.blk vv (Di.cnt nn)) ∧ Below W.heap.size W w') := fun W => Di.block_row nn vv W
    generalize Di.blk vv (Di.cnt nn) = ws at *
    have hop := xvput_no hD3.ker hV3 fi hfi u3 hfr
    generalize findR T en sl fi 2 = FR at *
    have HD3 : Hid _ := hD3
    have HX3 : Hid _ := hx3
    have HU3 : Hid (UpdP (BF Y X Q) w w3) := HU2.out.trans (UpdP.of_below hB3)
    clear hr3 hb3 hB3 hD3 hx3 hV3
    refine hK.out _ _ ⟨k4, k5, k6⟩ (fun hHeld => ?_)
    clear hK K
    (try simp only [Act.put, List.getElem_toArray, List.getElem_cons_zero, List.getElem_cons_succ, List.setIfInBounds_toArray, List.set_cons_zero, List.set_cons_succ])
    refine wpAnyH_ready (rs := [8]) (by kernel_rfl) (by simp) ?_
    refine AllReadyH.cons rfl (fun K hK => ?_) AllReadyH.nil
    go_simp
    refine hop.mono ?_
    rintro x w4 ⟨rfl, hb4⟩
    have hD4 := HD3.out.below hb4
    have hx4 := de_keep (P := fun _ => False) (UpdP.of_below hb4) HX3.out (fun e => e)
    have HU4 : Hid (UpdP (BF Y X Q) w w4) := HU3.out.trans (UpdP.of_below hb4)
    have HD4 : Hid _ := hD4
    clear hD4 hb4 hop
    obtain ⟨⟨g0, g1, g2, -⟩, g4, g5, g6⟩ := deC hx4
    dsimp only at g0 g1 g2 g4 g5 g6
    have HX4 : Hid _ := hx4
    clear hx4
    refine hK.out _ _ ⟨g4, g5, g6⟩ (fun hHeld => ?_)
    clear hK K
    (try simp only [Act.put, List.getElem_toArray, List.getElem_cons_zero, List.getElem_cons_succ, List.setIfInBounds_toArray, List.set_cons_zero, List.set_cons_succ])
    refine wpAnyH_take (i := 9) (v := ?_) rfl (by kernel_rfl) (by kernel_rfl) (by kernel_rfl) (fun _ _ _ h => h) (Or.inl ⟨by kernel_rfl, ?_⟩) (by assumption) ?_
    rotate_left
    · (intro w hSw; (try dsimp only at hSw); go_simp) <;> with_reducible rfl
    (try simp only [Act.put, List.getElem_toArray, List.getElem_cons_zero, List.getElem_cons_succ, List.setIfInBounds_toArray, List.set_cons_zero, List.set_cons_succ])
    refine wpAnyH_done (by kernel_rfl) ?_ _
    have HF : Hid (DoneS w w4 K0 Y X Q n m en vs l T L last) := HD4.out.doneS HU4.out
    go_wp2
    go_ret
    exact ⟨_, rfl, HF.out⟩

set_option maxRecDepth 100000 in
set_option maxHeartbeats 4000000 in
theorem do_6 (h : Duo w K0 Y X Q n m vs l T L last) (hl : L.length ≤ 800) (ht : last ≤ 800) (hm : m ≤ 800000) (d : De) (hfit : d.Fit) (hkd : d.kind = 6) :
    Calls Try.prog 31 #[ptr K0, ptr X, .agg (deRow d)] w fun x w' => ∃ b, x = .returned (.bool b) ∧ DoneS w w' K0 Y X Q n m d.env vs l T L last := by
  obtain ⟨kd, en, sl, ds, fi, nn, vv⟩ := d
  obtain ⟨-, he, hs, hd', hfi, hnn⟩ := hfit
  dsimp only at hkd he hs hd' hfi hnn
  subst hkd
  obtain ⟨W, hW⟩ : ∃ W, W = w.alloc (.cells (deRow ⟨6, en, sl, ds, fi, nn, vv⟩) 62) := ⟨_, rfl⟩
  have hbW : Below w.heap.size w W := by rw [hW]; exact below_alloc _ _
  have hv := view_6 (h.below hbW) hl ht hm ⟨6, en, sl, ds, fi, nn, vv⟩ ⟨⟨by dsimp only; omega, by dsimp only; omega⟩, he, hs, hd', hfi, hnn⟩ rfl
  have HB : Hid (UpdP (BF Y X Q) w W) := UpdP.of_below hbW
  clear hbW h hl ht
  dsimp only [deRow] at hW hv ⊢
  go_enter Try.func31, Try.ntmps31
  go_wp2_with fail
  rw [← hW]
  clear hW
  refine hv.mono ?_
  rintro x w1 ⟨b, rfl, hF⟩
  have HF : Hid (DoneS w w1 K0 Y X Q n m en vs l T L last) := by
    obtain ⟨vs', l', T', L', last', hD, q1, q2, q3, q4⟩ := hF
    exact ⟨vs', l', T', L', last', hD, q1, q2, HB.out.trans q3, q4⟩
  clear hF hv
  go_wp2
  go_ret
  exact ⟨_, rfl, HF.out⟩

set_option maxRecDepth 100000 in
set_option maxHeartbeats 4000000 in
theorem do_7 (h : Duo w K0 Y X Q n m vs l T L last) (hl : L.length ≤ 800) (ht : last ≤ 800) (hm : m ≤ 800000) (d : De) (hfit : d.Fit) (hkd : d.kind = 7) :
    Calls Try.prog 31 #[ptr K0, ptr X, .agg (deRow d)] w fun x w' => ∃ b, x = .returned (.bool b) ∧ DoneS w w' K0 Y X Q n m d.env vs l T L last := by
  obtain ⟨kd, en, sl, ds, fi, nn, vv⟩ := d
  obtain ⟨-, he, hs, hd', hfi, hnn⟩ := hfit
  dsimp only at hkd he hs hd' hfi hnn
  subst hkd
  obtain ⟨W, hW⟩ : ∃ W, W = w.alloc (.cells (deRow ⟨7, en, sl, ds, fi, nn, vv⟩) 62) := ⟨_, rfl⟩
  have hbW : Below w.heap.size w W := by rw [hW]; exact below_alloc _ _
  have hv := view_7 (h.below hbW) hl ht hm ⟨7, en, sl, ds, fi, nn, vv⟩ ⟨⟨by dsimp only; omega, by dsimp only; omega⟩, he, hs, hd', hfi, hnn⟩ rfl
  have HB : Hid (UpdP (BF Y X Q) w W) := UpdP.of_below hbW
  clear hbW h hl ht
  dsimp only [deRow] at hW hv ⊢
  go_enter Try.func31, Try.ntmps31
  go_wp2_with fail
  rw [← hW]
  clear hW
  refine hv.mono ?_
  rintro x w1 ⟨b, rfl, hF⟩
  have HF : Hid (DoneS w w1 K0 Y X Q n m en vs l T L last) := by
    obtain ⟨vs', l', T', L', last', hD, q1, q2, q3, q4⟩ := hF
    exact ⟨vs', l', T', L', last', hD, q1, q2, HB.out.trans q3, q4⟩
  clear hF hv
  go_wp2
  go_ret
  exact ⟨_, rfl, HF.out⟩

theorem do_at (h : Duo w K0 Y X Q n m vs l T L last) (hl : L.length ≤ 800) (ht : last ≤ 800) (hm : m ≤ 800000) (d : De) (hfit : d.Fit) :
    Calls Try.prog 31 #[ptr K0, ptr X, .agg (deRow d)] w fun x w' => ∃ b, x = .returned (.bool b) ∧ DoneS w w' K0 Y X Q n m d.env vs l T L last := by
  have hc : d.kind = 0 ∨ d.kind = 1 ∨ d.kind = 2 ∨ d.kind = 3 ∨ d.kind = 4 ∨ d.kind = 5 ∨ d.kind = 6 ∨ d.kind = 7 ∨ (d.kind < 0 ∨ 7 < d.kind) := by omega
  rcases hc with e | e | e | e | e | e | e | e | e
  · exact do_0 h hl ht hm d hfit e
  · exact do_1 h hl ht hm d hfit e
  · exact do_2 h hl ht hm d hfit e
  · exact do_3 h hl ht hm d hfit e
  · exact do_4 h hl ht hm d hfit e
  · exact do_5 h hl ht hm d hfit e
  · exact do_6 h hl ht hm d hfit e
  · exact do_7 h hl ht hm d hfit e
  · exact do_8 h hl ht hm d hfit e
end
end Go.Proofs.Ytfnafjddajgahaa
