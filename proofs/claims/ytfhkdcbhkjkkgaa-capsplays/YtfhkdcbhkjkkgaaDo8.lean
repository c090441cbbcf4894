/- januslaw08's do: a deed with both answers true, and both tell the same behind it. -/
import Derived.Test.YtfhkdcbhkjkkgaaRefG8
import Derived.Test.YtfhkdcbhkjkkgaaRefI8
namespace Go.Proofs.Ytfhkdcbhkjkkgaa
open Go.RowKit
set_option linter.unusedVariables false

section
variable {T : Tab} {L : List Ce} {last : Int}
theorem rputL_len (L : List Ce) (last n ob : Int) (x : Cp) : (rputL L last n ob x).length ≤ L.length + 1 := by
  unfold rputL
  split
  · omega
  · simp
theorem rputN_le (L : List Ce) (last n : Int) : last ≤ rputN L last n ∧ rputN L last n ≤ last + 1 := by
  unfold rputN
  split <;> omega
theorem Rel.add (h : Rel T L last) (hl : 0 ≤ last) (n : Int) (x : Cp) : addA T n x = raddA L n x ∧ addR T n x = raddE L n x ∧ Rel (addT T n x) (raddL L last n x) (raddN L last n x) ∧ (raddL L last n x).length ≤ L.length + 1 ∧ last ≤ raddN L last n x ∧ raddN L last n x ≤ last + 1 := by
  unfold addA addR addT raddA raddE raddL raddN
  by_cases ho : addOK n x = true
  · have h2 := ho
    simp only [addOK, Bool.and_eq_true] at h2
    rw [if_pos ho, if_pos ho, if_pos ho, if_pos ho, if_pos ho, if_pos ho, if_pos ho]
    exact ⟨(h.free h2.1).symm, (h.putE h2.1).symm, h.put h2.1 hl x h2.2 0 0 0 (Or.inl ⟨rfl, rfl, rfl⟩), rputL_len _ _ _ _ _, (rputN_le _ _ _).1, (rputN_le _ _ _).2⟩
  · rw [if_neg ho, if_neg ho, if_neg ho, if_neg ho, if_neg ho, if_neg ho, if_neg ho]
    exact ⟨rfl, rfl, h, by omega, by omega, by omega⟩
theorem Rel.giveNo {n s : Int} (hi : (getT T n s).is = false) (tg r : Int) : giveA T n s tg r = 0 ∧ giveR T n s tg r = 104 ∧ giveT T n s tg r = T := by
  have ho : giveOK T n s r = false := by unfold giveOK; rw [hi]; rfl
  unfold giveA giveR giveT
  rw [ho]
  exact ⟨rfl, rfl, rfl⟩
theorem Rel.give (h : Rel T L last) (hl : 0 ≤ last) {d : Ce} (hd : d ∈ L) (hg : getT T d.env d.slot = d.x) (hi : (getT T d.env d.slot).is = true) (tg r : Int) : giveA T d.env d.slot tg r = rgiveA L d.x tg r ∧ giveR T d.env d.slot tg r = rgiveE L d.x tg r ∧ Rel (giveT T d.env d.slot tg r) (rgiveL L last d tg r) (rgiveN L last d tg r) ∧ (rgiveL L last d tg r).length ≤ L.length + 1 ∧ last ≤ rgiveN L last d tg r ∧ rgiveN L last d tg r ≤ last + 1 := by
  have ho : giveOK T d.env d.slot r = mayG d.x r := by unfold giveOK; rw [hi, hg]; rfl
  have hH : giveH T d.env d.slot r = ⟨⟨d.x.kind, d.x.id, d.x.len, r⟩, d.env, d.slot⟩ := by unfold giveH; rw [hg]
  unfold giveA giveR giveT rgiveA rgiveE rgiveL rgiveN
  rw [ho, hH]
  by_cases hm : mayG d.x r = true
  · by_cases ht : isE tg = true
    · simp only [hm, ht, if_true]
      refine ⟨(h.free ht).symm, (h.putE ht).symm, h.put ht hl _ ?_ d.no d.env d.slot (Or.inr ⟨d, hd, rfl, rfl, rfl⟩), rputL_len _ _ _ _ _, (rputN_le _ _ _).1, (rputN_le _ _ _).2⟩
      have h1 := h.may d hd
      simp only [mayB, Bool.and_eq_true] at h1 ⊢
      simp only [mayG, Bool.and_eq_true] at hm
      exact ⟨h1.1, hm.1.2⟩
    · rw [if_pos hm, if_pos hm, if_pos hm, if_pos hm, if_pos hm, if_pos hm, if_pos hm, if_neg ht, if_neg ht, if_neg ht, if_neg ht, if_neg ht, if_neg ht, if_neg ht]
      exact ⟨rfl, rfl, h, by omega, by omega, by omega⟩
  · rw [if_neg hm, if_neg hm, if_neg hm, if_neg hm, if_neg hm, if_neg hm, if_neg hm]
    exact ⟨rfl, rfl, h, by omega, by omega, by omega⟩
end
/-- Both lie in the heap, and tell the same. -/
structure Both (w : World) (b c : Nat) (T : Tab) (L : List Ce) (last : Int) : Prop where
  caps : CapsAt w b T
  ref : ∃ sv, RefAt (c + 1) w c sv L last
  rel : Rel T L last
  bc : b < c
  pos : 0 ≤ last
theorem Both.below {w w' : World} {b c : Nat} {T : Tab} {L : List Ce} {last : Int} (h : Both w b c T L last) (hb : Below w.heap.size w w') : Both w' b c T L last := by
  obtain ⟨sv, hr⟩ := h.ref
  exact ⟨h.caps.below hb, ⟨sv, hr.below hb⟩, h.rel, h.bc, h.pos⟩
theorem Both.lt {w : World} {b c : Nat} {T : Tab} {L : List Ce} {last : Int} (h : Both w b c T L last) : c < w.heap.size := by
  obtain ⟨sv, hr⟩ := h.ref
  exact hr.lt
theorem Both.two {w w1 w2 : World} {b c : Nat} {T T' : Tab} {L L' : List Ce} {last last' : Int} {sv : Value} (h : Both w b c T L last) (hC : CapsAt w1 b T') (hU1 : Upd b w w1) (hR : RefAt (c + 1) w2 c sv L' last') (hU2 : Upd c w1 w2) (hr : Rel T' L' last') (hp : 0 ≤ last') :
    Both w2 b c T' L' last' ∧ UpdP (fun k => k = b ∨ k = c) w w2 := by
  have := h.bc
  exact ⟨⟨hC.keep (hU2.block b hC.lt (by omega)), ⟨sv, hR⟩, hr, h.bc, hp⟩, (hU1.p _ (Or.inl rfl)).trans (hU2.p _ (Or.inr rfl))⟩
/-- What a deed leaves. -/
def Done (w w' : World) (b c : Nat) (L : List Ce) (last : Int) : Prop := ∃ T' L' last', Both w' b c T' L' last' ∧ L'.length ≤ L.length + 1 ∧ last' ≤ last + 1 ∧ UpdP (fun k => k = b ∨ k = c) w w'

set_option maxRecDepth 100000 in
set_option maxHeartbeats 4000000 in
theorem do_at (b c : Nat) (T : Tab) (L : List Ce) (last : Int) (d : Deed) (w : World) (h : Both w b c T L last) (hl : L.length ≤ 800) (hla : last ≤ 800) :
    Calls Try.prog 9 #[.pointer (some ⟨b, 0, none⟩), .pointer (some ⟨c, 0, none⟩), .agg (deedRow d)] w fun e w' => e = .returned (.bool true) ∧ Done w w' b c L last := by
  obtain ⟨W, hW⟩ : ∃ W, W = w.alloc (.cells (deedRow d) 32) := ⟨_, rfl⟩
  have hbW : Below w.heap.size w W := by rw [hW]; exact below_alloc _ _
  have hBW := h.below hbW
  have hI : W.heap[w.heap.size]? = some (.cells (deedRow d) 32) := by rw [hW]; exact heap_alloc_new _ _
  have hcw := h.lt
  have hbc := h.bc
  have HW : Hid _ := hW
  have HBW : Hid _ := hBW
  have HUW : Hid (UpdP (fun k => k = b ∨ k = c) w W) := UpdP.of_below hbW
  have HI : Hid _ := hI
  obtain ⟨⟨e0, e1, e2, e3, e4⟩, e5, e6, e7, e8⟩ := deedCells hI
  obtain ⟨sv, hRW⟩ := hBW.ref
  have hMW := hRW.lt
  have hS := hBW.rel.sanes
  have hRS := hBW.rel.rsanes
  have hpos := hBW.pos
  have HD : Hid (∀ w1, Upd b W w1 → w1.heap[w.heap.size]? = some (.cells (deedRow d) 32)) := fun w1 hu => (hu.block _ (lt_of_heap hI) (by omega)).trans hI
  have HR : Hid (∀ w1, Upd b W w1 → RefAt (c + 1) w1 c sv L last ∧ c + 1 ≤ w1.heap.size) := fun w1 hu => ⟨hRW.keepU hu (by omega) (by omega), by have := hu.size; omega⟩
  have HF : Hid (∀ (w1 w2 : World) (T' : Tab) (L' : List Ce) (last' : Int) (sv' : Value), CapsAt w1 b T' → Upd b W w1 → RefAt (c + 1) w2 c sv' L' last' → Upd c w1 w2 → Rel T' L' last' → 0 ≤ last' → L'.length ≤ L.length + 1 → last' ≤ last + 1 → Done w w2 b c L last) := by
    intro w1 w2 T' L' last' sv' q1 q2 q3 q4 q5 q6 q7 q8
    obtain ⟨r1, r2⟩ := hBW.two q1 q2 q3 q4 q5 q6
    exact ⟨T', L', last', r1, q7, q8, HUW.out.trans r2⟩
  clear hW hbW hI h hRW
  obtain ⟨kd, env, slot, tg, rt, x0, x1, x2, x3⟩ := d
  dsimp only [deedRow] at *
  go_enter Try.func9, Try.ntmps9
  have kinds : (kd == 0) = true ∨ ((kd == 0) = false ∧ (kd == 1) = true) ∨ ((kd == 0) = false ∧ (kd == 1) = false ∧ (kd == 2) = true) ∨ ((kd == 0) = false ∧ (kd == 1) = false ∧ (kd == 2) = false ∧ (kd == 3) = true) ∨ ((kd == 0) = false ∧ (kd == 1) = false ∧ (kd == 2) = false ∧ (kd == 3) = false) := by
    simp only [beq_iff_eq, beq_eq_false_iff_ne]
    omega
  rcases kinds with t0 | ⟨t0, t1⟩ | ⟨t0, t1, t2⟩ | ⟨t0, t1, t2, t3⟩ | ⟨t0, t1, t2, t3⟩
  · have ha := add_at b T env ⟨x0, x1, x2, x3⟩ W HBW.out.caps
    obtain ⟨r1, r2, r3, r4, r5, r6⟩ := HBW.out.rel.add hpos env ⟨x0, x1, x2, x3⟩
    rw [r1, r2] at ha
    have HR3 : Hid _ := r3
    dsimp only [cpRow] at ha
    go_wp2_with fail
    rw [← HW.out]
    refine ha.mono ?_
    rintro e w1 ⟨rfl, hC1, hU1⟩
    obtain ⟨hR1, hM1⟩ := HR.out w1 hU1
    have hra := radd_at (c + 1) c sv L last env ⟨x0, x1, x2, x3⟩ w1 hR1 hM1 (by omega) ⟨hpos, by omega⟩
    dsimp only [cpRow] at hra
    obtain ⟨⟨k0, k1, k2, k3, k4⟩, k5, k6, k7, k8⟩ := deedCells (d := ⟨kd, env, slot, tg, rt, x0, x1, x2, x3⟩) (HD.out w1 hU1)
    dsimp only at k0 k1 k2 k3 k4 k5 k6 k7 k8
    generalize raddA L env ⟨x0, x1, x2, x3⟩ = A at *
    generalize raddE L env ⟨x0, x1, x2, x3⟩ = E at *
    clear ha hR1 r1 r2 r3 e0 e1 e2 e3 e4 e5 e6 e7 e8
    go_wp2_with fail
    refine hra.mono ?_
    rintro e w2 ⟨rfl, sv', hR2, hU2⟩
    clear hra k0 k1 k2 k3 k4 k5 k6 k7 k8
    go_wp2
    go_ret
    exact ⟨rfl, HF.out w1 w2 _ _ _ sv' hC1 hU1 hR2 hU2 HR3.out (by omega) r4 r6⟩
  · have ha := give_at b T env slot tg rt W HBW.out.caps
    have HFI : Hid _ := HBW.out.rel.find env slot
    go_wp2_with fail
    rw [← HW.out]
    refine ha.mono ?_
    rintro e w1 ⟨rfl, hC1, hU1⟩
    obtain ⟨hR1, hM1⟩ := HR.out w1 hU1
    obtain ⟨⟨k0, k1, k2, k3, k4⟩, k5, k6, k7, k8⟩ := deedCells (d := ⟨kd, env, slot, tg, rt, x0, x1, x2, x3⟩) (HD.out w1 hU1)
    dsimp only at k0 k1 k2 k3 k4 k5 k6 k7 k8
    clear ha e0 e1 e2 e3 e4 e5 e6 e7 e8
    rcases HFI.out with ⟨q1, q2⟩ | ⟨k, d, q1, q2, rfl, rfl, q3, q4⟩
    · obtain ⟨r1, r2, r3⟩ := Rel.giveNo (T := T) q2 tg rt
      rw [r1, r2]
      rw [r3] at hC1
      have hra := rgive_no (c + 1) c sv L last env slot tg rt w1 hR1 (by omega) q1
      have HR1 : Hid _ := hR1
      clear r1 r2 r3 q1 q2 hR1 HFI
      go_wp2_with fail
      refine hra.mono ?_
      rintro e w2 ⟨rfl, hw2⟩
      rw [hw2]
      clear hra k0 k1 k2 k3 k4 k5 k6 k7 k8 hw2
      go_wp2
      go_ret
      exact ⟨rfl, HF.out w1 w1 _ _ _ sv hC1 hU1 HR1.out (Upd.refl _ _) HBW.out.rel hpos (by omega) (by omega)⟩
    · obtain ⟨r1, r2, r3, r4, r5, r6⟩ := HBW.out.rel.give hpos (List.mem_of_getElem? q2) q3 q4 tg rt
      rw [r1, r2]
      have HR3 : Hid _ := r3
      have hra := rgive_yes (c + 1) c sv L last d.env d.slot tg rt k d w1 hR1 hM1 (by omega) ⟨hpos, by omega⟩ q1 q2
      generalize rgiveA L d.x tg rt = A at *
      generalize rgiveE L d.x tg rt = E at *
      clear r1 r2 r3 q1 q2 q3 q4 hR1 HFI
      go_wp2_with fail
      refine hra.mono ?_
      rintro e w2 ⟨rfl, sv', hR2, hU2⟩
      clear hra k0 k1 k2 k3 k4 k5 k6 k7 k8
      go_wp2
      go_ret
      exact ⟨rfl, HF.out w1 w2 _ _ _ sv' hC1 hU1 hR2 hU2 HR3.out (by omega) r4 r6⟩
  · have ha := drop_at b T env slot W HBW.out.caps hS
    obtain ⟨r1, r2, r3⟩ := HBW.out.rel.dropAny env slot
    rw [r2, r3] at ha
    have HR1' : Hid _ := r1
    have hlen := rdropL_len L env slot
    go_wp2_with fail
    rw [← HW.out]
    refine ha.mono ?_
    rintro e w1 ⟨rfl, hC1, hU1⟩
    obtain ⟨hR1, hM1⟩ := HR.out w1 hU1
    have hra := rdrop_at (c + 1) c sv L last env slot w1 hR1 hM1 (by omega) hRS
    obtain ⟨⟨k0, k1, k2, k3, k4⟩, k5, k6, k7, k8⟩ := deedCells (d := ⟨kd, env, slot, tg, rt, x0, x1, x2, x3⟩) (HD.out w1 hU1)
    dsimp only at k0 k1 k2 k3 k4 k5 k6 k7 k8
    generalize rdropA L env slot = A at *
    generalize (if rfindI L env slot < 0 then (104 : Int) else 0) = E at *
    clear ha hR1 r1 r2 r3 e0 e1 e2 e3 e4 e5 e6 e7 e8
    go_wp2_with fail
    refine hra.mono ?_
    rintro e w2 ⟨rfl, sv', hR2, hU2⟩
    clear hra k0 k1 k2 k3 k4 k5 k6 k7 k8
    go_wp2
    go_ret
    exact ⟨rfl, HF.out w1 w2 _ _ _ sv' hC1 hU1 hR2 hU2 HR1'.out hpos (by omega) (by omega)⟩
  · have HFI : Hid _ := HBW.out.rel.find env slot
    rcases HFI.out with ⟨q1, q2⟩ | ⟨k, d, q1, q2, rfl, rfl, q3, q4⟩
    · have ha := revoke_no b T env slot W HBW.out.caps q2
      have HQ1 : Hid _ := q1
      clear q1 q2 HFI
      go_wp2_with fail
      rw [← HW.out]
      refine ha.mono ?_
      rintro e w1 ⟨rfl, hb1⟩
      have hU1 : Upd b W w1 := Upd.of_below hb1
      have hC1 := HBW.out.caps.below hb1
      obtain ⟨hR1, hM1⟩ := HR.out w1 hU1
      have hra := rrevoke_no (c + 1) c sv L last env slot w1 hR1 (by omega) HQ1.out
      have HR1 : Hid _ := hR1
      obtain ⟨⟨k0, k1, k2, k3, k4⟩, k5, k6, k7, k8⟩ := deedCells (d := ⟨kd, env, slot, tg, rt, x0, x1, x2, x3⟩) (HD.out w1 hU1)
      dsimp only at k0 k1 k2 k3 k4 k5 k6 k7 k8
      clear ha hR1 e0 e1 e2 e3 e4 e5 e6 e7 e8
      go_wp2_with fail
      refine hra.mono ?_
      rintro e w2 ⟨rfl, hw2⟩
      rw [hw2]
      clear hra k0 k1 k2 k3 k4 k5 k6 k7 k8 hw2
      go_wp2
      go_ret
      exact ⟨rfl, HF.out w1 w1 _ _ _ sv hC1 hU1 HR1.out (Upd.refl _ _) HBW.out.rel hpos (by omega) (by omega)⟩
    · have ha := revoke_yes b T d.env d.slot W HBW.out.caps q4
      have HQ1 : Hid _ := q1
      have HQ2 : Hid _ := q2
      have HDm : Hid (d ∈ L) := List.mem_of_getElem? q2
      have HQ : Hid (∀ N bad, (revS T (d.env, d.slot) (N + 1)).2.length = N + 1 → Bad L d.no bad → bad.length = N + 1 ∧ Rel (revS T (d.env, d.slot) (N + 1)).1 (rrevL L d.no bad) last) := fun N bad hN hb => HBW.out.rel.rev HDm.out N hN hb
      clear q1 q2 q3 q4 HFI
      go_wp2_with fail
      rw [← HW.out]
      refine ha.mono ?_
      rintro e w1 ⟨N, hN, rfl, hC1, hU1⟩
      obtain ⟨hR1, hM1⟩ := HR.out w1 hU1
      have hra := rrevoke_yes (c + 1) c sv L last d.env d.slot k d w1 hR1 hM1 (by omega) HQ1.out HQ2.out
      have HN : Hid _ := hN
      obtain ⟨⟨k0, k1, k2, k3, k4⟩, k5, k6, k7, k8⟩ := deedCells (d := ⟨kd, d.env, d.slot, tg, rt, x0, x1, x2, x3⟩) (HD.out w1 hU1)
      dsimp only at k0 k1 k2 k3 k4 k5 k6 k7 k8
      clear ha hR1 e0 e1 e2 e3 e4 e5 e6 e7 e8 hN
      go_wp2_with fail
      refine hra.mono ?_
      rintro e w2 ⟨bad, hbad, rfl, sv', hR2, hU2⟩
      obtain ⟨s1, s2⟩ := HQ.out N bad HN.out hbad
      have HS2 : Hid _ := s2
      have es : (bad.length : Int) - 1 = (N : Int) := by omega
      rw [es]
      have hlen : (rrevL L d.no bad).length ≤ L.length := List.length_filter_le _ _
      clear hra k0 k1 k2 k3 k4 k5 k6 k7 k8 hbad s1 s2 es
      go_wp2
      go_ret
      exact ⟨rfl, HF.out w1 w2 _ _ _ sv' hC1 hU1 hR2 hU2 HS2.out hpos (by omega) (by omega)⟩
  · have ha := gone_at b T env W HBW.out.caps hS
    have HG : Hid _ := HBW.out.rel.gone env 64
    have hlen := rgoneL_len L env 64
    go_wp2_with fail
    rw [← HW.out]
    refine ha.mono ?_
    rintro e w1 ⟨rfl, hC1, hU1⟩
    obtain ⟨hR1, hM1⟩ := HR.out w1 hU1
    have hra := rgone_at (c + 1) c sv L last env w1 hR1 hM1 (by omega) hRS
    obtain ⟨⟨k0, k1, k2, k3, k4⟩, k5, k6, k7, k8⟩ := deedCells (d := ⟨kd, env, slot, tg, rt, x0, x1, x2, x3⟩) (HD.out w1 hU1)
    dsimp only at k0 k1 k2 k3 k4 k5 k6 k7 k8
    clear ha hR1 e0 e1 e2 e3 e4 e5 e6 e7 e8
    go_wp2_with fail
    refine hra.mono ?_
    rintro e w2 ⟨rfl, sv', hR2, hU2⟩
    clear hra k0 k1 k2 k3 k4 k5 k6 k7 k8
    go_wp2
    go_ret
    exact ⟨rfl, HF.out w1 w2 _ _ _ sv' hC1 hU1 hR2 hU2 HG.out hpos (by omega) (by omega)⟩
end Go.Proofs.Ytfhkdcbhkjkkgaa
