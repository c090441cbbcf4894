/- The reference kernel: Give, Free, Revoke, Gone, Map, Unmap. -/
import Derived.Test.YtfnafjddajgahaaGreatRkC
namespace Go.Proofs.YtfnafjddajgahaaGreat
open Go.RowKit Ca
set_option linter.unusedVariables false

theorem rev_N (T : Tab) (p : Int × Int) (hp : p.2 ≠ 0) : ∃ N, (Ca.revS T p (N + 1)).2.length = N + 1 := by
  have mono : ∀ i, (Ca.revS T p i).2.length ≤ (Ca.revS T p (i + 1)).2.length := by
    intro i
    show _ ≤ (Ca.revS T p (i + 1)).2.length
    rw [Ca.revS]
    split
    · exact Nat.le_refl _
    · simp
  have step : ∀ i, (∃ N, (Ca.revS T p (N + 1)).2.length = N + 1) ∨ i < (Ca.revS T p i).2.length := by
    intro i
    induction i with
    | zero => right; simp [Ca.revS]
    | succ i ih =>
      rcases ih with h | h
      · exact Or.inl h
      · have := mono i
        by_cases e : (Ca.revS T p (i + 1)).2.length = i + 1
        · exact Or.inl ⟨i, e⟩
        · right; omega
  rcases step 769 with h | h
  · exact h
  · have := revS_len T p hp 769
    omega

section
variable {w w' : World} {X : Nat} {Q : RLay} {n : Nat} {vs : List Int} {L : List Ce} {last : Int} {F : Pages} {T : Tab}

theorem rkgive_at (h : RkAt w X Q n vs L last F) (hk : Lnk T L last n F) (e s q r : Int) :
    Calls Tryz.prog 33 #[ptr Q.c, .int .i64 e, .int .i64 s, .int .i64 q, .int .i64 r] w fun x w' => x = .returned (.tuple #[.int .i64 (giveA T e s q r), .int .i64 (giveR T e s q r)]) ∧ Grew w' X Q n vs L last F (giveT T e s q r) ∧ UpdP (RFoot X Q n) w w' := by
  obtain ⟨sv, hC⟩ := h.caps
  have hl := hk.len
  have ht := hk.top
  rcases hk.rel.find e s with ⟨hf, hi⟩ | ⟨k, d, hf, hd, rfl, rfl, hg, hi⟩
  · obtain ⟨q1, q2, q3⟩ := Rel.giveNo hi q r
    rw [q1, q2, q3]
    refine (rgive_no Q.M Q.c sv L last e s q r w hC (by omega) hf).mono ?_
    rintro x w' ⟨hx, rfl⟩
    exact ⟨hx, ⟨L, last, h, hk.rel, hk.pos, by omega, by omega⟩, UpdP.refl _ _⟩
  · obtain ⟨q1, q2, q3, q4, q5, q6⟩ := hk.rel.give hk.pos (List.mem_of_getElem? hd) hg hi q r
    rw [q1, q2]
    refine (rgive_yes Q.M Q.c sv L last d.env d.slot q r k d w hC h.MS (by omega) ⟨hk.pos, by omega⟩ hf hd).mono ?_
    rintro x w' ⟨hx, sv', hc', hu⟩
    have hp := hk.pos
    exact ⟨hx, ⟨_, _, h.updC hc' hu, q3, by omega, q4, q6⟩, hu.p _ (Or.inr (Or.inl rfl))⟩

theorem Lnk.next {T' : Tab} {L' : List Ce} {last' : Int} (hk : Lnk T L last n F) (hr : Rel T' L' last') (hi : KInv T' n) (hp : 0 ≤ last') (h1 : L'.length ≤ L.length) (h2 : last' ≤ last) : Lnk T' L' last' n F :=
  ⟨hr, hi, hk.n1, hk.n2, hk.pg, hp, by have := hk.len; omega, by have := hk.top; omega⟩

theorem rkdrop_caps (h : RkAt w X Q n vs L last F) (hk : Lnk T L last n F) (e s : Int) :
    Calls Tryz.prog 75 #[ptr Q.c, .int .i64 e, .int .i64 s] w fun x w' => x = .returned (.tuple #[.bool (dropB T e s), .int .i64 (dropR T e s)]) ∧ RkAt w' X Q n vs (rdropL L e s) last F ∧ Upd Q.c w w' := by
  obtain ⟨sv, hC⟩ := h.caps
  obtain ⟨q1, q2, q3⟩ := hk.rel.dropAny e s
  rw [q2, q3]
  refine (rdrop_at Q.M Q.c sv L last e s w hC h.MS (by have := hk.len; omega) hk.rsanes).mono ?_
  rintro x w' ⟨hx, sv', hc', hu⟩
  exact ⟨hx, h.updC hc' hu, hu⟩
theorem rkfree_at (h : RkAt w X Q n vs L last F) (hk : Lnk T L last n F) (e s : Int) :
    Calls Tryz.prog 35 #[ptr X, .int .i64 e, .int .i64 s] w fun x w' => x = .returned (.int .i64 (dropR T e s)) ∧ Grew w' X Q n vs L last (tidyF (dropT T e s) F) (dropT T e s) ∧ UpdP (RFoot X Q n) w w' := by
  have hd := rkdrop_caps h hk e s
  have hk2 : Lnk (dropT T e s) (rdropL L e s) last n F := hk.next (hk.rel.dropAny e s).1 (hk.inv.drop e s) hk.pos (rdropL_len L e s) (by omega)
  have HL : Hid _ := rdropL_len L e s
  have HK2 : Hid _ := hk2
  have hc := h.x1
  clear h hk hk2
  generalize dropB T e s = A at *
  generalize dropR T e s = R at *
  generalize dropT T e s = T' at *
  generalize rdropL L e s = L' at *
  go_enter Tryz.func35, Tryz.ntmps35
  go_wp2_with fail
  refine hd.mono ?_
  rintro x w1 ⟨rfl, hK1, hu1⟩
  have ht := rktidy_at hK1 HK2.out
  have HU : Hid (UpdP (RFoot X Q n) w w1) := hu1.p _ (Or.inr (Or.inl rfl))
  clear hK1 hu1 hd hc
  go_wp2_with fail
  refine ht.mono ?_
  rintro x w2 ⟨rfl, hK2, hu2⟩
  have HU2 : Hid _ := HU.out.trans (hu2.p _ (Or.inl rfl))
  have H2 : Hid _ := hK2
  clear hK2 hu2 ht
  go_wp2_with fail
  go_ret
  exact ⟨rfl, ⟨L', last, H2.out, HK2.out.rel, HK2.out.pos, by have := HL.out; omega, by omega⟩, HU2.out⟩

theorem rrev_len (L : List Ce) (root : Int) (bad : List Int) : (rrevL L root bad).length ≤ L.length := List.length_filter_le _ _
theorem rkrevoke_caps (h : RkAt w X Q n vs L last F) (hk : Lnk T L last n F) (e s : Int) :
    Calls Tryz.prog 77 #[ptr Q.c, .int .i64 e, .int .i64 s] w fun x w' => ∃ (N : Int) (L' : List Ce), x = .returned (.tuple #[.int .i64 N, .int .i64 (revR T e s)]) ∧ RkAt w' X Q n vs L' last F ∧ Rel (revT T e s) L' last ∧ L'.length ≤ L.length ∧ Upd Q.c w w' := by
  obtain ⟨sv, hC⟩ := h.caps
  have hl := hk.len
  rcases hk.rel.find e s with ⟨hf, hi⟩ | ⟨k, d, hf, hd, rfl, rfl, hg, hi⟩
  · refine (rrevoke_no Q.M Q.c sv L last e s w hC (by omega) hf).mono ?_
    rintro x w' ⟨hx, rfl⟩
    refine ⟨0, L, by rw [hx]; unfold revR; rw [hi]; rfl, h, ?_, Nat.le_refl _, Upd.refl _ _⟩
    unfold revT
    rw [hi]
    exact hk.rel
  · have hm := List.mem_of_getElem? hd
    obtain ⟨N, hN⟩ := rev_N T (d.env, d.slot) (hk.rel.slot hm)
    refine (rrevoke_yes Q.M Q.c sv L last d.env d.slot k d w hC h.MS (by omega) hf hd).mono ?_
    rintro x w' ⟨bad, hb, hx, sv', hc', hu⟩
    obtain ⟨_, hr⟩ := hk.rel.rev hm N hN hb
    refine ⟨_, rrevL L d.no bad, by rw [hx]; unfold revR; rw [if_pos hi], h.updC hc' hu, ?_, rrev_len _ _ _, hu⟩
    rw [revT_is hi hN]
    exact hr
theorem rkrevoke_at (h : RkAt w X Q n vs L last F) (hk : Lnk T L last n F) (e s : Int) :
    Calls Tryz.prog 36 #[ptr X, .int .i64 e, .int .i64 s] w fun x w' => x = .returned (.int .i64 (revR T e s)) ∧ Grew w' X Q n vs L last (tidyF (revT T e s) F) (revT T e s) ∧ UpdP (RFoot X Q n) w w' := by
  have hd := rkrevoke_caps h hk e s
  have HI : Hid _ := hk.inv.rev e s
  have HK : Hid _ := hk
  have hc := h.x1
  clear h hk
  generalize revR T e s = R at *
  generalize revT T e s = T' at *
  go_enter Tryz.func36, Tryz.ntmps36
  go_wp2_with fail
  refine hd.mono ?_
  rintro x w1 ⟨N, L', rfl, hK1, hr1, hl1, hu1⟩
  have hk2 : Lnk T' L' last n F := HK.out.next hr1 HI.out HK.out.pos hl1 (by omega)
  have ht := rktidy_at hK1 hk2
  have HK2 : Hid _ := hk2
  have HL : Hid _ := hl1
  have HU : Hid (UpdP (RFoot X Q n) w w1) := hu1.p _ (Or.inr (Or.inl rfl))
  clear hK1 hu1 hd hc hk2 hr1 hl1
  go_wp2_with fail
  refine ht.mono ?_
  rintro x w2 ⟨rfl, hK2, hu2⟩
  have HU2 : Hid _ := HU.out.trans (hu2.p _ (Or.inl rfl))
  have H2 : Hid _ := hK2
  clear hK2 hu2 ht
  go_wp2_with fail
  go_ret
  exact ⟨rfl, ⟨L', last, H2.out, HK2.out.rel, HK2.out.pos, by have := HL.out; omega, by omega⟩, HU2.out⟩

theorem rkgone_at (h : RkAt w X Q n vs L last F) (hk : Lnk T L last n F) (e : Int) :
    Calls Tryz.prog 45 #[ptr X, .int .i64 e] w fun x w' => x = .returned (.tuple #[]) ∧ Grew w' X Q n vs L last (tidyF (goneT T e 64) F) (goneT T e 64) ∧ UpdP (RFoot X Q n) w w' := by
  obtain ⟨sv, hC⟩ := h.caps
  have hd := rgone_at Q.M Q.c sv L last e w hC h.MS (by have := hk.len; omega) hk.rsanes
  have hk2 : Lnk (goneT T e 64) (rgoneL L e 64) last n F := hk.next (hk.rel.gone e 64) (hk.inv.gone e 64) hk.pos (rgoneL_len L e 64) (by omega)
  have HL : Hid _ := rgoneL_len L e 64
  have HK2 : Hid _ := hk2
  have hc := h.x1
  have HK : Hid _ := h
  clear h hk hk2 hC
  generalize goneT T e 64 = T' at *
  generalize rgoneL L e 64 = L' at *
  go_enter Tryz.func45, Tryz.ntmps45
  go_wp2_with fail
  refine hd.mono ?_
  rintro x w1 ⟨rfl, sv', hc', hu1⟩
  have ht := rktidy_at (HK.out.updC hc' hu1) HK2.out
  have HU : Hid (UpdP (RFoot X Q n) w w1) := hu1.p _ (Or.inr (Or.inl rfl))
  clear hc' hu1 hd hc
  go_wp2_with fail
  refine ht.mono ?_
  rintro x w2 ⟨rfl, hK2, hu2⟩
  have HU2 : Hid _ := HU.out.trans (hu2.p _ (Or.inl rfl))
  have H2 : Hid _ := hK2
  clear hK2 hu2 ht
  go_wp2_with fail
  go_end0
  exact ⟨rfl, ⟨L', last, H2.out, HK2.out.rel, HK2.out.pos, by have := HL.out; omega, by omega⟩, HU2.out⟩

set_option maxHeartbeats 4000000 in
theorem rkmap_at (h : RkAt w X Q n vs L last F) (hk : Lnk T L last n F) (e p s : Int) (b : Bool) :
    Calls Tryz.prog 37 #[ptr X, .int .i64 e, .int .i64 p, .int .i64 s, .bool b] w fun x w' => x = .returned (.int .i64 (kmapR T e p s b)) ∧ RkAt w' X Q n vs L last (kmapF T F e p s b) ∧ UpdP (RFoot X Q n) w w' := by
  have hE := renv_at e
  cases he : isE e with
  | false =>
    rw [he] at hE
    have HA : Hid (kmapR T e p s b = 101 ∧ kmapF T F e p s b = F) := by
      show _ ∧ _
      simp [kmapR, kmapF, he]
    have HK : Hid _ := h
    clear he h hk
    go_enter Tryz.func37, Tryz.ntmps37
    go_wp2_with (go_at_call 52; refine (hE _).mono ?_; rintro e w1 ⟨rfl, hw1⟩; rw [hw1]; clear hw1 w1)
    go_ret
    exact ⟨by rw [HA.out.1]; rfl, by rw [HA.out.2]; exact HK.out, UpdP.refl _ _⟩
  | true =>
    rw [he] at hE
    cases hp : Mu.isPg p with
    | false =>
      have HA : Hid (kmapR T e p s b = 101 ∧ kmapF T F e p s b = F) := by
        show _ ∧ _
        simp [kmapR, kmapF, hp]
      have HK : Hid _ := h
      rcases pgNot hp with h1 | ⟨h1, h2⟩
      all_goals
        clear he h hp hk
        go_enter Tryz.func37, Tryz.ntmps37
        go_wp2_with (go_at_call 52; refine (hE _).mono ?_; rintro e w1 ⟨rfl, hw1⟩; rw [hw1]; clear hw1 w1)
        go_ret
        exact ⟨by rw [HA.out.1]; rfl, by rw [HA.out.2]; exact HK.out, UpdP.refl _ _⟩
    | true =>
      obtain ⟨m, rfl, hm⟩ := isE_nat he
      obtain ⟨j, rfl⟩ : ∃ j : Nat, p = (j : Int) := ⟨p.toNat, by simp [Mu.isPg] at hp; omega⟩
      have i1 : decide ((j : Int) < 0) = false := by simp
      have i2 : decide (4 ≤ (j : Int)) = false := by simp [Mu.isPg] at hp; simp; omega
      have hcap := rkcap_at h hk m s (prt b) (by cases b; exact Or.inl rfl; exact Or.inr (Or.inr rfl))
      have hv := fun f (hh : frm T m s (prt b) = some f) => hk.inv.frm hh
      have HA : Hid (kmapR T m j s b = (if (frm T m s (prt b)).isSome = true then 0 else 104) ∧ kmapF T F m j s b = match frm T m s (prt b) with | none => F | some f => setF F m (Mu.mapF (F m) j (f, b))) := by
        show _ ∧ _
        simp only [kmapR, kmapF, he, hp, Bool.and_self, if_true, Int.toNat_natCast]
        exact ⟨by first | trivial | rfl, by first | trivial | rfl⟩
      have HK : Hid _ := h
      have HPG : Hid _ := hp
      have HID : Hid (∀ f, frm T m s (prt b) = some f → (getT T m s).id = f) := by
        intro f hf
        unfold frm at hf
        split at hf
        · cases hf; rfl
        · cases hf
      have i3 : (m : Int) < 12 := by omega
      have hq : prt b = if b then 3 else 1 := by cases b <;> rfl
      clear he h hp hk
      generalize getT T m s = gx at *
      cases hfr : frm T m s (prt b) with
      | none =>
        rw [hfr] at hcap
        have HA2 : Hid (kmapR T m j s b = 104 ∧ kmapF T F m j s b = F) := by
          show _ ∧ _
          rw [HA.out.1, HA.out.2, hfr]
          exact ⟨rfl, rfl⟩
        simp only [Option.isSome_none] at hcap
        rw [hq] at hcap
        clear HA hfr hv HID hq
        cases b
        all_goals
          simp only [if_true, if_false, Bool.false_eq_true] at hcap
          go_enter Tryz.func37, Tryz.ntmps37
          go_wp2_with fail
          refine (hE _).mono ?_
          rintro x w1 ⟨rfl, hw1⟩
          rw [hw1]
          clear hw1 w1
          go_wp2_with fail
          refine hcap.mono ?_
          rintro x w1 ⟨rfl, hb1⟩
          go_wp2_with fail
          go_ret
          exact ⟨by rw [HA2.out.1]; rfl, by rw [HA2.out.2]; exact HK.out.below hb1, UpdP.of_below hb1⟩
      | some f =>
        rw [hfr] at hcap
        have hfv := hv f hfr
        have hid := HID.out f hfr
        rw [hid] at hcap
        have HA2 : Hid (kmapR T m j s b = 0 ∧ kmapF T F m j s b = setF F m (Mu.mapF (F m) j (f, b))) := by
          show _ ∧ _
          rw [HA.out.1, HA.out.2, hfr]
          exact ⟨rfl, rfl⟩
        simp only [Option.isSome_some] at hcap
        rw [hq] at hcap
        have HMV : Hid (Mu.mapV j (f, b) = 0) := by
          show _ = _
          simp [Mu.mapV, HPG.out, hfv.1]
        have hmap := fun V (hV : RkAt V X Q n vs L last F) => rmap_at hV.tbl hm (j : Int) (f, b)
        have hmv := HMV.out
        simp only [hmv, Mu.pv] at hmap
        clear HA hfr hv HID hid hq hfv hmv
        cases b
        all_goals
          simp only [if_true, if_false, Bool.false_eq_true] at hcap
          go_enter Tryz.func37, Tryz.ntmps37
          go_wp2_with fail
          refine (hE _).mono ?_
          rintro x w1 ⟨rfl, hw1⟩
          rw [hw1]
          clear hw1 w1
          go_wp2_with fail
          refine hcap.mono ?_
          rintro x w1 ⟨rfl, hb1⟩
          have hK1 := HK.out.below hb1
          have hma := hmap w1 hK1
          have H1 : Hid _ := hK1
          clear hK1 hcap hE hmap
          go_wp2_with fail
          refine hma.mono ?_
          rintro x w2 ⟨rfl, ht2, hu2⟩
          have H2 : Hid _ := H1.out.updT ht2 hu2
          have HU : Hid (UpdP (RFoot X Q n) w w2) := (UpdP.of_below hb1).trans (hu2.p _ (Or.inl rfl))
          clear ht2 hu2 hma
          go_wp2_with fail
          go_ret
          exact ⟨by rw [HA2.out.1]; rfl, by rw [HA2.out.2]; exact H2.out, HU.out⟩

theorem rkunmap_at (h : RkAt w X Q n vs L last F) (e p : Int) :
    Calls Tryz.prog 39 #[ptr X, .int .i64 e, .int .i64 p] w fun x w' => x = .returned (.int .i64 (kunmapR F e p)) ∧ RkAt w' X Q n vs L last (kunmapF F e p) ∧ UpdP (RFoot X Q n) w w' := by
  have hE := renv_at e
  cases he : isE e with
  | false =>
    rw [he] at hE
    have HA : Hid (kunmapR F e p = 101 ∧ kunmapF F e p = F) := by
      show _ ∧ _
      simp [kunmapR, kunmapF, he]
    have HK : Hid _ := h
    clear he h
    go_enter Tryz.func39, Tryz.ntmps39
    go_wp2_with (go_at_call 52; refine (hE _).mono ?_; rintro e w1 ⟨rfl, hw1⟩; rw [hw1]; clear hw1 w1)
    go_ret
    exact ⟨by rw [HA.out.1]; rfl, by rw [HA.out.2]; exact HK.out, UpdP.refl _ _⟩
  | true =>
    rw [he] at hE
    obtain ⟨m, rfl, hm⟩ := isE_nat he
    have hun := runmap_at h.tbl hm p
    have HA : Hid (kunmapR F m p = Mu.unmapV (F m) p ∧ kunmapF F m p = setF F m (Mu.unmapF (F m) p)) := by
      show _ ∧ _
      simp [kunmapR, kunmapF, he]
    have HK : Hid _ := h
    have i3 : (m : Int) < 12 := by omega
    clear he h
    generalize Mu.unmapV (F m) p = V at *
    go_enter Tryz.func39, Tryz.ntmps39
    go_wp2_with fail
    refine (hE _).mono ?_
    rintro x w1 ⟨rfl, hw1⟩
    rw [hw1]
    clear hw1 w1
    go_wp2_with fail
    refine hun.mono ?_
    rintro x w2 ⟨rfl, ht2, hu2⟩
    have H2 : Hid _ := HK.out.updT ht2 hu2
    have HU : Hid (UpdP (RFoot X Q n) w w2) := hu2.p _ (Or.inl rfl)
    clear ht2 hu2 hun
    go_wp2_with fail
    go_ret
    exact ⟨by rw [HA.out.1]; rfl, by rw [HA.out.2]; exact H2.out, HU.out⟩
end
end Go.Proofs.YtfnafjddajgahaaGreat
