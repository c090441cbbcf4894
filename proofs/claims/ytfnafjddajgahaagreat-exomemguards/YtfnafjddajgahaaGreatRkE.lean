/- The reference kernel: Load, Store, Copy, Read, Write, Page. -/
import Derived.Test.YtfnafjddajgahaaGreatRkD
namespace Go.Proofs.YtfnafjddajgahaaGreat
open Go.RowKit Ca
set_option linter.unusedVariables false

section
variable {w w' : World} {X : Nat} {Q : RLay} {n : Nat} {vs : List Int} {L : List Ce} {last : Int} {F : Pages} {T : Tab}

theorem frm_id {e s r f : Int} (hf : frm T e s r = some f) : (getT T e s).id = f := by
  unfold frm at hf
  split at hf
  · cases hf; rfl
  · cases hf

set_option maxHeartbeats 4000000 in
theorem rkload_at (h : RkAt w X Q n vs L last F) (e a : Int) (ha : 0 ≤ a) :
    Calls Tryz.prog 40 #[ptr X, .int .i64 e, .int .u64 a] w fun x w' => x = .returned (.tuple #[.int .u64 (kloadR n vs F e a).1, .int .i64 (kloadR n vs F e a).2]) ∧ Below w.heap.size w w' := by
  have hE := renv_at e
  cases he : isE e with
  | false =>
    rw [he] at hE
    have HA : Hid (kloadR n vs F e a = (0, 101)) := by
      show _ = _
      simp [kloadR, he]
    clear he h
    go_enter Tryz.func40, Tryz.ntmps40
    go_wp2_with (go_at_call 52; refine (hE _).mono ?_; rintro e w1 ⟨rfl, hw1⟩; rw [hw1]; clear hw1 w1)
    go_ret2
    exact ⟨by rw [HA.out]; rfl, Below.refl _ _⟩
  | true =>
    rw [he] at hE
    obtain ⟨m, rfl, hm⟩ := isE_nat he
    have hwk := rwalk_at h.tbl hm a false ha
    have HA : Hid (kloadR n vs F m a = if (Mu.walkV (F m) a false).2.2 = 0 then (Me.valR n vs (Mu.walkV (F m) a false).1 (Mu.walkV (F m) a false).2.1, Me.errW n (Mu.walkV (F m) a false).1 (Mu.walkV (F m) a false).2.1) else (0, (Mu.walkV (F m) a false).2.2)) := by
      show _ = _
      simp only [kloadR, he, if_true, Int.toNat_natCast]
    have HK : Hid _ := h
    have i3 : (m : Int) < 12 := by omega
    clear he h
    generalize Mu.walkV (F m) a false = r at *
    generalize kloadR n vs F m a = R at *
    obtain ⟨f, k, er⟩ := r
    dsimp only [Mu.t3] at *
    by_cases h0 : er = 0
    · subst h0
      have HA2 : Hid (R = (Me.valR n vs f k, Me.errW n f k)) := HA.out
      clear HA
      have hrd : ∀ W, RkAt W X Q n vs L last F → _ := fun W hW => Me.rread_all (W := W) hW.mem f k
      generalize Me.valR n vs f k = V at *
      generalize Me.errW n f k = E at *
      go_enter Tryz.func40, Tryz.ntmps40
      go_wp2_with fail
      refine (hE _).mono ?_
      rintro x w1 ⟨rfl, hw1⟩
      rw [hw1]
      clear hw1 w1
      go_wp2_with fail
      refine hwk.mono ?_
      rintro x w1 ⟨rfl, hb1⟩
      have hK1 := HK.out.below hb1
      have hc0 := hK1.x0
      have hr1 := hrd w1 hK1
      clear hK1 hrd hwk hE
      go_wp2_with fail
      refine hr1.mono ?_
      rintro x w2 ⟨rfl, hw2⟩
      rw [hw2]
      clear hw2 w2
      go_wp2_with fail
      go_ret2
      exact ⟨by rw [HA2.out]; rfl, hb1⟩
    · have HA2 : Hid (R = (0, er)) := by
        show _ = _
        rw [HA.out, if_neg h0]
      clear HA
      go_enter Tryz.func40, Tryz.ntmps40
      go_wp2_with fail
      refine (hE _).mono ?_
      rintro x w1 ⟨rfl, hw1⟩
      rw [hw1]
      clear hw1 w1
      go_wp2_with fail
      refine hwk.mono ?_
      rintro x w1 ⟨rfl, hb1⟩
      go_wp2_with fail
      go_ret2
      exact ⟨by rw [HA2.out]; rfl, hb1⟩

set_option maxHeartbeats 4000000 in
theorem rkstore_at (h : RkAt w X Q n vs L last F) (e a v : Int) (ha : 0 ≤ a) :
    Calls Tryz.prog 41 #[ptr X, .int .i64 e, .int .u64 a, .int .u64 v] w fun x w' => x = .returned (.int .i64 (kstoreR n F e a)) ∧ RkAt w' X Q n (kstoreV n vs F e a v) L last F ∧ UpdP (RFoot X Q n) w w' := by
  have hE := renv_at e
  cases he : isE e with
  | false =>
    rw [he] at hE
    have HA : Hid (kstoreR n F e a = 101 ∧ kstoreV n vs F e a v = vs) := by
      show _ ∧ _
      simp [kstoreR, kstoreV, he]
    have HK : Hid _ := h
    clear he h
    go_enter Tryz.func41, Tryz.ntmps41
    go_wp2_with (go_at_call 52; refine (hE _).mono ?_; rintro e w1 ⟨rfl, hw1⟩; rw [hw1]; clear hw1 w1)
    go_ret
    exact ⟨by rw [HA.out.1]; rfl, by rw [HA.out.2]; exact HK.out, UpdP.refl _ _⟩
  | true =>
    rw [he] at hE
    obtain ⟨m, rfl, hm⟩ := isE_nat he
    have hwk := rwalk_at h.tbl hm a true ha
    have HA : Hid (kstoreR n F m a = (if (Mu.walkV (F m) a true).2.2 = 0 then Me.errW n (Mu.walkV (F m) a true).1 (Mu.walkV (F m) a true).2.1 else (Mu.walkV (F m) a true).2.2) ∧ kstoreV n vs F m a v = if (Mu.walkV (F m) a true).2.2 = 0 then Me.putW n vs (Mu.walkV (F m) a true).1 (Mu.walkV (F m) a true).2.1 v else vs) := by
      show _ ∧ _
      simp only [kstoreR, kstoreV, he, if_true, Int.toNat_natCast, and_self]
    have HK : Hid _ := h
    have i3 : (m : Int) < 12 := by omega
    clear he h
    generalize Mu.walkV (F m) a true = r at *
    generalize kstoreR n F m a = R at *
    generalize kstoreV n vs F m a v = vs' at *
    obtain ⟨f, k, er⟩ := r
    dsimp only [Mu.t3] at *
    by_cases h0 : er = 0
    · subst h0
      have HA2 : Hid (R = Me.errW n f k ∧ vs' = Me.putW n vs f k v) := HA.out
      clear HA
      have hrd : ∀ W, RkAt W X Q n vs L last F → _ := fun W hW => Me.rwrite_all (W := W) hW.mem f k v
      generalize Me.errW n f k = E at *
      go_enter Tryz.func41, Tryz.ntmps41
      go_wp2_with fail
      refine (hE _).mono ?_
      rintro x w1 ⟨rfl, hw1⟩
      rw [hw1]
      clear hw1 w1
      go_wp2_with fail
      refine hwk.mono ?_
      rintro x w1 ⟨rfl, hb1⟩
      have hK1 := HK.out.below hb1
      have hc0 := hK1.x0
      have hr1 := hrd w1 hK1
      have H1 : Hid _ := hK1
      clear hK1 hrd hwk hE
      go_wp2_with fail
      refine hr1.mono ?_
      rintro x w2 ⟨rfl, hM2, hu2⟩
      have H2 : Hid _ := H1.out.updM hM2 hu2
      have HU : Hid (UpdP (RFoot X Q n) w w2) := (UpdP.of_below hb1).trans (hu2.mono (fun b hb => Or.inr (Or.inr hb)))
      clear hM2 hu2 hr1 hc0
      go_wp2_with fail
      go_ret
      exact ⟨by rw [HA2.out.1]; rfl, by rw [HA2.out.2]; exact H2.out, HU.out⟩
    · have HA2 : Hid (R = er ∧ vs' = vs) := by
        show _ ∧ _
        rw [HA.out.1, HA.out.2, if_neg h0, if_neg h0]
        exact ⟨rfl, rfl⟩
      clear HA
      go_enter Tryz.func41, Tryz.ntmps41
      go_wp2_with fail
      refine (hE _).mono ?_
      rintro x w1 ⟨rfl, hw1⟩
      rw [hw1]
      clear hw1 w1
      go_wp2_with fail
      refine hwk.mono ?_
      rintro x w1 ⟨rfl, hb1⟩
      go_wp2_with fail
      go_ret
      exact ⟨by rw [HA2.out.1]; rfl, by rw [HA2.out.2]; exact HK.out.below hb1, UpdP.of_below hb1⟩

set_option maxHeartbeats 4000000 in
theorem rkcopy_at (h : RkAt w X Q n vs L last F) (hk : Lnk T L last n F) (e a b : Int) :
    Calls Tryz.prog 43 #[ptr X, .int .i64 e, .int .i64 a, .int .i64 b] w fun x w' => x = .returned (.int .i64 (kcopyR T n e a b)) ∧ RkAt w' X Q n (kcopyV T n vs e a b) L last F ∧ UpdP (RFoot X Q n) w w' := by
  have h1 := rkcap_at h hk e a 2 (Or.inr (Or.inl rfl))
  have h2 : ∀ W, RkAt W X Q n vs L last F → _ := fun W hW => rkcap_at (w := W) hW hk e b 1 (Or.inl rfl)
  have HA : Hid (kcopyR T n e a b = (match frm T e a 2, frm T e b 1 with | some f, some g => Me.errC n f g | _, _ => 104) ∧ kcopyV T n vs e a b = match frm T e a 2, frm T e b 1 with | some f, some g => Me.putC n vs f g | _, _ => vs) := ⟨rfl, rfl⟩
  have HI1 : Hid (∀ f, frm T e a 2 = some f → (getT T e a).id = f) := fun f hf => frm_id hf
  have HI2 : Hid (∀ f, frm T e b 1 = some f → (getT T e b).id = f) := fun f hf => frm_id hf
  have HK : Hid _ := h
  clear h hk
  generalize frm T e a 2 = p at *
  generalize frm T e b 1 = q at *
  generalize (getT T e a).id = ia at *
  generalize (getT T e b).id = ib at *
  generalize kcopyR T n e a b = R at *
  generalize kcopyV T n vs e a b = vs' at *
  cases p with
  | none =>
    have HA2 : Hid (R = 104 ∧ vs' = vs) := HA.out
    clear HA
    cases q
    all_goals
      simp only [Option.isSome_none, Option.isSome_some] at h1 h2
      go_enter Tryz.func43, Tryz.ntmps43
      go_wp2_with fail
      refine h1.mono ?_
      rintro x w1 ⟨rfl, hb1⟩
      go_wp2_with fail
      refine (h2 w1 (HK.out.below hb1)).mono ?_
      rintro x w2 ⟨rfl, hb2⟩
      go_wp2_with fail
      go_ret
      exact ⟨by rw [HA2.out.1]; rfl, by rw [HA2.out.2]; exact (HK.out.below hb1).below hb2, UpdP.of_below (hb1.trans (hb2.mono hb1.size))⟩
  | some f =>
    have hia := HI1.out f rfl
    subst hia
    cases q with
    | none =>
      have HA2 : Hid (R = 104 ∧ vs' = vs) := HA.out
      clear HA
      simp only [Option.isSome_none, Option.isSome_some] at h1 h2
      go_enter Tryz.func43, Tryz.ntmps43
      go_wp2_with fail
      refine h1.mono ?_
      rintro x w1 ⟨rfl, hb1⟩
      go_wp2_with fail
      refine (h2 w1 (HK.out.below hb1)).mono ?_
      rintro x w2 ⟨rfl, hb2⟩
      go_wp2_with fail
      go_ret
      exact ⟨by rw [HA2.out.1]; rfl, by rw [HA2.out.2]; exact (HK.out.below hb1).below hb2, UpdP.of_below (hb1.trans (hb2.mono hb1.size))⟩
    | some g =>
      have hib := HI2.out g rfl
      subst hib
      have HA2 : Hid (R = Me.errC n ia ib ∧ vs' = Me.putC n vs ia ib) := HA.out
      clear HA HI1 HI2
      have hcp : ∀ W, RkAt W X Q n vs L last F → _ := fun W hW => Me.rcopy_all (W := W) hW.mem ia ib
      generalize Me.errC n ia ib = E at *
      simp only [Option.isSome_some] at h1 h2
      go_enter Tryz.func43, Tryz.ntmps43
      go_wp2_with fail
      refine h1.mono ?_
      rintro x w1 ⟨rfl, hb1⟩
      go_wp2_with fail
      refine (h2 w1 (HK.out.below hb1)).mono ?_
      rintro x w2 ⟨rfl, hb2⟩
      have hK2 := (HK.out.below hb1).below hb2
      have hc0 := hK2.x0
      have hr2 := hcp w2 hK2
      have H2 : Hid _ := hK2
      clear hK2 hcp h1 h2
      go_wp2_with fail
      refine hr2.mono ?_
      rintro x w3 ⟨rfl, hM3, hu3⟩
      have H3 : Hid _ := H2.out.updM hM3 hu3
      have HU : Hid (UpdP (RFoot X Q n) w w3) := (UpdP.of_below (hb1.trans (hb2.mono hb1.size))).trans (hu3.mono (fun b hb => Or.inr (Or.inr hb)))
      clear hM3 hu3 hr2 hc0
      go_wp2_with fail
      go_ret
      exact ⟨by rw [HA2.out.1]; rfl, by rw [HA2.out.2]; exact H3.out, HU.out⟩

theorem rkread_at (h : RkAt w X Q n vs L last F) (hk : Lnk T L last n F) (e s k : Int) :
    Calls Tryz.prog 44 #[ptr X, .int .i64 e, .int .i64 s, .int .i64 k] w fun x w' => x = .returned (.tuple #[.int .u64 (kreadR T n vs e s k).1, .int .i64 (kreadR T n vs e s k).2]) ∧ Below w.heap.size w w' := by
  have h1 := rkcap_at h hk e s 1 (Or.inl rfl)
  have HA : Hid (kreadR T n vs e s k = match frm T e s 1 with | none => (0, 104) | some f => (Me.valR n vs f k, Me.errW n f k)) := rfl
  have HI1 : Hid (∀ f, frm T e s 1 = some f → (getT T e s).id = f) := fun f hf => frm_id hf
  have HK : Hid _ := h
  clear h hk
  generalize frm T e s 1 = p at *
  generalize (getT T e s).id = ia at *
  generalize kreadR T n vs e s k = R at *
  cases p with
  | none =>
    have HA2 : Hid (R = (0, 104)) := HA.out
    clear HA
    simp only [Option.isSome_none] at h1
    go_enter Tryz.func44, Tryz.ntmps44
    go_wp2_with fail
    refine h1.mono ?_
    rintro x w1 ⟨rfl, hb1⟩
    go_wp2_with fail
    go_ret2
    exact ⟨by rw [HA2.out]; rfl, hb1⟩
  | some f =>
    have hia := HI1.out f rfl
    subst hia
    have HA2 : Hid (R = (Me.valR n vs ia k, Me.errW n ia k)) := HA.out
    clear HA HI1
    have hrd : ∀ W, RkAt W X Q n vs L last F → _ := fun W hW => Me.rread_all (W := W) hW.mem ia k
    generalize Me.valR n vs ia k = V at *
    generalize Me.errW n ia k = E at *
    simp only [Option.isSome_some] at h1
    go_enter Tryz.func44, Tryz.ntmps44
    go_wp2_with fail
    refine h1.mono ?_
    rintro x w1 ⟨rfl, hb1⟩
    have hK1 := HK.out.below hb1
    have hc0 := hK1.x0
    have hr1 := hrd w1 hK1
    clear hK1 hrd h1
    go_wp2_with fail
    refine hr1.mono ?_
    rintro x w2 ⟨rfl, hw2⟩
    rw [hw2]
    clear hw2 w2
    go_wp2_with fail
    go_ret2
    exact ⟨by rw [HA2.out]; rfl, hb1⟩

theorem rkwrite_at (h : RkAt w X Q n vs L last F) (hk : Lnk T L last n F) (e s k v : Int) :
    Calls Tryz.prog 21 #[ptr X, .int .i64 e, .int .i64 s, .int .i64 k, .int .u64 v] w fun x w' => x = .returned (.int .i64 (kwriteR T n e s k)) ∧ RkAt w' X Q n (kwriteV T n vs e s k v) L last F ∧ UpdP (RFoot X Q n) w w' := by
  have h1 := rkcap_at h hk e s 2 (Or.inr (Or.inl rfl))
  have HA : Hid (kwriteR T n e s k = (match frm T e s 2 with | none => 104 | some f => Me.errW n f k) ∧ kwriteV T n vs e s k v = match frm T e s 2 with | none => vs | some f => Me.putW n vs f k v) := ⟨rfl, rfl⟩
  have HI1 : Hid (∀ f, frm T e s 2 = some f → (getT T e s).id = f) := fun f hf => frm_id hf
  have HK : Hid _ := h
  clear h hk
  generalize frm T e s 2 = p at *
  generalize (getT T e s).id = ia at *
  generalize kwriteR T n e s k = R at *
  generalize kwriteV T n vs e s k v = vs' at *
  cases p with
  | none =>
    have HA2 : Hid (R = 104 ∧ vs' = vs) := HA.out
    clear HA
    simp only [Option.isSome_none] at h1
    go_enter Tryz.func21, Tryz.ntmps21
    go_wp2_with fail
    refine h1.mono ?_
    rintro x w1 ⟨rfl, hb1⟩
    go_wp2_with fail
    go_ret
    exact ⟨by rw [HA2.out.1]; rfl, by rw [HA2.out.2]; exact HK.out.below hb1, UpdP.of_below hb1⟩
  | some f =>
    have hia := HI1.out f rfl
    subst hia
    have HA2 : Hid (R = Me.errW n ia k ∧ vs' = Me.putW n vs ia k v) := HA.out
    clear HA HI1
    have hrd : ∀ W, RkAt W X Q n vs L last F → _ := fun W hW => Me.rwrite_all (W := W) hW.mem ia k v
    generalize Me.errW n ia k = E at *
    simp only [Option.isSome_some] at h1
    go_enter Tryz.func21, Tryz.ntmps21
    go_wp2_with fail
    refine h1.mono ?_
    rintro x w1 ⟨rfl, hb1⟩
    have hK1 := HK.out.below hb1
    have hc0 := hK1.x0
    have hr1 := hrd w1 hK1
    have H1 : Hid _ := hK1
    clear hK1 hrd h1
    go_wp2_with fail
    refine hr1.mono ?_
    rintro x w2 ⟨rfl, hM2, hu2⟩
    have H2 : Hid _ := H1.out.updM hM2 hu2
    have HU : Hid (UpdP (RFoot X Q n) w w2) := (UpdP.of_below hb1).trans (hu2.mono (fun b hb => Or.inr (Or.inr hb)))
    clear hM2 hu2 hr1 hc0
    go_wp2_with fail
    go_ret
    exact ⟨by rw [HA2.out.1]; rfl, by rw [HA2.out.2]; exact H2.out, HU.out⟩

set_option maxHeartbeats 4000000 in
theorem rkpage_at (h : RkAt w X Q n vs L last F) (e p : Int) :
    Calls Tryz.prog 17 #[ptr X, .int .i64 e, .int .i64 p] w fun x w' => x = .returned (.tuple #[Mu.pv ((kpageV F e p).getD (0, false)), .bool (kpageV F e p).isSome]) ∧ Below w.heap.size w w' := by
  have hE := renv_at e
  have hK := h.below (below_alloc w (.cells #[.int .i64 0, .bool false] 35))
  clear h
  cases he : isE e with
  | false =>
    rw [he] at hE
    have HA : Hid (kpageV F e p = none) := by
      show _ = _
      simp [kpageV, he]
    clear he hK
    go_enter Tryz.func17, Tryz.ntmps17
    go_wp2_with (go_at_call 52; refine (hE _).mono ?_; rintro e w1 ⟨rfl, hw1⟩; rw [hw1]; clear hw1 w1)
    (try simp only [Exit.inBlock, Exit.then])
    refine bodyPost_ret (v := .tuple #[.agg #[.int .i64 0, .bool false], .bool false]) ?_ rfl ⟨by rw [HA.out]; rfl, ?_⟩
    · rw [results_cell_tmp rfl]
      go_simp
    · (repeat' (first | exact Below.refl _ _ | refine Below.setCell ?_ (by simp) _ | refine Below.alloc ?_ (by simp) _))
  | true =>
    rw [he] at hE
    obtain ⟨m, rfl, hm⟩ := isE_nat he
    have ha := rat_at hK.tbl hm p
    have HA : Hid (kpageV F m p = F m p) := by
      show _ = _
      simp [kpageV, he]
    have i3 : (m : Int) < 12 := by omega
    clear he hK
    generalize F m p = r at *
    generalize hg : r.getD (0, false) = y at *
    obtain ⟨f, b⟩ := y
    have HR : Hid _ := hg
    clear hg
    generalize hi : r.isSome = B at *
    have HI : Hid _ := hi
    clear hi
    unfold Mu.pv at ha
    go_enter Tryz.func17, Tryz.ntmps17
    go_wp2_with fail
    refine (hE _).mono ?_
    rintro x w1 ⟨rfl, hw1⟩
    rw [hw1]
    clear hw1 w1
    go_wp2_with fail
    refine ha.mono ?_
    rintro x w1 ⟨rfl, hb1⟩
    obtain ⟨⟨c0, c1, f0, f1, hs⟩, hB⟩ := page_ret (0, false) false w w1 hb1
    have HB : Hid _ := hB
    clear hb1 hB hE ha
    go_wp2_with fail
    (try simp only [Exit.inBlock, Exit.then])
    refine bodyPost_ret (v := .tuple #[.agg #[.int .i64 f, .bool b], .bool B]) ?_ rfl ⟨by rw [HA.out, HR.out, HI.out]; rfl, ?_⟩
    · rw [results_cell_tmp rfl]
      go_simp
    · (repeat' (first | exact HB.out | refine Below.setCell ?_ (by simp) _ | refine Below.alloc ?_ (by simp) _))
end
end Go.Proofs.YtfnafjddajgahaaGreat
