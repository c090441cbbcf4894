/- Package exoenv: Slice, Pick, Fault, Upcall. -/
import Derived.Test.YteealgnclpfmkaaEnvB
namespace Go.Proofs.Yteealgnclpfmkaa
open Go.RowKit
set_option linter.unusedVariables false

theorem slice_nil (s n : Int) (w : World) :
    Calls Try.prog 13 #[.pointer none, .int .i64 s, .int .i64 n] w fun e w' => e = .returned (.int .i64 101) ∧ w' = w := by
  go_enter Try.func13, Try.ntmps13
  go_wp2
  go_ret
  exact ⟨rfl, rfl⟩
theorem slice_at (b g : Nat) (E : ES) (V : List Int) (s n : Int) (w : World) (h : EnvAt w b g E V) :
    Calls Try.prog 13 #[.pointer (some ⟨b, 0, none⟩), .int .i64 s, .int .i64 n] w fun e w' => e = .returned (.int .i64 (sliceR E V s n)) ∧ EnvAt w' b g E (sliceV E V s n) ∧ UpdP (Mine b g) w w' := by
  have hne := ptr_eq b
  have hI := is_at b g E V n w h
  have HE : Hid _ := h
  have c0 := h.sl
  have hl := h.len
  by_cases hs : 0 ≤ s ∧ s < V.length
  · obtain ⟨j, rfl⟩ : ∃ j : Nat, s = j := ⟨s.toNat, by omega⟩
    have hj : j < V.length := by omega
    have g0 : decide ((j : Int) < 0) = false := decide_eq_false (by omega)
    have g1 : decide ((V.length : Int) ≤ (j : Int)) = false := decide_eq_false (by omega)
    have hji : (j : Int) < (V.length : Int) := by omega
    have c1 := h.vcell (List.getElem?_eq_getElem hj)
    have f1 := h.freeg j
    by_cases hn : n = -1
    · subst hn
      have HR : Hid (sliceR E V j (-1) = 0) := by show _ = _; unfold sliceR; rw [if_pos hs, if_pos (Or.inl rfl)]
      have HV : Hid (sliceV E V j (-1) = V.set j (-1)) := by show _ = _; unfold sliceV; rw [if_pos ⟨hs, Or.inl rfl⟩]; rfl
      clear h hI hs
      go_enter Try.func13, Try.ntmps13
      go_wp2
      go_ret
      refine ⟨by rw [HR.out]; rfl, ?_, mine_g b g _ _ _⟩
      rw [HV.out]
      exact HE.out.setV j (-1)
    · have ge : (n != -1) = true := by simp [hn]
      cases hb : isB E n with
      | true =>
        have HR : Hid (sliceR E V j n = 0) := by show _ = _; unfold sliceR; rw [if_pos hs, if_pos (Or.inr hb)]
        have HV : Hid (sliceV E V j n = V.set j n) := by show _ = _; unfold sliceV; rw [if_pos ⟨hs, Or.inr hb⟩]; rfl
        rw [hb] at hI
        clear h hs hb hn
        go_enter Try.func13, Try.ntmps13
        go_wp2_with (go_at_call 21; refine hI.mono ?_; rintro e w1 ⟨rfl, hw⟩; rw [hw]; clear hw w1)
        go_ret
        refine ⟨by rw [HR.out]; rfl, ?_, mine_g b g _ _ _⟩
        rw [HV.out]
        exact HE.out.setV j n
      | false =>
        have HR : Hid (sliceR E V j n = 106) := by show _ = _; unfold sliceR; rw [if_pos hs, if_neg (by simp [hn, hb])]
        have HV : Hid (sliceV E V j n = V) := by show _ = _; unfold sliceV; rw [if_neg (by simp [hn, hb])]
        rw [hb] at hI
        clear h hs hb hn
        go_enter Try.func13, Try.ntmps13
        go_wp2_with (go_at_call 21; refine hI.mono ?_; rintro e w1 ⟨rfl, hw⟩; rw [hw]; clear hw w1)
        go_ret
        exact ⟨by rw [HR.out]; rfl, by rw [HV.out]; exact HE.out, UpdP.refl _ _⟩
  · have HR : Hid (sliceR E V s n = 101) := by show _ = _; unfold sliceR; rw [if_neg hs]
    have HV : Hid (sliceV E V s n = V) := by show _ = _; unfold sliceV; rw [if_neg (fun q => hs q.1)]
    by_cases h0 : s < 0
    · have g0 : decide (s < 0) = true := decide_eq_true h0
      clear h hs hI
      go_enter Try.func13, Try.ntmps13
      go_wp2
      go_ret
      exact ⟨by rw [HR.out]; rfl, by rw [HV.out]; exact HE.out, UpdP.refl _ _⟩
    · have g0 : decide (s < 0) = false := decide_eq_false h0
      have g1 : decide ((V.length : Int) ≤ s) = true := decide_eq_true (by omega)
      clear h hs hI
      go_enter Try.func13, Try.ntmps13
      go_wp2
      go_ret
      exact ⟨by rw [HR.out]; rfl, by rw [HV.out]; exact HE.out, UpdP.refl _ _⟩

theorem pick_nil (n : Int) (w : World) :
    Calls Try.prog 15 #[.pointer none, .int .i64 n] w fun e w' => e = .returned (.int .i64 (-1)) ∧ w' = w := by
  go_enter Try.func15, Try.ntmps15
  go_wp2
  go_ret
  exact ⟨rfl, rfl⟩
theorem pick_at (b g : Nat) (E : ES) (V : List Int) (n : Int) (w : World) (h : EnvAt w b g E V) :
    Calls Try.prog 15 #[.pointer (some ⟨b, 0, none⟩), .int .i64 n] w fun e w' => e = .returned (.int .i64 (pickA V n)) ∧ w' = w := by
  have hne := ptr_eq b
  have c0 := h.sl
  have hl := h.len
  have hp := h.pos
  obtain ⟨ht1, ht2⟩ := pick_tmod n V.length hp
  have hb1 := Int.tmod_lt_of_pos n (b := (V.length : Int)) (by omega)
  have hb2 := Int.lt_tmod_of_pos n (b := (V.length : Int)) (by omega)
  obtain ⟨i, hi⟩ : ∃ i, i = (n % (V.length : Int)).toNat := ⟨_, rfl⟩
  have HP : Hid (pickA V n = V.getD i 0) := by show _ = _; rw [hi]; rfl
  rw [← hi] at ht1 ht2
  have hv : i < V.length := by
    rcases Int.lt_or_le (n.tmod V.length) 0 with q | q
    · exact (ht1 q).2
    · exact (ht2 (by omega)).2
  have c1 := h.vcell (List.getElem?_eq_getElem hv)
  have HX : Hid (V.getD i 0 = V[i]) := by show _ = _; simp [hv]
  generalize V[i] = x at *
  have ge : ((V.length : Int) == 0) = false := beq_false_of_ne (by omega)
  clear h hi
  by_cases hr : n.tmod (V.length : Int) < 0
  · obtain ⟨h1, -⟩ := ht1 hr
    have g0 : decide (n.tmod (V.length : Int) < 0) = true := decide_eq_true hr
    go_enter Try.func15, Try.ntmps15
    go_wp2
    go_ret
    exact ⟨by rw [HP.out, HX.out]; rfl, rfl⟩
  · obtain ⟨h1, -⟩ := ht2 hr
    have g0 : decide (n.tmod (V.length : Int) < 0) = false := decide_eq_false hr
    go_enter Try.func15, Try.ntmps15
    go_wp2
    go_ret
    exact ⟨by rw [HP.out, HX.out]; rfl, rfl⟩

theorem fault_nil (n a : Int) (w : World) :
    Calls Try.prog 17 #[.pointer none, .int .i64 n, .int .u64 a] w fun e w' => e = .returned (.int .i64 101) ∧ w' = w := by
  go_enter Try.func17, Try.ntmps17
  go_wp2
  go_ret
  exact ⟨rfl, rfl⟩
theorem fault_at (b g : Nat) (E : ES) (V : List Int) (n a : Int) (w : World) (h : EnvAt w b g E V) :
    Calls Try.prog 17 #[.pointer (some ⟨b, 0, none⟩), .int .i64 n, .int .u64 a] w fun e w' => e = .returned (.int .i64 (faultR E n)) ∧ EnvAt w' b g (faultT E n a) V ∧ UpdP (Mine b g) w w' := by
  have hne := ptr_eq b
  have hI := is_at b g E V n w h
  have HE : Hid _ := h
  cases hn : isB E n with
  | false =>
    have HR : Hid (faultR E n = 106) := by show _ = _; simp [faultR, hn]
    have HT : Hid (faultT E n a = E) := by show _ = _; simp [faultT, hn]
    rw [hn] at hI
    clear h hn
    go_enter Try.func17, Try.ntmps17
    go_wp2_with (go_at_call 21; refine hI.mono ?_; rintro e w1 ⟨rfl, hw⟩; rw [hw]; clear hw w1)
    go_ret
    exact ⟨by rw [HR.out]; rfl, by rw [HT.out]; exact HE.out, UpdP.refl _ _⟩
  | true =>
    rw [hn] at hI
    obtain ⟨m, rfl, hm, hl⟩ := isB_nat hn
    obtain ⟨c0, c1, c2⟩ := h.cells hm
    have f1 := h.freeb (m * 3 + 1)
    have f2 := h.freeb (m * 3 + 2)
    cases hw : (E m).waits with
    | true =>
      have HR : Hid (faultR E m = 105) := by show _ = _; simp [faultR, hn, hw]
      have HT : Hid (faultT E m a = E) := by show _ = _; simp [faultT, hw]
      rw [hw] at c1
      clear h hn hl hw c0 c2
      go_enter Try.func17, Try.ntmps17
      go_wp2_with (go_at_call 21; refine hI.mono ?_; rintro e w1 ⟨rfl, hw⟩; rw [hw]; clear hw w1)
      go_ret
      exact ⟨by rw [HR.out]; rfl, by rw [HT.out]; exact HE.out, UpdP.refl _ _⟩
    | false =>
      have HR : Hid (faultR E m = 0) := by show _ = _; simp [faultR, hn, hw]
      have HT : Hid (faultT E m a = E.set m ⟨(E m).lives, true, a⟩) := by show _ = _; simp [faultT, hn, hw]
      rw [hw] at c1
      clear h hn hl hw c0
      go_enter Try.func17, Try.ntmps17
      go_wp2_with (go_at_call 21; refine hI.mono ?_; rintro e w1 ⟨rfl, hw⟩; rw [hw]; clear hw w1)
      go_ret
      refine ⟨by rw [HR.out]; rfl, ?_, (mine_b b g _ _ _).trans (mine_b b g _ _ _)⟩
      rw [HT.out]
      exact HE.out.put2 hm true a

theorem upcall_nil (n : Int) (w : World) :
    Calls Try.prog 19 #[.pointer none, .int .i64 n] w fun e w' => e = .returned (.tuple #[.int .u64 0, .bool false]) ∧ w' = w := by
  have hI := is_nil n w
  go_enter Try.func19, Try.ntmps19
  go_wp2_with (go_at_call 21; refine hI.mono ?_; rintro e w1 ⟨rfl, hw⟩; rw [hw]; clear hw w1)
  go_ret2
  exact ⟨rfl, rfl⟩
theorem updp_alloc (P : Nat → Prop) (w : World) (o : Obj) : UpdP P w (w.alloc o) := UpdP.of_below (below_alloc _ _)
theorem UpdP.drew {P : Nat → Prop} {w w' : World} (h : UpdP P w w') : UpdP P w w'.drew := ⟨h.os, h.tape, h.output, h.size, h.block⟩
theorem EnvAt.drew {w : World} {b g : Nat} {E : ES} {V : List Int} (h : EnvAt w b g E V) : EnvAt w.drew b g E V := h.keep rfl rfl
set_option maxRecDepth 100000 in
theorem upcall_at (b g : Nat) (E : ES) (V : List Int) (n : Int) (w : World) (h : EnvAt w b g E V) :
    Calls Try.prog 19 #[.pointer (some ⟨b, 0, none⟩), .int .i64 n] w fun e w' => e = .returned (.tuple #[.int .u64 (upA E n), .bool (upB E n)]) ∧ EnvAt w' b g (upT E n) V ∧ UpdP (Mine b g) w w' := by
  have hI := is_at b g E V n w h
  have HE : Hid _ := h
  cases hn : isB E n with
  | false =>
    have HR : Hid (upA E n = 0) := by show _ = _; simp [upA, hn]
    have HQ : Hid (upB E n = false) := by show _ = _; simp [upB, hn]
    have HT : Hid (upT E n = E) := by show _ = _; simp [upT, hn]
    rw [hn] at hI
    clear h hn
    go_enter Try.func19, Try.ntmps19
    go_wp2_with (go_at_call 21; refine hI.mono ?_; rintro e w1 ⟨rfl, hw⟩; rw [hw]; clear hw w1)
    go_ret2
    exact ⟨by rw [HR.out, HQ.out]; rfl, by rw [HT.out]; exact HE.out, UpdP.refl _ _⟩
  | true =>
    rw [hn] at hI
    obtain ⟨m, rfl, hm, hl⟩ := isB_nat hn
    have HR : Hid (upA E m = (E m).addr) := by show _ = _; simp [upA, hn]
    have HQ : Hid (upB E m = (E m).waits) := by show _ = _; simp [upB, hn]
    have HT : Hid (upT E m = E.set m ⟨(E m).lives, false, 0⟩) := by show _ = _; simp [upT, hn]
    obtain ⟨c0, c1, c2⟩ := h.cells hm
    have f1 := h.freeb (m * 3 + 1)
    have f2 := h.freeb (m * 3 + 2)
    have f3 := h.freeb (m * 3 + 1 + 1)
    have hlb := h.ltb
    clear h hn hl c0
    go_enter Try.func19, Try.ntmps19
    go_wp2_with (go_at_call 21; refine hI.mono ?_; rintro e w1 ⟨rfl, hw⟩; rw [hw]; clear hw w1)
    go_region
    all_goals
      go_wp2
      go_ret2
      refine ⟨by rw [HR.out, HQ.out]; rfl, ?_, ?_⟩
      · rw [HT.out]
        exact ((HE.out.put2 hm false 0).below (below_alloc _ _)).drew
      · exact (((mine_b b g (m * 3 + 1) w (.bool false)).trans (mine_b b g (m * 3 + 2) _ (.int .u64 0))).trans (updp_alloc _ _ _)).drew
end Go.Proofs.Yteealgnclpfmkaa
