/- Proved: januslaw19.PipesRoom answers true for every number (there are no more pipes than there may be; one that is gone makes room), at the commit of this claim; no condition beyond the row's own. -/
import Derived.Test.YtpnmaoinnmmfdaaPpW
import Derived.ProofKit
import Derived.OpenShut
import Derived.ChangeOld
import Derived.Below
namespace Go.Proofs.Ytpnmaoinnmmfdaa
open Go.ChangeShapes Go.WideShapes Go.ChangeAt Go.RowKit Go.Lib
set_option linter.unusedVariables false

/-- The first k numbers are empty pipes. -/
def upTo (k : Nat) : PS := fun i => if i < k then some [] else none
theorem free_upTo (k : Nat) (hk : k ≤ 16) : free (upTo k) = k := by
  have h : ∀ m i, i + m = 16 → i ≤ k → lowF (upTo k) i m = k := by
    intro m
    induction m with
    | zero => intro i hi hk2; unfold lowF; omega
    | succ m ih =>
      intro i hi hk2
      by_cases e : i = k
      · subst e
        exact lowF_here (by unfold upTo; rw [if_neg (by omega)])
      · rw [lowF_next (l := []) (by unfold upTo; rw [if_pos (by omega)])]
        exact ih (i + 1) (by omega) (by omega)
  exact h 16 0 rfl (by omega)
theorem mk_upTo {k : Nat} (hk : k < 16) : mkI (upTo k) = (k : Int) ∧ mkE (upTo k) = 0 ∧ mkS (upTo k) = upTo (k + 1) := by
  unfold mkI mkE mkS
  rw [free_upTo k (by omega), if_pos hk, if_pos hk, if_pos hk]
  refine ⟨rfl, rfl, ?_⟩
  funext i
  unfold PS.set upTo
  by_cases e : i = k
  · rw [if_pos e, if_pos (by omega)]
  · rw [if_neg e]
    by_cases q : i < k
    · rw [if_pos q, if_pos (by omega)]
    · rw [if_neg q, if_neg (by omega)]
theorem mk_full : mkI (upTo 16) = 0 ∧ mkE (upTo 16) = 11 ∧ mkS (upTo 16) = upTo 16 := by
  unfold mkI mkE mkS
  rw [free_upTo 16 (by omega), if_neg (by omega), if_neg (by omega), if_neg (by omega)]
  exact ⟨rfl, rfl, rfl⟩
theorem up_none : PS.none = upTo 0 := by
  funext i
  unfold upTo PS.none
  rw [if_neg (by omega)]
/-- What is there behind a Put into number 1 and its Drop. -/
theorem up_gone {k : Nat} (h2 : 2 ≤ k) (hk : k ≤ 16) : puI (upTo k) 1 [111, 108, 100] = 3 ∧ drE (puS (upTo k) 1 [111, 108, 100]) 1 = 0 ∧ mkI (drS (puS (upTo k) 1 [111, 108, 100]) 1) = 1 ∧ mkE (drS (puS (upTo k) 1 [111, 108, 100]) 1) = 0 ∧ (inn (mkS (drS (puS (upTo k) 1 [111, 108, 100]) 1)) 1).length = 0 := by
  have hs : upTo k 1 = some [] := by unfold upTo; rw [if_pos (by omega)]
  have h1 : has (upTo k) 1 = true := has_of (i := 1) (by omega) hs
  have hi : inn (upTo k) 1 = [] := inn_of (i := 1) (by omega) hs
  have e1 : puS (upTo k) 1 [111, 108, 100] = (upTo k).set 1 (some [111, 108, 100]) := by unfold puS; rw [if_pos h1, hi]; rfl
  have h2' : has ((upTo k).set 1 (some [111, 108, 100])) 1 = true := has_of (i := 1) (l := [111, 108, 100]) (by omega) (PS.set_same _ _ _)
  have e2 : drS ((upTo k).set 1 (some [111, 108, 100])) 1 = ((upTo k).set 1 (some [111, 108, 100])).set 1 none := by unfold drS; rw [if_pos h2']; rfl
  have hf : free (((upTo k).set 1 (some [111, 108, 100])).set 1 none) = 1 := by
    unfold free
    rw [lowF_next (l := []) (by rw [PS.set_other _ _ _ _ (by omega), PS.set_other _ _ _ _ (by omega)]; unfold upTo; rw [if_pos (by omega)])]
    exact lowF_here (PS.set_same _ _ _)
  refine ⟨by unfold puI; rw [if_pos h1, hi]; rfl, by rw [e1]; unfold drE; rw [if_pos h2'], ?_, ?_, ?_⟩
  · rw [e1, e2]; unfold mkI; rw [hf]; rfl
  · rw [e1, e2]; unfold mkE; rw [hf]; rfl
  · rw [e1, e2]
    unfold mkS
    rw [hf, if_pos (by omega)]
    exact congrArg List.length (inn_of (i := 1) (l := []) (by omega) (PS.set_same _ _ _))
set_option maxRecDepth 100000 in
set_option maxHeartbeats 4000000 in
theorem room_walk (n : Int) (w : World) :
    Calls Try.prog 6 #[.int .i64 n] w fun e w' => e = .returned (.bool true) ∧ Below w.heap.size w w' := by
  obtain ⟨m, hm⟩ : ∃ m : Nat, max 0 (min n 19) = (m : Int) := ⟨(max 0 (min n 19)).toNat, by omega⟩
  have hm19 : m ≤ 19 := by omega
  have hN := new_at w
  rw [up_none] at hN
  obtain ⟨b, hb⟩ : ∃ b, b = w.heap.size := ⟨_, rfl⟩
  rw [← hb] at hN
  have HB : Hid (b = w.heap.size) := hb
  have hne := ptr_eq b
  clear hb
  go_enter Try.func6, Try.ntmps6
  go_wp2_with fail
  refine hN.mono ?_
  rintro x w1 ⟨rfl, hA1, hb1, -⟩
  have HB1 : Hid (Below w.heap.size w w1) := by rw [← HB.out]; exact hb1
  have HA1 : Hid (PpAt w1 b (upTo 0)) := hA1
  clear hN hA1 hb1 hm
  go_wp2
  go_loopw [4] (fun i wr => ∃ (k : Nat), k ≤ m ∧ i = .int .i64 k ∧ PpAt wr b (upTo (min k 16)) ∧ Below w.heap.size w wr) (fun i _ => m - (intOf i).toNat)
  case atStart => exact ⟨0, by omega, rfl, HA1.out, HB1.out⟩
  case round =>
    clear HA1 HB1
    obtain ⟨k, hk, rfl, hA, hbw⟩ := hrel
    have HBw : Hid (Below w.heap.size w wr) := hbw
    clear hbw
    by_cases hlt : k < m
    · have i1 : decide ((k : Int) < (m : Int)) = true := decide_eq_true (by omega)
      have h2 := make_at b _ wr hA
      by_cases h16 : k < 16
      · have i2 : decide ((k : Int) < 16) = true := decide_eq_true (by omega)
        have i3 : decide (16 ≤ (k : Int)) = false := decide_eq_false (by omega)
        rw [Nat.min_eq_left (by omega)] at h2
        obtain ⟨m1, m2, m3⟩ := mk_upTo h16
        rw [m1, m2, m3] at h2
        clear hA m1 m2 m3
        go_wp2_with fail
        refine h2.mono ?_
        rintro x w2 ⟨rfl, hA2, hu2⟩
        have HA2 : Hid (PpAt w2 b (upTo (k + 1))) := hA2
        have HB2 : Hid (Below w.heap.size w w2) := upd_below HBw.out hu2 (by rw [HB.out]; exact Nat.le_refl _)
        clear h2 hA2 hu2 HBw
        go_wp2
        go_roundw
        case rel => exact ⟨k + 1, by omega, by go_num, by rw [Nat.min_eq_left (by omega)]; exact HA2.out, HB2.out⟩
        case measure => simp [intOf]; omega
      · have i2 : decide ((k : Int) < 16) = false := decide_eq_false (by omega)
        have i3 : decide (16 ≤ (k : Int)) = true := decide_eq_true (by omega)
        rw [Nat.min_eq_right (by omega)] at h2
        obtain ⟨m1, m2, m3⟩ := mk_full
        rw [m1, m2, m3] at h2
        clear hA m1 m2 m3
        go_wp2_with fail
        refine h2.mono ?_
        rintro x w2 ⟨rfl, hA2, hu2⟩
        have HA2 : Hid (PpAt w2 b (upTo 16)) := hA2
        have HB2 : Hid (Below w.heap.size w w2) := upd_below HBw.out hu2 (by rw [HB.out]; exact Nat.le_refl _)
        clear h2 hA2 hu2 HBw
        go_wp2
        go_roundw
        case rel => exact ⟨k + 1, by omega, by go_num, by rw [Nat.min_eq_right (by omega)]; exact HA2.out, HB2.out⟩
        case measure => simp [intOf]; omega
    · obtain rfl : k = m := by omega
      have i1 : decide ((k : Int) < (k : Int)) = false := decide_eq_false (by omega)
      by_cases h2 : k < 2
      · have i2 : decide ((k : Int) < 2) = true := decide_eq_true (by omega)
        clear hA
        go_wp2_with fail
        refine (awake_at _).mono ?_
        rintro x w2 ⟨rfl, hb2⟩
        go_wp2
        go_ret
        exact ⟨rfl, HBw.out.trans (hb2.mono HBw.out.size)⟩
      · have i2 : decide ((k : Int) < 2) = false := decide_eq_false (by omega)
        obtain ⟨u1, u2, u3, u4, u5⟩ := up_gone (k := min k 16) (by omega) (by omega)
        generalize upTo (min k 16) = S at *
        have h3 := put_at b S 1 [111, 108, 100] wr hA
        rw [u1] at h3
        generalize puS S 1 [111, 108, 100] = S1 at *
        have U2 : Hid (drE S1 1 = 0) := u2
        have U3 : Hid (mkI (drS S1 1) = 1) := u3
        have U4 : Hid (mkE (drS S1 1) = 0) := u4
        have U5 : Hid ((inn (mkS (drS S1 1)) 1).length = 0) := u5
        clear u1 u2 u3 u4 u5 hA
        go_wp2_with fail
        refine h3.mono ?_
        rintro x w3 ⟨rfl, hA3, hu3⟩
        have HB3 : Hid (Below w.heap.size w w3) := upd_below HBw.out hu3 (by rw [HB.out]; exact Nat.le_refl _)
        have h4 := drop_at b S1 1 w3 hA3
        rw [U2.out] at h4
        clear h3 hA3 hu3
        go_wp2_with fail
        refine h4.mono ?_
        rintro x w4 ⟨rfl, hA4, hu4⟩
        have HB4 : Hid (Below w.heap.size w w4) := upd_below HB3.out hu4 (by rw [HB.out]; exact Nat.le_refl _)
        have h5 := make_at b _ w4 hA4
        rw [U3.out, U4.out] at h5
        clear h4 hA4 hu4
        go_wp2_with fail
        refine h5.mono ?_
        rintro x w5 ⟨rfl, hA5, hu5⟩
        have HB5 : Hid (Below w.heap.size w w5) := upd_below HB4.out hu5 (by rw [HB.out]; exact Nat.le_refl _)
        have h6 := len_at b _ 1 w5 hA5
        rw [U5.out] at h6
        clear h5 hA5 hu5
        go_wp2_with fail
        refine h6.mono ?_
        rintro x w6 ⟨rfl, hb6⟩
        have HB6 : Hid (Below w.heap.size w w6) := HB5.out.trans (hb6.mono HB5.out.size)
        clear h6 hb6
        go_wp2_with fail
        refine (awake_at _).mono ?_
        rintro x w7 ⟨rfl, hb7⟩
        go_wp2
        go_ret
        exact ⟨rfl, HB6.out.trans (hb7.mono HB6.out.size)⟩

theorem own : ownKnob Try.prog.godebug = none := by kernel_rfl
theorem laidOut : laidOutB Try.prog = true := by kernel_rfl

set_option maxRecDepth 100000 in
theorem room_lifted (os : Os) (started : os.Started) (H : Type) (enc : TypeId × Value → H) :
    ReturnsInHanded {} Try.checked os 6 .any (Rows.pipesRoomSpec.pre6 enc Try.prog Try.f6 Rows.pipesRoomRow.domain false) (Rows.pipesRoomSpec.post enc Try.prog Try.f6 false true false false) := by
  refine returnsInHanded_of_change (C := Try.checked) own started (by kernel_rfl) Try.func6
    (ChangeSpec.witness6 (enc := enc) (C := Try.checked) false ⟨#[], #[.int .i64 0], []⟩ 8 (by kernel_rfl) (by kernel_rfl) (by kernel_rfl) (by kernel_rfl)) ?_
  intro W base args ds gs before hval0 hW hcnd _
  have hval : ∀ (j : Nat) t v, Try.f6.params[j]? = some t → args[j]? = some v → Value.okWide Try.prog W .any base t v := hval0
  have hW' := hW
  obtain ⟨p, q, hA0, hV, rfl, hfz, hnd⟩ := hW
  have hA : DataW.TrodAll enc Try.prog W 0 (fun _ => true) true Try.f6.params.toList args.toList ds p := hA0
  rw [Try.params6] at hA hval
  obtain ⟨v0, vs0, d0, ds0, p0, q0, hargs, rfl, rfl, h0, r0⟩ := trodAll_cons hA
  obtain ⟨rfl, rfl, rfl⟩ := trodAll_nil r0
  obtain rfl : args = #[v0] := by cases args; simp_all
  obtain ⟨rfl, rfl⟩ := trodVars_none hV
  obtain ⟨a0, rfl, rfl, rfl, w0⟩ := open_int Try.underlying3 (hval 0 3 v0 rfl rfl) h0
  clear hA0 hval0
  have hwalk : Calls Try.prog 6 #[.int .i64 a0] W fun e w' => e = .returned (.bool true) ∧ Below W.heap.size W w' := room_walk a0 W
  refine hwalk.mono fun e W' ⟨he, bel⟩ => ?_
  subst he
  exact ⟨_, rfl, _, _, _, [], _, [], hW', trodAll_mk1 (shut_bool Try.underlying4 _), (trodAll_cons_mk (shut_int Try.underlying3 w0) trodAll_mk0), rfl, bel.frame _, fun h => by cases h⟩

theorem room_holds : Rows.PipesRoomSaid :=
  OpenClaim.holds_of_wide 6 Try.f6 rfl rfl rfl rfl rfl rfl rfl ⟨rfl, rfl, rfl, rfl, rfl⟩ rfl rfl rfl rfl rfl (by kernel_rfl) Try.func6 (by kernel_rfl)
    (of_decide_eq_true (by kernel_rfl)) (by unfold Func.isWrapper; first | (rw [if_pos (by decide +kernel)]; kernel_rfl) | (rw [if_neg (by decide +kernel)]; exact ⟨rfl, rfl⟩))
    (fun os started H enc _ => room_lifted os started H enc)
#print axioms room_holds
end Go.Proofs.Ytpnmaoinnmmfdaa
