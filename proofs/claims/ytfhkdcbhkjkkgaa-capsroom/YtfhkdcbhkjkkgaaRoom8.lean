/- Proved: januslaw08.CapsRoom answers true for every number (an environment has no more than its slots), at the commit of this claim; no condition beyond the row's own. -/
import Derived.Test.YtfhkdcbhkjkkgaaCapK
import Derived.Lib.MinMax
import Derived.ProofKit
import Derived.OpenShut
import Derived.ChangeOld
import Derived.Below
namespace Go.Proofs.Ytfhkdcbhkjkkgaa
open Go.ChangeShapes Go.WideShapes Go.ChangeAt Go.RowKit Go.Lib
set_option linter.unusedVariables false

/-- The first k slots of environment 3 taken. -/
def roomT (k : Nat) : Tab := fun j => if 192 ≤ j ∧ j < 192 + k then ⟨⟨1, (j : Int) - 191, 1, 7⟩, 0, 0⟩ else Hd.no
theorem roomT_zero : roomT 0 = fun _ => Hd.no := by
  funext j
  unfold roomT
  rw [if_neg (by omega)]
theorem roomT_in {k j : Nat} (h : j < k) : (roomT k (3 * 64 + j)).x.is = true := by
  unfold roomT
  rw [if_pos (by omega)]
  simp [Cp.is]
theorem roomT_out {k j : Nat} (h : k ≤ j) : (roomT k (3 * 64 + j)).x.is = false := by
  unfold roomT
  rw [if_neg (by omega)]
  rfl
theorem roomT_free (k : Nat) (h : k < 64) : freeT (roomT k) 3 = k := freeT_is h (roomT_out (Nat.le_refl _)) (fun j hj => roomT_in hj)
theorem roomT_full : freeT (roomT 64) 3 = 64 := freeT_full (fun j hj => roomT_in hj)
theorem roomT_sanes (k : Nat) (hk : k ≤ 64) : Sanes (roomT k) := by
  intro j hj
  unfold roomT
  split
  · constructor <;> dsimp only <;> omega
  · exact Sane.no
theorem roomOK (i r : Int) (h0 : 0 ≤ i) (h1 : i ≤ 1000) (h2 : 1 ≤ r) (h3 : r ≤ 7) : addOK 3 ⟨1, i, 1, r⟩ = true := by
  simp [addOK, isE, mayB, longOk, areR]
  omega
theorem room_add (k : Nat) (h : k < 64) : addA (roomT k) 3 ⟨1, (k : Int) + 1, 1, 7⟩ = (k : Int) + 1 ∧ addR (roomT k) 3 ⟨1, (k : Int) + 1, 1, 7⟩ = 0 ∧ addT (roomT k) 3 ⟨1, (k : Int) + 1, 1, 7⟩ = roomT (k + 1) := by
  have ho := roomOK ((k : Int) + 1) 7 (by omega) (by omega) (by omega) (by omega)
  have hf : freeT (roomT k) (Int.toNat 3) = k := roomT_free k h
  unfold addA addR addT putA putE putT
  rw [if_pos ho, if_pos ho, if_pos ho, hf, if_pos h, if_pos h, if_pos h]
  refine ⟨by omega, rfl, ?_⟩
  funext j
  by_cases hj : j = (Int.toNat 3) * 64 + k
  · rw [hj, Tab.set_same]
    unfold roomT
    rw [if_pos (by constructor <;> (show _ ; simp) <;> omega)]
    simp
    omega
  · rw [Tab.set_other _ _ _ _ hj]
    have hj' : j ≠ 192 + k := by intro e; exact hj (by rw [e]; rfl)
    unfold roomT
    by_cases h2 : 192 ≤ j ∧ j < 192 + k
    · rw [if_pos h2, if_pos (by omega)]
    · rw [if_neg h2, if_neg (by omega)]
theorem room_add_full (k : Nat) (h : k < 100) : addA (roomT 64) 3 ⟨1, (k : Int) + 1, 1, 7⟩ = 0 ∧ addR (roomT 64) 3 ⟨1, (k : Int) + 1, 1, 7⟩ = 105 ∧ addT (roomT 64) 3 ⟨1, (k : Int) + 1, 1, 7⟩ = roomT 64 := by
  have ho := roomOK ((k : Int) + 1) 7 (by omega) (by omega) (by omega) (by omega)
  have hf : freeT (roomT 64) (Int.toNat 3) = 64 := roomT_full
  unfold addA addR addT putA putE putT
  rw [if_pos ho, if_pos ho, if_pos ho, hf]
  exact ⟨rfl, rfl, rfl⟩
theorem room_last (k : Nat) (h2 : 2 ≤ k) (h : k ≤ 64) : addA (dropT (roomT k) 3 2) 3 ⟨1, 99, 1, 1⟩ = 2 ∧ addR (dropT (roomT k) 3 2) 3 ⟨1, 99, 1, 1⟩ = 0 := by
  have ho := roomOK 99 1 (by omega) (by omega) (by omega) (by omega)
  have hg : (getT (roomT k) 3 2).is = true := by
    have e := getT_nat (roomT k) 3 1 (by omega) (by omega)
    have e2 : getT (roomT k) 3 2 = (roomT k (3 * 64 + 1)).x := e
    rw [e2]
    exact roomT_in (by omega)
  have hd : dropT (roomT k) 3 2 = (hoTo (roomT k) 3 2 (roomT k (dropJ 3 2)).e (roomT k (dropJ 3 2)).s 768).set (dropJ 3 2) Hd.no := by
    unfold dropT
    rw [if_pos hg]
  have hj : dropJ 3 2 = 3 * 64 + 1 := rfl
  have hf : freeT (dropT (roomT k) 3 2) (Int.toNat 3) = 1 := by
    refine freeT_is (m := 3) (by omega) ?_ ?_
    · rw [hd, hj, Tab.set_same]
      rfl
    · intro j hj1
      obtain rfl : j = 0 := by omega
      rw [hd, hj, Tab.set_other _ _ _ _ (by omega), hoTo_x]
      exact roomT_in (by omega)
  unfold addA addR putA putE
  rw [if_pos ho, if_pos ho, hf]
  exact ⟨rfl, rfl⟩

set_option maxHeartbeats 2000000 in
theorem room_walk (n : Int) (w : World) :
    Calls Try.prog 6 #[.int .i64 n] w fun e w' => e = .returned (.bool true) ∧ Below w.heap.size w w' := by
  obtain ⟨N, hN, hN66⟩ : ∃ N : Nat, max 0 (min n 66) = (N : Int) ∧ N ≤ 66 := ⟨(max 0 (min n 66)).toNat, by omega, by omega⟩
  go_enter Try.func6, Try.ntmps6
  go_wp2_with fail
  refine (new_at w).mono ?_
  rintro e w1 ⟨rfl, hC, hB, hsz⟩
  obtain ⟨b, hbq⟩ : ∃ b, b = w.heap.size := ⟨_, rfl⟩
  rw [← hbq] at hC ⊢
  have hbb : w.heap.size ≤ b := by omega
  have HC : Hid (CapsAt w1 b (roomT 0)) := by rw [roomT_zero]; exact hC
  have HB : Hid (Below w.heap.size w w1) := hB
  have hne : ∀ W, (binOp .eql 23 (.pointer (some ⟨b, 0, none⟩)) (.pointer none)).run Try.prog W = .ok (.bool false) W := fun W => by go_simp
  clear hC hB hsz hbq
  clear hN
  go_wp2
  go_loopw [4] (fun s wr => ∃ (k : Nat), k ≤ N ∧ s = .int .i64 ((k : Int) + 1) ∧ CapsAt wr b (roomT (min k 64)) ∧ Below w.heap.size w wr) (fun s _ => 67 - (intOf s).toNat)
  case atStart => exact ⟨0, by omega, rfl, HC.out, HB.out⟩
  case round =>
    clear HC HB
    obtain ⟨k, hk, rfl, hC, hB⟩ := hrel
    by_cases hlt : k < N
    · have HC : Hid _ := hC
      have HB : Hid _ := hB
      have g0 : decide ((k : Int) + 1 ≤ (N : Int)) = true := decide_eq_true (by omega)
      clear hC hB
      go_wp2_with fail
      refine (frame_at _ _ _).mono ?_
      rintro e w2 ⟨rfl, hb2⟩
      have hC2 := HC.out.below hb2
      have HB2 : Hid _ := HB.out.trans (hb2.mono HB.out.size)
      clear hb2 HC HB
      by_cases hk64 : k < 64
      · rw [show min k 64 = k from by omega] at hC2
        have ha := add_at b (roomT k) 3 ⟨1, (k : Int) + 1, 1, 7⟩ w2 hC2
        obtain ⟨e1, e2, e3⟩ := room_add k hk64
        rw [e1, e2, e3] at ha
        clear e1 e2 e3 hC2
        have g1 : decide ((k : Int) + 1 ≤ 64) = true := decide_eq_true (by omega)
        have g2 : decide (64 < (k : Int) + 1) = false := decide_eq_false (by omega)
        go_wp2_with fail
        refine ha.mono ?_
        rintro e w3 ⟨rfl, hC3, hU3⟩
        clear ha
        have HC3 : Hid _ := hC3
        have HB3 : Hid _ := upd_below HB2.out hU3 hbb
        clear hC3 hU3
        go_wp2
        go_roundw
        case rel => exact ⟨k + 1, by omega, by go_num, by rw [show min (k + 1) 64 = k + 1 from by omega]; exact HC3.out, HB3.out⟩
        case measure => simp [intOf]; omega
      · rw [show min k 64 = 64 from by omega] at hC2
        have ha := add_at b (roomT 64) 3 ⟨1, (k : Int) + 1, 1, 7⟩ w2 hC2
        obtain ⟨e1, e2, e3⟩ := room_add_full k (by omega)
        rw [e1, e2, e3] at ha
        clear e1 e2 e3 hC2
        have g1 : decide ((k : Int) + 1 ≤ 64) = false := decide_eq_false (by omega)
        have g2 : decide (64 < (k : Int) + 1) = true := decide_eq_true (by omega)
        go_wp2_with fail
        refine ha.mono ?_
        rintro e w3 ⟨rfl, hC3, hU3⟩
        clear ha
        have HC3 : Hid _ := hC3
        have HB3 : Hid _ := upd_below HB2.out hU3 hbb
        clear hC3 hU3
        go_wp2
        go_roundw
        case rel => exact ⟨k + 1, by omega, by go_num, by rw [show min (k + 1) 64 = 64 from by omega]; exact HC3.out, HB3.out⟩
        case measure => simp [intOf]; omega
    · obtain rfl : k = N := by omega
      have g0 : decide ((k : Int) + 1 ≤ (k : Int)) = false := decide_eq_false (by omega)
      by_cases hN2 : k < 2
      · have g1 : decide ((k : Int) < 2) = true := decide_eq_true (by omega)
        clear hC
        go_wp2_with fail
        refine (awake_at _).mono ?_
        rintro e w3 ⟨rfl, hb3⟩
        go_wp2
        go_ret
        exact ⟨rfl, hB.trans (hb3.mono hB.size)⟩
      · have g1 : decide ((k : Int) < 2) = false := decide_eq_false (by omega)
        have hd := drop_at b (roomT (min k 64)) 3 2 wr hC (roomT_sanes _ (by omega))
        obtain ⟨e1, e2⟩ := room_last (min k 64) (by omega) (by omega)
        generalize dropB (roomT (min k 64)) 3 2 = DB at *
        generalize dropR (roomT (min k 64)) 3 2 = DR at *
        generalize dropT (roomT (min k 64)) 3 2 = D at *
        clear hC
        have HB : Hid _ := hB
        clear hB
        go_wp2_with fail
        refine hd.mono ?_
        rintro e w2 ⟨rfl, hC2, hU2⟩
        clear hd
        have HC2 : Hid _ := hC2
        have HB2 : Hid _ := upd_below HB.out hU2 hbb
        clear hC2 hU2 HB
        go_wp2_with fail
        refine (frame_at _ _ _).mono ?_
        rintro e w3 ⟨rfl, hb3⟩
        have ha := add_at b D 3 ⟨1, 99, 1, 1⟩ w3 (HC2.out.below hb3)
        have HB3 : Hid _ := HB2.out.trans (hb3.mono HB2.out.size)
        rw [e1, e2] at ha
        clear e1 e2 hb3 HC2 HB2
        go_wp2_with fail
        refine ha.mono ?_
        rintro e w4 ⟨rfl, hC4, hU4⟩
        have HB4 : Hid _ := upd_below HB3.out hU4 hbb
        clear hC4 hU4 ha
        go_wp2_with fail
        refine (awake_at _).mono ?_
        rintro e w5 ⟨rfl, hb5⟩
        go_wp2
        go_ret
        exact ⟨rfl, HB4.out.trans (hb5.mono HB4.out.size)⟩

theorem own : ownKnob Try.prog.godebug = none := by kernel_rfl
theorem laidOut : laidOutB Try.prog = true := by kernel_rfl

set_option maxRecDepth 100000 in
theorem room_lifted (os : Os) (started : os.Started) (H : Type) (enc : TypeId × Value → H) :
    ReturnsInHanded {} Try.checked os 6 .any (Rows.capsRoomSpec.pre6 enc Try.prog Try.f6 Rows.capsRoomRow.domain false) (Rows.capsRoomSpec.post enc Try.prog Try.f6 false true false false) := by
  refine returnsInHanded_of_change (C := Try.checked) own started (by kernel_rfl) Try.func6
    (ChangeSpec.witness6 (enc := enc) (C := Try.checked) false ⟨#[], #[.int .i64 0], []⟩ 8 (by kernel_rfl) (by kernel_rfl) (by kernel_rfl) (by kernel_rfl)) ?_
  intro W base args ds gs before hval0 hW hcnd _
  have hval : ∀ (j : Nat) t v, Try.f6.params[j]? = some t → args[j]? = some v → Value.okWide Try.prog W .any base t v := hval0
  have hW' := hW
  obtain ⟨p, q, hA0, hV, rfl, hfz, hnd⟩ := hW
  have hA : DataW.TrodAll enc Try.prog W 0 (fun _ => true) true Try.f6.params.toList args.toList ds p := hA0
  rw [Try.params6] at hA hval
  obtain ⟨v0, vs0, d0, ds0, p0, q0, hargs, rfl, rfl, h0, r0⟩ := trodAll_cons hA
  obtain ⟨rfl, rfl, rfl⟩ := trodAll_nil r0
  obtain rfl : args = #[v0] := by cases args; simp_all
  obtain ⟨rfl, rfl⟩ := trodVars_none hV
  obtain ⟨a0, rfl, rfl, rfl, w0⟩ := open_int Try.underlying3 (hval 0 3 v0 rfl rfl) h0
  clear hA0 hval0
  have hwalk : Calls Try.prog 6 #[.int .i64 a0] W fun e w' => e = .returned (.bool true) ∧ Below W.heap.size W w' := room_walk a0 W
  refine hwalk.mono fun e W' ⟨he, bel⟩ => ?_
  subst he
  exact ⟨_, rfl, _, _, _, [], _, [], hW', trodAll_mk1 (shut_bool Try.underlying4 _), (trodAll_cons_mk (shut_int Try.underlying3 w0) trodAll_mk0), rfl, bel.frame _, fun h => by cases h⟩

theorem room_holds : Rows.CapsRoomSaid :=
  OpenClaim.holds_of_wide 6 Try.f6 rfl rfl rfl rfl rfl rfl rfl ⟨rfl, rfl, rfl, rfl, rfl⟩ rfl rfl rfl rfl rfl (by kernel_rfl) Try.func6 (by kernel_rfl)
    (of_decide_eq_true (by kernel_rfl)) (by unfold Func.isWrapper; first | (rw [if_pos (by decide +kernel)]; kernel_rfl) | (rw [if_neg (by decide +kernel)]; exact ⟨rfl, rfl⟩))
    (fun os started H enc _ => room_lifted os started H enc)
#print axioms room_holds
end Go.Proofs.Ytfhkdcbhkjkkgaa
