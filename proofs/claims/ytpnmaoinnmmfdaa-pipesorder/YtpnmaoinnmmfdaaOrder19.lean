/- Proved: januslaw19.PipesOrder answers true for every list of deeds (what comes out of a pipe is what was put in, in its order, each byte once; no more than its size is ever in it), at the commit of this claim; no condition beyond the row's own. -/
import Derived.Test.YtpnmaoinnmmfdaaDeed19
import Derived.ProofKit
import Derived.OpenShut
import Derived.ChangeOld
import Derived.Below
namespace Go.Proofs.Ytpnmaoinnmmfdaa
open Go.ChangeShapes Go.WideShapes Go.ChangeAt Go.RowKit Go.Lib
set_option linter.unusedVariables false

/-- One pipe, with these bytes. -/
def one (L : List UInt8) : PS := PS.none.set 0 (some L)
theorem one_has (L : List UInt8) : has (one L) 0 = true := has_of (i := 0) (by omega) (PS.set_same _ _ _)
theorem one_inn (L : List UInt8) : inn (one L) 0 = L := inn_of (i := 0) (by omega) (PS.set_same _ _ _)
theorem one_set (L M : List UInt8) : (one L).set 0 (some M) = one M := by
  funext k
  unfold one PS.set
  by_cases e : k = 0
  · rw [if_pos e, if_pos e]
  · rw [if_neg e, if_neg e, if_neg e]
theorem one_put (L s : List UInt8) : puI (one L) 0 s = (putN L s : Int) ∧ puS (one L) 0 s = one (L ++ s.take (putN L s)) := by
  unfold puI puS
  rw [if_pos (one_has L), if_pos (one_has L), one_inn]
  refine ⟨rfl, ?_⟩
  have : putL L s = L ++ s.take (putN L s) := by
    unfold putL putN
    rw [List.append_cancel_left_eq]
    rcases Nat.le_total s.length (8 - L.length) with q | q
    · rw [Nat.min_eq_left q, List.take_of_length_le q, List.take_length]
    · rw [Nat.min_eq_right q]
  rw [this]
  exact one_set _ _
theorem one_take (L : List UInt8) (n : Int) : taT (one L) 0 n = L.take (tk L n) ∧ taS (one L) 0 n = one (L.drop (tk L n)) := by
  unfold taT taS
  rw [if_pos (one_has L), one_inn]
  exact ⟨rfl, one_set _ _⟩
theorem one_make : mkI PS.none = 0 ∧ mkE PS.none = 0 ∧ mkS PS.none = one [] := ⟨by kernel_rfl, by kernel_rfl, rfl⟩
set_option maxRecDepth 100000 in
set_option maxHeartbeats 8000000 in
theorem order_walk (a0 : Option Addr) (len cap : Nat) (w : World) (hlen : len ≤ 9223372036854775807) (hd : DeedsIn w a0 len) :
    Calls Try.prog 5 #[.slice a0 len cap] w fun e w' => e = .returned (.bool true) ∧ Below w.heap.size w w' := by
  have HD : Hid (DeedsIn w a0 len) := hd
  clear hd
  have hst := same_text
  have hN := new_at w
  obtain ⟨b, hb⟩ : ∃ b, b = w.heap.size := ⟨_, rfl⟩
  rw [← hb] at hN
  have HB : Hid (b = w.heap.size) := hb
  have hne := ptr_eq b
  clear hb
  go_enter Try.func5, Try.ntmps5
  go_wp2_with fail
  refine hN.mono ?_
  rintro x w1 ⟨rfl, hA1, hb1, -⟩
  have HB1 : Hid (Below w.heap.size w w1) := by rw [← HB.out]; exact hb1
  have h2 := make_at b _ w1 hA1
  rw [one_make.1, one_make.2.1, one_make.2.2] at h2
  clear hN hA1 hb1
  go_wp2_with fail
  refine h2.mono ?_
  rintro x w2 ⟨rfl, hA2, hu2⟩
  have HB2 : Hid (Below w.heap.size w w2) := upd_below HB1.out hu2 (by rw [HB.out]; exact Nat.le_refl _)
  have HA2 : Hid (PpAt w2 b (one [])) := hA2
  clear h2 hA2 hu2 HB1
  go_wp2
  go_loopw [6, 7, 8] (fun s t i wr => ∃ (k : Nat) (O L : List UInt8), k ≤ len ∧ k ≤ 200 ∧ s = tx (O ++ L) ∧ t = tx O ∧ i = .int .i64 k ∧ (O ++ L).length ≤ 100 * k ∧ PpAt wr b (one L) ∧ Below w.heap.size w wr) (fun _ _ i _ => 200 - (intOf i).toNat)
  case atStart => exact ⟨0, [], [], by omega, by omega, rfl, rfl, rfl, by simp, HA2.out, HB2.out⟩
  case round =>
    clear HA2 HB2
    obtain ⟨k, O, L, hk, hk2, rfl, rfl, rfl, hbd, hA, hbw⟩ := hrel
    have HBw : Hid (Below w.heap.size w wr) := hbw
    have HA : Hid (PpAt wr b (one L)) := hA
    have hbd2 : O.length + L.length ≤ 100 * k := by rw [List.length_append] at hbd; exact hbd
    clear hbd
    by_cases hlt : k < len ∧ k < 200
    · obtain ⟨l1, l2⟩ := hlt
      have g1 : decide ((k : Int) < (len : Int)) = true := decide_eq_true (by omega)
      have g2 : decide ((k : Int) < 200) = true := decide_eq_true (by omega)
      have hki : (k : Int) < (len : Int) := by omega
      obtain ⟨gb, off, ⟨dk, di, dn, ds⟩, rfl, hds, d0, d1, d2, d3⟩ := HD.out k l1
      dsimp only at hds d0 d1 d2 d3
      have c0 := (hbw.cell (cell_lt d0)).trans d0
      have c2 := (hbw.cell (cell_lt d2)).trans d2
      have c3 := (hbw.cell (cell_lt d3)).trans d3
      have hsz : (ByteArray.mk ds.toArray).size = ds.length := by simp [ByteArray.size]
      by_cases hlong : 100 < ds.length
      · have g3 : decide (100 < (ds.length : Int)) = true := decide_eq_true (by omega)
        clear hA hbw d0 d1 d2 d3 HD
        go_wp2
        go_roundw
        case rel => exact ⟨k + 1, O, L, by omega, by omega, rfl, rfl, by go_num, by rw [List.length_append]; omega, HA.out, HBw.out⟩
        case measure => simp [intOf]; omega
      · have g3 : decide (100 < (ds.length : Int)) = false := decide_eq_false (by omega)
        have HD3 : Hid (w.cell? ⟨gb, off + k * 4 + 3, none⟩ = some (tx ds)) := d3
        by_cases h1 : dk = 1
        · rw [h1] at c0
          have h3 := put_at b (one L) 0 ds wr hA
          rw [(one_put L ds).1, (one_put L ds).2] at h3
          have hn1 : putN L ds ≤ ds.length := by unfold putN; omega
          have hcut := cut_to ds (putN L ds) hn1
          have HTl : Hid ((ds.take (putN L ds)).length = putN L ds) := by show _ = _; rw [List.length_take]; omega
          have gn1 : decide ((putN L ds : Int) < 0) = false := decide_eq_false (by omega)
          have gn2 : decide ((ds.length : Int) < (putN L ds : Int)) = false := decide_eq_false (by omega)
          generalize putN L ds = n at *
          generalize ds.take n = X at *
          clear hA hbw d0 d1 d2 d3 HD h1
          go_wp2_with fail
          refine h3.mono ?_
          rintro x w3 ⟨rfl, hA3, hu3⟩
          have HB3 : Hid (Below w.heap.size w w3) := upd_below HBw.out hu3 (by rw [HB.out]; exact Nat.le_refl _)
          have e3 := (HB3.out.cell (cell_lt HD3.out)).trans HD3.out
          have h4 := len_at b _ 0 w3 hA3
          rw [one_inn] at h4
          have HL8 : Hid ((L ++ X).length ≤ 8) := by have := fits_inn hA3.fits 0; rw [one_inn] at this; exact this
          have HA3 : Hid (PpAt w3 b (one (L ++ X))) := hA3
          have hgl := glue (O ++ L) X
          have hno : ¬ 9223372036854775807 < (O ++ L).length + X.length := by have := HTl.out; rw [List.length_append]; omega
          rw [List.append_assoc] at hgl
          have hlen2 : (L ++ X).length = L.length + X.length := List.length_append
          have hXn := HTl.out
          have HBd : Hid ((O ++ (L ++ X)).length ≤ 100 * (k + 1)) := by show _ ≤ _; rw [List.length_append, List.length_append]; omega
          have HBd2 : Hid (O.length + (L ++ X).length ≤ 100 * (k + 1)) := by show _ ≤ _; rw [hlen2]; omega
          have HOl : Hid ((O ++ (L ++ X)).length = O.length + (L ++ X).length) := List.length_append
          have HTk : Hid ((O ++ (L ++ X)).take O.length = O) := by show _ = _; rw [List.take_left']; rfl
          generalize hT : O ++ L = OL at *
          generalize hT2 : L ++ X = Y at *
          generalize hT3 : O ++ Y = Z at *
          have HT3 : Hid (O ++ Y = Z) := hT3
          have hc2 := cut_to Z O.length (by rw [HOl.out]; omega)
          rw [HTk.out] at hc2
          clear h3 hA3 hu3 hlen2 hXn hT hT2 hT3
          go_wp2_with fail
          refine h4.mono ?_
          rintro x w4 ⟨rfl, hb4⟩
          have HB4 : Hid (Below w.heap.size w w4) := HB3.out.trans (hb4.mono HB3.out.size)
          have HA4 : Hid (PpAt w4 b (one Y)) := HA3.out.below hb4
          have gy1 : decide ((Y.length : Int) < 0) = false := decide_eq_false (by omega)
          have gy2 : decide (8 < (Y.length : Int)) = false := decide_eq_false (by have := HL8.out; omega)
          have hwr : IntKind.i64.wrap ((O.length : Int) + (Y.length : Int)) = (Z.length : Int) := by
            have h5 := HOl.out
            have h6 := HBd2.out
            simp [IntKind.wrap, IntKind.bits, IntKind.signed]
            omega
          have hszO : (ByteArray.mk O.toArray).size = O.length := by simp [ByteArray.size]
          have hszZ : (ByteArray.mk Z.toArray).size = Z.length := by simp [ByteArray.size]
          clear h4 hb4 e3
          go_wp2
          go_roundw
          case rel => exact ⟨k + 1, O, Y, by omega, by omega, by rw [HT3.out], rfl, by go_num, by rw [HT3.out]; exact HBd.out, HA4.out, HB4.out⟩
          case measure => simp [intOf]; omega
        · have g4 : (dk == 1) = false := beq_false_of_ne h1
          have h3 := take_at b (one L) 0 dn wr hA
          rw [(one_take L dn).1, (one_take L dn).2] at h3
          have HXY : Hid (L.take (tk L dn) ++ L.drop (tk L dn) = L) := List.take_append_drop _ _
          generalize L.take (tk L dn) = X at *
          generalize L.drop (tk L dn) = Y at *
          clear hA hbw d0 d1 d2 d3 HD h1
          go_wp2_with fail
          refine h3.mono ?_
          rintro x w3 ⟨rfl, hA3, hu3⟩
          have HB3 : Hid (Below w.heap.size w w3) := upd_below HBw.out hu3 (by rw [HB.out]; exact Nat.le_refl _)
          have h4 := len_at b _ 0 w3 hA3
          rw [one_inn] at h4
          have HL8 : Hid (Y.length ≤ 8) := by have := fits_inn hA3.fits 0; rw [one_inn] at this; exact this
          have HA3 : Hid (PpAt w3 b (one Y)) := hA3
          have hgl := glue O X
          have hll : L.length = X.length + Y.length := by rw [← HXY.out, List.length_append]
          have hno : ¬ 9223372036854775807 < O.length + X.length := by omega
          have HOl : Hid ((O ++ L).length = (O ++ X).length + Y.length) := by show _ = _; rw [List.length_append, List.length_append]; omega
          have HBd2 : Hid ((O ++ X).length + Y.length ≤ 100 * k) := by show _ ≤ _; rw [List.length_append]; omega
          have HOL : Hid (O ++ L = (O ++ X) ++ Y) := by show _ = _; rw [List.append_assoc, HXY.out]
          have HTk : Hid ((O ++ L).take (O ++ X).length = O ++ X) := by show _ = _; rw [HOL.out, List.take_left']; rfl
          generalize hT : O ++ L = Z at *
          generalize hT2 : O ++ X = Q at *
          have hc2 := cut_to Z Q.length (by rw [HOl.out]; omega)
          rw [HTk.out] at hc2
          clear h3 hA3 hu3 hT hT2 hll
          go_wp2_with fail
          refine h4.mono ?_
          rintro x w4 ⟨rfl, hb4⟩
          have HB4 : Hid (Below w.heap.size w w4) := HB3.out.trans (hb4.mono HB3.out.size)
          have HA4 : Hid (PpAt w4 b (one Y)) := HA3.out.below hb4
          have gy1 : decide ((Y.length : Int) < 0) = false := decide_eq_false (by omega)
          have gy2 : decide (8 < (Y.length : Int)) = false := decide_eq_false (by have := HL8.out; omega)
          have hwr : IntKind.i64.wrap ((Q.length : Int) + (Y.length : Int)) = (Z.length : Int) := by
            have h5 := HOl.out
            have h6 := HBd2.out
            simp [IntKind.wrap, IntKind.bits, IntKind.signed]
            omega
          have hszO : (ByteArray.mk Q.toArray).size = Q.length := by simp [ByteArray.size]
          have hszZ : (ByteArray.mk Z.toArray).size = Z.length := by simp [ByteArray.size]
          clear h4 hb4
          go_wp2
          go_roundw
          case rel => exact ⟨k + 1, Q, Y, by omega, by omega, by rw [HOL.out], rfl, by go_num, by rw [List.length_append]; have := HBd2.out; omega, HA4.out, HB4.out⟩
          case measure => simp [intOf]; omega
    · clear HD hA hbw
      have hkl : (decide ((k : Int) < (len : Int)) = true ∧ (k : Int) < (len : Int) ∧ decide ((k : Int) < 200) = false) ∨ (decide ((k : Int) < (len : Int)) = false ∧ ¬ (k : Int) < (len : Int)) := by
        by_cases q : k < len
        · exact Or.inl ⟨decide_eq_true (by omega), by omega, decide_eq_false (by omega)⟩
        · exact Or.inr ⟨decide_eq_false (by omega), by omega⟩
      rcases hkl with ⟨g1, g1', g2⟩ | ⟨g1, g1'⟩
      all_goals
        go_wp2_with fail
        refine (awake_at _).mono ?_
        rintro x w2 ⟨rfl, hb2⟩
        go_wp2
        go_ret
        exact ⟨rfl, HBw.out.trans (hb2.mono HBw.out.size)⟩

theorem own : ownKnob Try.prog.godebug = none := by kernel_rfl
theorem laidOut : laidOutB Try.prog = true := by kernel_rfl

set_option maxRecDepth 100000 in
theorem order_lifted (os : Os) (started : os.Started) (H : Type) (enc : TypeId × Value → H) :
    ReturnsInHanded {} Try.checked os 5 .any (Rows.pipesOrderSpec.pre6 enc Try.prog Try.f5 Rows.pipesOrderRow.domain false) (Rows.pipesOrderSpec.post enc Try.prog Try.f5 false true false false) := by
  refine returnsInHanded_of_change (C := Try.checked) own started (by kernel_rfl) Try.func5
    (ChangeSpec.witness6 (enc := enc) (C := Try.checked) false ⟨#[], #[.slice none 0 0], []⟩ 8 (by kernel_rfl) (by kernel_rfl) (by kernel_rfl) (by kernel_rfl)) ?_
  intro W base args ds gs before hval0 hW hcnd _
  have hval : ∀ (j : Nat) t v, Try.f5.params[j]? = some t → args[j]? = some v → Value.okWide Try.prog W .any base t v := hval0
  have hW' := hW
  obtain ⟨p, q, hA0, hV, rfl, hfz, hnd⟩ := hW
  have hA : DataW.TrodAll enc Try.prog W 0 (fun _ => true) true Try.f5.params.toList args.toList ds p := hA0
  rw [Try.params5] at hA hval
  obtain ⟨v0, vs0, d0, ds0, p0, q0, hargs, rfl, rfl, h0, r0⟩ := trodAll_cons hA
  obtain ⟨rfl, rfl, rfl⟩ := trodAll_nil r0
  obtain rfl : args = #[v0] := by cases args; simp_all
  obtain ⟨rfl, rfl⟩ := trodVars_none hV
  have k0 := h0
  have lt0 : ∀ x ∈ p0, x.block < W.heap.size := by obtain ⟨m, hm⟩ := k0; exact DataW.trod_lt m _ _ _ hm
  obtain ⟨a0, len0, cap0, rfl⟩ := okWide_slice Try.underlying22 (hval 0 22 v0 rfl rfl)
  clear hA0 hval0
  have hin : len0 ≤ 9223372036854775807 ∧ DeedsIn W a0 len0 := by
    obtain ⟨fuel, hf⟩ := h0
    obtain ⟨hl, hc⟩ := slice_fits (l := deedCK) Try.underlying22 deedKinds (by simp) deedSize (by simpa [Value.cells] using hf)
    refine ⟨hl, fun j hj => ?_⟩
    obtain ⟨gb, off, cs, ea, hfit, hcell⟩ := hc j hj
    obtain ⟨d, hd, hdl⟩ := deedOf hfit
    refine ⟨gb, off, d, ea, hdl, ?_, ?_, ?_, ?_⟩
    · exact hcell 0 _ (by rw [hd]; rfl)
    · exact hcell 1 _ (by rw [hd]; rfl)
    · exact hcell 2 _ (by rw [hd]; rfl)
    · exact hcell 3 _ (by rw [hd]; rfl)
  have hwalk : Calls Try.prog 5 #[.slice a0 len0 cap0] W fun e w' => e = .returned (.bool true) ∧ Below W.heap.size W w' := order_walk a0 len0 cap0 W hin.1 hin.2
  refine hwalk.mono fun e W' ⟨he, bel⟩ => ?_
  subst he
  exact ⟨_, rfl, _, _, _, [], _, [], hW', trodAll_mk1 (shut_bool Try.underlying4 _), (trodAll_cons_mk (Below.trod laidOut (by kernel_rfl) (of_decide_eq_true (by kernel_rfl)) k0 bel lt0) trodAll_mk0), rfl, bel.frame _, fun h => by cases h⟩

theorem order_holds : Rows.PipesOrderSaid :=
  OpenClaim.holds_of_wide 5 Try.f5 rfl rfl rfl rfl rfl rfl rfl ⟨rfl, rfl, rfl, rfl, rfl⟩ rfl rfl rfl rfl rfl (by kernel_rfl) Try.func5 (by kernel_rfl)
    (of_decide_eq_true (by kernel_rfl)) (by unfold Func.isWrapper; first | (rw [if_pos (by decide +kernel)]; kernel_rfl) | (rw [if_neg (by decide +kernel)]; exact ⟨rfl, rfl⟩))
    (fun os started H enc _ => order_lifted os started H enc)
#print axioms order_holds
end Go.Proofs.Ytpnmaoinnmmfdaa
