/- Proved: januslaw01.MemCopies answers true for every list of words and every number (a copy has the words as they were, and goes its own way then), at the commit of this claim; no condition beyond the row's own. -/
import Derived.Test.YtnpgkhlidngngaaMemE
import Derived.Test.YtnpgkhlidngngaaLists
import Derived.Test.YtnpgkhlidngngaaWords
import Derived.ProofKit
import Derived.OpenShut
import Derived.ChangeOld
import Derived.Below
namespace Go.Proofs.Ytnpgkhlidngngaa
open Go.ChangeShapes Go.WideShapes Go.ChangeAt Go.RowKit
set_option linter.unusedVariables false

theorem read_val (b g n : Nat) (vs : List Int) (f k x : Int) (w : World) (h : MemAt w b g n vs) (h0 : 0 ≤ f) (h1 : f < n) (h2 : 0 ≤ k) (h3 : k < 32) (hx : vs.getD (f.toNat * 32 + k.toNat) 0 = x) :
    Calls Try.prog 10 #[.pointer (some ⟨b, 0, none⟩), .int .i64 f, .int .i64 k] w fun e w' => e = .returned (.tuple #[.int .u64 x, .int .i64 0]) ∧ w' = w := by
  subst hx
  exact read_at b g n vs f k w h h0 h1 h2 h3

/-- What the law finds in a list whose words are the first of z. -/
def WasAt (z : List Int) (len : Nat) : Int := if 5 < len then z.getD 5 0 else 0

theorem copies_lists (z : List Int) (len k : Nat) (v : Int) (hz : len ≤ z.length) (hk : k ≤ len) (hk2 : k ≤ 32) (hend : ¬ (k < len ∧ k < 32)) :
    ∃ M1 M2 M3 : List Int, splice (fillTo z k 64) (1 * 32) (frameOf (fillTo z k 64) 0) = M1 ∧ (∀ j, j < 32 → (frameOf M1 0).getD j 0 = (frameOf (fillTo z k 64) 0).getD j 0 ∧ (frameOf M1 1).getD j 0 = (frameOf (fillTo z k 64) 0).getD j 0) ∧
      M1.set 5 v = M2 ∧ M2.getD 37 0 = WasAt z len ∧ M2.getD 5 0 = v ∧ splice M2 0 (List.replicate 32 0) = M3 ∧ M3.getD 37 0 = WasAt z len := by
  have hl := fillTo_length z k 64 (by omega) (by omega)
  have hfl : (frameOf (fillTo z k 64) 0).length = 32 := frameOf_length _ 0 2 hl (by omega)
  have hM1 : (splice (fillTo z k 64) (1 * 32) (frameOf (fillTo z k 64) 0)).length = 64 := by rw [splice_length _ _ _ (by rw [hfl, hl]; omega), hl]
  have h37 : (splice (fillTo z k 64) (1 * 32) (frameOf (fillTo z k 64) 0)).getD 37 0 = WasAt z len := by
    rw [splice_getD _ _ _ (by rw [hfl, hl]; omega), if_pos (by rw [hfl]; omega), frameOf_getD _ _ _ (by omega), fillTo_getD _ _ _ _ (by omega)]
    unfold WasAt
    by_cases h5 : 5 < len
    · rw [if_pos (by omega), if_pos h5]
    · rw [if_neg (by omega), if_neg h5]
  refine ⟨_, _, _, rfl, fun j hj => ?_, rfl, ?_, ?_, rfl, ?_⟩
  · have := frame_of_copy (fillTo z k 64) 2 1 0 hl (by omega) (by omega) j hj
    rw [frameOf_getD (fillTo z k 64) 0 j hj]
    exact ⟨this.2, this.1⟩
  · rw [set_getD _ _ _ _ (by rw [hM1]; omega), if_neg (by omega), h37]
  · rw [set_getD _ _ _ _ (by rw [hM1]; omega), if_pos rfl]
  · rw [splice_getD _ _ _ (by simp [hM1]), if_neg (by simp), set_getD _ _ _ _ (by rw [hM1]; omega), if_neg (by omega), h37]

set_option maxHeartbeats 2000000 in
theorem copies_walk (a0 : Option Addr) (len cap : Nat) (z : List Int) (v : Int) (w : World) (hlen : len ≤ 9223372036854775807) (hz : len ≤ z.length)
    (HC : Hid (∀ j, j < len → ∃ gb off, a0 = some ⟨gb, off, none⟩ ∧ w.cell? ⟨gb, off + j, none⟩ = some (.int .u64 (z.getD j 0)))) :
    Calls Try.prog 5 #[.slice a0 len cap, .int .u64 v] w fun e w' => e = .returned (.bool true) ∧ Below w.heap.size w w' := by
  go_enter Try.func5, Try.ntmps5
  go_wp2_with fail
  refine (new_at 2 _ (by omega) (by omega)).mono ?_
  rintro e w1 ⟨rfl, hm1, hb1, hs1⟩
  have HS1 : Hid _ := hs1
  clear hs1
  go_wp2_with fail
  go_loopw [6] (fun i wr => ∃ k : Nat, k ≤ len ∧ k ≤ 32 ∧ i = .int .i64 k ∧ MemAt wr (w.heap.size + 1) w.heap.size 2 (fillTo z k 64) ∧ Below w.heap.size w wr ∧ w1.heap.size ≤ wr.heap.size) (fun i _ => 32 - (intOf i).toNat)
  case atStart => exact ⟨0, Nat.zero_le _, Nat.zero_le _, rfl, hm1, hb1, Nat.le_refl _⟩
  case round =>
    obtain ⟨k, hk, hk2, rfl, hm, hb, hs⟩ := hrel
    by_cases hlt : k < len ∧ k < 32
    · obtain ⟨h1, h2⟩ := hlt
      obtain ⟨gb, off, rfl, hc⟩ := HC.out k h1
      have hlt := cell_lt hc
      have hc2 : wr.cell? ⟨gb, off + k, none⟩ = some (.int .u64 (z.getD k 0)) := by rw [hb.cell (p := ⟨gb, off + k, none⟩) hlt]; exact hc
      clear hc hlt
      go_wp2_with fail
      refine (write_at _ _ _ _ 0 k _ _ hm (by omega) (by omega) (by omega) (by omega)).mono ?_
      rintro e w2 ⟨rfl, hm2, hu2⟩
      have e2 : (fillTo z k 64).set ((0 : Int).toNat * 32 + (k : Int).toNat) (z.getD k 0) = fillTo z (k + 1) 64 := by
        rw [show (0 : Int).toNat * 32 + (k : Int).toNat = k by simp]
        exact fillTo_set z k 64 (by omega) (by omega)
      have hm3 : MemAt w2 (w.heap.size + 1) w.heap.size 2 (fillTo z (k + 1) 64) := by rw [← e2]; exact hm2
      have HM : Hid _ := hm3
      clear hm2 hm3 e2
      go_wp2_with fail
      go_roundw
      case rel => exact ⟨k + 1, by omega, by omega, by go_num, HM.out, hb.trans (hu2.below (Nat.le_refl _) hb.size), Nat.le_trans hs hu2.size⟩
      case measure => simp [intOf]; omega
    · have hkk : k = len ∨ k = 32 := by omega
      obtain ⟨M1, M2, M3, e1, hfr, e2, r1, r2, e3, r3⟩ := copies_lists z len k v hz hk hk2 hlt
      have E1 : Hid _ := e1
      have E2 : Hid _ := e2
      have E3 : Hid _ := e3
      have R1 : Hid _ := r1
      have R2 : Hid _ := r2
      have R3 : Hid _ := r3
      have HF : Hid _ := hfr
      clear e1 e2 e3 r1 r2 r3 hfr
      have hkl : k < len ∨ len ≤ k := by omega
      have H5 : Hid (5 < len → ∃ gb off, a0 = some ⟨gb, off, none⟩ ∧ w.cell? ⟨gb, off + 5, none⟩ = some (.int .u64 (WasAt z len))) := by
        intro h5
        obtain ⟨gb, off, e, hc⟩ := HC.out 5 h5
        exact ⟨gb, off, e, by rw [hc]; unfold WasAt; rw [if_pos h5]⟩
      have H6 : Hid (¬ 5 < len → WasAt z len = 0) := fun h => by unfold WasAt; rw [if_neg h]
      generalize WasAt z len = was at *
      clear HC hkk
      rcases hkl with hkl | hkl
      all_goals
        go_wp2_with fail
        refine (copy_at _ _ _ _ 1 0 _ hm (by omega) (by omega) (by omega) (by omega)).mono ?_
        rintro e w2 ⟨rfl, hm2, hu2⟩
        have hm2' : MemAt w2 (w.heap.size + 1) w.heap.size 2 M1 := by rw [← E1.out]; exact hm2
        clear hm2
        go_wp2_with fail
        refine (page_at _ _ _ _ 0 _ hm2' (by omega) (by omega)).mono ?_
        rintro e w3 ⟨rfl, hp3, hb3, hs3⟩
        have HS3 : Hid _ := hs3
        clear hs3
        have hm3 := hm2'.below hb3
        go_wp2_with fail
        refine (page_at _ _ _ _ 1 _ hm3 (by omega) (by omega)).mono ?_
        rintro e w4 ⟨rfl, hp4, hb4, hs4⟩
        have HS4 : Hid _ := hs4
        clear hs4
        have hm4 := hm3.below hb4
        have hp3' := (hb4.block _ (by have := HS3.out; omega)).trans hp3
        go_wp2_with fail
        refine (words_same _ _ _ _ _ _ _ (frameOf (fillTo z k 64) 0) _ (by omega) (fun j hj => ?_) (fun j hj => ?_)).mono ?_
        · rw [row_cell hp3' j (Nat.lt_of_lt_of_eq hj (frameOf_length M1 0 2 hm2'.len (by omega)).symm)]
          exact congrArg (fun x => some (Value.int .u64 x)) (HF.out j hj).1
        · rw [row_cell hp4 j (Nat.lt_of_lt_of_eq hj (frameOf_length M1 1 2 hm2'.len (by omega)).symm)]
          exact congrArg (fun x => some (Value.int .u64 x)) (HF.out j hj).2
        rintro e w5 ⟨rfl, hw5⟩
        have hb5 := (drewN_below hw5).1
        clear hw5
        have hm5 := hm4.below hb5
        have HB5 : Hid (Below w.heap.size w w5) := by
          have h1 := hu2.below (B := w.heap.size) (Nat.le_refl _) hb.size
          have z1 := hb.size
          have z2 := hu2.size
          have z3 := HS3.out
          have z4 := HS4.out
          exact (((hb.trans h1).trans (hb3.mono (by omega))).trans (hb4.mono (by omega))).trans (hb5.mono (by omega))
        clear hp3 hp3' hp4 hm2' hm3 hm4 hb3 hb4 hb5 hu2 HS3 HS4 HF
        go_wp2_with fail
        refine (write_at _ _ _ _ 0 5 _ _ hm5 (by omega) (by omega) (by omega) (by omega)).mono ?_
        rintro e w6 ⟨rfl, hm6, hu6⟩
        have hm6' : MemAt w6 (w.heap.size + 1) w.heap.size 2 M2 := by rw [← E2.out]; exact hm6
        have HB6 : Hid (Below w.heap.size w w6) := Below.trans HB5.out (hu6.below (Nat.le_refl _) (Below.size HB5.out))
        clear hm5 hm6 hu6
        by_cases h5 : 5 < len
        · obtain ⟨gb, off, rfl, hc⟩ := H5.out h5
          have hc6 : w6.cell? ⟨gb, off + 5, none⟩ = some (.int .u64 was) := by rw [(HB6.out).cell (p := ⟨gb, off + 5, none⟩) (cell_lt hc)]; exact hc
          clear hc
          go_wp2_with fail
          refine (read_val _ _ _ _ 1 5 was _ hm6' (by omega) (by omega) (by omega) (by omega) R1.out).mono ?_
          rintro e w7 ⟨rfl, rfl⟩
          go_wp2_with fail
          refine (read_val _ _ _ _ 0 5 v _ hm6' (by omega) (by omega) (by omega) (by omega) R2.out).mono ?_
          rintro e w8 ⟨rfl, rfl⟩
          go_wp2_with fail
          refine (zero_at _ _ _ _ 0 _ hm6' (by omega) (by omega)).mono ?_
          rintro e w9 ⟨rfl, hm9, hu9⟩
          have hm9' : MemAt w9 (w.heap.size + 1) w.heap.size 2 M3 := by rw [← E3.out]; exact hm9
          have HB9 : Hid (Below w.heap.size w w9) := Below.trans HB6.out (hu9.below (Nat.le_refl _) (Below.size HB6.out))
          clear hm9 hu9
          go_wp2_with fail
          refine (read_val _ _ _ _ 1 5 was _ hm9' (by omega) (by omega) (by omega) (by omega) R3.out).mono ?_
          rintro e w10 ⟨rfl, rfl⟩
          go_wp2_with fail
          refine (awake_any _).mono ?_
          rintro e w11 ⟨rfl, hb11⟩
          go_wp2_with fail
          go_ret
          exact ⟨rfl, Below.trans HB9.out (hb11.mono (Below.size HB9.out))⟩
        · have h0 := H6.out h5
          subst h0
          try (exfalso; omega)
          all_goals
            go_wp2_with fail
            refine (read_val _ _ _ _ 1 5 0 _ hm6' (by omega) (by omega) (by omega) (by omega) R1.out).mono ?_
            rintro e w7 ⟨rfl, rfl⟩
            go_wp2_with fail
            refine (read_val _ _ _ _ 0 5 v _ hm6' (by omega) (by omega) (by omega) (by omega) R2.out).mono ?_
            rintro e w8 ⟨rfl, rfl⟩
            go_wp2_with fail
            refine (zero_at _ _ _ _ 0 _ hm6' (by omega) (by omega)).mono ?_
            rintro e w9 ⟨rfl, hm9, hu9⟩
            have hm9' : MemAt w9 (w.heap.size + 1) w.heap.size 2 M3 := by rw [← E3.out]; exact hm9
            have HB9 : Hid (Below w.heap.size w w9) := Below.trans HB6.out (hu9.below (Nat.le_refl _) (Below.size HB6.out))
            clear hm9 hu9
            go_wp2_with fail
            refine (read_val _ _ _ _ 1 5 0 _ hm9' (by omega) (by omega) (by omega) (by omega) R3.out).mono ?_
            rintro e w10 ⟨rfl, rfl⟩
            go_wp2_with fail
            refine (awake_any _).mono ?_
            rintro e w11 ⟨rfl, hb11⟩
            go_wp2_with fail
            go_ret
            exact ⟨rfl, Below.trans HB9.out (hb11.mono (Below.size HB9.out))⟩

theorem own : ownKnob Try.prog.godebug = none := by kernel_rfl
theorem laidOut : laidOutB Try.prog = true := by kernel_rfl

set_option maxRecDepth 100000 in
theorem copies_lifted (os : Os) (started : os.Started) (H : Type) (enc : TypeId × Value → H) :
    ReturnsInHanded {} Try.checked os 5 .any (Rows.memCopiesSpec.pre6 enc Try.prog Try.f5 Rows.memCopiesRow.domain false) (Rows.memCopiesSpec.post enc Try.prog Try.f5 false true false false) := by
  refine returnsInHanded_of_change (C := Try.checked) own started (by kernel_rfl) Try.func5
    (ChangeSpec.witness6 (enc := enc) (C := Try.checked) false ⟨#[], #[.slice none 0 0, .int .u64 0], []⟩ 8 (by kernel_rfl) (by kernel_rfl) (by kernel_rfl) (by kernel_rfl)) ?_
  intro W base args ds gs before hval0 hW hcnd _
  have hval : ∀ (j : Nat) t v, Try.f5.params[j]? = some t → args[j]? = some v → Value.okWide Try.prog W .any base t v := hval0
  have hW' := hW
  obtain ⟨p, q, hA0, hV, rfl, hfz, hnd⟩ := hW
  have hA : DataW.TrodAll enc Try.prog W 0 (fun _ => true) true Try.f5.params.toList args.toList ds p := hA0
  rw [Try.params5] at hA hval
  obtain ⟨v0, vs0, d0, ds0, p0, q0, hargs, rfl, rfl, h0, r0⟩ := trodAll_cons hA
  obtain ⟨v1, vs1, d1, ds1, p1, q1, rfl, rfl, rfl, h1, r1⟩ := trodAll_cons r0
  obtain ⟨rfl, rfl, rfl⟩ := trodAll_nil r1
  obtain rfl : args = #[v0, v1] := by cases args; simp_all
  obtain ⟨rfl, rfl⟩ := trodVars_none hV
  obtain ⟨a0, len0, cap0, rfl⟩ := okWide_slice Try.underlying46 (hval 0 46 v0 rfl rfl)
  have k0 := h0
  have lt0 : ∀ x ∈ p0, x.block < W.heap.size := by obtain ⟨m, hm⟩ := k0; exact DataW.trod_lt m _ _ _ hm
  obtain ⟨z0, hl0, hz0, hc0⟩ : ∃ z : List Int, len0 ≤ 9223372036854775807 ∧ len0 ≤ z.length ∧ Hid (∀ j, j < len0 → ∃ gb off, a0 = some ⟨gb, off, none⟩ ∧ W.cell? ⟨gb, off + j, none⟩ = some (.int .u64 (z.getD j 0))) := by
    obtain ⟨fuel, hf⟩ := h0
    rcases open_ints Try.underlying46 Try.underlying27 (by kernel_rfl) hf with ⟨hcs, _⟩ | ⟨x, l, c, zs, hcs, _, hl, hm, hz, _, hcell, hwz⟩
    · simp [Value.cells] at hcs
      obtain ⟨rfl, rfl, rfl⟩ := hcs
      exact ⟨[], by omega, by simp, fun j hj => by omega⟩
    · simp [Value.cells] at hcs
      obtain ⟨rfl, rfl, rfl⟩ := hcs
      have hz' : zs.length = cap0 := by simpa using hz
      refine ⟨zs, by unfold maxLen at hm; omega, by omega, fun j hj => ?_⟩
      obtain ⟨gb, off, rfl, hc⟩ := ints_at hcell (by omega)
      exact ⟨gb, off, rfl, hc j (by omega)⟩
  obtain ⟨a1, rfl, rfl, rfl, w1⟩ := open_int Try.underlying27 (hval 1 27 v1 rfl rfl) h1
  clear hA0 hval0
  refine (copies_walk a0 len0 cap0 z0 a1 W hl0 hz0 hc0).mono fun e W' ⟨he, bel⟩ => ?_
  subst he
  exact ⟨_, rfl, _, _, _, [], _, [], hW', trodAll_mk1 (shut_bool Try.underlying4 _), (trodAll_cons_mk (Below.trod laidOut (by kernel_rfl) (of_decide_eq_true (by kernel_rfl)) k0 bel lt0) (trodAll_cons_mk (shut_int Try.underlying27 w1) trodAll_mk0)), rfl, bel.frame _, fun h => by cases h⟩

theorem copies_holds : Rows.MemCopiesSaid :=
  OpenClaim.holds_of_wide 5 Try.f5 rfl rfl rfl rfl rfl rfl rfl ⟨rfl, rfl, rfl, rfl, rfl⟩ rfl rfl rfl rfl rfl (by kernel_rfl) Try.func5 (by kernel_rfl)
    (of_decide_eq_true (by kernel_rfl)) (by unfold Func.isWrapper; first | (rw [if_pos (by decide +kernel)]; kernel_rfl) | (rw [if_neg (by decide +kernel)]; exact ⟨rfl, rfl⟩))
    (fun os started H enc _ => copies_lifted os started H enc)
#print axioms copies_holds
end Go.Proofs.Ytnpgkhlidngngaa
