/- januslaw08's awake: true in every world. -/
import Derived.Test.YtfhkdcbhkjkkgaaCapJ
namespace Go.Proofs.Ytfhkdcbhkjkkgaa
open Go.RowKit
set_option linter.unusedVariables false

/-- All that was there but the capabilities' own block is as it was, and they came later. -/
theorem upd_below {b : Nat} {w w1 w2 : World} (h : Below w.heap.size w w1) (hu : Upd b w1 w2) (hb : w.heap.size ≤ b) : Below w.heap.size w w2 :=
  h.trans (hu.below hb h.size)

set_option maxHeartbeats 2000000 in
theorem awake_at (w : World) :
    Calls Try.prog 17 #[] w fun e w' => e = .returned (.bool true) ∧ Below w.heap.size w w' := by
  go_enter Try.func17, Try.ntmps17
  go_wp2_with fail
  refine (new_at w).mono ?_
  rintro e w1 ⟨rfl, hC, hB, hsz⟩
  obtain ⟨b, hbq⟩ : ∃ b, b = w.heap.size := ⟨_, rfl⟩
  rw [← hbq] at hC ⊢
  have hbb : w.heap.size ≤ b := by omega
  have HC : Hid (CapsAt w1 b a0) := hC
  have HB : Hid (Below w.heap.size w w1) := hB
  have hne : ∀ W, (binOp .eql 23 (.pointer (some ⟨b, 0, none⟩)) (.pointer none)).run Try.prog W = .ok (.bool false) W := fun W => by go_simp
  clear hC hB hsz hbq
  go_wp2_with fail
  refine (frame_at 5 7 w1).mono ?_
  rintro e w2 ⟨rfl, hb2⟩
  go_wp2_with fail
  refine (add_at b a0 1 ⟨1, 5, 1, 7⟩ w2 (HC.out.below hb2)).mono ?_
  rw [w_add.1, w_add.2]
  rintro e w3 ⟨rfl, hC3, hU3⟩
  have HC3 : Hid (CapsAt w3 b a1) := hC3
  have HB3 : Hid (Below w.heap.size w w3) := upd_below (HB.out.trans (hb2.mono HB.out.size)) hU3 hbb
  clear hC3 hU3 hb2 HC HB
  go_wp2_with fail
  refine (give_at b a1 1 1 2 1 w3 HC3.out).mono ?_
  rw [w_give.1, w_give.2]
  rintro e w4 ⟨rfl, hC4, hU4⟩
  have HC4 : Hid (CapsAt w4 b a2) := hC4
  have HB4 : Hid (Below w.heap.size w w4) := upd_below HB3.out hU4 hbb
  clear hC4 hU4 HC3 HB3
  go_wp2_with fail
  refine (give_at b a2 2 1 3 1 w4 HC4.out).mono ?_
  rw [w_give2.1, w_give2.2]
  rintro e w5 ⟨rfl, hC5, hU5⟩
  have HC5 : Hid (CapsAt w5 b a3) := hC5
  have HB5 : Hid (Below w.heap.size w w5) := upd_below HB4.out hU5 hbb
  clear hC5 hU5 HC4 HB4
  go_wp2_with fail
  refine (has_at b a3 2 1 5 1 w5 HC5.out a3_sanes ⟨by decide, by decide⟩).mono ?_
  rw [w_has.1]
  rintro e w6 ⟨rfl, hb6⟩
  go_wp2_with fail
  refine (has_at b a3 2 1 5 2 w6 (HC5.out.below hb6) a3_sanes ⟨by decide, by decide⟩).mono ?_
  rw [w_has.2]
  rintro e w7 ⟨rfl, hb7⟩
  have HC7 : Hid (CapsAt w7 b a3) := (HC5.out.below hb6).below hb7
  have HB7 : Hid (Below w.heap.size w w7) := (HB5.out.trans (hb6.mono HB5.out.size)).trans (hb7.mono (HB5.out.trans (hb6.mono HB5.out.size)).size)
  clear hb6 hb7 HC5 HB5
  go_wp2_with fail
  refine (holders_at b a3 1 5 w7 HC7.out a3_sanes ⟨by decide, by decide⟩).mono ?_
  rw [w_hold]
  rintro e w8 ⟨v, rfl, hown, hb8⟩
  have HC8 : Hid (CapsAt w8 b a3) := HC7.out.below hb8
  have HB8 : Hid (Below w.heap.size w w8) := HB7.out.trans (hb8.mono HB7.out.size)
  have hlow := ownsRow_low hown
  have hb7 : b < w7.heap.size := HC7.out.lt
  have HOW : Hid _ := hown
  have HLOW : Hid _ := hlow
  clear hb8 HC7 HB7 hown hlow
  go_wp2_with fail
  refine (revoke_yes b a3 1 1 w8 HC8.out w_is).mono ?_
  rintro e w9 ⟨N, hN, rfl, hC9, hU9⟩
  obtain rfl : N = 1 := by
    have := revS_one hN w_rev
    omega
  have HC9 : Hid (CapsAt w9 b a4) := hC9
  have HB9 : Hid (Below w.heap.size w w9) := upd_below HB8.out hU9 hbb
  have HO9 : Hid _ := own_upd HOW.out hb7 hU9
  clear hN hC9 hU9 HC8 HB8 HOW
  go_wp2_with fail
  refine (drop_at b a4 1 1 w9 HC9.out a4_sanes).mono ?_
  rw [w_drop.1, w_drop.2]
  rintro e w10 ⟨rfl, hC10, hU10⟩
  have HB10 : Hid (Below w.heap.size w w10) := upd_below HB9.out hU10 hbb
  have hO10 := own_upd HO9.out hb7 hU10
  obtain ⟨a, cap, rfl, hrow⟩ := own_irow (D := [1, 2]) hO10
  have HR : Hid _ := hrow
  clear hC10 hU10 HC9 HB9 HO9 HLOW hO10 hrow
  go_wp2_with fail
  have hba := below_alloc w10 (.cells #[.int .i64 1, .int .i64 2] 3)
  refine (ints_same [1, 2] a (some ⟨w10.heap.size, 0, none⟩) cap 2 _ (IRow.below (D := [1, 2]) HR.out hba) ?_ (by decide)).mono ?_
  · intro j x hj
    refine ⟨_, _, rfl, ?_⟩
    rw [cell_of_heap (heap_alloc_new w10 _), Nat.zero_add]
    have hjl : j < 2 := (List.getElem?_eq_some_iff.1 hj).1
    obtain rfl | rfl : j = 0 ∨ j = 1 := by omega
    all_goals (simp at hj; subst hj; rfl)
  rintro e w11 ⟨rfl, hb11⟩
  have HB11 := HB10.out.trans ((hba.trans (hb11.mono hba.size)).mono HB10.out.size)
  go_wp2
  go_ret
  exact ⟨rfl, HB11⟩
end Go.Proofs.Ytfhkdcbhkjkkgaa
