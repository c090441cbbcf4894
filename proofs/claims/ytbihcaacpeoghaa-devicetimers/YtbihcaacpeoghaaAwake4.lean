/- The examples of the chapter on devices, which every law of package device ends with: they answer true in every world. -/
import Derived.Test.YtbihcaacpeoghaaConA
namespace Go.Proofs.Ytbihcaacpeoghaa
open Go.RowKit Go.Lib
set_option linter.unusedVariables false

theorem same_text (l : List UInt8) : (ByteArray.mk l.toArray).toList = l := ByteArray.toList_mk l

/-- A console B and a timer b, and all below B as it was. -/
structure Both (w W : World) (B b : Nat) (out l : List UInt8) (n : Int) : Prop where
  con : Con W B B out l
  tim : TimAt W b n
  old : Below B w W
  ne : b ≠ B
  low : B ≤ b
theorem Both.small {w W : World} {B b : Nat} {out l : List UInt8} {n : Int} (h : Both w W B b out l n) : B ≤ W.heap.size := Nat.le_trans h.low (Nat.le_of_lt (lt_of_heap h.tim))
section
variable {w W : World} {B b : Nat} {out l : List UInt8} {n : Int}
theorem b_get (h : Both w W B b out l n) (m : Int) (x y : List UInt8) (hx : l.take (tk l m) = x) (hy : l.drop (tk l m) = y) :
    Calls Try.prog 10 #[.pointer (some ⟨B, 0, none⟩), .int .i64 m] W fun e W' => e = .returned (tx x) ∧ Both w W' B b out y n := by
  refine (get_at B B out l m W h.con).mono ?_
  rintro e W' ⟨rfl, hc, hu⟩
  rw [hx]
  rw [hy] at hc
  exact ⟨rfl, hc, h.tim.keep (hu.block _ (lt_of_heap h.tim) h.ne), h.old.trans (hu.below (Nat.le_refl _) h.small), h.ne, h.low⟩
theorem b_put (h : Both w W B b out l n) (s : List UInt8) (hl : out.length + s.length ≤ 1000) :
    Calls Try.prog 9 #[.pointer (some ⟨B, 0, none⟩), tx s] W fun e W' => e = .returned (.tuple #[]) ∧ Both w W' B b (out ++ s) l n := by
  refine (put_at B B out l s W h.con (by omega)).mono ?_
  rintro e W' ⟨rfl, hc, hu⟩
  refine ⟨rfl, hc, h.tim.keep (hu.block _ (lt_of_heap h.tim) ?_), h.old.trans (touch_below hu (Nat.le_refl _) h.small), h.ne, h.low⟩
  rintro (e | ⟨_, cur, e⟩)
  · exact h.ne e
  · rw [h.tim] at e
    simp at e
theorem b_left (h : Both w W B b out l n) :
    Calls Try.prog 12 #[.pointer (some ⟨B, 0, none⟩)] W fun e W' => e = .returned (.int .i64 l.length) ∧ W' = W := left_at B B out l W h.con
theorem b_out (h : Both w W B b out l n) :
    Calls Try.prog 13 #[.pointer (some ⟨B, 0, none⟩)] W fun e W' => e = .returned (tx out) ∧ W' = W := out_at B B out l W h.con
theorem Both.timer {W' : World} (h : Both w W B b out l n) (m : Int) (ht : TimAt W' b m) (hu : Upd b W W') : Both w W' B b out l m := by
  obtain ⟨v, h1, h2, h3⟩ := h.con
  refine ⟨⟨v, h1.keep (hu.block _ (lt_of_heap h1) (Ne.symm h.ne)), h2.keep (fun g hg => ?_), h3⟩, ht, h.old.trans (hu.below h.low h.small), h.ne, h.low⟩
  obtain ⟨_, cur, hh⟩ := h2.block g hg
  refine hu.block _ (lt_of_heap hh) (fun e => ?_)
  rw [e, h.tim] at hh
  simp at hh
theorem b_set (h : Both w W B b out l n) (m : Int) (hm : okSet m = true) :
    Calls Try.prog 18 #[.pointer (some ⟨b, 0, none⟩), .int .i64 m] W fun e W' => e = .returned (.int .i64 0) ∧ Both w W' B b out l m := by
  refine (tset_yes b n m W hm h.tim).mono ?_
  rintro e W' ⟨rfl, ht, hu⟩
  exact ⟨rfl, h.timer m ht hu⟩
theorem b_tick (h : Both w W B b out l n) (x : Bool) (m : Int) (h0 : 0 ≤ n) (h1 : n ≤ 200) (hx : decide (n = 1) = x) (hm : max (n - 1) 0 = m) :
    Calls Try.prog 16 #[.pointer (some ⟨b, 0, none⟩)] W fun e W' => e = .returned (.bool x) ∧ Both w W' B b out l m := by
  refine (tick_at b n W h.tim h0 h1).mono ?_
  rintro e W' ⟨rfl, ht, hu⟩
  rw [hx]
  rw [hm] at ht
  exact ⟨rfl, h.timer m ht hu⟩
end

set_option maxHeartbeats 1000000 in
theorem awake_any (w : World) :
    Calls Try.prog 14 #[] w fun e w' => e = .returned (.bool true) ∧ Below w.heap.size w w' := by
  have hst := same_text
  go_enter Try.func14, Try.ntmps14
  go_wp2_with fail
  refine (new_at [97, 98, 99] _).mono ?_
  rintro e w1 ⟨rfl, hc1, hb1, hs1⟩
  have HB1 : Hid _ := hb1
  have HS1 : Hid _ := hs1
  clear hb1 hs1
  go_wp2_with fail
  refine (newTimer_at _).mono ?_
  rintro e w2 ⟨rfl, ht2, hb2, hs2⟩
  have h2 : Both w w2 w.heap.size w1.heap.size [] [97, 98, 99] 0 :=
    ⟨hc1.below hb2, ht2, HB1.out.trans (hb2.mono (by have := HS1.out; omega)), by have := HS1.out; omega, by have := HS1.out; omega⟩
  clear hc1 hb2 ht2 hs2 HB1 HS1
  obtain ⟨b, hb⟩ : ∃ b, b = w1.heap.size := ⟨_, rfl⟩
  rw [← hb] at h2 ⊢
  clear hb
  go_wp2_with fail
  refine (b_get h2 2 [97, 98] [99] (by decide) (by decide)).mono ?_
  rintro e w3 ⟨rfl, h3⟩
  go_wp2_with fail
  refine (b_get h3 2 [99] [] (by decide) (by decide)).mono ?_
  rintro e w4 ⟨rfl, h4⟩
  go_wp2_with fail
  refine (b_put h4 [120] (by decide)).mono ?_
  rintro e w5 ⟨rfl, h5⟩
  go_wp2_with fail
  refine (b_put h5 [121] (by decide)).mono ?_
  rintro e w6 ⟨rfl, h6⟩
  go_wp2_with fail
  refine (b_set h6 2 (by decide)).mono ?_
  rintro e w7 ⟨rfl, h7⟩
  go_wp2_with fail
  refine (b_tick h7 false 1 (by decide) (by decide) (by decide) (by decide)).mono ?_
  rintro e w8 ⟨rfl, h8⟩
  go_wp2_with fail
  refine (b_tick h8 true 0 (by decide) (by decide) (by decide) (by decide)).mono ?_
  rintro e w9 ⟨rfl, h9⟩
  go_wp2_with fail
  refine (b_tick h9 false 0 (by decide) (by decide) (by decide) (by decide)).mono ?_
  rintro e w10 ⟨rfl, h10⟩
  go_wp2_with fail
  refine (b_left h10).mono ?_
  rintro e w11 ⟨rfl, rfl⟩
  go_wp2_with fail
  refine (b_out h10).mono ?_
  rintro e w12 ⟨rfl, rfl⟩
  go_wp2_with fail
  refine (tset_no _ 201 _ (by decide)).mono ?_
  rintro e w13 ⟨rfl, rfl⟩
  go_wp2_with fail
  go_ret
  exact ⟨rfl, h10.old⟩

end Go.Proofs.Ytbihcaacpeoghaa
