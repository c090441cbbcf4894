/- januslaw14's awake: true in every world; a deed as cells. -/
import Derived.Test.YtahcbehbpadjaaaBitC
import Derived.Test.YtahcbehbpadjaaaKinds
namespace Go.Proofs.Ytahcbehbpadjaaa
open Go.ChangeShapes Go.WideShapes Go.ChangeAt Go.RowKit
set_option linter.unusedVariables false

theorem upd_below {B g : Nat} {w w1 w2 : World} (h : Below B w w1) (hu : Upd g w1 w2) (hg : B ≤ g) (hs : B ≤ w1.heap.size) : Below B w w2 := h.trans (hu.below hg hs)

theorem k_low0 : Low (bt [0]) 3 0 := Or.inl ⟨0, rfl, by omega, fun j hj => by omega, by decide +kernel⟩
theorem k_low1 : Low (bt [1]) 3 1 := Or.inl ⟨1, rfl, by omega, by decide +kernel, by decide +kernel⟩
theorem k_low2 : Low (bt [2]) 3 0 := Or.inl ⟨0, rfl, by omega, fun j hj => by omega, by decide +kernel⟩
theorem k_low3 : Low (bt [3]) 3 2 := Or.inl ⟨2, rfl, by omega, by decide +kernel, by decide +kernel⟩
theorem k_low7 : Low (bt [7]) 3 (-1) := Or.inr ⟨rfl, by decide +kernel⟩
theorem k_take0 : takeW [0] 0 = [1] := by decide +kernel
theorem k_take1 : takeW [1] 1 = [3] := by decide +kernel
theorem k_mark : markW [3] 3 0 false = [2] := by decide +kernel
theorem k_markR : markR 3 0 = 0 := by decide +kernel
theorem k_take2 : takeW [2] 0 = [3] := by decide +kernel
theorem k_take3 : takeW [3] 2 = [7] := by decide +kernel
theorem k_take7 : takeW [7] (-1) = [7] := by decide +kernel
theorem k_left : cntF (bt [7]) 3 = 0 := by decide +kernel
theorem k_used2 : usedB [7] 3 2 = true := by decide +kernel
theorem k_used3 : usedB [7] 3 3 = false := by decide +kernel
theorem k_of : ¬ ofOK 3 [8] := fun h => by
  have := h.2.2.past 3 (by decide)
  exact absurd this (by decide +kernel)

theorem ptr_eq (b : Nat) (W : World) : (binOp .eql 23 (.pointer (some ⟨b, 0, none⟩)) (.pointer none)).run Try.prog W = .ok (.bool false) W := by go_simp

set_option maxHeartbeats 2000000 in
theorem awake_at (w : World) :
    Calls Try.prog 21 #[] w fun e w' => e = .returned (.bool true) ∧ Below w.heap.size w w' := by
  go_enter Try.func21, Try.ntmps21
  go_wp2_with fail
  refine (new_at 3 w (by omega) (by omega)).mono ?_
  rintro e w1 ⟨rfl, hE, hB, hsz⟩
  obtain ⟨b, hbq⟩ : ∃ b, b = w.heap.size + 1 := ⟨_, rfl⟩
  obtain ⟨g, hgq⟩ : ∃ g, g = w.heap.size := ⟨_, rfl⟩
  rw [← hbq] at hE ⊢
  have HE0 : Hid (BmAt w1 b g 3 [0]) := by rw [hgq]; exact hE
  have hgg : w.heap.size ≤ g := by omega
  have HB0 : Hid (Below w.heap.size w w1) := hB
  have hne := ptr_eq b
  clear hE hB hsz hbq hgq
  go_wp2_with fail
  refine (take_at b g 3 [0] 0 w1 HE0.out k_low0).mono ?_
  rw [k_take0]
  rintro e w2 ⟨rfl, hE, hU⟩
  have HE1 : Hid (BmAt w2 b g 3 [1]) := hE
  have HB1 : Hid (Below w.heap.size w w2) := upd_below HB0.out hU hgg HB0.out.size
  clear hE hU HE0 HB0
  go_wp2_with fail
  refine (take_at b g 3 [1] 1 w2 HE1.out k_low1).mono ?_
  rw [k_take1]
  rintro e w3 ⟨rfl, hE, hU⟩
  have HE2 : Hid (BmAt w3 b g 3 [3]) := hE
  have HB2 : Hid (Below w.heap.size w w3) := upd_below HB1.out hU hgg HB1.out.size
  clear hE hU HE1 HB1
  go_wp2_with fail
  refine (mark_at b g 3 [3] 0 false w3 HE2.out).mono ?_
  rw [k_mark, k_markR]
  rintro e w4 ⟨rfl, hE, hU⟩
  have HE3 : Hid (BmAt w4 b g 3 [2]) := hE
  have HB3 : Hid (Below w.heap.size w w4) := upd_below HB2.out hU hgg HB2.out.size
  clear hE hU HE2 HB2
  go_wp2_with fail
  refine (take_at b g 3 [2] 0 w4 HE3.out k_low2).mono ?_
  rw [k_take2]
  rintro e w5 ⟨rfl, hE, hU⟩
  have HE4 : Hid (BmAt w5 b g 3 [3]) := hE
  have HB4 : Hid (Below w.heap.size w w5) := upd_below HB3.out hU hgg HB3.out.size
  clear hE hU HE3 HB3
  go_wp2_with fail
  refine (take_at b g 3 [3] 2 w5 HE4.out k_low3).mono ?_
  rw [k_take3]
  rintro e w6 ⟨rfl, hE, hU⟩
  have HE5 : Hid (BmAt w6 b g 3 [7]) := hE
  have HB5 : Hid (Below w.heap.size w w6) := upd_below HB4.out hU hgg HB4.out.size
  clear hE hU HE4 HB4
  go_wp2_with fail
  refine (take_at b g 3 [7] (-1) w6 HE5.out k_low7).mono ?_
  rw [k_take7]
  rintro e w7 ⟨rfl, hE, hU⟩
  have HE6 : Hid (BmAt w7 b g 3 [7]) := hE
  have HB6 : Hid (Below w.heap.size w w7) := upd_below HB5.out hU hgg HB5.out.size
  clear hE hU HE5 HB5
  obtain ⟨W8, hW8⟩ : ∃ W, W = w7.alloc (.cells #[.int .u64 8] 54) := ⟨_, rfl⟩
  have HN8 : Hid (NRd W8 (.slice (some ⟨w7.heap.size, 0, none⟩) 1 1) [8]) := by rw [hW8]; exact nrd_of_row (ws := [8]) (heap_alloc_new _ _)
  have HB8 : Hid (Below w7.heap.size w7 W8) := by rw [hW8]; exact below_alloc _ _
  have HW8 : Hid _ := hW8
  clear hW8
  go_wp2_with fail
  rw [← HW8.out]
  clear HW8
  refine (of_at 3 [8] _ W8 HN8.out (by simp) (by simp)).mono ?_
  rintro e w9 ⟨p, r, rfl, hb9, hr⟩
  obtain ⟨rfl, -, rfl⟩ := hr.resolve_left (fun k => k_of k.2.1)
  have hb79 : Below w7.heap.size w7 w9 := HB8.out.trans (hb9.mono HB8.out.size)
  have HE9 : Hid (BmAt w9 b g 3 [7]) := BmAt.below HE6.out hb79
  have HB9 : Hid (Below w.heap.size w w9) := HB6.out.trans (hb79.mono HB6.out.size)
  clear hr hb9 hb79 HN8 HB8 HE6 HB6
  go_wp2_with fail
  refine (words_at b g 3 [7] w9 HE9.out).mono ?_
  rintro e w10 ⟨v10, rfl, hn10, hb10⟩
  obtain ⟨a10, c10, rfl⟩ := hn10.is
  dsimp only [List.length_cons, List.length_nil] at *
  have HN10 : Hid (NRd w10 (.slice a10 1 c10) [7]) := hn10
  have HE10 : Hid (BmAt w10 b g 3 [7]) := BmAt.below HE9.out hb10
  have HB10 : Hid (Below w.heap.size w w10) := HB9.out.trans (hb10.mono HB9.out.size)
  clear hn10 hb10 HE9 HB9
  obtain ⟨W, hW⟩ : ∃ W, W = w10.alloc (.cells #[.int .u64 7] 54) := ⟨_, rfl⟩
  have HN11 : Hid (NRd W (.slice (some ⟨w10.heap.size, 0, none⟩) 1 1) [7]) := by rw [hW]; exact nrd_of_row (ws := [7]) (heap_alloc_new _ _)
  have HB11 : Hid (Below w10.heap.size w10 W) := by rw [hW]; exact below_alloc _ _
  have HW : Hid _ := hW
  clear hW
  go_wp2_with fail
  rw [← HW.out]
  clear HW
  refine (words_same _ _ [7] W (NRd.below HN10.out HB11.out) HN11.out (by simp)).mono ?_
  rintro e w12 ⟨rfl, hq⟩
  have hb12 : Below w10.heap.size w10 w12 := HB11.out.trans ((drewN_below hq).mono HB11.out.size)
  have HE12 : Hid (BmAt w12 b g 3 [7]) := BmAt.below HE10.out hb12
  have HB12 : Hid (Below w.heap.size w w12) := HB10.out.trans (hb12.mono HB10.out.size)
  clear hq hb12 HN10 HN11 HB11 HE10 HB10
  go_wp2_with fail
  refine (left_at b g 3 [7] w12 HE12.out).mono ?_
  rw [k_left]
  rintro e w13 ⟨rfl, hq⟩
  have hb13 := drewN_below hq
  have HE13 : Hid (BmAt w13 b g 3 [7]) := BmAt.below HE12.out hb13
  have HB13 : Hid (Below w.heap.size w w13) := HB12.out.trans (hb13.mono HB12.out.size)
  clear hq hb13 HE12 HB12
  go_wp2_with fail
  refine (used_at b g 3 [7] 2 w13 HE13.out).mono ?_
  rw [k_used2]
  rintro e w14 ⟨rfl, hq⟩
  have hb14 := drewN_below hq
  have HE14 : Hid (BmAt w14 b g 3 [7]) := BmAt.below HE13.out hb14
  have HB14 : Hid (Below w.heap.size w w14) := HB13.out.trans (hb14.mono HB13.out.size)
  clear hq hb14 HE13 HB13
  go_wp2_with fail
  refine (used_at b g 3 [7] 3 w14 HE14.out).mono ?_
  rw [k_used3]
  rintro e w15 ⟨rfl, hq⟩
  have hb15 := drewN_below hq
  have HB15 : Hid (Below w.heap.size w w15) := HB14.out.trans (hb15.mono HB14.out.size)
  clear hq hb15 HE14 HB14
  go_wp2
  go_ret
  exact ⟨rfl, HB15.out⟩

structure Deed where
  kind : Int
  i : Int
  on : Bool
abbrev deedRow (d : Deed) : Array Value := #[.int .i64 d.kind, .int .i64 d.i, .bool d.on]
theorem deedCells {w : World} {g : Nat} {d : Deed} {t : TypeId} (h : w.heap[g]? = some (.cells (deedRow d) t)) :
    w.cell? ⟨g, 0, none⟩ = some (.int .i64 d.kind) ∧ w.cell? ⟨g, 1, none⟩ = some (.int .i64 d.i) ∧ w.cell? ⟨g, 2, none⟩ = some (.bool d.on) := by
  refine ⟨?_, ?_, ?_⟩ <;> (rw [cell_of_heap h]; rfl)
abbrev deedCK : List CK := [.i .i64, .i .i64, .b]
theorem deedKinds : kindsOf Try.prog 9 28 = some deedCK := by kernel_rfl
theorem deedSize : Try.prog.cellsOf 28 = 3 := by kernel_rfl
theorem deedOf {l : List Value} (h : Fits deedCK l) : ∃ d : Deed, l = (deedRow d).toList := by
  obtain ⟨_, _, rfl, ⟨a, rfl, ha⟩, _, _, rfl, ⟨b, rfl, hb⟩, _, _, rfl, ⟨c, rfl⟩, rfl⟩ := h
  exact ⟨⟨a, b, c⟩, rfl⟩
/-- A slice at a0 holds so many deeds. -/
def DeedAt (w : World) (gb o : Nat) (d : Deed) : Prop :=
  w.cell? ⟨gb, o, none⟩ = some (.int .i64 d.kind) ∧ w.cell? ⟨gb, o + 1, none⟩ = some (.int .i64 d.i) ∧ w.cell? ⟨gb, o + 2, none⟩ = some (.bool d.on)
theorem DeedAt.below {w w' : World} {gb o : Nat} {d : Deed} (h : DeedAt w gb o d) (hb : Below w.heap.size w w') : DeedAt w' gb o d := by
  obtain ⟨a0, a1, a2⟩ := h
  exact ⟨(hb.cell (cell_lt a0)).trans a0, (hb.cell (cell_lt a1)).trans a1, (hb.cell (cell_lt a2)).trans a2⟩
def DeedsAt (w : World) (a0 : Option Addr) (len : Nat) : Prop := ∀ j, j < len → ∃ gb off d, a0 = some ⟨gb, off, none⟩ ∧ DeedAt w gb (off + j * 3) d
theorem DeedsAt.below {w w' : World} {a0 : Option Addr} {len : Nat} (h : DeedsAt w a0 len) (hb : Below w.heap.size w w') : DeedsAt w' a0 len := by
  intro j hj
  obtain ⟨gb, off, d, e, hc⟩ := h j hj
  exact ⟨gb, off, d, e, hc.below hb⟩
theorem deeds_of {w : World} {a0 : Option Addr} {len : Nat} (h : ∀ j, j < len → ∃ gb off cs, a0 = some ⟨gb, off, none⟩ ∧ Fits deedCK cs ∧ ∀ i u, cs[i]? = some u → w.cell? ⟨gb, off + j * 3 + i, none⟩ = some u) : DeedsAt w a0 len := by
  intro j hj
  obtain ⟨gb, off, cs, ea, hfit, hcell⟩ := h j hj
  obtain ⟨d, rfl⟩ := deedOf hfit
  exact ⟨gb, off, d, ea, hcell 0 _ rfl, hcell 1 _ rfl, hcell 2 _ rfl⟩
end Go.Proofs.Ytahcbehbpadjaaa
