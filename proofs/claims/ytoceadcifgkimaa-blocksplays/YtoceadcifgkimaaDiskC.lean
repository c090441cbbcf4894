/- That 'awake' (chapter 3's examples) answers true. -/
import Derived.Test.YtoceadcifgkimaaDiskB
namespace Go.Proofs.Ytoceadcifgkimaa
open Go.RowKit
set_option linter.unusedVariables false

theorem URow.is {M : Nat} {w : World} {v : Value} {xs : List Int} (h : URow M w v xs) : ∃ a cap, v = .slice a xs.length cap := by
  obtain ⟨a, cap, e, _⟩ := h
  exact ⟨a, cap, e⟩
theorem URow.cell {M g n cap : Nat} {w : World} {xs : List Int} (h : URow M w (.slice (some ⟨g, 0, none⟩) n cap) xs) (j : Nat) (hj : j < xs.length) : w.cell? ⟨g, j, none⟩ = some (.int .u64 (xs.getD j 0)) := by
  obtain ⟨a, c, e, _, _, hf⟩ := h
  obtain ⟨g', cur, e2, _, hh, hc⟩ := hf (by intro e; rw [e] at hj; simp at hj)
  simp only [Value.slice.injEq] at e
  obtain ⟨e3, _⟩ := e
  rw [← e3] at e2
  simp only [Option.some.injEq, Addr.mk.injEq] at e2
  obtain ⟨rfl, _⟩ := e2
  rw [cell_of_heap hh]
  exact hc j _ (by simp [hj])
theorem UpdP.below2 {b g B : Nat} {w w' : World} (h : UpdP (fun k => k = b ∨ k = g) w w') (h1 : B ≤ b) (h2 : B ≤ g) (hs : B ≤ w.heap.size) : Below B w w' :=
  h.below (fun k hk => by rcases hk with rfl | rfl <;> assumption) hs

theorem cnt32 : cnt 32 = 32 := by decide
theorem cnt31 : cnt 31 = 31 := by decide
theorem blk32 (v : Int) : (blk v (cnt 32)).length = 32 := by rw [blk_len, cnt32]
theorem splice_frame (vs ws : List Int) (n f : Nat) (hl : vs.length = n * 32) (hf : f < n) (hw : ws.length = 32) : frameOf (splice vs (f * 32) ws) f = ws := by
  rw [frame_splice vs ws n f f hl hf hf hw, if_pos rfl]

set_option maxHeartbeats 2000000 in
theorem awake_any (w : World) :
    Calls Try.prog 17 #[] w fun e w' => e = .returned (.bool true) ∧ Below w.heap.size w w' := by
  go_enter Try.func17, Try.ntmps17
  go_wp2_with fail
  refine (new_at 2 _ (by omega) (by omega)).mono ?_
  rintro e w1 ⟨rfl, hm1, hb1, hs1⟩
  have HS1 : Hid _ := hs1
  clear hs1
  go_wp2_with fail
  refine (block_row 32 5 _).mono ?_
  rintro e w2 ⟨u2, rfl, hr2, hb2⟩
  have hm2 := hm1.below hb2
  go_wp2_with fail
  refine (put_at w1.heap.size _ _ _ _ _ _ _ 1 _ _ hm2 (by omega) (by simp) (by omega) hr2 (blk32 5) (by have := HS1.out; omega)).mono ?_
  rintro e w3 ⟨rfl, hm3, hu3⟩
  go_wp2_with fail
  refine (get_at _ _ _ _ _ _ 1 _ hm3 (by omega) (by simp) (by omega)).mono ?_
  rintro e w4 ⟨gg, rfl, hr4, hm4, hu4⟩
  have e4 : frameOf (splice (List.replicate ((2 : Int).toNat * 32) 0) ((1 : Int).toNat * 32) (blk 5 (cnt 32))) (1 : Int).toNat = blk 5 (cnt 32) := splice_frame _ _ 2 1 (by simp) (by omega) (blk32 5)
  rw [e4] at hr4
  have hc4 := hr4.cell 0 (by rw [blk32]; omega)
  have e5 : (blk 5 (cnt 32)).getD 0 0 = 5 := by rfl
  rw [e5] at hc4
  clear e4 e5
  go_wp2_with fail
  refine (getno_at _ _ _ _ _ _ 2 _ hm4 (by simp)).mono ?_
  rintro e w5 ⟨rfl, rfl⟩
  go_wp2_with fail
  refine (moves_at _ _ _ _ _ _ _ hm4).mono ?_
  rintro e w6 ⟨rfl, hq6⟩
  have hb6 := drewN_below hq6
  have hc6 : w6.cell? ⟨gg, 0, none⟩ = some (.int .u64 5) := (hb6.cell (cell_lt hc4)).trans hc4
  have hm6 := hm4.below hb6
  have HQ : Hid _ := hq6
  clear hq6
  go_wp2_with fail
  refine (block_row 31 0 _).mono ?_
  rintro e w7 ⟨u7, rfl, hr7, hb7⟩
  have hm7 := hm6.below hb7
  obtain ⟨a7, c7, rfl⟩ := hr7.is
  go_wp2_with fail
  refine (putno_at _ _ _ _ _ _ 0 _ _ _ _ hm7 (by rw [blk_len, cnt31]; omega)).mono ?_
  rintro e w8 ⟨rfl, rfl⟩
  go_wp2_with fail
  go_ret
  have hs1 := HS1.out
  have s2 := hb2.size
  have b3 := hu3.below2 (B := w.heap.size) (by omega) (by omega) (by omega)
  have s3 := b3.size
  have b4 := hu4.below (B := w.heap.size) (by omega) (by omega)
  have s4 := b4.size
  have s6 := hb6.size
  exact ⟨rfl, ((((hb1.trans (hb2.mono (by omega))).trans b3).trans b4).trans (hb6.mono (by omega))).trans (hb7.mono (by omega))⟩

end Go.Proofs.Ytoceadcifgkimaa
