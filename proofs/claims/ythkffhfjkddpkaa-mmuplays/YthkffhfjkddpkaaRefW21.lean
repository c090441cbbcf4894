/- The contract of the reference TLB's Walk, where one page is kept and the page is not among them. -/
import Derived.Test.YthkffhfjkddpkaaRefW2
namespace Go.Proofs.Ythkffhfjkddpkaa
open Go.RowKit
set_option linter.unusedVariables false

set_option maxHeartbeats 8000000 in
theorem rtwalk_1 (c : Nat) (v : Value) (ka : Int × Int × Bool) (x0 : Nat) (f : Int → Option (Int × Bool)) (a : Int) (wr : Bool) (x : Int × Bool) (w : World) (h : RTlb w c v [ka]) (hx : RTbl w x0 f) (h0 : 0 ≤ a) (hlt : a < 128) (hno0 : noneTo [ka] (a / 32) 1) (hg : f (a / 32) = some x) (L : List (Int × Int × Bool)) (hLe : L = [ka, (a / 32, x)]) (hfx : findV L (a / 32) = some x) :
    Calls Try.prog 16 #[.pointer (some ⟨c, 0, none⟩), .pointer (some ⟨x0, 0, none⟩), .int .u64 a, .bool wr] w fun e w' => e = .returned (t4 (reachV x a wr) false) ∧
      ∃ v', RTlb w' c v' L ∧ (∀ g, v'.ownBlock = some g → v.ownBlock = some g ∨ w.heap.size ≤ g) ∧ Upd c w w' := by
  obtain ⟨i0, hi0, hzz⟩ := Option.map_eq_some_iff.1 rkeptInfo
  simp only [Prod.mk.injEq] at hzz
  obtain ⟨hz0, hz1, hz2⟩ := hzz
  have hL3 : L.length ≤ 3 := by rw [hLe]; simp
  have hd : decide (128 ≤ a) = false := by simp; omega
  have hat := rat_at x0 f (a / 32) w hx
  rw [hg] at hat
  have hfind := rfind_at c v [ka] (a / 32) w h (by simp)
  go_enter Try.func16, Try.ntmps16
  go_wp2_with fail
  refine hfind.mono ?_
  rintro o w1 ⟨⟨rfl, hno⟩ | ⟨k, e, rfl, hno, he, hpe⟩, rfl⟩
  rotate_left
  · exact absurd hpe (hno0 k e (List.getElem?_eq_some_iff.1 he).1 he)
  · go_wp2_with fail
    refine hat.mono ?_
    rintro e w2 ⟨rfl, hb2⟩
    simp only [pv, Option.getD_some, Option.isSome_some]
    obtain ⟨W, hW⟩ : ∃ W, W = w2.alloc (.cells #[.int .i64 x.1, .bool x.2] 29) := ⟨_, rfl⟩
    have hB : Below w1.heap.size w1 W := by rw [hW]; exact hb2.alloc hb2.size _
    have hq : W.heap[w2.heap.size]? = some (.cells #[.int .i64 x.1, .bool x.2] 29 (0, 0)) := by rw [hW]; exact heap_alloc_new _ _
    have hT := h.below hB
    have q0 : W.cell? ⟨w2.heap.size, 0, none⟩ = some (.int .i64 x.1) := by rw [cell_of_heap hq]; rfl
    have q1 : W.cell? ⟨w2.heap.size, 1, none⟩ = some (.bool x.2) := by rw [cell_of_heap hq]; rfl
    have hqW := lt_of_heap hq
    obtain ⟨b, cap, hv, _, _, hform⟩ := hT.form
    obtain ⟨g, off, cur, rfl, hcur, hpts⟩ := hform (by simp)
    have hnews : ∀ j u, (flat [ka])[j]? = some u → W.cell? ((⟨g, off, none⟩ : Addr).add j) = some u := by
      intro j u hu
      rw [Addr.add_lit, cell_of_heap hcur]
      exact pts_news hpts j u hu
    have N1 : Hid _ := hnews
    have hglW := lt_of_heap hcur
    clear hcur hpts hnews
    have hvc : W.cell? ⟨c, 0, none⟩ = some v := by rw [cell_of_heap hT.head]; rfl
    have hc : W.cell? ⟨c, 0, none⟩ = some (.slice (some ⟨g, off, none⟩) 1 cap) := by rw [hvc, hv]; rfl
    have hz : W.frozen? ⟨c, 0, none⟩ = false := frozen_of_heap hT.head
    have HW : Hid _ := hW
    have HT : Hid _ := hT
    have hcW := hT.lt
    have hBs := hB.size
    have HNB : Hid (∀ (Z : World), (Z.alloc (.cells #[.int .i64 (a / 32), .int .i64 x.1, .bool x.2] 76)).heap[Z.heap.size]? = some (.cells #[.int .i64 (a / 32), .int .i64 x.1, .bool x.2] 76 (0, 0))) := fun Z => heap_alloc_new _ _
    clear hT hW hfind hat hform hvc hv
    go_upto_region 9 with fail
    rw [← HW.out]
    go_cut [] (fun wc => ∃ gz capz, RTlb wc c (.slice (some ⟨gz, 0, none⟩) 2 capz) [ka, (a / 32, x)] ∧ w1.heap.size ≤ gz ∧ Upd c w1 wc)
    case first =>
      have hfa := frozen?_alloc_cells
      go_region_law (first
        | (refine step_append_lies _ (by rfl) (.const (.slice none 0 0)) (.tmp 41) _ (by rfl) W.heap.size 76 i0 _ 3 24 Try.underlying35 hi0 hz0 hz1 hz2 rfl (by omega) (.slice none 0 0) 0 [] (by rfl) (World.ownsRow_nil _ _ _ _)
              ⟨g, off, none⟩ 1 cap (flat [ka]) (by rfl) (by simp [flat_len]) (fun j u hu => by first | exact N1.out j u hu | exact cell_alloc_old (N1.out j u hu) _) (by simp [flat, Value.oneCell'])
              (by omega) (by unfold maxLen; omega) (by omega) (by simp) _ rfl ?_; intro g1 cap1 w3 hown3 hgrow3 hat3 hlt3; have B3 : Below W.heap.size W w3 := (by first | exact (Below.refl W.heap.size W).drew.trans (below_grown (v := .slice none 0 0) (w := W.drew) hgrow3 (Nat.le_refl _) (fun g hg => by simp [Value.ownBlock] at hg)) | exact ((Below.refl W.heap.size W).alloc (Nat.le_refl _) _).drew.trans (below_grown (v := .slice none 0 0) hgrow3 (by simp) (fun g hg => by simp [Value.ownBlock] at hg))); have q03 := (B3.cell (p := ⟨w2.heap.size, 0, none⟩) hqW).trans q0; have q13 := (B3.cell (p := ⟨w2.heap.size, 1, none⟩) hqW).trans q1)
        | (refine step_append_lies _ (by rfl) (.tmp 42) (.tmp 46) _ (by rfl) W.heap.size 76 i0 _ 3 24 Try.underlying35 hi0 hz0 hz1 hz2 rfl (by omega) (.slice (some ⟨g1, 0, none⟩) 1 cap1) 1 (flat [ka]) (by rfl) (hown3.alloc _)
              ⟨w3.heap.size, 0, none⟩ 1 1 [.int .i64 (a / 32), .int .i64 x.1, .bool x.2] (by rfl) (by rfl) (World.news_of_block (cs := #[.int .i64 (a / 32), .int .i64 x.1, .bool x.2]) (t := 76) (fr := (0, 0)) (HNB.out w3)) (by simp [Value.oneCell'])
              (by omega) (by unfold maxLen; omega) (by omega) (by have := B3.size; simp; omega) _ rfl ?_; intro g2 cap2 w4 hown4 hgrow4 hat4 hlt4; have B4 : Below W.heap.size W w4 := (by first | exact (B3.alloc B3.size _).trans (below_grown (v := .slice (some ⟨g1, 0, none⟩) 1 cap1) hgrow4 (by have := B3.size; simp; omega) (ownsRow_low hown3)) | exact B3.trans (below_grown (v := .slice (some ⟨g1, 0, none⟩) 1 cap1) hgrow4 B3.size (ownsRow_low hown3))); have hcw := B4.cell (p := ⟨c, 0, none⟩) hcW; have hfw := B4.frozen (p := ⟨c, 0, none⟩) hcW)
        | (refine step_append_lies _ (by rfl) (.tmp 42) (.tmp 46) _ (by rfl) W.heap.size 76 i0 _ 3 24 Try.underlying35 hi0 hz0 hz1 hz2 rfl (by omega) (.slice (some ⟨g1, 0, none⟩) 1 cap1) 1 (flat [ka]) (by rfl) hown3
              ⟨W.heap.size, 0, none⟩ 1 1 [.int .i64 (a / 32), .int .i64 x.1, .bool x.2] (by rfl) (by rfl) (World.news_of_block (cs := #[.int .i64 (a / 32), .int .i64 x.1, .bool x.2]) (t := 76) (fr := (0, 0)) ((hgrow3.block W.heap.size (by simp) (by simp [Value.ownBlock])).trans (HNB.out W))) (by simp [Value.oneCell'])
              (by omega) (by unfold maxLen; omega) (by omega) (by have := B3.size; simp; omega) _ rfl ?_; intro g2 cap2 w4 hown4 hgrow4 hat4 hlt4; have B4 : Below W.heap.size W w4 := (by first | exact (B3.alloc B3.size _).trans (below_grown (v := .slice (some ⟨g1, 0, none⟩) 1 cap1) hgrow4 (by have := B3.size; simp; omega) (ownsRow_low hown3)) | exact B3.trans (below_grown (v := .slice (some ⟨g1, 0, none⟩) 1 cap1) hgrow4 B3.size (ownsRow_low hown3))); have hcw := B4.cell (p := ⟨c, 0, none⟩) hcW; have hfw := B4.frozen (p := ⟨c, 0, none⟩) hcW))
      all_goals
        go_wp2_with fail
        go_meet
        case rel =>
          have hown5 : w4.ownsRow W.heap.size 76 3 (.slice (some ⟨g2, 0, none⟩) 2 cap2) 2 (flat [ka, (a / 32, x)]) := hown4
          exact ⟨g2, cap2, rtlb_of_own (ks := [ka, (a / 32, x)]) ((B4.block c hcW).trans HT.out.head) hown5 hcW, Nat.le_trans hBs (ownsRow_low hown5 g2 rfl), (Upd.of_below (hB.trans (B4.mono hBs))).trans (Upd.setCell _ _ _ _)⟩
    case rest =>
      obtain ⟨gz, capz, RT, hgz, U⟩ := hcut
      have hcc : wc.cell? ⟨c, 0, none⟩ = some (.slice (some ⟨gz, 0, none⟩) 2 capz) := by rw [cell_of_heap RT.head]; rfl
      have hfr : ∀ g, (Value.slice (some ⟨gz, 0, none⟩) 2 capz).ownBlock = some g → v.ownBlock = some g ∨ w1.heap.size ≤ g := by
        intro g hg
        simp [Value.ownBlock] at hg
        subst hg
        exact Or.inr hgz
      obtain ⟨v5, hv5⟩ : ∃ v5, v5 = Value.slice (some ⟨gz, 0, none⟩) 2 capz := ⟨_, rfl⟩
      rw [← hv5] at RT hfr
      rw [← hLe] at RT
      clear hgz HT h hx hv5 hLe
      go_wp2_with fail
      refine (rfind_at c v5 L (a / 32) wc RT hL3).mono ?_
      rintro o w6 ⟨⟨rfl, hno6⟩ | ⟨k, e, rfl, hno6, he6, hpe6⟩, rfl⟩
      · exact absurd (findV_end hno6) (by rw [hfx]; simp)
      · (try clear hcc)
        have hx2 := (findV_hit hno6 he6 hpe6).symm.trans hfx
        simp only [Option.some.injEq] at hx2
        have hkl : k < L.length := (List.getElem?_eq_some_iff.1 he6).1
        obtain ⟨b5, cap5, rfl, _, _, hf5⟩ := RT.form
        obtain ⟨g5, o5, cur5, rfl, hh5, hp5⟩ := hf5 (by intro e; rw [e] at hkl; simp at hkl)
        obtain ⟨_, k1, k2⟩ := hp5 k e he6
        have c5 : w6.cell? ⟨c, 0, none⟩ = some (.slice (some ⟨g5, o5, none⟩) L.length cap5) := by rw [cell_of_heap RT.head]; rfl
        have d1 : w6.cell? ⟨g5, o5 + k * 3 + 1, none⟩ = some (.int .i64 x.1) := by rw [cell_of_heap hh5, k1, hx2]
        have d2 : w6.cell? ⟨g5, o5 + k * 3 + 2, none⟩ = some (.bool x.2) := by rw [cell_of_heap hh5, k2, hx2]
        have hint : (k : Int) < (L.length : Int) := by omega
        have HRT : Hid _ := RT
        have HU : Hid _ := U
        have HFr : Hid _ := hfr
        clear RT U hfr hf5 hp5 hh5 k1 k2 he6 hpe6 hx2 hno6
        obtain ⟨fr, wt⟩ := x
        cases wr <;> cases wt
        all_goals
          go_wp2
          (try simp only [Exit.inBlock, Exit.then])
          refine bodyPost_ret (results_tmp4 rfl _ _ _) rfl ?_
          have hb6 : ∀ o, Below w6.heap.size w6 (w6.alloc o) := fun o => (Below.refl _ _).alloc (Nat.le_refl _) _
          refine ⟨?_, _, (HRT.out).below (hb6 _), HFr.out, (HU.out).trans (Upd.of_below (hb6 _))⟩
          simp [reachV, t4] <;> go_num

end Go.Proofs.Ythkffhfjkddpkaa
