/- The reference of package caps: put, where there is none yet, and on the whole. -/
import Derived.Test.YtfnafjddajgahaaGreatRefC8
namespace Go.Proofs.YtfnafjddajgahaaGreat
open Go.RowKit
namespace Ca
set_option linter.unusedVariables false

set_option maxRecDepth 100000 in
set_option maxHeartbeats 4000000 in
theorem rput_nil (M c : Nat) (sv : Value) (last n ob s : Int) (x : Cp) (w : World) (h : RefAt M w c sv [] last) (hM : M ≤ w.heap.size) (hla : 0 ≤ last ∧ last ≤ 100000) (hf : rfree [] n = s) (hs : 1 ≤ s) :
    Calls Tryz.prog 73 #[.pointer (some ⟨c, 0, none⟩), .int .i64 n, .int .i64 ob, .agg (cpRow x)] w fun e w' => e = .returned (.tuple #[.int .i64 s, .int .i64 0]) ∧ ∃ sv', RefAt M w' c sv' [⟨last + 1, ob, n, s, x⟩] (last + 1) ∧ Upd c w w' := by
  obtain ⟨i0, hi0, hzz⟩ := Option.map_eq_some_iff.1 ceInfo
  simp only [Prod.mk.injEq] at hzz
  obtain ⟨hz0, hz1, hz2⟩ := hzz
  obtain ⟨W0, hW0⟩ : ∃ W, W = w.alloc (.cells (cpRow x) 95) := ⟨_, rfl⟩
  have hbW0 : Below w.heap.size w W0 := by rw [hW0]; exact below_alloc _ _
  have hr0 := h.below hbW0
  have hfr := free_at M c sv [] last n W0 hr0 (by simp)
  rw [hf] at hfr
  have hr1 := hr0.put1 (last + 1)
  have hsz0 : W0.heap.size = w.heap.size + 1 := by rw [hW0]; simp
  have hbox0 : W0.heap[w.heap.size]? = some (.cells (cpRow x) 95) := by rw [hW0]; exact heap_alloc_new _ _
  have hlt := h.lt
  obtain ⟨W, hW⟩ : ∃ W, W = W0.setCell ⟨c, 1, none⟩ (.int .i64 (last + 1)) := ⟨_, rfl⟩
  have hu1 : Upd c W0 W := by rw [hW]; exact Upd.setCell _ _ _ _
  rw [← hW] at hr1
  have hsz : W.heap.size = w.heap.size + 1 := by rw [hW]; simp [World.setCell, hsz0]
  have hbox : W.heap[w.heap.size]? = some (.cells (cpRow x) 95) := (hu1.block _ (by omega) (by omega)).trans hbox0
  obtain ⟨b0, b1, b2, b3⟩ := cap_cells hbox
  have a1 := hr0.c1
  have fa : W0.frozen? ⟨c, 1, none⟩ = false := frozen_of_heap hr0.head
  have HU : Hid (Upd c w W) := (Upd.of_below hbW0).trans hu1
  have HW0 : Hid _ := hW0
  have HW : Hid _ := hW
  have HR1 : Hid _ := hr1
  have hc0 := hr1.c0
  have hc1 := hr1.c1
  have hfz : W.frozen? ⟨c, 0, none⟩ = false := frozen_of_heap hr1.head
  have hcW := hr1.lt
  have hss : (s == 0) = false := by simp; omega
  obtain ⟨hla0, hla9⟩ := hla
  have hqW : w.heap.size < W.heap.size := by omega
  have HNB : Hid (∀ (Z : World), (Z.alloc (.cells #[.int .i64 (last + 1), .int .i64 ob, .int .i64 n, .int .i64 s, .int .i64 x.kind, .int .i64 x.id, .int .i64 x.len, .int .i64 x.rights] 99)).heap[Z.heap.size]? = some (.cells #[.int .i64 (last + 1), .int .i64 ob, .int .i64 n, .int .i64 s, .int .i64 x.kind, .int .i64 x.id, .int .i64 x.len, .int .i64 x.rights] 99 (0, 0))) := fun Z => heap_alloc_new _ _
  have HMW : Hid (M ≤ W.heap.size) := by show M ≤ W.heap.size; omega
  clear hr0 hbox0 hbox hu1 hbW0 h hW hW0 hf hsz hsz0
  obtain ⟨k, i, l, r⟩ := x
  dsimp only [cpRow] at *
  have hsv := hr1.nil rfl
  subst hsv
  clear hr1
  go_enter Tryz.func73, Tryz.ntmps73
  go_wp2_with fail
  rw [← HW0.out]
  refine hfr.mono ?_
  rintro e w1 ⟨rfl, hw1⟩
  rw [hw1]
  clear hw1 w1 hfr
  go_wp2
  rw [← HW.out]
  clear a1 fa
  have hfa := frozen?_alloc_cells
  go_region_law (first
    | (refine step_append_eq rfl (.const (.slice none 0 0)) (.tmp 27) 63 rfl (.slice none 0 0) (.slice none 0 0) (.slice none 0 0) rfl (by rfl) (run_append_none _ _ _ i0 Tryz.underlying63 hi0 none 0) ?_)
    | (refine step_append_lies _ (by rfl) (.tmp 28) (.tmp 38) _ (by rfl) W.heap.size 99 i0 _ 8 64 Tryz.underlying63 hi0 hz0 hz1 hz2 rfl (by omega) (.slice none 0 0) 0 [] (by rfl) (World.ownsRow_nil _ _ _ _)
          ⟨W.heap.size, 0, none⟩ 1 1 [.int .i64 (last + 1), .int .i64 ob, .int .i64 n, .int .i64 s, .int .i64 k, .int .i64 i, .int .i64 l, .int .i64 r] (by rfl) (by rfl) (World.news_of_block (cs := #[.int .i64 (last + 1), .int .i64 ob, .int .i64 n, .int .i64 s, .int .i64 k, .int .i64 i, .int .i64 l, .int .i64 r]) (t := 99) (fr := (0, 0)) (HNB.out W)) (by simp [Value.oneCell'])
          (by omega) (by unfold maxLen; omega) (by omega) (by simp) (W.heap.size + 1) (by simp) ?_; intro g2 cap2 w4 hown4 hgrow4 hat4 hlt4; have B4 : Below W.heap.size W w4 := ((Below.refl W.heap.size W).alloc (Nat.le_refl _) _).drew.trans (below_grown (v := .slice none 0 0) hgrow4 (by simp) (fun g hg => by simp [Value.ownBlock] at hg)); have hcw := B4.cell (p := ⟨c, 0, none⟩) hcW; have hfw := B4.frozen (p := ⟨c, 0, none⟩) hcW))
  all_goals
    go_wp2
    go_ret2
    refine ⟨rfl, _, ⟨head0 ((B4.block c hcW).trans HR1.out.head) _, ?_, fun e => by simp at e⟩, ?_⟩
    · have h5 : w4.ownsRow W.heap.size 99 8 (.slice (some ⟨g2, 0, none⟩) 1 cap2) 1 (ccells [⟨last + 1, ob, n, s, ⟨k, i, l, r⟩⟩]) := hown4
      have hg2 : W.heap.size ≤ g2 := ownsRow_low h5 g2 rfl
      exact ownsRow_mono (ownsRow_at h5 (fun g hg => Below.heap_setCell _ _ _ _ (by have e' : g = g2 := by simpa [Value.ownBlock] using hg.symm
                                                                                    show g ≠ c
                                                                                    omega))) HMW.out
    · exact (HU.out.trans (Upd.of_below B4)).trans (Upd.setCell _ _ _ _)

/-- What put answers, and what is there behind it. -/
def rputA (L : List Ce) (n : Int) : Int := rfree L n
def rputE (L : List Ce) (n : Int) : Int := if rfree L n = 0 then 105 else 0
def rputL (L : List Ce) (last n ob : Int) (x : Cp) : List Ce := if rfree L n = 0 then L else L ++ [⟨last + 1, ob, n, rfree L n, x⟩]
def rputN (L : List Ce) (last n : Int) : Int := if rfree L n = 0 then last else last + 1
theorem rfree_range (L : List Ce) (n : Int) : rfree L n = 0 ∨ (1 ≤ rfree L n ∧ rfree L n ≤ 64) := by
  unfold rfree
  split
  · right; omega
  · left; rfl
theorem rput_at (M c : Nat) (sv : Value) (L : List Ce) (last n ob : Int) (x : Cp) (w : World) (h : RefAt M w c sv L last) (hM : M ≤ w.heap.size) (hl : L.length ≤ 900) (hla : 0 ≤ last ∧ last ≤ 100000) :
    Calls Tryz.prog 73 #[.pointer (some ⟨c, 0, none⟩), .int .i64 n, .int .i64 ob, .agg (cpRow x)] w fun e w' => e = .returned (.tuple #[.int .i64 (rputA L n), .int .i64 (rputE L n)]) ∧ ∃ sv', RefAt M w' c sv' (rputL L last n ob x) (rputN L last n) ∧ Upd c w w' := by
  by_cases hf : rfree L n = 0
  · refine (rput_full M c sv L last n ob x w h (by omega) hf).mono ?_
    rintro e w' ⟨rfl, hb⟩
    unfold rputA rputE rputL rputN
    rw [hf]
    exact ⟨rfl, sv, h.below hb, Upd.of_below hb⟩
  · have hs : 1 ≤ rfree L n := by
      rcases rfree_range L n with e | e
      · exact absurd e hf
      · exact e.1
    unfold rputA rputE rputL rputN
    rw [if_neg hf, if_neg hf, if_neg hf]
    cases L with
    | nil => exact rput_nil M c sv last n ob _ x w h hM hla rfl hs
    | cons d L => exact rput_cons M c sv (d :: L) last n ob _ x w h hM hl hla rfl hs (by simp)
end Ca
end Go.Proofs.YtfnafjddajgahaaGreat
