/- The reference of layer 15: its get, Put and Format over the reference disk. -/
import Derived.Test.YtinjllnoonbjmaaRefDisk
import Derived.Test.YtinjllnoonbjmaaApF
namespace Go.Proofs.Ytinjllnoonbjmaa
open Go.RowKit
set_option linter.unusedVariables false

/-- A reference disk all of whose blocks lie below M. -/
def RefU (M : Nat) (w : World) (bx gx cap n : Nat) (vs : List Int) (gt pt : Nat) : Prop := ∃ wA, Di.RefAt wA bx gx cap n vs gt pt ∧ wA.heap.size ≤ M ∧ Below wA.heap.size wA w
section
variable {w w' : World} {M bx gx cap n gt pt : Nat} {vs : List Int}
theorem RefU.ref (h : RefU M w bx gx cap n vs gt pt) : Di.RefAt w bx gx cap n vs gt pt := by
  obtain ⟨wA, h1, _, h3⟩ := h
  exact h1.below h3
theorem RefU.below (h : RefU M w bx gx cap n vs gt pt) (hb : Below M w w') : RefU M w' bx gx cap n vs gt pt := by
  obtain ⟨wA, h1, h2, h3⟩ := h
  exact ⟨wA, h1, h2, h3.trans (hb.mono h2)⟩
theorem RefU.upd {g : Nat} (h : RefU M w bx gx cap n vs gt pt) (hu : Upd g w w') (hg : M ≤ g) (hs : M ≤ w.heap.size) : RefU M w' bx gx cap n vs gt pt := h.below (hu.below hg hs)
theorem refU_of (h : Di.RefAt w bx gx cap n vs gt pt) : RefU w.heap.size w bx gx cap n vs gt pt := ⟨w, h, Nat.le_refl _, Below.refl _ _⟩
theorem refU_got (h : Di.RefAt w bx gx cap n vs gt pt) (h' : Di.RefAt w' bx gx cap n vs (gt + 1) pt) (hu : Upd bx w w') : RefU w.heap.size w' bx gx cap n vs (gt + 1) pt := by
  have hA := h.get1
  have hs : (w.setCell ⟨bx, 1, none⟩ (.int .i64 ((gt : Int) + 1))).heap.size = w.heap.size := by simp [World.setCell]
  refine ⟨_, hA, by rw [hs]; exact Nat.le_refl _, ⟨hu.os, hu.tape, hu.output, by rw [hs]; exact hu.size, fun k hk => ?_⟩⟩
  rw [hs] at hk
  by_cases e : k = bx
  · rw [e, h'.head, hA.head]
  · rw [hu.block k hk e]
    exact (Below.heap_setCell _ _ _ _ e).symm
/-- A row of 32 words that may be written, in block g. -/
def Rw (w : World) (g c : Nat) (xs : List Int) : Prop := xs.length = 32 ∧ 32 ≤ c ∧ c ≤ maxLen ∧ ∃ cur, w.heap[g]? = some (.cells cur 99 (0, 0)) ∧ ∀ (j : Nat) (x : Int), xs[j]? = some x → cur[j]? = some (.int .u64 x)
theorem Rw.urow {g c : Nat} {xs : List Int} (h : Rw w g c xs) : URow 0 w (.slice (some ⟨g, 0, none⟩) 32 c) xs := by
  obtain ⟨h1, h2, h3, cur, h4, h5⟩ := h
  exact ⟨_, c, by rw [h1], by rw [h1]; exact h2, h3, fun _ => ⟨g, cur, rfl, Nat.zero_le _, h4, h5⟩⟩
theorem rw_of {v : Value} {xs : List Int} (h : URow M w v xs) (hl : xs.length = 32) : ∃ g c, v = .slice (some ⟨g, 0, none⟩) 32 c ∧ M ≤ g ∧ Rw w g c xs := by
  obtain ⟨a, c, e, h1, h2, hf⟩ := h
  obtain ⟨g, cur, ea, hm, hh, hc⟩ := hf (by intro e; rw [e] at hl; simp at hl)
  rw [hl] at e h1
  exact ⟨g, c, by rw [e, ea], hm, hl, h1, h2, cur, hh, hc⟩
theorem Rw.cell {g c j : Nat} {xs : List Int} (h : Rw w g c xs) (hj : j < 32) : w.cell? ⟨g, j, none⟩ = some (.int .u64 (xs.getD j 0)) := by
  obtain ⟨h1, _, _, cur, h4, h5⟩ := h
  rw [cell_of_heap h4]
  exact h5 j _ (by rw [List.getD_eq_getElem?_getD, List.getElem?_eq_getElem (by omega)]; rfl)
theorem Rw.free {g c j : Nat} {xs : List Int} (h : Rw w g c xs) : w.frozen? ⟨g, j, none⟩ = false := by
  obtain ⟨h1, _, _, cur, h4, h5⟩ := h
  exact frozen_of_heap h4
theorem Rw.lt {g c : Nat} {xs : List Int} (h : Rw w g c xs) : g < w.heap.size := by
  obtain ⟨h1, _, _, cur, h4, h5⟩ := h
  exact lt_of_heap h4
theorem Rw.set {g c j : Nat} {xs : List Int} {x : Int} (h : Rw w g c xs) : Rw (w.setCell ⟨g, j, none⟩ (.int .u64 x)) g c (xs.set j x) := by
  obtain ⟨h1, h2, h3, cur, h4, h5⟩ := h
  refine ⟨by rw [List.length_set]; exact h1, h2, h3, cur.setIfInBounds j (.int .u64 x), ?_, fun k y hk => ?_⟩
  · rw [setCell_eq_setRow w g j _ _ _ _ h4, setRow_heap w g _ _ _ _ h4]
  · by_cases e : k = j
    · subst e
      have hk' : k < xs.length := by have := (List.getElem?_eq_some_iff.1 hk).1; rwa [List.length_set] at this
      have hc : k < cur.size := (Array.getElem?_eq_some_iff.1 (h5 k _ (List.getElem?_eq_getElem hk'))).1
      rw [List.getElem?_set_self hk'] at hk
      cases hk
      simp [hc]
    · rw [List.getElem?_set_ne (fun q => e q.symm)] at hk
      rw [Array.getElem?_setIfInBounds_ne (fun q => e q.symm)]
      exact h5 k y hk
theorem Rw.below {g c : Nat} {xs : List Int} (h : Rw w g c xs) (hb : Below w.heap.size w w') : Rw w' g c xs := by
  obtain ⟨h1, h2, h3, cur, h4, h5⟩ := h
  exact ⟨h1, h2, h3, cur, (hb.block g (lt_of_heap h4)).trans h4, h5⟩
theorem make_row (W : World) : (Instr.makeSlice 100 (.int .i64 32) (.int .i64 32)).run Try.prog W = .ok (.slice (some ⟨W.heap.size, 0, none⟩) 32 32) (W.alloc (.cells zc 99)) := by
  have := Bi.make_words 32 (by omega) W
  exact this
theorem rw_new (W : World) : Rw (W.alloc (.cells zc 99)) W.heap.size 32 (List.replicate 32 0) := by
  refine ⟨by simp, by omega, by unfold maxLen; omega, zc, heap_alloc_new _ _, fun j x hx => ?_⟩
  unfold zc
  have hj := (List.getElem?_eq_some_iff.1 hx).1
  rw [urow_get _ _ hj, List.getD_eq_getElem?_getD, hx]
  rfl
theorem rw_row (W : World) (xs : List Int) (hl : xs.length = 32) : Rw (W.alloc (.cells (urow xs) 99)) W.heap.size 32 xs := by
  refine ⟨hl, by omega, by unfold maxLen; omega, urow xs, heap_alloc_new _ _, fun j x hx => ?_⟩
  have hj := (List.getElem?_eq_some_iff.1 hx).1
  rw [urow_get _ _ hj, List.getD_eq_getElem?_getD, hx]
  rfl
/-- The reference disk, and how often it was asked at most. -/
def Rk (w : World) (bx gx cap n : Nat) (vs : List Int) (m : Nat) : Prop := ∃ gt pt, Di.RefAt w bx gx cap n vs gt pt ∧ gt ≤ m ∧ pt ≤ m
theorem Rk.below {m : Nat} (h : Rk w bx gx cap n vs m) (hb : Below w.heap.size w w') : Rk w' bx gx cap n vs m := by
  obtain ⟨gt, pt, h, h1, h2⟩ := h
  exact ⟨gt, pt, h.below hb, h1, h2⟩
theorem Rk.mono {m m' : Nat} (h : Rk w bx gx cap n vs m) (hm : m ≤ m') : Rk w bx gx cap n vs m' := by
  obtain ⟨gt, pt, h, h1, h2⟩ := h
  exact ⟨gt, pt, h, by omega, by omega⟩
theorem Rk.len {m : Nat} (h : Rk w bx gx cap n vs m) : vs.length = n * 32 := by
  obtain ⟨gt, pt, h, h1, h2⟩ := h
  exact h.len
set_option maxHeartbeats 1000000 in
theorem eget_at {m : Nat} (h : Rk w bx gx cap n vs m) (hm : m ≤ 950000) (b : Nat) (hb : b < n) :
    Calls Try.prog 49 #[ptr bx, .int .i64 (b : Int)] w fun e w' => ∃ g c, e = .returned (.slice (some ⟨g, 0, none⟩) 32 c) ∧ (w.heap.size ≤ g ∧ Rw w' g c (frameOf vs b) ∧ ∃ gt pt, RefU w.heap.size w' bx gx cap n vs gt pt ∧ gt ≤ m + 1 ∧ pt ≤ m + 1) ∧ Upd bx w w' := by
  obtain ⟨gt, pt, h, h1, h2⟩ := h
  have hG := Di.rget_at bx gx cap n vs gt pt b w h (by omega) (by omega) (by omega)
  simp only [Int.toNat_natCast] at hG
  have HH : Hid (Di.RefAt w bx gx cap n vs gt pt) := h
  have HL : Hid _ := frameOf_length vs b n h.len hb
  clear h
  go_enter Try.func49, Try.ntmps49
  go_wp2_with fail
  refine hG.mono ?_
  rintro e w1 ⟨u, rfl, hu, hr, hup⟩
  obtain ⟨g, c, rfl, hg, hrw⟩ := rw_of hu HL.out
  have HE : Hid (w.heap.size ≤ g ∧ Rw w1 g c (frameOf vs b) ∧ RefU w.heap.size w1 bx gx cap n vs (gt + 1) pt ∧ Upd bx w w1) := ⟨hg, hrw, refU_got HH.out hr hup, hup⟩
  clear hG hu hr hup hg hrw
  go_wp2
  go_ret
  exact ⟨g, c, rfl, ⟨HE.out.1, HE.out.2.1, gt + 1, pt, HE.out.2.2.1, by omega, by omega⟩, HE.out.2.2.2⟩
theorem eput_at {m g c : Nat} {xs : List Int} (h : Rk w bx gx cap n vs m) (hm : m ≤ 950000) (b : Nat) (hb : b < n) (hr : Rw w g c xs) :
    Calls Try.prog 52 #[ptr bx, .int .i64 (b : Int), .slice (some ⟨g, 0, none⟩) 32 c] w fun e w' => e = .returned (.int .i64 0) ∧ Rk w' bx gx cap n (splice vs (b * 32) xs) (m + 1) ∧ UpdP (fun k => k = bx ∨ k = gx) w w' := by
  obtain ⟨gt, pt, h, h1, h2⟩ := h
  have := Di.rput_any 0 bx gx cap n vs xs gt pt b _ w h (by omega) (by omega) (by omega) hr.urow hr.1
  refine this.mono ?_
  rintro e w' ⟨he, hr', hu⟩
  exact ⟨he, ⟨gt, pt + 1, by simpa using hr', by omega, by omega⟩, hu⟩
end
end Go.Proofs.Ytinjllnoonbjmaa
