/- The contracts of the reference table of layer 2: four pages and four marks in one row. -/
import Derived.Test.YthkffhfjkddpkaaMmuH
namespace Go.Proofs.Ythkffhfjkddpkaa
open Go.RowKit
set_option linter.unusedVariables false

/-- What a page's cells hold. -/
def pgOf (o : Option (Int × Bool)) : Int × Bool := o.getD (0, false)
/-- The reference table's row. -/
def rrow (f : Int → Option (Int × Bool)) : Array Value :=
  #[.int .i64 (pgOf (f 0)).1, .bool (pgOf (f 0)).2, .int .i64 (pgOf (f 1)).1, .bool (pgOf (f 1)).2, .int .i64 (pgOf (f 2)).1, .bool (pgOf (f 2)).2, .int .i64 (pgOf (f 3)).1, .bool (pgOf (f 3)).2,
    .bool (f 0).isSome, .bool (f 1).isSome, .bool (f 2).isSome, .bool (f 3).isSome]

/-- Block x is a reference table whose pages are f's. -/
structure RTbl (w : World) (x : Nat) (f : Int → Option (Int × Bool)) : Prop where
  row : w.heap[x]? = some (.cells (rrow f) 33)
  near : ∀ k y, f k = some y → 0 ≤ k ∧ k < 4 ∧ 0 ≤ y.1

theorem RTbl.lt {w : World} {x : Nat} {f : Int → Option (Int × Bool)} (h : RTbl w x f) : x < w.heap.size := lt_of_heap h.row
theorem RTbl.keep {w w' : World} {x : Nat} {f : Int → Option (Int × Bool)} (h : RTbl w x f) (e : w'.heap[x]? = w.heap[x]?) : RTbl w' x f := ⟨e.trans h.row, h.near⟩
theorem RTbl.below {w w' : World} {x : Nat} {f : Int → Option (Int × Bool)} (h : RTbl w x f) (hb : Below w.heap.size w w') : RTbl w' x f := h.keep (hb.block _ h.lt)

theorem rcells {w : World} {x : Nat} {f : Int → Option (Int × Bool)} {t : TypeId} (h : w.heap[x]? = some (.cells (rrow f) t)) :
    (w.cell? ⟨x, 0, none⟩ = some (.int .i64 (pgOf (f 0)).1) ∧ w.cell? ⟨x, 1, none⟩ = some (.bool (pgOf (f 0)).2) ∧ w.cell? ⟨x, 2, none⟩ = some (.int .i64 (pgOf (f 1)).1) ∧ w.cell? ⟨x, 3, none⟩ = some (.bool (pgOf (f 1)).2) ∧
    w.cell? ⟨x, 4, none⟩ = some (.int .i64 (pgOf (f 2)).1) ∧ w.cell? ⟨x, 5, none⟩ = some (.bool (pgOf (f 2)).2)) ∧ w.cell? ⟨x, 6, none⟩ = some (.int .i64 (pgOf (f 3)).1) ∧ w.cell? ⟨x, 7, none⟩ = some (.bool (pgOf (f 3)).2) ∧
    w.cell? ⟨x, 8, none⟩ = some (.bool (f 0).isSome) ∧ w.cell? ⟨x, 9, none⟩ = some (.bool (f 1).isSome) ∧ w.cell? ⟨x, 10, none⟩ = some (.bool (f 2).isSome) ∧ w.cell? ⟨x, 11, none⟩ = some (.bool (f 3).isSome) := by
  refine ⟨⟨?_, ?_, ?_, ?_, ?_, ?_⟩, ?_, ?_, ?_, ?_, ?_, ?_⟩ <;> (rw [cell_of_heap h]; rfl)

theorem rcellsAt {w : World} {x j : Nat} {f : Int → Option (Int × Bool)} {t : TypeId} (h : w.heap[x]? = some (.cells (rrow f) t)) (hj : j < 4) :
    w.cell? ⟨x, j * 2, none⟩ = some (.int .i64 (pgOf (f j)).1) ∧ w.cell? ⟨x, j * 2 + 1, none⟩ = some (.bool (pgOf (f j)).2) ∧ w.cell? ⟨x, 8 + j, none⟩ = some (.bool (f j).isSome) := by
  rw [cell_of_heap h, cell_of_heap h, cell_of_heap h]
  match j, hj with
  | 0, _ => exact ⟨rfl, rfl, rfl⟩
  | 1, _ => exact ⟨rfl, rfl, rfl⟩
  | 2, _ => exact ⟨rfl, rfl, rfl⟩
  | 3, _ => exact ⟨rfl, rfl, rfl⟩

theorem setCell_at {w : World} {g : Nat} {cur : Array Value} {t : TypeId} (h : w.heap[g]? = some (.cells cur t (0, 0))) (i : Nat) (v : Value) : (w.setCell ⟨g, i, none⟩ v).heap[g]? = some (.cells (cur.setIfInBounds i v) t (0, 0)) := by
  rw [setCell_eq_setRow w g i _ _ _ _ h, setRow_heap w g _ _ _ _ h]

theorem heap_alloc_drew {w : World} {o : Obj} {k : Nat} (h : k < w.heap.size) : (w.alloc o).drew.heap[k]? = w.heap[k]? := Below.heap_alloc w o k h
theorem setCell_drew_at {w : World} {g : Nat} {cur : Array Value} {t : TypeId} (h : w.heap[g]? = some (.cells cur t (0, 0))) (i : Nat) (v : Value) : (w.setCell ⟨g, i, none⟩ v).drew.heap[g]? = some (.cells (cur.setIfInBounds i v) t (0, 0)) := setCell_at h i v
theorem pgCase {k : Int} (h : isPg k = true) : k = 0 ∨ k = 1 ∨ k = 2 ∨ k = 3 := by simp [isPg] at h; omega
theorem pgNot {k : Int} (h : isPg k = false) : decide (k < 0) = true ∨ (decide (k < 0) = false ∧ decide (4 ≤ k) = true) := by simp [isPg] at h; simp; omega

set_option maxHeartbeats 4000000 in
theorem rat_at (x : Nat) (f : Int → Option (Int × Bool)) (k : Int) (w : World) (h : RTbl w x f) :
    Calls Try.prog 21 #[.pointer (some ⟨x, 0, none⟩), .int .i64 k] w fun e w' => e = .returned (.tuple #[pv ((f k).getD (0, false)), .bool (f k).isSome]) ∧ Below w.heap.size w w' := by
  have hl := h.lt
  cases hk : isPg k with
  | false =>
    have hf : f k = none := by
      cases hf : f k with
      | none => rfl
      | some y => have := h.near k y hf; simp [isPg] at hk; omega
    rw [hf]
    rcases pgNot hk with h1 | ⟨h1, h2⟩
    all_goals
      clear hk hf h
      go_enter Try.func21, Try.ntmps21
      go_wp2
      (try simp only [Exit.inBlock, Exit.then])
      refine bodyPost_ret (v := .tuple #[.agg #[.int .i64 0, .bool false], .bool false]) ?_ rfl ⟨rfl, ?_⟩
      · rw [results_cell_tmp rfl]
        go_simp
      · (repeat' (first | exact Below.refl _ _ | refine Below.setCell ?_ (by simp) _ | refine Below.alloc ?_ (by simp) _))
  | true =>
    obtain ⟨j, rfl⟩ : ∃ j : Nat, k = (j : Int) := ⟨k.toNat, by simp [isPg] at hk; omega⟩
    have hj : j < 4 := by simp [isPg] at hk; omega
    obtain ⟨c0, c1, c2⟩ := rcellsAt h.row hj
    clear hk h
    have i1 : decide ((j : Int) < 0) = false := by simp
    have i2 : decide (4 ≤ (j : Int)) = false := by simp; omega
    have i3 : (j : Int) < 4 := by omega
    generalize f (j : Int) = r at c0 c1 c2 ⊢
    cases r with
    | none =>
      simp only [pgOf, Option.getD_none, Option.isSome_none] at c0 c1 c2 ⊢
      go_enter Try.func21, Try.ntmps21
      go_wp2
      (try simp only [Exit.inBlock, Exit.then])
      refine bodyPost_ret (v := .tuple #[.agg #[.int .i64 0, .bool false], .bool false]) ?_ rfl ⟨rfl, ?_⟩
      · rw [results_cell_tmp rfl]
        go_simp
      · (repeat' (first | exact Below.refl _ _ | refine Below.setCell ?_ (by simp) _ | refine Below.alloc ?_ (by simp) _))
    | some y =>
      simp only [pgOf, Option.getD_some, Option.isSome_some] at c0 c1 c2 ⊢
      go_enter Try.func21, Try.ntmps21
      go_wp2
      (try simp only [Exit.inBlock, Exit.then])
      refine bodyPost_ret (v := .tuple #[.agg #[.int .i64 y.1, .bool y.2], .bool true]) ?_ rfl ⟨rfl, ?_⟩
      · rw [results_cell_tmp rfl]
        go_simp
      · (repeat' (first | exact Below.refl _ _ | refine Below.setCell ?_ (by simp) _ | refine Below.alloc ?_ (by simp) _))

set_option maxHeartbeats 4000000 in
theorem rmap_at (x : Nat) (f : Int → Option (Int × Bool)) (k : Int) (y : Int × Bool) (w : World) (h : RTbl w x f) :
    Calls Try.prog 10 #[.pointer (some ⟨x, 0, none⟩), .int .i64 k, pv y] w fun e w' => e = .returned (.int .i64 (mapV k y)) ∧ RTbl w' x (mapF f k y) ∧ Upd x w w' := by
  have hl := h.lt
  have hb : Below w.heap.size w (w.alloc (.cells #[.int .i64 y.1, .bool y.2] 29)) := (Below.refl _ _).alloc (Nat.le_refl _) _
  cases hc : (isPg k && decide (0 ≤ y.1)) with
  | false =>
    have e1 : mapV k y = 101 := by simp [mapV, hc]
    have e2 : mapF f k y = f := by simp [mapF, hc]
    have ht : decide (k < 0) = true ∨ (decide (k < 0) = false ∧ decide (4 ≤ k) = true) ∨ (decide (k < 0) = false ∧ decide (4 ≤ k) = false ∧ decide (y.1 < 0) = true) := by
      simp [isPg] at hc; simp; omega
    clear hc
    have HH : Hid _ := h
    clear h
    rcases ht with h1 | ⟨h1, h2⟩ | ⟨h1, h2, h3⟩
    all_goals
      unfold pv
      go_enter Try.func10, Try.ntmps10
      go_wp2
      go_ret
      exact ⟨by rw [e1]; rfl, by rw [e2]; exact HH.out.below hb, Upd.of_below hb⟩
  | true =>
    have e1 : mapV k y = 0 := by simp [mapV, hc]
    have hk : isPg k = true := by simp at hc; exact hc.1
    have hy : 0 ≤ y.1 := by simp at hc; exact hc.2
    have hyd : decide (y.1 < 0) = false := by simp; omega
    have hnear : ∀ j z, mapF f k y j = some z → 0 ≤ j ∧ j < 4 ∧ 0 ≤ z.1 := by
      intro j z hz
      by_cases hj : j = k
      · simp [mapF, hk, hy, hj] at hz
        simp [isPg] at hk
        subst hz; omega
      · simp [mapF, hk, hy, hj] at hz
        exact h.near j z hz
    obtain ⟨⟨c0, c1, c2, c3, c4, c5⟩, c6, c7, c8, c9, c10, c11⟩ := rcells h.row
    have hz : ∀ o, w.frozen? ⟨x, o, none⟩ = false := fun o => frozen_of_heap h.row
    have HR : Hid _ := h.row
    clear h hc
    rcases pgCase hk with rfl | rfl | rfl | rfl
    all_goals
      unfold pv
      go_enter Try.func10, Try.ntmps10
      go_wp2
      go_region
      go_wp2
      go_ret
      refine ⟨by rw [e1]; rfl, ⟨(heap_alloc_drew (by simpa [World.setCell] using hl)).trans ((setCell_at (setCell_at (setCell_at HR.out _ _) _ _) _ _).trans ?_), hnear⟩, ((((Upd.setCell _ _ _ _).trans (Upd.setCell _ _ _ _)).trans (Upd.setCell _ _ _ _)).trans (Upd.alloc _ _ _)).trans (Upd.drew _ _)⟩
      simp [rrow, mapF, isPg, hy, pgOf]

set_option maxHeartbeats 4000000 in
theorem runmap_at (x : Nat) (f : Int → Option (Int × Bool)) (k : Int) (w : World) (h : RTbl w x f) :
    Calls Try.prog 12 #[.pointer (some ⟨x, 0, none⟩), .int .i64 k] w fun e w' => e = .returned (.int .i64 (unmapV f k)) ∧ RTbl w' x (unmapF f k) ∧ Upd x w w' := by
  have hl := h.lt
  cases hk : isPg k with
  | false =>
    have hf : f k = none := by
      cases hf : f k with
      | none => rfl
      | some y => have := h.near k y hf; simp [isPg] at hk; omega
    have e1 : unmapV f k = 101 := by simp [unmapV, hk]
    have e2 := unmapF_none hf
    have HH : Hid _ := h
    rcases pgNot hk with h1 | ⟨h1, h2⟩
    all_goals
      clear hk hf h
      go_enter Try.func12, Try.ntmps12
      go_wp2
      go_ret
      exact ⟨by rw [e1]; rfl, by rw [e2]; exact HH.out, Upd.refl _ _⟩
  | true =>
    cases hf : f k with
    | none =>
      have e1 : unmapV f k = 102 := by simp [unmapV, hk, hf]
      have e2 := unmapF_none hf
      obtain ⟨j, rfl⟩ : ∃ j : Nat, k = (j : Int) := ⟨k.toNat, by simp [isPg] at hk; omega⟩
      have hj : j < 4 := by simp [isPg] at hk; omega
      obtain ⟨c0, c1, c2⟩ := rcellsAt h.row hj
      rw [hf] at c2
      have HH : Hid _ := h
      have i1 : decide ((j : Int) < 0) = false := by simp
      have i2 : decide (4 ≤ (j : Int)) = false := by simp; omega
      have i3 : (j : Int) < 4 := by omega
      clear hk h hf c0 c1
      go_enter Try.func12, Try.ntmps12
      go_wp2
      go_ret
      exact ⟨by rw [e1]; rfl, by rw [e2]; exact HH.out, Upd.refl _ _⟩
    | some y =>
      have e1 : unmapV f k = 0 := by simp [unmapV, hk, hf]
      have hnear : ∀ j z, unmapF f k j = some z → 0 ≤ j ∧ j < 4 ∧ 0 ≤ z.1 := by
        intro j z hz
        by_cases hj : j = k
        · simp [unmapF, hj] at hz
        · simp [unmapF, hj] at hz
          exact h.near j z hz
      obtain ⟨⟨c0, c1, c2, c3, c4, c5⟩, c6, c7, c8, c9, c10, c11⟩ := rcells h.row
      have hz : ∀ o, w.frozen? ⟨x, o, none⟩ = false := fun o => frozen_of_heap h.row
      have HR : Hid _ := h.row
      have HF : Hid _ := hf
      clear h
      rcases pgCase hk with rfl | rfl | rfl | rfl
      all_goals
        simp only [hf, Option.isSome_some] at c8 c9 c10 c11
        clear hf
        go_enter Try.func12, Try.ntmps12
        go_wp2
        go_region
        go_wp2
        go_ret
        refine ⟨by rw [e1]; rfl, ⟨(setCell_drew_at (setCell_at (setCell_at HR.out _ _) _ _) _ _).trans ?_, hnear⟩, (((Upd.setCell _ _ _ _).trans (Upd.setCell _ _ _ _)).trans (Upd.setCell _ _ _ _)).trans (Upd.drew _ _)⟩
        simp [rrow, unmapF, pgOf]

set_option maxHeartbeats 4000000 in
theorem rwalk_at (x : Nat) (f : Int → Option (Int × Bool)) (a : Int) (wr : Bool) (w : World) (h : RTbl w x f) (h0 : 0 ≤ a) :
    Calls Try.prog 14 #[.pointer (some ⟨x, 0, none⟩), .int .u64 a, .bool wr] w fun e w' => e = .returned (t3 (walkV f a wr)) ∧ Below w.heap.size w w' := by
  by_cases h1 : 128 ≤ a
  · go_enter Try.func14, Try.ntmps14
    go_wp2
    go_ret3
    exact ⟨by simp [walkV, h1, t3], Below.refl _ _⟩
  · have hd : decide (128 ≤ a) = false := by simp; omega
    have hlt : a < 128 := by omega
    have ha := rat_at x f (a / 32) w h
    have HA : ∀ r, f (a / 32) = r → walkV f a wr = match r with | none => (0, 0, 102) | some y => reachV y a wr := by
      intro r hr; subst hr
      simp only [walkV, h1, if_false]
      cases f (a / 32) <;> rfl
    generalize f (a / 32) = r at ha HA
    have hv := HA r rfl
    clear HA h1
    cases r with
    | none =>
      go_enter Try.func14, Try.ntmps14
      go_wp2_with fail
      refine ha.mono ?_
      rintro e w2 ⟨rfl, hb⟩
      simp only [pv, Option.getD_none, Option.isSome_none]
      go_wp2
      go_ret3
      exact ⟨by rw [hv]; rfl, hb.alloc hb.size _⟩
    | some y =>
      obtain ⟨fr, wt⟩ := y
      cases wr <;> cases wt
      all_goals
        go_enter Try.func14, Try.ntmps14
        go_wp2_with fail
        refine ha.mono ?_
        rintro e w2 ⟨rfl, hb⟩
        simp only [pv, Option.getD_some, Option.isSome_some]
        go_wp2
        go_ret3
        refine ⟨?_, hb.alloc hb.size _⟩
        rw [hv]
        simp [reachV, t3] <;> go_num

set_option maxHeartbeats 4000000 in
theorem rframes_at (x : Nat) (f : Int → Option (Int × Bool)) (w : World) (h : RTbl w x f) :
    Calls Try.prog 24 #[.pointer (some ⟨x, 0, none⟩)] w fun e w' => ∃ v, e = .returned v ∧ w'.ownsRow w.heap.size 3 1 v (frs f 4).length (ivs (frs f 4)) ∧ Below w.heap.size w w' := by
  obtain ⟨i0, hi0, hzz⟩ := Option.map_eq_some_iff.1 intInfo
  simp only [Prod.mk.injEq] at hzz
  obtain ⟨hz0, hz1, hz2⟩ := hzz
  have hl := h.lt
  have HH : Hid _ := h
  clear h
  go_enter Try.func24, Try.ntmps24
  go_wp2
  go_loopw [3, 4] (fun s i wr => ∃ (k : Nat) (v : Value), k ≤ 4 ∧ i = .int .i64 k ∧ v = s ∧ wr.ownsRow w.heap.size 3 1 v (frs f k).length (ivs (frs f k)) ∧ Below w.heap.size w wr) (fun _ i _ => 4 - (intOf i).toNat)
  case atStart => exact ⟨0, _, by omega, rfl, rfl, World.ownsRow_nil _ _ _ _, Below.refl _ _⟩
  case round =>
    obtain ⟨k, v, hk, rfl, rfl, hown, hb⟩ := hrel
    by_cases hlt : k < 4
    · obtain ⟨c0, c1, c2⟩ := rcellsAt (HH.out.below hb).row hlt
      have i3 : (k : Int) < 4 := by omega
      have hbs := hb.size
      have hle := frs_len f k
      cases hf : f k with
      | none =>
        rw [hf] at c0 c1 c2
        simp only [pgOf, Option.getD_none, Option.isSome_none] at c0 c1 c2
        have e1 := frs_none hf
        clear hf
        go_wp2
        go_roundw
        case rel =>
          refine ⟨k + 1, _, by omega, by go_num, rfl, ?_, hb⟩
          rw [e1]
          exact hown
        case measure => simp [intOf]; omega
      | some y =>
        rw [hf] at c0 c1 c2
        simp only [pgOf, Option.getD_some, Option.isSome_some] at c0 c1 c2
        have e1 := frs_some hf
        clear hf
        go_wp2_with (first
          | (at_builtin; refine wpList_append_lies _ rfl _ _ _ rfl w.heap.size 3 i0 _ 1 8 Try.underlying58 hi0 hz0 hz1 hz2 rfl (by omega) v _ _ rfl (hown.alloc _) ⟨wr.heap.size, 0, none⟩ 1 1 [.int .i64 y.1] rfl rfl (World.news_of_block (cs := #[.int .i64 y.1]) (t := 3) (fr := (0, 0)) (heap_alloc_new wr (.cells #[.int .i64 y.1] 3))) (by simp [Value.oneCell']) (by omega) (by unfold maxLen; omega) (by omega) (by simp; omega) _ rfl ?_; intro gg cap w2 hown2 hgrow hat hlt2)
          | go_in)
        go_roundw
        case rel =>
          refine ⟨k + 1, _, by omega, by go_num, rfl, ?_, (hb.alloc (by omega) _).trans (below_grown hgrow (by simp; omega) (ownsRow_low hown))⟩
          rw [e1]
          simpa [ivs] using hown2
        case measure => simp [intOf]; omega
    · have : k = 4 := by omega
      subst this
      go_wp2
      go_ret
      exact ⟨_, rfl, hown, hb⟩

end Go.Proofs.Ythkffhfjkddpkaa
