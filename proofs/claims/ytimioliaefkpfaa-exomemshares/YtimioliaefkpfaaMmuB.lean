/- The contracts of package mmu's table, the rest: Walk, Map, Unmap, Frames. -/
import Derived.Test.YtimioliaefkpfaaMmuA
namespace Go.Proofs.Ytimioliaefkpfaa
open Go.RowKit
namespace Mu
set_option linter.unusedVariables false

/-- What an address comes to in a table. -/
def walkV (f : Int → Option (Int × Bool)) (a : Int) (wr : Bool) : Int × Int × Int :=
  if 128 ≤ a then (0, 0, 102) else match f (a / 32) with
    | none => (0, 0, 102)
    | some x => reachV x a wr
/-- Three integers as an answer. -/
def t3 (r : Int × Int × Int) : Value := .tuple #[.int .i64 r.1, .int .i64 r.2.1, .int .i64 r.2.2]

set_option maxHeartbeats 400000 in
theorem walk_nil (a : Int) (wr : Bool) (w : World) (h0 : 0 ≤ a) :
    Calls Try.prog 39 #[.pointer none, .int .u64 a, .bool wr] w fun e w' => e = .returned (t3 (0, 0, 102)) ∧ Below w.heap.size w w' := by
  by_cases h : 128 ≤ a
  · go_enter Try.func39, Try.ntmps39
    go_wp2
    go_ret3
    exact ⟨rfl, Below.refl _ _⟩
  · have hd : decide (128 ≤ a) = false := by simp; omega
    go_enter Try.func39, Try.ntmps39
    go_wp2_with fail
    refine (pageOf_any a _ h0 (by omega)).mono ?_
    rintro e w1 ⟨rfl, rfl⟩
    go_wp2_with fail
    refine (at_nil _ _).mono ?_
    rintro e w2 ⟨rfl, hb⟩
    unfold pv
    go_wp2
    go_ret3
    refine ⟨rfl, hb.trans ?_⟩
    (repeat' (first | exact Below.refl _ _ | refine Below.setCell ?_ (by simp [hb.size]) _ | refine Below.alloc ?_ (by simp [hb.size]) _))

set_option maxHeartbeats 400000 in
theorem walk_at (t mb : Nat) (f : Int → Option (Int × Bool)) (a : Int) (wr : Bool) (w : World) (h : TblAt w t mb f) (h0 : 0 ≤ a) :
    Calls Try.prog 39 #[.pointer (some ⟨t, 0, none⟩), .int .u64 a, .bool wr] w fun e w' => e = .returned (t3 (walkV f a wr)) ∧ Below w.heap.size w w' := by
  by_cases h1 : 128 ≤ a
  · go_enter Try.func39, Try.ntmps39
    go_wp2
    go_ret3
    exact ⟨by simp [walkV, h1, t3], Below.refl _ _⟩
  · have hd : decide (128 ≤ a) = false := by simp; omega
    have ha := at_at t mb f (a / 32) w h
    cases hf : f (a / 32) with
    | none =>
      have hv : walkV f a wr = (0, 0, 102) := by simp [walkV, hf]
      rw [hf] at ha
      go_enter Try.func39, Try.ntmps39
      go_wp2_with fail
      refine (pageOf_any a _ h0 (by omega)).mono ?_
      rintro e w1 ⟨rfl, rfl⟩
      go_wp2_with fail
      refine ha.mono ?_
      rintro e w2 ⟨rfl, hb⟩
      simp only [pv, Option.getD_none, Option.isSome_none]
      go_wp2
      go_ret3
      refine ⟨by rw [hv]; rfl, hb.trans ?_⟩
      (repeat' (first | exact Below.refl _ _ | refine Below.setCell ?_ (by simp [hb.size]) _ | refine Below.alloc ?_ (by simp [hb.size]) _))
    | some x =>
      have hv : walkV f a wr = reachV x a wr := by simp [walkV, hf, h1]
      rw [hf] at ha
      go_enter Try.func39, Try.ntmps39
      go_wp2_with fail
      refine (pageOf_any a _ h0 (by omega)).mono ?_
      rintro e w1 ⟨rfl, rfl⟩
      go_wp2_with fail
      refine ha.mono ?_
      rintro e w2 ⟨rfl, hb⟩
      simp only [pv, Option.getD_some, Option.isSome_some]
      go_wp2_with fail
      refine (reach_any x a wr _ h0 (by omega)).mono ?_
      rintro e w3 ⟨rfl, hb3⟩
      go_wp2
      go_ret3
      have hbs := hb.size
      refine ⟨by rw [hv]; rfl, hb.trans (Below.trans ?_ (hb3.mono (by simp; omega)))⟩
      (repeat' (first | exact Below.refl _ _ | refine Below.setCell ?_ (by simp [hb.size]) _ | refine Below.alloc ?_ (by simp [hb.size]) _))

theorem map_not_nil (mb : Nat) (W : World) : (binOp .eql 90 (.map (some mb)) (.map none)).run Try.prog W = .ok (.bool false) W := by kernel_rfl

/-- What Map answers. -/
def mapV (k : Int) (x : Int × Bool) : Int := if isPg k && decide (0 ≤ x.1) then 0 else 101
/-- What Map leaves. -/
def mapF (f : Int → Option (Int × Bool)) (k : Int) (x : Int × Bool) : Int → Option (Int × Bool) := if isPg k && decide (0 ≤ x.1) then fun y => if y = k then some x else f y else f

set_option maxHeartbeats 400000 in
theorem map_nil (k : Int) (x : Int × Bool) (w : World) :
    Calls Try.prog 37 #[.pointer none, .int .i64 k, pv x] w fun e w' => e = .returned (.int .i64 101) ∧ Below w.heap.size w w' := by
  unfold pv
  go_enter Try.func37, Try.ntmps37
  go_wp2
  go_ret
  exact ⟨rfl, (Below.refl _ _).alloc (Nat.le_refl _) _⟩

set_option maxHeartbeats 1000000 in
theorem map_at (t mb : Nat) (f : Int → Option (Int × Bool)) (k : Int) (x : Int × Bool) (w : World) (h : TblAt w t mb f) :
    Calls Try.prog 37 #[.pointer (some ⟨t, 0, none⟩), .int .i64 k, pv x] w fun e w' => e = .returned (.int .i64 (mapV k x)) ∧ TblAt w' t mb (mapF f k x) ∧ Upd mb w w' := by
  have hlt := h.lt
  cases hk : isPg k with
  | false =>
    unfold pv
    go_enter Try.func37, Try.ntmps37
    go_wp2_with fail
    refine (isPage_any _ _).mono ?_
    rintro e w1 ⟨rfl, rfl⟩
    rw [hk]
    go_wp2
    go_ret
    have hb : Below w.heap.size w (w.alloc (.cells #[.int .i64 x.1, .bool x.2] 39)) := (Below.refl _ _).alloc (Nat.le_refl _) _
    refine ⟨by simp [mapV, hk], ?_, Upd.of_below hb⟩
    have : mapF f k x = f := by simp [mapF, hk]
    rw [this]
    exact h.below hb
  | true =>
    by_cases hx : 0 ≤ x.1
    · obtain ⟨w1, hu, hm1, hu1, hs1⟩ := ((h.map.of_block (Below.heap_alloc w (.cells #[.int .i64 x.1, .bool x.2] 39) _ h.mlt)).of_block (w' := (w.alloc (.cells #[.int .i64 x.1, .bool x.2] 39)).drew) rfl).put (P := Try.prog) (t := 90) (k := 3) (e := 39) Try.underlying90 Try.underlying3 k (pv x)
      have hc : w.cell? ⟨t, 0, none⟩ = some (.map (some mb)) := by rw [cell_of_heap h.head]; rfl
      have hd : decide (x.1 < 0) = false := by simp; omega
      have hne := h.ne
      have hmlt := h.mlt
      have e1 : w1.heap[t]? = w.heap[t]? := (hu1.block t (by simp; omega) hne).trans (Below.heap_alloc w _ _ hlt)
      have hT : TblAt w1 t mb (mapF f k x) := by
        refine ⟨e1.trans h.head, ?_, ?_⟩
        · have : (fun y => (mapF f k x y).map pv) = fput (fun k => (f k).map pv) k (pv x) := by
            funext y
            by_cases hy : y = k <;> simp [mapF, fput, hk, hx, hy]
          rw [this]; exact hm1
        · intro y z hz
          by_cases hy : y = k
          · simp [mapF, hk, hx, hy] at hz
            simp [isPg] at hk
            subst hz; omega
          · simp [mapF, hk, hx, hy] at hz
            exact h.near y z hz
      have hU : Upd mb w w1 := (Upd.alloc mb w (.cells #[.int .i64 x.1, .bool x.2] 39)).trans ((Upd.drew mb _).trans hu1)
      have HT : Hid _ := hT
      have HU : Hid _ := hU
      clear hT hU hu1 hm1 h e1 hs1
      have heq := map_not_nil mb
      unfold pv at hu ⊢
      go_enter Try.func37, Try.ntmps37
      go_wp2_with fail
      refine (isPage_any _ _).mono ?_
      rintro e w2 ⟨rfl, rfl⟩
      rw [hk]
      go_wp2
      go_region
      go_wp2
      go_ret
      exact ⟨by simp [mapV, hk, hx], HT.out, HU.out⟩
    · have hd : decide (x.1 < 0) = true := by simp; omega
      have hv : mapV k x = 101 := by simp [mapV, hx]
      have hF : mapF f k x = f := by simp [mapF, hx]
      unfold pv
      go_enter Try.func37, Try.ntmps37
      go_wp2_with fail
      refine (isPage_any _ _).mono ?_
      rintro e w1 ⟨rfl, rfl⟩
      rw [hk]
      go_wp2
      go_ret
      have hb : Below w.heap.size w (w.alloc (.cells #[.int .i64 x.1, .bool x.2] 39)) := (Below.refl _ _).alloc (Nat.le_refl _) _
      refine ⟨by rw [hv]; rfl, ?_, Upd.of_below hb⟩
      rw [hF]
      exact h.below hb

/-- What Unmap answers. -/
def unmapV (f : Int → Option (Int × Bool)) (k : Int) : Int := if isPg k then (if (f k).isSome then 0 else 102) else 101
/-- What Unmap leaves. -/
def unmapF (f : Int → Option (Int × Bool)) (k : Int) : Int → Option (Int × Bool) := fun y => if y = k then none else f y

theorem unmapF_none {f : Int → Option (Int × Bool)} {k : Int} (h : f k = none) : unmapF f k = f := by
  funext y
  by_cases hy : y = k <;> simp [unmapF, hy, h]

set_option maxHeartbeats 400000 in
theorem unmap_nil (k : Int) (w : World) :
    Calls Try.prog 45 #[.pointer none, .int .i64 k] w fun e w' => e = .returned (.int .i64 101) ∧ w' = w := by
  go_enter Try.func45, Try.ntmps45
  go_wp2
  go_ret
  exact ⟨rfl, rfl⟩

set_option maxHeartbeats 1000000 in
theorem unmap_at (t mb : Nat) (f : Int → Option (Int × Bool)) (k : Int) (w : World) (h : TblAt w t mb f) :
    Calls Try.prog 45 #[.pointer (some ⟨t, 0, none⟩), .int .i64 k] w fun e w' => e = .returned (.int .i64 (unmapV f k)) ∧ TblAt w' t mb (unmapF f k) ∧ Upd mb w w' := by
  have hlt := h.lt
  cases hk : isPg k with
  | false =>
    have hf : f k = none := by
      cases hf : f k with
      | none => rfl
      | some x => have := h.near k x hf; simp [isPg] at hk; omega
    have hv : unmapV f k = 101 := by simp [unmapV, hk]
    go_enter Try.func45, Try.ntmps45
    go_wp2_with fail
    refine (isPage_any _ _).mono ?_
    rintro e w1 ⟨rfl, rfl⟩
    rw [hk]
    go_wp2
    go_ret
    exact ⟨by rw [hv]; rfl, by rw [unmapF_none hf]; exact h, Upd.refl _ _⟩
  | true =>
    have ha := at_at t mb f k w h
    cases hf : f k with
    | none =>
      have hv : unmapV f k = 102 := by simp [unmapV, hk, hf]
      rw [hf] at ha
      go_enter Try.func45, Try.ntmps45
      go_wp2_with fail
      refine (isPage_any _ _).mono ?_
      rintro e w1 ⟨rfl, rfl⟩
      rw [hk]
      go_wp2_with fail
      refine ha.mono ?_
      rintro e w2 ⟨rfl, hb⟩
      simp only [pv, Option.getD_none, Option.isSome_none]
      go_wp2
      go_ret
      have hb3 : Below w1.heap.size w1 (w2.alloc (.cells #[.int .i64 0, .bool false] 39)) := hb.alloc hb.size _
      exact ⟨by rw [hv]; rfl, by rw [unmapF_none hf]; exact h.below hb3, Upd.of_below hb3⟩
    | some x =>
      have hv : unmapV f k = 0 := by simp [unmapV, hk, hf]
      rw [hf] at ha
      go_enter Try.func45, Try.ntmps45
      go_wp2_with fail
      refine (isPage_any _ _).mono ?_
      rintro e w1 ⟨rfl, rfl⟩
      rw [hk]
      go_wp2_with fail
      refine ha.mono ?_
      rintro e w2 ⟨rfl, hb⟩
      have hb3 : Below w1.heap.size w1 (w2.alloc (.cells #[.int .i64 x.1, .bool x.2] 39)) := hb.alloc hb.size _
      have h3 := h.below hb3
      obtain ⟨w3, hu, hm1, hu1, hs1⟩ := h3.map.del (P := Try.prog) (t := 90) (k := 3) (e := 39) Try.underlying90 Try.underlying3 k 0
      have hc : w2.cell? ⟨t, 0, none⟩ = some (.map (some mb)) := by rw [cell_of_heap (h.below hb).head]; rfl
      have hl2 := (h.below hb).lt
      have hT : TblAt w3 t mb (unmapF f k) := by
        refine ⟨(hu1.block t h3.lt h3.ne).trans h3.head, ?_, ?_⟩
        · have : (fun y => (unmapF f k y).map pv) = fdel (fun k => (f k).map pv) k := by
            funext y
            by_cases hy : y = k <;> simp [unmapF, fdel, hy]
          rw [this]; exact hm1
        · intro y z hz
          by_cases hy : y = k
          · simp [unmapF, hy] at hz
          · simp [unmapF, hy] at hz
            exact h.near y z hz
      have hU : Upd mb w1 w3 := (Upd.of_below hb3).trans hu1
      have HT : Hid _ := hT
      have HU : Hid _ := hU
      clear hT hU hu1 hm1 h3 hs1 hb3
      simp only [pv, Option.getD_some, Option.isSome_some]
      go_wp2
      go_ret
      exact ⟨by rw [hv]; rfl, HT.out, HU.out⟩

end Mu
end Go.Proofs.Ytimioliaefkpfaa
