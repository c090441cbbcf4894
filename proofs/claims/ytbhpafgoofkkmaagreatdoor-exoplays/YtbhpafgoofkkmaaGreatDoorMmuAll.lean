import Derived.Test.YtbhpafgoofkkmaaGreatDoorRows
import Derived.Test.YtbhpafgoofkkmaaGreatDoorIMap
import Derived.WalkKit
import Derived.WalkSpells
import Derived.WalkLawsBesides
import Derived.BigRegion
import Derived.Laws.ResultCell
import Derived.OwnWalk
import Derived.KernelRfl
set_option linter.all false
namespace Go.Proofs.YtbhpafgoofkkmaaGreatDoor
open Go.RowKit
namespace Mu
def pv (x : Int × Bool) : Value := .agg #[.int .i64 x.1, .bool x.2]
theorem zeroPage (w : World) : (zeroValue 50).run Tryz.prog w = .ok (pv (0, false)) w := by kernel_rfl
structure TblAt (w : World) (t mb : Nat) (f : Int → Option (Int × Bool)) : Prop where
 head : w.heap[t]? = some (.cells #[.map (some mb)] 253)
 map : MapIs w .i64 mb (fun k => (f k).map pv)
 near : ∀ k x, f k = some x → 0 ≤ k ∧ k < 4 ∧ 0 ≤ x.1
theorem TblAt.keep {w w' : World} {t mb : Nat} {f : Int → Option (Int × Bool)} (h : TblAt w t mb f) (h1 : w'.heap[t]? = w.heap[t]?) (h2 : w'.heap[mb]? = w.heap[mb]?) : TblAt w' t mb f :=
 ⟨h1.trans h.head, h.map.of_block h2, h.near⟩
theorem TblAt.lt {w : World} {t mb : Nat} {f : Int → Option (Int × Bool)} (h : TblAt w t mb f) : t < w.heap.size := lt_of_heap h.head
theorem TblAt.mlt {w : World} {t mb : Nat} {f : Int → Option (Int × Bool)} (h : TblAt w t mb f) : mb < w.heap.size := h.map.lt
theorem TblAt.ne {w : World} {t mb : Nat} {f : Int → Option (Int × Bool)} (h : TblAt w t mb f) : t ≠ mb := by
 intro e
 obtain ⟨es, c, hb, _⟩ := h.map
 rw [← e, h.head] at hb; cases hb
theorem TblAt.below {w w' : World} {t mb : Nat} {f : Int → Option (Int × Bool)} (h : TblAt w t mb f) (hb : Below w.heap.size w w') : TblAt w' t mb f :=
 h.keep (hb.block _ h.lt) (hb.block _ h.mlt)
def isPg (k : Int) : Bool := decide (0 ≤ k ∧ k < 4)
set_option maxHeartbeats 400000 in
theorem isPage_any (k : Int) (w : World) :
  Calls Tryz.prog 174 #[.int .i64 k] w fun e w' => e = .returned (.bool (isPg k)) ∧ w' = w := by
 by_cases h : 0 ≤ k
 all_goals
  go_enter Tryz.func174, Tryz.ntmps174
  go_wp2
  go_ret
  refine ⟨?_, rfl⟩
  simp [isPg] <;> omega
set_option maxHeartbeats 400000 in
theorem pageOf_any (a : Int) (w : World) (h0 : 0 ≤ a) (h1 : a < 128) :
  Calls Tryz.prog 175 #[.int .u64 a] w fun e w' => e = .returned (.int .i64 (a / 32)) ∧ w' = w := by
 go_enter Tryz.func175, Tryz.ntmps175
 go_wp2
 go_ret
 refine ⟨?_, rfl⟩
 go_num
def reachV (x : Int × Bool) (a : Int) (wr : Bool) : Int × Int × Int := if wr && !x.2 then (0, 0, 103) else (x.1, a % 32, 0)
set_option maxHeartbeats 400000 in
theorem reach_any (x : Int × Bool) (a : Int) (wr : Bool) (w : World) (h0 : 0 ≤ a) (h1 : a < 128) :
  Calls Tryz.prog 176 #[pv x, .int .u64 a, .bool wr] w fun e w' => e = .returned (.tuple #[.int .i64 (reachV x a wr).1, .int .i64 (reachV x a wr).2.1, .int .i64 (reachV x a wr).2.2]) ∧ Below w.heap.size w w' := by
 obtain ⟨fr, b⟩ := x
 cases wr <;> cases b
 all_goals
  unfold pv
  go_enter Tryz.func176, Tryz.ntmps176
  go_wp2
  go_ret3
  refine ⟨?_, (Below.refl _ _).alloc (Nat.le_refl _) _⟩
  simp [reachV] <;> go_num
set_option maxHeartbeats 400000 in
theorem new_any (w : World) :
  Calls Tryz.prog 115 #[] w fun e w' => e = .returned (.pointer (some ⟨w.heap.size + 1, 0, none⟩)) ∧ TblAt w' (w.heap.size + 1) w.heap.size (fun _ => none) ∧ Below w.heap.size w w' := by
 have hmm := @run_makeMap Tryz.prog
 go_enter Tryz.func115, Tryz.ntmps115
 go_wp2
 go_ret
 refine ⟨rfl, ⟨?_, ?_, fun k x h => by cases h⟩, ((Below.refl _ _).alloc (Nat.le_refl _) _).alloc (by simp) _⟩
 ·have := heap_alloc_new (w.alloc (.map #[] 0)) (.cells #[.map (some w.heap.size)] 253)
  rw [World.size_alloc] at this
  exact this
 ·exact (MapIs.made w .i64).of_block (Below.heap_alloc _ _ _ (by simp))
set_option maxHeartbeats 400000 in
theorem at_nil (k : Int) (w : World) :
  Calls Tryz.prog 160 #[.pointer none, .int .i64 k] w fun e w' => e = .returned (.tuple #[pv (0, false), .bool false]) ∧ Below w.heap.size w w' := by
 go_enter Tryz.func160, Tryz.ntmps160
 go_wp2
 (try simp only [Exit.inBlock, Exit.then])
 refine bodyPost_ret (v := .tuple #[.agg #[.int .i64 0, .bool false], .bool false]) ?_ rfl ⟨rfl, ?_⟩
 ·rw [results_cell_tmp rfl]
  go_simp
 ·(repeat' (first | exact Below.refl _ _ | refine Below.setCell ?_ (by simp) _ | refine Below.alloc ?_ (by simp) _))
set_option maxHeartbeats 400000 in
theorem at_at (t mb : Nat) (f : Int → Option (Int × Bool)) (k : Int) (w : World) (h : TblAt w t mb f) :
  Calls Tryz.prog 160 #[.pointer (some ⟨t, 0, none⟩), .int .i64 k] w fun e w' => e = .returned (.tuple #[pv ((f k).getD (0, false)), .bool (f k).isSome]) ∧ Below w.heap.size w w' := by
 have hl : ∀ o, (Instr.lookup 251 (.map (some mb)) (.int .i64 k) true).run Tryz.prog (w.alloc o) = .ok (.tuple #[pv ((f k).getD (0, false)), .bool (f k).isSome]) (w.alloc o) := by
  intro o
  have := (h.map.of_block (Below.heap_alloc w o _ h.mlt)).look (P := Tryz.prog) (t := 251) (k := 3) (e := 50) Tryz.underlying251 Tryz.underlying3 (zeroPage _) k
  rw [this]
  cases f k <;> rfl
 have hc : w.cell? ⟨t, 0, none⟩ = some (.map (some mb)) := by rw [cell_of_heap h.head]; rfl
 have hlt := h.lt
 clear h
 generalize f k = r at hl ⊢
 unfold pv at hl ⊢
 go_enter Tryz.func160, Tryz.ntmps160
 go_wp2
 (try simp only [Exit.inBlock, Exit.then])
 refine bodyPost_ret (v := .tuple #[.agg #[.int .i64 (r.getD (0, false)).1, .bool (r.getD (0, false)).2], .bool r.isSome]) ?_ rfl ⟨rfl, ?_⟩
 ·rw [results_cell_tmp rfl]
  go_simp
 ·(repeat' (first | exact Below.refl _ _ | refine Below.setCell ?_ (by simp) _ | refine Below.alloc ?_ (by simp) _))
def walkV (f : Int → Option (Int × Bool)) (a : Int) (wr : Bool) : Int × Int × Int :=
 if 128 ≤ a then (0, 0, 102) else match f (a / 32) with
  | none => (0, 0, 102)
  | some x => reachV x a wr
def t3 (r : Int × Int × Int) : Value := .tuple #[.int .i64 r.1, .int .i64 r.2.1, .int .i64 r.2.2]
set_option maxHeartbeats 400000 in
theorem walk_nil (a : Int) (wr : Bool) (w : World) (h0 : 0 ≤ a) :
  Calls Tryz.prog 135 #[.pointer none, .int .u64 a, .bool wr] w fun e w' => e = .returned (t3 (0, 0, 102)) ∧ Below w.heap.size w w' := by
 by_cases h : 128 ≤ a
 ·go_enter Tryz.func135, Tryz.ntmps135
  go_wp2
  go_ret3
  exact ⟨rfl, Below.refl _ _⟩
 ·have hd : decide (128 ≤ a) = false := by simp; omega
  go_enter Tryz.func135, Tryz.ntmps135
  go_wp2_with fail
  refine (pageOf_any a _ h0 (by omega)).mono ?_
  rintro e w1 ⟨rfl, rfl⟩
  go_wp2_with fail
  refine (at_nil _ _).mono ?_
  rintro e w2 ⟨rfl, hb⟩
  unfold pv
  go_wp2
  go_ret3
  refine ⟨rfl, hb.trans ?_⟩
  (repeat' (first | exact Below.refl _ _ | refine Below.setCell ?_ (by simp [hb.size]) _ | refine Below.alloc ?_ (by simp [hb.size]) _))
set_option maxHeartbeats 400000 in
theorem walk_at (t mb : Nat) (f : Int → Option (Int × Bool)) (a : Int) (wr : Bool) (w : World) (h : TblAt w t mb f) (h0 : 0 ≤ a) :
  Calls Tryz.prog 135 #[.pointer (some ⟨t, 0, none⟩), .int .u64 a, .bool wr] w fun e w' => e = .returned (t3 (walkV f a wr)) ∧ Below w.heap.size w w' := by
 by_cases h1 : 128 ≤ a
 ·go_enter Tryz.func135, Tryz.ntmps135
  go_wp2
  go_ret3
  exact ⟨by simp [walkV, h1, t3], Below.refl _ _⟩
 ·have hd : decide (128 ≤ a) = false := by simp; omega
  have ha := at_at t mb f (a / 32) w h
  cases hf : f (a / 32) with
  | none =>
   have hv : walkV f a wr = (0, 0, 102) := by simp [walkV, hf]
   rw [hf] at ha
   go_enter Tryz.func135, Tryz.ntmps135
   go_wp2_with fail
   refine (pageOf_any a _ h0 (by omega)).mono ?_
   rintro e w1 ⟨rfl, rfl⟩
   go_wp2_with fail
   refine ha.mono ?_
   rintro e w2 ⟨rfl, hb⟩
   simp only [pv, Option.getD_none, Option.isSome_none]
   go_wp2
   go_ret3
   refine ⟨by rw [hv]; rfl, hb.trans ?_⟩
   (repeat' (first | exact Below.refl _ _ | refine Below.setCell ?_ (by simp [hb.size]) _ | refine Below.alloc ?_ (by simp [hb.size]) _))
  | some x =>
   have hv : walkV f a wr = reachV x a wr := by simp [walkV, hf, h1]
   rw [hf] at ha
   go_enter Tryz.func135, Tryz.ntmps135
   go_wp2_with fail
   refine (pageOf_any a _ h0 (by omega)).mono ?_
   rintro e w1 ⟨rfl, rfl⟩
   go_wp2_with fail
   refine ha.mono ?_
   rintro e w2 ⟨rfl, hb⟩
   simp only [pv, Option.getD_some, Option.isSome_some]
   go_wp2_with fail
   refine (reach_any x a wr _ h0 (by omega)).mono ?_
   rintro e w3 ⟨rfl, hb3⟩
   go_wp2
   go_ret3
   have hbs := hb.size
   refine ⟨by rw [hv]; rfl, hb.trans (Below.trans ?_ (hb3.mono (by simp; omega)))⟩
   (repeat' (first | exact Below.refl _ _ | refine Below.setCell ?_ (by simp [hb.size]) _ | refine Below.alloc ?_ (by simp [hb.size]) _))
theorem map_not_nil (mb : Nat) (W : World) : (binOp .eql 251 (.map (some mb)) (.map none)).run Tryz.prog W = .ok (.bool false) W := by kernel_rfl
def mapV (k : Int) (x : Int × Bool) : Int := if isPg k && decide (0 ≤ x.1) then 0 else 101
def mapF (f : Int → Option (Int × Bool)) (k : Int) (x : Int × Bool) : Int → Option (Int × Bool) := if isPg k && decide (0 ≤ x.1) then fun y => if y = k then some x else f y else f
set_option maxHeartbeats 1000000 in
theorem map_at (t mb : Nat) (f : Int → Option (Int × Bool)) (k : Int) (x : Int × Bool) (w : World) (h : TblAt w t mb f) :
  Calls Tryz.prog 132 #[.pointer (some ⟨t, 0, none⟩), .int .i64 k, pv x] w fun e w' => e = .returned (.int .i64 (mapV k x)) ∧ TblAt w' t mb (mapF f k x) ∧ Upd mb w w' := by
 have hlt := h.lt
 cases hk : isPg k with
 | false =>
  unfold pv
  go_enter Tryz.func132, Tryz.ntmps132
  go_wp2_with fail
  refine (isPage_any _ _).mono ?_
  rintro e w1 ⟨rfl, rfl⟩
  rw [hk]
  go_wp2
  go_ret
  have hb : Below w.heap.size w (w.alloc (.cells #[.int .i64 x.1, .bool x.2] 50)) := (Below.refl _ _).alloc (Nat.le_refl _) _
  refine ⟨by simp [mapV, hk], ?_, Upd.of_below hb⟩
  have : mapF f k x = f := by simp [mapF, hk]
  rw [this]
  exact h.below hb
 | true =>
  by_cases hx : 0 ≤ x.1
  ·obtain ⟨w1, hu, hm1, hu1, hs1⟩ := ((h.map.of_block (Below.heap_alloc w (.cells #[.int .i64 x.1, .bool x.2] 50) _ h.mlt)).of_block (w' := (w.alloc (.cells #[.int .i64 x.1, .bool x.2] 50)).drew) rfl).put (P := Tryz.prog) (t := 251) (k := 3) (e := 50) Tryz.underlying251 Tryz.underlying3 k (pv x)
   have hc : w.cell? ⟨t, 0, none⟩ = some (.map (some mb)) := by rw [cell_of_heap h.head]; rfl
   have hd : decide (x.1 < 0) = false := by simp; omega
   have hne := h.ne
   have hmlt := h.mlt
   have e1 : w1.heap[t]? = w.heap[t]? := (hu1.block t (by simp; omega) hne).trans (Below.heap_alloc w _ _ hlt)
   have hT : TblAt w1 t mb (mapF f k x) := by
    refine ⟨e1.trans h.head, ?_, ?_⟩
    ·have : (fun y => (mapF f k x y).map pv) = fput (fun k => (f k).map pv) k (pv x) := by
      funext y
      by_cases hy : y = k <;> simp [mapF, fput, hk, hx, hy]
     rw [this]; exact hm1
    ·intro y z hz
     by_cases hy : y = k
     ·simp [mapF, hk, hx, hy] at hz
      simp [isPg] at hk
      subst hz; omega
     ·simp [mapF, hk, hx, hy] at hz
      exact h.near y z hz
   have hU : Upd mb w w1 := (Upd.alloc mb w (.cells #[.int .i64 x.1, .bool x.2] 50)).trans ((Upd.drew mb _).trans hu1)
   have HT : Hid _ := hT
   have HU : Hid _ := hU
   clear hT hU hu1 hm1 h e1 hs1
   have heq := map_not_nil mb
   unfold pv at hu ⊢
   go_enter Tryz.func132, Tryz.ntmps132
   go_wp2_with fail
   refine (isPage_any _ _).mono ?_
   rintro e w2 ⟨rfl, rfl⟩
   rw [hk]
   go_wp2
   go_region
   go_wp2
   go_ret
   exact ⟨by simp [mapV, hk, hx], HT.out, HU.out⟩
  ·have hd : decide (x.1 < 0) = true := by simp; omega
   have hv : mapV k x = 101 := by simp [mapV, hx]
   have hF : mapF f k x = f := by simp [mapF, hx]
   unfold pv
   go_enter Tryz.func132, Tryz.ntmps132
   go_wp2_with fail
   refine (isPage_any _ _).mono ?_
   rintro e w1 ⟨rfl, rfl⟩
   rw [hk]
   go_wp2
   go_ret
   have hb : Below w.heap.size w (w.alloc (.cells #[.int .i64 x.1, .bool x.2] 50)) := (Below.refl _ _).alloc (Nat.le_refl _) _
   refine ⟨by rw [hv]; rfl, ?_, Upd.of_below hb⟩
   rw [hF]
   exact h.below hb
def unmapV (f : Int → Option (Int × Bool)) (k : Int) : Int := if isPg k then (if (f k).isSome then 0 else 102) else 101
def unmapF (f : Int → Option (Int × Bool)) (k : Int) : Int → Option (Int × Bool) := fun y => if y = k then none else f y
theorem unmapF_none {f : Int → Option (Int × Bool)} {k : Int} (h : f k = none) : unmapF f k = f := by
 funext y
 by_cases hy : y = k <;> simp [unmapF, hy, h]
set_option maxHeartbeats 400000 in
theorem unmap_nil (k : Int) (w : World) :
  Calls Tryz.prog 134 #[.pointer none, .int .i64 k] w fun e w' => e = .returned (.int .i64 101) ∧ w' = w := by
 go_enter Tryz.func134, Tryz.ntmps134
 go_wp2
 go_ret
 exact ⟨rfl, rfl⟩
set_option maxHeartbeats 1000000 in
theorem unmap_at (t mb : Nat) (f : Int → Option (Int × Bool)) (k : Int) (w : World) (h : TblAt w t mb f) :
  Calls Tryz.prog 134 #[.pointer (some ⟨t, 0, none⟩), .int .i64 k] w fun e w' => e = .returned (.int .i64 (unmapV f k)) ∧ TblAt w' t mb (unmapF f k) ∧ Upd mb w w' := by
 have hlt := h.lt
 cases hk : isPg k with
 | false =>
  have hf : f k = none := by
   cases hf : f k with
   | none => rfl
   | some x => have := h.near k x hf; simp [isPg] at hk; omega
  have hv : unmapV f k = 101 := by simp [unmapV, hk]
  go_enter Tryz.func134, Tryz.ntmps134
  go_wp2_with fail
  refine (isPage_any _ _).mono ?_
  rintro e w1 ⟨rfl, rfl⟩
  rw [hk]
  go_wp2
  go_ret
  exact ⟨by rw [hv]; rfl, by rw [unmapF_none hf]; exact h, Upd.refl _ _⟩
 | true =>
  have ha := at_at t mb f k w h
  cases hf : f k with
  | none =>
   have hv : unmapV f k = 102 := by simp [unmapV, hk, hf]
   rw [hf] at ha
   go_enter Tryz.func134, Tryz.ntmps134
   go_wp2_with fail
   refine (isPage_any _ _).mono ?_
   rintro e w1 ⟨rfl, rfl⟩
   rw [hk]
   go_wp2_with fail
   refine ha.mono ?_
   rintro e w2 ⟨rfl, hb⟩
   simp only [pv, Option.getD_none, Option.isSome_none]
   go_wp2
   go_ret
   have hb3 : Below w1.heap.size w1 (w2.alloc (.cells #[.int .i64 0, .bool false] 50)) := hb.alloc hb.size _
   exact ⟨by rw [hv]; rfl, by rw [unmapF_none hf]; exact h.below hb3, Upd.of_below hb3⟩
  | some x =>
   have hv : unmapV f k = 0 := by simp [unmapV, hk, hf]
   rw [hf] at ha
   go_enter Tryz.func134, Tryz.ntmps134
   go_wp2_with fail
   refine (isPage_any _ _).mono ?_
   rintro e w1 ⟨rfl, rfl⟩
   rw [hk]
   go_wp2_with fail
   refine ha.mono ?_
   rintro e w2 ⟨rfl, hb⟩
   have hb3 : Below w1.heap.size w1 (w2.alloc (.cells #[.int .i64 x.1, .bool x.2] 50)) := hb.alloc hb.size _
   have h3 := h.below hb3
   obtain ⟨w3, hu, hm1, hu1, hs1⟩ := h3.map.del (P := Tryz.prog) (t := 251) (k := 3) (e := 50) Tryz.underlying251 Tryz.underlying3 k 0
   have hc : w2.cell? ⟨t, 0, none⟩ = some (.map (some mb)) := by rw [cell_of_heap (h.below hb).head]; rfl
   have hl2 := (h.below hb).lt
   have hT : TblAt w3 t mb (unmapF f k) := by
    refine ⟨(hu1.block t h3.lt h3.ne).trans h3.head, ?_, ?_⟩
    ·have : (fun y => (unmapF f k y).map pv) = fdel (fun k => (f k).map pv) k := by
      funext y
      by_cases hy : y = k <;> simp [unmapF, fdel, hy]
     rw [this]; exact hm1
    ·intro y z hz
     by_cases hy : y = k
     ·simp [unmapF, hy] at hz
     ·simp [unmapF, hy] at hz
      exact h.near y z hz
   have hU : Upd mb w1 w3 := (Upd.of_below hb3).trans hu1
   have HT : Hid _ := hT
   have HU : Hid _ := hU
   clear hT hU hu1 hm1 h3 hs1 hb3
   simp only [pv, Option.getD_some, Option.isSome_some]
   go_wp2
   go_ret
   exact ⟨by rw [hv]; rfl, HT.out, HU.out⟩
end Mu
end Go.Proofs.YtbhpafgoofkkmaaGreatDoor
