import Derived.Test.YtbhpafgoofkkmaaGreatDoorExAll
set_option linter.all false
namespace Go.Proofs.YtbhpafgoofkkmaaGreatDoor
open Go.RowKit Ca
namespace Ex
def pgOf (o : Option (Int × Bool)) : Int × Bool := o.getD (0, false)
def rrow (f : Int → Option (Int × Bool)) : Array Value :=
 #[.int .i64 (pgOf (f 0)).1, .bool (pgOf (f 0)).2, .int .i64 (pgOf (f 1)).1, .bool (pgOf (f 1)).2, .int .i64 (pgOf (f 2)).1, .bool (pgOf (f 2)).2, .int .i64 (pgOf (f 3)).1, .bool (pgOf (f 3)).2,
   .bool (f 0).isSome, .bool (f 1).isSome, .bool (f 2).isSome, .bool (f 3).isSome]
def RRow (w : World) (X bx c : Nat) (R : Nat → Array Value) : Prop :=
 ∃ row : Array Value, w.heap[X]? = some (.cells row 57) ∧ row.size = 146 ∧ row[0]? = some (ptr bx) ∧ row[1]? = some (ptr c) ∧ ∀ e, e < 12 → ∀ i, i < 12 → row[2 + e * 12 + i]? = (R e)[i]?
def upR (R : Nat → Array Value) (e i : Nat) (v : Value) : Nat → Array Value := fun k => if k = e then (R e).setIfInBounds i v else R k
section
variable {w w' : World} {X bx c : Nat} {R : Nat → Array Value}
theorem RRow.lt (h : RRow w X bx c R) : X < w.heap.size := by
 obtain ⟨row, hr, _⟩ := h
 exact lt_of_heap hr
theorem RRow.keep (h : RRow w X bx c R) (hb : w'.heap[X]? = w.heap[X]?) : RRow w' X bx c R := by
 obtain ⟨row, hr, r⟩ := h
 exact ⟨row, hb.trans hr, r⟩
theorem RRow.below (h : RRow w X bx c R) (hb : Below w.heap.size w w') : RRow w' X bx c R := h.keep (hb.block _ h.lt)
theorem RRow.c0 (h : RRow w X bx c R) : w.cell? ⟨X, 0, none⟩ = some (ptr bx) := by
 obtain ⟨row, hr, _, h0, _⟩ := h
 rw [cell_of_heap hr]; exact h0
theorem RRow.c1 (h : RRow w X bx c R) : w.cell? ⟨X, 1, none⟩ = some (ptr c) := by
 obtain ⟨row, hr, _, _, h1, _⟩ := h
 rw [cell_of_heap hr]; exact h1
theorem RRow.cell (h : RRow w X bx c R) {e i o : Nat} (he : e < 12) (hi : i < 12) (ho : o = 2 + e * 12 + i) : w.cell? ⟨X, o, none⟩ = (R e)[i]? := by
 obtain ⟨row, hr, _, _, _, h2⟩ := h
 rw [cell_of_heap hr, ho]; exact h2 e he i hi
theorem RRow.free (h : RRow w X bx c R) (o : Nat) : w.frozen? ⟨X, o, none⟩ = false := by
 obtain ⟨row, hr, _⟩ := h
 exact frozen_of_heap hr
theorem RRow.set (h : RRow w X bx c R) {e i o : Nat} (he : e < 12) (hi : i < 12) (ho : o = 2 + e * 12 + i) (v : Value) (hs : (R e).size = 12) : RRow (w.setCell ⟨X, o, none⟩ v) X bx c (upR R e i v) := by
 obtain ⟨row, hr, hz, h0, h1, h2⟩ := h
 subst ho
 refine ⟨row.setIfInBounds (2 + e * 12 + i) v, ?_, by simp [hz], ?_, ?_, fun k hk j hj => ?_⟩
 ·rw [setCell_eq_setRow w X _ _ _ _ _ hr, setRow_heap w X _ _ _ _ hr]
 ·rw [Array.getElem?_setIfInBounds, if_neg (by omega)]; exact h0
 ·rw [Array.getElem?_setIfInBounds, if_neg (by omega)]; exact h1
 ·unfold upR
  rw [Array.getElem?_setIfInBounds]
  by_cases e1 : k = e
  ·subst e1
   rw [if_pos rfl, Array.getElem?_setIfInBounds]
   by_cases e2 : i = j
   ·subst e2
    rw [if_pos rfl, if_pos rfl, if_pos (by omega), if_pos (by omega)]
   ·rw [if_neg (by omega), if_neg e2]
    exact h2 k hk j hj
  ·rw [if_neg (by omega), if_neg e1]
   exact h2 k hk j hj
theorem RRow.same {R' : Nat → Array Value} (h : RRow w X bx c R) (hR : ∀ e, e < 12 → R e = R' e) : RRow w X bx c R' := by
 obtain ⟨row, hr, hz, h0, h1, h2⟩ := h
 exact ⟨row, hr, hz, h0, h1, fun e he i hi => by rw [← hR e he]; exact h2 e he i hi⟩
end
def Near (F : Pages) : Prop := ∀ e, e < 12 → ∀ k y, F e k = some y → 0 ≤ k ∧ k < 4 ∧ 0 ≤ y.1
def RTs (w : World) (X bx c : Nat) (F : Pages) : Prop := RRow w X bx c (fun e => rrow (F e)) ∧ Near F
theorem rrow_size (f : Int → Option (Int × Bool)) : (rrow f).size = 12 := rfl
theorem rrowAt {w : World} {X bx c e j : Nat} {F : Pages} (h : RTs w X bx c F) (he : e < 12) (hj : j < 4) :
  w.cell? ⟨X, 2 + e * 12 + j * 2, none⟩ = some (.int .i64 (pgOf (F e j)).1) ∧ w.cell? ⟨X, 2 + e * 12 + j * 2 + 1, none⟩ = some (.bool (pgOf (F e j)).2) ∧ w.cell? ⟨X, 2 + e * 12 + 8 + j, none⟩ = some (.bool (F e j).isSome) := by
 rw [h.1.cell (e := e) (i := j * 2) he (by omega) rfl, h.1.cell (e := e) (i := j * 2 + 1) he (by omega) (by omega), h.1.cell (e := e) (i := 8 + j) he (by omega) (by omega)]
 match j, hj with
 | 0, _ => exact ⟨rfl, rfl, rfl⟩
 | 1, _ => exact ⟨rfl, rfl, rfl⟩
 | 2, _ => exact ⟨rfl, rfl, rfl⟩
 | 3, _ => exact ⟨rfl, rfl, rfl⟩
theorem pgNot {k : Int} (h : Mu.isPg k = false) : decide (k < 0) = true ∨ (decide (k < 0) = false ∧ decide (4 ≤ k) = true) := by simp [Mu.isPg] at h; simp; omega
section
variable {w : World} {X bx c e : Nat} {F : Pages}
set_option maxHeartbeats 4000000 in
theorem rat_at (h : RTs w X bx c F) (he : e < 12) (k : Int) :
  Calls Tryz.prog 108 #[.pointer (some ⟨X, 2 + e * 12, none⟩), .int .i64 k] w fun x w' => x = .returned (.tuple #[Mu.pv ((F e k).getD (0, false)), .bool (F e k).isSome]) ∧ Below w.heap.size w w' := by
 have hl := h.1.lt
 cases hk : Mu.isPg k with
 | false =>
  have hf : F e k = none := by
   cases hf : F e k with
   | none => rfl
   | some y => have := h.2 e he k y hf; simp [Mu.isPg] at hk; omega
  rw [hf]
  rcases pgNot hk with h1 | ⟨h1, h2⟩
  all_goals
   clear hk hf h
   go_enter Tryz.func108, Tryz.ntmps108
   go_wp2
   (try simp only [Exit.inBlock, Exit.then])
   refine bodyPost_ret (v := .tuple #[.agg #[.int .i64 0, .bool false], .bool false]) ?_ rfl ⟨rfl, ?_⟩
   ·rw [results_cell_tmp rfl]
    go_simp
   ·(repeat' (first | exact Below.refl _ _ | refine Below.setCell ?_ (by simp) _ | refine Below.alloc ?_ (by simp) _))
 | true =>
  obtain ⟨j, rfl⟩ : ∃ j : Nat, k = (j : Int) := ⟨k.toNat, by simp [Mu.isPg] at hk; omega⟩
  have hj : j < 4 := by simp [Mu.isPg] at hk; omega
  obtain ⟨c0, c1, c2⟩ := rrowAt h he hj
  clear hk h
  have i1 : decide ((j : Int) < 0) = false := by simp
  have i2 : decide (4 ≤ (j : Int)) = false := by simp; omega
  have i3 : (j : Int) < 4 := by omega
  generalize F e (j : Int) = r at c0 c1 c2 ⊢
  generalize 2 + e * 12 = o at *
  cases r with
  | none =>
   simp only [pgOf, Option.getD_none, Option.isSome_none] at c0 c1 c2 ⊢
   go_enter Tryz.func108, Tryz.ntmps108
   go_wp2
   (try simp only [Exit.inBlock, Exit.then])
   refine bodyPost_ret (v := .tuple #[.agg #[.int .i64 0, .bool false], .bool false]) ?_ rfl ⟨rfl, ?_⟩
   ·rw [results_cell_tmp rfl]
    go_simp
   ·(repeat' (first | exact Below.refl _ _ | refine Below.setCell ?_ (by simp) _ | refine Below.alloc ?_ (by simp) _))
  | some y =>
   simp only [pgOf, Option.getD_some, Option.isSome_some] at c0 c1 c2 ⊢
   go_enter Tryz.func108, Tryz.ntmps108
   go_wp2
   (try simp only [Exit.inBlock, Exit.then])
   refine bodyPost_ret (v := .tuple #[.agg #[.int .i64 y.1, .bool y.2], .bool true]) ?_ rfl ⟨rfl, ?_⟩
   ·rw [results_cell_tmp rfl]
    go_simp
   ·(repeat' (first | exact Below.refl _ _ | refine Below.setCell ?_ (by simp) _ | refine Below.alloc ?_ (by simp) _))
theorem mapR_row {f : Int → Option (Int × Bool)} {j : Nat} (hj : j < 4) (y : Int × Bool) (hy : 0 ≤ y.1) :
  (((rrow f).setIfInBounds (j * 2) (.int .i64 y.1)).setIfInBounds (j * 2 + 1) (.bool y.2)).setIfInBounds (8 + j) (.bool true) = rrow (Mu.mapF f j y) := by
 match j, hj with
 | 0, _ => simp [rrow, Mu.mapF, Mu.isPg, hy, pgOf]
 | 1, _ => simp [rrow, Mu.mapF, Mu.isPg, hy, pgOf]
 | 2, _ => simp [rrow, Mu.mapF, Mu.isPg, hy, pgOf]
 | 3, _ => simp [rrow, Mu.mapF, Mu.isPg, hy, pgOf]
theorem unmapR_row {f : Int → Option (Int × Bool)} {j : Nat} (hj : j < 4) :
  (((rrow f).setIfInBounds (j * 2) (.int .i64 0)).setIfInBounds (j * 2 + 1) (.bool false)).setIfInBounds (8 + j) (.bool false) = rrow (Mu.unmapF f j) := by
 match j, hj with
 | 0, _ => simp [rrow, Mu.unmapF, pgOf]
 | 1, _ => simp [rrow, Mu.unmapF, pgOf]
 | 2, _ => simp [rrow, Mu.unmapF, pgOf]
 | 3, _ => simp [rrow, Mu.unmapF, pgOf]
theorem near_map (h : Near F) (he : e < 12) (k : Int) (y : Int × Bool) : Near (setF F e (Mu.mapF (F e) k y)) := by
 intro i hi p z hz
 by_cases e1 : i = e
 ·subst e1
  rw [setF_same] at hz
  unfold Mu.mapF at hz
  split at hz
  ·rename_i hc
   dsimp only at hz
   split at hz
   ·rename_i hp
    cases hz
    simp [Mu.isPg] at hc
    omega
   ·exact h i hi p z hz
  ·exact h i hi p z hz
 ·rw [setF_other _ _ _ _ e1] at hz
  exact h i hi p z hz
theorem near_unmap (h : Near F) (he : e < 12) (k : Int) : Near (setF F e (Mu.unmapF (F e) k)) := by
 intro i hi p z hz
 by_cases e1 : i = e
 ·subst e1
  rw [setF_same] at hz
  unfold Mu.unmapF at hz
  split at hz
  ·cases hz
  ·exact h i hi p z hz
 ·rw [setF_other _ _ _ _ e1] at hz
  exact h i hi p z hz
theorem RTs.three (h : RTs w X bx c F) (he : e < 12) {j : Nat} (hj : j < 4) (v0 v1 v2 : Value) (f : Int → Option (Int × Bool)) (hf : (((rrow (F e)).setIfInBounds (j * 2) v0).setIfInBounds (j * 2 + 1) v1).setIfInBounds (8 + j) v2 = rrow f) (hn : Near (setF F e f)) :
  RTs (((w.setCell ⟨X, 2 + e * 12 + j * 2, none⟩ v0).setCell ⟨X, 2 + e * 12 + j * 2 + 1, none⟩ v1).setCell ⟨X, 2 + e * 12 + 8 + j, none⟩ v2) X bx c (setF F e f) := by
 have s1 := h.1.set (e := e) (i := j * 2) (o := 2 + e * 12 + j * 2) he (by omega) rfl v0 (rrow_size _)
 have s2 := s1.set (e := e) (i := j * 2 + 1) (o := 2 + e * 12 + j * 2 + 1) he (by omega) (by omega) v1 (by simp [upR, rrow_size])
 have s3 := s2.set (e := e) (i := 8 + j) (o := 2 + e * 12 + 8 + j) he (by omega) (by omega) v2 (by simp [upR, rrow_size])
 refine ⟨s3.same (fun k hk => ?_), hn⟩
 by_cases e1 : k = e
 ·subst e1
  simp only [upR, if_true, setF_same]
  exact hf
 ·simp only [upR, if_neg e1, setF_other _ _ _ _ e1]
set_option maxHeartbeats 4000000 in
theorem rmap_at (h : RTs w X bx c F) (he : e < 12) (k : Int) (y : Int × Bool) :
  Calls Tryz.prog 153 #[.pointer (some ⟨X, 2 + e * 12, none⟩), .int .i64 k, Mu.pv y] w fun x w' => x = .returned (.int .i64 (Mu.mapV k y)) ∧ RTs w' X bx c (setF F e (Mu.mapF (F e) k y)) ∧ Upd X w w' := by
 have hl := h.1.lt
 have hb : Below w.heap.size w (w.alloc (.cells #[.int .i64 y.1, .bool y.2] 50)) := (Below.refl _ _).alloc (Nat.le_refl _) _
 cases hc : (Mu.isPg k && decide (0 ≤ y.1)) with
 | false =>
  have e1 : Mu.mapV k y = 101 := by simp [Mu.mapV, hc]
  have e2 : Mu.mapF (F e) k y = F e := by simp [Mu.mapF, hc]
  have e3 : setF F e (F e) = F := by
   funext i
   unfold setF
   split
   ·rename_i q; rw [q]
   ·rfl
  have ht : decide (k < 0) = true ∨ (decide (k < 0) = false ∧ decide (4 ≤ k) = true) ∨ (decide (k < 0) = false ∧ decide (4 ≤ k) = false ∧ decide (y.1 < 0) = true) := by
   simp [Mu.isPg] at hc; simp; omega
  clear hc
  have HH : Hid _ := h
  have HE : Hid _ := And.intro e1 (And.intro e2 e3)
  clear h e1 e2 e3
  rcases ht with h1 | ⟨h1, h2⟩ | ⟨h1, h2, h3⟩
  all_goals
   unfold Mu.pv
   go_enter Tryz.func153, Tryz.ntmps153
   go_wp2
   go_ret
   obtain ⟨q1, q2, q3⟩ := HE.out
   exact ⟨by rw [q1]; rfl, by rw [q2, q3]; exact ⟨HH.out.1.below hb, HH.out.2⟩, Upd.of_below hb⟩
 | true =>
  have HE : Hid (Mu.mapV k y = 0) := by show _ = _; simp [Mu.mapV, hc]
  have hk : Mu.isPg k = true := by simp at hc; exact hc.1
  have hy : 0 ≤ y.1 := by simp at hc; exact hc.2
  have hyd : decide (y.1 < 0) = false := by simp; omega
  obtain ⟨j, rfl⟩ : ∃ j : Nat, k = (j : Int) := ⟨k.toNat, by simp [Mu.isPg] at hk; omega⟩
  have hj : j < 4 := by simp [Mu.isPg] at hk; omega
  obtain ⟨c0, c1, c2⟩ := rrowAt h he hj
  have f0 := h.1.free (2 + e * 12 + j * 2)
  have f1 := h.1.free (2 + e * 12 + j * 2 + 1)
  have f2 := h.1.free (2 + e * 12 + 8 + j)
  have HS : Hid _ := fun W (hW : RTs W X bx c F) => hW.three (e := e) he hj (.int .i64 y.1) (.bool y.2) (.bool true) _ (mapR_row hj y hy) (near_map hW.2 he j y)
  have HH : Hid _ := h
  have i1 : decide ((j : Int) < 0) = false := by simp
  have i2 : decide (4 ≤ (j : Int)) = false := by simp; omega
  have i3 : (j : Int) < 4 := by omega
  clear h hc hk
  generalize pgOf (F e j) = r at *
  generalize (F e j).isSome = r2 at *
  unfold Mu.pv
  go_enter Tryz.func153, Tryz.ntmps153
  go_wp2
  go_region
  go_wp2
  go_ret
  exact ⟨by rw [HE.out]; rfl, ⟨(HS.out w HH.out).1.below (below_alloc _ _).drew, (HS.out w HH.out).2⟩, ((((Upd.setCell _ _ _ _).trans (Upd.setCell _ _ _ _)).trans (Upd.setCell _ _ _ _)).trans (Upd.alloc _ _ _)).trans (Upd.drew _ _)⟩
theorem unmapF_self {f : Int → Option (Int × Bool)} {k : Int} (h : f k = none) : Mu.unmapF f k = f := Mu.unmapF_none h
theorem setF_id (F : Pages) (e : Nat) : setF F e (F e) = F := by
 funext i
 unfold setF
 split
 ·rename_i q; rw [q]
 ·rfl
set_option maxHeartbeats 4000000 in
theorem runmap_at (h : RTs w X bx c F) (he : e < 12) (k : Int) :
  Calls Tryz.prog 154 #[.pointer (some ⟨X, 2 + e * 12, none⟩), .int .i64 k] w fun x w' => x = .returned (.int .i64 (Mu.unmapV (F e) k)) ∧ RTs w' X bx c (setF F e (Mu.unmapF (F e) k)) ∧ Upd X w w' := by
 have hl := h.1.lt
 cases hk : Mu.isPg k with
 | false =>
  have hf : F e k = none := by
   cases hf : F e k with
   | none => rfl
   | some y => have := h.2 e he k y hf; simp [Mu.isPg] at hk; omega
  have HE : Hid (Mu.unmapV (F e) k = 101 ∧ setF F e (Mu.unmapF (F e) k) = F) := by
   show _ ∧ _
   rw [unmapF_self hf, setF_id]
   exact ⟨by simp [Mu.unmapV, hk], rfl⟩
  have HH : Hid _ := h
  rcases pgNot hk with h1 | ⟨h1, h2⟩
  all_goals
   clear hk hf h
   go_enter Tryz.func154, Tryz.ntmps154
   go_wp2
   go_ret
   exact ⟨by rw [HE.out.1]; rfl, by rw [HE.out.2]; exact HH.out, Upd.refl _ _⟩
 | true =>
  obtain ⟨j, rfl⟩ : ∃ j : Nat, k = (j : Int) := ⟨k.toNat, by simp [Mu.isPg] at hk; omega⟩
  have hj : j < 4 := by simp [Mu.isPg] at hk; omega
  obtain ⟨c0, c1, c2⟩ := rrowAt h he hj
  have i1 : decide ((j : Int) < 0) = false := by simp
  have i2 : decide (4 ≤ (j : Int)) = false := by simp; omega
  have i3 : (j : Int) < 4 := by omega
  cases hf : F e (j : Int) with
  | none =>
   have HE : Hid (Mu.unmapV (F e) j = 102 ∧ setF F e (Mu.unmapF (F e) j) = F) := by
    show _ ∧ _
    rw [unmapF_self hf, setF_id]
    exact ⟨by simp [Mu.unmapV, hk, hf], rfl⟩
   rw [hf] at c2
   simp only [Option.isSome_none] at c2
   have HH : Hid _ := h
   clear hk h hf c0 c1
   go_enter Tryz.func154, Tryz.ntmps154
   go_wp2
   go_ret
   exact ⟨by rw [HE.out.1]; rfl, by rw [HE.out.2]; exact HH.out, Upd.refl _ _⟩
  | some y =>
   have HE : Hid (Mu.unmapV (F e) j = 0) := by
    show _ = _
    simp [Mu.unmapV, hk, hf]
   have f0 := h.1.free (2 + e * 12 + j * 2)
   have f1 := h.1.free (2 + e * 12 + j * 2 + 1)
   have f2 := h.1.free (2 + e * 12 + 8 + j)
   have HS : Hid _ := fun W (hW : RTs W X bx c F) => hW.three (e := e) he hj (.int .i64 0) (.bool false) (.bool false) _ (unmapR_row hj) (near_unmap hW.2 he j)
   have HH : Hid _ := h
   rw [hf] at c0 c1 c2
   simp only [pgOf, Option.getD_some, Option.isSome_some] at c0 c1 c2
   clear h hk hf
   go_enter Tryz.func154, Tryz.ntmps154
   go_wp2
   go_region
   go_wp2
   go_ret
   exact ⟨by rw [HE.out]; rfl, ⟨(HS.out w HH.out).1.keep rfl, (HS.out w HH.out).2⟩, (((Upd.setCell _ _ _ _).trans (Upd.setCell _ _ _ _)).trans (Upd.setCell _ _ _ _)).trans (Upd.drew _ _)⟩
set_option maxHeartbeats 4000000 in
theorem rwalk_at (h : RTs w X bx c F) (he : e < 12) (a : Int) (wr : Bool) (h0 : 0 ≤ a) :
  Calls Tryz.prog 155 #[.pointer (some ⟨X, 2 + e * 12, none⟩), .int .u64 a, .bool wr] w fun x w' => x = .returned (Mu.t3 (Mu.walkV (F e) a wr)) ∧ Below w.heap.size w w' := by
 by_cases h1 : 128 ≤ a
 ·go_enter Tryz.func155, Tryz.ntmps155
  go_wp2
  go_ret3
  exact ⟨by simp [Mu.walkV, h1, Mu.t3], Below.refl _ _⟩
 ·have hd : decide (128 ≤ a) = false := by simp; omega
  have hlt : a < 128 := by omega
  have ha := rat_at h he (a / 32)
  have HA : ∀ r, F e (a / 32) = r → Mu.walkV (F e) a wr = match r with | none => (0, 0, 102) | some y => Mu.reachV y a wr := by
   intro r hr; subst hr
   simp only [Mu.walkV, h1, if_false]
   cases F e (a / 32) <;> rfl
  generalize F e (a / 32) = r at ha HA
  have hv := HA r rfl
  clear HA h1 h
  cases r with
  | none =>
   go_enter Tryz.func155, Tryz.ntmps155
   go_wp2_with fail
   refine ha.mono ?_
   rintro e w2 ⟨rfl, hb⟩
   simp only [Mu.pv, Option.getD_none, Option.isSome_none]
   go_wp2
   go_ret3
   exact ⟨by rw [hv]; rfl, hb.alloc hb.size _⟩
  | some y =>
   obtain ⟨fr, wt⟩ := y
   cases wr <;> cases wt
   all_goals
    go_enter Tryz.func155, Tryz.ntmps155
    go_wp2_with fail
    refine ha.mono ?_
    rintro e w2 ⟨rfl, hb⟩
    simp only [Mu.pv, Option.getD_some, Option.isSome_some]
    go_wp2
    go_ret3
    refine ⟨?_, hb.alloc hb.size _⟩
    rw [hv]
    simp [Mu.reachV, Mu.t3] <;> go_num
end
end Ex
end Go.Proofs.YtbhpafgoofkkmaaGreatDoor
