import Derived.Test.YtbhpafgoofkkmaaGreatDoorXoB
import Derived.Deep.RegionHeld3
set_option linter.all false
namespace Go.Proofs.YtbhpafgoofkkmaaGreatDoor
open Go.RowKit
def ftab : List Int := [0, 0, 0, 3, 0, 0, 1, 0, 0, 1, 0, 0, 3, 0, 0, 1, 0, 0, 0, 1, 1, 0, 2, 2, 2, 0, 0, 2, 0, 0, 2, 1, 1, 1, 0, 8, 0, 0, 0, 2, 0, 0, 3, 0, 0, 1, 0, 0, 2, 0, 0, 2, 32, 32]
def fS (c : Nat) : Nat := (ftab.getD (c * 3) 0).toNat
def fL (c : Nat) : Nat := (ftab.getD (c * 3 + 1) 0).toNat
def fM (c : Nat) : Nat := (ftab.getD (c * 3 + 2) 0).toNat
def Frm (w : World) : Prop := ∀ c, c < 18 → w.cell? ⟨0, c * 3, none⟩ = some (.int .i64 (fS c)) ∧ w.cell? ⟨0, c * 3 + 1, none⟩ = some (.int .i64 (fL c)) ∧ w.cell? ⟨0, c * 3 + 2, none⟩ = some (.int .i64 (fM c))
theorem Frm.below {w w' : World} {B : Nat} (h : Frm w) (hB : 1 ≤ B) (hb : Below B w w') : Frm w' := fun c hc => by
 obtain ⟨h1, h2, h3⟩ := h c hc
 exact ⟨(World.cell?_of_block (hb.block 0 hB)).trans h1, (World.cell?_of_block (hb.block 0 hB)).trans h2, (World.cell?_of_block (hb.block 0 hB)).trans h3⟩
theorem fS_le (c : Nat) (h : c < 18) : fS c ≤ 3 ∧ fL c ≤ 32 ∧ fM c ≤ 32 := by
 have : ((List.range 18).all fun c => decide (fS c ≤ 3) && decide (fL c ≤ 32) && decide (fM c ≤ 32)) = true := by decide +kernel
 rw [List.all_eq_true] at this
 have := this c (by simpa using h)
 simpa [Bool.and_eq_true, and_assoc] using this
structure Rqt where
 c : Nat
 a : Int
 b : Int
 d : Int
 vals : List Int
def sm (rest : List Int) (s i : Nat) : Int := if i < s then rest.getD i 0 else 0
def reqOf (ws : List Int) : Option Rqt := match ws with
 | [] => none
 | x :: rest => if x < 18 then (if rest.length < fS x.toNat + fL x.toNat ∨ fS x.toNat + fM x.toNat < rest.length then none else if (rest.take (fS x.toNat)).all (fun y => decide (y < 2147483648)) = true then some ⟨x.toNat, sm rest (fS x.toNat) 0, sm rest (fS x.toNat) 1, sm rest (fS x.toNat) 2, rest.drop (fS x.toNat)⟩ else none) else none
def U64s (ws : List Int) : Prop := ∀ x ∈ ws, 0 ≤ x ∧ x < 18446744073709551616
def sfx (g o cap k : Nat) : Addr := if cap = k then ⟨g, o, none⟩ else ⟨g, o + k, none⟩
theorem elemU : Tryz.prog.elem 27 = 42 := by kernel_rfl
set_option maxRecDepth 100000 in
theorem cut_from (g o len cap k : Nat) (h1 : k ≤ len) (V : World) :
  (Instr.slice 27 (.slice (some ⟨g, o, none⟩) len cap) (some (.int .i64 k)) none none).run Tryz.prog V = .ok (.slice (some (sfx g o cap k)) (len - k) (cap - k)) V := by
 unfold sfx
 obtain ⟨i0, hi0, hzz⟩ := Option.map_eq_some_iff.1 Di.wordInfo
 simp only [Prod.mk.injEq] at hzz
 rw [run_slice_l V 27 _ _ _ Tryz.underlying27 _ _ (by omega) (by omega)]
 simp only [sizeOf, typeInfo, elemU, sliced, Sem.run_bind, Sem.run_pure, Int.toNat_natCast]
 by_cases h : cap = k
 ·simp [h, hi0]
 ·simp [h, hi0, Addr.add, hzz.2.1]
set_option maxRecDepth 100000 in
theorem cut_to (g o len cap k : Nat) (h1 : k ≤ cap) (V : World) :
  (Instr.slice 27 (.slice (some ⟨g, o, none⟩) len cap) none (some (.int .i64 k)) none).run Tryz.prog V = .ok (.slice (some ⟨g, o, none⟩) k cap) V := by
 obtain ⟨i0, hi0, hzz⟩ := Option.map_eq_some_iff.1 Di.wordInfo
 rw [run_slice_h V 27 _ _ _ Tryz.underlying27 _ _ (by omega) (by omega)]
 simp [sizeOf, typeInfo, elemU, hi0, sliced, Addr.add]
theorem below_set {B b o : Nat} {w w' : World} {v : Value} (h : Below B w w') (hb : B ≤ b) : Below B w (w'.setCell ⟨b, o, none⟩ v) := h.setCell hb v
theorem set3_heap {w : World} {B : Nat} {t : TypeId} {a b c : Value} (h : w.heap[B]? = some (.cells #[a, b, c] t)) (x y z : Value) :
  (((w.setCell ⟨B, 0, none⟩ x).setCell ⟨B, 1, none⟩ y).setCell ⟨B, 2, none⟩ z).heap[B]? = some (.cells #[x, y, z] t) := by
 have h1 : (w.setCell ⟨B, 0, none⟩ x).heap[B]? = some (.cells #[x, b, c] t) := by rw [setCell_eq_setRow w B _ _ _ _ _ h, setRow_heap w B _ _ _ _ h]; rfl
 have h2 : ((w.setCell ⟨B, 0, none⟩ x).setCell ⟨B, 1, none⟩ y).heap[B]? = some (.cells #[x, y, c] t) := by rw [setCell_eq_setRow _ B _ _ _ _ _ h1, setRow_heap _ B _ _ _ _ h1]; rfl
 rw [setCell_eq_setRow _ B _ _ _ _ _ h2, setRow_heap _ B _ _ _ _ h2]; rfl
theorem set6_heap {w : World} {B : Nat} {t : TypeId} {a0 a1 a2 a3 a4 a5 : Value} (h : w.heap[B]? = some (.cells #[a0, a1, a2, a3, a4, a5] t)) (x0 x1 x2 x3 x4 x5 : Value) :
  ((((((w.setCell ⟨B, 0, none⟩ x0).setCell ⟨B, 1, none⟩ x1).setCell ⟨B, 2, none⟩ x2).setCell ⟨B, 3, none⟩ x3).setCell ⟨B, 4, none⟩ x4).setCell ⟨B, 5, none⟩ x5).heap[B]? = some (.cells #[x0, x1, x2, x3, x4, x5] t) := by
 have h1 : (w.setCell ⟨B, 0, none⟩ x0).heap[B]? = some (.cells #[x0, a1, a2, a3, a4, a5] t) := by rw [setCell_eq_setRow w B _ _ _ _ _ h, setRow_heap w B _ _ _ _ h]; rfl
 have h2 : ((w.setCell ⟨B, 0, none⟩ x0).setCell ⟨B, 1, none⟩ x1).heap[B]? = some (.cells #[x0, x1, a2, a3, a4, a5] t) := by rw [setCell_eq_setRow _ B _ _ _ _ _ h1, setRow_heap _ B _ _ _ _ h1]; rfl
 have h3 : (((w.setCell ⟨B, 0, none⟩ x0).setCell ⟨B, 1, none⟩ x1).setCell ⟨B, 2, none⟩ x2).heap[B]? = some (.cells #[x0, x1, x2, a3, a4, a5] t) := by rw [setCell_eq_setRow _ B _ _ _ _ _ h2, setRow_heap _ B _ _ _ _ h2]; rfl
 have h4 : ((((w.setCell ⟨B, 0, none⟩ x0).setCell ⟨B, 1, none⟩ x1).setCell ⟨B, 2, none⟩ x2).setCell ⟨B, 3, none⟩ x3).heap[B]? = some (.cells #[x0, x1, x2, x3, a4, a5] t) := by rw [setCell_eq_setRow _ B _ _ _ _ _ h3, setRow_heap _ B _ _ _ _ h3]; rfl
 have h5 : (((((w.setCell ⟨B, 0, none⟩ x0).setCell ⟨B, 1, none⟩ x1).setCell ⟨B, 2, none⟩ x2).setCell ⟨B, 3, none⟩ x3).setCell ⟨B, 4, none⟩ x4).heap[B]? = some (.cells #[x0, x1, x2, x3, x4, a5] t) := by rw [setCell_eq_setRow _ B _ _ _ _ _ h4, setRow_heap _ B _ _ _ _ h4]; rfl
 rw [setCell_eq_setRow _ B _ _ _ _ _ h5, setRow_heap _ B _ _ _ _ h5]; rfl
theorem other_set {w : World} {B k o : Nat} {v : Value} {x : Obj} (h : w.heap[k]? = some x) (hn : k ≠ B) : (w.setCell ⟨B, o, none⟩ v).heap[k]? = some x := ((Upd.setCell B o w v).block k (lt_of_heap h) hn).trans h
abbrev zreqC : Array Value := #[.int .i64 0, .int .i64 0, .int .i64 0, .int .i64 0, .int .i64 0, .slice none 0 0]
theorem six_cells {w : World} {B : Nat} {t : TypeId} {a0 a1 a2 a3 a4 a5 : Value} (h : w.heap[B]? = some (.cells #[a0, a1, a2, a3, a4, a5] t)) :
  w.cell? ⟨B, 0, none⟩ = some a0 ∧ w.cell? ⟨B, 1, none⟩ = some a1 ∧ w.cell? ⟨B, 2, none⟩ = some a2 ∧ w.cell? ⟨B, 3, none⟩ = some a3 ∧ w.cell? ⟨B, 4, none⟩ = some a4 ∧ w.cell? ⟨B, 5, none⟩ = some a5 := by
 refine ⟨?_, ?_, ?_, ?_, ?_, ?_⟩ <;> (rw [cell_of_heap h]; rfl)
theorem three_cells {w : World} {B : Nat} {t : TypeId} {a0 a1 a2 : Value} (h : w.heap[B]? = some (.cells #[a0, a1, a2] t)) :
  w.cell? ⟨B, 0, none⟩ = some a0 ∧ w.cell? ⟨B, 1, none⟩ = some a1 ∧ w.cell? ⟨B, 2, none⟩ = some a2 := by
 refine ⟨?_, ?_, ?_⟩ <;> (rw [cell_of_heap h]; rfl)
theorem read_none (e : Int) (a : Option Addr) (cap : Nat) (w : World) :
  Calls Tryz.prog 26 #[.int .i64 e, .slice a 0 cap] w fun x w' => x = .returned (.tuple #[.agg zreqC, .bool false]) ∧ Below w.heap.size w w' := by
 go_enter Tryz.func26, Tryz.ntmps26
 go_wp2
 refine bodyPost_ret (by rw [results_cell_tmp rfl]; go_simp) rfl ⟨rfl, ?_⟩
 repeat (refine below_set ?_ (Nat.le_refl _))
 exact Ca.below_alloc w _
theorem read_big (e : Int) (g o n cap : Nat) (x : Int) (w : World) (h0 : w.cell? ⟨g, o, none⟩ = some (.int .u64 x)) (hx : 18 ≤ x) :
  Calls Tryz.prog 26 #[.int .i64 e, .slice (some ⟨g, o, none⟩) (n + 1) cap] w fun x w' => x = .returned (.tuple #[.agg zreqC, .bool false]) ∧ Below w.heap.size w w' := by
 have i1 : (((n : Nat) : Int) + 1 == 0) = false := beq_false_of_ne (by omega)
 have i2 : decide ((18 : Int) ≤ x) = true := decide_eq_true hx
 have g0 := Ca.cell_alloc_old h0 (.cells zreqC 85)
 dsimp only [zreqC] at *
 clear h0
 go_enter Tryz.func26, Tryz.ntmps26
 go_wp2
 refine bodyPost_ret (by rw [results_cell_tmp rfl]; go_simp) rfl ⟨rfl, ?_⟩
 repeat (refine below_set ?_ (Nat.le_refl _))
 exact Ca.below_alloc w _
def smRow (rest : List Int) (k : Nat) : Array Value := #[.int .i64 (sm rest k 0), .int .i64 (sm rest k 1), .int .i64 (sm rest k 2)]
theorem smRow_set {rest : List Int} {k : Nat} {x : Int} (hx : rest[k]? = some x) (hk : k < 3) : (smRow rest k).setIfInBounds k (.int .i64 x) = smRow rest (k + 1) := by
 have e : rest.getD k 0 = x := by simp [List.getD, hx]
 have : k = 0 ∨ k = 1 ∨ k = 2 := by omega
 rcases this with rfl | rfl | rfl
 ·simp [smRow, sm, ← e]
 ·simp [smRow, sm, ← e]
 ·simp [smRow, sm, ← e]
theorem smRow_cell {w : World} {B k : Nat} {t : TypeId} {rest : List Int} (h : w.heap[B]? = some (.cells (smRow rest k) t)) (j : Nat) (hj : j < 3) : ∃ y, w.cell? ⟨B, j, none⟩ = some (.int .i64 y) := by
 rw [cell_of_heap h]
 have : j = 0 ∨ j = 1 ∨ j = 2 := by omega
 rcases this with rfl | rfl | rfl <;> exact ⟨_, rfl⟩
structure RdB (w U : World) (R F s l m : Nat) : Prop where
 res : U.heap[R]? = some (.cells zreqC 85)
 frm : U.heap[F]? = some (.cells #[.int .i64 s, .int .i64 l, .int .i64 m] 128)
 old : Below R w U
 far : R < F
theorem RdB.below {w U U' : World} {R F s l m : Nat} (h : RdB w U R F s l m) (hb : Below U.heap.size U U') : RdB w U' R F s l m :=
 ⟨(hb.block _ (lt_of_heap h.res)).trans h.res, (hb.block _ (lt_of_heap h.frm)).trans h.frm, h.old.trans (hb.mono (Nat.le_of_lt (lt_of_heap h.res))), h.far⟩
set_option maxHeartbeats 2000000 in
theorem read_core (e : Int) (g o n cap c s l m g1 o1 : Nat) (rest : List Int) (w : World) (h0 : w.cell? ⟨g, o, none⟩ = some (.int .u64 c)) (hc : c < 18) (hn : n + 1 ≤ cap)
 (f0 : w.cell? ⟨0, c * 3, none⟩ = some (.int .i64 s)) (f1 : w.cell? ⟨0, c * 3 + 1, none⟩ = some (.int .i64 l)) (f2 : w.cell? ⟨0, c * 3 + 2, none⟩ = some (.int .i64 m)) (hs : s ≤ 3) (hl : l ≤ 32) (hm : m ≤ 32)
 (hcut : ∀ V : World, (Instr.slice 27 (.slice (some ⟨g, o, none⟩) (n + 1) cap) (some (.int .i64 1)) none none).run Tryz.prog V = .ok (.slice (some ⟨g1, o1, none⟩) n (cap - 1)) V)
 (hrl : rest.length = n) (hrc : ∀ (j : Nat) (x : Int), rest[j]? = some x → w.cell? ⟨g1, o1 + j, none⟩ = some (.int .u64 x) ∧ 0 ≤ x) :
  Calls Tryz.prog 26 #[.int .i64 e, .slice (some ⟨g, o, none⟩) (n + 1) cap] w fun x w' => Below w.heap.size w w' ∧
   (((n < s + l ∨ s + m < n ∨ (∃ j y, j < s ∧ rest[j]? = some y ∧ 2147483648 ≤ y)) ∧ x = .returned (.tuple #[.agg zreqC, .bool false])) ∨
    ((s + l ≤ n ∧ n ≤ s + m ∧ ∀ j y, j < s → rest[j]? = some y → y < 2147483648) ∧ x = .returned (.tuple #[.agg #[.int .i64 e, .int .i64 c, .int .i64 (sm rest s 0), .int .i64 (sm rest s 1), .int .i64 (sm rest s 2), .slice (some (sfx g1 o1 (cap - 1) s)) (n - s) (cap - 1 - s)], .bool true]))) := by
 have i1 : (((n : Nat) : Int) + 1 == 0) = false := beq_false_of_ne (by omega)
 have i2 : decide ((18 : Int) ≤ (c : Int)) = false := decide_eq_false (by omega)
 have hci : (c : Int) < 18 := by omega
 have hwc : IntKind.i64.wrap (c : Int) = c := by rw [IntKind.wrap_i64]; omega
 obtain ⟨W, hW⟩ : ∃ W, W = w.alloc (.cells zreqC 85) := ⟨_, rfl⟩
 have g0 := Ca.cell_alloc_old h0 (.cells zreqC 85)
 have e0 := Ca.cell_alloc_old f0 (.cells zreqC 85)
 have e1 := Ca.cell_alloc_old f1 (.cells zreqC 85)
 have e2 := Ca.cell_alloc_old f2 (.cells zreqC 85)
 have HS : Hid (W.drew.cell? ⟨g, o, none⟩ = some (.int .u64 c) ∧ W.drew.cell? ⟨0, c * 3, none⟩ = some (.int .i64 s) ∧ W.drew.cell? ⟨0, c * 3 + 1, none⟩ = some (.int .i64 l) ∧ W.drew.cell? ⟨0, c * 3 + 2, none⟩ = some (.int .i64 m)) := by rw [hW]; exact ⟨g0, e0, e1, e2⟩
 have hbW : Below w.heap.size w W := by rw [hW]; exact Ca.below_alloc _ _
 have hsW : W.heap.size = w.heap.size + 1 := by rw [hW]; simp
 have hRW : W.heap[w.heap.size]? = some (.cells zreqC 85) := by rw [hW]; exact heap_alloc_new _ _
 obtain ⟨V, hV⟩ : ∃ V, V = (W.alloc (.cells #[.int .i64 0, .int .i64 0, .int .i64 0] 128)).drew := ⟨_, rfl⟩
 have hbV : Below W.heap.size W V := by rw [hV]; exact (Ca.below_alloc W _).drew
 have hFV : V.heap[W.heap.size]? = some (.cells #[.int .i64 0, .int .i64 0, .int .i64 0] 128) := by rw [hV]; exact heap_alloc_new W _
 have HSV : Hid (V.cell? ⟨g, o, none⟩ = some (.int .u64 c) ∧ V.cell? ⟨0, c * 3, none⟩ = some (.int .i64 s) ∧ V.cell? ⟨0, c * 3 + 1, none⟩ = some (.int .i64 l) ∧ V.cell? ⟨0, c * 3 + 2, none⟩ = some (.int .i64 m)) := by
  obtain ⟨q1, q2, q3, q4⟩ := HS.out
  exact ⟨(hbV.cell (cell_lt q1)).trans q1, (hbV.cell (cell_lt q2)).trans q2, (hbV.cell (cell_lt q3)).trans q3, (hbV.cell (cell_lt q4)).trans q4⟩
 obtain ⟨v0, v1, v2⟩ := three_cells hFV
 have vf := fun i => frozen_of_heap (i := i) hFV
 obtain ⟨U, hU⟩ : ∃ U, U = ((V.setCell ⟨W.heap.size, 0, none⟩ (.int .i64 s)).setCell ⟨W.heap.size, 1, none⟩ (.int .i64 l)).setCell ⟨W.heap.size, 2, none⟩ (.int .i64 m) := ⟨_, rfl⟩
 have hbU : Below W.heap.size V U := by
  rw [hU]
  exact (((Upd.setCell W.heap.size 0 V _).trans (Upd.setCell W.heap.size 1 _ _)).trans (Upd.setCell W.heap.size 2 _ _)).below (Nat.le_refl _) hbV.size
 have HU : Hid (RdB w U w.heap.size W.heap.size s l m) := by
  refine ⟨(hbU.block _ (by omega)).trans ((hbV.block _ (by omega)).trans hRW), ?_, (hbW.trans (hbV.mono (by omega))).trans (hbU.mono (by omega)), by omega⟩
  rw [hU]
  exact set3_heap hFV _ _ _
 have HSU : Hid (U.cell? ⟨g, o, none⟩ = some (.int .u64 c) ∧ U.cell? ⟨0, c * 3, none⟩ = some (.int .i64 s) ∧ U.cell? ⟨0, c * 3 + 1, none⟩ = some (.int .i64 l) ∧ U.cell? ⟨0, c * 3 + 2, none⟩ = some (.int .i64 m)) := by
  obtain ⟨q1, q2, q3, q4⟩ := HS.out
  have hh := hbV.trans hbU
  exact ⟨(hh.cell (cell_lt q1)).trans q1, (hh.cell (cell_lt q2)).trans q2, (hh.cell (cell_lt q3)).trans q3, (hh.cell (cell_lt q4)).trans q4⟩
 have HRC : Hid (∀ (j : Nat) (x : Int), rest[j]? = some x → w.cell? ⟨g1, o1 + j, none⟩ = some (.int .u64 x) ∧ 0 ≤ x) := hrc
 have HRL : Hid (rest.length = n) := hrl
 have HW0 : Hid (w.cell? ⟨g, o, none⟩ = some (.int .u64 c)) := h0
 have HWW : Hid _ := hW
 have HVV : Hid _ := hV
 have HUU : Hid _ := hU
 have HSW : Hid _ := hsW
 clear h0 f0 f1 f2 hbW hRW hbV hFV hbU hV hU hW hrc hrl hsW
 dsimp only [zreqC] at g0 e0 e1 e2 HWW
 go_enter Tryz.func26, Tryz.ntmps26
 go_wp2
 rw [← HWW.out]
 clear g0 e0 e1 e2 HWW
 refine wp_region_held_drew (S := fun w' => w'.cell? ⟨g, o, none⟩ = some (.int .u64 c) ∧ w'.cell? ⟨0, c * 3, none⟩ = some (.int .i64 s) ∧ w'.cell? ⟨0, c * 3 + 1, none⟩ = some (.int .i64 l) ∧ w'.cell? ⟨0, c * 3 + 2, none⟩ = some (.int .i64 m)) (by kernel_rfl) HS.out (fun hHeld => ?_)
 refine tkz [0, 1, 2, 3, 4, 5, 6] ?_
 iterate 7
  refine tky (v := ?_) rfl (by kernel_rfl) (by kernel_rfl) (by kernel_rfl) (fun _ _ _ h => h) (Or.inl ⟨by kernel_rfl, ?_⟩) (by assumption) ?_
  rotate_left
  ·(intro w hSw; (try dsimp only at hSw); go_simp) <;> with_reducible rfl
  (try simp only [Act.put, lqa, lqb, lqc, lqd, lqe, lqf])
 refine tkw ?_
 refine wpAnyH_ready (rs := [7]) (by kernel_rfl) (by simp) ?_
 refine AllReadyH.cons rfl (fun K hK => ?_) AllReadyH.nil
 go_simp
 rw [← HVV.out]
 refine hK.out _ _ HSV.out (fun hHeld => ?_)
 clear hK K
 (try simp only [Act.put, lqa, lqb, lqc, lqd, lqe, lqf])
 refine wpAnyH_ready (rs := [8]) (by kernel_rfl) (by simp) ?_
 refine AllReadyH.cons rfl (fun K hK => ?_) AllReadyH.nil
 go_simp
 rw [← HUU.out]
 refine hK.out _ _ HSU.out (fun hHeld => ?_)
 clear hK K
 (try simp only [Act.put, lqa, lqb, lqc, lqd, lqe, lqf])
 refine tkz [9] ?_
 iterate 1
  refine tky (v := ?_) rfl (by kernel_rfl) (by kernel_rfl) (by kernel_rfl) (fun _ _ _ h => h) (Or.inl ⟨by kernel_rfl, ?_⟩) (by assumption) ?_
  rotate_left
  ·(intro w hSw; (try dsimp only at hSw); go_simp) <;> with_reducible rfl
  (try simp only [Act.put, lqa, lqb, lqc, lqd, lqe, lqf])
 refine tkw ?_
 refine wpAnyH_done (by kernel_rfl) ?_ _
 clear hHeld v0 v1 v2 vf HVV HUU HS HSV HSU
 generalize W.heap.size = F at *
 have hUU := HU.out
 obtain ⟨p0, p1, p2⟩ := three_cells hUU.frm
 obtain ⟨r0, r1, r2, r3, r4, r5⟩ := six_cells hUU.res
 have rf := fun i => frozen_of_heap (i := i) hUU.res
 clear hUU HSW hHeld
 have w1 : IntKind.i64.wrap ((s : Int) + (l : Int)) = (s : Int) + (l : Int) := by rw [IntKind.wrap_i64]; omega
 have w2 : IntKind.i64.wrap ((s : Int) + (m : Int)) = (s : Int) + (m : Int) := by rw [IntKind.wrap_i64]; omega
 by_cases d1 : n < s + l
 ·have q1 : decide ((n : Int) < (s : Int) + (l : Int)) = true := decide_eq_true (by omega)
  go_wp2
  refine bodyPost_ret (by rw [results_cell_tmp rfl]; go_simp) rfl ⟨?_, Or.inl ⟨Or.inl d1, rfl⟩⟩
  repeat (refine below_set ?_ (Nat.le_refl _))
  exact HU.out.old
 have q1 : decide ((n : Int) < (s : Int) + (l : Int)) = false := decide_eq_false (by omega)
 by_cases d2 : s + m < n
 ·have q2 : decide ((s : Int) + (m : Int) < (n : Int)) = true := decide_eq_true (by omega)
  go_wp2
  refine bodyPost_ret (by rw [results_cell_tmp rfl]; go_simp) rfl ⟨?_, Or.inl ⟨Or.inr (Or.inl d2), rfl⟩⟩
  repeat (refine below_set ?_ (Nat.le_refl _))
  exact HU.out.old
 have q2 : decide ((s : Int) + (m : Int) < (n : Int)) = false := decide_eq_false (by omega)
 have hto := fun V => cut_to g1 o1 n (cap - 1) s (by omega) V
 have p0' := Ca.cell_alloc_old p0 (.cells #[.int .i64 0, .int .i64 0, .int .i64 0] 91)
 obtain ⟨A, hA⟩ : ∃ A, A = U.alloc (.cells #[.int .i64 0, .int .i64 0, .int .i64 0] 91) := ⟨_, rfl⟩
 have HAb : Hid (Below U.heap.size U A) := by rw [hA]; exact Ca.below_alloc _ _
 have HAA : Hid (A.heap[U.heap.size]? = some (.cells #[.int .i64 0, .int .i64 0, .int .i64 0] 91)) := by rw [hA]; exact heap_alloc_new _ _
 have HA : Hid _ := hA
 clear hA r0 r1 r2 r3 r4 r5 rf
 go_wp2
 clear p0 p1 p2 p0' w1 w2 hto hHeld
 rw [← HA.out]
 clear HA
 have HB0 : Hid (RdB w A w.heap.size F s l m) := HU.out.below HAb.out
 have HA0 : Hid (w.heap.size < U.heap.size ∧ F < U.heap.size) := ⟨lt_of_heap HU.out.res, lt_of_heap HU.out.frm⟩
 clear HAb HU
 generalize U.heap.size = A0 at *
 go_loopw [53] (fun s' wr => ∃ (k : Nat), k ≤ s ∧ s' = .int .i64 k ∧ wr.heap[A0]? = some (.cells (smRow rest k) 91) ∧ RdB w wr w.heap.size F s l m ∧ (∀ j y, j < k → rest[j]? = some y → y < 2147483648)) (fun s' _ => s - (intOf s').toNat)
 case atStart => exact ⟨0, by omega, rfl, HAA.out, HB0.out, fun j y hj => absurd hj (Nat.not_lt_zero _)⟩
 case round =>
  clear HAA HB0
  obtain ⟨k, hk, rfl, hA, hR, hsm⟩ := hrel
  by_cases hlt : k < s
  ·obtain ⟨x, hx⟩ : ∃ x, rest[k]? = some x := ⟨rest[k]'(by rw [HRL.out]; omega), List.getElem?_eq_getElem _⟩
   obtain ⟨c0, x0⟩ := HRC.out k x hx
   have c1 := (hR.old.cell (cell_lt c0)).trans c0
   have HX : Hid (rest[k]? = some x) := hx
   have HSM : Hid (∀ j y, j < k → rest[j]? = some y → y < 2147483648) := hsm
   have HR : Hid _ := hR
   have HAk : Hid _ := hA
   clear hx c0 hsm
   by_cases hbig : 2147483648 ≤ x
   ·obtain ⟨r0, r1, r2, r3, r4, r5⟩ := six_cells hR.res
    have rf := fun i => frozen_of_heap (i := i) hR.res
    clear hR hA
    go_wp2
    refine bodyPost_ret (by rw [results_cell_tmp rfl]; go_simp) rfl ⟨?_, Or.inl ⟨Or.inr (Or.inr ⟨k, x, hlt, HX.out, hbig⟩), rfl⟩⟩
    repeat (refine below_set ?_ (Nat.le_refl _))
    exact HR.out.old
   ·have hwx : IntKind.i64.wrap x = x := by rw [IntKind.wrap_i64]; omega
    obtain ⟨y, hy⟩ := smRow_cell hA k (by omega)
    have hfz : wr.frozen? ⟨A0, k, none⟩ = false := frozen_of_heap hA
    have hk3 : (k : Int) < 3 := by omega
    clear hR hA
    go_wp2
    go_roundw
    case rel =>
     have hne := HA0.out
     refine ⟨k + 1, by omega, by go_num, ?_, ⟨other_set HR.out.res (by omega), other_set HR.out.frm (by omega), below_set HR.out.old (by omega), HR.out.far⟩, ?_⟩
     ·rw [setCell_eq_setRow _ _ _ _ _ _ _ HAk.out, setRow_heap _ _ _ _ _ _ HAk.out, smRow_set HX.out (by omega)]
     ·intro j z hj hz
      by_cases e : j = k
      ·subst e
       rw [HX.out] at hz
       cases hz
       omega
      ·exact HSM.out j z (by omega) hz
    case measure => simp [intOf]; omega
  ·obtain rfl : k = s := by omega
   have c0 := (hR.old.cell (cell_lt HW0.out)).trans HW0.out
   obtain ⟨p0, p1, p2⟩ := three_cells hR.frm
   obtain ⟨s0, s1, s2⟩ := three_cells hA
   have hcf := fun V => cut_from g1 o1 n (cap - 1) k (by omega) V
   have HSd : Hid (wr.drew.cell? ⟨g, o, none⟩ = some (.int .u64 c) ∧ wr.drew.cell? ⟨A0, 0, none⟩ = some (.int .i64 (sm rest k 0)) ∧ wr.drew.cell? ⟨A0, 1, none⟩ = some (.int .i64 (sm rest k 1)) ∧ wr.drew.cell? ⟨A0, 2, none⟩ = some (.int .i64 (sm rest k 2)) ∧ wr.drew.cell? ⟨F, 0, none⟩ = some (.int .i64 k)) := ⟨c0, s0, s1, s2, p0⟩
   generalize ha0 : sm rest k 0 = a0 at *
   generalize ha1 : sm rest k 1 = a1 at *
   generalize ha2 : sm rest k 2 = a2 at *
   generalize hax : sfx g1 o1 (cap - 1) k = ax at *
   have HE : Hid (sm rest k 0 = a0 ∧ sm rest k 1 = a1 ∧ sm rest k 2 = a2 ∧ sfx g1 o1 (cap - 1) k = ax) := ⟨ha0, ha1, ha2, hax⟩
   clear ha0 ha1 ha2 hax
   obtain ⟨Z, hZ⟩ : ∃ Z, Z = (wr.alloc (.cells zreqC 85)).drew := ⟨_, rfl⟩
   have hbZ : Below wr.heap.size wr Z := by rw [hZ]; exact (Ca.below_alloc wr _).drew
   have hZZ : Z.heap[wr.heap.size]? = some (.cells zreqC 85) := by rw [hZ]; exact heap_alloc_new wr _
   obtain ⟨T, hT⟩ : ∃ T, T = (((((Z.setCell ⟨wr.heap.size, 0, none⟩ (.int .i64 e)).setCell ⟨wr.heap.size, 1, none⟩ (.int .i64 c)).setCell ⟨wr.heap.size, 2, none⟩ (.int .i64 a0)).setCell ⟨wr.heap.size, 3, none⟩ (.int .i64 a1)).setCell ⟨wr.heap.size, 4, none⟩ (.int .i64 a2)).setCell ⟨wr.heap.size, 5, none⟩ (.slice (some ax) (n - k) (cap - 1 - k)) := ⟨_, rfl⟩
   have hbT : Below wr.heap.size Z T := by
    rw [hT]
    exact ((((((Upd.setCell wr.heap.size 0 Z _).trans (Upd.setCell wr.heap.size 1 _ _)).trans (Upd.setCell wr.heap.size 2 _ _)).trans (Upd.setCell wr.heap.size 3 _ _)).trans (Upd.setCell wr.heap.size 4 _ _)).trans (Upd.setCell wr.heap.size 5 _ _)).below (Nat.le_refl _) hbZ.size
   have hbd : Below wr.heap.size wr.drew Z := ⟨hbZ.os, hbZ.tape, hbZ.output, hbZ.size, hbZ.block⟩
   have hTT : T.heap[wr.heap.size]? = some (.cells #[.int .i64 e, .int .i64 c, .int .i64 a0, .int .i64 a1, .int .i64 a2, .slice (some ax) (n - k) (cap - 1 - k)] 85) := by rw [hT]; exact set6_heap hZZ _ _ _ _ _ _
   have hmov : ∀ {X : World}, Below wr.heap.size wr X → (X.cell? ⟨g, o, none⟩ = some (.int .u64 c) ∧ X.cell? ⟨A0, 0, none⟩ = some (.int .i64 a0) ∧ X.cell? ⟨A0, 1, none⟩ = some (.int .i64 a1) ∧ X.cell? ⟨A0, 2, none⟩ = some (.int .i64 a2) ∧ X.cell? ⟨F, 0, none⟩ = some (.int .i64 k)) := by
    intro X hX
    obtain ⟨u1, u2, u3, u4, u5⟩ := HSd.out
    exact ⟨(hX.cell (cell_lt u1)).trans u1, (hX.cell (cell_lt u2)).trans u2, (hX.cell (cell_lt u3)).trans u3, (hX.cell (cell_lt u4)).trans u4, (hX.cell (cell_lt u5)).trans u5⟩
   have HSZ : Hid _ := hmov hbZ
   have HST : Hid _ := hmov (hbZ.trans hbT)
   obtain ⟨z0, z1, z2, z3, z4, z5⟩ := six_cells hZZ
   have zf := fun i => frozen_of_heap (i := i) hZZ
   have hRT := hR.below (hbZ.trans hbT)
   have HRT : Hid _ := hRT
   have HTT : Hid _ := hTT
   have HZ : Hid _ := hZ
   have HT : Hid _ := hT
   have HSM : Hid (∀ j y, j < k → rest[j]? = some y → y < 2147483648) := hsm
   clear hbZ hZZ hbT hbd hTT hmov hRT hR hA hZ hT c0 p0 p1 p2 s0 s1 s2 hsm
   dsimp only [zreqC] at HZ
   go_wp2
   refine wp_region_held_drew (S := fun w' => w'.cell? ⟨g, o, none⟩ = some (.int .u64 c) ∧ w'.cell? ⟨A0, 0, none⟩ = some (.int .i64 a0) ∧ w'.cell? ⟨A0, 1, none⟩ = some (.int .i64 a1) ∧ w'.cell? ⟨A0, 2, none⟩ = some (.int .i64 a2) ∧ w'.cell? ⟨F, 0, none⟩ = some (.int .i64 k)) (by kernel_rfl) HSd.out (fun hHeld => ?_)
   refine tkz [0, 1, 2, 3, 4, 5, 6, 7, 8, 9, 10, 11, 12, 13, 14, 15] ?_
   iterate 16
    refine tky (v := ?_) rfl (by kernel_rfl) (by kernel_rfl) (by kernel_rfl) (fun _ _ _ h => h) (Or.inl ⟨by kernel_rfl, ?_⟩) (by assumption) ?_
    rotate_left
    ·(intro w hSw; (try dsimp only at hSw); go_simp) <;> with_reducible rfl
    (try simp only [Act.put, lqa, lqb, lqc, lqd, lqe, lqf])
   refine tkw ?_
   refine wpAnyH_ready (rs := [16]) (by kernel_rfl) (by simp) ?_
   refine AllReadyH.cons rfl (fun K hK => ?_) AllReadyH.nil
   go_simp
   rw [← HZ.out]
   refine hK.out _ _ HSZ.out (fun hHeld => ?_)
   clear hK K
   (try simp only [Act.put, lqa, lqb, lqc, lqd, lqe, lqf])
   refine wpAnyH_ready (rs := [17]) (by kernel_rfl) (by simp) ?_
   refine AllReadyH.cons rfl (fun K hK => ?_) AllReadyH.nil
   go_simp
   rw [← HT.out]
   refine hK.out _ _ HST.out (fun hHeld => ?_)
   clear hK K
   (try simp only [Act.put, lqa, lqb, lqc, lqd, lqe, lqf])
   refine wpAnyH_done (by kernel_rfl) ?_ _
   clear hHeld z0 z1 z2 z3 z4 z5 zf HSd HSZ HST HZ HT hcf
   obtain ⟨t0, t1, t2, t3, t4, t5⟩ := six_cells HTT.out
   obtain ⟨r0, r1, r2, r3, r4, r5⟩ := six_cells HRT.out.res
   have rf := fun i => frozen_of_heap (i := i) HRT.out.res
   generalize wr.heap.size = Bx at *
   go_wp2
   refine bodyPost_ret (v := .tuple #[.agg #[.int .i64 e, .int .i64 c, .int .i64 a0, .int .i64 a1, .int .i64 a2, .slice (some ax) (n - k) (cap - 1 - k)], .bool true]) (by rw [results_cell_tmp rfl]; go_simp) rfl ⟨?_, Or.inr ⟨⟨by omega, by omega, HSM.out⟩, ?_⟩⟩
   ·clear t0 t1 t2 t3 t4 t5 r0 r1 r2 r3 r4 r5 rf
    repeat (refine below_set ?_ (Nat.le_refl _))
    exact HRT.out.old
   ·obtain ⟨q1, q2, q3, q4⟩ := HE.out
    rw [q1, q2, q3, q4]
theorem read_at (e : Int) (v : Value) (ws : List Int) (w : World) (hv : RdV w v ws) (hu : U64s ws) (hF : Frm w) :
  Calls Tryz.prog 26 #[.int .i64 e, v] w fun x w' => Below w.heap.size w w' ∧
   ((reqOf ws = none ∧ x = .returned (.tuple #[.agg zreqC, .bool false])) ∨
    ∃ r a n c, reqOf ws = some r ∧ x = .returned (.tuple #[.agg #[.int .i64 e, .int .i64 r.c, .int .i64 r.a, .int .i64 r.b, .int .i64 r.d, .slice a n c], .bool true]) ∧ ∀ w2, RdV w2 v ws → RdV w2 (.slice a n c) r.vals) := by
 cases ws with
 | nil =>
  obtain ⟨a, cap, rfl, _⟩ := hv
  refine (read_none e a cap w).mono ?_
  rintro x w' ⟨rfl, hb⟩
  exact ⟨hb, Or.inl ⟨rfl, rfl⟩⟩
 | cons y rest =>
  obtain ⟨a, cap0, hve, hcap, _⟩ := id hv
  obtain ⟨g, o, cap, rfl, hx⟩ := hv.has rest.length rfl
  have ecap : rest.length + 1 ≤ cap := by
   simp only [Value.slice.injEq] at hve
   have h3 := hve.2.2
   simp only [List.length_cons] at hcap
   omega
  have h0 : w.cell? ⟨g, o, none⟩ = some (.int .u64 y) := hx 0 y rfl
  have hy := hu y (List.mem_cons_self ..)
  by_cases hb : y < 18
  ·obtain ⟨c, rfl⟩ := nat_of y hy.1
   have hc : c < 18 := by omega
   obtain ⟨f0, f1, f2⟩ := hF c hc
   obtain ⟨l1, l2, l3⟩ := fS_le c hc
   have hcut : ∀ V : World, (Instr.slice 27 (.slice (some ⟨g, o, none⟩) (rest.length + 1) cap) (some (.int .i64 1)) none none).run Tryz.prog V = .ok (.slice (some ⟨g, if cap = 1 then o else o + 1, none⟩) rest.length (cap - 1)) V := by
    intro V
    have := cut_from g o (rest.length + 1) cap 1 (by omega) V
    rw [show ((1 : Nat) : Int) = 1 from rfl] at this
    rw [this]
    unfold sfx
    split <;> rfl
   have hrc : ∀ (j : Nat) (x : Int), rest[j]? = some x → w.cell? ⟨g, (if cap = 1 then o else o + 1) + j, none⟩ = some (.int .u64 x) ∧ 0 ≤ x := by
    intro j x hj
    have hlt : j < rest.length := (List.getElem?_eq_some_iff.1 hj).1
    rw [if_neg (by omega)]
    have := hx (j + 1) x (by simpa using hj)
    rw [show o + (j + 1) = o + 1 + j by omega] at this
    exact ⟨this, (hu x (List.mem_cons_of_mem _ (List.mem_of_getElem? hj))).1⟩
   refine (read_core e g o rest.length cap c (fS c) (fL c) (fM c) g (if cap = 1 then o else o + 1) rest w h0 hc ecap f0 f1 f2 l1 l2 l3 hcut rfl hrc).mono ?_
   rintro x w' ⟨hbl, h⟩
   refine ⟨hbl, ?_⟩
   have hq : reqOf ((c : Int) :: rest) = if rest.length < fS c + fL c ∨ fS c + fM c < rest.length then none else if (rest.take (fS c)).all (fun y => decide (y < 2147483648)) = true then some ⟨c, sm rest (fS c) 0, sm rest (fS c) 1, sm rest (fS c) 2, rest.drop (fS c)⟩ else none := by
    show (if (c : Int) < 18 then _ else _) = _
    rw [if_pos hb]
    simp only [Int.toNat_natCast]
   rcases h with ⟨h, rfl⟩ | ⟨⟨h1, h2, h3⟩, rfl⟩
   ·refine Or.inl ⟨?_, rfl⟩
    rw [hq]
    rcases h with h | h | ⟨j, z, hj, hz, hbig⟩
    ·rw [if_pos (Or.inl h)]
    ·rw [if_pos (Or.inr h)]
    ·split
     ·rfl
     ·rw [if_neg]
      intro hall
      rw [List.all_eq_true] at hall
      have := hall z (List.mem_of_getElem? (by rw [List.getElem?_take_of_lt hj]; exact hz))
      simp at this
      omega
   ·refine Or.inr ⟨⟨c, sm rest (fS c) 0, sm rest (fS c) 1, sm rest (fS c) 2, rest.drop (fS c)⟩, _, _, _, ?_, rfl, ?_⟩
    ·rw [hq, if_neg (by omega), if_pos]
     rw [List.all_eq_true]
     intro z hz
     obtain ⟨j, hj⟩ := List.mem_iff_getElem?.1 hz
     have hjs : j < fS c := by
      have := (List.getElem?_eq_some_iff.1 hj).1
      simp at this
      omega
     rw [List.getElem?_take_of_lt hjs] at hj
     have := h3 j z hjs hj
     simpa using this
    ·intro w2 hv2
     obtain ⟨g2, o2, cap2, e2, hx2⟩ := hv2.has rest.length rfl
     simp only [Value.slice.injEq, Option.some.injEq, Addr.mk.injEq] at e2
     obtain ⟨⟨rfl, rfl, _⟩, _, rfl⟩ := e2
     refine ⟨some (sfx g (if cap = 1 then o else o + 1) (cap - 1) (fS c)), cap - 1 - fS c, ?_, ?_, fun j x hj => ?_⟩
     ·simp only [List.length_drop]
     ·simp only [List.length_drop]
      omega
     ·have hj2 : rest[fS c + j]? = some x := by simpa [List.getElem?_drop] using hj
      have hlt : fS c + j < rest.length := (List.getElem?_eq_some_iff.1 hj2).1
      have h4 := hx2 (fS c + j + 1) x (by simpa using hj2)
      refine ⟨g, (if cap = 1 then o else o + 1) + fS c, ?_, by rw [if_neg (by omega), show o + 1 + fS c + j = o + (fS c + j + 1) by omega]; exact h4⟩
      unfold sfx
      rw [if_neg (by omega)]
  ·refine (read_big e g o rest.length cap y w h0 (by omega)).mono ?_
   rintro x w' ⟨rfl, hbl⟩
   refine ⟨hbl, Or.inl ⟨?_, rfl⟩⟩
   show (if y < 18 then _ else _) = _
   rw [if_neg hb]
end Go.Proofs.YtbhpafgoofkkmaaGreatDoor
