import Derived.Test.YtinaeifpoljfoaaGreatDoorRows
import Derived.Test.YtinaeifpoljfoaaGreatDoorPlain
import Derived.Deep.RegionHeld3
import Derived.Deep.RegionLaw
import Derived.Deep.QuietTactic
import Derived.Deep.AppendLies
import Derived.Deep.MidRow
import Derived.BigRegion
import Derived.BigQuiet
set_option linter.all false
set_option maxRecDepth 100000
set_option maxHeartbeats 16000000
namespace Go.Proofs.YtinaeifpoljfoaaGreatDoor
open Go.RowKit
namespace Ow
theorem below_alloc (w : World) (o : Obj) : Below w.heap.size w (w.alloc o) := (Below.refl _ _).alloc (Nat.le_refl _) _
theorem below_alloc2 (w : World) (o o' : Obj) : Below w.heap.size w ((w.alloc o).alloc o') := (below_alloc w o).trans ((below_alloc _ _).mono (by simp))
theorem cell_same {w w' : World} {p : Addr} {v : Value} (h : w.cell? p = some v) (hb : w'.heap[p.block]? = w.heap[p.block]?) : w'.cell? p = some v := by
 unfold World.cell? at *;rw [hb];exact h
theorem ownsRow_at {w w' : World} {base : Nat} {e : TypeId} {size : Nat} {v : Value} {n : Nat} {xs : List Value} (h : w.ownsRow base e size v n xs) (hb : ∀ g, v.ownBlock = some g → w'.heap[g]? = w.heap[g]?) : w'.ownsRow base e size v n xs := by
 obtain ⟨h1, h2⟩ := h;refine ⟨h1, ?_⟩
 rcases h2 with h2 | ⟨g, cap, cur, hv, hg, hh, r⟩
 ·exact Or.inl h2
 ·exact Or.inr ⟨g, cap, cur, hv, hg, (hb g (by rw [hv]; rfl)).trans hh, r⟩
theorem ownsRow_below {w w' : World} {base : Nat} {e : TypeId} {size : Nat} {v : Value} {n : Nat} {xs : List Value} (h : w.ownsRow base e size v n xs) (hb : Below w.heap.size w w') : w'.ownsRow base e size v n xs :=
 ownsRow_at h (fun g hg => hb.block g (h.lt g hg).2)
theorem ownsRow_low {w : World} {base : Nat} {e : TypeId} {size : Nat} {v : Value} {n : Nat} {xs : List Value} (h : w.ownsRow base e size v n xs) : ∀ g, v.ownBlock = some g → base ≤ g := fun g hg => (h.lt g hg).1
theorem own_slice {w : World} {base : Nat} {e : TypeId} {size : Nat} {v : Value} {n : Nat} {xs : List Value} (h : w.ownsRow base e size v n xs) : ∃ a cap, v = .slice a n cap := by
 rcases h.2 with ⟨rfl, rfl⟩ | ⟨g, cap, cur, rfl, _⟩
 ·exact ⟨none, 0, rfl⟩
 ·exact ⟨_, cap, rfl⟩
theorem own_type {w : World} {base : Nat} {e : TypeId} {size : Nat} {v : Value} {n : Nat} {xs : List Value} (h : w.ownsRow base e size v n xs) {g : Nat} (hg : v.ownBlock = some g) : ∃ cs, w.heap[g]? = some (.cells cs e (0, 0)) := by
 rcases h.2 with ⟨rfl, _⟩ | ⟨g', cap, cur, rfl, _, hh, _⟩
 ·simp [Value.ownBlock] at hg
 ·simp [Value.ownBlock] at hg
  subst hg;exact ⟨cur, hh⟩
theorem below_grown {B : Nat} {w w' : World} {row : Option Nat} (h : w.grownBy w' row) (hs : B ≤ w.heap.size) (hv : ∀ g, row = some g → B ≤ g) : Below B w w' :=
 ⟨h.os, h.tape, h.output, h.size, fun k hk => h.block k (by omega) (fun e => by have := hv k e.symm; omega)⟩
theorem grown_below {w w' : World} (row : Option Nat) (h : Below w.heap.size w w') : w.grownBy w' row := ⟨h.os, h.tape, h.output, h.size, fun k hk _ => h.block k hk⟩
theorem grown_trans {a b c : World} {row : Option Nat} (h : a.grownBy b row) (k : b.grownBy c row) : a.grownBy c row :=
 ⟨k.os.trans h.os, k.tape.trans h.tape, k.output.trans h.output, Nat.le_trans h.size k.size, fun i hi hg => (k.block i (Nat.lt_of_lt_of_le hi h.size) hg).trans (h.block i hi hg)⟩
theorem wpList_append_eq {P : Program} {w w' : World} {ops : Array Oper} {rest : List Oper} {o : Oper} {a : Act} {Q : Exit → Act → World → Prop} (hgd : o.guard = none) (s x : Operand) (t : TypeId)
  (ho : o.op = .call { callee := .builtin .append, args := #[s, x], argTypes := #[t, t] }) (sv xv r : Value) (hs : a.eval s = sv) (hx : a.eval x = xv) (hr : ∀ ty, (Builtin.append_ #[t, t] ty #[sv, xv]).run P w = .ok r w')
  (h : wpList P ops Q rest (a.put o.dst r) w') : wpList P ops Q (o :: rest) a w := by
 refine wpList_plain hgd fun K hK => ?_
 unfold Oper.wp;simp [execOp, ho, resolve, invoke, builtin, hs, hx, hr, Result.andThen];exact hK _ _ h
theorem step_append_eq {P : Program} {ops : Array Oper} {o : Oper} {a : Act} {w w' : World} {K : Act → World → Prop} {Q : Exit → Act → World → Prop} {E : Prop} (hgd : o.guard = none) (s x : Operand) (t : TypeId)
  (ho : o.op = .call { callee := .builtin .append, args := #[s, x], argTypes := #[t, t] }) (sv xv r : Value) (hs : a.eval s = sv) (hx : a.eval x = xv) (hr : ∀ ty, (Builtin.append_ #[t, t] ty #[sv, xv]).run P w = .ok r w') (hK : K (a.put o.dst r) w') :
  if Region.wanted o (yielded ops a.tmps) = true then Oper.wp P o a w K Q else E := by
 have hw : Region.wanted o (yielded ops a.tmps) = true := by simp [Region.wanted, hgd]
 rw [if_pos hw];unfold Oper.wp execOp;simp only [ho, resolve, invoke, builtin, Sem.run_bind, Sem.run_pure, Result.andThen_ok, List.map_toArray, List.map_cons, List.map_nil, hs, hx, hr];exact hK
theorem run_append_zero {P : Program} (w : World) (t e : TypeId) (i : TypeInfo) (ht : P.underlying t = some (.slice e)) (hi : P.info? e = some i) (a b : Option Addr) (n c cap : Nat) (hle : n ≤ c) (ty : TypeId) :
  (Builtin.append_ #[t, t] ty #[.slice a n c, .slice b 0 cap]).run P w = .ok (.slice a n c) w := by
 cases a <;> cases b <;> simp [Builtin.append_, run_underlying ht, sizeOf, typeInfo, hi, Builtin.lenOf, Builtin.firstCells, loadCells, loadCellsFrom, hle, storeCells]
theorem add0 (g o j : Nat) : (⟨g, o, none⟩ : Addr).add j = ⟨g, o + j, none⟩ := by unfold Addr.add; split <;> simp_all
theorem own_cap {w : World} {base : Nat} {e : TypeId} {size : Nat} {a : Option Addr} {n m cap : Nat} {xs : List Value} (h : w.ownsRow base e size (.slice a n cap) m xs) : n ≤ cap := by
 rcases h.2 with ⟨e2, _⟩ | ⟨g', cap', cur, e2, _, _, q, _⟩
 ·simp only [Value.slice.injEq] at e2
  omega
 ·simp only [Value.slice.injEq] at e2
  omega
def ivs (zs : List Int) : List Value := zs.map (Value.int .i64)
def irow (L : List Int) : Array Value := (L.map (Value.int .i64)).toArray
theorem irow_set (L : List Int) (f : Nat) (v : Int) : (irow L).setIfInBounds f (.int .i64 v) = irow (L.set f v) := by
 apply Array.ext'
 simp [irow, List.map_set]
theorem irow_cell {w : World} {B : Nat} {L : List Int} {t : TypeId} (h : w.heap[B]? = some (.cells (irow L) t)) {i : Nat} {x : Int} (hx : L[i]? = some x) : w.cell? ⟨B, i, none⟩ = some (.int .i64 x) := by
 rw [cell_of_heap h];simp [irow, hx]
theorem intInfo : (Tryz.prog.info? 3).map (fun i => (i.zero, i.size, i.bytes)) = some (some (.int .i64 0), 1, 8) := by kernel_rfl
def IRow (w : World) (a0 : Option Addr) (D : List Int) : Prop := ∀ (j : Nat) (x : Int), D[j]? = some x → ∃ gb off, a0 = some ⟨gb, off, none⟩ ∧ w.cell? ⟨gb, off + j, none⟩ = some (.int .i64 x)
theorem IRow.below {w w' : World} {a0 : Option Addr} {D : List Int} (h : IRow w a0 D) (hb : Below w.heap.size w w') : IRow w' a0 D := by
 intro j x hj;obtain ⟨gb, off, ha, hc⟩ := h j x hj;exact ⟨gb, off, ha, by rw [hb.cell (cell_lt hc)]; exact hc⟩
theorem own_irow {w : World} {base : Nat} {e : TypeId} {v : Value} {D : List Int} (h : w.ownsRow base e 1 v D.length (ivs D)) : ∃ a cap, v = .slice a D.length cap ∧ IRow w a D := by
 rcases h.2 with ⟨rfl, e2⟩ | ⟨g, cap, cur, rfl, _, hh, _, _, _, ht⟩
 ·have : D = [] := List.eq_nil_of_length_eq_zero e2
  subst this;exact ⟨none, 0, rfl, fun j x hx => by simp at hx⟩
 ·refine ⟨_, cap, rfl, fun j x hx => ⟨g, 0, rfl, ?_⟩⟩
  have hj : j < D.length := (List.getElem?_eq_some_iff.1 hx).1
  have hq : (ivs D)[j]? = some (.int .i64 x) := by simp [ivs, hx]
  rw [Nat.zero_add, cell_of_heap hh];rw [← ht, Nat.mul_one, List.getElem?_take_of_lt hj] at hq
  simpa using hq
theorem ints_same (D : List Int) (a b : Option Addr) (ca cb : Nat) (w : World) (ha : IRow w a D) (hb : IRow w b D) (hl : D.length ≤ 1000000) :
  Calls Tryz.prog 12 #[.slice a D.length ca, .slice b D.length cb] w fun e w' => e = .returned (.bool true) ∧ Below w.heap.size w w' := by
 have HA : Hid _ := ha;have HB : Hid _ := hb;clear ha hb
 go_enter Tryz.func12, Tryz.ntmps12
 go_wp2
 go_loopw [5] (fun s wr => ∃ (k : Nat), k ≤ D.length ∧ s = .int .i64 k ∧ Below w.heap.size w wr) (fun s _ => D.length - (intOf s).toNat)
 case atStart => exact ⟨0, by omega, rfl, Below.refl _ _⟩
 case round =>
  obtain ⟨k, hk, rfl, hbw⟩ := hrel
  by_cases hlt : k < D.length
  ·obtain ⟨x, hx⟩ : ∃ x, D[k]? = some x := ⟨D[k], List.getElem?_eq_getElem hlt⟩
   obtain ⟨ga, oa, rfl, a0⟩ := (IRow.below HA.out hbw) k x hx;obtain ⟨gb, ob, rfl, b0⟩ := (IRow.below HB.out hbw) k x hx;clear hx
   go_wp2_with fail
   go_region
   all_goals
    go_wp2;go_roundw
    case rel => exact ⟨k + 1, by omega, by go_num, hbw.drew⟩
    case measure => simp [intOf]; omega
  ·obtain rfl : k = D.length := by omega
   go_wp2;go_ret;exact ⟨rfl, hbw⟩
theorem ivs_len (l : List Int) : (ivs l).length = l.length := by simp [ivs]
theorem ivs_one (l : List Int) : ∀ u ∈ ivs l, u.oneCell' = true := by
 intro u hu;simp only [ivs, List.mem_map] at hu;obtain ⟨x, _, rfl⟩ := hu
 rfl
theorem ivs_app (l m : List Int) : ivs (l ++ m) = ivs l ++ ivs m := by simp [ivs]
theorem wordInfo : (Tryz.prog.info? 45).map (fun i => (i.zero, i.size, i.bytes)) = some (some (.int .u64 0), 1, 8) := by kernel_rfl
def uvs (zs : List Int) : List Value := zs.map (Value.int .u64)
theorem uvs_len (zs : List Int) : (uvs zs).length = zs.length := by simp [uvs]
theorem uvs_one (zs : List Int) : ∀ u ∈ uvs zs, u.oneCell' = true := by
 intro u hu;simp only [uvs, List.mem_map] at hu;obtain ⟨x, _, rfl⟩ := hu
 rfl
theorem uvs_get {zs : List Int} {j : Nat} {u : Value} (h : (uvs zs)[j]? = some u) : ∃ x, zs[j]? = some x ∧ u = .int .u64 x := by
 simp only [uvs, List.getElem?_map, Option.map_eq_some_iff] at h;obtain ⟨a, ha, rfl⟩ := h;exact ⟨a, ha, rfl⟩
theorem uvs_app (l m : List Int) : uvs (l ++ m) = uvs l ++ uvs m := by simp [uvs]
def Rd (w : World) (a : Option Addr) (ws : List Int) : Prop := ∀ (j : Nat) (x : Int), ws[j]? = some x → ∃ g off, a = some ⟨g, off, none⟩ ∧ w.cell? ⟨g, off + j, none⟩ = some (.int .u64 x)
theorem Rd.below {w w' : World} {a : Option Addr} {ws : List Int} (h : Rd w a ws) (hb : Below w.heap.size w w') : Rd w' a ws := by
 intro j x hj;obtain ⟨g, off, e, hc⟩ := h j x hj;exact ⟨g, off, e, (hb.cell (cell_lt hc)).trans hc⟩
theorem Rd.nil (w : World) (a : Option Addr) : Rd w a [] := fun j x h => by simp at h
theorem own_rd {w : World} {base : Nat} {e : TypeId} {v : Value} {D : List Int} (h : w.ownsRow base e 1 v D.length (uvs D)) : ∃ a cap, v = .slice a D.length cap ∧ D.length ≤ cap ∧ Rd w a D := by
 rcases h.2 with ⟨rfl, e2⟩ | ⟨g, cap, cur, rfl, _, hh, hle, _, _, ht⟩
 ·have : D = [] := List.eq_nil_of_length_eq_zero e2
  subst this;exact ⟨none, 0, rfl, Nat.le_refl _, Rd.nil _ _⟩
 ·refine ⟨_, cap, rfl, hle, fun j x hx => ⟨g, 0, rfl, ?_⟩⟩
  have hj : j < D.length := (List.getElem?_eq_some_iff.1 hx).1
  have hq : (uvs D)[j]? = some (.int .u64 x) := by simp [uvs, hx]
  rw [Nat.zero_add, cell_of_heap hh];rw [← ht, Nat.mul_one, List.getElem?_take_of_lt hj] at hq
  simpa using hq
theorem words_same (D : List Int) (a b : Option Addr) (ca cb : Nat) (w : World) (ha : Rd w a D) (hb : Rd w b D) (hl : D.length ≤ 1000000) :
  Calls Tryz.prog 7 #[.slice a D.length ca, .slice b D.length cb] w fun e w' => e = .returned (.bool true) ∧ Below w.heap.size w w' := by
 have HA : Hid _ := ha;have HB : Hid _ := hb;clear ha hb
 go_enter Tryz.func7, Tryz.ntmps7
 go_wp2
 go_loopw [5] (fun s wr => ∃ (k : Nat), k ≤ D.length ∧ s = .int .i64 k ∧ Below w.heap.size w wr) (fun s _ => D.length - (intOf s).toNat)
 case atStart => exact ⟨0, by omega, rfl, Below.refl _ _⟩
 case round =>
  obtain ⟨k, hk, rfl, hbw⟩ := hrel
  by_cases hlt : k < D.length
  ·obtain ⟨x, hx⟩ : ∃ x, D[k]? = some x := ⟨D[k], List.getElem?_eq_getElem hlt⟩
   obtain ⟨ga, oa, rfl, a0⟩ := (Rd.below HA.out hbw) k x hx;obtain ⟨gb, ob, rfl, b0⟩ := (Rd.below HB.out hbw) k x hx;clear hx
   go_wp2_with fail
   go_region
   all_goals
    go_wp2;go_roundw
    case rel => exact ⟨k + 1, by omega, by go_num, hbw.drew⟩
    case measure => simp [intOf]; omega
  ·obtain rfl : k = D.length := by omega
   go_wp2;go_ret;exact ⟨rfl, hbw⟩
end Ow
end Go.Proofs.YtinaeifpoljfoaaGreatDoor
