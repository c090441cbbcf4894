import Derived.Test.YtinaeifpoljfoaaGreatDoorFdI
import Derived.Test.YtinaeifpoljfoaaGreatDoorSrt
set_option linter.all false
set_option maxRecDepth 100000
set_option maxHeartbeats 16000000
namespace Go.Proofs.YtinaeifpoljfoaaGreatDoor
open Go.RowKit
namespace Ow
end Ow
namespace Fd
open Ow
def idsA (S : FS) (kind : Int) : List Int := Lib.compact ((idsTo S kind 32).mergeSort fun x y => decide (x ≤ y))
theorem holds_own {w : World} {base g n cap : Nat} {e : TypeId} {D : List Int} (h : w.ownsRow base e 1 (.slice (some ⟨g, 0, none⟩) n cap) D.length (ivs D)) : Go.Sort.Holds (Value.int .i64) w g 0 D.toArray := by
 rcases h.2 with ⟨e2, _⟩ | ⟨g', cap', cur, e2, _, hh, q1, _, _, ht⟩
 ·cases e2
 ·simp only [Value.slice.injEq, Option.some.injEq, Addr.mk.injEq] at e2
  obtain ⟨⟨rfl, _⟩, rfl, rfl⟩ := e2;intro j hj
  have hj' : j < D.length := by simpa using hj
  refine ⟨?_, frozen_of_heap hh⟩
  have hq : (ivs D)[j]? = some (.int .i64 D[j]) := by simp [ivs, hj']
  rw [← ht, Nat.mul_one, List.getElem?_take_of_lt hj'] at hq;rw [Nat.zero_add, cell_of_heap hh]
  have e3 : D.toArray[j]! = D[j] := by simp [hj']
  rw [e3]
  simpa using hq
theorem irow_holds {w : World} {g : Nat} {D E : List Int} (h : Go.Sort.Holds (Value.int .i64) w g 0 (D ++ E).toArray) : IRow w (some ⟨g, 0, none⟩) D := by
 intro j x hx;obtain ⟨hj, he⟩ := List.getElem?_eq_some_iff.1 hx;refine ⟨g, 0, rfl, ?_⟩;have := (h j (by simp; omega)).1;rw [this]
 have e3 : (D ++ E).toArray[j]! = x := by
  rw [← he];simp only [List.getElem!_toArray];rw [List.getElem!_eq_getElem?_getD, List.getElem?_append_left hj, List.getElem?_eq_getElem hj]
  rfl
 rw [e3]
theorem below_putRow {B g off n : Nat} {w0 w : World} (h : Below B w0 w) (hg : B ≤ g) (D : Array Int) : Below B w0 (Go.Sort.putRow (Value.int .i64) (Go.Sort.ahead w n) g off D) := by
 refine h.trans ⟨rfl, rfl, rfl, by simp, fun k hk => ?_⟩
 show (w.heap.modify g _)[k]? = w.heap[k]?
 rw [Array.getElem?_modify, if_neg (by omega)]
theorem below_growR {B : Nat} {w0 w : World} (h : Below B w0 w) (hB : B ≤ w.heap.size) (os : Array Obj) : Below B w0 (Go.Sort.grow w os) :=
 ⟨h.os, h.tape, h.output, by rw [Go.Sort.size_grow]; have := h.size; omega, fun k hk => by
   rw [Go.Sort.heap_grow_old w os (by omega)]
   exact h.block k hk⟩
theorem compact_len (l : List Int) : (Lib.compact l).length ≤ l.length := by
 unfold Lib.compact Lib.compactUpTo;rw [List.length_map];exact Nat.le_trans (List.length_filter_le _ _) (by simp)
theorem ids_at (b : Nat) (S : FS) (kind : Int) (w : World) (h : FdAt w b S) :
  Calls Tryz.prog 215 #[.pointer (some ⟨b, 0, none⟩), .int .i64 kind] w fun e w' => ∃ a cap, e = .returned (.slice a (idsA S kind).length cap) ∧ IRow w' a (idsA S kind) ∧ Below w.heap.size w w' := by
 obtain ⟨i0, hi0, hzz⟩ := Option.map_eq_some_iff.1 intInfo;simp only [Prod.mk.injEq] at hzz;obtain ⟨hz0, hz1, hz2⟩ := hzz;have HL : Hid _ := h.range;have hne := ptr_eq b;clear h
 go_enter Tryz.func215, Tryz.ntmps215
 go_wp2_with (first | (refine wpList_load_mid rfl 103 _ rfl b 0 rfl (fvals S) _ HL.out Tryz.underlying103 rfl (by kernel_rfl) ?_) | go_in)
 clear HL
 go_loopw [5, 14] (fun s i wr => ∃ (k : Nat) (v : Value), k ≤ 32 ∧ i = .int .i64 k ∧ v = s ∧ wr.ownsRow w.heap.size 3 1 v (idsTo S kind k).length (ivs (idsTo S kind k)) ∧ Below w.heap.size w wr) (fun _ i _ => 32 - (intOf i).toNat)
 case atStart => exact ⟨0, _, by omega, rfl, rfl, World.ownsRow_nil _ _ _ _, Below.refl _ _⟩
 case round =>
  obtain ⟨k, v, hk, rfl, rfl, hown, hB⟩ := hrel;have HB := hid hB;have hsz := hB.size;have HO := hid hown;have hle := idsTo_len S kind k
  by_cases hlt : k < 32
  ·have hix := files_index S k hlt
   have i1 : decide ((k : Int) < 32) = true := decide_eq_true (by omega)
   by_cases h0 : 0 < (S.f k).refs
   ·have g0 : decide (0 < (S.f k).refs) = true := decide_eq_true h0
    by_cases h1 : (S.f k).kind = kind
    ·have g1 : ((S.f k).kind == kind) = true := by simp [h1]
     have HF : Hid (idsTo S kind (k + 1) = idsTo S kind k ++ [(S.f k).id]) := by show _ = _; rw [idsTo_succ, if_pos ⟨h0, h1⟩]
     generalize S.f k = x at *;obtain ⟨xk, xi, xo, xa, xr⟩ := x;unfold Fl.row at hix;dsimp only at *;clear hown hB h0 h1;generalize idsTo S kind k = D at *
     go_wp2_with (first
       | (at_builtin; refine wpList_append_lies _ rfl _ _ _ rfl w.heap.size 3 i0 _ 1 8 Tryz.underlying50 hi0 hz0 hz1 hz2 rfl (by omega) v D.length (ivs D) rfl (World.ownsRow.alloc (World.ownsRow.alloc HO.out _) _) ⟨wr.heap.size + 1, 0, none⟩ 1 1 [.int .i64 xi] rfl rfl (World.news_of_block (cs := #[.int .i64 xi]) (t := 3) (fr := (0, 0)) (by have := heap_alloc_new (wr.alloc (.cells #[.int .i64 xk, .int .i64 xi, .int .i64 xo, .bool xa, .int .i64 xr] 102)) (.cells #[.int .i64 xi] 3); simpa using this)) (by simp [Value.oneCell']) (by omega) (by unfold maxLen; omega) (by omega) (by simp; omega) _ rfl ?_; intro gg capx w2 hown2 hgrow hat hlt2)
       | go_in)
     go_roundw
     case rel =>
      refine ⟨k + 1, _, by omega, by go_num, rfl, ?_, ((HB.out.alloc hsz _).alloc (by simp; omega) _).trans (below_grown hgrow (by simp; omega) (ownsRow_low HO.out))⟩;rw [HF.out, ivs_app, List.length_append];exact hown2
     case measure => simp [intOf]; omega
    ·have g1 : ((S.f k).kind == kind) = false := by simp [h1]
     have HF : Hid (idsTo S kind (k + 1) = idsTo S kind k) := by show _ = _; rw [idsTo_succ, if_neg (fun q => h1 q.2)]
     generalize S.f k = x at *;obtain ⟨xk, xi, xo, xa, xr⟩ := x;unfold Fl.row at hix;dsimp only at *;clear hown hB h0 h1;go_wp2;go_roundw
     case rel => exact ⟨k + 1, _, by omega, by go_num, rfl, by rw [HF.out]; exact World.ownsRow.alloc HO.out _, HB.out.alloc hsz _⟩
     case measure => simp [intOf]; omega
   ·have g0 : decide (0 < (S.f k).refs) = false := decide_eq_false h0
    have HF : Hid (idsTo S kind (k + 1) = idsTo S kind k) := by show _ = _; rw [idsTo_succ, if_neg (fun q => h0 q.1)]
    generalize S.f k = x at *;obtain ⟨xk, xi, xo, xa, xr⟩ := x;unfold Fl.row at hix;dsimp only at *;clear hown hB h0;go_wp2;go_roundw
    case rel => exact ⟨k + 1, _, by omega, by go_num, rfl, by rw [HF.out]; exact World.ownsRow.alloc HO.out _, HB.out.alloc hsz _⟩
    case measure => simp [intOf]; omega
  ·obtain rfl : k = 32 := by omega
   have HA : Hid (idsA S kind = Lib.compact ((idsTo S kind 32).mergeSort fun x y => decide (x ≤ y))) := rfl;generalize idsTo S kind 32 = D at *
   by_cases hn : D.length = 0
   ·have hD : D = [] := List.eq_nil_of_length_eq_zero hn
    subst hD
    have HA2 : Hid (idsA S kind = []) := by show idsA S kind = []; rw [HA.out]; simp [Lib.compact, Lib.compactUpTo]
    obtain ⟨a, cap, rfl⟩ := own_slice hown;have hS := slices_Sort_int_none a cap wr;have hC := slices_Compact_int_empty a cap wr;clear hown hB
    go_wp2_with fail
    refine hS.mono ?_;rintro e w1 ⟨rfl, hw⟩;rw [hw];clear hw w1 hS
    go_wp2_with fail
    refine hC.mono ?_;rintro e w1 ⟨rfl, hw⟩;rw [hw];clear hw w1 hC;go_wp2;go_ret;refine ⟨a, cap, ?_, ?_, HB.out⟩
    ·rw [HA2.out]; rfl
    ·rw [HA2.out]
     intro j x hx;simp at hx
   ·obtain ⟨g, cap, rfl, hgl, hgu⟩ := hown.form (by omega)
    have hH := holds_own hown;have hlow := ownsRow_low hown g rfl;have hcap := own_cap hown;have hS := slices_Sort_int g 0 cap D wr hH hgu (by omega);have HLn : Hid ((D.mergeSort fun x y => decide (x ≤ y)).length = D.length) := List.length_mergeSort _
    have hC := fun W (hW : Go.Sort.Holds (Value.int .i64) W g 0 (D.mergeSort fun x y => decide (x ≤ y)).toArray) => slices_Compact_int g 0 cap (D.mergeSort fun x y => decide (x ≤ y)) W hW (by rw [HLn.out]; omega) (by rw [HLn.out]; exact hcap)
    have HHo := hid hH;generalize (D.mergeSort fun x y => decide (x ≤ y)) = M at *;generalize hDl : D.length = dl at *;have HDl : Hid (dl = D.length) := hDl.symm;clear hown hB hH HO hDl
    go_wp2_with fail
    refine hS.mono ?_;rintro e w1 ⟨rfl, nn, os, hw⟩
    have hB1 : Below w.heap.size w w1 := by
     rw [hw];exact below_growR (below_putRow HB.out hlow _) (by simp; omega) _
    have hH1 : Go.Sort.Holds (Value.int .i64) w1 g 0 M.toArray := by
     rw [hw];refine Go.Sort.holds_grow _ _ _ _ _ _ (by simp; omega) ?_;exact Go.Sort.holds_putRow _ _ _ _ D.toArray _ (Go.Sort.holds_ahead _ _ _ _ _ _ HHo.out) (by simp [HLn.out, ← HDl.out])
    have hC1 := hC w1 hH1;have HB1 := hid hB1;have HH1 := hid hH1;have hml : M.length = dl := HLn.out;rw [hml] at hC1;clear hS hw hC hB1 hH1 hml
    go_wp2_with fail
    refine hC1.mono ?_;rintro e w2 ⟨rfl, q, hw⟩
    have hB2 : Below w.heap.size w w2 := by
     rw [hw];exact below_putRow HB1.out hlow _
    have hcl := compact_len M
    have hH2 : Go.Sort.Holds (Value.int .i64) w2 g 0 (Lib.compact M ++ List.replicate (dl - (Lib.compact M).length) 0).toArray := by
     rw [hw];refine Go.Sort.holds_putRow _ _ _ _ M.toArray _ (Go.Sort.holds_ahead _ _ _ _ _ _ HH1.out) ?_;have := HLn.out;simp;omega
    have HI : Hid (IRow w2 (some ⟨g, 0, none⟩) (Lib.compact M)) := irow_holds hH2;have HB2 := hid hB2;clear hC1 hw hB2 hH2 HB1 HH1;generalize hcm : Lib.compact M = Cm at *;generalize hcl2 : Cm.length = cl at *;have HCl := hid hcl2;clear hcm hcl2;go_wp2;go_ret;refine ⟨some ⟨g, 0, none⟩, cap, ?_, ?_, HB2.out⟩
    ·rw [HA.out, HCl.out]; rfl
    ·rw [HA.out]; exact HI.out
end Fd
namespace Ow
end Ow
namespace Fd
open Ow
def tabL (g : Nat → Nat) : List Int := (List.range 48).map (fun i => (g i : Int))
def tabR (g : Nat → Nat) : Array Value := irow (tabL g)
theorem tabL_len (g : Nat → Nat) : (tabL g).length = 48 := by simp [tabL]
theorem tabL_get (g : Nat → Nat) {i : Nat} (hi : i < 48) : (tabL g)[i]? = some (g i : Int) := by simp [tabL, hi]
theorem tabR_size (g : Nat → Nat) : (tabR g).size = 48 := by simp [tabR, irow, tabL_len]
theorem tabL_set (g h : Nat → Nat) (k x : Nat) (hk : ∀ i, i < 48 → h i = if i = k then x else g i) : (tabL g).set k (x : Int) = tabL h := by
 apply List.ext_getElem?
 intro i;rw [List.getElem?_set]
 by_cases hi : i < 48
 ·rw [tabL_get h hi, hk i hi]
  by_cases e : k = i
  ·rw [if_pos e, if_pos e.symm, if_pos (by rw [tabL_len]; omega)]
  ·rw [if_neg e, if_neg (fun q => e q.symm), tabL_get g hi]
 ·have hr : (tabL h)[i]? = none := List.getElem?_eq_none (by rw [tabL_len]; omega)
  have hl : (tabL g)[i]? = none := List.getElem?_eq_none (by rw [tabL_len]; omega);rw [hr]
  by_cases e : k = i
  ·rw [if_pos e, if_neg (by rw [tabL_len]; omega)]
  ·rw [if_neg e, hl]
def cntL (l : List Nat) : List Int := (List.range 33).map (fun q => (cn l q : Int))
theorem cntL_len (l : List Nat) : (cntL l).length = 33 := by simp [cntL]
theorem cntL_get (l : List Nat) {q : Nat} (hq : q < 33) : (cntL l)[q]? = some (cn l q : Int) := by simp [cntL, hq]
theorem cn_snoc {l : List Nat} {q : Nat} (h0 : q ≠ 0) (hq : q ∉ l) (i : Nat) : cn (l ++ [q]) i = if i = q then l.length + 1 else cn l i := by
 by_cases e : i = q
 ·subst e
  rw [if_pos rfl];unfold cn;rw [if_neg h0, if_pos (by simp), List.idxOf_append, if_neg hq];simp
 ·rw [if_neg e]
  unfold cn
  by_cases h1 : i = 0
  ·rw [if_pos h1, if_pos h1]
  ·rw [if_neg h1, if_neg h1]
   by_cases h2 : i ∈ l
   ·rw [if_pos (List.mem_append_left _ h2), if_pos h2, List.idxOf_append, if_pos h2]
   ·rw [if_neg (by simp [h2, e]), if_neg h2]
theorem cntL_set {l : List Nat} {q : Nat} (h0 : q ≠ 0) (hq : q ∉ l) : (cntL l).set q ((l.length + 1 : Nat) : Int) = cntL (l ++ [q]) := by
 apply List.ext_getElem?
 intro i;rw [List.getElem?_set]
 by_cases hi : i < 33
 ·rw [cntL_get (l ++ [q]) hi, cn_snoc h0 hq]
  by_cases e : q = i
  ·rw [if_pos e, if_pos e.symm, if_pos (by rw [cntL_len]; omega)]
  ·rw [if_neg e, if_neg (fun x => e x.symm), cntL_get _ hi]
 ·have hr : (cntL (l ++ [q]))[i]? = none := List.getElem?_eq_none (by rw [cntL_len]; omega)
  have hl : (cntL l)[i]? = none := List.getElem?_eq_none (by rw [cntL_len]; omega);rw [hr]
  by_cases e : q = i
  ·rw [if_pos e, if_neg (by rw [cntL_len]; omega)]
  ·rw [if_neg e, hl]
def ordI (t : Nat → Nat) (k : Nat) : List Int := (ordTo t k).map Int.ofNat
theorem ordI_len (t : Nat → Nat) (k : Nat) : (ordI t k).length = (ordTo t k).length := by simp [ordI]
theorem tabSize : (Tryz.prog.info? 107).map (·.size) = some 48 := by kernel_rfl
theorem cntZero : (#[.int .i64 0, .int .i64 0, .int .i64 0, .int .i64 0, .int .i64 0, .int .i64 0, .int .i64 0, .int .i64 0, .int .i64 0, .int .i64 0, .int .i64 0, .int .i64 0, .int .i64 0, .int .i64 0, .int .i64 0, .int .i64 0, .int .i64 0, .int .i64 0, .int .i64 0, .int .i64 0, .int .i64 0, .int .i64 0, .int .i64 0, .int .i64 0, .int .i64 0, .int .i64 0, .int .i64 0, .int .i64 0, .int .i64 0, .int .i64 0, .int .i64 0, .int .i64 0, .int .i64 0] : Array Value) = irow (cntL []) := by kernel_rfl
theorem tabZero : (#[.int .i64 0, .int .i64 0, .int .i64 0, .int .i64 0, .int .i64 0, .int .i64 0, .int .i64 0, .int .i64 0, .int .i64 0, .int .i64 0, .int .i64 0, .int .i64 0, .int .i64 0, .int .i64 0, .int .i64 0, .int .i64 0, .int .i64 0, .int .i64 0, .int .i64 0, .int .i64 0, .int .i64 0, .int .i64 0, .int .i64 0, .int .i64 0, .int .i64 0, .int .i64 0, .int .i64 0, .int .i64 0, .int .i64 0, .int .i64 0, .int .i64 0, .int .i64 0, .int .i64 0, .int .i64 0, .int .i64 0, .int .i64 0, .int .i64 0, .int .i64 0, .int .i64 0, .int .i64 0, .int .i64 0, .int .i64 0, .int .i64 0, .int .i64 0, .int .i64 0, .int .i64 0, .int .i64 0, .int .i64 0] : Array Value) = tabR (fun _ => 0) := by kernel_rfl
structure InW (w wr : World) (t : Nat → Nat) (k : Nat) (v : Value) : Prop where
 ts : wr.heap[w.heap.size]? = some (.cells (tabR (inOTo t k)) 107)
 res : wr.heap[w.heap.size + 1]? = some (.cells (tabR (fun _ => 0)) 107)
 cnt : wr.heap[w.heap.size + 1 + 1]? = some (.cells (irow (cntL (ordTo t k))) 201)
 own : wr.ownsRow (w.heap.size + 3) 3 1 v (ordI t k).length (ivs (ordI t k))
 bel : Below w.heap.size w wr
section
variable {w wr : World} {t : Nat → Nat} {k : Nat} {v : Value}
theorem InW.tcell (h : InW w wr t k v) {i : Nat} (hi : i < 48) : wr.cell? ⟨w.heap.size, i, none⟩ = some (.int .i64 (inOTo t k i : Nat)) := irow_cell h.ts (tabL_get _ hi)
theorem InW.ccell (h : InW w wr t k v) {q : Nat} (hq : q < 33) : wr.cell? ⟨w.heap.size + 1 + 1, q, none⟩ = some (.int .i64 (cn (ordTo t k) q : Nat)) := irow_cell h.cnt (cntL_get _ hq)
theorem InW.drew (h : InW w wr t k v) : InW w wr.drew t k v := ⟨h.ts, h.res, h.cnt, ownsRow_at h.own (fun g _ => rfl), h.bel.drew⟩
theorem InW.lt (h : InW w wr t k v) : w.heap.size + 1 + 1 < wr.heap.size := lt_of_heap h.cnt
theorem inOTo_step (t : Nat → Nat) (k i : Nat) : inOTo t (k + 1) i = if i = k then inO t k else inOTo t k i := by
 unfold inOTo
 by_cases e : i = k
 ·subst e
  rw [if_pos (by omega), if_pos rfl]
 ·rw [if_neg e]
  by_cases h : i < k
  ·rw [if_pos h, if_pos (by omega)]
  ·rw [if_neg h, if_neg (by omega)]
theorem set_row {W : World} {g : Nat} {L M : List Int} {T : TypeId} {i : Nat} {x : Int} (h : W.heap[g]? = some (.cells (irow L) T)) (hs : L.set i x = M) : (W.setCell ⟨g, i, none⟩ (.int .i64 x)).heap[g]? = some (.cells (irow M) T) := by
 rw [setCell_eq_setRow W g _ _ _ _ _ h, setRow_heap W g _ _ _ _ h, irow_set, hs]
theorem InW.known (h : InW w wr t k v) (hk : k < 48) (hq : t k = 0 ∨ t k ∈ ordTo t k) : InW w (wr.setCell ⟨w.heap.size, k, none⟩ (.int .i64 (cn (ordTo t k) (t k) : Nat))) t (k + 1) v := by
 have he : ordTo t (k + 1) = ordTo t k := by
  rw [ordTo_succ, if_neg];rintro ⟨q1, q2⟩
  rcases hq with q | q
  ·exact q1 q
  ·exact q2 q
 have hi : inO t k = cn (ordTo t k) (t k) := by
  unfold inO;exact ordTo_ord (by omega) hq
 have hE : ordI t (k + 1) = ordI t k := by unfold ordI; rw [he]
 have hlow := ownsRow_low h.own;refine ⟨set_row h.ts (tabL_set _ _ _ _ (fun i _ => by rw [inOTo_step, hi])), ?_, ?_, ?_, ?_⟩
 ·rw [Below.heap_setCell _ _ _ _ (by show w.heap.size + 1 ≠ w.heap.size; omega)]
  exact h.res
 ·rw [Below.heap_setCell _ _ _ _ (by show w.heap.size + 1 + 1 ≠ w.heap.size; omega), he]
  exact h.cnt
 ·rw [hE]
  refine ownsRow_at h.own (fun g hg => Below.heap_setCell _ _ _ _ ?_);have := hlow g hg
  show g ≠ w.heap.size
  omega
 ·exact h.bel.setCell (p := ⟨w.heap.size, k, none⟩) (Nat.le_refl _) _
theorem InW.new (h : InW w wr t k v) (hk : k < 48) (h0 : t k ≠ 0) (hq : t k ∉ ordTo t k) {w2 : World} {v2 : Value} (hb : Below w.heap.size w w2) (hkeep : ∀ g, g ≤ w.heap.size + 1 + 1 → w2.heap[g]? = wr.heap[g]?)
  (ho : w2.ownsRow (w.heap.size + 3) 3 1 v2 (ordI t (k + 1)).length (ivs (ordI t (k + 1)))) :
  InW w ((w2.setCell ⟨w.heap.size + 1 + 1, t k, none⟩ (.int .i64 (((ordTo t k).length + 1 : Nat) : Int))).setCell ⟨w.heap.size, k, none⟩ (.int .i64 (((ordTo t k).length + 1 : Nat) : Int))) t (k + 1) v2 := by
 have he : ordTo t (k + 1) = ordTo t k ++ [t k] := by rw [ordTo_succ, if_pos ⟨h0, hq⟩]
 have hm : t k ∈ ordTo t (k + 1) := by rw [he]; simp
 have hi : inO t k = (ordTo t k).length + 1 := by
  unfold inO;rw [ordTo_ord (k := k + 1) (by omega) (Or.inr hm), he, cn_snoc h0 hq, if_pos rfl]
 have hlow := ownsRow_low ho;refine ⟨?_, ?_, ?_, ?_, ?_⟩
 ·refine set_row (L := tabL (inOTo t k)) ?_ (tabL_set _ _ _ _ (fun i _ => by rw [inOTo_step, hi]))
  rw [Below.heap_setCell _ _ _ _ (by show w.heap.size ≠ w.heap.size + 1 + 1; omega), hkeep _ (by omega)];exact h.ts
 ·rw [Below.heap_setCell _ _ _ _ (by show w.heap.size + 1 ≠ w.heap.size; omega), Below.heap_setCell _ _ _ _ (by show w.heap.size + 1 ≠ w.heap.size + 1 + 1; omega), hkeep _ (by omega)]
  exact h.res
 ·rw [Below.heap_setCell _ _ _ _ (by show w.heap.size + 1 + 1 ≠ w.heap.size; omega), he]
  refine set_row ?_ (cntL_set h0 hq);rw [hkeep _ (by omega)];exact h.cnt
 ·refine ownsRow_at (ownsRow_at ho (fun g hg => Below.heap_setCell _ _ _ _ ?_)) (fun g hg => Below.heap_setCell _ _ _ _ ?_)
  ·have := hlow g hg
   show g ≠ w.heap.size + 1 + 1
   omega
  ·have := hlow g hg
   show g ≠ w.heap.size
   omega
 ·exact (hb.setCell (p := ⟨w.heap.size + 1 + 1, t k, none⟩) (by show w.heap.size ≤ w.heap.size + 1 + 1; omega) _).setCell (p := ⟨w.heap.size, k, none⟩) (Nat.le_refl _) _
end
def six (t : Nat → Nat) (p : Nat) : List Value := (List.range 6).map (fun j => Value.int .i64 (t (p * 6 + j) : Nat))
theorem six_get (t : Nat → Nat) (p : Nat) {j : Nat} (hj : j < 6) : (six t p)[j]? = some (.int .i64 (t (p * 6 + j) : Nat)) := by simp [six, hj]
theorem six_index (t : Nat → Nat) (p j : Nat) (hj : j < 6) (W : World) : (Instr.index 105 (.agg (six t p).toArray) (.int .i64 j)).run Tryz.prog W = .ok (.int .i64 (t (p * 6 + j) : Nat)) W := by
 have h1 : (six t p).toArray[j]? = some (.int .i64 (t (p * 6 + j) : Nat)) := by simpa using six_get t p hj
 have hs : (sizeOf 3).run Tryz.prog W = .ok 1 W := by kernel_rfl
 have ha : (isAgg 3).run Tryz.prog W = .ok false W := by kernel_rfl
 have hi : 0 ≤ (j : Int) ∧ (j : Int) < (6 : Nat) := by omega
 simp only [Instr.index, Sem.run_bind, asIntOf, Sem.run_pure, Result.andThen_ok, run_underlying Tryz.underlying105, if_pos hi, hs, part, ha, Bool.false_eq_true, if_false, Int.toNat_natCast, Nat.mul_one, h1]
theorem InW.six {w wr : World} {t : Nat → Nat} {p : Nat} {v : Value} (h : InW w wr t (p * 6) v) (hp : p < 8) : wr.rangeAt w.heap.size (p * 6) (Go.Proofs.YtinaeifpoljfoaaGreatDoor.Fd.six t p) := by
 intro j u hu
 have hj : j < 6 := by have := (List.getElem?_eq_some_iff.1 hu).1; simpa [Go.Proofs.YtinaeifpoljfoaaGreatDoor.Fd.six] using this
 rw [six_get t p hj] at hu;rw [h.tcell (i := p * 6 + j) (by omega), ← hu];unfold inOTo;rw [if_neg (by omega)]
theorem results_cellrow_tmp {P : Program} {fn : Func} {p u : Tmp} {ty : TypeId} (h : fn.results = #[.cell p ty, .tmp u]) (tmps : Array Value) (w : World) (g : Nat) (t : TypeId) (cs : Array Value) (fr : Nat × Nat) (d : TypeDesc)
  (hp : tmps.getD p undef = .pointer (some ⟨g, 0, none⟩)) (hg : w.heap[g]? = some (.cells cs t fr))
  (hu : P.underlying ty = some d) (hd : (match d with | .struct _ | .array _ _ => true | _ => false) = true) (hi : (P.info? ty).map (·.size) = some cs.size) :
  (results fn tmps).run P w = .ok (.tuple #[.agg cs, tmps.getD u undef]) w := by
 rw [results_cell_tmp h];rw [hp];simp only [asAddr, Sem.run_pure, Result.andThen_ok, run_loadVar_row w g t ty cs fr d hg hu hd hi]
theorem inw_start (w : World) (t : Nat → Nat) : InW w (((w.alloc (.cells (tabR t) 107)).alloc (.cells (tabR (fun _ => 0)) 107)).alloc (.cells (irow (cntL [])) 201)) t 0 (.slice none 0 0) := by
 have e : inOTo t 0 = t := by
  funext i
  unfold inOTo;rw [if_neg (by omega)]
 refine ⟨?_, ?_, ?_, World.ownsRow_nil _ _ _ _, (below_alloc2 w _ _).trans ((below_alloc _ _).mono (by simp; omega))⟩
 ·rw [Below.heap_alloc _ _ _ (by simp; omega), Below.heap_alloc _ _ _ (by simp), e]
  exact heap_alloc_new _ _
 ·rw [Below.heap_alloc _ _ _ (by simp)]
  have := heap_alloc_new (w.alloc (.cells (tabR t) 107)) (.cells (tabR (fun _ => 0)) 107)
  simpa using this
 ·have := heap_alloc_new ((w.alloc (.cells (tabR t) 107)).alloc (.cells (tabR (fun _ => 0)) 107)) (.cells (irow (cntL [])) 201)
  rw [World.size_alloc, World.size_alloc] at this;exact this
theorem inOrder_at (t : Nat → Nat) (ht : ∀ k, k < 48 → t k ≤ 32) (w : World) :
  Calls Tryz.prog 41 #[.agg (tabR t)] w fun e w' => ∃ v, e = .returned (.tuple #[.agg (tabR (inO t)), v]) ∧ w'.ownsRow w.heap.size 3 1 v (ordI t 48).length (ivs (ordI t 48)) ∧ Below w.heap.size w w' := by
 obtain ⟨i0, hi0, hzz⟩ := Option.map_eq_some_iff.1 intInfo;simp only [Prod.mk.injEq] at hzz;obtain ⟨hz0, hz1, hz2⟩ := hzz;have HW : Hid _ := inw_start w t;have HT := hid ht;clear ht
 go_enter Tryz.func41, Tryz.ntmps41
 go_wp2;rw [tabZero, cntZero];generalize ((w.alloc (.cells (tabR t) 107)).alloc (.cells (tabR (fun _ => 0)) 107)).alloc (.cells (irow (cntL [])) 201) = W at *
 go_loopw [5, 9] (fun s i wr => ∃ (p : Nat) (v : Value), p ≤ 8 ∧ i = .int .i64 p ∧ v = s ∧ InW w wr t (p * 6) v) (fun _ i _ => 8 - (intOf i).toNat)
 case atStart => exact ⟨0, _, by omega, rfl, rfl, HW.out⟩
 case round =>
  clear HW;obtain ⟨p, v, hp, rfl, rfl, hW⟩ := hrel;have HW := hid hW
  by_cases hlt : p < 8
  ·have HR : Hid (wr.rangeAt w.heap.size (p * 6) (six t p)) := hW.six hlt
   have i1 : decide ((p : Int) < 8) = true := decide_eq_true (by omega)
   have hpi : (p : Int) < 8 := by omega
   have hs6 : (six t p).length = 6 := by simp [six]
   clear hW
   go_wp2_with (first | (refine wpList_load_mid rfl 105 _ rfl w.heap.size (p * 6) rfl (six t p) _ HR.out Tryz.underlying105 rfl (by rw [hs6]; kernel_rfl) ?_) | go_in)
   clear HR hs6
   go_loopw [5, 15] (fun s i wr => ∃ (j : Nat) (v : Value), j ≤ 6 ∧ i = .int .i64 j ∧ v = s ∧ InW w wr t (p * 6 + j) v) (fun _ i _ => 6 - (intOf i).toNat)
   case atStart => exact ⟨0, _, by omega, rfl, rfl, HW.out⟩
   case round =>
    clear HW;obtain ⟨j, v, hj, rfl, rfl, hW⟩ := hrel;have HW := hid hW
    by_cases hlj : j < 6
    ·have i2 : decide ((j : Int) < 6) = true := decide_eq_true (by omega)
     have hji : (j : Int) < 6 := by omega
     have hix := six_index t p j hlj;have hq32 := HT.out (p * 6 + j) (by omega);have cc := hW.ccell (q := t (p * 6 + j)) (by omega);have dc := hW.drew.ccell (q := t (p * 6 + j)) (by omega);have ct := hW.tcell (i := p * 6 + j) (by omega);have dt := hW.drew.tcell (i := p * 6 + j) (by omega);have ft : wr.frozen? ⟨w.heap.size, p * 6 + j, none⟩ = false := frozen_of_heap hW.ts;have dft : wr.drew.frozen? ⟨w.heap.size, p * 6 + j, none⟩ = false := frozen_of_heap hW.ts;have fc : wr.frozen? ⟨w.heap.size + 1 + 1, t (p * 6 + j), none⟩ = false := frozen_of_heap hW.cnt;have hll := hW.lt
     by_cases hq : t (p * 6 + j) = 0 ∨ t (p * 6 + j) ∈ ordTo t (p * 6 + j)
     ·have HK : Hid _ := hW.known (by omega) hq
      obtain ⟨c, hc⟩ : ∃ c, c = cn (ordTo t (p * 6 + j)) (t (p * 6 + j)) := ⟨_, rfl⟩;rw [← hc] at cc dc HK
      by_cases hq0 : t (p * 6 + j) = 0
      ·rw [hq0] at cc dc hix fc
       clear hc hq0 hq hW hq32;generalize inOTo t (p * 6 + j) (p * 6 + j) = x at ct dt
       go_wp2_with fail
       go_region
       all_goals
        go_wp2;go_roundw
        case rel => exact ⟨j + 1, v, by omega, by go_num, rfl, HK.out.drew⟩
        case measure => simp [intOf]; omega
      ·have hc1 : 1 ≤ c := by
        rcases hq with q | q
        ·exact absurd q hq0
        ·rw [hc]
         unfold cn;rw [if_neg hq0, if_pos q];omega
       generalize inOTo t (p * 6 + j) (p * 6 + j) = x at ct dt;generalize hqq : t (p * 6 + j) = q at *
       have g1 : ((q : Int) != 0) = true := by simp; omega
       have g2 : ((c : Int) == 0) = false := beq_false_of_ne (by omega)
       have hqi : (q : Int) < 33 := by omega
       clear hc hq0 hq hW hqq
       go_wp2_with fail
       go_region
       all_goals
        go_wp2;go_roundw
        case rel => exact ⟨j + 1, v, by omega, by go_num, rfl, HK.out.drew⟩
        case measure => simp [intOf]; omega
     ·have h0 : t (p * 6 + j) ≠ 0 := fun e => hq (Or.inl e)
      have hn : t (p * 6 + j) ∉ ordTo t (p * 6 + j) := fun e => hq (Or.inr e)
      have hc0 : cn (ordTo t (p * 6 + j)) (t (p * 6 + j)) = 0 := by
       unfold cn;rw [if_neg h0, if_neg hn]
      rw [hc0] at cc dc;have hol := ordTo_len t (p * 6 + j)
      have HOI : Hid (ordI t (p * 6 + j + 1) = ordI t (p * 6 + j) ++ [(t (p * 6 + j) : Int)]) := by
       show _ = _
       unfold ordI;rw [ordTo_succ, if_pos ⟨h0, hn⟩, List.map_append]
       rfl
      have hIl := ordI_len t (p * 6 + j)
      have HO : Hid (wr.ownsRow (w.heap.size + 3) 3 1 v (ordTo t (p * 6 + j)).length (ivs (ordI t (p * 6 + j)))) := by rw [← hIl]; exact hW.own
      have HIl := hid hIl;have hlow := ownsRow_low hW.own
      have HNw : Hid (∀ (w2 : World) (v2 : Value), Below w.heap.size w w2 → (∀ g, g ≤ w.heap.size + 1 + 1 → w2.heap[g]? = wr.heap[g]?) → w2.ownsRow (w.heap.size + 3) 3 1 v2 (ordI t (p * 6 + j + 1)).length (ivs (ordI t (p * 6 + j + 1))) → InW w ((w2.setCell ⟨w.heap.size + 1 + 1, t (p * 6 + j), none⟩ (.int .i64 (((ordTo t (p * 6 + j)).length + 1 : Nat) : Int))).setCell ⟨w.heap.size, p * 6 + j, none⟩ (.int .i64 (((ordTo t (p * 6 + j)).length + 1 : Nat) : Int))) t (p * 6 + j + 1) v2) :=
       fun w2 v2 hb hk ho => hW.new (by omega) h0 hn hb hk ho
      have HBl : Hid (Below w.heap.size w wr) := hW.bel;generalize inOTo t (p * 6 + j) (p * 6 + j) = x at ct dt;generalize (ordTo t (p * 6 + j)).length = ol at *;generalize ordI t (p * 6 + j) = D at *;generalize ordI t (p * 6 + j + 1) = D1 at *;generalize hqq : t (p * 6 + j) = q at *
      have g1 : ((q : Int) != 0) = true := by simp; omega
      have hqi : (q : Int) < 33 := by omega
      clear hc0 hq hW hqq h0 hn dc dt dft hIl
      go_wp2_with (at_builtin; refine wpList_append_lies _ rfl _ _ _ rfl (w.heap.size + 3) 3 i0 _ 1 8 Tryz.underlying50 hi0 hz0 hz1 hz2 rfl (by omega) v ol (ivs D) rfl (World.ownsRow.alloc HO.out _) ⟨wr.heap.size, 0, none⟩ 1 1 [.int .i64 q] rfl rfl (World.news_of_block (cs := #[.int .i64 q]) (t := 3) (fr := (0, 0)) (heap_alloc_new _ _)) (by simp [Value.oneCell']) (by omega) (by unfold maxLen; omega) (by omega) (by simp; omega) _ rfl ?_; intro gg capx w2 hown2 hgrow hat hlt2; have hkp : ∀ g, g ≤ w.heap.size + 1 + 1 → w2.heap[g]? = wr.heap[g]? := (fun g hg => ((hgrow.block g (by simp; omega) (fun e => by have := hlow g e.symm; omega)).trans (Below.heap_alloc _ _ _ (by omega)))); have kc : w2.cell? ⟨w.heap.size + 1 + 1, q, none⟩ = some (.int .i64 (0 : Nat)) := (cell_same cc (hkp _ (Nat.le_refl _))); have kt : w2.cell? ⟨w.heap.size, p * 6 + j, none⟩ = some (.int .i64 (x : Nat)) := (cell_same ct (hkp _ (by show w.heap.size ≤ _; omega))); have kfc : w2.frozen? ⟨w.heap.size + 1 + 1, q, none⟩ = false := (by unfold World.frozen? at *; rw [hkp _ (Nat.le_refl _)]; exact fc); have kft : w2.frozen? ⟨w.heap.size, p * 6 + j, none⟩ = false := (by unfold World.frozen? at *; rw [hkp _ (by show w.heap.size ≤ _; omega)]; exact ft))
      go_region
      all_goals
       go_wp2;go_roundw
       case rel =>
        have hb2 : Below w.heap.size w w2 := (HBl.out.alloc (by omega) _).trans (below_grown hgrow (by simp; omega) (fun g hg => by have := hlow g hg; omega))
        have ho2 : w2.ownsRow (w.heap.size + 3) 3 1 (.slice (some ⟨gg, 0, none⟩) (ol + 1) capx) D1.length (ivs D1) := by
         rw [HOI.out, ivs_app, List.length_append, HIl.out];exact hown2
        exact ⟨j + 1, _, by omega, by go_num, rfl, (HNw.out w2 _ hb2 hkp ho2).drew⟩
       case measure => simp [intOf]; omega
    ·obtain rfl : j = 6 := by omega
     clear hW;go_wp2;go_roundw
     case rel => exact ⟨p + 1, v, by omega, by go_num, rfl, by rw [show (p + 1) * 6 = p * 6 + 6 by omega]; exact HW.out⟩
     case measure => simp [intOf]; omega
  ·obtain rfl : p = 8 := by omega
   have HTs : Hid (wr.heap[w.heap.size]? = some (.cells (tabR (inO t)) 107)) := by
    have e : tabR (inOTo t (8 * 6)) = tabR (inO t) := by
     have e2 : tabL (inOTo t (8 * 6)) = tabL (inO t) := by
      unfold tabL
      apply List.map_congr_left
      intro i hi
      have : i < 48 := by simpa using hi
      unfold inOTo;rw [if_pos (by omega)]
     unfold tabR;rw [e2]
    rw [← e];exact hW.ts
   have HRs : Hid (wr.heap[w.heap.size + 1]? = some (.cells (tabR (fun _ => 0)) 107 (0, 0))) := hW.res;have HOw : Hid (wr.ownsRow (w.heap.size + 3) 3 1 v (ordI t 48).length (ivs (ordI t 48))) := hW.own;have HBl : Hid (Below w.heap.size w wr) := hW.bel;have hsz := tabR_size (inO t);have HSz := hid hsz
   have HOn : Hid ((tabR (inO t)).all (·.oneCell') = true) := by
    show (tabR (inO t)).all (·.oneCell') = true
    unfold tabR irow;simp [Value.oneCell']
   generalize hRq : tabR (inO t) = R at *;have HRq := hid hRq;clear hRq;clear hW HW hsz
   go_wp2_with (first
     | (refine wpList_load_row rfl 107 _ rfl w.heap.size rfl 107 R (0, 0) _ HTs.out Tryz.underlying107 rfl (by rw [HSz.out]; exact tabSize) ?_)
     | (refine wpList_store_row rfl 107 _ _ rfl (w.heap.size + 1) R rfl rfl 107 _ HRs.out (by rw [HSz.out]; exact tabSize) (by rw [HSz.out]; exact tabR_size _) HOn.out ?_))
   (try simp only [Exit.inBlock, Exit.then])
   have hg2 : (wr.setRow (w.heap.size + 1) R).heap[w.heap.size + 1]? = some (.cells R 107) := setRow_heap wr _ _ _ _ _ HRs.out;refine bodyPost_ret (results_cellrow_tmp rfl _ _ (w.heap.size + 1) 107 R (0, 0) _ rfl hg2 Tryz.underlying107 rfl (by rw [HSz.out]; exact tabSize)) rfl ?_;refine ⟨v, by rw [HRq.out]; rfl, ?_, HBl.out.trans ((Upd.setRow (w.heap.size + 1) wr R).below (by omega) HBl.out.size)⟩;have hlow := ownsRow_low HOw.out;refine ownsRow_at (w := wr) ?_ (fun g hg => setRow_other wr _ g _ ?_)
   ·refine ⟨HOw.out.1, ?_⟩
    rcases HOw.out.2 with h2 | ⟨g, cap, cur, h2, h3, r⟩
    ·exact Or.inl h2
    ·exact Or.inr ⟨g, cap, cur, h2, by omega, r⟩
   ·have := hlow g hg
    omega
end Fd
namespace Ow
end Ow
namespace Fd
open Ow
structure Fit (x : Fl) : Prop where
 k1 : 1 ≤ x.kind
 k2 : x.kind ≤ 4
 i1 : 0 ≤ x.id
 i2 : x.id ≤ 1048576
 o1 : 0 ≤ x.off
 o2 : x.off ≤ 1048576
theorem own_far {w : World} {B1 B2 : Nat} {e1 e2 : TypeId} {s1 s2 n1 n2 : Nat} {v1 v2 : Value} {x1 x2 : List Value} (h1 : w.ownsRow B1 e1 s1 v1 n1 x1) (h2 : w.ownsRow B2 e2 s2 v2 n2 x2) (hne : e1 ≠ e2) {g : Nat} (hg : v1.ownBlock = some g) : some g ≠ v2.ownBlock := by
 intro e;obtain ⟨c1, k1⟩ := own_type h1 hg;obtain ⟨c2, k2⟩ := own_type h2 e.symm;rw [k1] at k2;simp only [Option.some.injEq, Obj.cells.injEq] at k2;exact hne k2.2.1
theorem own_grown {w w' : World} {B1 B2 : Nat} {e1 e2 : TypeId} {s1 s2 n1 n2 : Nat} {v1 v2 : Value} {x1 x2 : List Value} (h1 : w.ownsRow B1 e1 s1 v1 n1 x1) (h2 : w.ownsRow B2 e2 s2 v2 n2 x2) (hne : e1 ≠ e2) (hg : w.grownBy w' v2.ownBlock) : w'.ownsRow B1 e1 s1 v1 n1 x1 :=
 ownsRow_at h1 (fun g hq => hg.block g (h1.lt g hq).2 (own_far h1 h2 hne hq))
theorem appendFile_at (B : Nat) (v : Value) (D : List Int) (x : Fl) (w : World) (hB : B ≤ w.heap.size) (hD : D.length ≤ 1000) (ho : w.ownsRow B 45 1 v D.length (uvs D)) (hx : Fit x) :
  Calls Tryz.prog 56 #[v, .agg x.row] w fun e w' => ∃ v', e = .returned v' ∧ w'.ownsRow B 45 1 v' (D ++ flW x).length (uvs (D ++ flW x)) ∧ w.grownBy w' v.ownBlock := by
 obtain ⟨i0, hi0, hzz⟩ := Option.map_eq_some_iff.1 wordInfo;simp only [Prod.mk.injEq] at hzz;obtain ⟨hz0, hz1, hz2⟩ := hzz;obtain ⟨xk, xi, xo, xa, xr⟩ := x;obtain ⟨k1, k2, i1, i2, o1, o2⟩ := hx;dsimp only at k1 k2 i1 i2 o1 o2;have HO := hid ho;clear ho;unfold Fl.row;dsimp only;generalize hDl : D.length = dl at *;have HDl := hid hDl;clear hDl
 cases xa with
 | true =>
  go_enter Tryz.func56, Tryz.ntmps56
  go_wp2_with (at_builtin; refine wpList_append_lies _ rfl _ _ _ rfl B 45 i0 _ 1 8 Tryz.underlying22 hi0 hz0 hz1 hz2 rfl (by omega) v dl (uvs D) rfl (World.ownsRow.alloc (World.ownsRow.alloc HO.out _) _) ⟨w.heap.size + 1, 0, none⟩ 4 4 [.int .u64 xk, .int .u64 xi, .int .u64 xo, .int .u64 1] rfl rfl (World.news_of_block (cs := #[.int .u64 xk, .int .u64 xi, .int .u64 xo, .int .u64 1]) (t := 45) (fr := (0, 0)) (by have := heap_alloc_new (w.alloc (.cells #[.int .i64 xk, .int .i64 xi, .int .i64 xo, .bool true, .int .i64 xr] 102)) (.cells #[.int .u64 xk, .int .u64 xi, .int .u64 xo, .int .u64 1] 45); simpa using this)) (by simp [Value.oneCell']) (by omega) (by unfold maxLen; omega) (by omega) (by simp; omega) _ rfl ?_; intro gg capx w2 hown2 hgrow hat hlt2)
  go_ret;refine ⟨_, rfl, ?_, grown_trans (grown_below _ (below_alloc2 _ _ _)) hgrow⟩;rw [List.length_append, uvs_app, HDl.out];exact hown2
 | false =>
  go_enter Tryz.func56, Tryz.ntmps56
  go_wp2_with (at_builtin; refine wpList_append_lies _ rfl _ _ _ rfl B 45 i0 _ 1 8 Tryz.underlying22 hi0 hz0 hz1 hz2 rfl (by omega) v dl (uvs D) rfl (World.ownsRow.alloc (World.ownsRow.alloc HO.out _) _) ⟨w.heap.size + 1, 0, none⟩ 4 4 [.int .u64 xk, .int .u64 xi, .int .u64 xo, .int .u64 0] rfl rfl (World.news_of_block (cs := #[.int .u64 xk, .int .u64 xi, .int .u64 xo, .int .u64 0]) (t := 45) (fr := (0, 0)) (by have := heap_alloc_new (w.alloc (.cells #[.int .i64 xk, .int .i64 xi, .int .i64 xo, .bool false, .int .i64 xr] 102)) (.cells #[.int .u64 xk, .int .u64 xi, .int .u64 xo, .int .u64 0] 45); simpa using this)) (by simp [Value.oneCell']) (by omega) (by unfold maxLen; omega) (by omega) (by simp; omega) _ rfl ?_; intro gg capx w2 hown2 hgrow hat hlt2)
  go_ret;refine ⟨_, rfl, ?_, grown_trans (grown_below _ (below_alloc2 _ _ _)) hgrow⟩;rw [List.length_append, uvs_app, HDl.out];exact hown2
theorem FdAt.trange {w : World} {b : Nat} {S : FS} (h : FdAt w b S) : w.rangeAt b 160 (ivs (tabL S.t)) := by
 intro j u hu
 have hj : j < 48 := by have := (List.getElem?_eq_some_iff.1 hu).1; rwa [ivs_len, tabL_len] at this
 have : (ivs (tabL S.t))[j]? = some (.int .i64 (S.t j : Nat)) := by simp [ivs, tabL, hj]
 rw [this] at hu;rw [h.tcell hj rfl];exact hu
theorem tab_index (g : Nat → Nat) (p : Nat) (hp : p < 8) (W : World) : (Instr.index 107 (.agg (tabR g)) (.int .i64 p)).run Tryz.prog W = .ok (.agg (six g p).toArray) W := by
 have h1 : (tabR g).extract (p * 6) (p * 6 + 6) = (six g p).toArray := by
  apply Array.ext
  ·simp [tabR_size, six]; omega
  ·intro i h1 h2
   have hi : i < 6 := by simpa [six] using h2
   rw [Array.getElem_extract];simp [tabR, irow, tabL, six]
 have hs : (sizeOf 105).run Tryz.prog W = .ok 6 W := by kernel_rfl
 have ha : (isAgg 105).run Tryz.prog W = .ok true W := by kernel_rfl
 have hi : 0 ≤ (p : Int) ∧ (p : Int) < (8 : Nat) := by omega
 simp only [Instr.index, Sem.run_bind, asIntOf, Sem.run_pure, Result.andThen_ok, run_underlying Tryz.underlying107, if_pos hi, hs, part, ha, if_true, Int.toNat_natCast, h1]
def encHk (S : FS) (k : Nat) : List Int := ((ord S.t).length : Int) :: ((ord S.t).take k).flatMap (fun q => flW (S.f (q - 1)))
theorem encHk_all (S : FS) : encHk S (ord S.t).length = encH S := by unfold encHk encH; rw [List.take_length]
theorem encHk_succ (S : FS) (k q : Nat) (h : (ord S.t)[k]? = some q) : encHk S (k + 1) = encHk S k ++ flW (S.f (q - 1)) := by
 obtain ⟨hl, he⟩ := List.getElem?_eq_some_iff.1 h;unfold encHk;rw [List.take_succ_eq_append_getElem hl, List.flatMap_append, he];simp
theorem encHk_len (S : FS) (k : Nat) : (encHk S k).length ≤ 1 + 48 * 4 := by
 unfold encHk;rw [List.length_cons, flat_len, List.length_take];have := ord_len48 S.t;omega
theorem own_one {w : World} (B : Nat) (x : Int) (hB : B ≤ w.heap.size) : (w.alloc (.cells #[.int .u64 x] 45)).ownsRow B 45 1 (.slice (some ⟨w.heap.size, 0, none⟩) 1 1) 1 (uvs [x]) := by
 exact ⟨by simp [uvs], Or.inr ⟨w.heap.size, 1, #[.int .u64 x], rfl, hB, heap_alloc_new _ _, Nat.le_refl _, by unfold maxLen; omega, by simp, by simp [uvs]⟩⟩
theorem tabOne (g : Nat → Nat) : (tabR g).all (·.oneCell') = true := by
 unfold tabR irow;simp [Value.oneCell']
theorem sixSize : (Tryz.prog.info? 105).map (·.size) = some 6 := by kernel_rfl
theorem sixOne (g : Nat → Nat) (p : Nat) : (six g p).toArray.all (·.oneCell') = true := by
 unfold six;simp [Value.oneCell']
theorem ordI_get {t : Nat → Nat} {k q : Nat} (h : (ord t)[k]? = some q) : (ordI t 48)[k]? = some (q : Int) := by
 unfold ordI;rw [List.getElem?_map]
 show Option.map _ (ord t)[k]? = _
 rw [h]
 rfl
def FitS (S : FS) : Prop := ∀ p, p < 32 → (S.f p).refs ≠ 0 → Fit (S.f p)
theorem fit_ord {S : FS} (hI : Inv S) (hF : FitS S) {k q : Nat} (h : (ord S.t)[k]? = some q) : 1 ≤ q ∧ q - 1 < 32 ∧ Fit (S.f (q - 1)) := by
 have hm := List.mem_of_getElem? h;rw [mem_ord] at hm;obtain ⟨h0, i, hi, e⟩ := hm;have h3 := hI.pos hi (by omega);rw [e] at h3;exact ⟨by omega, h3.1, hF _ h3.1 (by omega)⟩
structure EnW (w wr : World) (S : FS) (G : Nat) (v1 v : Value) (D : List Int) : Prop where
 tab : wr.heap[G]? = some (.cells (tabR (inO S.t)) 107)
 ints : wr.ownsRow w.heap.size 3 1 v1 (ordI S.t 48).length (ivs (ordI S.t 48))
 own : wr.ownsRow w.heap.size 45 1 v D.length (uvs D)
 bel : Below w.heap.size w wr
theorem EnW.grown {w wr w2 : World} {S : FS} {G : Nat} {v1 v v2 : Value} {D E : List Int} (h : EnW w wr S G v1 v D) (hg : wr.grownBy w2 v.ownBlock) (ho : w2.ownsRow w.heap.size 45 1 v2 E.length (uvs E)) : EnW w w2 S G v1 v2 E := by
 refine ⟨?_, own_grown h.ints h.own (by decide) hg, ho, h.bel.trans (below_grown hg h.bel.size (ownsRow_low h.own))⟩;rw [hg.block G (lt_of_heap h.tab) (fun e => ?_)]
 ·exact h.tab
 ·obtain ⟨c2, k2⟩ := own_type h.own e.symm
  rw [h.tab] at k2;simp only [Option.some.injEq, Obj.cells.injEq] at k2;exact absurd k2.2.1 (by decide)
theorem encode_at (b : Nat) (S : FS) (w : World) (h : FdAt w b S) (hI : Inv S) (hF : FitS S) :
  Calls Tryz.prog 23 #[.pointer (some ⟨b, 0, none⟩)] w fun e w' => ∃ v, e = .returned v ∧ w'.ownsRow w.heap.size 45 1 v (encW S).length (uvs (encW S)) ∧ Below w.heap.size w w' := by
 obtain ⟨i0, hi0, hzz⟩ := Option.map_eq_some_iff.1 wordInfo;simp only [Prod.mk.injEq] at hzz;obtain ⟨hz0, hz1, hz2⟩ := hzz;have hne := ptr_eq b;have HL : Hid (w.rangeAt b 160 (ivs (tabL S.t))) := h.trange;have hIO := inOrder_at S.t hI.name w;have HH := hid h;have HI := hid hI;have HF := hid hF
 have hll : (ivs (tabL S.t)).length = 48 := by rw [ivs_len, tabL_len]
 have hol := ord_len48 S.t;have HOL : Hid ((ordI S.t 48).length = (ord S.t).length) := ordI_len S.t 48;clear h hI hF
 go_enter Tryz.func23, Tryz.ntmps23
 go_wp2_with (refine wpList_load_mid rfl 107 _ rfl b 160 rfl (ivs (tabL S.t)) _ HL.out Tryz.underlying107 rfl (by rw [hll]; exact tabSize) ?_)
 refine hIO.mono ?_;rintro e w1 ⟨v1, rfl, hown1, hb1⟩;rw [HOL.out] at hown1;have HO1 := hid hown1;obtain ⟨a1, c1, rfl⟩ := own_slice hown1;have HB1 := hid hb1;have hs1 := hb1.size;have HSz : Hid ((tabR (inO S.t)).size = 48) := tabR_size _;clear hIO HL hown1 hb1 hll;generalize hnl : (ord S.t).length = nl at *;have HNl := hid hnl;clear hnl
 have hwn : IntKind.u64.wrap (nl : Int) = nl := by
  simp [IntKind.wrap, IntKind.bits, IntKind.signed];omega
 go_wp2_with (first
   | (refine wpList_store_row rfl 107 _ _ rfl w1.heap.size (tabR (inO S.t)) rfl rfl 107 _ (heap_alloc_new _ _) (by rw [HSz.out]; exact tabSize) (by rw [HSz.out]; rfl) (tabOne _) ?_; rw [setRow_alloc_new])
   | go_in)
 have hHk0 : encHk S 0 = [(nl : Int)] := by unfold encHk; rw [HNl.out]; rfl
 have HE0 : Hid (EnW w ((w1.alloc (.cells (tabR (inO S.t)) 107)).alloc (.cells #[.int .u64 nl] 45)) S w1.heap.size (.slice a1 nl c1) (.slice (some ⟨w1.heap.size + 1, 0, none⟩) 1 1) (encHk S 0)) := by
  have ho : w1.ownsRow w.heap.size 3 1 (.slice a1 nl c1) (ordI S.t 48).length (ivs (ordI S.t 48)) := by rw [HOL.out]; exact HO1.out
  refine ⟨?_, World.ownsRow.alloc (World.ownsRow.alloc ho _) _, ?_, (HB1.out.alloc hs1 _).alloc (by simp; omega) _⟩
  ·rw [Below.heap_alloc _ _ _ (by simp)]
   exact heap_alloc_new _ _
  ·rw [hHk0]
   have := own_one (w := w1.alloc (.cells (tabR (inO S.t)) 107)) w.heap.size nl (by simp; omega);rw [World.size_alloc] at this;exact this
 generalize (w1.alloc (.cells (tabR (inO S.t)) 107)).alloc (.cells #[.int .u64 nl] 45) = W0 at *;generalize (w1.heap.size + 1) = g0 at *;generalize hG : w1.heap.size = G at *;clear hG HO1 HB1 hHk0
 go_loopw [5, 28] (fun s i wr => ∃ (k : Nat) (v : Value), k ≤ nl ∧ i = .int .i64 k ∧ v = s ∧ EnW w wr S G (.slice a1 nl c1) v (encHk S k)) (fun _ i _ => nl - (intOf i).toNat)
 case atStart => exact ⟨0, _, by omega, rfl, rfl, HE0.out⟩
 case round =>
  clear HE0;obtain ⟨k, v, hk, rfl, rfl, hE⟩ := hrel;have HE := hid hE
  by_cases hlt : k < nl
  ·obtain ⟨q, hq⟩ : ∃ q, (ord S.t)[k]? = some q := ⟨(ord S.t)[k]'(by rw [HNl.out]; exact hlt), List.getElem?_eq_getElem _⟩
   obtain ⟨hq1, hq2, hfit⟩ := fit_ord HI.out HF.out hq;have HS : Hid (encHk S (k + 1) = encHk S k ++ flW (S.f (q - 1))) := encHk_succ S k q hq;obtain ⟨a2, c2, e2, hrow⟩ := own_irow hE.ints;simp only [Value.slice.injEq] at e2;obtain ⟨rfl, e2, rfl⟩ := e2;obtain ⟨gb, off, rfl, d0⟩ := hrow k q (ordI_get hq);obtain ⟨p, rfl⟩ : ∃ p, q = p + 1 := ⟨q - 1, by omega⟩;rw [show p + 1 - 1 = p by omega] at hq2 hfit HS;rw [Int.natCast_add, Int.natCast_one] at d0;have hH := HH.out.below (hE.bel.mono (Nat.le_refl _));obtain ⟨x0, x1, x2, x3, x4⟩ := hH.cells hq2;have hAf := appendFile_at w.heap.size v (encHk S k) (S.f p) wr hE.bel.size (by have := encHk_len S k; omega) hE.own hfit
   have hki : (k : Int) < (nl : Int) := by omega
   have hpi : (p : Int) < 32 := by omega
   generalize S.f p = x at *;obtain ⟨xk, xi, xo, xa, xr⟩ := x;unfold Fl.row at hAf;dsimp only at *;clear hE hq hfit hrow e2 hH
   go_wp2_with fail
   refine hAf.mono ?_;rintro e w2 ⟨v2, rfl, hown2, hgrow⟩
   have HE2 : Hid (EnW w w2 S G (.slice (some ⟨gb, off, none⟩) nl c1) v2 (encHk S (k + 1))) := by
    rw [HS.out];exact HE.out.grown hgrow hown2
   clear hAf hown2 hgrow HE;go_wp2;go_roundw
   case rel => exact ⟨k + 1, v2, by omega, by go_num, rfl, HE2.out⟩
   case measure => simp [intOf]; omega
  ·obtain rfl : k = nl := by omega
   have hal : encHk S k = encH S := by rw [← HNl.out]; exact encHk_all S
   rw [hal] at HE;have HT : Hid (wr.heap[G]? = some (.cells (tabR (inO S.t)) 107 (0, 0))) := hE.tab
   have HE0 : Hid (EnW w wr S G (.slice a1 k c1) v (encH S ++ encN S (0 * 6))) := by
    have : encN S (0 * 6) = [] := rfl;rw [this, List.append_nil];exact HE.out
   have hEl : (encH S).length ≤ 1 + 48 * 4 := by rw [encH_len]; have := ord_len48 S.t; omega
   clear hE HE hal
   go_wp2_with (refine wpList_load_row rfl 107 _ rfl G rfl 107 (tabR (inO S.t)) (0, 0) _ HT.out Tryz.underlying107 rfl (by rw [HSz.out]; exact tabSize) ?_)
   clear HT
   go_loopw [5, 43] (fun s i wr => ∃ (p : Nat) (v : Value), p ≤ 8 ∧ i = .int .i64 p ∧ v = s ∧ EnW w wr S G (.slice a1 k c1) v (encH S ++ encN S (p * 6))) (fun _ i _ => 8 - (intOf i).toNat)
   case atStart => exact ⟨0, _, by omega, rfl, rfl, HE0.out⟩
   case round =>
    clear HE0;obtain ⟨p, v, hp, rfl, rfl, hE⟩ := hrel;have HE := hid hE
    by_cases hlp : p < 8
    ·have i1 : decide ((p : Int) < 8) = true := decide_eq_true (by omega)
     have hix := tab_index (inO S.t) p hlp
     have hs6 : (six (inO S.t) p).toArray.size = 6 := by simp [six]
     have hwz := hE.bel.size
     have HEa : Hid (EnW w (wr.alloc (.cells (six (inO S.t) p).toArray 105)) S G (.slice a1 k c1) v (encH S ++ encN S (p * 6))) := by
      refine ⟨?_, World.ownsRow.alloc hE.ints _, World.ownsRow.alloc hE.own _, hE.bel.alloc hwz _⟩;rw [Below.heap_alloc _ _ _ (lt_of_heap hE.tab)];exact hE.tab
     clear hE HE
     go_wp2_with (first
       | (refine wpList_store_row rfl 105 _ _ rfl wr.heap.size (six (inO S.t) p).toArray rfl rfl 105 _ (heap_alloc_new _ _) (by rw [hs6]; exact sixSize) (by rw [hs6]; rfl) (sixOne _ _) ?_; rw [setRow_alloc_new])
       | (refine wpList_load_row rfl 105 _ rfl wr.heap.size rfl 105 (six (inO S.t) p).toArray (0, 0) _ (heap_alloc_new _ _) Tryz.underlying105 rfl (by rw [hs6]; exact sixSize) ?_))
     generalize hgp : wr.heap.size = gp at *;clear hgp hix;generalize wr.alloc (.cells (six (inO S.t) p).toArray 105) = W6 at *
     go_loopw [5, 47] (fun s i wr => ∃ (j : Nat) (v : Value), j ≤ 6 ∧ i = .int .i64 j ∧ v = s ∧ EnW w wr S G (.slice a1 k c1) v (encH S ++ encN S (p * 6 + j))) (fun _ i _ => 6 - (intOf i).toNat)
     case atStart => exact ⟨0, _, by omega, rfl, rfl, HEa.out⟩
     case round =>
      clear HEa;obtain ⟨j, v, hj, rfl, rfl, hE⟩ := hrel;have HE := hid hE
      by_cases hlj : j < 6
      ·have i2 : decide ((j : Int) < 6) = true := decide_eq_true (by omega)
       have hix := six_index (inO S.t) p j hlj;have hwz2 := hE.bel.size;have HN : Hid (encN S (p * 6 + (j + 1)) = encN S (p * 6 + j) ++ [(inO S.t (p * 6 + j) : Int)]) := encN_succ S (p * 6 + j);have HO : Hid (wr.ownsRow w.heap.size 45 1 v (encH S ++ encN S (p * 6 + j)).length (uvs (encH S ++ encN S (p * 6 + j)))) := hE.own
       have hDl : (encH S ++ encN S (p * 6 + j)).length ≤ 1000 := by rw [List.length_append, encN_len]; omega
       have hcn : inO S.t (p * 6 + j) ≤ 48 := by
        unfold inO cn
        split
        ·omega
        ·split
         ·rename_i hm
          have := List.idxOf_lt_length_of_mem hm;have := ord_len48 S.t;omega
         ·omega
       have hEw := fun w2 v2 E => @EnW.grown w wr w2 S G (.slice a1 k c1) v v2 (encH S ++ encN S (p * 6 + j)) E hE
       have HEw : Hid _ := hEw;generalize hD : encH S ++ encN S (p * 6 + j) = D at *;generalize inO S.t (p * 6 + j) = x at *;have HD := hid hD
       have hwx : IntKind.u64.wrap (x : Int) = x := by
        simp [IntKind.wrap, IntKind.bits, IntKind.signed];omega
       generalize hdl : D.length = dl at *;have HDl := hid hdl;clear hE hD HE hEw hdl
       go_wp2_with (at_builtin; refine wpList_append_lies _ rfl _ _ _ rfl w.heap.size 45 i0 _ 1 8 Tryz.underlying22 hi0 hz0 hz1 hz2 rfl (by omega) v dl (uvs D) rfl (World.ownsRow.alloc HO.out _) ⟨wr.heap.size, 0, none⟩ 1 1 [.int .u64 x] rfl rfl (World.news_of_block (cs := #[.int .u64 x]) (t := 45) (fr := (0, 0)) (heap_alloc_new _ _)) (by simp [Value.oneCell']) (by omega) (by unfold maxLen; omega) (by omega) (by simp; omega) _ rfl ?_; intro gg capx w2 hown2 hgrow hat hlt2)
       go_roundw
       case rel =>
        refine ⟨j + 1, _, by omega, by go_num, rfl, ?_⟩;rw [HN.out, ← List.append_assoc, HD.out];refine HEw.out w2 _ _ (grown_trans (grown_below _ (below_alloc _ _)) hgrow) ?_;rw [List.length_append, uvs_app, HDl.out];exact hown2
       case measure => simp [intOf]; omega
      ·obtain rfl : j = 6 := by omega
       clear hE;go_wp2;go_roundw
       case rel => exact ⟨p + 1, v, by omega, by go_num, rfl, by rw [show (p + 1) * 6 = p * 6 + 6 by omega]; exact HE.out⟩
       case measure => simp [intOf]; omega
    ·obtain rfl : p = 8 := by omega
     clear hE;go_wp2;go_ret;exact ⟨v, rfl, HE.out.own, HE.out.bel⟩
end Fd
namespace Ow
end Ow
namespace Fd
open Ow
def okF (a b c d : Int) : Bool := decide (1 ≤ a) && decide (a ≤ 4) && decide (b ≤ 1048576) && decide (c ≤ 1048576) && decide (d ≤ 1)
def flOf (a b c d : Int) : Fl := ⟨a, b, c, d == 1, 0⟩
def flAt (xs : List Int) (i : Nat) : Fl := flOf (xs.getD (i * 4) 0) (xs.getD (i * 4 + 1) 0) (xs.getD (i * 4 + 2) 0) (xs.getD (i * 4 + 3) 0)
def okAt (xs : List Int) (i : Nat) : Bool := okF (xs.getD (i * 4) 0) (xs.getD (i * 4 + 1) 0) (xs.getD (i * 4 + 2) 0) (xs.getD (i * 4 + 3) 0)
def filesTo (xs : List Int) : Nat → FS
 | 0 => FS.zero
 | k + 1 => (filesTo xs k).setF k (flAt xs k)
theorem filesTo_t (xs : List Int) : ∀ k, (filesTo xs k).t = fun _ => 0
 | 0 => rfl
 | k + 1 => filesTo_t xs k
theorem filesTo_f (xs : List Int) : ∀ k i, (filesTo xs k).f i = if i < k then flAt xs i else Fl.no
 | 0, i => by rw [if_neg (by omega)]; rfl
 | k + 1, i => by
  show ((filesTo xs k).setF k (flAt xs k)).f i = _
  by_cases e : i = k
  ·subst e
   rw [FS.setF_same, if_pos (by omega)]
  ·rw [FS.setF_other _ _ _ _ e, filesTo_f xs k i]
   by_cases h : i < k
   ·rw [if_pos h, if_pos (by omega)]
   ·rw [if_neg h, if_neg (by omega)]
theorem filesTo_refs (xs : List Int) (k i : Nat) : ((filesTo xs k).f i).refs = 0 := by
 rw [filesTo_f]
 split <;> rfl
theorem filesTo_inv (xs : List Int) (k : Nat) : Inv (filesTo xs k) :=
 Inv.zero.same (filesTo_t xs k) (fun p _ => filesTo_refs xs k p)
def nmStep (S : FS) (i q : Nat) : FS := if q = 0 then S.setT i q else (S.setT i q).addR (q - 1) 1
def namesTo (S : FS) (ys : List Int) : Nat → FS
 | 0 => S
 | k + 1 => nmStep (namesTo S ys k) k (ys.getD k 0).toNat
theorem nmStep_t (S : FS) (i q j : Nat) : (nmStep S i q).t j = if j = i then q else S.t j := by
 unfold nmStep
 split
 ·rfl
 ·rfl
theorem namesTo_t {S : FS} (hS : S.t = fun _ => 0) (ys : List Int) : ∀ k j, (namesTo S ys k).t j = if j < k then (ys.getD j 0).toNat else 0
 | 0, j => by rw [if_neg (by omega)]; show S.t j = 0; rw [hS]
 | k + 1, j => by
  show (nmStep (namesTo S ys k) k (ys.getD k 0).toNat).t j = _
  rw [nmStep_t, namesTo_t hS ys k j]
  by_cases e : j = k
  ·rw [if_pos e, if_pos (by omega), e]
  ·rw [if_neg e]
   by_cases h : j < k
   ·rw [if_pos h, if_pos (by omega)]
   ·rw [if_neg h, if_neg (by omega)]
theorem namesTo_inv {S : FS} (hI : Inv S) (hS : S.t = fun _ => 0) (ys : List Int) : ∀ k, k ≤ 48 → (∀ j, j < k → (ys.getD j 0).toNat ≤ 32) → Inv (namesTo S ys k)
 | 0, _, _ => hI
 | k + 1, hk, h => by
  have ih := namesTo_inv hI hS ys k (by omega) (fun j hj => h j (by omega));have hq := h k (by omega)
  have h0 : (namesTo S ys k).t k = 0 := by rw [namesTo_t hS, if_neg (by omega)]
  show Inv (nmStep (namesTo S ys k) k (ys.getD k 0).toNat)
  unfold nmStep
  split
  ·rename_i e
   refine ih.set (k := k) (q := 0) (by omega) (by omega) (by rw [e]) (fun p hp => ?_);rw [h0]
   rfl
  ·rename_i e
   exact ih.name2 (k := 0) (by omega) h0 e hq
theorem nmStep_f (S : FS) (i q p : Nat) : ((nmStep S i q).f p).re 0 = (S.f p).re 0 := by
 unfold nmStep
 split
 ·rfl
 ·unfold FS.addR
  by_cases e : p = q - 1
  ·rw [e, FS.setF_same]
   rfl
  ·rw [FS.setF_other _ _ _ _ e]
   rfl
theorem namesTo_f (S : FS) (ys : List Int) (p : Nat) : ∀ k, ((namesTo S ys k).f p).re 0 = (S.f p).re 0
 | 0 => rfl
 | k + 1 => (nmStep_f _ _ _ _).trans (namesTo_f S ys p k)
def wN (ws : List Int) : Nat := (ws.getD 0 0).toNat
def wF (ws : List Int) : List Int := (ws.take (1 + wN ws * 4)).drop 1
def wT (ws : List Int) : List Int := ws.drop (1 + wN ws * 4)
def decS (ws : List Int) : FS := namesTo (filesTo (wF ws) (wN ws)) (wT ws) 48
def okL (ws : List Int) : Bool := decide (1 ≤ ws.length) && decide (ws.getD 0 0 ≤ 32) && decide (ws.length = 1 + wN ws * 4 + 48)
def okFm (D : List Int) (n : Nat) : Bool := (List.range n).all (okAt D)
def okNm (D : List Int) (n : Nat) : Bool := (List.range 48).all (fun i => decide (D.getD i 0 ≤ (n : Int)))
def okFs (ws : List Int) : Bool := okFm (wF ws) (wN ws)
def okNs (ws : List Int) : Bool := okNm (wT ws) (wN ws)
def okO (ws : List Int) : Bool := (List.range 48).all (fun i => inO (decS ws).t i == (decS ws).t i) && decide ((ord (decS ws).t).length = wN ws)
def okW (ws : List Int) : Bool := okL ws && okFs ws && okNs ws && okO ws
end Fd
end Go.Proofs.YtinaeifpoljfoaaGreatDoor
