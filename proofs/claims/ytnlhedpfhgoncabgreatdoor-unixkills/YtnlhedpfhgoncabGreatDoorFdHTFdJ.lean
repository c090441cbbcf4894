/- Package fds: Ids. -/
/- Package fds: inOrder. -/
import Derived.Test.YtnlhedpfhgoncabGreatDoorFdDTFdF
import Derived.Test.YtnlhedpfhgoncabGreatDoorSrt
set_option linter.all false
namespace Go.Proofs.YtnlhedpfhgoncabGreatDoor
open Go.RowKit
namespace Ow
end Ow
namespace Fd
open Ow
/-- The ids, rising, each once. -/
def idsA (S : FS) (kind : Int) : List Int := Lib.compact ((idsTo S kind 32).mergeSort fun x y => decide (x ≤ y))
theorem holds_own {w : World} {base g n cap : Nat} {e : TypeId} {D : List Int} (h : w.ownsRow base e 1 (.slice (some ⟨g, 0, none⟩) n cap) D.length (ivs D)) : Go.Sort.Holds (Value.int .i64) w g 0 D.toArray := by
  rcases h.2 with ⟨e2, _⟩ | ⟨g', cap', cur, e2, _, hh, q1, _, _, ht⟩
  · cases e2
  · simp only [Value.slice.injEq, Option.some.injEq, Addr.mk.injEq] at e2
    obtain ⟨⟨rfl, _⟩, rfl, rfl⟩ := e2
    intro j hj
    have hj' : j < D.length := by simpa using hj
    refine ⟨?_, frozen_of_heap hh⟩
    have hq : (ivs D)[j]? = some (.int .i64 D[j]) := by simp [ivs, hj']
    rw [← ht, Nat.mul_one, List.getElem?_take_of_lt hj'] at hq
    rw [Nat.zero_add, cell_of_heap hh]
    have e3 : D.toArray[j]! = D[j] := by simp [hj']
    rw [e3]
    simpa using hq
theorem irow_holds {w : World} {g : Nat} {D E : List Int} (h : Go.Sort.Holds (Value.int .i64) w g 0 (D ++ E).toArray) : IRow w (some ⟨g, 0, none⟩) D := by
  intro j x hx
  obtain ⟨hj, he⟩ := List.getElem?_eq_some_iff.1 hx
  refine ⟨g, 0, rfl, ?_⟩
  have := (h j (by simp; omega)).1
  rw [this]
  have e3 : (D ++ E).toArray[j]! = x := by
    rw [← he]
    simp only [List.getElem!_toArray]
    rw [List.getElem!_eq_getElem?_getD, List.getElem?_append_left hj, List.getElem?_eq_getElem hj]
    rfl
  rw [e3]
theorem below_putRow {B g off n : Nat} {w0 w : World} (h : Below B w0 w) (hg : B ≤ g) (D : Array Int) : Below B w0 (Go.Sort.putRow (Value.int .i64) (Go.Sort.ahead w n) g off D) := by
  refine h.trans ⟨rfl, rfl, rfl, by simp, fun k hk => ?_⟩
  show (w.heap.modify g _)[k]? = w.heap[k]?
  rw [Array.getElem?_modify, if_neg (by omega)]
theorem below_growR {B : Nat} {w0 w : World} (h : Below B w0 w) (hB : B ≤ w.heap.size) (os : Array Obj) : Below B w0 (Go.Sort.grow w os) :=
  ⟨h.os, h.tape, h.output, by rw [Go.Sort.size_grow]; have := h.size; omega, fun k hk => by
    rw [Go.Sort.heap_grow_old w os (by omega)]
    exact h.block k hk⟩
theorem compact_len (l : List Int) : (Lib.compact l).length ≤ l.length := by
  unfold Lib.compact Lib.compactUpTo
  rw [List.length_map]
  exact Nat.le_trans (List.length_filter_le _ _) (by simp)
set_option maxHeartbeats 4000000 in
theorem ids_at (b : Nat) (S : FS) (kind : Int) (w : World) (h : FdAt w b S) :
    Calls Tryz.prog 184 #[.pointer (some ⟨b, 0, none⟩), .int .i64 kind] w fun e w' => ∃ a cap, e = .returned (.slice a (idsA S kind).length cap) ∧ IRow w' a (idsA S kind) ∧ Below w.heap.size w w' := by
  obtain ⟨i0, hi0, hzz⟩ := Option.map_eq_some_iff.1 intInfo
  simp only [Prod.mk.injEq] at hzz
  obtain ⟨hz0, hz1, hz2⟩ := hzz
  have HL : Hid _ := h.range
  have hne := ptr_eq b
  clear h
  go_enter Tryz.func184, Tryz.ntmps184
  go_wp2_with (first | (refine wpList_load_mid rfl 143 _ rfl b 0 rfl (fvals S) _ HL.out Tryz.underlying143 rfl (by kernel_rfl) ?_) | go_in)
  clear HL
  go_loopw [5, 14] (fun s i wr => ∃ (k : Nat) (v : Value), k ≤ 32 ∧ i = .int .i64 k ∧ v = s ∧ wr.ownsRow w.heap.size 3 1 v (idsTo S kind k).length (ivs (idsTo S kind k)) ∧ Below w.heap.size w wr) (fun _ i _ => 32 - (intOf i).toNat)
  case atStart => exact ⟨0, _, by omega, rfl, rfl, World.ownsRow_nil _ _ _ _, Below.refl _ _⟩
  case round =>
    obtain ⟨k, v, hk, rfl, rfl, hown, hB⟩ := hrel
    have HB : Hid (Below w.heap.size w wr) := hB
    have hsz := hB.size
    have HO : Hid (wr.ownsRow w.heap.size 3 1 v (idsTo S kind k).length (ivs (idsTo S kind k))) := hown
    have hle := idsTo_len S kind k
    by_cases hlt : k < 32
    · have hix := files_index S k hlt
      have i1 : decide ((k : Int) < 32) = true := decide_eq_true (by omega)
      by_cases h0 : 0 < (S.f k).refs
      · have g0 : decide (0 < (S.f k).refs) = true := decide_eq_true h0
        by_cases h1 : (S.f k).kind = kind
        · have g1 : ((S.f k).kind == kind) = true := by simp [h1]
          have HF : Hid (idsTo S kind (k + 1) = idsTo S kind k ++ [(S.f k).id]) := by show _ = _; rw [idsTo_succ, if_pos ⟨h0, h1⟩]
          generalize S.f k = x at *
          obtain ⟨xk, xi, xo, xa, xr⟩ := x
          unfold Fl.row at hix
          dsimp only at *
          clear hown hB h0 h1
          generalize idsTo S kind k = D at *
          go_wp2_with (first
            | (at_builtin; refine wpList_append_lies _ rfl _ _ _ rfl w.heap.size 3 i0 _ 1 8 Tryz.underlying52 hi0 hz0 hz1 hz2 rfl (by omega) v D.length (ivs D) rfl (World.ownsRow.alloc (World.ownsRow.alloc HO.out _) _) ⟨wr.heap.size + 1, 0, none⟩ 1 1 [.int .i64 xi] rfl rfl (World.news_of_block (cs := #[.int .i64 xi]) (t := 3) (fr := (0, 0)) (by have := heap_alloc_new (wr.alloc (.cells #[.int .i64 xk, .int .i64 xi, .int .i64 xo, .bool xa, .int .i64 xr] 121)) (.cells #[.int .i64 xi] 3); simpa using this)) (by simp [Value.oneCell']) (by omega) (by unfold maxLen; omega) (by omega) (by simp; omega) _ rfl ?_; intro gg capx w2 hown2 hgrow hat hlt2)
            | go_in)
          go_roundw
          case rel =>
            refine ⟨k + 1, _, by omega, by go_num, rfl, ?_, ((HB.out.alloc hsz _).alloc (by simp; omega) _).trans (below_grown hgrow (by simp; omega) (ownsRow_low HO.out))⟩
            rw [HF.out, ivs_app, List.length_append]
            exact hown2
          case measure => simp [intOf]; omega
        · have g1 : ((S.f k).kind == kind) = false := by simp [h1]
          have HF : Hid (idsTo S kind (k + 1) = idsTo S kind k) := by show _ = _; rw [idsTo_succ, if_neg (fun q => h1 q.2)]
          generalize S.f k = x at *
          obtain ⟨xk, xi, xo, xa, xr⟩ := x
          unfold Fl.row at hix
          dsimp only at *
          clear hown hB h0 h1
          go_wp2
          go_roundw
          case rel => exact ⟨k + 1, _, by omega, by go_num, rfl, by rw [HF.out]; exact World.ownsRow.alloc HO.out _, HB.out.alloc hsz _⟩
          case measure => simp [intOf]; omega
      · have g0 : decide (0 < (S.f k).refs) = false := decide_eq_false h0
        have HF : Hid (idsTo S kind (k + 1) = idsTo S kind k) := by show _ = _; rw [idsTo_succ, if_neg (fun q => h0 q.1)]
        generalize S.f k = x at *
        obtain ⟨xk, xi, xo, xa, xr⟩ := x
        unfold Fl.row at hix
        dsimp only at *
        clear hown hB h0
        go_wp2
        go_roundw
        case rel => exact ⟨k + 1, _, by omega, by go_num, rfl, by rw [HF.out]; exact World.ownsRow.alloc HO.out _, HB.out.alloc hsz _⟩
        case measure => simp [intOf]; omega
    · obtain rfl : k = 32 := by omega
      have HA : Hid (idsA S kind = Lib.compact ((idsTo S kind 32).mergeSort fun x y => decide (x ≤ y))) := rfl
      generalize idsTo S kind 32 = D at *
      by_cases hn : D.length = 0
      · have hD : D = [] := List.eq_nil_of_length_eq_zero hn
        subst hD
        have HA2 : Hid (idsA S kind = []) := by show idsA S kind = []; rw [HA.out]; simp [Lib.compact, Lib.compactUpTo]
        obtain ⟨a, cap, rfl⟩ := own_slice hown
        have hS := slices_Sort_int_none a cap wr
        have hC := slices_Compact_int_empty a cap wr
        clear hown hB
        go_wp2_with fail
        refine hS.mono ?_
        rintro e w1 ⟨rfl, hw⟩
        rw [hw]
        clear hw w1 hS
        go_wp2_with fail
        refine hC.mono ?_
        rintro e w1 ⟨rfl, hw⟩
        rw [hw]
        clear hw w1 hC
        go_wp2
        go_ret
        refine ⟨a, cap, ?_, ?_, HB.out⟩
        · rw [HA2.out]; rfl
        · rw [HA2.out]
          intro j x hx
          simp at hx
      · obtain ⟨g, cap, rfl, hgl, hgu⟩ := hown.form (by omega)
        have hH := holds_own hown
        have hlow := ownsRow_low hown g rfl
        have hcap := own_cap hown
        have hS := slices_Sort_int g 0 cap D wr hH hgu (by omega)
        have HLn : Hid ((D.mergeSort fun x y => decide (x ≤ y)).length = D.length) := List.length_mergeSort _
        have hC := fun W (hW : Go.Sort.Holds (Value.int .i64) W g 0 (D.mergeSort fun x y => decide (x ≤ y)).toArray) => slices_Compact_int g 0 cap (D.mergeSort fun x y => decide (x ≤ y)) W hW (by rw [HLn.out]; omega) (by rw [HLn.out]; exact hcap)
        have HHo : Hid (Go.Sort.Holds (Value.int .i64) wr g 0 D.toArray) := hH
        generalize (D.mergeSort fun x y => decide (x ≤ y)) = M at *
        generalize hDl : D.length = dl at *
        have HDl : Hid (dl = D.length) := hDl.symm
        clear hown hB hH HO hDl
        go_wp2_with fail
        refine hS.mono ?_
        rintro e w1 ⟨rfl, nn, os, hw⟩
        have hB1 : Below w.heap.size w w1 := by
          rw [hw]
          exact below_growR (below_putRow HB.out hlow _) (by simp; omega) _
        have hH1 : Go.Sort.Holds (Value.int .i64) w1 g 0 M.toArray := by
          rw [hw]
          refine Go.Sort.holds_grow _ _ _ _ _ _ (by simp; omega) ?_
          exact Go.Sort.holds_putRow _ _ _ _ D.toArray _ (Go.Sort.holds_ahead _ _ _ _ _ _ HHo.out) (by simp [HLn.out, ← HDl.out])
        have hC1 := hC w1 hH1
        have HB1 : Hid (Below w.heap.size w w1) := hB1
        have HH1 : Hid (Go.Sort.Holds (Value.int .i64) w1 g 0 M.toArray) := hH1
        have hml : M.length = dl := HLn.out
        rw [hml] at hC1
        clear hS hw hC hB1 hH1 hml
        go_wp2_with fail
        refine hC1.mono ?_
        rintro e w2 ⟨rfl, q, hw⟩
        have hB2 : Below w.heap.size w w2 := by
          rw [hw]
          exact below_putRow HB1.out hlow _
        have hcl := compact_len M
        have hH2 : Go.Sort.Holds (Value.int .i64) w2 g 0 (Lib.compact M ++ List.replicate (dl - (Lib.compact M).length) 0).toArray := by
          rw [hw]
          refine Go.Sort.holds_putRow _ _ _ _ M.toArray _ (Go.Sort.holds_ahead _ _ _ _ _ _ HH1.out) ?_
          have := HLn.out
          simp
          omega
        have HI : Hid (IRow w2 (some ⟨g, 0, none⟩) (Lib.compact M)) := irow_holds hH2
        have HB2 : Hid (Below w.heap.size w w2) := hB2
        clear hC1 hw hB2 hH2 HB1 HH1
        generalize hcm : Lib.compact M = Cm at *
        generalize hcl2 : Cm.length = cl at *
        have HCl : Hid (Cm.length = cl) := hcl2
        clear hcm hcl2
        go_wp2
        go_ret
        refine ⟨some ⟨g, 0, none⟩, cap, ?_, ?_, HB2.out⟩
        · rw [HA.out, HCl.out]; rfl
        · rw [HA.out]; exact HI.out
end Fd
end Go.Proofs.YtnlhedpfhgoncabGreatDoor
namespace Go.Proofs.YtnlhedpfhgoncabGreatDoor
open Go.RowKit
namespace Ow
end Ow
namespace Fd
open Ow
/-- A table's numbers. -/
def tabL (g : Nat → Nat) : List Int := (List.range 48).map (fun i => (g i : Int))
def tabR (g : Nat → Nat) : Array Value := irow (tabL g)
theorem tabL_len (g : Nat → Nat) : (tabL g).length = 48 := by simp [tabL]
theorem tabL_get (g : Nat → Nat) {i : Nat} (hi : i < 48) : (tabL g)[i]? = some (g i : Int) := by simp [tabL, hi]
theorem tabR_size (g : Nat → Nat) : (tabR g).size = 48 := by simp [tabR, irow, tabL_len]
theorem tabL_set (g h : Nat → Nat) (k x : Nat) (hk : ∀ i, i < 48 → h i = if i = k then x else g i) : (tabL g).set k (x : Int) = tabL h := by
  apply List.ext_getElem?
  intro i
  rw [List.getElem?_set]
  by_cases hi : i < 48
  · rw [tabL_get h hi, hk i hi]
    by_cases e : k = i
    · rw [if_pos e, if_pos e.symm, if_pos (by rw [tabL_len]; omega)]
    · rw [if_neg e, if_neg (fun q => e q.symm), tabL_get g hi]
  · have hr : (tabL h)[i]? = none := List.getElem?_eq_none (by rw [tabL_len]; omega)
    have hl : (tabL g)[i]? = none := List.getElem?_eq_none (by rw [tabL_len]; omega)
    rw [hr]
    by_cases e : k = i
    · rw [if_pos e, if_neg (by rw [tabL_len]; omega)]
    · rw [if_neg e, hl]
/-- What each name is counted as. -/
def cntL (l : List Nat) : List Int := (List.range 33).map (fun q => (cn l q : Int))
theorem cntL_len (l : List Nat) : (cntL l).length = 33 := by simp [cntL]
theorem cntL_get (l : List Nat) {q : Nat} (hq : q < 33) : (cntL l)[q]? = some (cn l q : Int) := by simp [cntL, hq]
theorem cn_snoc {l : List Nat} {q : Nat} (h0 : q ≠ 0) (hq : q ∉ l) (i : Nat) : cn (l ++ [q]) i = if i = q then l.length + 1 else cn l i := by
  by_cases e : i = q
  · subst e
    rw [if_pos rfl]
    unfold cn
    rw [if_neg h0, if_pos (by simp), List.idxOf_append, if_neg hq]
    simp
  · rw [if_neg e]
    unfold cn
    by_cases h1 : i = 0
    · rw [if_pos h1, if_pos h1]
    · rw [if_neg h1, if_neg h1]
      by_cases h2 : i ∈ l
      · rw [if_pos (List.mem_append_left _ h2), if_pos h2, List.idxOf_append, if_pos h2]
      · rw [if_neg (by simp [h2, e]), if_neg h2]
theorem cntL_set {l : List Nat} {q : Nat} (h0 : q ≠ 0) (hq : q ∉ l) : (cntL l).set q ((l.length + 1 : Nat) : Int) = cntL (l ++ [q]) := by
  apply List.ext_getElem?
  intro i
  rw [List.getElem?_set]
  by_cases hi : i < 33
  · rw [cntL_get (l ++ [q]) hi, cn_snoc h0 hq]
    by_cases e : q = i
    · rw [if_pos e, if_pos e.symm, if_pos (by rw [cntL_len]; omega)]
    · rw [if_neg e, if_neg (fun x => e x.symm), cntL_get _ hi]
  · have hr : (cntL (l ++ [q]))[i]? = none := List.getElem?_eq_none (by rw [cntL_len]; omega)
    have hl : (cntL l)[i]? = none := List.getElem?_eq_none (by rw [cntL_len]; omega)
    rw [hr]
    by_cases e : q = i
    · rw [if_pos e, if_neg (by rw [cntL_len]; omega)]
    · rw [if_neg e, hl]
/-- The names in order, as numbers. -/
def ordI (t : Nat → Nat) (k : Nat) : List Int := (ordTo t k).map Int.ofNat
theorem ordI_len (t : Nat → Nat) (k : Nat) : (ordI t k).length = (ordTo t k).length := by simp [ordI]
theorem tabSize : (Tryz.prog.info? 147).map (·.size) = some 48 := by kernel_rfl
theorem cntZero : (#[.int .i64 0, .int .i64 0, .int .i64 0, .int .i64 0, .int .i64 0, .int .i64 0, .int .i64 0, .int .i64 0, .int .i64 0, .int .i64 0, .int .i64 0, .int .i64 0, .int .i64 0, .int .i64 0, .int .i64 0, .int .i64 0, .int .i64 0, .int .i64 0, .int .i64 0, .int .i64 0, .int .i64 0, .int .i64 0, .int .i64 0, .int .i64 0, .int .i64 0, .int .i64 0, .int .i64 0, .int .i64 0, .int .i64 0, .int .i64 0, .int .i64 0, .int .i64 0, .int .i64 0] : Array Value) = irow (cntL []) := by kernel_rfl
theorem tabZero : (#[.int .i64 0, .int .i64 0, .int .i64 0, .int .i64 0, .int .i64 0, .int .i64 0, .int .i64 0, .int .i64 0, .int .i64 0, .int .i64 0, .int .i64 0, .int .i64 0, .int .i64 0, .int .i64 0, .int .i64 0, .int .i64 0, .int .i64 0, .int .i64 0, .int .i64 0, .int .i64 0, .int .i64 0, .int .i64 0, .int .i64 0, .int .i64 0, .int .i64 0, .int .i64 0, .int .i64 0, .int .i64 0, .int .i64 0, .int .i64 0, .int .i64 0, .int .i64 0, .int .i64 0, .int .i64 0, .int .i64 0, .int .i64 0, .int .i64 0, .int .i64 0, .int .i64 0, .int .i64 0, .int .i64 0, .int .i64 0, .int .i64 0, .int .i64 0, .int .i64 0, .int .i64 0, .int .i64 0, .int .i64 0] : Array Value) = tabR (fun _ => 0) := by kernel_rfl
/-- What the walk keeps: the tables being counted anew, the result's place, the counts, the names so far. -/
structure InW (w wr : World) (t : Nat → Nat) (k : Nat) (v : Value) : Prop where
  ts : wr.heap[w.heap.size]? = some (.cells (tabR (inOTo t k)) 147)
  res : wr.heap[w.heap.size + 1]? = some (.cells (tabR (fun _ => 0)) 147)
  cnt : wr.heap[w.heap.size + 1 + 1]? = some (.cells (irow (cntL (ordTo t k))) 398)
  own : wr.ownsRow (w.heap.size + 3) 3 1 v (ordI t k).length (ivs (ordI t k))
  bel : Below w.heap.size w wr
section
variable {w wr : World} {t : Nat → Nat} {k : Nat} {v : Value}
theorem InW.tcell (h : InW w wr t k v) {i : Nat} (hi : i < 48) : wr.cell? ⟨w.heap.size, i, none⟩ = some (.int .i64 (inOTo t k i : Nat)) := irow_cell h.ts (tabL_get _ hi)
theorem InW.ccell (h : InW w wr t k v) {q : Nat} (hq : q < 33) : wr.cell? ⟨w.heap.size + 1 + 1, q, none⟩ = some (.int .i64 (cn (ordTo t k) q : Nat)) := irow_cell h.cnt (cntL_get _ hq)
theorem InW.drew (h : InW w wr t k v) : InW w wr.drew t k v := ⟨h.ts, h.res, h.cnt, ownsRow_at h.own (fun g _ => rfl), h.bel.drew⟩
theorem InW.lt (h : InW w wr t k v) : w.heap.size + 1 + 1 < wr.heap.size := lt_of_heap h.cnt
theorem inOTo_step (t : Nat → Nat) (k i : Nat) : inOTo t (k + 1) i = if i = k then inO t k else inOTo t k i := by
  unfold inOTo
  by_cases e : i = k
  · subst e
    rw [if_pos (by omega), if_pos rfl]
  · rw [if_neg e]
    by_cases h : i < k
    · rw [if_pos h, if_pos (by omega)]
    · rw [if_neg h, if_neg (by omega)]
theorem set_row {W : World} {g : Nat} {L M : List Int} {T : TypeId} {i : Nat} {x : Int} (h : W.heap[g]? = some (.cells (irow L) T)) (hs : L.set i x = M) : (W.setCell ⟨g, i, none⟩ (.int .i64 x)).heap[g]? = some (.cells (irow M) T) := by
  rw [setCell_eq_setRow W g _ _ _ _ _ h, setRow_heap W g _ _ _ _ h, irow_set, hs]
/-- A name that is known, or none. -/
theorem InW.known (h : InW w wr t k v) (hk : k < 48) (hq : t k = 0 ∨ t k ∈ ordTo t k) : InW w (wr.setCell ⟨w.heap.size, k, none⟩ (.int .i64 (cn (ordTo t k) (t k) : Nat))) t (k + 1) v := by
  have he : ordTo t (k + 1) = ordTo t k := by
    rw [ordTo_succ, if_neg]
    rintro ⟨q1, q2⟩
    rcases hq with q | q
    · exact q1 q
    · exact q2 q
  have hi : inO t k = cn (ordTo t k) (t k) := by
    unfold inO
    exact ordTo_ord (by omega) hq
  have hE : ordI t (k + 1) = ordI t k := by unfold ordI; rw [he]
  have hlow := ownsRow_low h.own
  refine ⟨set_row h.ts (tabL_set _ _ _ _ (fun i _ => by rw [inOTo_step, hi])), ?_, ?_, ?_, ?_⟩
  · rw [Below.heap_setCell _ _ _ _ (by show w.heap.size + 1 ≠ w.heap.size; omega)]
    exact h.res
  · rw [Below.heap_setCell _ _ _ _ (by show w.heap.size + 1 + 1 ≠ w.heap.size; omega), he]
    exact h.cnt
  · rw [hE]
    refine ownsRow_at h.own (fun g hg => Below.heap_setCell _ _ _ _ ?_)
    have := hlow g hg
    show g ≠ w.heap.size
    omega
  · exact h.bel.setCell (p := ⟨w.heap.size, k, none⟩) (Nat.le_refl _) _
/-- A new name. -/
theorem InW.new (h : InW w wr t k v) (hk : k < 48) (h0 : t k ≠ 0) (hq : t k ∉ ordTo t k) {w2 : World} {v2 : Value} (hb : Below w.heap.size w w2) (hkeep : ∀ g, g ≤ w.heap.size + 1 + 1 → w2.heap[g]? = wr.heap[g]?)
    (ho : w2.ownsRow (w.heap.size + 3) 3 1 v2 (ordI t (k + 1)).length (ivs (ordI t (k + 1)))) :
    InW w ((w2.setCell ⟨w.heap.size + 1 + 1, t k, none⟩ (.int .i64 (((ordTo t k).length + 1 : Nat) : Int))).setCell ⟨w.heap.size, k, none⟩ (.int .i64 (((ordTo t k).length + 1 : Nat) : Int))) t (k + 1) v2 := by
  have he : ordTo t (k + 1) = ordTo t k ++ [t k] := by rw [ordTo_succ, if_pos ⟨h0, hq⟩]
  have hm : t k ∈ ordTo t (k + 1) := by rw [he]; simp
  have hi : inO t k = (ordTo t k).length + 1 := by
    unfold inO
    rw [ordTo_ord (k := k + 1) (by omega) (Or.inr hm), he, cn_snoc h0 hq, if_pos rfl]
  have hlow := ownsRow_low ho
  refine ⟨?_, ?_, ?_, ?_, ?_⟩
  · refine set_row (L := tabL (inOTo t k)) ?_ (tabL_set _ _ _ _ (fun i _ => by rw [inOTo_step, hi]))
    rw [Below.heap_setCell _ _ _ _ (by show w.heap.size ≠ w.heap.size + 1 + 1; omega), hkeep _ (by omega)]
    exact h.ts
  · rw [Below.heap_setCell _ _ _ _ (by show w.heap.size + 1 ≠ w.heap.size; omega), Below.heap_setCell _ _ _ _ (by show w.heap.size + 1 ≠ w.heap.size + 1 + 1; omega), hkeep _ (by omega)]
    exact h.res
  · rw [Below.heap_setCell _ _ _ _ (by show w.heap.size + 1 + 1 ≠ w.heap.size; omega), he]
    refine set_row ?_ (cntL_set h0 hq)
    rw [hkeep _ (by omega)]
    exact h.cnt
  · refine ownsRow_at (ownsRow_at ho (fun g hg => Below.heap_setCell _ _ _ _ ?_)) (fun g hg => Below.heap_setCell _ _ _ _ ?_)
    · have := hlow g hg
      show g ≠ w.heap.size + 1 + 1
      omega
    · have := hlow g hg
      show g ≠ w.heap.size
      omega
  · exact (hb.setCell (p := ⟨w.heap.size + 1 + 1, t k, none⟩) (by show w.heap.size ≤ w.heap.size + 1 + 1; omega) _).setCell (p := ⟨w.heap.size, k, none⟩) (Nat.le_refl _) _
end
/-- Six of a table. -/
def six (t : Nat → Nat) (p : Nat) : List Value := (List.range 6).map (fun j => Value.int .i64 (t (p * 6 + j) : Nat))
theorem six_get (t : Nat → Nat) (p : Nat) {j : Nat} (hj : j < 6) : (six t p)[j]? = some (.int .i64 (t (p * 6 + j) : Nat)) := by simp [six, hj]
theorem six_index (t : Nat → Nat) (p j : Nat) (hj : j < 6) (W : World) : (Instr.index 145 (.agg (six t p).toArray) (.int .i64 j)).run Tryz.prog W = .ok (.int .i64 (t (p * 6 + j) : Nat)) W := by
  have h1 : (six t p).toArray[j]? = some (.int .i64 (t (p * 6 + j) : Nat)) := by simpa using six_get t p hj
  have hs : (sizeOf 3).run Tryz.prog W = .ok 1 W := by kernel_rfl
  have ha : (isAgg 3).run Tryz.prog W = .ok false W := by kernel_rfl
  have hi : 0 ≤ (j : Int) ∧ (j : Int) < (6 : Nat) := by omega
  simp only [Instr.index, Sem.run_bind, asIntOf, Sem.run_pure, Result.andThen_ok, run_underlying Tryz.underlying145, if_pos hi, hs, part, ha, Bool.false_eq_true, if_false, Int.toNat_natCast, Nat.mul_one, h1]
theorem InW.six {w wr : World} {t : Nat → Nat} {p : Nat} {v : Value} (h : InW w wr t (p * 6) v) (hp : p < 8) : wr.rangeAt w.heap.size (p * 6) (Go.Proofs.YtnlhedpfhgoncabGreatDoor.Fd.six t p) := by
  intro j u hu
  have hj : j < 6 := by have := (List.getElem?_eq_some_iff.1 hu).1; simpa [Go.Proofs.YtnlhedpfhgoncabGreatDoor.Fd.six] using this
  rw [six_get t p hj] at hu
  rw [h.tcell (i := p * 6 + j) (by omega), ← hu]
  unfold inOTo
  rw [if_neg (by omega)]
theorem results_cellrow_tmp {P : Program} {fn : Func} {p u : Tmp} {ty : TypeId} (h : fn.results = #[.cell p ty, .tmp u]) (tmps : Array Value) (w : World) (g : Nat) (t : TypeId) (cs : Array Value) (fr : Nat × Nat) (d : TypeDesc)
    (hp : tmps.getD p undef = .pointer (some ⟨g, 0, none⟩)) (hg : w.heap[g]? = some (.cells cs t fr))
    (hu : P.underlying ty = some d) (hd : (match d with | .struct _ | .array _ _ => true | _ => false) = true) (hi : (P.info? ty).map (·.size) = some cs.size) :
    (results fn tmps).run P w = .ok (.tuple #[.agg cs, tmps.getD u undef]) w := by
  rw [results_cell_tmp h]
  rw [hp]
  simp only [asAddr, Sem.run_pure, Result.andThen_ok, run_loadVar_row w g t ty cs fr d hg hu hd hi]
theorem inw_start (w : World) (t : Nat → Nat) : InW w (((w.alloc (.cells (tabR t) 147)).alloc (.cells (tabR (fun _ => 0)) 147)).alloc (.cells (irow (cntL [])) 398)) t 0 (.slice none 0 0) := by
  have e : inOTo t 0 = t := by
    funext i
    unfold inOTo
    rw [if_neg (by omega)]
  refine ⟨?_, ?_, ?_, World.ownsRow_nil _ _ _ _, (below_alloc2 w _ _).trans ((below_alloc _ _).mono (by simp; omega))⟩
  · rw [Below.heap_alloc _ _ _ (by simp; omega), Below.heap_alloc _ _ _ (by simp), e]
    exact heap_alloc_new _ _
  · rw [Below.heap_alloc _ _ _ (by simp)]
    have := heap_alloc_new (w.alloc (.cells (tabR t) 147)) (.cells (tabR (fun _ => 0)) 147)
    simpa using this
  · have := heap_alloc_new ((w.alloc (.cells (tabR t) 147)).alloc (.cells (tabR (fun _ => 0)) 147)) (.cells (irow (cntL [])) 398)
    rw [World.size_alloc, World.size_alloc] at this
    exact this
set_option maxRecDepth 100000 in
set_option maxHeartbeats 4000000 in
theorem inOrder_at (t : Nat → Nat) (ht : ∀ k, k < 48 → t k ≤ 32) (w : World) :
    Calls Tryz.prog 232 #[.agg (tabR t)] w fun e w' => ∃ v, e = .returned (.tuple #[.agg (tabR (inO t)), v]) ∧ w'.ownsRow w.heap.size 3 1 v (ordI t 48).length (ivs (ordI t 48)) ∧ Below w.heap.size w w' := by
  obtain ⟨i0, hi0, hzz⟩ := Option.map_eq_some_iff.1 intInfo
  simp only [Prod.mk.injEq] at hzz
  obtain ⟨hz0, hz1, hz2⟩ := hzz
  have HW : Hid _ := inw_start w t
  have HT : Hid (∀ k, k < 48 → t k ≤ 32) := ht
  clear ht
  go_enter Tryz.func232, Tryz.ntmps232
  go_wp2
  rw [tabZero, cntZero]
  generalize ((w.alloc (.cells (tabR t) 147)).alloc (.cells (tabR (fun _ => 0)) 147)).alloc (.cells (irow (cntL [])) 398) = W at *
  go_loopw [5, 9] (fun s i wr => ∃ (p : Nat) (v : Value), p ≤ 8 ∧ i = .int .i64 p ∧ v = s ∧ InW w wr t (p * 6) v) (fun _ i _ => 8 - (intOf i).toNat)
  case atStart => exact ⟨0, _, by omega, rfl, rfl, HW.out⟩
  case round =>
    clear HW
    obtain ⟨p, v, hp, rfl, rfl, hW⟩ := hrel
    have HW : Hid (InW w wr t (p * 6) v) := hW
    by_cases hlt : p < 8
    · have HR : Hid (wr.rangeAt w.heap.size (p * 6) (six t p)) := hW.six hlt
      have i1 : decide ((p : Int) < 8) = true := decide_eq_true (by omega)
      have hpi : (p : Int) < 8 := by omega
      have hs6 : (six t p).length = 6 := by simp [six]
      clear hW
      go_wp2_with (first | (refine wpList_load_mid rfl 145 _ rfl w.heap.size (p * 6) rfl (six t p) _ HR.out Tryz.underlying145 rfl (by rw [hs6]; kernel_rfl) ?_) | go_in)
      clear HR hs6
      go_loopw [5, 15] (fun s i wr => ∃ (j : Nat) (v : Value), j ≤ 6 ∧ i = .int .i64 j ∧ v = s ∧ InW w wr t (p * 6 + j) v) (fun _ i _ => 6 - (intOf i).toNat)
      case atStart => exact ⟨0, _, by omega, rfl, rfl, HW.out⟩
      case round =>
        clear HW
        obtain ⟨j, v, hj, rfl, rfl, hW⟩ := hrel
        have HW : Hid (InW w wr t (p * 6 + j) v) := hW
        by_cases hlj : j < 6
        · have i2 : decide ((j : Int) < 6) = true := decide_eq_true (by omega)
          have hji : (j : Int) < 6 := by omega
          have hix := six_index t p j hlj
          have hq32 := HT.out (p * 6 + j) (by omega)
          have cc := hW.ccell (q := t (p * 6 + j)) (by omega)
          have dc := hW.drew.ccell (q := t (p * 6 + j)) (by omega)
          have ct := hW.tcell (i := p * 6 + j) (by omega)
          have dt := hW.drew.tcell (i := p * 6 + j) (by omega)
          have ft : wr.frozen? ⟨w.heap.size, p * 6 + j, none⟩ = false := frozen_of_heap hW.ts
          have dft : wr.drew.frozen? ⟨w.heap.size, p * 6 + j, none⟩ = false := frozen_of_heap hW.ts
          have fc : wr.frozen? ⟨w.heap.size + 1 + 1, t (p * 6 + j), none⟩ = false := frozen_of_heap hW.cnt
          have hll := hW.lt
          by_cases hq : t (p * 6 + j) = 0 ∨ t (p * 6 + j) ∈ ordTo t (p * 6 + j)
          · have HK : Hid _ := hW.known (by omega) hq
            obtain ⟨c, hc⟩ : ∃ c, c = cn (ordTo t (p * 6 + j)) (t (p * 6 + j)) := ⟨_, rfl⟩
            rw [← hc] at cc dc HK
            by_cases hq0 : t (p * 6 + j) = 0
            · rw [hq0] at cc dc hix fc
              clear hc hq0 hq hW hq32
              generalize inOTo t (p * 6 + j) (p * 6 + j) = x at ct dt
              go_wp2_with fail
              go_region
              all_goals
                go_wp2
                go_roundw
                case rel => exact ⟨j + 1, v, by omega, by go_num, rfl, HK.out.drew⟩
                case measure => simp [intOf]; omega
            · have hc1 : 1 ≤ c := by
                rcases hq with q | q
                · exact absurd q hq0
                · rw [hc]
                  unfold cn
                  rw [if_neg hq0, if_pos q]
                  omega
              generalize inOTo t (p * 6 + j) (p * 6 + j) = x at ct dt
              generalize hqq : t (p * 6 + j) = q at *
              have g1 : ((q : Int) != 0) = true := by simp; omega
              have g2 : ((c : Int) == 0) = false := beq_false_of_ne (by omega)
              have hqi : (q : Int) < 33 := by omega
              clear hc hq0 hq hW hqq
              go_wp2_with fail
              go_region
              all_goals
                go_wp2
                go_roundw
                case rel => exact ⟨j + 1, v, by omega, by go_num, rfl, HK.out.drew⟩
                case measure => simp [intOf]; omega
          · have h0 : t (p * 6 + j) ≠ 0 := fun e => hq (Or.inl e)
            have hn : t (p * 6 + j) ∉ ordTo t (p * 6 + j) := fun e => hq (Or.inr e)
            have hc0 : cn (ordTo t (p * 6 + j)) (t (p * 6 + j)) = 0 := by
              unfold cn
              rw [if_neg h0, if_neg hn]
            rw [hc0] at cc dc
            have hol := ordTo_len t (p * 6 + j)
            have HOI : Hid (ordI t (p * 6 + j + 1) = ordI t (p * 6 + j) ++ [(t (p * 6 + j) : Int)]) := by
              show _ = _
              unfold ordI
              rw [ordTo_succ, if_pos ⟨h0, hn⟩, List.map_append]
              rfl
            have hIl := ordI_len t (p * 6 + j)
            have HO : Hid (wr.ownsRow (w.heap.size + 3) 3 1 v (ordTo t (p * 6 + j)).length (ivs (ordI t (p * 6 + j)))) := by rw [← hIl]; exact hW.own
            have HIl : Hid ((ordI t (p * 6 + j)).length = (ordTo t (p * 6 + j)).length) := hIl
            have hlow := ownsRow_low hW.own
            have HNw : Hid (∀ (w2 : World) (v2 : Value), Below w.heap.size w w2 → (∀ g, g ≤ w.heap.size + 1 + 1 → w2.heap[g]? = wr.heap[g]?) → w2.ownsRow (w.heap.size + 3) 3 1 v2 (ordI t (p * 6 + j + 1)).length (ivs (ordI t (p * 6 + j + 1))) → InW w ((w2.setCell ⟨w.heap.size + 1 + 1, t (p * 6 + j), none⟩ (.int .i64 (((ordTo t (p * 6 + j)).length + 1 : Nat) : Int))).setCell ⟨w.heap.size, p * 6 + j, none⟩ (.int .i64 (((ordTo t (p * 6 + j)).length + 1 : Nat) : Int))) t (p * 6 + j + 1) v2) :=
              fun w2 v2 hb hk ho => hW.new (by omega) h0 hn hb hk ho
            have HBl : Hid (Below w.heap.size w wr) := hW.bel
            generalize inOTo t (p * 6 + j) (p * 6 + j) = x at ct dt
            generalize (ordTo t (p * 6 + j)).length = ol at *
            generalize ordI t (p * 6 + j) = D at *
            generalize ordI t (p * 6 + j + 1) = D1 at *
            generalize hqq : t (p * 6 + j) = q at *
            have g1 : ((q : Int) != 0) = true := by simp; omega
            have hqi : (q : Int) < 33 := by omega
            clear hc0 hq hW hqq h0 hn dc dt dft hIl
            go_wp2_with (at_builtin; refine wpList_append_lies _ rfl _ _ _ rfl (w.heap.size + 3) 3 i0 _ 1 8 Tryz.underlying52 hi0 hz0 hz1 hz2 rfl (by omega) v ol (ivs D) rfl (World.ownsRow.alloc HO.out _) ⟨wr.heap.size, 0, none⟩ 1 1 [.int .i64 q] rfl rfl (World.news_of_block (cs := #[.int .i64 q]) (t := 3) (fr := (0, 0)) (heap_alloc_new _ _)) (by simp [Value.oneCell']) (by omega) (by unfold maxLen; omega) (by omega) (by simp; omega) _ rfl ?_; intro gg capx w2 hown2 hgrow hat hlt2; have hkp : ∀ g, g ≤ w.heap.size + 1 + 1 → w2.heap[g]? = wr.heap[g]? := (fun g hg => ((hgrow.block g (by simp; omega) (fun e => by have := hlow g e.symm; omega)).trans (Below.heap_alloc _ _ _ (by omega)))); have kc : w2.cell? ⟨w.heap.size + 1 + 1, q, none⟩ = some (.int .i64 (0 : Nat)) := (cell_same cc (hkp _ (Nat.le_refl _))); have kt : w2.cell? ⟨w.heap.size, p * 6 + j, none⟩ = some (.int .i64 (x : Nat)) := (cell_same ct (hkp _ (by show w.heap.size ≤ _; omega))); have kfc : w2.frozen? ⟨w.heap.size + 1 + 1, q, none⟩ = false := (by unfold World.frozen? at *; rw [hkp _ (Nat.le_refl _)]; exact fc); have kft : w2.frozen? ⟨w.heap.size, p * 6 + j, none⟩ = false := (by unfold World.frozen? at *; rw [hkp _ (by show w.heap.size ≤ _; omega)]; exact ft))
            go_region
            all_goals
              go_wp2
              go_roundw
              case rel =>
                have hb2 : Below w.heap.size w w2 := (HBl.out.alloc (by omega) _).trans (below_grown hgrow (by simp; omega) (fun g hg => by have := hlow g hg; omega))
                have ho2 : w2.ownsRow (w.heap.size + 3) 3 1 (.slice (some ⟨gg, 0, none⟩) (ol + 1) capx) D1.length (ivs D1) := by
                  rw [HOI.out, ivs_app, List.length_append, HIl.out]
                  exact hown2
                exact ⟨j + 1, _, by omega, by go_num, rfl, (HNw.out w2 _ hb2 hkp ho2).drew⟩
              case measure => simp [intOf]; omega
        · obtain rfl : j = 6 := by omega
          clear hW
          go_wp2
          go_roundw
          case rel => exact ⟨p + 1, v, by omega, by go_num, rfl, by rw [show (p + 1) * 6 = p * 6 + 6 by omega]; exact HW.out⟩
          case measure => simp [intOf]; omega
    · obtain rfl : p = 8 := by omega
      have HTs : Hid (wr.heap[w.heap.size]? = some (.cells (tabR (inO t)) 147)) := by
        have e : tabR (inOTo t (8 * 6)) = tabR (inO t) := by
          have e2 : tabL (inOTo t (8 * 6)) = tabL (inO t) := by
            unfold tabL
            apply List.map_congr_left
            intro i hi
            have : i < 48 := by simpa using hi
            unfold inOTo
            rw [if_pos (by omega)]
          unfold tabR
          rw [e2]
        rw [← e]
        exact hW.ts
      have HRs : Hid (wr.heap[w.heap.size + 1]? = some (.cells (tabR (fun _ => 0)) 147 (0, 0))) := hW.res
      have HOw : Hid (wr.ownsRow (w.heap.size + 3) 3 1 v (ordI t 48).length (ivs (ordI t 48))) := hW.own
      have HBl : Hid (Below w.heap.size w wr) := hW.bel
      have hsz := tabR_size (inO t)
      have HSz : Hid ((tabR (inO t)).size = 48) := hsz
      have HOn : Hid ((tabR (inO t)).all (·.oneCell') = true) := by
        show (tabR (inO t)).all (·.oneCell') = true
        unfold tabR irow
        simp [Value.oneCell']
      generalize hRq : tabR (inO t) = R at *
      have HRq : Hid (tabR (inO t) = R) := hRq
      clear hRq
      clear hW HW hsz
      go_wp2_with (first
        | (refine wpList_load_row rfl 147 _ rfl w.heap.size rfl 147 R (0, 0) _ HTs.out Tryz.underlying147 rfl (by rw [HSz.out]; exact tabSize) ?_)
        | (refine wpList_store_row rfl 147 _ _ rfl (w.heap.size + 1) R rfl rfl 147 _ HRs.out (by rw [HSz.out]; exact tabSize) (by rw [HSz.out]; exact tabR_size _) HOn.out ?_))
      (try simp only [Exit.inBlock, Exit.then])
      have hg2 : (wr.setRow (w.heap.size + 1) R).heap[w.heap.size + 1]? = some (.cells R 147) := setRow_heap wr _ _ _ _ _ HRs.out
      refine bodyPost_ret (results_cellrow_tmp rfl _ _ (w.heap.size + 1) 147 R (0, 0) _ rfl hg2 Tryz.underlying147 rfl (by rw [HSz.out]; exact tabSize)) rfl ?_
      refine ⟨v, by rw [HRq.out]; rfl, ?_, HBl.out.trans ((Upd.setRow (w.heap.size + 1) wr R).below (by omega) HBl.out.size)⟩
      have hlow := ownsRow_low HOw.out
      refine ownsRow_at (w := wr) ?_ (fun g hg => setRow_other wr _ g _ ?_)
      · refine ⟨HOw.out.1, ?_⟩
        rcases HOw.out.2 with h2 | ⟨g, cap, cur, h2, h3, r⟩
        · exact Or.inl h2
        · exact Or.inr ⟨g, cap, cur, h2, by omega, r⟩
      · have := hlow g hg
        omega
end Fd
end Go.Proofs.YtnlhedpfhgoncabGreatDoor
