/- Package fds: Ids. -/
import Derived.Test.YtkdbmfckfbmbiaaFdG
import Derived.Test.YtkdbmfckfbmbiaaFdL
namespace Go.Proofs.Ytkdbmfckfbmbiaa
open Go.RowKit
set_option linter.unusedVariables false

theorem ids_nil (n : Int) (w : World) :
    Calls Try.prog 29 #[.pointer none, .int .i64 n] w fun e w' => e = .returned (.slice none 0 0) ∧ w' = w := by
  go_enter Try.func29, Try.ntmps29
  go_wp2
  go_ret
  exact ⟨rfl, rfl⟩
/-- The ids, rising, each once. -/
def idsA (S : FS) (kind : Int) : List Int := Lib.compact ((idsTo S kind 32).mergeSort fun x y => decide (x ≤ y))
theorem holds_own {w : World} {base g n cap : Nat} {e : TypeId} {D : List Int} (h : w.ownsRow base e 1 (.slice (some ⟨g, 0, none⟩) n cap) D.length (ivs D)) : Go.Sort.Holds (Value.int .i64) w g 0 D.toArray := by
  rcases h.2 with ⟨e2, _⟩ | ⟨g', cap', cur, e2, _, hh, q1, _, _, ht⟩
  · cases e2
  · simp only [Value.slice.injEq, Option.some.injEq, Addr.mk.injEq] at e2
    obtain ⟨⟨rfl, _⟩, rfl, rfl⟩ := e2
    intro j hj
    have hj' : j < D.length := by simpa using hj
    refine ⟨?_, frozen_of_heap hh⟩
    have hq : (ivs D)[j]? = some (.int .i64 D[j]) := by simp [ivs, hj']
    rw [← ht, Nat.mul_one, List.getElem?_take_of_lt hj'] at hq
    rw [Nat.zero_add, cell_of_heap hh]
    have e3 : D.toArray[j]! = D[j] := by simp [hj']
    rw [e3]
    simpa using hq
theorem irow_holds {w : World} {g : Nat} {D E : List Int} (h : Go.Sort.Holds (Value.int .i64) w g 0 (D ++ E).toArray) : IRow w (some ⟨g, 0, none⟩) D := by
  intro j x hx
  obtain ⟨hj, he⟩ := List.getElem?_eq_some_iff.1 hx
  refine ⟨g, 0, rfl, ?_⟩
  have := (h j (by simp; omega)).1
  rw [this]
  have e3 : (D ++ E).toArray[j]! = x := by
    rw [← he]
    simp only [List.getElem!_toArray]
    rw [List.getElem!_eq_getElem?_getD, List.getElem?_append_left hj, List.getElem?_eq_getElem hj]
    rfl
  rw [e3]
theorem below_putRow {B g off n : Nat} {w0 w : World} (h : Below B w0 w) (hg : B ≤ g) (D : Array Int) : Below B w0 (Go.Sort.putRow (Value.int .i64) (Go.Sort.ahead w n) g off D) := by
  refine h.trans ⟨rfl, rfl, rfl, by simp, fun k hk => ?_⟩
  show (w.heap.modify g _)[k]? = w.heap[k]?
  rw [Array.getElem?_modify, if_neg (by omega)]
theorem below_growR {B : Nat} {w0 w : World} (h : Below B w0 w) (hB : B ≤ w.heap.size) (os : Array Obj) : Below B w0 (Go.Sort.grow w os) :=
  ⟨h.os, h.tape, h.output, by rw [Go.Sort.size_grow]; have := h.size; omega, fun k hk => by
    rw [Go.Sort.heap_grow_old w os (by omega)]
    exact h.block k hk⟩
theorem compact_len (l : List Int) : (Lib.compact l).length ≤ l.length := by
  unfold Lib.compact Lib.compactUpTo
  rw [List.length_map]
  exact Nat.le_trans (List.length_filter_le _ _) (by simp)

set_option maxHeartbeats 4000000 in
theorem ids_at (b : Nat) (S : FS) (kind : Int) (w : World) (h : FdAt w b S) :
    Calls Try.prog 29 #[.pointer (some ⟨b, 0, none⟩), .int .i64 kind] w fun e w' => ∃ a cap, e = .returned (.slice a (idsA S kind).length cap) ∧ IRow w' a (idsA S kind) ∧ Below w.heap.size w w' := by
  obtain ⟨i0, hi0, hzz⟩ := Option.map_eq_some_iff.1 intInfo
  simp only [Prod.mk.injEq] at hzz
  obtain ⟨hz0, hz1, hz2⟩ := hzz
  have HL : Hid _ := h.range
  have hne := ptr_eq b
  clear h
  go_enter Try.func29, Try.ntmps29
  go_wp2_with (first | (refine wpList_load_mid rfl 67 _ rfl b 0 rfl (fvals S) _ HL.out Try.underlying67 rfl (by kernel_rfl) ?_) | go_in)
  clear HL
  go_loopw [5, 14] (fun s i wr => ∃ (k : Nat) (v : Value), k ≤ 32 ∧ i = .int .i64 k ∧ v = s ∧ wr.ownsRow w.heap.size 3 1 v (idsTo S kind k).length (ivs (idsTo S kind k)) ∧ Below w.heap.size w wr) (fun _ i _ => 32 - (intOf i).toNat)
  case atStart => exact ⟨0, _, by omega, rfl, rfl, World.ownsRow_nil _ _ _ _, Below.refl _ _⟩
  case round =>
    obtain ⟨k, v, hk, rfl, rfl, hown, hB⟩ := hrel
    have HB : Hid (Below w.heap.size w wr) := hB
    have hsz := hB.size
    have HO : Hid (wr.ownsRow w.heap.size 3 1 v (idsTo S kind k).length (ivs (idsTo S kind k))) := hown
    have hle := idsTo_len S kind k
    by_cases hlt : k < 32
    · have hix := files_index S k hlt
      have i1 : decide ((k : Int) < 32) = true := decide_eq_true (by omega)
      by_cases h0 : 0 < (S.f k).refs
      · have g0 : decide (0 < (S.f k).refs) = true := decide_eq_true h0
        by_cases h1 : (S.f k).kind = kind
        · have g1 : ((S.f k).kind == kind) = true := by simp [h1]
          have HF : Hid (idsTo S kind (k + 1) = idsTo S kind k ++ [(S.f k).id]) := by show _ = _; rw [idsTo_succ, if_pos ⟨h0, h1⟩]
          generalize S.f k = x at *
          obtain ⟨xk, xi, xo, xa, xr⟩ := x
          unfold Fl.row at hix
          dsimp only at *
          clear hown hB h0 h1
          generalize idsTo S kind k = D at *
          go_wp2_with (first
            | (at_builtin; refine wpList_append_lies _ rfl _ _ _ rfl w.heap.size 3 i0 _ 1 8 Try.underlying56 hi0 hz0 hz1 hz2 rfl (by omega) v D.length (ivs D) rfl (World.ownsRow.alloc (World.ownsRow.alloc HO.out _) _) ⟨wr.heap.size + 1, 0, none⟩ 1 1 [.int .i64 xi] rfl rfl (World.news_of_block (cs := #[.int .i64 xi]) (t := 3) (fr := (0, 0)) (by have := heap_alloc_new (wr.alloc (.cells #[.int .i64 xk, .int .i64 xi, .int .i64 xo, .bool xa, .int .i64 xr] 30)) (.cells #[.int .i64 xi] 3); simpa using this)) (by simp [Value.oneCell']) (by omega) (by unfold maxLen; omega) (by omega) (by simp; omega) _ rfl ?_; intro gg capx w2 hown2 hgrow hat hlt2)
            | go_in)
          go_roundw
          case rel =>
            refine ⟨k + 1, _, by omega, by go_num, rfl, ?_, ((HB.out.alloc hsz _).alloc (by simp; omega) _).trans (below_grown hgrow (by simp; omega) (ownsRow_low HO.out))⟩
            rw [HF.out, ivs_app, List.length_append]
            exact hown2
          case measure => simp [intOf]; omega
        · have g1 : ((S.f k).kind == kind) = false := by simp [h1]
          have HF : Hid (idsTo S kind (k + 1) = idsTo S kind k) := by show _ = _; rw [idsTo_succ, if_neg (fun q => h1 q.2)]
          generalize S.f k = x at *
          obtain ⟨xk, xi, xo, xa, xr⟩ := x
          unfold Fl.row at hix
          dsimp only at *
          clear hown hB h0 h1
          go_wp2
          go_roundw
          case rel => exact ⟨k + 1, _, by omega, by go_num, rfl, by rw [HF.out]; exact World.ownsRow.alloc HO.out _, HB.out.alloc hsz _⟩
          case measure => simp [intOf]; omega
      · have g0 : decide (0 < (S.f k).refs) = false := decide_eq_false h0
        have HF : Hid (idsTo S kind (k + 1) = idsTo S kind k) := by show _ = _; rw [idsTo_succ, if_neg (fun q => h0 q.1)]
        generalize S.f k = x at *
        obtain ⟨xk, xi, xo, xa, xr⟩ := x
        unfold Fl.row at hix
        dsimp only at *
        clear hown hB h0
        go_wp2
        go_roundw
        case rel => exact ⟨k + 1, _, by omega, by go_num, rfl, by rw [HF.out]; exact World.ownsRow.alloc HO.out _, HB.out.alloc hsz _⟩
        case measure => simp [intOf]; omega
    · obtain rfl : k = 32 := by omega
      have HA : Hid (idsA S kind = Lib.compact ((idsTo S kind 32).mergeSort fun x y => decide (x ≤ y))) := rfl
      generalize idsTo S kind 32 = D at *
      by_cases hn : D.length = 0
      · have hD : D = [] := List.eq_nil_of_length_eq_zero hn
        subst hD
        have HA2 : Hid (idsA S kind = []) := by show idsA S kind = []; rw [HA.out]; simp [Lib.compact, Lib.compactUpTo]
        obtain ⟨a, cap, rfl⟩ := own_slice hown
        have hS := slices_Sort_int_none a cap wr
        have hC := slices_Compact_int_empty a cap wr
        clear hown hB
        go_wp2_with fail
        refine hS.mono ?_
        rintro e w1 ⟨rfl, hw⟩
        rw [hw]
        clear hw w1 hS
        go_wp2_with fail
        refine hC.mono ?_
        rintro e w1 ⟨rfl, hw⟩
        rw [hw]
        clear hw w1 hC
        go_wp2
        go_ret
        refine ⟨a, cap, ?_, ?_, HB.out⟩
        · rw [HA2.out]; rfl
        · rw [HA2.out]
          intro j x hx
          simp at hx
      · obtain ⟨g, cap, rfl, hgl, hgu⟩ := hown.form (by omega)
        have hH := holds_own hown
        have hlow := ownsRow_low hown g rfl
        have hcap := own_cap hown
        have hS := slices_Sort_int g 0 cap D wr hH hgu (by omega)
        have HLn : Hid ((D.mergeSort fun x y => decide (x ≤ y)).length = D.length) := List.length_mergeSort _
        have hC := fun W (hW : Go.Sort.Holds (Value.int .i64) W g 0 (D.mergeSort fun x y => decide (x ≤ y)).toArray) => slices_Compact_int g 0 cap (D.mergeSort fun x y => decide (x ≤ y)) W hW (by rw [HLn.out]; omega) (by rw [HLn.out]; exact hcap)
        have HHo : Hid (Go.Sort.Holds (Value.int .i64) wr g 0 D.toArray) := hH
        generalize (D.mergeSort fun x y => decide (x ≤ y)) = M at *
        generalize hDl : D.length = dl at *
        have HDl : Hid (dl = D.length) := hDl.symm
        clear hown hB hH HO hDl
        go_wp2_with fail
        refine hS.mono ?_
        rintro e w1 ⟨rfl, nn, os, hw⟩
        have hB1 : Below w.heap.size w w1 := by
          rw [hw]
          exact below_growR (below_putRow HB.out hlow _) (by simp; omega) _
        have hH1 : Go.Sort.Holds (Value.int .i64) w1 g 0 M.toArray := by
          rw [hw]
          refine Go.Sort.holds_grow _ _ _ _ _ _ (by simp; omega) ?_
          exact Go.Sort.holds_putRow _ _ _ _ D.toArray _ (Go.Sort.holds_ahead _ _ _ _ _ _ HHo.out) (by simp [HLn.out, ← HDl.out])
        have hC1 := hC w1 hH1
        have HB1 : Hid (Below w.heap.size w w1) := hB1
        have HH1 : Hid (Go.Sort.Holds (Value.int .i64) w1 g 0 M.toArray) := hH1
        have hml : M.length = dl := HLn.out
        rw [hml] at hC1
        clear hS hw hC hB1 hH1 hml
        go_wp2_with fail
        refine hC1.mono ?_
        rintro e w2 ⟨rfl, q, hw⟩
        have hB2 : Below w.heap.size w w2 := by
          rw [hw]
          exact below_putRow HB1.out hlow _
        have hcl := compact_len M
        have hH2 : Go.Sort.Holds (Value.int .i64) w2 g 0 (Lib.compact M ++ List.replicate (dl - (Lib.compact M).length) 0).toArray := by
          rw [hw]
          refine Go.Sort.holds_putRow _ _ _ _ M.toArray _ (Go.Sort.holds_ahead _ _ _ _ _ _ HH1.out) ?_
          have := HLn.out
          simp
          omega
        have HI : Hid (IRow w2 (some ⟨g, 0, none⟩) (Lib.compact M)) := irow_holds hH2
        have HB2 : Hid (Below w.heap.size w w2) := hB2
        clear hC1 hw hB2 hH2 HB1 HH1
        generalize hcm : Lib.compact M = Cm at *
        generalize hcl2 : Cm.length = cl at *
        have HCl : Hid (Cm.length = cl) := hcl2
        clear hcm hcl2
        go_wp2
        go_ret
        refine ⟨some ⟨g, 0, none⟩, cap, ?_, ?_, HB2.out⟩
        · rw [HA.out, HCl.out]; rfl
        · rw [HA.out]; exact HI.out
end Go.Proofs.Ytkdbmfckfbmbiaa
