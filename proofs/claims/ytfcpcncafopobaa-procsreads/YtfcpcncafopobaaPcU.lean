/- Appends of words and of ints whose run is known; rows of ints behind a sort. -/
import Derived.Test.YtfcpcncafopobaaOwnR
import Derived.Deep.AppendLies
import Derived.Shelf.Sort.Plain
namespace Go.Proofs.Ytfcpcncafopobaa
open Go.RowKit Go.Lib
set_option linter.unusedVariables false

/-- What an append of words may touch. -/
structure UW (B : Nat) (w w' : World) : Prop where
  bel : Below B w w'
  oth : ∀ (k : Nat) (cs : Array Value) (t : TypeId) (fz : Nat × Nat), w.heap[k]? = some (.cells cs t fz) → t ≠ 76 → w'.heap[k]? = w.heap[k]?
theorem UW.refl (B : Nat) (w : World) : UW B w w := ⟨Below.refl _ _, fun _ _ _ _ _ _ => rfl⟩
theorem UW.trans {B : Nat} {a b c : World} (h : UW B a b) (k : UW B b c) : UW B a c :=
  ⟨h.bel.trans k.bel, fun i cs t fz hi ht => by
    have h1 := h.oth i cs t fz hi ht
    exact (k.oth i cs t fz (h1.trans hi) ht).trans h1⟩
theorem UW.of_below {B : Nat} {w w' : World} (hB : B ≤ w.heap.size) (h : Below w.heap.size w w') : UW B w w' := ⟨h.mono hB, fun i cs t fz hi ht => h.block i (lt_of_heap hi)⟩
theorem UW.own {w w' : World} {B : Nat} {v : Value} {n : Nat} {xs : List Value} (h : w.ownsRow B 76 1 v n xs) (hs : B ≤ w.heap.size) (hg : w.grownBy w' v.ownBlock) : UW B w w' := by
  refine ⟨below_grown hg hs (ownsRow_low h), fun i cs t fz hi ht => hg.block i (lt_of_heap hi) (fun e => ?_)⟩
  obtain ⟨c2, k2⟩ := own_type h e.symm
  rw [hi] at k2
  simp only [Option.some.injEq, Obj.cells.injEq] at k2
  exact ht k2.2.1
/-- append(v, x). -/
theorem app1 {w : World} {B n c : Nat} {a : Option Addr} {D : List Int} (ho : w.ownsRow B 76 1 (.slice a n c) D.length (uvs D)) (hn : D.length = n) (hB : B ≤ w.heap.size) (hl : n ≤ 2000) (x0 : Int) :
    ∃ a' c' w', (∀ ty, (Builtin.append_ #[47, 47] ty #[.slice a n c, .slice (some ⟨w.heap.size, 0, none⟩) 1 1]).run Try.prog (w.alloc (.cells #[.int .u64 x0] 76)) = .ok (.slice a' (n + 1) c') w') ∧ w'.ownsRow B 76 1 (.slice a' (n + 1) c') (D ++ [x0]).length (uvs (D ++ [x0])) ∧ UW B w w' := by
  obtain ⟨i0, hi0, hzz⟩ := Option.map_eq_some_iff.1 wordInfo
  simp only [Prod.mk.injEq] at hzz
  obtain ⟨hz0, hz1, hz2⟩ := hzz
  have hbe : Below w.heap.size w (w.alloc (.cells #[.int .u64 x0] 76)) := below_alloc _ _
  have hnew : (w.alloc (.cells #[.int .u64 x0] 76)).heap[w.heap.size]? = some (.cells #[.int .u64 x0] 76) := heap_alloc_new _ _
  have ho1 := ownsRow_below ho hbe
  obtain ⟨g', cap', w', hr', hown, hgrow, _, _⟩ := run_append_lies (P := Try.prog) _ 47 0 B 76 i0 _ 1 8 Try.underlying47 hi0 hz0 hz1 hz2 rfl (by omega) _ D.length (uvs D) ho1
    ⟨w.heap.size, 0, none⟩ 1 1 (uvs [x0]) rfl (fun j x hx => by
      rw [add0, Nat.zero_add, cell_of_heap hnew, ← hx]
      simp [uvs]) (uvs_one _) (by omega) (by unfold maxLen; omega) (by omega) (Nat.le_trans hB hbe.size) _ rfl
  rw [hn] at hr' hown
  refine ⟨some ⟨g', 0, none⟩, cap', w', fun ty => hr', ?_, (UW.of_below hB hbe).trans (UW.own ho1 (Nat.le_trans hB hbe.size) hgrow)⟩
  rw [List.length_append, uvs_app, hn]
  exact hown
/-- append(v, x, y, z). -/
theorem app3 {w : World} {B n c : Nat} {a : Option Addr} {D : List Int} (ho : w.ownsRow B 76 1 (.slice a n c) D.length (uvs D)) (hn : D.length = n) (hB : B ≤ w.heap.size) (hl : n ≤ 2000) (x0 x1 x2 : Int) :
    ∃ a' c' w', (∀ ty, (Builtin.append_ #[47, 47] ty #[.slice a n c, .slice (some ⟨w.heap.size, 0, none⟩) 3 3]).run Try.prog (w.alloc (.cells #[.int .u64 x0, .int .u64 x1, .int .u64 x2] 76)) = .ok (.slice a' (n + 3) c') w') ∧ w'.ownsRow B 76 1 (.slice a' (n + 3) c') (D ++ [x0, x1, x2]).length (uvs (D ++ [x0, x1, x2])) ∧ UW B w w' := by
  obtain ⟨i0, hi0, hzz⟩ := Option.map_eq_some_iff.1 wordInfo
  simp only [Prod.mk.injEq] at hzz
  obtain ⟨hz0, hz1, hz2⟩ := hzz
  have hbe : Below w.heap.size w (w.alloc (.cells #[.int .u64 x0, .int .u64 x1, .int .u64 x2] 76)) := below_alloc _ _
  have hnew : (w.alloc (.cells #[.int .u64 x0, .int .u64 x1, .int .u64 x2] 76)).heap[w.heap.size]? = some (.cells #[.int .u64 x0, .int .u64 x1, .int .u64 x2] 76) := heap_alloc_new _ _
  have ho1 := ownsRow_below ho hbe
  obtain ⟨g', cap', w', hr', hown, hgrow, _, _⟩ := run_append_lies (P := Try.prog) _ 47 0 B 76 i0 _ 1 8 Try.underlying47 hi0 hz0 hz1 hz2 rfl (by omega) _ D.length (uvs D) ho1
    ⟨w.heap.size, 0, none⟩ 3 3 (uvs [x0, x1, x2]) rfl (fun j x hx => by
      rw [add0, Nat.zero_add, cell_of_heap hnew, ← hx]
      simp [uvs]) (uvs_one _) (by omega) (by unfold maxLen; omega) (by omega) (Nat.le_trans hB hbe.size) _ rfl
  rw [hn] at hr' hown
  refine ⟨some ⟨g', 0, none⟩, cap', w', fun ty => hr', ?_, (UW.of_below hB hbe).trans (UW.own ho1 (Nat.le_trans hB hbe.size) hgrow)⟩
  rw [List.length_append, uvs_app, hn]
  exact hown
theorem wp_append_eq {P : Program} {w w' : World} {o : Oper} {a : Act} {K : Act → World → Prop} {Q : Exit → Act → World → Prop} (s x : Operand) (t : TypeId)
    (ho : o.op = .call { callee := .builtin .append, args := #[s, x], argTypes := #[t, t] }) (sv xv r : Value) (hs : a.eval s = sv) (hx : a.eval x = xv) (hr : ∀ ty, (Builtin.append_ #[t, t] ty #[sv, xv]).run P w = .ok r w')
    (h : K (a.put o.dst r) w') : o.wp P a w K Q := by
  unfold Oper.wp
  simp [execOp, ho, resolve, invoke, builtin, hs, hx, hr, Result.andThen]
  exact h
/-- append(v, x), of ints. -/
theorem app1i {w : World} {B n c : Nat} {a : Option Addr} {D : List Int} (ho : w.ownsRow B 3 1 (.slice a n c) D.length (ivs D)) (hn : D.length = n) (hB : B ≤ w.heap.size) (hl : n ≤ 2000) (x0 : Int) :
    ∃ a' c' w', (∀ ty, (Builtin.append_ #[52, 52] ty #[.slice a n c, .slice (some ⟨w.heap.size, 0, none⟩) 1 1]).run Try.prog (w.alloc (.cells #[.int .i64 x0] 3)) = .ok (.slice a' (n + 1) c') w') ∧ w'.ownsRow B 3 1 (.slice a' (n + 1) c') (D ++ [x0]).length (ivs (D ++ [x0])) ∧ w.grownBy w' (Value.slice a n c).ownBlock := by
  obtain ⟨i0, hi0, hzz⟩ := Option.map_eq_some_iff.1 intInfo
  simp only [Prod.mk.injEq] at hzz
  obtain ⟨hz0, hz1, hz2⟩ := hzz
  have hbe : Below w.heap.size w (w.alloc (.cells #[.int .i64 x0] 3)) := below_alloc _ _
  have hnew : (w.alloc (.cells #[.int .i64 x0] 3)).heap[w.heap.size]? = some (.cells #[.int .i64 x0] 3) := heap_alloc_new _ _
  have ho1 := ownsRow_below ho hbe
  obtain ⟨g', cap', w', hr', hown, hgrow, _, _⟩ := run_append_lies (P := Try.prog) _ 52 0 B 3 i0 _ 1 8 Try.underlying52 hi0 hz0 hz1 hz2 rfl (by omega) _ D.length (ivs D) ho1
    ⟨w.heap.size, 0, none⟩ 1 1 (ivs [x0]) rfl (fun j x hx => by
      rw [add0, Nat.zero_add, cell_of_heap hnew, ← hx]
      simp [ivs]) (ivs_one _) (by omega) (by unfold maxLen; omega) (by omega) (Nat.le_trans hB hbe.size) _ rfl
  rw [hn] at hr' hown
  refine ⟨some ⟨g', 0, none⟩, cap', w', fun ty => hr', ?_, grown_trans (grown_below _ hbe) hgrow⟩
  rw [List.length_append, ivs_app, hn]
  exact hown
theorem holds_own {w : World} {base g n cap : Nat} {e : TypeId} {D : List Int} (h : w.ownsRow base e 1 (.slice (some ⟨g, 0, none⟩) n cap) D.length (ivs D)) : Go.Sort.Holds (Value.int .i64) w g 0 D.toArray := by
  rcases h.2 with ⟨e2, _⟩ | ⟨g', cap', cur, e2, _, hh, q1, _, _, ht⟩
  · cases e2
  · simp only [Value.slice.injEq, Option.some.injEq, Addr.mk.injEq] at e2
    obtain ⟨⟨rfl, _⟩, rfl, rfl⟩ := e2
    intro j hj
    have hj' : j < D.length := by simpa using hj
    refine ⟨?_, frozen_of_heap hh⟩
    have hq : (ivs D)[j]? = some (.int .i64 D[j]) := by simp [ivs, hj']
    rw [← ht, Nat.mul_one, List.getElem?_take_of_lt hj'] at hq
    rw [Nat.zero_add, cell_of_heap hh]
    have e3 : D.toArray[j]! = D[j] := by simp [hj']
    rw [e3]
    simpa using hq
theorem irow_holds {w : World} {g : Nat} {D E : List Int} (h : Go.Sort.Holds (Value.int .i64) w g 0 (D ++ E).toArray) : IRow w (some ⟨g, 0, none⟩) D := by
  intro j x hx
  obtain ⟨hj, he⟩ := List.getElem?_eq_some_iff.1 hx
  refine ⟨g, 0, rfl, ?_⟩
  have := (h j (by simp; omega)).1
  rw [this]
  have e3 : (D ++ E).toArray[j]! = x := by
    rw [← he]
    simp only [List.getElem!_toArray]
    rw [List.getElem!_eq_getElem?_getD, List.getElem?_append_left hj, List.getElem?_eq_getElem hj]
    rfl
  rw [e3]
theorem below_putRow {B g off n : Nat} {w0 w : World} (h : Below B w0 w) (hg : B ≤ g) (D : Array Int) : Below B w0 (Go.Sort.putRow (Value.int .i64) (Go.Sort.ahead w n) g off D) := by
  refine h.trans ⟨rfl, rfl, rfl, by simp, fun k hk => ?_⟩
  show (w.heap.modify g _)[k]? = w.heap[k]?
  rw [Array.getElem?_modify, if_neg (by omega)]
theorem below_growR {B : Nat} {w0 w : World} (h : Below B w0 w) (hB : B ≤ w.heap.size) (os : Array Obj) : Below B w0 (Go.Sort.grow w os) :=
  ⟨h.os, h.tape, h.output, by rw [Go.Sort.size_grow]; have := h.size; omega, fun k hk => by
    rw [Go.Sort.heap_grow_old w os (by omega)]
    exact h.block k hk⟩
theorem elemW : Try.prog.elem 47 = 76 := by kernel_rfl
set_option maxRecDepth 100000 in
/-- l[j:] of words. -/
theorem cut_wl (D : List Int) (a : Option Addr) (len cap j : Nat) (hl : len = D.length) (hj : j ≤ len) (hcap : len ≤ cap) : ∃ a2 c2, (∀ V, (Instr.slice 47 (.slice a len cap) (some (.int .i64 (j : Int))) none none).run Try.prog V = .ok (.slice a2 (len - j) c2) V) ∧ len - j ≤ c2 ∧ (∀ W, Rd W a D → Rd W a2 (D.drop j)) := by
  obtain ⟨i0, hi0, hzz⟩ := Option.map_eq_some_iff.1 wordInfo
  simp only [Prod.mk.injEq] at hzz
  refine ⟨if cap = j then a else a.map (·.add (j * 1)), cap - j, fun V => ?_, by omega, fun W ha => ?_⟩
  · have hk0 : (j : Int) ≤ (len : Int) := by omega
    rw [run_slice_l V 47 _ _ _ Try.underlying47 _ _ (by omega) hk0]
    simp [sizeOf, typeInfo, elemW, hi0, sliced, hzz.2.1]
  · intro i x hx
    rw [List.getElem?_drop] at hx
    have hlt := (List.getElem?_eq_some_iff.1 hx).1
    obtain ⟨g, off, e, hc⟩ := ha (j + i) x hx
    refine ⟨g, off + j, ?_, ?_⟩
    · rw [if_neg (by omega), e]
      simp [Addr.add]
    · rw [Nat.add_assoc]
      exact hc
set_option maxRecDepth 100000 in
/-- l[:j] of words. -/
theorem cut_wh (D : List Int) (a : Option Addr) (len cap j : Nat) (k : IntKind) (hj : j ≤ len) (hcap : len ≤ cap) : (∃ c2, j ≤ c2 ∧ ∀ V, (Instr.slice 47 (.slice a len cap) none (some (.int k (j : Int))) none).run Try.prog V = .ok (.slice a j c2) V) ∧ (∀ W, Rd W a D → Rd W a (D.take j)) := by
  obtain ⟨i0, hi0, hzz⟩ := Option.map_eq_some_iff.1 wordInfo
  simp only [Prod.mk.injEq] at hzz
  refine ⟨⟨cap, by omega, fun V => ?_⟩, fun W ha => ?_⟩
  · simp [Instr.slice, Instr.sliceBounds, run_underlying Try.underlying47, run_sliceBound, go_sem, sizeOf, typeInfo, hi0, show j ≤ cap by omega]
  · intro i x hx
    have hlt := (List.getElem?_eq_some_iff.1 hx).1
    rw [List.length_take] at hlt
    rw [List.getElem?_take_of_lt (by omega)] at hx
    exact ha i x hx
end Go.Proofs.Ytfcpcncafopobaa
