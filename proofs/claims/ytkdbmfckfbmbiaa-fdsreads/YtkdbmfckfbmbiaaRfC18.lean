/- The reference of package fds: rows of files cut and joined; what a call may touch. -/
import Derived.Test.YtkdbmfckfbmbiaaRfB18
namespace Go.Proofs.Ytkdbmfckfbmbiaa
open Go.RowKit
set_option linter.unusedVariables false

theorem fInfo : (Try.prog.info? 80).map (fun i => (i.zero, i.size, i.bytes)) = some (some (.agg #[.int .i64 0, .int .i64 0, .int .i64 0, .bool false, .int .i64 0, .slice none 0 0]), 6, 64) := by kernel_rfl
theorem elemF : Try.prog.elem 26 = 80 := by kernel_rfl
/-- Files that can be read at an address. -/
def FRd (w : World) (a : Option Addr) (N : List En) : Prop := ∀ i u, (ecs N)[i]? = some u → ∃ g off, a = some ⟨g, off, none⟩ ∧ w.cell? ⟨g, off + i, none⟩ = some u
theorem FRd.below {w w' : World} {a : Option Addr} {N : List En} (h : FRd w a N) (hb : Below w.heap.size w w') : FRd w' a N := by
  intro i u hu
  obtain ⟨g, off, e, hc⟩ := h i u hu
  exact ⟨g, off, e, (hb.cell (cell_lt hc)).trans hc⟩
theorem FRd.of_own {w : World} {B : Nat} {a : Option Addr} {n cap : Nat} {N : List En} (h : w.ownsRow B 80 6 (.slice a n cap) N.length (ecs N)) : FRd w a N := by
  intro i u hu
  have hi := (List.getElem?_eq_some_iff.1 hu).1
  rw [ecs_len] at hi
  rcases h.2 with ⟨e, e2⟩ | ⟨g, cap', cur, e, _, hh, _, _, _, ht⟩
  · omega
  · simp only [Value.slice.injEq] at e
    obtain ⟨rfl, _, _⟩ := e
    rw [← ht, List.getElem?_take_of_lt (by omega)] at hu
    exact ⟨g, 0, rfl, by rw [Nat.zero_add, cell_of_heap hh]; simpa using hu⟩
theorem ecs_drop (N : List En) (k : Nat) : ecs (N.drop k) = (ecs N).drop (k * 6) := by
  have h : ecs N = ecs (N.take k) ++ ecs (N.drop k) := by rw [← ecs_app, List.take_append_drop]
  by_cases hk : k ≤ N.length
  · have hl : (ecs (N.take k)).length = k * 6 := by rw [ecs_len, List.length_take, Nat.min_eq_left hk]
    rw [h, ← hl, List.drop_left]
  · rw [List.drop_eq_nil_of_le (by omega), List.drop_eq_nil_of_le (by rw [ecs_len]; omega)]
    rfl
theorem ecs_take (N : List En) (k : Nat) : ecs (N.take k) = (ecs N).take (k * 6) := by
  have h : ecs N = ecs (N.take k) ++ ecs (N.drop k) := by rw [← ecs_app, List.take_append_drop]
  by_cases hk : k ≤ N.length
  · have hl : (ecs (N.take k)).length = k * 6 := by rw [ecs_len, List.length_take, Nat.min_eq_left hk]
    rw [h, ← hl, List.take_left]
  · rw [List.take_of_length_le (by omega), List.take_of_length_le (by rw [ecs_len]; omega)]
set_option maxRecDepth 100000 in
/-- l[:k]. -/
theorem cutF_h (N : List En) (a : Option Addr) (len cap k : Nat) (hl : len = N.length) (hk : k ≤ len) (hcap : len ≤ cap) : ∃ a2 c2, (∀ V, (Instr.slice 26 (.slice a len cap) none (some (.int .i64 (k : Int))) none).run Try.prog V = .ok (.slice a2 k c2) V) ∧ (∀ W, FRd W a N → FRd W a2 (N.take k)) := by
  obtain ⟨i0, hi0, hzz⟩ := Option.map_eq_some_iff.1 fInfo
  simp only [Prod.mk.injEq] at hzz
  refine ⟨a, cap, fun V => ?_, fun W ha => ?_⟩
  · have hk0 : (k : Int) ≤ (cap : Int) := by omega
    rw [run_slice_h V 26 _ _ _ Try.underlying26 _ _ (by omega) hk0]
    cases a <;> simp [sizeOf, typeInfo, elemF, hi0, sliced, hzz.2.1, Addr.add]
  · intro i u hu
    rw [ecs_take] at hu
    have hi := (List.getElem?_eq_some_iff.1 hu).1
    rw [List.length_take] at hi
    rw [List.getElem?_take_of_lt (by omega)] at hu
    exact ha i u hu
set_option maxRecDepth 100000 in
/-- l[k:]. -/
theorem cutF_l (N : List En) (a : Option Addr) (len cap k : Nat) (hl : len = N.length) (hk : k ≤ len) (hcap : len ≤ cap) : ∃ a2 c2, (∀ V, (Instr.slice 26 (.slice a len cap) (some (.int .i64 (k : Int))) none none).run Try.prog V = .ok (.slice a2 (len - k) c2) V) ∧ (∀ W, FRd W a N → FRd W a2 (N.drop k)) := by
  obtain ⟨i0, hi0, hzz⟩ := Option.map_eq_some_iff.1 fInfo
  simp only [Prod.mk.injEq] at hzz
  refine ⟨if cap = k then a else a.map (·.add (k * 6)), cap - k, fun V => ?_, fun W ha => ?_⟩
  · have hk0 : (k : Int) ≤ (len : Int) := by omega
    rw [run_slice_l V 26 _ _ _ Try.underlying26 _ _ (by omega) hk0]
    simp [sizeOf, typeInfo, elemF, hi0, sliced, hzz.2.1]
  · intro i u hu
    rw [ecs_drop] at hu
    have hi := (List.getElem?_eq_some_iff.1 hu).1
    rw [List.length_drop, ecs_len] at hi
    rw [List.getElem?_drop] at hu
    obtain ⟨g, off, e, hc⟩ := ha (k * 6 + i) u hu
    refine ⟨g, off + k * 6, ?_, ?_⟩
    · rw [if_neg (by omega), e]
      simp [Addr.add]
    · rw [Nat.add_assoc]
      exact hc
/-- append(u, l...). -/
theorem appF {w : World} {B : Nat} {u : Value} {M N : List En} (ho : w.ownsRow B 80 6 u M.length (ecs M)) (hB : B ≤ w.heap.size) {a2 : Option Addr} {n2 c2 : Nat} (hn : n2 = N.length) (hr : FRd w a2 N) (hl : M.length + N.length ≤ 1000) :
    ∃ a c w', (∀ ty, (Builtin.append_ #[26, 26] ty #[u, .slice a2 n2 c2]).run Try.prog w = .ok (.slice a (M ++ N).length c) w') ∧ w'.ownsRow B 80 6 (.slice a (M ++ N).length c) (M ++ N).length (ecs (M ++ N)) ∧ w.grownBy w' u.ownBlock := by
  obtain ⟨i0, hi0, hzz⟩ := Option.map_eq_some_iff.1 fInfo
  simp only [Prod.mk.injEq] at hzz
  obtain ⟨hz0, hz1, hz2⟩ := hzz
  subst hn
  by_cases h0 : N.length = 0
  · have hN : N = [] := List.eq_nil_of_length_eq_zero h0
    subst hN
    obtain ⟨av, cv, rfl⟩ := own_slice ho
    have hle := own_cap ho
    refine ⟨av, cv, w, fun ty => ?_, ?_, grown_below _ (Below.refl _ _)⟩
    · rw [List.append_nil]
      exact run_append_zero w _ _ i0 Try.underlying26 hi0 _ _ _ cv _ hle ty
    · rw [List.append_nil]
      exact ho
  · have hx : ∃ u0, (ecs N)[0]? = some u0 := ⟨_, List.getElem?_eq_getElem (by rw [ecs_len]; omega)⟩
    obtain ⟨u0, hu0⟩ := hx
    obtain ⟨g2, off2, rfl, _⟩ := hr 0 u0 hu0
    obtain ⟨g', cap', w', hr', hown, hgrow, _, _⟩ := run_append_lies (P := Try.prog) w 26 0 B 80 i0 _ 6 64 Try.underlying26 hi0 hz0 hz1 hz2 rfl (by omega) u M.length (ecs M) ho
      ⟨g2, off2, none⟩ N.length c2 (ecs N) (by rw [ecs_len]) (fun j x hx => by
        obtain ⟨g3, off3, e3, hc⟩ := hr j x hx
        simp only [Option.some.injEq, Addr.mk.injEq, and_true] at e3
        obtain ⟨rfl, rfl⟩ := e3
        rw [add0]
        exact hc) (ecs_one N) (by omega) (by unfold maxLen; omega) (by omega) hB _ rfl
    refine ⟨some ⟨g', 0, none⟩, cap', w', fun ty => ?_, ?_, hgrow⟩
    · rw [List.length_append]
      exact hr'
    · rw [List.length_append, ecs_app]
      exact hown
theorem own_F1 {w : World} (B : Nat) (e : En) (hB : B ≤ w.heap.size) : (w.alloc (.cells (ec e).toArray 80)).ownsRow B 80 6 (.slice (some ⟨w.heap.size, 0, none⟩) 1 1) [e].length (ecs [e]) := by
  exact ⟨by rw [ecs_len], Or.inr ⟨w.heap.size, 1, (ec e).toArray, rfl, hB, heap_alloc_new _ _, Nat.le_refl _, by unfold maxLen; omega, by simp [ec], by simp [ecs, ec]⟩⟩
/-- What the reference's calls may touch: its own kinds of blocks, from B on. -/
structure RU (B : Nat) (w w' : World) : Prop where
  os : w'.os = w.os
  tape : w'.tape = w.tape
  output : w'.output = w.output
  size : w.heap.size ≤ w'.heap.size
  low : ∀ k, k < B → w'.heap[k]? = w.heap[k]?
  other : ∀ (k : Nat) (cs : Array Value) (t : TypeId) (fr : Nat × Nat), w.heap[k]? = some (.cells cs t fr) → t ≠ 28 → t ≠ 80 → w'.heap[k]? = some (.cells cs t fr)
theorem RU.refl (B : Nat) (w : World) : RU B w w := ⟨rfl, rfl, rfl, Nat.le_refl _, fun _ _ => rfl, fun _ _ _ _ h _ _ => h⟩
theorem RU.trans {B : Nat} {a b c : World} (h : RU B a b) (k : RU B b c) : RU B a c :=
  ⟨k.os.trans h.os, k.tape.trans h.tape, k.output.trans h.output, Nat.le_trans h.size k.size, fun i hi => (k.low i hi).trans (h.low i hi), fun i cs t fr hi h1 h2 => k.other i cs t fr (h.other i cs t fr hi h1 h2) h1 h2⟩
theorem RU.of_below {B : Nat} {w w' : World} (h : Below w.heap.size w w') (hB : B ≤ w.heap.size) : RU B w w' :=
  ⟨h.os, h.tape, h.output, h.size, fun k hk => h.block k (by omega), fun k cs t fr hk _ _ => (h.block k (lt_of_heap hk)).trans hk⟩
theorem RU.cell {B : Nat} {w : World} {g o : Nat} {cs : Array Value} {t : TypeId} {fr : Nat × Nat} (hg : w.heap[g]? = some (.cells cs t fr)) (ht : t = 28 ∨ t = 80) (hB : B ≤ g) (v : Value) : RU B w (w.setCell ⟨g, o, none⟩ v) := by
  refine ⟨rfl, rfl, rfl, by simp [World.setCell], fun k hk => Below.heap_setCell _ _ _ _ (by show k ≠ g; omega), fun k cs' t' fr' hk h1 h2 => ?_⟩
  rw [Below.heap_setCell _ _ _ _ ?_]
  · exact hk
  · show k ≠ g
    rintro rfl
    rw [hg] at hk
    simp only [Option.some.injEq, Obj.cells.injEq] at hk
    rcases ht with e | e
    · exact h1 (hk.2.1.symm.trans e)
    · exact h2 (hk.2.1.symm.trans e)
theorem RU.upd {B c : Nat} {w w' : World} {v : Value} (h : Upd c w w') (hc : w.heap[c]? = some (.cells #[v] 28)) (hB : B ≤ c) (hs : B ≤ w.heap.size) : RU B w w' := by
  refine ⟨h.os, h.tape, h.output, h.size, fun k hk => h.block k (by omega) (by omega), fun k cs t fr hk h1 _ => (h.block k (lt_of_heap hk) ?_).trans hk⟩
  rintro rfl
  rw [hc] at hk
  simp only [Option.some.injEq, Obj.cells.injEq] at hk
  exact h1 hk.2.1.symm
theorem RU.below {B : Nat} {w0 w w' : World} (h : Below w0.heap.size w0 w) (hu : RU B w w') (hB : w0.heap.size ≤ B) : Below w0.heap.size w0 w' :=
  h.trans ⟨hu.os, hu.tape, hu.output, hu.size, fun k hk => hu.low k (by omega)⟩
theorem FdAt.ru {B : Nat} {w w' : World} {b : Nat} {S : FS} (h : FdAt w b S) (hu : RU B w w') : FdAt w' b S := by
  obtain ⟨row, hr, h1⟩ := h.head
  exact ⟨⟨row, hu.other _ _ _ _ hr (by decide) (by decide), h1⟩⟩
end Go.Proofs.Ytkdbmfckfbmbiaa
