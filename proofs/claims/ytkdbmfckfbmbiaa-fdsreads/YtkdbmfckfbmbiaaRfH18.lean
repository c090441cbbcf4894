/- The reference of package fds: rows of descriptors. -/
import Derived.Test.YtkdbmfckfbmbiaaRfG18
namespace Go.Proofs.Ytkdbmfckfbmbiaa
open Go.RowKit
set_option linter.unusedVariables false

theorem pInfo : (Try.prog.info? 77).map (fun i => (i.zero, i.size, i.bytes)) = some (some (.agg #[.int .i64 0, .int .i64 0]), 2, 16) := by kernel_rfl
theorem elemP : Try.prog.elem 78 = 77 := by kernel_rfl
/-- Descriptors that can be read at an address. -/
def PX (w : World) (a : Option Addr) (N : List Nat) : Prop := ∀ i u, (prs N)[i]? = some u → ∃ g off, a = some ⟨g, off, none⟩ ∧ w.cell? ⟨g, off + i, none⟩ = some u
theorem PX.below {w w' : World} {a : Option Addr} {N : List Nat} (h : PX w a N) (hb : Below w.heap.size w w') : PX w' a N := by
  intro i u hu
  obtain ⟨g, off, e, hc⟩ := h i u hu
  exact ⟨g, off, e, (hb.cell (cell_lt hc)).trans hc⟩
theorem PX.of_prd {w : World} {a : Option Addr} {d : List Nat} (h : PRd w a d) : PX w a d := by
  intro i u hu
  have hi := (List.getElem?_eq_some_iff.1 hu).1
  rw [prs_len] at hi
  have hj : d[i / 2]? = some (d[i / 2]'(by omega)) := List.getElem?_eq_getElem _
  obtain ⟨g, e, _, c0, c1⟩ := h _ _ hj
  obtain ⟨p0, p1⟩ := prs_get d _ _ hj
  refine ⟨g, 0, e, ?_⟩
  rw [Nat.zero_add]
  rcases Nat.mod_two_eq_zero_or_one i with q | q
  · have : i / 2 * 2 = i := by omega
    rw [this] at c0 p0
    rw [c0, ← hu, p0]
  · have : i / 2 * 2 + 1 = i := by omega
    rw [this] at c1 p1
    rw [c1, ← hu, p1]
theorem PX.one {w : World} (x : Nat) (a b : Int) (ha : ((x / 6 + 1 : Nat) : Int) = a) (hb : ((x % 6 : Nat) : Int) = b) : PX (w.alloc (.cells #[.int .i64 a, .int .i64 b] 77)) (some ⟨w.heap.size, 0, none⟩) [x] := by
  intro i u hu
  subst ha hb
  refine ⟨w.heap.size, 0, rfl, ?_⟩
  have hi := (List.getElem?_eq_some_iff.1 hu).1
  rw [prs_len] at hi
  simp only [List.length_cons, List.length_nil] at hi
  rw [Nat.zero_add, cell_of_heap (heap_alloc_new _ _), ← hu]
  obtain rfl | rfl : i = 0 ∨ i = 1 := by omega
  all_goals rfl
theorem prs_drop (N : List Nat) (k : Nat) : prs (N.drop k) = (prs N).drop (k * 2) := by
  have h : prs N = prs (N.take k) ++ prs (N.drop k) := by rw [← prs_app, List.take_append_drop]
  by_cases hk : k ≤ N.length
  · have hl : (prs (N.take k)).length = k * 2 := by rw [prs_len, List.length_take, Nat.min_eq_left hk]
    rw [h, ← hl, List.drop_left]
  · rw [List.drop_eq_nil_of_le (by omega), List.drop_eq_nil_of_le (by rw [prs_len]; omega)]
    rfl
set_option maxRecDepth 100000 in
/-- l[k:]. -/
theorem cutP_l (N : List Nat) (a : Option Addr) (len cap k : Nat) (hl : len = N.length) (hk : k ≤ len) (hcap : len ≤ cap) : ∃ a2 c2, (∀ V, (Instr.slice 78 (.slice a len cap) (some (.int .i64 (k : Int))) none none).run Try.prog V = .ok (.slice a2 (len - k) c2) V) ∧ (∀ W, PX W a N → PX W a2 (N.drop k)) := by
  obtain ⟨i0, hi0, hzz⟩ := Option.map_eq_some_iff.1 pInfo
  simp only [Prod.mk.injEq] at hzz
  refine ⟨if cap = k then a else a.map (·.add (k * 2)), cap - k, fun V => ?_, fun W ha => ?_⟩
  · have hk0 : (k : Int) ≤ (len : Int) := by omega
    rw [run_slice_l V 78 _ _ _ Try.underlying78 _ _ (by omega) hk0]
    simp [sizeOf, typeInfo, elemP, hi0, sliced, hzz.2.1]
  · intro i u hu
    rw [prs_drop] at hu
    have hi := (List.getElem?_eq_some_iff.1 hu).1
    rw [List.length_drop, prs_len] at hi
    rw [List.getElem?_drop] at hu
    obtain ⟨g, off, e, hc⟩ := ha (k * 2 + i) u hu
    refine ⟨g, off + k * 2, ?_, ?_⟩
    · rw [if_neg (by omega), e]
      simp [Addr.add]
    · rw [Nat.add_assoc]
      exact hc
/-- append(u, l...). -/
theorem appP {w : World} {B : Nat} {u : Value} {M N : List Nat} (ho : w.ownsRow B 77 2 u M.length (prs M)) (hB : B ≤ w.heap.size) {a2 : Option Addr} {n2 c2 : Nat} (hn : n2 = N.length) (hr : PX w a2 N) (hl : M.length + N.length ≤ 1000) :
    ∃ a c w', (∀ ty, (Builtin.append_ #[78, 78] ty #[u, .slice a2 n2 c2]).run Try.prog w = .ok (.slice a (M ++ N).length c) w') ∧ w'.ownsRow B 77 2 (.slice a (M ++ N).length c) (M ++ N).length (prs (M ++ N)) ∧ w.grownBy w' u.ownBlock := by
  obtain ⟨i0, hi0, hzz⟩ := Option.map_eq_some_iff.1 pInfo
  simp only [Prod.mk.injEq] at hzz
  obtain ⟨hz0, hz1, hz2⟩ := hzz
  subst hn
  by_cases h0 : N.length = 0
  · have hN : N = [] := List.eq_nil_of_length_eq_zero h0
    subst hN
    obtain ⟨av, cv, rfl⟩ := own_slice ho
    have hle := own_cap ho
    refine ⟨av, cv, w, fun ty => ?_, ?_, grown_below _ (Below.refl _ _)⟩
    · rw [List.append_nil]
      exact run_append_zero w _ _ i0 Try.underlying78 hi0 _ _ _ cv _ hle ty
    · rw [List.append_nil]
      exact ho
  · have hx : ∃ u0, (prs N)[0]? = some u0 := ⟨_, List.getElem?_eq_getElem (by rw [prs_len]; omega)⟩
    obtain ⟨u0, hu0⟩ := hx
    obtain ⟨g2, off2, rfl, _⟩ := hr 0 u0 hu0
    obtain ⟨g', cap', w', hr', hown, hgrow, _, _⟩ := run_append_lies (P := Try.prog) w 78 0 B 77 i0 _ 2 16 Try.underlying78 hi0 hz0 hz1 hz2 rfl (by omega) u M.length (prs M) ho
      ⟨g2, off2, none⟩ N.length c2 (prs N) (by rw [prs_len]) (fun j x hx => by
        obtain ⟨g3, off3, e3, hc⟩ := hr j x hx
        simp only [Option.some.injEq, Addr.mk.injEq, and_true] at e3
        obtain ⟨rfl, rfl⟩ := e3
        rw [add0]
        exact hc) (prs_one N) (by omega) (by unfold maxLen; omega) (by omega) hB _ rfl
    refine ⟨some ⟨g', 0, none⟩, cap', w', fun ty => ?_, ?_, hgrow⟩
    · rw [List.length_append]
      exact hr'
    · rw [List.length_append, prs_app]
      exact hown
/-- append(u, x). -/
theorem pushP {w : World} {B n c0 : Nat} {a0 : Option Addr} {M : List Nat} (ho : w.ownsRow B 77 2 (.slice a0 n c0) M.length (prs M)) (hn : M.length = n) (hB : B ≤ w.heap.size) (x : Nat) (a b : Int) (ha : ((x / 6 + 1 : Nat) : Int) = a) (hb : ((x % 6 : Nat) : Int) = b) (hl : n ≤ 900) :
    ∃ a' c' w', (∀ ty, (Builtin.append_ #[78, 78] ty #[.slice a0 n c0, .slice (some ⟨w.heap.size, 0, none⟩) 1 1]).run Try.prog (w.alloc (.cells #[.int .i64 a, .int .i64 b] 77)) = .ok (.slice a' (n + 1) c') w') ∧ w'.ownsRow B 77 2 (.slice a' (n + 1) c') (M ++ [x]).length (prs (M ++ [x])) ∧ Below B w w' := by
  have hbe : Below w.heap.size w (w.alloc (.cells #[.int .i64 a, .int .i64 b] 77)) := below_alloc _ _
  have ho1 := ownsRow_below ho hbe
  obtain ⟨a', c', w', h1, h2, h3⟩ := appP (N := [x]) (n2 := 1) (c2 := 1) ho1 (Nat.le_trans hB hbe.size) rfl (PX.one x a b ha hb) (by simp; omega)
  have hlen : (M ++ [x]).length = n + 1 := by simp [hn]
  rw [hlen] at h1
  refine ⟨a', c', w', h1, ?_, (hbe.mono hB).trans (below_grown h3 (Nat.le_trans hB hbe.size) (ownsRow_low ho1))⟩
  have h4 := h2
  rw [hlen] at h4 ⊢
  exact h4
theorem own_PRd {w : World} {B : Nat} {a : Option Addr} {n cap : Nat} {d : List Nat} (h : w.ownsRow B 77 2 (.slice a n cap) d.length (prs d)) : PRd w a d ∧ d.length ≤ cap ∧ n = d.length := by
  refine ⟨PRd.of_own h, ?_⟩
  rcases h.2 with ⟨e, e2⟩ | ⟨g, cap', cur, e, _, hh, q1, _⟩
  · simp only [Value.slice.injEq] at e
    exact ⟨by omega, by omega⟩
  · simp only [Value.slice.injEq] at e
    exact ⟨by omega, by omega⟩
end Go.Proofs.Ytkdbmfckfbmbiaa
