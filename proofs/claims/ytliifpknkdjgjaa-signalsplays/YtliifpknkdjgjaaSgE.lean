/- Package signals: slices.Clone, copyOf. -/
import Derived.Test.YtliifpknkdjgjaaSgD
import Derived.Maps.AppendAt
namespace Go.Proofs.Ytliifpknkdjgjaa
open Go.RowKit
set_option linter.unusedVariables false

theorem nil_none (n c : Nat) (w : World) : (binOp BinOp.eql 28 (.slice none n c) (.slice none 0 0)).run Try.prog w = .ok (.bool true) w := by kernel_rfl
theorem nil_some (ad : Addr) (n c : Nat) (w : World) : (binOp BinOp.eql 28 (.slice (some ad) n c) (.slice none 0 0)).run Try.prog w = .ok (.bool false) w := by kernel_rfl
set_option maxHeartbeats 400000 in
theorem clone_at (a : Option Addr) (n c : Nat) (xs : List Int) (w : World) (h : Rd w a xs) (hn : n = xs.length) (hl : n ≤ 1000000) :
    Calls Try.prog 53 #[.slice a n c] w fun e w' => ∃ u, e = .returned u ∧ w'.ownsRow w.heap.size 27 1 u xs.length (uvs xs) ∧ Below w.heap.size w w' := by
  cases a with
  | none =>
    have heq := nil_none n c
    have HX : Hid (xs = []) := by
      show xs = []
      cases xs with
      | nil => rfl
      | cons x r => obtain ⟨g, off, e, _⟩ := h 0 x rfl; cases e
    clear h hn
    go_enter Try.func53, Try.ntmps53
    go_wp2
    go_ret
    exact ⟨_, rfl, by rw [HX.out]; exact World.ownsRow_nil _ _ _ _, Below.refl _ _⟩
  | some ad =>
    obtain ⟨i0, hi0, hzz⟩ := Option.map_eq_some_iff.1 wordInfo
    simp only [Prod.mk.injEq] at hzz
    obtain ⟨hz0, hz1, hz2⟩ := hzz
    have hown : (w.alloc (.cells #[] 27)).ownsRow w.heap.size 27 1 (.slice (some ⟨w.heap.size, 0, none⟩) 0 0) 0 [] :=
      ⟨rfl, Or.inr ⟨w.heap.size, 0, #[], rfl, Nat.le_refl _, heap_alloc_new _ _, Nat.le_refl _, by unfold maxLen; omega, rfl, rfl⟩⟩
    have heq := nil_some ad n c
    have HX : Hid (∀ (j : Nat) (x : Int), xs[j]? = some x → w.cell? (ad.add j) = some (.int .u64 x)) := fun j x hx => by
      obtain ⟨g, off, e, hc⟩ := h j x hx
      obtain rfl := Option.some.inj e
      have : (⟨g, off, none⟩ : Addr).add j = ⟨g, off + j, none⟩ := by simp [Addr.add]
      rw [this]
      exact hc
    have HL : Hid (n = xs.length) := hn
    clear h hn
    go_enter Try.func53, Try.ntmps53
    go_wp2_with (first
      | (at_builtin; refine wpList_append_own_at _ rfl _ _ _ rfl w.heap.size 27 i0 _ 1 8 Try.underlying28 hi0 hz0 hz1 hz2 rfl (by omega) _ _ _ rfl hown ad n c (uvs xs) rfl (by rw [uvs_len, ← HL.out]; omega)
          (fun j u hu => by obtain ⟨x, hx, rfl⟩ := uvs_get hu; exact (((Below.refl w.heap.size w).alloc (Nat.le_refl _) _).cell (cell_lt (HX.out j x hx))).trans (HX.out j x hx)) (uvs_one xs) (by unfold maxLen; omega) (by omega) (by simp) ?_; intro u w2 hown2 hgrow hnil hat)
      | go_in)
    go_ret
    refine ⟨u, by simp, by rw [← HL.out]; simpa using hown2, (below_alloc _ _).trans (below_grown hgrow (by simp) (ownsRow_low hown))⟩
theorem heap_set {w : World} {b : Nat} {row : Array Value} {t : TypeId} (h : w.heap[b]? = some (.cells row t (0, 0))) (i : Nat) (v : Value) : (w.setCell ⟨b, i, none⟩ v).heap[b]? = some (.cells (row.setIfInBounds i v) t (0, 0)) := by
  rw [setCell_eq_setRow w b i _ _ _ _ h, setRow_heap w b _ _ _ _ h]
theorem kw_set {w : World} {b : Nat} {row : Array Value} {t : TypeId} (h : w.heap[b]? = some (.cells row t (0, 0))) (ht : t ≠ 27) (i : Nat) (v : Value) : KeepW w (w.setCell ⟨b, i, none⟩ v) := KeepW.upd h ht (Upd.setCell _ _ _ _)
theorem vmSize : (Try.prog.info? 30).map (·.size) = some 2 := by kernel_rfl
abbrev vmV (pc : Int) (a : Option Addr) (n c : Nat) : Value := .agg #[.int .i64 pc, .slice a n c]
set_option maxHeartbeats 1000000 in
theorem copyOf_at (pc : Int) (a : Option Addr) (n c : Nat) (xs : List Int) (w : World) (h : Rd w a xs) (hn : n = xs.length) (hl : n ≤ 1000000) :
    Calls Try.prog 46 #[vmV pc a n c] w fun e w' => ∃ a' c', e = .returned (vmV pc a' n c') ∧ n ≤ c' ∧ TRd w' a' xs ∧ Below w.heap.size w w' := by
  obtain ⟨W, hW⟩ : ∃ W, W = (w.alloc (.cells #[.int .i64 pc, .slice a n c] 30)).alloc (.cells #[.int .i64 0, .slice none 0 0] 30) := ⟨_, rfl⟩
  have hb : Below w.heap.size w W := by rw [hW]; exact below_alloc2 _ _ _
  have hC := clone_at a n c xs W (h.below hb) hn hl
  have HB : Hid (Below w.heap.size w W) := hb
  have HN : Hid (n = xs.length) := hn
  have hs : W.heap.size = w.heap.size + 1 + 1 := by rw [hW]; simp
  have HS : Hid (W.heap.size = w.heap.size + 1 + 1) := hs
  have H0 : Hid (W.heap[w.heap.size]? = some (.cells #[.int .i64 pc, .slice a n c] 30 (0, 0))) := by
    show _ = _
    rw [hW, Below.heap_alloc _ _ _ (by simp)]
    exact heap_alloc_new _ _
  have H1 : Hid (W.heap[w.heap.size + 1]? = some (.cells #[.int .i64 0, .slice none 0 0] 30 (0, 0))) := by
    show _ = _
    rw [hW]
    have := heap_alloc_new (w.alloc (.cells #[.int .i64 pc, .slice a n c] 30)) (.cells #[.int .i64 0, .slice none 0 0] 30)
    simpa using this
  have HW : Hid _ := hW
  clear h hb hW hn hs
  go_enter Try.func46, Try.ntmps46
  go_wp2_with fail
  rw [← HW.out]
  refine hC.mono ?_
  rintro e w1 ⟨u, rfl, hown, hb1⟩
  obtain ⟨a', c', rfl, hc', hrd⟩ := own_trd hown
  obtain ⟨q, hq⟩ : ∃ q, q = w.heap.size := ⟨_, rfl⟩
  have k0 := (hb1.block w.heap.size (by have := HS.out; omega)).trans H0.out
  have k1 := (hb1.block (w.heap.size + 1) (by have := HS.out; omega)).trans H1.out
  have hsz : q + 1 < w1.heap.size := by have := HS.out; have := hb1.size; omega
  rw [← hq] at k0 k1 ⊢
  have c0 : w1.cell? ⟨q, 0, none⟩ = some (.int .i64 pc) := by rw [cell_of_heap k0]; rfl
  have c1 : w1.cell? ⟨q, 1, none⟩ = some (.slice a n c) := by rw [cell_of_heap k0]; rfl
  have f1 : w1.frozen? ⟨q, 1, none⟩ = false := frozen_of_heap k0
  have d0 : w1.cell? ⟨q + 1, 0, none⟩ = some (.int .i64 0) := by rw [cell_of_heap k1]; rfl
  have d1 : w1.cell? ⟨q + 1, 1, none⟩ = some (.slice none 0 0) := by rw [cell_of_heap k1]; rfl
  have e0 : w1.frozen? ⟨q + 1, 0, none⟩ = false := frozen_of_heap k1
  have e1 : w1.frozen? ⟨q + 1, 1, none⟩ = false := frozen_of_heap k1
  have HB1 : Hid (Below w.heap.size w w1) := HB.out.trans (hb1.mono HB.out.size)
  have HT : Hid (TRd w1 a' xs) := hrd
  have HQ : Hid (q = w.heap.size) := hq
  have HCc : Hid (xs.length ≤ c') := hc'
  have HK0 : Hid (w1.heap[q]? = some (.cells #[.int .i64 pc, .slice a n c] 30 (0, 0))) := k0
  have HK1 : Hid (w1.heap[q + 1]? = some (.cells #[.int .i64 0, .slice none 0 0] 30 (0, 0))) := k1
  rw [← HN.out]
  clear hown hb1 k0 k1 hrd hq hC hc' HS H0 H1 HW HB
  go_wp2
  have k0 := heap_set HK0.out 1 (.slice a' n c')
  have k1 : (w1.setCell ⟨q, 1, none⟩ (.slice a' n c')).heap[q + 1]? = _ := (Below.heap_setCell _ _ _ _ (by show q + 1 ≠ q; omega)).trans HK1.out
  have k2 := heap_set k1 0 (.int .i64 pc)
  have k3 := heap_set k2 1 (.slice a' n c')
  refine bodyPost_ret (v := vmV pc a' n c') (results_cell_row rfl _ _ (q + 1) 30 _ (0, 0) _ rfl k3 Try.underlying30 rfl vmSize) rfl ⟨a', c', rfl, by rw [HN.out]; exact HCc.out, ?_, ?_⟩
  · exact ((HT.out.kept (kw_set HK0.out (by decide) _ _)).kept (kw_set k1 (by decide) _ _)).kept (kw_set k2 (by decide) _ _)
  · have hq := HQ.out
    exact ((HB1.out.trans ((Upd.setCell q 1 w1 _).below (by omega) HB1.out.size)).trans ((Upd.setCell (q + 1) 0 _ _).below (by omega) (by have := HB1.out.size; simpa [World.setCell] using this))).trans ((Upd.setCell (q + 1) 1 _ _).below (by omega) (by have := HB1.out.size; simpa [World.setCell] using this))
end Go.Proofs.Ytliifpknkdjgjaa
