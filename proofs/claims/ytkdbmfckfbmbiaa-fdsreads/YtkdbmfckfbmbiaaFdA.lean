/- Package fds: the open files and tables in the heap; New, table, file, lowestFree, left, freePlace. -/
import Derived.Test.YtkdbmfckfbmbiaaRows
import Derived.Test.YtkdbmfckfbmbiaaOwnR
import Derived.Test.YtkdbmfckfbmbiaaFdM
import Derived.WalkKit
import Derived.WalkSpells
import Derived.WalkLawsBesides
import Derived.Deep.RegionHeld3
import Derived.Deep.QuietTactic
import Derived.Deep.AppendLies
import Derived.Deep.MidRow
import Derived.BigRegion
import Derived.BigQuiet
namespace Go.Proofs.Ytkdbmfckfbmbiaa
open Go.RowKit
set_option linter.unusedVariables false


/-- Block b holds the files and the tables. -/
structure FdAt (w : World) (b : Nat) (S : FS) : Prop where
  head : ∃ row : Array Value, w.heap[b]? = some (.cells row 73) ∧ row.size = 208 ∧ (∀ p, p < 32 → ∀ k, k < 5 → row[p * 5 + k]? = some ((S.f p).get k)) ∧ (∀ i, i < 48 → row[160 + i]? = some (.int .i64 (S.t i : Nat)))
section
variable {w w' : World} {b : Nat} {S : FS}
theorem FdAt.lt (h : FdAt w b S) : b < w.heap.size := by
  obtain ⟨row, hr, _⟩ := h.head
  exact lt_of_heap hr
theorem FdAt.keep (h : FdAt w b S) (hb : w'.heap[b]? = w.heap[b]?) : FdAt w' b S := by
  obtain ⟨row, hr, h1⟩ := h.head
  exact ⟨⟨row, hb.trans hr, h1⟩⟩
theorem FdAt.below (h : FdAt w b S) (hb : Below w.heap.size w w') : FdAt w' b S := h.keep (hb.block _ h.lt)
theorem FdAt.drew (h : FdAt w b S) : FdAt w.drew b S := h.keep rfl
theorem FdAt.fcell (h : FdAt w b S) {p k o : Nat} (hp : p < 32) (hk : k < 5) (ho : o = p * 5 + k) : w.cell? ⟨b, o, none⟩ = some ((S.f p).get k) := by
  obtain ⟨row, hr, _, h2, _⟩ := h.head
  rw [cell_of_heap hr, ho]
  exact h2 p hp k hk
theorem FdAt.tcell (h : FdAt w b S) {i o : Nat} (hi : i < 48) (ho : o = 160 + i) : w.cell? ⟨b, o, none⟩ = some (.int .i64 (S.t i : Nat)) := by
  obtain ⟨row, hr, _, _, h3⟩ := h.head
  rw [cell_of_heap hr, ho]
  exact h3 i hi
theorem FdAt.free (h : FdAt w b S) (o : Nat) : w.frozen? ⟨b, o, none⟩ = false := by
  obtain ⟨row, hr, _⟩ := h.head
  exact frozen_of_heap hr
theorem FdAt.setF (h : FdAt w b S) {p k o : Nat} (hp : p < 32) (hk : k < 5) (ho : o = p * 5 + k) (v : Value) (x : Fl) (h1 : x.get k = v) (h2 : ∀ i, i < 5 → i ≠ k → x.get i = (S.f p).get i) :
    FdAt (w.setCell ⟨b, o, none⟩ v) b (S.setF p x) := by
  obtain ⟨row, hr, hs, hc, ht⟩ := h.head
  subst ho
  refine ⟨⟨row.setIfInBounds (p * 5 + k) v, ?_, by simp [hs], fun i hi m hm => ?_, fun i hi => ?_⟩⟩
  · rw [setCell_eq_setRow w b _ _ _ _ _ hr, setRow_heap w b _ _ _ _ hr]
  · rw [Array.getElem?_setIfInBounds]
    by_cases he : p * 5 + k = i * 5 + m
    · have hij : i = p := by omega
      have hmk : m = k := by omega
      subst hij hmk
      rw [if_pos he, if_pos (by omega), FS.setF_same, h1]
    · rw [if_neg he]
      by_cases hij : i = p
      · subst hij
        rw [FS.setF_same, h2 m hm (by omega)]
        exact hc i hi m hm
      · rw [FS.setF_other _ _ _ _ hij]
        exact hc i hi m hm
  · rw [Array.getElem?_setIfInBounds, if_neg (by omega)]
    exact ht i hi
theorem FdAt.setT (h : FdAt w b S) {i o : Nat} (hi : i < 48) (ho : o = 160 + i) (q : Nat) :
    FdAt (w.setCell ⟨b, o, none⟩ (.int .i64 (q : Nat))) b (S.setT i q) := by
  obtain ⟨row, hr, hs, hc, ht⟩ := h.head
  subst ho
  refine ⟨⟨row.setIfInBounds (160 + i) (.int .i64 (q : Nat)), ?_, by simp [hs], fun j hj m hm => ?_, fun j hj => ?_⟩⟩
  · rw [setCell_eq_setRow w b _ _ _ _ _ hr, setRow_heap w b _ _ _ _ hr]
  · rw [Array.getElem?_setIfInBounds, if_neg (by omega)]
    exact hc j hj m hm
  · rw [Array.getElem?_setIfInBounds]
    by_cases he : 160 + i = 160 + j
    · have hij : j = i := by omega
      subst hij
      rw [if_pos he, if_pos (by omega), FS.setT_same]
    · rw [if_neg he, FS.setT_other _ _ _ _ (by omega)]
      exact ht j hj
/-- A file's five cells are laid anew. -/
theorem FdAt.put5 (h : FdAt w b S) {p : Nat} (hp : p < 32) (x : Fl) :
    FdAt (((((w.setCell ⟨b, p * 5, none⟩ (.int .i64 x.kind)).setCell ⟨b, p * 5 + 1, none⟩ (.int .i64 x.id)).setCell ⟨b, p * 5 + 2, none⟩ (.int .i64 x.off)).setCell ⟨b, p * 5 + 3, none⟩ (.bool x.app)).setCell ⟨b, p * 5 + 4, none⟩ (.int .i64 x.refs)) b (S.setF p x) := by
  have h0 := h.setF (p := p) (k := 0) (o := p * 5) hp (by omega) (by omega) (.int .i64 x.kind) ⟨x.kind, (S.f p).id, (S.f p).off, (S.f p).app, (S.f p).refs⟩ rfl (fun i hi hne => by
    obtain rfl | rfl | rfl | rfl : i = 1 ∨ i = 2 ∨ i = 3 ∨ i = 4 := by omega
    all_goals rfl)
  have h1 := h0.setF (p := p) (k := 1) (o := p * 5 + 1) hp (by omega) (by omega) (.int .i64 x.id) ⟨x.kind, x.id, (S.f p).off, (S.f p).app, (S.f p).refs⟩ rfl (fun i hi hne => by
    rw [FS.setF_same]
    obtain rfl | rfl | rfl | rfl : i = 0 ∨ i = 2 ∨ i = 3 ∨ i = 4 := by omega
    all_goals rfl)
  have h2 := h1.setF (p := p) (k := 2) (o := p * 5 + 2) hp (by omega) (by omega) (.int .i64 x.off) ⟨x.kind, x.id, x.off, (S.f p).app, (S.f p).refs⟩ rfl (fun i hi hne => by
    rw [FS.setF_same]
    obtain rfl | rfl | rfl | rfl : i = 0 ∨ i = 1 ∨ i = 3 ∨ i = 4 := by omega
    all_goals rfl)
  have h3 := h2.setF (p := p) (k := 3) (o := p * 5 + 3) hp (by omega) (by omega) (.bool x.app) ⟨x.kind, x.id, x.off, x.app, (S.f p).refs⟩ rfl (fun i hi hne => by
    rw [FS.setF_same]
    obtain rfl | rfl | rfl | rfl : i = 0 ∨ i = 1 ∨ i = 2 ∨ i = 4 := by omega
    all_goals rfl)
  have h4 := h3.setF (p := p) (k := 4) (o := p * 5 + 4) hp (by omega) (by omega) (.int .i64 x.refs) x rfl (fun i hi hne => by
    rw [FS.setF_same]
    obtain rfl | rfl | rfl | rfl : i = 0 ∨ i = 1 ∨ i = 2 ∨ i = 3 := by omega
    all_goals rfl)
  rw [FS.setF_setF, FS.setF_setF, FS.setF_setF, FS.setF_setF] at h4
  exact h4
theorem FdAt.cells (h : FdAt w b S) {p : Nat} (hp : p < 32) :
    w.cell? ⟨b, p * 5, none⟩ = some (.int .i64 (S.f p).kind) ∧ w.cell? ⟨b, p * 5 + 1, none⟩ = some (.int .i64 (S.f p).id) ∧ w.cell? ⟨b, p * 5 + 2, none⟩ = some (.int .i64 (S.f p).off) ∧ w.cell? ⟨b, p * 5 + 3, none⟩ = some (.bool (S.f p).app) ∧ w.cell? ⟨b, p * 5 + 4, none⟩ = some (.int .i64 (S.f p).refs) :=
  ⟨h.fcell (k := 0) hp (by omega) (by omega), h.fcell (k := 1) hp (by omega) (by omega), h.fcell (k := 2) hp (by omega) (by omega), h.fcell (k := 3) hp (by omega) (by omega), h.fcell (k := 4) hp (by omega) (by omega)⟩
/-- A count. -/
theorem FdAt.re (h : FdAt w b S) {p : Nat} (hp : p < 32) (n : Int) : FdAt (w.setCell ⟨b, p * 5 + 4, none⟩ (.int .i64 n)) b (S.setF p ((S.f p).re n)) :=
  h.setF (p := p) (k := 4) hp (by omega) (by omega) _ _ rfl (fun i hi hne => by
    obtain rfl | rfl | rfl | rfl : i = 0 ∨ i = 1 ∨ i = 2 ∨ i = 3 := by omega
    all_goals rfl)
theorem FdAt.off (h : FdAt w b S) {p : Nat} (hp : p < 32) (n : Int) : FdAt (w.setCell ⟨b, p * 5 + 2, none⟩ (.int .i64 n)) b (S.setF p ((S.f p).at n)) :=
  h.setF (p := p) (k := 2) hp (by omega) (by omega) _ _ rfl (fun i hi hne => by
    obtain rfl | rfl | rfl | rfl : i = 0 ∨ i = 1 ∨ i = 3 ∨ i = 4 := by omega
    all_goals rfl)
end

theorem ptr_eq (b : Nat) (W : World) : (binOp .eql 23 (.pointer (some ⟨b, 0, none⟩)) (.pointer none)).run Try.prog W = .ok (.bool false) W := by go_simp
theorem ptr_ne (b : Nat) (W : World) : (binOp .neq 23 (.pointer (some ⟨b, 0, none⟩)) (.pointer none)).run Try.prog W = .ok (.bool true) W := by go_simp
theorem tptr_eq (b o : Nat) (W : World) : (binOp .eql 74 (.pointer (some ⟨b, o, none⟩)) (.pointer none)).run Try.prog W = .ok (.bool false) W := by go_simp
theorem fptr_eq (b o : Nat) (W : World) : (binOp .eql 81 (.pointer (some ⟨b, o, none⟩)) (.pointer none)).run Try.prog W = .ok (.bool false) W := by go_simp

theorem table_nil (n : Int) (w : World) :
    Calls Try.prog 35 #[.pointer none, .int .i64 n] w fun e w' => e = .returned (.pointer none) ∧ w' = w := by
  go_enter Try.func35, Try.ntmps35
  go_wp2
  go_ret
  exact ⟨rfl, rfl⟩
theorem table_no (b : Nat) (n : Int) (w : World) (h : isP n = false) :
    Calls Try.prog 35 #[.pointer (some ⟨b, 0, none⟩), .int .i64 n] w fun e w' => e = .returned (.pointer none) ∧ w' = w := by
  have hne := ptr_eq b
  have hc := isP_no h
  clear h
  rcases hc with hc | hc
  · have g0 : decide (n < 1) = true := decide_eq_true hc
    go_enter Try.func35, Try.ntmps35
    go_wp2
    go_ret
    exact ⟨rfl, rfl⟩
  · have g0 : decide (n < 1) = false := decide_eq_false (by omega)
    have g1 : decide (8 < n) = true := decide_eq_true hc
    go_enter Try.func35, Try.ntmps35
    go_wp2
    go_ret
    exact ⟨rfl, rfl⟩
theorem table_at (b m : Nat) (w : World) (hm : m < 8) :
    Calls Try.prog 35 #[.pointer (some ⟨b, 0, none⟩), .int .i64 ((m : Int) + 1)] w fun e w' => e = .returned (.pointer (some ⟨b, 160 + m * 6, none⟩)) ∧ w' = w := by
  have hne := ptr_eq b
  have g0 : decide ((m : Int) + 1 < 1) = false := decide_eq_false (by omega)
  have g1 : decide (8 < (m : Int) + 1) = false := decide_eq_false (by omega)
  have hmi : (m : Int) < 8 := by omega
  go_enter Try.func35, Try.ntmps35
  go_wp2
  go_ret
  exact ⟨rfl, rfl⟩
end Go.Proofs.Ytkdbmfckfbmbiaa
