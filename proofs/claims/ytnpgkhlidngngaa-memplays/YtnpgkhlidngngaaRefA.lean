/- The contracts of the reference memory's methods (janusref01.Mem): has, Read, Write, Page, over a memory whose rows are blocks of their own. -/
import Derived.Test.YtnpgkhlidngngaaMemE
import Derived.Test.YtnpgkhlidngngaaLists
namespace Go.Proofs.Ytnpgkhlidngngaa
open Go.RowKit
set_option linter.unusedVariables false

/-- A reference memory: its head is block bx, its table of rows is block gx, its rows are the blocks rs. -/
structure RefAt (w : World) (bx gx cap n : Nat) (rs : List Nat) (vs : List Int) : Prop where
  head : w.heap[bx]? = some (.cells #[.slice (some ⟨gx, 0, none⟩) n cap] 44)
  tab : ∀ i, i < n → w.cell? ⟨gx, i, none⟩ = some (.slice (some ⟨rs.getD i 0, 0, none⟩) 32 32)
  row : ∀ i, i < n → w.heap[rs.getD i 0]? = some (.cells (urow (frameOf vs i)) 27)
  len : vs.length = n * 32
  inj : ∀ i j, i < n → j < n → rs.getD i 0 = rs.getD j 0 → i = j
  far : ∀ i, i < n → rs.getD i 0 ≠ bx ∧ rs.getD i 0 ≠ gx
  pos : 0 < n

theorem RefAt.cell {w : World} {bx gx cap n : Nat} {rs : List Nat} {vs : List Int} (h : RefAt w bx gx cap n rs vs) : w.cell? ⟨bx, 0, none⟩ = some (.slice (some ⟨gx, 0, none⟩) n cap) := by
  rw [cell_of_heap h.head]; rfl
theorem RefAt.word {w : World} {bx gx cap n : Nat} {rs : List Nat} {vs : List Int} (h : RefAt w bx gx cap n rs vs) (f k : Nat) (hf : f < n) (hk : k < 32) : w.cell? ⟨rs.getD f 0, k, none⟩ = some (.int .u64 (vs.getD (f * 32 + k) 0)) := by
  rw [cell_of_heap (h.row f hf), ← frameOf_getD vs f k hk]
  have hl := frameOf_length vs f n h.len hf
  simp [urow, hl, hk]
theorem RefAt.free {w : World} {bx gx cap n : Nat} {rs : List Nat} {vs : List Int} (h : RefAt w bx gx cap n rs vs) (f k : Nat) (hf : f < n) : w.frozen? ⟨rs.getD f 0, k, none⟩ = false := frozen_of_heap (h.row f hf)
theorem RefAt.tablt {w : World} {bx gx cap n : Nat} {rs : List Nat} {vs : List Int} (h : RefAt w bx gx cap n rs vs) : gx < w.heap.size := cell_lt (h.tab 0 h.pos)

/-- The blocks that a reference memory's calls may change. -/
def Rows? (n : Nat) (rs : List Nat) (k : Nat) : Prop := ∃ i, i < n ∧ k = rs.getD i 0

theorem RefAt.keep {w w' : World} {bx gx cap n : Nat} {rs : List Nat} {vs : List Int} (h : RefAt w bx gx cap n rs vs) (hb : w'.heap[bx]? = w.heap[bx]?) (hg : w'.heap[gx]? = w.heap[gx]?)
    (hr : ∀ i, i < n → w'.heap[rs.getD i 0]? = w.heap[rs.getD i 0]?) : RefAt w' bx gx cap n rs vs :=
  ⟨hb.trans h.head, fun i hi => by rw [World.cell?_of_block (w := w) (a := ⟨gx, i, none⟩) hg]; exact h.tab i hi, fun i hi => (hr i hi).trans (h.row i hi), h.len, h.inj, h.far, h.pos⟩
theorem RefAt.below {w w' : World} {bx gx cap n : Nat} {rs : List Nat} {vs : List Int} (h : RefAt w bx gx cap n rs vs) (k : Below w.heap.size w w') : RefAt w' bx gx cap n rs vs :=
  h.keep (k.block _ (lt_of_heap h.head)) (k.block _ h.tablt) (fun i hi => k.block _ (lt_of_heap (h.row i hi)))
theorem RefAt.upd {w w' : World} {bx gx cap n : Nat} {rs : List Nat} {vs : List Int} (h : RefAt w bx gx cap n rs vs) {P : Nat → Prop} (k : UpdP P w w') (hb : ¬ P bx) (hg : ¬ P gx) (hr : ∀ i, i < n → ¬ P (rs.getD i 0)) : RefAt w' bx gx cap n rs vs :=
  h.keep (k.block _ (lt_of_heap h.head) hb) (k.block _ h.tablt hg) (fun i hi => k.block _ (lt_of_heap (h.row i hi)) (hr i hi))

theorem frameOf_set (vs : List Int) (f i k : Nat) (v : Int) (hk : k < 32) : frameOf (vs.set (f * 32 + k) v) i = if i = f then (frameOf vs f).set k v else frameOf vs i := by
  apply List.ext_getElem?
  intro j
  by_cases e : i = f
  · subst e
    rw [if_pos rfl]
    simp only [frameOf, List.getElem?_take, List.getElem?_drop, List.getElem?_set, List.length_take, List.length_drop]
    by_cases hj : j < 32
    · rw [if_pos hj, if_pos hj]
      by_cases e2 : k = j
      · subst e2
        rw [if_pos rfl, if_pos rfl]
        by_cases hl : i * 32 + k < vs.length
        · rw [if_pos hl, if_pos (by omega)]
        · rw [if_neg hl, if_neg (by omega)]
      · rw [if_neg (by omega), if_neg e2]
    · rw [if_neg hj, if_neg hj, if_neg (by omega)]
  · rw [if_neg e]
    simp only [frameOf, List.getElem?_take, List.getElem?_drop, List.getElem?_set]
    by_cases hj : j < 32
    · rw [if_pos hj, if_pos hj, if_neg (by omega)]
    · rw [if_neg hj, if_neg hj]

theorem RefAt.set {w : World} {bx gx cap n : Nat} {rs : List Nat} {vs : List Int} (h : RefAt w bx gx cap n rs vs) (f k : Nat) (v : Int) (hf : f < n) (hk : k < 32) :
    RefAt (w.setCell ⟨rs.getD f 0, k, none⟩ (.int .u64 v)) bx gx cap n rs (vs.set (f * 32 + k) v) := by
  refine ⟨?_, fun i hi => ?_, fun i hi => ?_, by simp [h.len], h.inj, h.far, h.pos⟩
  · rw [Below.heap_setCell _ _ _ _ (Ne.symm (h.far f hf).1)]; exact h.head
  · rw [World.cell?_of_block (w := w) (a := ⟨gx, i, none⟩) (Below.heap_setCell _ _ _ _ (Ne.symm (h.far f hf).2))]; exact h.tab i hi
  · rw [frameOf_set _ _ _ _ _ hk]
    by_cases e : i = f
    · subst e
      rw [if_pos rfl, setCell_eq_setRow w _ k _ _ _ _ (h.row i hi), setRow_heap w _ _ _ _ _ (h.row i hi)]
      have e : (urow (frameOf vs i)).setIfInBounds k (Value.int .u64 v) = urow ((frameOf vs i).set k v) := by
        apply Array.ext'
        simp [urow, List.map_set]
      rw [e]
    · rw [if_neg e, Below.heap_setCell _ _ _ _ (fun x => e (h.inj i f hi hf x))]
      exact h.row i hi

theorem UpdP.row (n : Nat) (rs : List Nat) (f k : Nat) (hf : f < n) (w : World) (v : Value) : UpdP (Rows? n rs) w (w.setCell ⟨rs.getD f 0, k, none⟩ v) :=
  (Upd.setCell _ _ _ _).p _ ⟨f, hf, rfl⟩

set_option maxHeartbeats 400000 in
theorem rhas_at (bx gx cap n : Nat) (rs : List Nat) (vs : List Int) (f : Int) (w : World) (h : RefAt w bx gx cap n rs vs) :
    Calls Try.prog 24 #[.pointer (some ⟨bx, 0, none⟩), .int .i64 f] w fun e w' => e = .returned (.bool (inB f n)) ∧ w' = w := by
  have hc := h.cell
  by_cases h0 : 0 ≤ f
  all_goals
    go_enter Try.func24, Try.ntmps24
    go_wp2
    go_ret
    refine ⟨?_, rfl⟩
    first | (simp [inB, h0]; done) | (simp [inB]; omega)

theorem rhas_yes (bx gx cap n : Nat) (rs : List Nat) (vs : List Int) (f : Int) (w : World) (h : RefAt w bx gx cap n rs vs) (h0 : 0 ≤ f) (h1 : f < n) :
    Calls Try.prog 24 #[.pointer (some ⟨bx, 0, none⟩), .int .i64 f] w fun e w' => e = .returned (.bool true) ∧ w' = w := by
  have := rhas_at bx gx cap n rs vs f w h
  rwa [show inB f n = true from by simp [inB, h0, h1]] at this
theorem rhas_no (bx gx cap n : Nat) (rs : List Nat) (vs : List Int) (f : Int) (w : World) (h : RefAt w bx gx cap n rs vs) (h0 : ¬ (0 ≤ f ∧ f < n)) :
    Calls Try.prog 24 #[.pointer (some ⟨bx, 0, none⟩), .int .i64 f] w fun e w' => e = .returned (.bool false) ∧ w' = w := by
  have := rhas_at bx gx cap n rs vs f w h
  rwa [show inB f n = false from by simp only [inB, decide_eq_false_iff_not]; exact h0] at this

set_option maxHeartbeats 400000 in
theorem rread_at (bx gx cap n : Nat) (rs : List Nat) (vs : List Int) (f k : Int) (w : World) (h : RefAt w bx gx cap n rs vs) (h0 : 0 ≤ f) (h1 : f < n) (h2 : 0 ≤ k) (h3 : k < 32) :
    Calls Try.prog 11 #[.pointer (some ⟨bx, 0, none⟩), .int .i64 f, .int .i64 k] w fun e w' => e = .returned (.tuple #[.int .u64 (vs.getD (f.toNat * 32 + k.toNat) 0), .int .i64 0]) ∧ w' = w := by
  obtain ⟨f, rfl⟩ := nat_of f h0
  obtain ⟨k, rfl⟩ := nat_of k h2
  have hc := h.cell
  have ht := h.tab f (by omega)
  have hv := h.word f k (by omega) (by omega)
  generalize rs.getD f 0 = r at *
  simp only [Int.toNat_natCast]
  generalize vs.getD (f * 32 + k) 0 = x at *
  go_enter Try.func11, Try.ntmps11
  go_wp2_with (go_at_call 24; refine (rhas_yes bx gx cap n rs vs f _ h h0 h1).mono ?_; rintro e w' ⟨rfl, rfl⟩)
  go_ret2
  exact ⟨rfl, rfl⟩

set_option maxHeartbeats 400000 in
theorem rreadno_at (bx gx cap n : Nat) (rs : List Nat) (vs : List Int) (f k : Int) (w : World) (h : RefAt w bx gx cap n rs vs) (hno : ¬ (0 ≤ f ∧ f < n ∧ 0 ≤ k ∧ k < 32)) :
    Calls Try.prog 11 #[.pointer (some ⟨bx, 0, none⟩), .int .i64 f, .int .i64 k] w fun e w' => e = .returned (.tuple #[.int .u64 0, .int .i64 101]) ∧ w' = w := by
  by_cases hf : 0 ≤ f ∧ f < n
  · obtain ⟨h0, h1⟩ := hf
    by_cases hk : k < 0
    all_goals
      have hk2 : k < 0 ∨ 32 ≤ k := by omega
      go_enter Try.func11, Try.ntmps11
      go_wp2_with (go_at_call 24; refine (rhas_yes bx gx cap n rs vs f _ h h0 h1).mono ?_; rintro e w' ⟨rfl, rfl⟩)
      go_ret2
      exact ⟨rfl, rfl⟩
  · have HF : Hid _ := hf
    clear hf hno
    go_enter Try.func11, Try.ntmps11
    go_wp2_with (go_at_call 24; refine (rhas_no bx gx cap n rs vs f _ h HF).mono ?_; rintro e w' ⟨rfl, rfl⟩)
    go_ret2
    exact ⟨rfl, rfl⟩

set_option maxHeartbeats 400000 in
theorem rwrite_at (bx gx cap n : Nat) (rs : List Nat) (vs : List Int) (f k v : Int) (w : World) (h : RefAt w bx gx cap n rs vs) (h0 : 0 ≤ f) (h1 : f < n) (h2 : 0 ≤ k) (h3 : k < 32) :
    Calls Try.prog 13 #[.pointer (some ⟨bx, 0, none⟩), .int .i64 f, .int .i64 k, .int .u64 v] w fun e w' => e = .returned (.int .i64 0) ∧
      RefAt w' bx gx cap n rs (vs.set (f.toNat * 32 + k.toNat) v) ∧ UpdP (Rows? n rs) w w' := by
  obtain ⟨f, rfl⟩ := nat_of f h0
  obtain ⟨k, rfl⟩ := nat_of k h2
  have hs := h.set f k v (by omega) (by omega)
  have hu := UpdP.row n rs f k (by omega) w (.int .u64 v)
  have hc := h.cell
  have ht := h.tab f (by omega)
  have hv := h.word f k (by omega) (by omega)
  have hz := h.free f k (by omega)
  have HU : Hid _ := hs
  have HS : Hid _ := hu
  clear hs hu
  simp only [Int.toNat_natCast]
  generalize rs.getD f 0 = r at *
  go_enter Try.func13, Try.ntmps13
  go_wp2_with (go_at_call 24; refine (rhas_yes bx gx cap n rs vs f _ h h0 h1).mono ?_; rintro e w' ⟨rfl, rfl⟩)
  go_ret
  exact ⟨rfl, HU.out, HS.out⟩

set_option maxHeartbeats 400000 in
theorem rwriteno_at (bx gx cap n : Nat) (rs : List Nat) (vs : List Int) (f k v : Int) (w : World) (h : RefAt w bx gx cap n rs vs) (hno : ¬ (0 ≤ f ∧ f < n ∧ 0 ≤ k ∧ k < 32)) :
    Calls Try.prog 13 #[.pointer (some ⟨bx, 0, none⟩), .int .i64 f, .int .i64 k, .int .u64 v] w fun e w' => e = .returned (.int .i64 101) ∧ w' = w := by
  by_cases hf : 0 ≤ f ∧ f < n
  · obtain ⟨h0, h1⟩ := hf
    by_cases hk : k < 0
    all_goals
      have hk2 : k < 0 ∨ 32 ≤ k := by omega
      go_enter Try.func13, Try.ntmps13
      go_wp2_with (go_at_call 24; refine (rhas_yes bx gx cap n rs vs f _ h h0 h1).mono ?_; rintro e w' ⟨rfl, rfl⟩)
      go_ret
      exact ⟨rfl, rfl⟩
  · have HF : Hid _ := hf
    clear hf hno
    go_enter Try.func13, Try.ntmps13
    go_wp2_with (go_at_call 24; refine (rhas_no bx gx cap n rs vs f _ h HF).mono ?_; rintro e w' ⟨rfl, rfl⟩)
    go_ret
    exact ⟨rfl, rfl⟩

set_option maxHeartbeats 400000 in
theorem rpage_at (bx gx cap n : Nat) (rs : List Nat) (vs : List Int) (f : Int) (w : World) (h : RefAt w bx gx cap n rs vs) (h0 : 0 ≤ f) (h1 : f < n) :
    Calls Try.prog 21 #[.pointer (some ⟨bx, 0, none⟩), .int .i64 f] w fun e w' => e = .returned (.slice (some ⟨rs.getD f.toNat 0, 0, none⟩) 32 32) ∧ w' = w := by
  obtain ⟨f, rfl⟩ := nat_of f h0
  have hc := h.cell
  have ht := h.tab f (by omega)
  simp only [Int.toNat_natCast]
  generalize rs.getD f 0 = r at *
  go_enter Try.func21, Try.ntmps21
  go_wp2_with (go_at_call 24; refine (rhas_yes bx gx cap n rs vs f _ h h0 h1).mono ?_; rintro e w' ⟨rfl, rfl⟩)
  go_ret
  exact ⟨rfl, rfl⟩

set_option maxHeartbeats 400000 in
theorem rpageno_at (bx gx cap n : Nat) (rs : List Nat) (vs : List Int) (f : Int) (w : World) (h : RefAt w bx gx cap n rs vs) (hno : ¬ (0 ≤ f ∧ f < n)) :
    Calls Try.prog 21 #[.pointer (some ⟨bx, 0, none⟩), .int .i64 f] w fun e w' => e = .returned (.slice none 0 0) ∧ w' = w := by
  have HF : Hid _ := hno
  clear hno
  go_enter Try.func21, Try.ntmps21
  go_wp2_with (go_at_call 24; refine (rhas_no bx gx cap n rs vs f _ h HF).mono ?_; rintro e w' ⟨rfl, rfl⟩)
  go_ret
  exact ⟨rfl, rfl⟩

end Go.Proofs.Ytnpgkhlidngngaa
