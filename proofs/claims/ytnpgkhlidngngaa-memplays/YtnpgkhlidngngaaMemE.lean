/- The contracts of package mem said of memories as lists of words, with plain integers as arguments; and that 'awake' (the chapter's examples) answers true. -/
import Derived.Test.YtnpgkhlidngngaaMemD
namespace Go.Proofs.Ytnpgkhlidngngaa
open Go.RowKit
set_option linter.unusedVariables false

theorem nat_of (f : Int) (h : 0 ≤ f) : ∃ n : Nat, f = (n : Int) := ⟨f.toNat, by omega⟩

theorem MemAt.other {w : World} {b g n : Nat} {vs : List Int} (h : MemAt w b g n vs) (k i : Nat) (x : Value) (hb : b ≠ k) (hg : g ≠ k) : MemAt (w.setCell ⟨k, i, none⟩ x) b g n vs :=
  h.keep (Below.heap_setCell _ _ _ _ hb) (Below.heap_setCell _ _ _ _ hg)

theorem new_at (n : Int) (w : World) (h : 1 ≤ n) (h2 : n ≤ 1024) :
    Calls Try.prog 8 #[.int .i64 n] w fun e w' => e = .returned (.pointer (some ⟨w.heap.size + 1, 0, none⟩)) ∧
      MemAt w' (w.heap.size + 1) w.heap.size n.toNat (List.replicate (n.toNat * 32) 0) ∧ Below w.heap.size w w' ∧ w'.heap.size = w.heap.size + 2 := by
  obtain ⟨k, rfl⟩ := nat_of n (by omega)
  refine (new_yes k w (by omega) (by omega)).mono fun e w' ⟨he, hw⟩ => ?_
  subst hw
  exact ⟨he, MemAt.made w k, ((Below.refl _ _).alloc (Nat.le_refl _) _).alloc (by simp) _, by simp [newWorld]⟩

theorem read_at (b g n : Nat) (vs : List Int) (f k : Int) (w : World) (h : MemAt w b g n vs) (h0 : 0 ≤ f) (h1 : f < n) (h2 : 0 ≤ k) (h3 : k < 32) :
    Calls Try.prog 10 #[.pointer (some ⟨b, 0, none⟩), .int .i64 f, .int .i64 k] w fun e w' => e = .returned (.tuple #[.int .u64 (vs.getD (f.toNat * 32 + k.toNat) 0), .int .i64 0]) ∧ w' = w := by
  obtain ⟨f, rfl⟩ := nat_of f h0
  obtain ⟨k, rfl⟩ := nat_of k h2
  exact read_yes b g n n f k _ w h.cell (by omega) (by omega) (h.word _ (by omega))

theorem readno_at (b g n : Nat) (vs : List Int) (f k : Int) (w : World) (h : MemAt w b g n vs) (hno : ¬ (0 ≤ f ∧ f < n ∧ 0 ≤ k ∧ k < 32)) :
    Calls Try.prog 10 #[.pointer (some ⟨b, 0, none⟩), .int .i64 f, .int .i64 k] w fun e w' => e = .returned (.tuple #[.int .u64 0, .int .i64 101]) ∧ w' = w :=
  read_no b _ n n f k w h.cell (by simp only [inB, Hid, Bool.and_eq_false_iff, decide_eq_false_iff_not]; omega)

theorem write_at (b g n : Nat) (vs : List Int) (f k v : Int) (w : World) (h : MemAt w b g n vs) (h0 : 0 ≤ f) (h1 : f < n) (h2 : 0 ≤ k) (h3 : k < 32) :
    Calls Try.prog 12 #[.pointer (some ⟨b, 0, none⟩), .int .i64 f, .int .i64 k, .int .u64 v] w fun e w' => e = .returned (.int .i64 0) ∧
      MemAt w' b g n (vs.set (f.toNat * 32 + k.toNat) v) ∧ Upd g w w' := by
  obtain ⟨f, rfl⟩ := nat_of f h0
  obtain ⟨k, rfl⟩ := nat_of k h2
  refine (write_yes b g n n f k v _ w h.cell (by omega) (by omega) (h.word _ (by omega)) (h.free _)).mono fun e w' ⟨he, hw⟩ => ?_
  subst hw
  exact ⟨he, h.set _ _, Upd.setCell _ _ _ _⟩

theorem writeno_at (b g n : Nat) (vs : List Int) (f k v : Int) (w : World) (h : MemAt w b g n vs) (hno : ¬ (0 ≤ f ∧ f < n ∧ 0 ≤ k ∧ k < 32)) :
    Calls Try.prog 12 #[.pointer (some ⟨b, 0, none⟩), .int .i64 f, .int .i64 k, .int .u64 v] w fun e w' => e = .returned (.int .i64 101) ∧ w' = w :=
  write_no b _ n n f k v w h.cell (by simp only [inB, Hid, Bool.and_eq_false_iff, decide_eq_false_iff_not]; omega)

theorem zero_at (b g n : Nat) (vs : List Int) (f : Int) (w : World) (h : MemAt w b g n vs) (h0 : 0 ≤ f) (h1 : f < n) :
    Calls Try.prog 16 #[.pointer (some ⟨b, 0, none⟩), .int .i64 f] w fun e w' => e = .returned (.int .i64 0) ∧
      MemAt w' b g n (splice vs (f.toNat * 32) (List.replicate 32 0)) ∧ Upd g w w' := by
  obtain ⟨f, rfl⟩ := nat_of f h0
  refine (zero_yes b g n vs f w h (by omega)).mono fun e w' ⟨he, hw⟩ => ?_
  subst hw
  exact ⟨he, h.put _ _ (by simp; omega), Upd.setRow _ _ _⟩

theorem zerono_at (b g n : Nat) (vs : List Int) (f : Int) (w : World) (h : MemAt w b g n vs) (hno : ¬ (0 ≤ f ∧ f < n)) :
    Calls Try.prog 16 #[.pointer (some ⟨b, 0, none⟩), .int .i64 f] w fun e w' => e = .returned (.int .i64 101) ∧ w' = w :=
  zero_no b _ n n f w h.cell (by simp only [inB, Hid, decide_eq_false_iff_not]; omega)

theorem page_at (b g n : Nat) (vs : List Int) (f : Int) (w : World) (h : MemAt w b g n vs) (h0 : 0 ≤ f) (h1 : f < n) :
    Calls Try.prog 20 #[.pointer (some ⟨b, 0, none⟩), .int .i64 f] w fun e w' => e = .returned (.slice (some ⟨w.heap.size, 0, none⟩) 32 32) ∧
      w'.heap[w.heap.size]? = some (.cells (urow (frameOf vs f.toNat)) 27) ∧ Below w.heap.size w w' ∧ w'.heap.size = w.heap.size + 1 := by
  obtain ⟨f, rfl⟩ := nat_of f h0
  refine (page_yes b g n vs f w h (by omega)).mono fun e w' ⟨he, hw⟩ => ?_
  subst hw
  exact ⟨he, heap_alloc_new _ _, (Below.refl _ _).alloc (Nat.le_refl _) _, by simp [pageWorld]⟩

theorem pageno_at (b g n : Nat) (vs : List Int) (f : Int) (w : World) (h : MemAt w b g n vs) (hno : ¬ (0 ≤ f ∧ f < n)) :
    Calls Try.prog 20 #[.pointer (some ⟨b, 0, none⟩), .int .i64 f] w fun e w' => e = .returned (.slice none 0 0) ∧ w' = w :=
  page_no b _ n n f w h.cell (by simp only [inB, Hid, decide_eq_false_iff_not]; omega)

theorem copy_at (b g n : Nat) (vs : List Int) (t f : Int) (w : World) (h : MemAt w b g n vs) (h0 : 0 ≤ t) (h1 : t < n) (h2 : 0 ≤ f) (h3 : f < n) :
    Calls Try.prog 14 #[.pointer (some ⟨b, 0, none⟩), .int .i64 t, .int .i64 f] w fun e w' => e = .returned (.int .i64 0) ∧
      MemAt w' b g n (splice vs (t.toNat * 32) (frameOf vs f.toNat)) ∧ Upd g w w' := by
  obtain ⟨t, rfl⟩ := nat_of t h0
  obtain ⟨f, rfl⟩ := nat_of f h2
  have hl := frameOf_length vs f n h.len (by omega)
  refine (copy_yes b g n vs t f w h (by omega) (by omega)).mono fun e w' ⟨he, q, hw⟩ => ?_
  subst hw
  have hm : MemAt (w.setRow g (urow (splice vs (t * 32) (frameOf vs f)))) b g n (splice vs (t * 32) (frameOf vs f)) := h.put _ _ (by rw [hl]; omega)
  have hu : Upd g w (w.setRow g (urow (splice vs (t * 32) (frameOf vs f)))) := Upd.setRow _ _ _
  exact ⟨he, hm.keep rfl rfl, ⟨hu.os, hu.tape, hu.output, hu.size, hu.block⟩⟩

theorem copyno_at (b g n : Nat) (vs : List Int) (t f : Int) (w : World) (h : MemAt w b g n vs) (hno : ¬ (0 ≤ t ∧ t < n ∧ 0 ≤ f ∧ f < n)) :
    Calls Try.prog 14 #[.pointer (some ⟨b, 0, none⟩), .int .i64 t, .int .i64 f] w fun e w' => e = .returned (.int .i64 101) ∧ w' = w := by
  by_cases ht : 0 ≤ t ∧ t < n
  · obtain ⟨t, rfl⟩ := nat_of t ht.1
    exact copy_no2 b _ n n t f w h.cell (by omega) (by simp only [inB, Hid, decide_eq_false_iff_not]; omega)
  · exact copy_no1 b _ n n t f w h.cell (by simp only [inB, Hid, decide_eq_false_iff_not]; omega)

theorem frames_mem (b g n : Nat) (vs : List Int) (w : World) (h : MemAt w b g n vs) :
    Calls Try.prog 18 #[.pointer (some ⟨b, 0, none⟩)] w fun e w' => e = .returned (.int .i64 n) ∧ w' = w := frames_at b _ n n w h.cell

set_option maxHeartbeats 1000000 in
theorem awake_any (w : World) :
    Calls Try.prog 22 #[] w fun e w' => e = .returned (.bool true) ∧ Below w.heap.size w w' := by
  go_enter Try.func22, Try.ntmps22
  go_wp2_with fail
  refine (new_at 2 _ (by omega) (by omega)).mono ?_
  rintro e w1 ⟨rfl, hm1, hb1, hs1⟩
  have HS1 : Hid _ := hs1
  clear hs1
  go_wp2_with fail
  refine (write_at _ _ _ _ 1 31 7 _ hm1 (by omega) (by simp) (by omega) (by omega)).mono ?_
  rintro e w2 ⟨rfl, hm2, hu2⟩
  go_wp2_with fail
  refine (copy_at _ _ _ _ 0 1 _ hm2 (by omega) (by simp) (by omega) (by simp)).mono ?_
  rintro e w3 ⟨rfl, hm3, hu3⟩
  go_wp2_with fail
  refine (read_at _ _ _ _ 0 31 _ hm3 (by omega) (by simp) (by omega) (by omega)).mono ?_
  rintro e w4 ⟨rfl, rfl⟩
  go_wp2_with fail
  refine (readno_at _ _ _ _ 2 0 _ hm3 (by simp)).mono ?_
  rintro e w5 ⟨rfl, rfl⟩
  go_wp2_with fail
  refine (frames_mem _ _ _ _ _ hm3).mono ?_
  rintro e w6 ⟨rfl, rfl⟩
  go_wp2_with fail
  refine (page_at _ _ _ _ 1 _ hm3 (by omega) (by simp)).mono ?_
  rintro e w7 ⟨rfl, hp7, hb7, hs7⟩
  have HS7 : Hid _ := hs7
  clear hs7
  go_wp2_with fail
  go_ret
  have hs1 := HS1.out
  have b2 := hu2.below (B := w.heap.size) (Nat.le_refl _) (by omega)
  have b3 := hu3.below (B := w.heap.size) (Nat.le_refl _) (by have := hu2.size; omega)
  exact ⟨rfl, ((hb1.trans b2).trans b3).trans (hb7.mono (by have := hu2.size; have := hu3.size; omega))⟩

end Go.Proofs.Ytnpgkhlidngngaa
