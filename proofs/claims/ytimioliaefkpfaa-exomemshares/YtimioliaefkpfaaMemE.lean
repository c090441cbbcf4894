/- The contracts of package mem said of memories as lists of words, with plain integers as arguments; and that 'awake' (the chapter's examples) answers true. -/
import Derived.Test.YtimioliaefkpfaaMemD
namespace Go.Proofs.Ytimioliaefkpfaa
open Go.RowKit
namespace Me
set_option linter.unusedVariables false

theorem nat_of (f : Int) (h : 0 ≤ f) : ∃ n : Nat, f = (n : Int) := ⟨f.toNat, by omega⟩

theorem MemAt.other {w : World} {b g n : Nat} {vs : List Int} (h : MemAt w b g n vs) (k i : Nat) (x : Value) (hb : b ≠ k) (hg : g ≠ k) : MemAt (w.setCell ⟨k, i, none⟩ x) b g n vs :=
  h.keep (Below.heap_setCell _ _ _ _ hb) (Below.heap_setCell _ _ _ _ hg)

theorem new_at (n : Int) (w : World) (h : 1 ≤ n) (h2 : n ≤ 1024) :
    Calls Try.prog 23 #[.int .i64 n] w fun e w' => e = .returned (.pointer (some ⟨w.heap.size + 1, 0, none⟩)) ∧
      MemAt w' (w.heap.size + 1) w.heap.size n.toNat (List.replicate (n.toNat * 32) 0) ∧ Below w.heap.size w w' ∧ w'.heap.size = w.heap.size + 2 := by
  obtain ⟨k, rfl⟩ := nat_of n (by omega)
  refine (new_yes k w (by omega) (by omega)).mono fun e w' ⟨he, hw⟩ => ?_
  subst hw
  exact ⟨he, MemAt.made w k, ((Below.refl _ _).alloc (Nat.le_refl _) _).alloc (by simp) _, by simp [newWorld]⟩

theorem read_at (b g n : Nat) (vs : List Int) (f k : Int) (w : World) (h : MemAt w b g n vs) (h0 : 0 ≤ f) (h1 : f < n) (h2 : 0 ≤ k) (h3 : k < 32) :
    Calls Try.prog 34 #[.pointer (some ⟨b, 0, none⟩), .int .i64 f, .int .i64 k] w fun e w' => e = .returned (.tuple #[.int .u64 (vs.getD (f.toNat * 32 + k.toNat) 0), .int .i64 0]) ∧ w' = w := by
  obtain ⟨f, rfl⟩ := nat_of f h0
  obtain ⟨k, rfl⟩ := nat_of k h2
  exact read_yes b g n n f k _ w h.cell (by omega) (by omega) (h.word _ (by omega))

theorem readno_at (b g n : Nat) (vs : List Int) (f k : Int) (w : World) (h : MemAt w b g n vs) (hno : ¬ (0 ≤ f ∧ f < n ∧ 0 ≤ k ∧ k < 32)) :
    Calls Try.prog 34 #[.pointer (some ⟨b, 0, none⟩), .int .i64 f, .int .i64 k] w fun e w' => e = .returned (.tuple #[.int .u64 0, .int .i64 101]) ∧ w' = w :=
  read_no b _ n n f k w h.cell (by simp only [inB, Hid, Bool.and_eq_false_iff, decide_eq_false_iff_not]; omega)

theorem write_at (b g n : Nat) (vs : List Int) (f k v : Int) (w : World) (h : MemAt w b g n vs) (h0 : 0 ≤ f) (h1 : f < n) (h2 : 0 ≤ k) (h3 : k < 32) :
    Calls Try.prog 33 #[.pointer (some ⟨b, 0, none⟩), .int .i64 f, .int .i64 k, .int .u64 v] w fun e w' => e = .returned (.int .i64 0) ∧
      MemAt w' b g n (vs.set (f.toNat * 32 + k.toNat) v) ∧ Upd g w w' := by
  obtain ⟨f, rfl⟩ := nat_of f h0
  obtain ⟨k, rfl⟩ := nat_of k h2
  refine (write_yes b g n n f k v _ w h.cell (by omega) (by omega) (h.word _ (by omega)) (h.free _)).mono fun e w' ⟨he, hw⟩ => ?_
  subst hw
  exact ⟨he, h.set _ _, Upd.setCell _ _ _ _⟩

theorem writeno_at (b g n : Nat) (vs : List Int) (f k v : Int) (w : World) (h : MemAt w b g n vs) (hno : ¬ (0 ≤ f ∧ f < n ∧ 0 ≤ k ∧ k < 32)) :
    Calls Try.prog 33 #[.pointer (some ⟨b, 0, none⟩), .int .i64 f, .int .i64 k, .int .u64 v] w fun e w' => e = .returned (.int .i64 101) ∧ w' = w :=
  write_no b _ n n f k v w h.cell (by simp only [inB, Hid, Bool.and_eq_false_iff, decide_eq_false_iff_not]; omega)

theorem zero_at (b g n : Nat) (vs : List Int) (f : Int) (w : World) (h : MemAt w b g n vs) (h0 : 0 ≤ f) (h1 : f < n) :
    Calls Try.prog 30 #[.pointer (some ⟨b, 0, none⟩), .int .i64 f] w fun e w' => e = .returned (.int .i64 0) ∧
      MemAt w' b g n (splice vs (f.toNat * 32) (List.replicate 32 0)) ∧ Upd g w w' := by
  obtain ⟨f, rfl⟩ := nat_of f h0
  refine (zero_yes b g n vs f w h (by omega)).mono fun e w' ⟨he, hw⟩ => ?_
  subst hw
  exact ⟨he, h.put _ _ (by simp; omega), Upd.setRow _ _ _⟩

theorem zerono_at (b g n : Nat) (vs : List Int) (f : Int) (w : World) (h : MemAt w b g n vs) (hno : ¬ (0 ≤ f ∧ f < n)) :
    Calls Try.prog 30 #[.pointer (some ⟨b, 0, none⟩), .int .i64 f] w fun e w' => e = .returned (.int .i64 101) ∧ w' = w :=
  zero_no b _ n n f w h.cell (by simp only [inB, Hid, decide_eq_false_iff_not]; omega)

theorem copy_at (b g n : Nat) (vs : List Int) (t f : Int) (w : World) (h : MemAt w b g n vs) (h0 : 0 ≤ t) (h1 : t < n) (h2 : 0 ≤ f) (h3 : f < n) :
    Calls Try.prog 46 #[.pointer (some ⟨b, 0, none⟩), .int .i64 t, .int .i64 f] w fun e w' => e = .returned (.int .i64 0) ∧
      MemAt w' b g n (splice vs (t.toNat * 32) (frameOf vs f.toNat)) ∧ Upd g w w' := by
  obtain ⟨t, rfl⟩ := nat_of t h0
  obtain ⟨f, rfl⟩ := nat_of f h2
  have hl := frameOf_length vs f n h.len (by omega)
  refine (copy_yes b g n vs t f w h (by omega) (by omega)).mono fun e w' ⟨he, q, hw⟩ => ?_
  subst hw
  have hm : MemAt (w.setRow g (urow (splice vs (t * 32) (frameOf vs f)))) b g n (splice vs (t * 32) (frameOf vs f)) := h.put _ _ (by rw [hl]; omega)
  have hu : Upd g w (w.setRow g (urow (splice vs (t * 32) (frameOf vs f)))) := Upd.setRow _ _ _
  exact ⟨he, hm.keep rfl rfl, ⟨hu.os, hu.tape, hu.output, hu.size, hu.block⟩⟩

theorem copyno_at (b g n : Nat) (vs : List Int) (t f : Int) (w : World) (h : MemAt w b g n vs) (hno : ¬ (0 ≤ t ∧ t < n ∧ 0 ≤ f ∧ f < n)) :
    Calls Try.prog 46 #[.pointer (some ⟨b, 0, none⟩), .int .i64 t, .int .i64 f] w fun e w' => e = .returned (.int .i64 101) ∧ w' = w := by
  by_cases ht : 0 ≤ t ∧ t < n
  · obtain ⟨t, rfl⟩ := nat_of t ht.1
    exact copy_no2 b _ n n t f w h.cell (by omega) (by simp only [inB, Hid, decide_eq_false_iff_not]; omega)
  · exact copy_no1 b _ n n t f w h.cell (by simp only [inB, Hid, decide_eq_false_iff_not]; omega)

theorem frames_mem (b g n : Nat) (vs : List Int) (w : World) (h : MemAt w b g n vs) :
    Calls Try.prog 47 #[.pointer (some ⟨b, 0, none⟩)] w fun e w' => e = .returned (.int .i64 n) ∧ w' = w := frames_at b _ n n w h.cell

end Me
end Go.Proofs.Ytimioliaefkpfaa
