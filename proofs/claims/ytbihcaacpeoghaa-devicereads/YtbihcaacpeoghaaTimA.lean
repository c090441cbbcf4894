/- The timers of package device and of its reference: where they lie in the heap, and the contracts of their functions. -/
import Derived.Test.YtbihcaacpeoghaaRows
import Derived.Test.YtbihcaacpeoghaaPlain
import Derived.WalkKit
import Derived.WalkSpells
import Derived.WalkLawsBesides
namespace Go.Proofs.Ytbihcaacpeoghaa
open Go.RowKit
set_option linter.unusedVariables false

/-- One cell in a block of type t. -/
def OneAt (t : TypeId) (w : World) (b : Nat) (n : Int) : Prop := w.heap[b]? = some (.cells #[.int .i64 n] t)
theorem OneAt.c0 {t : TypeId} {w : World} {b : Nat} {n : Int} (h : OneAt t w b n) : w.cell? ⟨b, 0, none⟩ = some (.int .i64 n) := by rw [cell_of_heap h]; rfl
theorem OneAt.free {t : TypeId} {w : World} {b : Nat} {n : Int} (h : OneAt t w b n) : w.frozen? ⟨b, 0, none⟩ = false := frozen_of_heap h
theorem OneAt.set {t : TypeId} {w : World} {b : Nat} {n : Int} (h : OneAt t w b n) (m : Int) : OneAt t (w.setCell ⟨b, 0, none⟩ (.int .i64 m)) b m := by
  unfold OneAt
  rw [setCell_eq_setRow w b 0 _ _ _ _ h, setRow_heap w b _ _ _ _ h]
  rfl
theorem OneAt.keep {t : TypeId} {w w' : World} {b : Nat} {n : Int} (h : OneAt t w b n) (hb : w'.heap[b]? = w.heap[b]?) : OneAt t w' b n := hb.trans h
theorem OneAt.below {t : TypeId} {w w' : World} {b : Nat} {n : Int} (h : OneAt t w b n) (k : Below w.heap.size w w') : OneAt t w' b n := h.keep (k.block _ (lt_of_heap h))

abbrev TimAt := OneAt 55
abbrev RTimAt := OneAt 41

/-- Whether a timer may be set so. -/
def okSet (n : Int) : Bool := decide (0 ≤ n ∧ n ≤ 200)
theorem okSet_yes {n : Int} (h : okSet n = true) : 0 ≤ n ∧ n ≤ 200 := by simpa [okSet] using h
theorem okSet_no {n : Int} (h : okSet n = false) : ¬ (0 ≤ n ∧ n ≤ 200) := by simpa [okSet] using h

theorem newTimer_at (w : World) :
    Calls Try.prog 15 #[] w fun e w' => e = .returned (.pointer (some ⟨w.heap.size, 0, none⟩)) ∧ TimAt w' w.heap.size 0 ∧ Below w.heap.size w w' ∧ w'.heap.size = w.heap.size + 1 := by
  go_enter Try.func15, Try.ntmps15
  go_wp2
  go_ret
  exact ⟨rfl, heap_alloc_new _ _, (Below.refl _ _).alloc (Nat.le_refl _) _, by simp⟩

theorem tleft_nil (w : World) :
    Calls Try.prog 20 #[.pointer none] w fun e w' => e = .returned (.int .i64 0) ∧ w' = w := by
  go_enter Try.func20, Try.ntmps20
  go_wp2
  go_ret
  exact ⟨rfl, rfl⟩
theorem tleft_at (b : Nat) (n : Int) (w : World) (h : TimAt w b n) :
    Calls Try.prog 20 #[.pointer (some ⟨b, 0, none⟩)] w fun e w' => e = .returned (.int .i64 n) ∧ w' = w := by
  have hc := h.c0
  go_enter Try.func20, Try.ntmps20
  go_wp2
  go_ret
  exact ⟨rfl, rfl⟩

theorem tset_nil (n : Int) (w : World) :
    Calls Try.prog 18 #[.pointer none, .int .i64 n] w fun e w' => e = .returned (.int .i64 101) ∧ w' = w := by
  go_enter Try.func18, Try.ntmps18
  go_wp2
  go_ret
  exact ⟨rfl, rfl⟩
theorem tset_no (b : Nat) (n : Int) (w : World) (h : okSet n = false) :
    Calls Try.prog 18 #[.pointer (some ⟨b, 0, none⟩), .int .i64 n] w fun e w' => e = .returned (.int .i64 101) ∧ w' = w := by
  have h2 := okSet_no h
  clear h
  by_cases h3 : n < 0
  · clear h2
    go_enter Try.func18, Try.ntmps18
    go_wp2
    go_ret
    exact ⟨rfl, rfl⟩
  · have h4 : 200 < n := by omega
    clear h2
    go_enter Try.func18, Try.ntmps18
    go_wp2
    go_ret
    exact ⟨rfl, rfl⟩
theorem tset_yes (b : Nat) (m n : Int) (w : World) (h : okSet n = true) (ht : TimAt w b m) :
    Calls Try.prog 18 #[.pointer (some ⟨b, 0, none⟩), .int .i64 n] w fun e w' => e = .returned (.int .i64 0) ∧ TimAt w' b n ∧ Upd b w w' := by
  obtain ⟨h2, h3⟩ := okSet_yes h
  have h4 : ¬ n < 0 := by omega
  have h5 : ¬ 200 < n := by omega
  have hc := ht.c0
  have hf := ht.free
  clear h h2 h3
  go_enter Try.func18, Try.ntmps18
  go_wp2
  go_ret
  exact ⟨rfl, ht.set n, Upd.setCell _ _ _ _⟩

theorem tick_nil (w : World) :
    Calls Try.prog 16 #[.pointer none] w fun e w' => e = .returned (.bool false) ∧ w' = w := by
  go_enter Try.func16, Try.ntmps16
  go_wp2_with (go_at_call 20; refine (tleft_nil _).mono ?_; rintro e w' ⟨rfl, rfl⟩)
  go_ret
  exact ⟨rfl, rfl⟩
theorem tick_zero (b : Nat) (w : World) (h : TimAt w b 0) :
    Calls Try.prog 16 #[.pointer (some ⟨b, 0, none⟩)] w fun e w' => e = .returned (.bool false) ∧ w' = w := by
  go_enter Try.func16, Try.ntmps16
  go_wp2_with (go_at_call 20; refine (tleft_at _ _ _ h).mono ?_; rintro e w' ⟨rfl, rfl⟩)
  go_ret
  exact ⟨rfl, rfl⟩
theorem tick_more (b : Nat) (n : Int) (w : World) (h : TimAt w b n) (h1 : 1 ≤ n) (h2 : n ≤ 200) :
    Calls Try.prog 16 #[.pointer (some ⟨b, 0, none⟩)] w fun e w' => e = .returned (.bool (decide (n - 1 = 0))) ∧ TimAt w' b (n - 1) ∧ Upd b w w' := by
  have hn : ¬ n = 0 := by omega
  have hc := h.c0
  have hf := h.free
  have hs := (h.set (n - 1)).c0
  go_enter Try.func16, Try.ntmps16
  go_wp2_with (go_at_call 20; refine (tleft_at _ _ _ h).mono ?_; rintro e w' ⟨rfl, rfl⟩)
  go_ret
  exact ⟨rfl, h.set (n - 1), Upd.setCell _ _ _ _⟩
/-- What a tick answers, and what it leaves. -/
theorem tick_at (b : Nat) (n : Int) (w : World) (h : TimAt w b n) (h1 : 0 ≤ n) (h2 : n ≤ 200) :
    Calls Try.prog 16 #[.pointer (some ⟨b, 0, none⟩)] w fun e w' => e = .returned (.bool (decide (n = 1))) ∧ TimAt w' b (max (n - 1) 0) ∧ Upd b w w' := by
  by_cases h0 : n = 0
  · subst h0
    refine (tick_zero b w h).mono ?_
    rintro e w' ⟨rfl, rfl⟩
    exact ⟨rfl, h, Upd.refl _ _⟩
  · refine (tick_more b n w h (by omega) h2).mono ?_
    rintro e w' ⟨rfl, ht, hu⟩
    refine ⟨?_, ?_, hu⟩
    · congr 2
      exact decide_eq_decide.2 (by omega)
    · rw [show max (n - 1) 0 = n - 1 by omega]
      exact ht

theorem rset_no (b : Nat) (n : Int) (w : World) (h : okSet n = false) :
    Calls Try.prog 19 #[.pointer (some ⟨b, 0, none⟩), .int .i64 n] w fun e w' => e = .returned (.int .i64 101) ∧ w' = w := by
  have h2 := okSet_no h
  clear h
  by_cases h3 : n < 0
  · clear h2
    go_enter Try.func19, Try.ntmps19
    go_wp2
    go_ret
    exact ⟨rfl, rfl⟩
  · have h4 : 200 < n := by omega
    clear h2
    go_enter Try.func19, Try.ntmps19
    go_wp2
    go_ret
    exact ⟨rfl, rfl⟩
theorem rset_yes (b : Nat) (m n : Int) (w : World) (h : okSet n = true) (ht : RTimAt w b m) :
    Calls Try.prog 19 #[.pointer (some ⟨b, 0, none⟩), .int .i64 n] w fun e w' => e = .returned (.int .i64 0) ∧ RTimAt w' b n ∧ Upd b w w' := by
  obtain ⟨h2, h3⟩ := okSet_yes h
  have h4 : ¬ n < 0 := by omega
  have h5 : ¬ 200 < n := by omega
  have hc := ht.c0
  have hf := ht.free
  clear h h2 h3
  go_enter Try.func19, Try.ntmps19
  go_wp2
  go_ret
  exact ⟨rfl, ht.set n, Upd.setCell _ _ _ _⟩
theorem rtick_zero (b : Nat) (w : World) (h : RTimAt w b 0) :
    Calls Try.prog 17 #[.pointer (some ⟨b, 0, none⟩)] w fun e w' => e = .returned (.bool false) ∧ w' = w := by
  have hc := h.c0
  go_enter Try.func17, Try.ntmps17
  go_wp2
  go_ret
  exact ⟨rfl, rfl⟩
theorem rtick_more (b : Nat) (n : Int) (w : World) (h : RTimAt w b n) (h1 : 1 ≤ n) (h2 : n ≤ 200) :
    Calls Try.prog 17 #[.pointer (some ⟨b, 0, none⟩)] w fun e w' => e = .returned (.bool (decide (n - 1 = 0))) ∧ RTimAt w' b (n - 1) ∧ Upd b w w' := by
  have hn : ¬ n = 0 := by omega
  have hc := h.c0
  have hf := h.free
  have hs := (h.set (n - 1)).c0
  go_enter Try.func17, Try.ntmps17
  go_wp2
  go_ret
  exact ⟨rfl, h.set (n - 1), Upd.setCell _ _ _ _⟩
theorem rtick_at (b : Nat) (n : Int) (w : World) (h : RTimAt w b n) (h1 : 0 ≤ n) (h2 : n ≤ 200) :
    Calls Try.prog 17 #[.pointer (some ⟨b, 0, none⟩)] w fun e w' => e = .returned (.bool (decide (n = 1))) ∧ RTimAt w' b (max (n - 1) 0) ∧ Upd b w w' := by
  by_cases h0 : n = 0
  · subst h0
    refine (rtick_zero b w h).mono ?_
    rintro e w' ⟨rfl, rfl⟩
    exact ⟨rfl, h, Upd.refl _ _⟩
  · refine (rtick_more b n w h (by omega) h2).mono ?_
    rintro e w' ⟨rfl, ht, hu⟩
    refine ⟨?_, ?_, hu⟩
    · congr 2
      exact decide_eq_decide.2 (by omega)
    · rw [show max (n - 1) 0 = n - 1 by omega]
      exact ht

end Go.Proofs.Ytbihcaacpeoghaa
