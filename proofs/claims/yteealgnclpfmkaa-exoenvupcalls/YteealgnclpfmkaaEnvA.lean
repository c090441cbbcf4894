/- Package exoenv: the environments in the heap; New, Is. -/
import Derived.Test.YteealgnclpfmkaaRows
import Derived.Test.YteealgnclpfmkaaPlain
import Derived.Test.YteealgnclpfmkaaEnvM
import Derived.WalkKit
import Derived.WalkSpells
import Derived.WalkLawsBesides
import Derived.Deep.RegionHeld3
import Derived.Deep.QuietTactic
import Derived.Deep.AppendLies
import Derived.BigRegion
import Derived.BigQuiet
namespace Go.Proofs.Yteealgnclpfmkaa
open Go.RowKit
set_option linter.unusedVariables false

theorem ret_bool {x y : Bool} (h : x = y) : Ending.returned (.bool x) = Ending.returned (.bool y) := by rw [h]
theorem ret_int {k : IntKind} {x y : Int} (h : x = y) : Ending.returned (.int k x) = Ending.returned (.int k y) := by rw [h]
theorem below_alloc (w : World) (o : Obj) : Below w.heap.size w (w.alloc o) := (Below.refl _ _).alloc (Nat.le_refl _) _
theorem below_alloc2 (w : World) (o o' : Obj) : Below w.heap.size w ((w.alloc o).alloc o') := (below_alloc w o).trans ((below_alloc _ _).mono (by simp))
theorem cell_alloc_old {w : World} {p : Addr} {u : Value} (h : w.cell? p = some u) (o : Obj) : (w.alloc o).cell? p = some u :=
  (below_alloc w o).cell (cell_lt h) ▸ h

/-- Numbers as cells. -/
def ivs (zs : List Int) : List Value := zs.map (Value.int .i64)
/-- Numbers as a block's cells. -/
def irow (L : List Int) : Array Value := (L.map (Value.int .i64)).toArray
theorem irow_zero (n : Nat) : Array.replicate (n * 1) (Value.int .i64 0) = irow (List.replicate n 0) := by simp [irow]
theorem irow_set (L : List Int) (f : Nat) (v : Int) : (irow L).setIfInBounds f (.int .i64 v) = irow (L.set f v) := by
  apply Array.ext'
  simp [irow, List.map_set]
theorem irow_cell {w : World} {B : Nat} {L : List Int} {t : TypeId} (h : w.heap[B]? = some (.cells (irow L) t)) {i : Nat} {x : Int} (hx : L[i]? = some x) : w.cell? ⟨B, i, none⟩ = some (.int .i64 x) := by
  rw [cell_of_heap h]
  simp [irow, hx]
theorem intInfo : (Try.prog.info? 3).map (fun i => (i.zero, i.size, i.bytes)) = some (some (.int .i64 0), 1, 8) := by kernel_rfl
theorem make_ints (n : Nat) (h : n ≤ 1024) (w : World) :
    (Instr.makeSlice 41 (.int .i64 (n : Int)) (.int .i64 (n : Int))).run Try.prog w = .ok (.slice (some ⟨w.heap.size, 0, none⟩) n n) (w.alloc (.cells (irow (List.replicate n 0)) 3)) := by
  have := run_make_flat 41 3 (.int .i64 0) (.int .i64 0) 1 8 Try.underlying41 intInfo rfl (by omega) .i64 .i64 n (by omega) (by omega) w
  rwa [irow_zero] at this

/-- Block b holds the environments of E, block g the vector V. -/
structure EnvAt (w : World) (b g : Nat) (E : ES) (V : List Int) : Prop where
  head : ∃ row : Array Value, w.heap[b]? = some (.cells row 56) ∧ row.size = 37 ∧ (∀ j, j < 12 → ∀ k, k < 3 → row[j * 3 + k]? = some ((E j).get k)) ∧ row[36]? = some (.slice (some ⟨g, 0, none⟩) V.length V.length)
  vec : w.heap[g]? = some (.cells (irow V) 3)
  ne : b ≠ g
  pos : 1 ≤ V.length
  len : V.length ≤ 64
theorem EnvAt.ltb {w : World} {b g : Nat} {E : ES} {V : List Int} (h : EnvAt w b g E V) : b < w.heap.size := by
  obtain ⟨row, hr, _⟩ := h.head
  exact lt_of_heap hr
theorem EnvAt.ltg {w : World} {b g : Nat} {E : ES} {V : List Int} (h : EnvAt w b g E V) : g < w.heap.size := lt_of_heap h.vec
theorem EnvAt.keep {w w' : World} {b g : Nat} {E : ES} {V : List Int} (h : EnvAt w b g E V) (hb : w'.heap[b]? = w.heap[b]?) (hg : w'.heap[g]? = w.heap[g]?) : EnvAt w' b g E V := by
  obtain ⟨row, hr, h1⟩ := h.head
  exact ⟨⟨row, hb.trans hr, h1⟩, hg.trans h.vec, h.ne, h.pos, h.len⟩
theorem EnvAt.below {w w' : World} {b g : Nat} {E : ES} {V : List Int} (h : EnvAt w b g E V) (hb : Below w.heap.size w w') : EnvAt w' b g E V := h.keep (hb.block _ h.ltb) (hb.block _ h.ltg)
theorem EnvAt.cell {w : World} {b g : Nat} {E : ES} {V : List Int} (h : EnvAt w b g E V) {j k o : Nat} (hj : j < 12) (hk : k < 3) (ho : o = j * 3 + k) : w.cell? ⟨b, o, none⟩ = some ((E j).get k) := by
  obtain ⟨row, hr, _, h2, _⟩ := h.head
  rw [cell_of_heap hr, ho]
  exact h2 j hj k hk
theorem EnvAt.sl {w : World} {b g : Nat} {E : ES} {V : List Int} (h : EnvAt w b g E V) : w.cell? ⟨b, 36, none⟩ = some (.slice (some ⟨g, 0, none⟩) V.length V.length) := by
  obtain ⟨row, hr, _, _, h3⟩ := h.head
  rw [cell_of_heap hr]
  exact h3
theorem EnvAt.freeb {w : World} {b g : Nat} {E : ES} {V : List Int} (h : EnvAt w b g E V) (o : Nat) : w.frozen? ⟨b, o, none⟩ = false := by
  obtain ⟨row, hr, _⟩ := h.head
  exact frozen_of_heap hr
theorem EnvAt.freeg {w : World} {b g : Nat} {E : ES} {V : List Int} (h : EnvAt w b g E V) (o : Nat) : w.frozen? ⟨g, o, none⟩ = false := frozen_of_heap h.vec
theorem EnvAt.vcell {w : World} {b g : Nat} {E : ES} {V : List Int} (h : EnvAt w b g E V) {i : Nat} {x : Int} (hx : V[i]? = some x) : w.cell? ⟨g, i, none⟩ = some (.int .i64 x) := irow_cell h.vec hx
theorem EnvAt.set {w : World} {b g : Nat} {E : ES} {V : List Int} (h : EnvAt w b g E V) {j k o : Nat} (hj : j < 12) (hk : k < 3) (ho : o = j * 3 + k) (v : Value) (H : Ev) (h1 : H.get k = v) (h2 : ∀ i, i < 3 → i ≠ k → H.get i = (E j).get i) :
    EnvAt (w.setCell ⟨b, o, none⟩ v) b g (E.set j H) V := by
  obtain ⟨row, hr, hs, hc, hl⟩ := h.head
  subst ho
  refine ⟨⟨row.setIfInBounds (j * 3 + k) v, ?_, by simp [hs], fun i hi m hm => ?_, ?_⟩, ?_, h.ne, h.pos, h.len⟩
  · rw [setCell_eq_setRow w b _ _ _ _ _ hr, setRow_heap w b _ _ _ _ hr]
  · rw [Array.getElem?_setIfInBounds]
    by_cases he : j * 3 + k = i * 3 + m
    · have hij : i = j := by omega
      have hmk : m = k := by omega
      subst hij hmk
      rw [if_pos he, if_pos (by omega), ES.set_same, h1]
    · rw [if_neg he]
      by_cases hij : i = j
      · subst hij
        rw [ES.set_same, h2 m hm (by omega)]
        exact hc i hi m hm
      · rw [ES.set_other _ _ _ _ hij]
        exact hc i hi m hm
  · rw [Array.getElem?_setIfInBounds, if_neg (by omega)]
    exact hl
  · rw [Below.heap_setCell _ _ _ _ (Ne.symm h.ne)]
    exact h.vec
theorem EnvAt.setV {w : World} {b g : Nat} {E : ES} {V : List Int} (h : EnvAt w b g E V) (i : Nat) (x : Int) :
    EnvAt (w.setCell ⟨g, i, none⟩ (.int .i64 x)) b g E (V.set i x) := by
  obtain ⟨row, hr, hs, hc, hl⟩ := h.head
  refine ⟨⟨row, ?_, hs, hc, ?_⟩, ?_, h.ne, by simpa using h.pos, by simpa using h.len⟩
  · rw [Below.heap_setCell _ _ _ _ h.ne]
    exact hr
  · rw [List.length_set]
    exact hl
  · rw [setCell_eq_setRow w g _ _ _ _ _ h.vec, setRow_heap w g _ _ _ _ h.vec, irow_set]
/-- The blocks that the calls write. -/
abbrev Mine (b g : Nat) (k : Nat) : Prop := k = b ∨ k = g
theorem mine_b (b g o : Nat) (w : World) (v : Value) : UpdP (Mine b g) w (w.setCell ⟨b, o, none⟩ v) := (Upd.setCell b o w v).p _ (Or.inl rfl)
theorem mine_g (b g o : Nat) (w : World) (v : Value) : UpdP (Mine b g) w (w.setCell ⟨g, o, none⟩ v) := (Upd.setCell g o w v).p _ (Or.inr rfl)

theorem new_no (n : Int) (w : World) (h : n < 1 ∨ 64 < n) :
    Calls Try.prog 7 #[.int .i64 n] w fun e w' => e = .returned (.pointer none) ∧ w' = w := by
  rcases h with h | h
  · go_enter Try.func7, Try.ntmps7
    go_wp2
    go_ret
    exact ⟨rfl, rfl⟩
  · have h' : ¬ n < 1 := by omega
    go_enter Try.func7, Try.ntmps7
    go_wp2
    go_ret
    exact ⟨rfl, rfl⟩

theorem is_nil (n : Int) (w : World) :
    Calls Try.prog 21 #[.pointer none, .int .i64 n] w fun e w' => e = .returned (.bool false) ∧ w' = w := by
  go_enter Try.func21, Try.ntmps21
  go_wp2
  go_ret
  exact ⟨rfl, rfl⟩
theorem ptr_ne (b : Nat) (W : World) : (binOp .neq 23 (.pointer (some ⟨b, 0, none⟩)) (.pointer none)).run Try.prog W = .ok (.bool true) W := by go_simp
theorem ptr_eq (b : Nat) (W : World) : (binOp .eql 23 (.pointer (some ⟨b, 0, none⟩)) (.pointer none)).run Try.prog W = .ok (.bool false) W := by go_simp
theorem is_at (b g : Nat) (E : ES) (V : List Int) (n : Int) (w : World) (h : EnvAt w b g E V) :
    Calls Try.prog 21 #[.pointer (some ⟨b, 0, none⟩), .int .i64 n] w fun e w' => e = .returned (.bool (isB E n)) ∧ w' = w := by
  have hne := ptr_ne b
  by_cases h0 : 0 ≤ n
  · have g0 : decide (0 ≤ n) = true := decide_eq_true h0
    by_cases h1 : n < 12
    · obtain ⟨m, rfl⟩ : ∃ m : Nat, n = m := ⟨n.toNat, by omega⟩
      have hm : m < 12 := by omega
      have g1 : decide ((m : Int) < 12) = true := decide_eq_true h1
      have c0 := h.cell (j := m) (k := 0) (o := m * 3) hm (by omega) (by omega)
      have HB : Hid (isB E m = (E m).lives) := isB_of hm
      dsimp only [Ev.get] at c0
      clear h
      generalize (E m).lives = B at *
      go_enter Try.func21, Try.ntmps21
      go_wp2
      all_goals
        go_ret
        exact ⟨by rw [HB.out]; rfl, rfl⟩
    · have g1 : decide (n < 12) = false := decide_eq_false h1
      have HB : Hid (isB E n = false) := by show isB E n = false; simp [isB, isE, h1]
      clear h
      go_enter Try.func21, Try.ntmps21
      go_wp2
      all_goals
        go_ret
        exact ⟨by rw [HB.out]; rfl, rfl⟩
  · have g0 : decide (0 ≤ n) = false := decide_eq_false h0
    have HB : Hid (isB E n = false) := by show isB E n = false; simp [isB, isE, h0]
    clear h
    go_enter Try.func21, Try.ntmps21
    go_wp2
    all_goals
      go_ret
      exact ⟨by rw [HB.out]; rfl, rfl⟩
end Go.Proofs.Yteealgnclpfmkaa
