/- Package fds: two tables held against each other; Decode. -/
import Derived.Test.YtkdbmfckfbmbiaaFdO
import Derived.ChangeKeysEq
namespace Go.Proofs.Ytkdbmfckfbmbiaa
open Go.RowKit
set_option linter.unusedVariables false
set_option linter.unusedSimpArgs false

theorem intCells : Try.prog.cellsOf 3 = 1 := by kernel_rfl
theorem tabCells : Try.prog.cellsOf 69 = 6 := by kernel_rfl
theorem intPlain : Try.prog.plainKey 3 = true := by kernel_rfl
theorem sixUnder : Try.prog.underlying 69 = some (.array 6 3) := by kernel_rfl
theorem tabUnder : Try.prog.underlying 71 = some (.array 8 69) := by kernel_rfl
theorem eq_ints6 (g h : Nat → Nat) (p d : Nat) (W : World) : ∀ (is : List Nat), (∀ i ∈ is, i < 6) → (Op.eqItems (d + 1) 3 1 (six g p).toArray (six h p).toArray is).run Try.prog W = .ok (is.all (fun j => g (p * 6 + j) == h (p * 6 + j))) W
  | [], _ => by simp [Op.eqItems]
  | i :: is, hi => by
    have h1 := hi i List.mem_cons_self
    have e1 : (six g p).toArray[i]? = some (.int .i64 (g (p * 6 + i) : Nat)) := by simpa using six_get g p h1
    have e2 : (six h p).toArray[i]? = some (.int .i64 (h (p * 6 + i) : Nat)) := by simpa using six_get h p h1
    have p1 := run_part_plain (P := Try.prog) W intPlain e1
    have p2 := run_part_plain (P := Try.prog) W intPlain e2
    have ih := eq_ints6 g h p d W is (fun j hj => hi j (List.mem_cons_of_mem _ hj))
    have q := run_equalIn_int (P := Try.prog) W d 3 .i64 .i64 (g (p * 6 + i) : Nat) (h (p * 6 + i) : Nat) Try.underlying3
    simp only [Op.eqItems, Nat.mul_one, Sem.run_bind, p1, p2, Result.andThen_ok, q, List.all_cons]
    by_cases hb : g (p * 6 + i) = h (p * 6 + i)
    · simp [ih, hb]
    · have : ¬ ((g (p * 6 + i) : Int) = (h (p * 6 + i) : Int)) := by omega
      simp [hb, this]
theorem tab_part (g : Nat → Nat) (p : Nat) (hp : p < 8) (W : World) : (part 69 (tabR g) (p * 6)).run Try.prog W = .ok (.agg (six g p).toArray) W := by
  have h1 : (tabR g).extract (p * 6) (p * 6 + 6) = (six g p).toArray := by
    apply Array.ext
    · simp [tabR_size, six]; omega
    · intro i h1 h2
      have hi : i < 6 := by simpa [six] using h2
      rw [Array.getElem_extract]
      simp [tabR, irow, tabL, six]
  have hs : (sizeOf 69).run Try.prog W = .ok 6 W := by kernel_rfl
  have ha : (isAgg 69).run Try.prog W = .ok true W := by kernel_rfl
  simp only [part, Sem.run_bind, ha, Result.andThen_ok, if_true, hs, Sem.run_pure, h1]
theorem eq_tabs (g h : Nat → Nat) (d : Nat) (W : World) : ∀ (is : List Nat), (∀ i ∈ is, i < 8) → (Op.eqItems (d + 2) 69 6 (tabR g) (tabR h) is).run Try.prog W = .ok (is.all (fun p => (List.range 6).all (fun j => g (p * 6 + j) == h (p * 6 + j)))) W
  | [], _ => by simp [Op.eqItems]
  | i :: is, hi => by
    have h1 := hi i List.mem_cons_self
    have p1 := tab_part g i h1 W
    have p2 := tab_part h i h1 W
    have ih := eq_tabs g h d W is (fun j hj => hi j (List.mem_cons_of_mem _ hj))
    have hq : (Try.prog.info? 3).isSome = true := by kernel_rfl
    obtain ⟨i0, hi0⟩ := Option.isSome_iff_exists.mp hq
    have q : (Op.equalIn (d + 2) 69 (.agg (six g i).toArray) (.agg (six h i).toArray)).run Try.prog W = .ok ((List.range 6).all (fun j => g (i * 6 + j) == h (i * 6 + j))) W := by
      rw [run_equalIn_array W (d + 1) _ _ sixUnder hi0, intCells, eq_ints6 g h i d W _ (fun j hj => List.mem_range.1 hj)]
    simp only [Op.eqItems, Sem.run_bind, p1, p2, Result.andThen_ok, q, List.all_cons]
    cases hb : (List.range 6).all (fun j => g (i * 6 + j) == h (i * 6 + j)) with
    | true => simp [ih]
    | false => simp
theorem all48 (g h : Nat → Nat) : (List.range 8).all (fun p => (List.range 6).all (fun j => g (p * 6 + j) == h (p * 6 + j))) = (List.range 48).all (fun i => g i == h i) := by
  rw [Bool.eq_iff_iff]
  simp only [List.all_eq_true, List.mem_range, beq_iff_eq]
  constructor
  · intro hh i hi
    have := hh (i / 6) (by omega) (i % 6) (by omega)
    rwa [show i / 6 * 6 + i % 6 = i by omega] at this
  · intro hh p hp j hj
    exact hh (p * 6 + j) (by omega)
/-- Whether two tables are not the same. -/
theorem tabs_ne (g h : Nat → Nat) (W : World) : (binOp .neq 71 (.agg (tabR g)) (.agg (tabR h))).run Try.prog W = .ok (.bool (!(List.range 48).all (fun i => g i == h i))) W := by
  have hq : (Try.prog.info? 69).isSome = true := by kernel_rfl
  obtain ⟨i0, hi0⟩ := Option.isSome_iff_exists.mp hq
  have h2 : (Op.equalIn 10000 71 (.agg (tabR g)) (.agg (tabR h))).run Try.prog W = .ok ((List.range 48).all (fun i => g i == h i)) W := by
    rw [run_equalIn_array W 9999 _ _ tabUnder hi0, tabCells, eq_tabs g h 9997 W _ (fun j hj => List.mem_range.1 hj), all48]
  generalize (List.range 48).all (fun i => g i == h i) = r at *
  go_simp
end Go.Proofs.Ytkdbmfckfbmbiaa
