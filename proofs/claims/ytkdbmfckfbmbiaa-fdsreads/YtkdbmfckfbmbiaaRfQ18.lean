/- The reference of package fds: Encode. -/
import Derived.Test.YtkdbmfckfbmbiaaRfP18
import Derived.Test.YtkdbmfckfbmbiaaFdK
import Derived.Deep.RegionHeld3
namespace Go.Proofs.Ytkdbmfckfbmbiaa
open Go.RowKit
set_option linter.unusedVariables false

/-- append(u, four words), in a region that draws. -/
theorem app4 {w : World} {B n c : Nat} {a : Option Addr} {D : List Int} (ho : w.ownsRow B 85 1 (.slice a n c) D.length (uvs D)) (hn : D.length = n) (hB : B ≤ w.heap.size) (hl : n ≤ 900) (x0 x1 x2 x3 : Int) (d : Bool) :
    ∃ a' c' w', (∀ ty, (Builtin.append_ #[52, 52] ty #[.slice a n c, .slice (some ⟨w.heap.size, 0, none⟩) 4 4]).run Try.prog (if d then (w.alloc (.cells #[.int .u64 x0, .int .u64 x1, .int .u64 x2, .int .u64 x3] 85)).drew else (w.alloc (.cells #[.int .u64 x0, .int .u64 x1, .int .u64 x2, .int .u64 x3] 85))) = .ok (.slice a' (n + 4) c') w') ∧ w'.ownsRow B 85 1 (.slice a' (n + 4) c') (D ++ [x0, x1, x2, x3]).length (uvs (D ++ [x0, x1, x2, x3])) ∧ Below B w w' ∧ w.grownBy w' (Value.slice a n c).ownBlock := by
  obtain ⟨i0, hi0, hzz⟩ := Option.map_eq_some_iff.1 wordInfo
  simp only [Prod.mk.injEq] at hzz
  obtain ⟨hz0, hz1, hz2⟩ := hzz
  obtain ⟨W, hW⟩ : ∃ W, W = (if d then (w.alloc (.cells #[.int .u64 x0, .int .u64 x1, .int .u64 x2, .int .u64 x3] 85)).drew else (w.alloc (.cells #[.int .u64 x0, .int .u64 x1, .int .u64 x2, .int .u64 x3] 85))) := ⟨_, rfl⟩
  rw [← hW]
  have hbe : Below w.heap.size w W := by
    rw [hW]
    cases d
    · exact below_alloc _ _
    · exact (below_alloc _ _).drew
  have hnew : W.heap[w.heap.size]? = some (.cells #[.int .u64 x0, .int .u64 x1, .int .u64 x2, .int .u64 x3] 85) := by
    rw [hW]
    cases d
    · exact heap_alloc_new _ _
    · exact heap_alloc_new _ _
  clear hW
  have ho1 := ownsRow_below ho hbe
  obtain ⟨g', cap', w', hr', hown, hgrow, _, _⟩ := run_append_lies (P := Try.prog) W 52 0 B 85 i0 _ 1 8 Try.underlying52 hi0 hz0 hz1 hz2 rfl (by omega) _ D.length (uvs D) ho1
    ⟨w.heap.size, 0, none⟩ 4 4 (uvs [x0, x1, x2, x3]) rfl (fun j x hx => by
      rw [add0, Nat.zero_add, cell_of_heap hnew, ← hx]
      simp [uvs]) (uvs_one _) (by omega) (by unfold maxLen; omega) (by omega) (Nat.le_trans hB hbe.size) _ rfl
  rw [hn] at hr' hown
  refine ⟨some ⟨g', 0, none⟩, cap', w', fun ty => hr', ?_, (hbe.mono hB).trans (below_grown hgrow (Nat.le_trans hB hbe.size) (ownsRow_low ho1)), grown_trans (grown_below _ hbe) hgrow⟩
  rw [List.length_append, uvs_app, hn]
  exact hown
theorem app1 {w : World} {B n c : Nat} {a : Option Addr} {D : List Int} (ho : w.ownsRow B 85 1 (.slice a n c) D.length (uvs D)) (hn : D.length = n) (hB : B ≤ w.heap.size) (hl : n ≤ 900) (x0 : Int) :
    ∃ a' c' w', (∀ ty, (Builtin.append_ #[52, 52] ty #[.slice a n c, .slice (some ⟨w.heap.size, 0, none⟩) 1 1]).run Try.prog (w.alloc (.cells #[.int .u64 x0] 85)) = .ok (.slice a' (n + 1) c') w') ∧ w'.ownsRow B 85 1 (.slice a' (n + 1) c') (D ++ [x0]).length (uvs (D ++ [x0])) ∧ Below B w w' := by
  obtain ⟨i0, hi0, hzz⟩ := Option.map_eq_some_iff.1 wordInfo
  simp only [Prod.mk.injEq] at hzz
  obtain ⟨hz0, hz1, hz2⟩ := hzz
  have hbe : Below w.heap.size w (w.alloc (.cells #[.int .u64 x0] 85)) := below_alloc _ _
  have hnew : (w.alloc (.cells #[.int .u64 x0] 85)).heap[w.heap.size]? = some (.cells #[.int .u64 x0] 85) := heap_alloc_new _ _
  have ho1 := ownsRow_below ho hbe
  obtain ⟨g', cap', w', hr', hown, hgrow, _, _⟩ := run_append_lies (P := Try.prog) _ 52 0 B 85 i0 _ 1 8 Try.underlying52 hi0 hz0 hz1 hz2 rfl (by omega) _ D.length (uvs D) ho1
    ⟨w.heap.size, 0, none⟩ 1 1 (uvs [x0]) rfl (fun j x hx => by
      rw [add0, Nat.zero_add, cell_of_heap hnew, ← hx]
      simp [uvs]) (uvs_one _) (by omega) (by unfold maxLen; omega) (by omega) (Nat.le_trans hB hbe.size) _ rfl
  rw [hn] at hr' hown
  refine ⟨some ⟨g', 0, none⟩, cap', w', fun ty => hr', ?_, (hbe.mono hB).trans (below_grown hgrow (Nat.le_trans hB hbe.size) (ownsRow_low ho1))⟩
  rw [List.length_append, uvs_app, hn]
  exact hown
end Go.Proofs.Ytkdbmfckfbmbiaa
