/- The contracts of Page and Copy of package mem where they do something. -/
import Derived.Test.YtimioliaefkpfaaMemC
import Derived.BigRegion
namespace Go.Proofs.Ytimioliaefkpfaa
open Go.RowKit
namespace Me
set_option linter.unusedVariables false

/-- The words of frame f. -/
def frameOf (vs : List Int) (f : Nat) : List Int := (vs.drop (f * 32)).take 32
theorem frameOf_length (vs : List Int) (f n : Nat) (hl : vs.length = n * 32) (hf : f < n) : (frameOf vs f).length = 32 := by
  simp [frameOf, hl]; omega
theorem frameOf_get (vs : List Int) (f n : Nat) (hl : vs.length = n * 32) (hf : f < n) (j : Nat) (v : Value) (h : ((frameOf vs f).map (Value.int .u64))[j]? = some v) : j < 32 ∧ v = .int .u64 (vs.getD (f * 32 + j) 0) := by
  simp only [List.getElem?_map, Option.map_eq_some_iff] at h
  obtain ⟨a, ha, rfl⟩ := h
  have hj : j < 32 := by
    have := (List.getElem?_eq_some_iff.1 ha).1
    rwa [frameOf_length vs f n hl hf] at this
  refine ⟨hj, ?_⟩
  simp [frameOf, hj] at ha
  simp [ha]

theorem copy_run {w : World} {b g n : Nat} {vs : List Int} (h : MemAt w b g n vs) (f t : Nat) (hf : f < n) (ht : t < n) (ty : TypeId) (c1 c2 : Nat) :
    (Builtin.copy_ #[95, 95] ty #[.slice (some ⟨g, t * 32, none⟩) 32 c1, .slice (some ⟨g, f * 32, none⟩) 32 c2]).run Try.prog w = .ok (goInt 32) (w.setRow g (urow (splice vs (t * 32) (frameOf vs f)))) := by
  have hl := frameOf_length vs f n h.len hf
  have hr := run_copy_row Try.prog w 95 95 ty 22 g (t * 32) 32 c1 ⟨g, f * 32, none⟩ 32 c2 (urow vs) 97 ((frameOf vs f).map (Value.int .u64)) Try.underlying95 (by kernel_rfl) h.row
    (by simp [hl])
    (fun j v hv => by
      obtain ⟨hj, rfl⟩ := frameOf_get vs f n h.len hf j v hv
      have hadd : (⟨g, f * 32, none⟩ : Addr).add j = ⟨g, f * 32 + j, none⟩ := by unfold Addr.add; split <;> simp_all
      rw [hadd]
      exact h.word _ (by omega))
    (by simp [hl, urow_size, h.len]; omega) (fun v hv => by
      simp only [List.mem_map] at hv
      obtain ⟨x, _, rfl⟩ := hv
      rfl)
  rw [hr]
  rw [urow_splice vs (t * 32) (frameOf vs f) _ rfl (by rw [h.len, hl]; omega)]
  simp [hl]

/-- What Page leaves. -/
def pageWorld (w : World) (ws : List Int) : World := w.alloc (.cells (urow ws) 22)

theorem page_run {w : World} {b g n : Nat} {vs : List Int} (h : MemAt w b g n vs) (f : Nat) (hf : f < n) (ty : TypeId) (c1 c2 : Nat) :
    (Builtin.copy_ #[95, 95] ty #[.slice (some ⟨w.heap.size, 0, none⟩) 32 c1, .slice (some ⟨g, f * 32, none⟩) 32 c2]).run Try.prog (w.alloc (.cells (zrow 32) 22)) = .ok (goInt 32) (pageWorld w (frameOf vs f)) := by
  have hl := frameOf_length vs f n h.len hf
  have h2 : MemAt (w.alloc (.cells (zrow 32) 22)) b g n vs := h.below ((Below.refl _ _).alloc (Nat.le_refl _) _)
  have hr := run_copy_row Try.prog (w.alloc (.cells (zrow 32) 22)) 95 95 ty 22 w.heap.size 0 32 c1 ⟨g, f * 32, none⟩ 32 c2 (zrow 32) 22 ((frameOf vs f).map (Value.int .u64)) Try.underlying95 (by kernel_rfl) (heap_alloc_new _ _)
    (by simp [hl])
    (fun j v hv => by
      obtain ⟨hj, rfl⟩ := frameOf_get vs f n h.len hf j v hv
      have hadd : (⟨g, f * 32, none⟩ : Addr).add j = ⟨g, f * 32 + j, none⟩ := by unfold Addr.add; split <;> simp_all
      rw [hadd]
      exact h2.word _ (by omega))
    (by simp [hl, zrow]) (fun v hv => by
      simp only [List.mem_map] at hv
      obtain ⟨x, _, rfl⟩ := hv
      rfl)
  rw [hr]
  have e : ((zrow 32).toList.take 0 ++ (frameOf vs f).map (Value.int .u64) ++ (zrow 32).toList.drop (0 + ((frameOf vs f).map (Value.int .u64)).length)).toArray = urow (frameOf vs f) := by
    simp [hl, zrow, urow]
  rw [e]
  simp only [List.length_map, hl]
  rw [setRow_alloc_new]
  rfl

set_option maxHeartbeats 1000000 in
theorem copy_yes (b g n : Nat) (vs : List Int) (t f : Nat) (w : World) (h : MemAt w b g n vs) (ht : t < n) (hf : f < n) :
    Calls Try.prog 46 #[.pointer (some ⟨b, 0, none⟩), .int .i64 t, .int .i64 f] w fun e w' => e = .returned (.int .i64 0) ∧ ∃ q, w' = (w.setRow g (urow (splice vs (t * 32) (frameOf vs f)))).drewN q := by
  have hc := h.cell
  have hr := copy_run (w := w.drew) (h.keep rfl rfl) f t hf ht
  have h1 : (t : Int) < n := by omega
  have h2 : (f : Int) < n := by omega
  go_enter Try.func46, Try.ntmps46
  go_wp2_with fail
  refine (hasFrame_yes b _ n _ t _ hc ht).mono ?_
  rintro e w' ⟨rfl, rfl⟩
  go_wp2_with fail
  refine (hasFrame_yes b _ n _ f _ hc hf).mono ?_
  rintro e w' ⟨rfl, rfl⟩
  go_wp2_with fail
  go_region
  go_wp2
  go_ret
  exact ⟨rfl, 1, rfl⟩

end Me
end Go.Proofs.Ytimioliaefkpfaa
