/- Instructions that came in: what a slice of them holds, and what one of them is. -/
import Derived.Test.YtbdmiigicpmhiaaCodF
import Derived.Test.YtbdmiigicpmhiaaKinds
import Derived.ProofKit
import Derived.OpenShut
namespace Go.Proofs.Ytbdmiigicpmhiaa
open Go.ChangeShapes Go.WideShapes Go.ChangeAt Go.RowKit
set_option linter.unusedVariables false

theorem insKinds : kindsOf Try.prog 9 36 = some [.i .i64, .i .u64, .i .i64, .i .i64] := by kernel_rfl
theorem insSize : Try.prog.cellsOf 36 = 4 := by kernel_rfl
theorem insOf {cs : List Value} (h : Fits [.i .i64, .i .u64, .i .i64, .i .i64] cs) : ∃ i : Ins, i.Fit ∧ cs = (insRow i).toList := by
  obtain ⟨_, _, rfl, ⟨a, rfl, ha⟩, _, _, rfl, ⟨b, rfl, hb⟩, _, _, rfl, ⟨c, rfl, hc⟩, _, _, rfl, ⟨d, rfl, hd⟩, rfl⟩ := h
  exact ⟨⟨a, b, c, d⟩, ⟨bounds_i64 ha, bounds_u64 hb, bounds_i64 hc, bounds_i64 hd⟩, rfl⟩
theorem list_of {P : Nat → Ins → Prop} : ∀ (n : Nat), (∀ j, j < n → ∃ i, P j i) → ∃ l : List Ins, l.length = n ∧ ∀ j i, l[j]? = some i → P j i
  | 0, _ => ⟨[], rfl, fun j i h => by simp at h⟩
  | n + 1, h => by
    obtain ⟨l, hl, hp⟩ := list_of n (fun j hj => h j (by omega))
    obtain ⟨x, hx⟩ := h n (by omega)
    refine ⟨l ++ [x], by simp [hl], fun j i hj => ?_⟩
    by_cases hjl : j < l.length
    · rw [List.getElem?_append_left hjl] at hj
      exact hp j i hj
    · rw [List.getElem?_append_right (by omega)] at hj
      have hj0 : j - l.length = 0 := by
        have := (List.getElem?_eq_some_iff.1 hj).1
        simp at this
        omega
      rw [hj0] at hj
      simp at hj
      subst hj
      have : j = n := by omega
      rw [this]
      exact hx
theorem ins_list {w : World} {a0 : Option Addr} {len : Nat} (h : ∀ j, j < len → ∃ gb off cs, a0 = some ⟨gb, off, none⟩ ∧ Fits [.i .i64, .i .u64, .i .i64, .i .i64] cs ∧ ∀ i u, cs[i]? = some u → w.cell? ⟨gb, off + j * 4 + i, none⟩ = some u) :
    ∃ l : List Ins, l.length = len ∧ Row w a0 l ∧ ∀ i ∈ l, i.Fit := by
  obtain ⟨l, hl, hp⟩ := list_of (P := fun j i => i.Fit ∧ ∃ gb off, a0 = some ⟨gb, off, none⟩ ∧
      w.cell? ⟨gb, off + j * 4, none⟩ = some (.int .i64 i.op) ∧ w.cell? ⟨gb, off + j * 4 + 1, none⟩ = some (.int .u64 i.arg) ∧ w.cell? ⟨gb, off + j * 4 + 2, none⟩ = some (.int .i64 i.pos) ∧ w.cell? ⟨gb, off + j * 4 + 3, none⟩ = some (.int .i64 i.len)) len (fun j hj => by
    obtain ⟨gb, off, cs, ea, hfit, hcell⟩ := h j hj
    obtain ⟨i, hi, rfl⟩ := insOf hfit
    exact ⟨i, hi, gb, off, ea, hcell 0 _ rfl, hcell 1 _ rfl, hcell 2 _ rfl, hcell 3 _ rfl⟩)
  refine ⟨l, hl, fun j i hj => (hp j i hj).2, fun i hi => ?_⟩
  obtain ⟨j, hj⟩ := List.mem_iff_getElem?.1 hi
  exact (hp j i hj).1
end Go.Proofs.Ytbdmiigicpmhiaa
