/- Deeds of januslaw20 that came in, machines, numbers. -/
import Derived.Test.YtliifpknkdjgjaaSgW
import Derived.ProofKit
import Derived.OpenShut
import Derived.ChangeOld
import Derived.ChangeSlices
import Derived.Lib.SmallJoins
import Derived.Deep.Slices
import Derived.Below
namespace Go.Proofs.Ytliifpknkdjgjaa
open Go.ChangeShapes Go.WideShapes Go.ChangeAt Go.RowKit Go.Lib Go.Joins
set_option linter.unusedVariables false

section
variable {H : Type} {enc : TypeId × Value → H} {w : World} {base : Nat} {held : Bool}
theorem words_in {n : Nat} {a : Option Addr} {len cap : Nat} {y : DataW H × List MemPlace} (h : DataW.trod enc Try.prog w base (fun _ => true) held n 28 [.slice a len cap] = some y) :
    len ≤ 9223372036854775807 ∧ len ≤ cap ∧ ∃ D : List Int, len = D.length ∧ Rd w a D ∧ U64 D := by
  rcases open_ints Try.underlying28 Try.underlying27 (by kernel_rfl) h with ⟨hcs, _⟩ | ⟨ad, l, c, zs, hcs, _, hl, hm, hz, _, hcell, hwz⟩
  · simp only [List.cons.injEq, and_true, Value.slice.injEq] at hcs
    obtain ⟨rfl, rfl, rfl⟩ := hcs
    exact ⟨by omega, Nat.le_refl _, [], rfl, Rd.nil _ _, fun x hx => by simp at hx⟩
  · simp only [List.cons.injEq, and_true, Value.slice.injEq] at hcs
    obtain ⟨rfl, rfl, rfl⟩ := hcs
    have hz' : zs.length = cap := by simpa using hz
    refine ⟨by unfold maxLen at hm; omega, hl, zs.take len, by rw [List.length_take]; omega, fun j x hj => ?_, fun x hx => ?_⟩
    · have hlt := (List.getElem?_eq_some_iff.1 hj).1
      rw [List.length_take] at hlt
      rw [List.getElem?_take_of_lt (by omega)] at hj
      obtain ⟨gb, off, rfl, hc⟩ := ints_at hcell (by omega)
      refine ⟨gb, off, rfl, ?_⟩
      rw [hc j (by omega), List.getD_eq_getElem?_getD, hj]
      rfl
    · have := bounds_u64 (hwz x (List.mem_of_mem_take hx))
      exact ⟨this.1, by have := this.2; omega⟩
theorem words_in' {n : Nat} {v : Value} {y : DataW H × List MemPlace} (h : DataW.trod enc Try.prog w base (fun _ => true) held n 28 [v] = some y) :
    ∃ a cap D, v = .slice a (List.length D) cap ∧ D.length ≤ 9223372036854775807 ∧ Rd w a D ∧ U64 D := by
  rcases open_ints Try.underlying28 Try.underlying27 (by kernel_rfl) h with ⟨hcs, _⟩ | ⟨ad, l, c, zs, hcs, _, hl, hm, hz, _, hcell, hwz⟩
  · simp only [List.cons.injEq, and_true] at hcs
    subst hcs
    exact ⟨none, 0, [], rfl, by simp, Rd.nil _ _, fun x hx => by simp at hx⟩
  · have hcs' := hcs
    simp only [List.cons.injEq, and_true] at hcs'
    subst hcs'
    obtain ⟨h1, _, D, hl2, h3, h4⟩ := words_in h
    exact ⟨some ad, c, D, by rw [hl2], by rw [← hl2]; exact h1, h3, h4⟩
theorem int_in {n : Nat} {v : Value} {y : DataW H × List MemPlace} (h : DataW.trod enc Try.prog w base (fun _ => true) held n 3 [v] = some y) : ∃ x : Int, v = .int .i64 x ∧ -9223372036854775808 ≤ x ∧ x ≤ 9223372036854775807 := by
  obtain ⟨x, e, _, hw⟩ := DataW.trod_int Try.underlying3 h
  simp only [List.cons.injEq, and_true] at e
  exact ⟨x, e, bounds_i64 hw⟩
theorem word_in {n : Nat} {v : Value} {y : DataW H × List MemPlace} (h : DataW.trod enc Try.prog w base (fun _ => true) held n 27 [v] = some y) : ∃ x : Int, v = .int .u64 x ∧ 0 ≤ x ∧ x < 18446744073709551616 := by
  obtain ⟨x, e, _, hw⟩ := DataW.trod_int Try.underlying27 h
  simp only [List.cons.injEq, and_true] at e
  have := bounds_u64 hw
  exact ⟨x, e, this.1, by have := this.2; omega⟩
theorem trod_struct5 {P : Program} {spare : Nat → Bool} {t : TypeId} {f0 f1 f2 f3 f4 : Field} {fuel : Nat} {cs : List Value} {x : DataW H × List MemPlace} (ht : P.underlying t = some (.struct #[f0, f1, f2, f3, f4])) (h : DataW.trod enc P w base spare held fuel t cs = some x) :
    ∃ y0 y1 y2 y3 y4 n, cs.length = P.cellsOf t ∧ DataW.trod enc P w base spare held n f0.type ((cs.drop f0.offset).take (P.cellsOf f0.type)) = some y0 ∧
      DataW.trod enc P w base spare held n f1.type ((cs.drop f1.offset).take (P.cellsOf f1.type)) = some y1 ∧ DataW.trod enc P w base spare held n f2.type ((cs.drop f2.offset).take (P.cellsOf f2.type)) = some y2 ∧
      DataW.trod enc P w base spare held n f3.type ((cs.drop f3.offset).take (P.cellsOf f3.type)) = some y3 ∧ DataW.trod enc P w base spare held n f4.type ((cs.drop f4.offset).take (P.cellsOf f4.type)) = some y4 := by
  obtain ⟨xs, n, _, rfl, hl, hlen, hf⟩ := DataW.trod_struct ht h
  match xs, hlen with
  | [y0, y1, y2, y3, y4], _ => exact ⟨y0, y1, y2, y3, y4, n, hl, by simpa using hf 0 f0 rfl, by simpa using hf 1 f1 rfl, by simpa using hf 2 f2 rfl, by simpa using hf 3 f3 rfl, by simpa using hf 4 f4 rfl⟩
/-- The words of a deed can be read. -/
def DeedOk (w : World) (d : Deed) : Prop := Rd w d.va d.st ∧ U64 d.st ∧ d.st.length ≤ 9223372036854775807 ∧ (0 ≤ d.h ∧ d.h < 18446744073709551616)
theorem DeedOk.below {w w' : World} {d : Deed} (h : DeedOk w d) (hb : Below w.heap.size w w') : DeedOk w' d := ⟨h.1.below hb, h.2⟩
theorem deed_in {n : Nat} {cs : List Value} {y : DataW H × List MemPlace} (h : DataW.trod enc Try.prog w base (fun _ => true) held n 32 cs = some y) :
    ∃ d : Deed, cs = (deedRow d).toList ∧ DeedOk w d := by
  have hu := Try.underlying32
  obtain ⟨y0, y1, y2, y3, y4, m, hl, h0, h1, h2, h3, h4⟩ := trod_struct5 hu h
  rw [show Try.prog.cellsOf 32 = 6 by kernel_rfl] at hl
  match cs, hl with
  | [c0, c1, c2, c3, c4, c5], _ =>
    have k0 : DataW.trod enc Try.prog w base (fun _ => true) held m 3 [c0] = some y0 := h0
    have k1 : DataW.trod enc Try.prog w base (fun _ => true) held m 3 [c1] = some y1 := h1
    have k2 : DataW.trod enc Try.prog w base (fun _ => true) held m 3 [c2] = some y2 := h2
    have k3 : DataW.trod enc Try.prog w base (fun _ => true) held m 27 [c3] = some y3 := h3
    have k4 : DataW.trod enc Try.prog w base (fun _ => true) held m 30 [c4, c5] = some y4 := h4
    obtain ⟨z0, z1, m2, -, -, l0, l1⟩ := trod_struct2 Try.underlying30 k4
    have j0 : DataW.trod enc Try.prog w base (fun _ => true) held m2 3 [c4] = some z0 := l0
    have j1 : DataW.trod enc Try.prog w base (fun _ => true) held m2 28 [c5] = some z1 := l1
    obtain ⟨x0, rfl, _⟩ := int_in k0
    obtain ⟨x1, rfl, _⟩ := int_in k1
    obtain ⟨x2, rfl, _⟩ := int_in k2
    obtain ⟨x3, rfl, b3⟩ := word_in k3
    obtain ⟨x4, rfl, _⟩ := int_in j0
    obtain ⟨a, cap, D, rfl, hl, hrd, hu64⟩ := words_in' j1
    exact ⟨⟨x0, x1, x2, x3, x4, D, a, cap⟩, rfl, hrd, hu64, hl, b3⟩
end
/-- A deed at a place. -/
def DeedAt (w : World) (gb o : Nat) (d : Deed) : Prop := (∀ i, i < 6 → w.cell? ⟨gb, o + i, none⟩ = (deedRow d).toList[i]?) ∧ DeedOk w d
/-- A slice at a0 holds so many deeds. -/
def DeedsAt (w : World) (a0 : Option Addr) (len : Nat) : Prop := ∀ j, j < len → ∃ gb off d, a0 = some ⟨gb, off, none⟩ ∧ DeedAt w gb (off + j * 6) d
section
variable {H : Type} {enc : TypeId × Value → H} {w : World} {base : Nat} {held : Bool}
theorem deeds_in {fuel len cap : Nat} {a0 : Option Addr} {x : DataW H × List MemPlace} (h : DataW.trod enc Try.prog w base (fun _ => true) held fuel 22 [.slice a0 len cap] = some x) :
    len ≤ 9223372036854775807 ∧ DeedsAt w a0 len := by
  rcases Go.Deep.open_slice Try.underlying22 h with ⟨h0, _⟩ | ⟨a, len', cap', m, n, D, Pl, hcs, hb, hl1, hm, hmm, hx0, hx⟩
  · simp at h0
    obtain ⟨rfl, rfl, rfl⟩ := h0
    exact ⟨by omega, fun j hj => by omega⟩
  · simp at hcs
    obtain ⟨rfl, rfl, rfl⟩ := hcs
    refine ⟨by unfold maxLen at hm; omega, fun j hj => ?_⟩
    have hlm : len ≤ m := by rw [hmm]; split <;> omega
    have hc : Try.prog.cellsOf 32 = 6 := by kernel_rfl
    obtain ⟨cs', h1, h2⟩ := hx j (by omega)
    obtain ⟨d, rfl, hd⟩ := deed_in h2
    rw [hc] at h1
    obtain ⟨_, hlen, hcell⟩ := World.cells?_some h1
    have hz : ∃ u, w.cell? a = some u := by
      obtain ⟨cs0, z1, _⟩ := hx 0 (by omega)
      rw [hc] at z1
      obtain ⟨_, zl, z2⟩ := World.cells?_some z1
      have z3 := z2 0 (by omega)
      rw [Go.Deep.add_add] at z3
      have z4 : w.cell? a = cs0[0]? := by simpa [Addr.add] using z3
      exact ⟨cs0[0]'(by omega), by rw [z4]; simp⟩
    obtain ⟨gb, off, spot⟩ := a
    obtain ⟨u, hu⟩ := hz
    have hspot : spot = none := by simpa using World.cell?_spot hu
    subst hspot
    refine ⟨gb, off, d, rfl, fun i hi => ?_, hd⟩
    have q := hcell i hi
    rw [Go.Deep.add_add] at q
    simp only [Go.WideShapes.add_plain] at q
    rw [Nat.add_assoc]
    exact q
end
end Go.Proofs.Ytliifpknkdjgjaa
