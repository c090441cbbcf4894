/- januslaw22: deeds that came in. -/
import Derived.Test.YtikjfdihocgfpaaGreatDoorCaA
import Derived.Test.YtikjfdihocgfpaaGreatDoorSgWTRsB
import Derived.Test.YtikjfdihocgfpaaGreatDoorUxATUxT
import Derived.ChangeSame
set_option linter.all false
namespace Go.Proofs.YtikjfdihocgfpaaGreatDoor
open Go.ChangeShapes Go.WideShapes Go.ChangeAt Go.RowKit Go.Lib
/-- A deed. -/
structure Dd where
  k : Int
  p : Int
  n : Int
  x : Cl
  pc : Int
  v : Value
abbrev ddR (d : Dd) : Array Value := #[.int .i64 d.k, .int .i64 d.p, .int .i64 d.n, .int .i64 d.x.n, .int .u64 d.x.a, .int .u64 d.x.b, .int .u64 d.x.c, Pp.tx d.x.t, Pp.tx d.x.u, .int .i64 d.pc, d.v]
theorem clKinds : kindsOf Tryz.prog 9 48 = some [.i .i64, .i .u64, .i .u64, .i .u64, .s, .s] := by kernel_rfl
theorem cl_of {l : List Value} (h : Fits [.i .i64, .i .u64, .i .u64, .i .u64, .s, .s] l) : ∃ x : Cl, l = (clR x).toList := by
  obtain ⟨_, _, rfl, ⟨a, rfl, -⟩, _, _, rfl, ⟨b, rfl, -⟩, _, _, rfl, ⟨c, rfl, -⟩, _, _, rfl, ⟨d, rfl, -⟩, _, _, rfl, ⟨s, rfl, -⟩, _, _, rfl, ⟨t, rfl, -⟩, rfl⟩ := h
  exact ⟨⟨a, b, c, d, s.data.toList, t.data.toList⟩, rfl⟩
section
variable {H : Type} {enc : TypeId × Value → H} {w : World} {base : Nat} {held : Bool}
set_option maxRecDepth 100000 in
theorem dd_in {n : Nat} {cs : List Value} {y : DataW H × List MemPlace} (h : DataW.trod enc Tryz.prog w base (fun _ => true) held n 55 cs = some y) : ∃ d : Dd, cs = (ddR d).toList := by
  have hu := Tryz.underlying55
  obtain ⟨y0, y1, y2, y3, y4, m, hl, h0, h1, h2, h3, h4⟩ := Sg.trod_struct5 hu h
  rw [show Tryz.prog.cellsOf 55 = 11 by kernel_rfl] at hl
  match cs, hl with
  | [c0, c1, c2, c3, c4, c5, c6, c7, c8, c9, c10], _ =>
    have k0 : DataW.trod enc Tryz.prog w base (fun _ => true) held m 3 [c0] = some y0 := h0
    have k1 : DataW.trod enc Tryz.prog w base (fun _ => true) held m 3 [c1] = some y1 := h1
    have k2 : DataW.trod enc Tryz.prog w base (fun _ => true) held m 3 [c2] = some y2 := h2
    have k3 : DataW.trod enc Tryz.prog w base (fun _ => true) held m 48 [c3, c4, c5, c6, c7, c8] = some y3 := h3
    have k4 : DataW.trod enc Tryz.prog w base (fun _ => true) held m 53 [c9, c10] = some y4 := h4
    obtain ⟨z0, z1, m2, -, -, l0, l1⟩ := trod_struct2 Tryz.underlying53 k4
    have j0 : DataW.trod enc Tryz.prog w base (fun _ => true) held m2 3 [c9] = some z0 := l0
    obtain ⟨x0, rfl, _⟩ := Sg.int_in k0
    obtain ⟨x1, rfl, _⟩ := Sg.int_in k1
    obtain ⟨x2, rfl, _⟩ := Sg.int_in k2
    obtain ⟨x4, rfl, _⟩ := Sg.int_in j0
    obtain ⟨x, hx⟩ := cl_of (fits_of_trod 9 _ _ _ _ _ clKinds k3)
    simp only [clR, List.cons.injEq, and_true] at hx
    obtain ⟨rfl, rfl, rfl, rfl, rfl, rfl⟩ := hx
    exact ⟨⟨x0, x1, x2, x, x4, c10⟩, rfl⟩
end
end Go.Proofs.YtikjfdihocgfpaaGreatDoor
