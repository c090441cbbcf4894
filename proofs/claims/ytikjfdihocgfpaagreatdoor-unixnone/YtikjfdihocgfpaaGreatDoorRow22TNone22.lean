/- januslaw22: deeds that came in. -/
/- Proved: januslaw22.UnixNone answers true for every deed (a core that is none refuses all), and its argument reads behind the call as before, at the commit of this claim; where the listed package-level variables are laid as the program's text lays them (the card ties that; the call reads none of them). -/
import Derived.Test.YtikjfdihocgfpaaGreatDoorCaA
import Derived.Test.YtikjfdihocgfpaaGreatDoorSgWTRsB
import Derived.Test.YtikjfdihocgfpaaGreatDoorUxATUxT
import Derived.Test.YtikjfdihocgfpaaGreatDoorNoneW22
set_option linter.all false
namespace Go.Proofs.YtikjfdihocgfpaaGreatDoor
open Go.ChangeShapes Go.WideShapes Go.ChangeAt Go.RowKit Go.Lib
/-- A deed. -/
structure Dd where
  k : Int
  p : Int
  n : Int
  x : Cl
  pc : Int
  v : Value
abbrev ddR (d : Dd) : Array Value := #[.int .i64 d.k, .int .i64 d.p, .int .i64 d.n, .int .i64 d.x.n, .int .u64 d.x.a, .int .u64 d.x.b, .int .u64 d.x.c, Pp.tx d.x.t, Pp.tx d.x.u, .int .i64 d.pc, d.v]
theorem clKinds : kindsOf Tryz.prog 9 48 = some [.i .i64, .i .u64, .i .u64, .i .u64, .s, .s] := by kernel_rfl
theorem cl_of {l : List Value} (h : Fits [.i .i64, .i .u64, .i .u64, .i .u64, .s, .s] l) : ∃ x : Cl, l = (clR x).toList := by
  obtain ⟨_, _, rfl, ⟨a, rfl, -⟩, _, _, rfl, ⟨b, rfl, -⟩, _, _, rfl, ⟨c, rfl, -⟩, _, _, rfl, ⟨d, rfl, -⟩, _, _, rfl, ⟨s, rfl, -⟩, _, _, rfl, ⟨t, rfl, -⟩, rfl⟩ := h
  exact ⟨⟨a, b, c, d, s.data.toList, t.data.toList⟩, rfl⟩
section
variable {H : Type} {enc : TypeId × Value → H} {w : World} {base : Nat} {held : Bool}
theorem dd_in {n : Nat} {cs : List Value} {y : DataW H × List MemPlace} (h : DataW.trod enc Tryz.prog w base (fun _ => true) held n 55 cs = some y) : ∃ d : Dd, cs = (ddR d).toList := by
  have hu := Tryz.underlying55
  obtain ⟨y0, y1, y2, y3, y4, m, hl, h0, h1, h2, h3, h4⟩ := Sg.trod_struct5 hu h
  rw [show Tryz.prog.cellsOf 55 = 11 by kernel_rfl] at hl
  match cs, hl with
  | [c0, c1, c2, c3, c4, c5, c6, c7, c8, c9, c10], _ =>
    have k0 : DataW.trod enc Tryz.prog w base (fun _ => true) held m 3 [c0] = some y0 := h0
    have k1 : DataW.trod enc Tryz.prog w base (fun _ => true) held m 3 [c1] = some y1 := h1
    have k2 : DataW.trod enc Tryz.prog w base (fun _ => true) held m 3 [c2] = some y2 := h2
    have k3 : DataW.trod enc Tryz.prog w base (fun _ => true) held m 48 [c3, c4, c5, c6, c7, c8] = some y3 := h3
    have k4 : DataW.trod enc Tryz.prog w base (fun _ => true) held m 53 [c9, c10] = some y4 := h4
    obtain ⟨z0, z1, m2, -, -, l0, l1⟩ := Sg.trod_struct2 Tryz.underlying53 k4
    have j0 : DataW.trod enc Tryz.prog w base (fun _ => true) held m2 3 [c9] = some z0 := l0
    obtain ⟨x0, rfl, _⟩ := Sg.int_in k0
    obtain ⟨x1, rfl, _⟩ := Sg.int_in k1
    obtain ⟨x2, rfl, _⟩ := Sg.int_in k2
    obtain ⟨x4, rfl, _⟩ := Sg.int_in j0
    obtain ⟨x, hx⟩ := cl_of (fits_of_trod 9 _ _ _ _ _ clKinds k3)
    simp only [clR, List.cons.injEq, and_true] at hx
    obtain ⟨rfl, rfl, rfl, rfl, rfl, rfl⟩ := hx
    exact ⟨⟨x0, x1, x2, x, x4, c10⟩, rfl⟩
end
end Go.Proofs.YtikjfdihocgfpaaGreatDoor
namespace Go.Proofs.YtikjfdihocgfpaaGreatDoor
open Go.ChangeShapes Go.WideShapes Go.ChangeAt Go.RowKit Go.Lib
set_option maxRecDepth 100000 in
theorem none22_lifted (os : Os) (started : os.Started) (H : Type) (enc : TypeId × Value → H) :
    ReturnsInHanded {} Tryz.checked os 5 .any (fun w args => (Rows.unixNoneSpec.pre enc Tryz.prog Tryz.f5 Rows.unixNoneRow.domain false w args ∧ laidMetH Tryz.prog Rows.unixNoneRow.laid w) ∧ sizedMet enc Tryz.prog Tryz.f5 (OpenSpec.ofChange Rows.unixNoneSpec) false w args) (Rows.unixNoneSpec.post enc Tryz.prog Tryz.f5 false true false false) := by
  refine returnsInHanded_of_change_and (C := Tryz.checked) (X := fun w _ => laidMetH Tryz.prog Rows.unixNoneRow.laid w) (fun _ _ _ hh h => h.of_heap hh) own started (by kernel_rfl) Tryz.func5
    (ChangeSpec.witness_shaped (enc := enc) (C := Tryz.checked) (os := os) (X := fun w _ => laidMetH Tryz.prog Rows.unixNoneRow.laid w) false (World.laidAll Tryz.prog os Rows.unixNoneRow.laid) #[.agg #[.int .i64 0, .int .i64 0, .int .i64 0, .int .i64 0, .int .u64 0, .int .u64 0, .int .u64 0, .string ⟨#[]⟩, .string ⟨#[]⟩, .int .i64 0, .slice none 0 0]] 8 (World.laidAll_os _ _ _)
      (World.shaped_of_ZipB (by kernel_rfl) (by kernel_rfl)) (by kernel_rfl) (by kernel_rfl) (by kernel_rfl)
      (by rw [MakeChecks.laidMetH_plain _ _ _ (by kernel_rfl)]; exact laidMet_laidAll _ (by kernel_rfl) (by kernel_rfl))) ?_
  intro W base args ds gs before hval0 hW hcnd hsz hL _
  have hval : ∀ (j : Nat) t v, Tryz.f5.params[j]? = some t → args[j]? = some v → Value.okWide Tryz.prog W .any base t v := hval0
  have hW' := hW
  obtain ⟨p, q, hA0, hV, rfl, hfz, hnd⟩ := hW
  have hA : DataW.TrodAll enc Tryz.prog W 0 (fun _ => true) true Tryz.f5.params.toList args.toList ds p := hA0
  rw [Tryz.params5] at hA hval
  obtain ⟨v0, vs0, d0, ds0, p0, q0, hargs, rfl, rfl, h0, r0⟩ := trodAll_cons hA
  obtain ⟨rfl, rfl, rfl⟩ := trodAll_nil r0
  obtain rfl : args = #[v0] := by cases args; simp_all
  obtain ⟨rfl, rfl⟩ := trodVars_none hV
  have k0 := h0
  have lt0 : ∀ x ∈ p0, x.block < W.heap.size := by obtain ⟨m, hm⟩ := k0; exact DataW.trod_lt m _ _ _ hm
  clear hA0 hval0
  obtain ⟨cs0, rfl, hcz⟩ := okWide_struct Tryz.underlying55 (hval 0 55 v0 rfl rfl)
  obtain ⟨fuel, hf⟩ := h0
  obtain ⟨d, hcs⟩ := dd_in (by simpa [Value.cells] using hf)
  obtain rfl : cs0 = ddR d := Array.toList_inj.1 hcs
  have hwalk : Calls Tryz.prog 5 #[.agg (ddR d)] W fun e w' => e = .returned (.bool true) ∧ Below W.heap.size W w' := none_walk d.k d.p d.n d.x d.pc d.v W
  refine hwalk.mono fun e W' ⟨he, bel⟩ => ?_
  subst he
  exact ⟨_, rfl, _, _, _, [], _, [], hW', trodAll_mk1 (shut_bool Tryz.underlying4 _), (trodAll_cons_mk (Below.trod laidOut (by kernel_rfl) (of_decide_eq_true (by kernel_rfl)) k0 bel lt0) trodAll_mk0), rfl, bel.frame _, fun h => by cases h⟩
theorem none22_said : Rows.UnixNoneSaid :=
  OpenClaim.holds_of_wide 5 Tryz.f5 rfl rfl rfl rfl rfl rfl rfl ⟨rfl, rfl, rfl, rfl, rfl⟩ rfl rfl rfl rfl rfl (by kernel_rfl) Tryz.func5 (by kernel_rfl)
    (of_decide_eq_true (by kernel_rfl)) (by unfold Func.isWrapper; first | (rw [if_pos (by decide +kernel)]; kernel_rfl) | (rw [if_neg (by decide +kernel)]; exact ⟨rfl, rfl⟩))
    (fun os started H enc _ => none22_lifted os started H enc)
theorem none22_holds : Rows.UnixNoneCardSaid :=
  Claim7.holds_tied_plain_at .later [] _ _ _ _ none22_said (fun _ h => by cases h) (by kernel_rfl) (fun _ h => by cases h) unixNone_row_tie rfl ⟨rfl, rfl⟩ (by kernel_rfl) rfl
    (ask_card 5 "janus/januslaw22.UnixNone" Tryz.f5 [55] (by kernel_rfl) Tryz.func5 (by rw [Tryz.params5]) (by kernel_rfl)) (by kernel_rfl)
#print axioms none22_holds
end Go.Proofs.YtikjfdihocgfpaaGreatDoor
