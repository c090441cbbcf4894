/- Proved: januslaw01.MemPlays answers true for every number of frames and every list of deeds (each answer, and the words behind each, are the document's), at the commit of this claim; no condition beyond the row's own. -/
import Derived.Test.YtnpgkhlidngngaaPlays
import Derived.Lib.SmallJoins
import Derived.Deep.Slices
namespace Go.Proofs.Ytnpgkhlidngngaa
open Go.ChangeShapes Go.WideShapes Go.ChangeAt Go.RowKit Go.Joins
set_option linter.unusedVariables false

theorem own : ownKnob Try.prog.godebug = none := by kernel_rfl
theorem laidOut : laidOutB Try.prog = true := by kernel_rfl
theorem cells29 : Try.prog.cellsOf 29 = 4 := by kernel_rfl
theorem cells3 : Try.prog.cellsOf 3 = 1 := by kernel_rfl
theorem cells27 : Try.prog.cellsOf 27 = 1 := by kernel_rfl

/-- A list of deeds that came in: at each place four numbers. -/
theorem open_deeds {H : Type} {enc : TypeId × Value → H} {w : World} {base : Nat} {spare : Nat → Bool} {held : Bool} {a0 : Option Addr} {len cap fuel : Nat} {x : DataW H × List MemPlace}
    (h : DataW.trod enc Try.prog w base spare held fuel 22 [.slice a0 len cap] = some x) :
    len ≤ 9223372036854775807 ∧ ∀ j, j < len → ∃ gb off, a0 = some ⟨gb, off, none⟩ ∧ ∃ k f d v : Int, w.cell? ⟨gb, off + j * 4, none⟩ = some (.int .i64 k) ∧ w.cell? ⟨gb, off + j * 4 + 1, none⟩ = some (.int .i64 f) ∧ w.cell? ⟨gb, off + j * 4 + 2, none⟩ = some (.int .i64 d) ∧ w.cell? ⟨gb, off + j * 4 + 3, none⟩ = some (.int .u64 v) := by
  rcases Go.Deep.open_slice Try.underlying22 h with ⟨h0, _⟩ | ⟨a, len', cap', m, n, D, Pl, hcs, hb, hl, hm, hmm, _, hx⟩
  · simp at h0
    obtain ⟨rfl, rfl, rfl⟩ := h0
    exact ⟨by omega, fun j hj => by omega⟩
  · simp at hcs
    obtain ⟨rfl, rfl, rfl⟩ := hcs
    refine ⟨by unfold maxLen at hm; omega, fun j hj => ?_⟩
    have hlm : len ≤ m := by rw [hmm]; split <;> omega
    obtain ⟨cs', h1, h2⟩ := hx j (by omega)
    rw [cells29] at h1
    obtain ⟨_, hlen, hcell⟩ := World.cells?_some h1
    obtain ⟨y0, y1, y2, y3, n', _, _, g0, g1, g2, g3⟩ := trod_struct4 Try.underlying29 h2
    match cs', hlen with
    | [v0, v1, v2, v3], _ =>
      simp [cells3, cells27] at g0 g1 g2 g3
      obtain ⟨k, e0, _, _⟩ := DataW.trod_int Try.underlying3 g0
      obtain ⟨f, e1, _, _⟩ := DataW.trod_int Try.underlying3 g1
      obtain ⟨d, e2, _, _⟩ := DataW.trod_int Try.underlying3 g2
      obtain ⟨v, e3, _, _⟩ := DataW.trod_int Try.underlying27 g3
      simp at e0 e1 e2 e3
      subst e0 e1 e2 e3
      have q0 := hcell 0 (by omega)
      have q1 := hcell 1 (by omega)
      have q2 := hcell 2 (by omega)
      have q3 := hcell 3 (by omega)
      rw [Go.Deep.add_add] at q0 q1 q2 q3
      have hz : ∃ u, w.cell? a = some u := by
        obtain ⟨cs0, z1, _⟩ := hx 0 (by omega)
        rw [cells29] at z1
        obtain ⟨_, zl, z2⟩ := World.cells?_some z1
        have z3 := z2 0 (by omega)
        rw [Go.Deep.add_add] at z3
        have z4 : w.cell? a = cs0[0]? := by simpa [Addr.add] using z3
        exact ⟨cs0[0]'(by omega), by rw [z4]; simp⟩
      obtain ⟨gb, off, spot⟩ := a
      obtain ⟨u, hu⟩ := hz
      have hspot : spot = none := by simpa using World.cell?_spot hu
      subst hspot
      simp only [Go.WideShapes.add_plain] at q0 q1 q2 q3
      exact ⟨gb, off, rfl, k, f, d, v, by simpa using q0, by simpa [Nat.add_assoc] using q1, by simpa [Nat.add_assoc] using q2, by simpa [Nat.add_assoc] using q3⟩

set_option maxRecDepth 100000 in
theorem plays_lifted (os : Os) (started : os.Started) (H : Type) (enc : TypeId × Value → H) :
    ReturnsInHanded {} Try.checked os 3 .any (Rows.memPlaysSpec.pre6 enc Try.prog Try.f3 Rows.memPlaysRow.domain false) (Rows.memPlaysSpec.post enc Try.prog Try.f3 false true false false) := by
  refine returnsInHanded_of_change (C := Try.checked) own started (by kernel_rfl) Try.func3
    (ChangeSpec.witness6 (enc := enc) (C := Try.checked) false ⟨#[], #[.int .i64 0, .slice none 0 0], []⟩ 8 (by kernel_rfl) (by kernel_rfl) (by kernel_rfl) (by kernel_rfl)) ?_
  intro W base args ds gs before hval0 hW hcnd _
  have hval : ∀ (j : Nat) t v, Try.f3.params[j]? = some t → args[j]? = some v → Value.okWide Try.prog W .any base t v := hval0
  have hW' := hW
  obtain ⟨p, q, hA0, hV, rfl, hfz, hnd⟩ := hW
  have hA : DataW.TrodAll enc Try.prog W 0 (fun _ => true) true Try.f3.params.toList args.toList ds p := hA0
  rw [Try.params3] at hA hval
  obtain ⟨v0, vs0, d0, ds0, p0, q0, hargs, rfl, rfl, h0, r0⟩ := trodAll_cons hA
  obtain ⟨v1, vs1, d1, ds1, p1, q1, rfl, rfl, rfl, h1, r1⟩ := trodAll_cons r0
  obtain ⟨rfl, rfl, rfl⟩ := trodAll_nil r1
  obtain rfl : args = #[v0, v1] := by cases args; simp_all
  obtain ⟨rfl, rfl⟩ := trodVars_none hV
  obtain ⟨a0, rfl, rfl, rfl, w0⟩ := open_int Try.underlying3 (hval 0 3 v0 rfl rfl) h0
  obtain ⟨a1, len1, cap1, rfl⟩ := okWide_slice Try.underlying22 (hval 1 22 v1 rfl rfl)
  have k1 := h1
  have lt1 : ∀ x ∈ p1, x.block < W.heap.size := by obtain ⟨m, hm⟩ := k1; exact DataW.trod_lt m _ _ _ hm
  obtain ⟨hl1, hc1⟩ : len1 ≤ 9223372036854775807 ∧ ∀ j, j < len1 → ∃ gb off, a1 = some ⟨gb, off, none⟩ ∧ ∃ k f d v : Int, W.cell? ⟨gb, off + j * 4, none⟩ = some (.int .i64 k) ∧ W.cell? ⟨gb, off + j * 4 + 1, none⟩ = some (.int .i64 f) ∧ W.cell? ⟨gb, off + j * 4 + 2, none⟩ = some (.int .i64 d) ∧ W.cell? ⟨gb, off + j * 4 + 3, none⟩ = some (.int .u64 v) := by
    obtain ⟨fuel, hf⟩ := h1
    exact open_deeds (by simpa [Value.cells] using hf)
  have hwalk : Calls Try.prog 3 #[.int .i64 a0, .slice a1 len1 cap1] W fun e w' => e = .returned (.bool true) ∧ Below W.heap.size W w' := by
    by_cases hr : 1 ≤ a0 ∧ a0 ≤ 1024
    · exact plays_yes a0 a1 len1 cap1 W hr.1 hr.2 hl1 hc1
    · exact plays_no a0 a1 len1 cap1 W (by omega)
  clear hA0 hval0
  refine hwalk.mono fun e W' ⟨he, bel⟩ => ?_
  subst he
  exact ⟨_, rfl, _, _, _, [], _, [], hW', trodAll_mk1 (shut_bool Try.underlying4 _), (trodAll_cons_mk (shut_int Try.underlying3 w0) (trodAll_cons_mk (Below.trod laidOut (by kernel_rfl) (of_decide_eq_true (by kernel_rfl)) k1 bel lt1) trodAll_mk0)), rfl, bel.frame _, fun h => by cases h⟩

theorem plays_holds : Rows.MemPlaysSaid :=
  OpenClaim.holds_of_wide 3 Try.f3 rfl rfl rfl rfl rfl rfl rfl ⟨rfl, rfl, rfl, rfl, rfl⟩ rfl rfl rfl rfl rfl (by kernel_rfl) Try.func3 (by kernel_rfl)
    (of_decide_eq_true (by kernel_rfl)) (by unfold Func.isWrapper; first | (rw [if_pos (by decide +kernel)]; kernel_rfl) | (rw [if_neg (by decide +kernel)]; exact ⟨rfl, rfl⟩))
    (fun os started H enc _ => plays_lifted os started H enc)
#print axioms plays_holds
end Go.Proofs.Ytnpgkhlidngngaa
