/- Proved: januslaw22.UnixPipes answers true for every row of texts and every number (what a process writes into a pipe is what it reads from it, in its order, each byte once), and its arguments read behind the call as before, at the commit of this claim; where the listed package-level variables are laid as the program's text lays them (the card ties that; the call reads none of them). -/
import Derived.Test.YtikjfdihocgfpaaGreatDoorPipW22
import Derived.Test.YtikjfdihocgfpaaGreatDoorCaA
set_option linter.all false
namespace Go.Proofs.YtikjfdihocgfpaaGreatDoor
open Go.ChangeShapes Go.WideShapes Go.ChangeAt Go.RowKit Go.Lib
theorem txKinds : kindsOf Tryz.prog 9 9 = some [CK.s] := by kernel_rfl
theorem txSize : Tryz.prog.cellsOf 9 = ([CK.s] : List CK).length := by kernel_rfl
theorem text_is (s : ByteArray) : ∃ l : List UInt8, s = ⟨l.toArray⟩ ∧ s.size = l.length := ⟨s.data.toList, by simp, by show s.data.size = s.data.toList.length; simp⟩
theorem texts_came {H : Type} {enc : TypeId × Value → H} {w : World} {base : Nat} {held : Bool} {n : Nat} {a : Option Addr} {len cap : Nat} {y : DataW H × List MemPlace} (h : DataW.trod enc Tryz.prog w base (fun _ => true) held n 34 [.slice a len cap] = some y) : len ≤ 9223372036854775807 ∧ TxIn w a len := by
  obtain ⟨hl, hc⟩ := slice_fits (l := [CK.s]) Tryz.underlying34 txKinds (by simp) txSize h
  refine ⟨hl, fun j hj => ?_⟩
  obtain ⟨gb, off, cs, ea, hfit, hcell⟩ := hc j hj
  obtain ⟨_, _, rfl, ⟨s, rfl, hs⟩, rfl⟩ := hfit
  obtain ⟨t, rfl, ht⟩ := text_is s
  refine ⟨gb, off, t, ea, ?_, by unfold maxLen at hs; omega⟩
  have := hcell 0 _ rfl
  simpa using this
set_option maxRecDepth 100000 in
theorem pipes22_lifted (os : Os) (started : os.Started) (H : Type) (enc : TypeId × Value → H) :
    ReturnsInHanded {} Tryz.checked os 4 .any (fun w args => (Rows.unixPipesSpec.pre enc Tryz.prog Tryz.f4 Rows.unixPipesRow.domain false w args ∧ laidMetH Tryz.prog Rows.unixPipesRow.laid w) ∧ sizedMet enc Tryz.prog Tryz.f4 (OpenSpec.ofChange Rows.unixPipesSpec) false w args) (Rows.unixPipesSpec.post enc Tryz.prog Tryz.f4 false true false false) := by
  refine returnsInHanded_of_change_and (C := Tryz.checked) (X := fun w _ => laidMetH Tryz.prog Rows.unixPipesRow.laid w) (fun _ _ _ hh h => h.of_heap hh) own started (by kernel_rfl) Tryz.func4
    (ChangeSpec.witness_shaped (enc := enc) (C := Tryz.checked) (os := os) (X := fun w _ => laidMetH Tryz.prog Rows.unixPipesRow.laid w) false (World.laidAll Tryz.prog os Rows.unixPipesRow.laid) #[.slice none 0 0, .int .i64 0] 8 (World.laidAll_os _ _ _)
      (World.shaped_of_ZipB (by kernel_rfl) (by kernel_rfl)) (by kernel_rfl) (by kernel_rfl) (by kernel_rfl)
      (by rw [MakeChecks.laidMetH_plain _ _ _ (by kernel_rfl)]; exact laidMet_laidAll _ (by kernel_rfl) (by kernel_rfl))) ?_
  intro W base args ds gs before hval0 hW hcnd hsz hL _
  have hval : ∀ (j : Nat) t v, Tryz.f4.params[j]? = some t → args[j]? = some v → Value.okWide Tryz.prog W .any base t v := hval0
  have hW' := hW
  obtain ⟨p, q, hA0, hV, rfl, hfz, hnd⟩ := hW
  have hA : DataW.TrodAll enc Tryz.prog W 0 (fun _ => true) true Tryz.f4.params.toList args.toList ds p := hA0
  rw [Tryz.params4] at hA hval
  obtain ⟨v0, vs0, d0, ds0, p0, q0, hargs, rfl, rfl, h0, r0⟩ := trodAll_cons hA
  obtain ⟨v1, vs1, d1, ds1, p1, q1, rfl, rfl, rfl, h1, r1⟩ := trodAll_cons r0
  obtain ⟨rfl, rfl, rfl⟩ := trodAll_nil r1
  obtain rfl : args = #[v0, v1] := by cases args; simp_all
  obtain ⟨rfl, rfl⟩ := trodVars_none hV
  have k0 := h0
  have lt0 : ∀ x ∈ p0, x.block < W.heap.size := by obtain ⟨m, hm⟩ := k0; exact DataW.trod_lt m _ _ _ hm
  obtain ⟨a0, len0, cap0, rfl⟩ := okWide_slice Tryz.underlying34 (hval 0 34 v0 rfl rfl)
  obtain ⟨a1, rfl, rfl, rfl, w1⟩ := open_int Tryz.underlying3 (hval 1 3 v1 rfl rfl) h1
  clear hA0 hval0
  have hin : len0 ≤ 9223372036854775807 ∧ TxIn W a0 len0 := by
    obtain ⟨fuel, hf⟩ := h0
    exact texts_came (by simpa [Value.cells] using hf)
  have hwalk : Calls Tryz.prog 4 #[.slice a0 len0 cap0, .int .i64 a1] W fun e w' => e = .returned (.bool true) ∧ Below W.heap.size W w' := pipes_walk a0 len0 cap0 a1 W hin.1 hin.2
  refine hwalk.mono fun e W' ⟨he, bel⟩ => ?_
  subst he
  exact ⟨_, rfl, _, _, _, [], _, [], hW', trodAll_mk1 (shut_bool Tryz.underlying4 _), (trodAll_cons_mk (Below.trod laidOut (by kernel_rfl) (of_decide_eq_true (by kernel_rfl)) k0 bel lt0) (trodAll_cons_mk (shut_int Tryz.underlying3 w1) trodAll_mk0)), rfl, bel.frame _, fun h => by cases h⟩
set_option maxHeartbeats 8000000 in
theorem pipes22_joined : joinedFacts Tryz.prog 4 Tryz.f4 Rows.unixPipesSpec Rows.unixPipesRow = true := by
  unfold joinedFacts
  simp only [Bool.and_eq_true]
  repeat' apply And.intro
  all_goals as_aux_lemma => kernel_rfl
theorem pipes22_said : Rows.UnixPipesSaid :=
  OpenClaim.holds_of_wide 4 Tryz.f4 rfl rfl rfl rfl rfl rfl rfl ⟨rfl, rfl, rfl, rfl, rfl⟩ rfl rfl rfl rfl rfl (by as_aux_lemma => kernel_rfl) Tryz.func4 pipes22_joined
    (of_decide_eq_true (by as_aux_lemma => kernel_rfl)) (by unfold Func.isWrapper; first | (rw [if_pos (by decide +kernel)]; kernel_rfl) | (rw [if_neg (by decide +kernel)]; exact ⟨rfl, rfl⟩))
    (fun os started H enc _ => pipes22_lifted os started H enc)
theorem pipes22_holds : Rows.UnixPipesCardSaid :=
  Claim7.holds_tied_plain_at .later [] _ _ _ _ pipes22_said (fun _ h => by cases h) (by as_aux_lemma => kernel_rfl) (fun _ h => by cases h) unixPipes_row_tie rfl ⟨rfl, rfl⟩ (by as_aux_lemma => kernel_rfl) rfl
    (ask_card 4 "janus/januslaw22.UnixPipes" Tryz.f4 [34, 3] (by as_aux_lemma => kernel_rfl) Tryz.func4 (by rw [Tryz.params4]) (by as_aux_lemma => kernel_rfl)) (by as_aux_lemma => kernel_rfl)
#print axioms pipes22_holds
end Go.Proofs.YtikjfdihocgfpaaGreatDoor
