/- Proved: januslaw16.DirPlays answers true for every row of deeds (each deed is answered as the document's own file system answers it, and List reads behind each as there), and its arguments read behind the call as before, at the commit of this claim; where the listed variables of package unicode/utf8 are laid as the program's text lays them (the card ties that; the call reads none of them). -/
import Derived.Test.YtcaofdbcgdgbbaaGreatDoorPlW16
import Derived.Test.YtcaofdbcgdgbbaaGreatDoorDtJ
namespace Go.Proofs.YtcaofdbcgdgbbaaGreatDoor
open Go.ChangeShapes Go.WideShapes Go.ChangeAt Go.RowKit Go.Lib
set_option linter.unusedVariables false

abbrev deedCK : List CK := [.i .i64, .i .i64, .i .i64, .s, .s]
theorem deedKinds : kindsOf Tryz.prog 9 37 = some deedCK := by kernel_rfl
theorem deedSize : Tryz.prog.cellsOf 37 = 5 := by kernel_rfl
theorem dtext_of (s : ByteArray) : ∃ l : List UInt8, s = ⟨l.toArray⟩ ∧ s.size = l.length := ⟨s.data.toList, by simp, by show s.data.size = s.data.toList.length; simp⟩
theorem deedOf {l : List Value} (h : Fits deedCK l) : ∃ d : DeedD, d.Fit ∧ l = (deedRowD d).toList := by
  obtain ⟨_, _, rfl, ⟨a, rfl, ha⟩, _, _, rfl, ⟨b, rfl, hb⟩, _, _, rfl, ⟨c, rfl, hc⟩, _, _, rfl, ⟨s, rfl, hs⟩, _, _, rfl, ⟨p, rfl, hp⟩, rfl⟩ := h
  obtain ⟨t, rfl, ht⟩ := dtext_of s
  obtain ⟨v, rfl, hv⟩ := dtext_of p
  exact ⟨⟨a, b, c, t, v⟩, ⟨bounds_i64 hb, by show t.length ≤ _; unfold maxLen at hs; omega, by show v.length ≤ _; unfold maxLen at hp; omega⟩, rfl⟩
theorem deeds_of {w : World} {a0 : Option Addr} {len : Nat} (h : ∀ j, j < len → ∃ gb off cs, a0 = some ⟨gb, off, none⟩ ∧ Fits deedCK cs ∧ ∀ i u, cs[i]? = some u → w.cell? ⟨gb, off + j * 5 + i, none⟩ = some u) : DeedsAt w a0 len := by
  intro j hj
  obtain ⟨gb, off, cs, ea, hfit, hcell⟩ := h j hj
  obtain ⟨d, hd, rfl⟩ := deedOf hfit
  exact ⟨gb, off, d, ea, hd, hcell⟩
set_option maxRecDepth 100000 in
theorem plays_lifted (os : Os) (started : os.Started) (H : Type) (enc : TypeId × Value → H) :
    ReturnsInHanded {} Tryz.checked os 4 .any (fun w args => (Rows.dirPlaysSpec.pre enc Tryz.prog Tryz.f4 Rows.dirPlaysRow.domain false w args ∧ laidMetH Tryz.prog Rows.dirPlaysRow.laid w) ∧ sizedMet enc Tryz.prog Tryz.f4 (OpenSpec.ofChange Rows.dirPlaysSpec) false w args) (Rows.dirPlaysSpec.post enc Tryz.prog Tryz.f4 false true false false) := by
  refine returnsInHanded_of_change_and (C := Tryz.checked) (X := fun w _ => laidMetH Tryz.prog Rows.dirPlaysRow.laid w) (fun _ _ _ hh h => h.of_heap hh) own started (by kernel_rfl) Tryz.func4
    (ChangeSpec.witness_shaped (enc := enc) (C := Tryz.checked) (os := os) (X := fun w _ => laidMetH Tryz.prog Rows.dirPlaysRow.laid w) false (World.laidAll Tryz.prog os Rows.dirPlaysRow.laid) #[.slice none 0 0] 8 (World.laidAll_os _ _ _)
      (World.shaped_of_ZipB (by kernel_rfl) (by kernel_rfl)) (by kernel_rfl) (by kernel_rfl) (by kernel_rfl)
      (by rw [MakeChecks.laidMetH_plain _ _ _ (by kernel_rfl)]; exact laidMet_laidAll _ (by kernel_rfl) (by kernel_rfl))) ?_
  intro W base args ds gs before hval0 hW hcnd hsz hL _
  have hval : ∀ (j : Nat) t v, Tryz.f4.params[j]? = some t → args[j]? = some v → Value.okWide Tryz.prog W .any base t v := hval0
  have hW' := hW
  obtain ⟨p, q, hA0, hV, rfl, hfz, hnd⟩ := hW
  have hA : DataW.TrodAll enc Tryz.prog W 0 (fun _ => true) true Tryz.f4.params.toList args.toList ds p := hA0
  rw [Tryz.params4] at hA hval
  obtain ⟨v0, vs0, d0, ds0, p0, q0, hargs, rfl, rfl, h0, r0⟩ := trodAll_cons hA
  obtain ⟨rfl, rfl, rfl⟩ := trodAll_nil r0
  obtain rfl : args = #[v0] := by cases args; simp_all
  obtain ⟨rfl, rfl⟩ := trodVars_none hV
  have k0 := h0
  have lt0 : ∀ x ∈ p0, x.block < W.heap.size := by obtain ⟨m, hm⟩ := k0; exact DataW.trod_lt m _ _ _ hm
  obtain ⟨a0, len0, cap0, rfl⟩ := okWide_slice Tryz.underlying31 (hval 0 31 v0 rfl rfl)
  clear hA0 hval0
  have hdeeds : len0 ≤ 9223372036854775807 ∧ DeedsAt W a0 len0 := by
    obtain ⟨fuel, hf⟩ := h0
    obtain ⟨hl, hc⟩ := slice_fits (l := deedCK) Tryz.underlying31 deedKinds (by simp) deedSize (by simpa [Value.cells] using hf)
    exact ⟨hl, deeds_of hc⟩
  have hwalk : Calls Tryz.prog 4 #[.slice a0 len0 cap0] W fun e w' => e = .returned (.bool true) ∧ Below W.heap.size W w' := plays_walk a0 len0 cap0 W hdeeds.1 hdeeds.2
  refine hwalk.mono fun e W' ⟨he, bel⟩ => ?_
  subst he
  exact ⟨_, rfl, _, _, _, [], _, [], hW', trodAll_mk1 (shut_bool Tryz.underlying4 _), (trodAll_cons_mk (Below.trod laidOut (by kernel_rfl) (of_decide_eq_true (by kernel_rfl)) k0 bel lt0) trodAll_mk0), rfl, bel.frame _, fun h => by cases h⟩

theorem plays_said : Rows.DirPlaysSaid :=
  OpenClaim.holds_of_wide 4 Tryz.f4 rfl rfl rfl rfl rfl rfl rfl ⟨rfl, rfl, rfl, rfl, rfl⟩ rfl rfl rfl rfl rfl (by kernel_rfl) Tryz.func4 (by kernel_rfl)
    (of_decide_eq_true (by kernel_rfl)) (by unfold Func.isWrapper; first | (rw [if_pos (by decide +kernel)]; kernel_rfl) | (rw [if_neg (by decide +kernel)]; exact ⟨rfl, rfl⟩))
    (fun os started H enc _ => plays_lifted os started H enc)
theorem plays_holds : Rows.DirPlaysCardSaid :=
  Claim7.holds_tied_plain_at .later [] _ _ _ _ plays_said (fun _ h => by cases h) (by kernel_rfl) (fun _ h => by cases h) dirPlays_row_tie rfl ⟨rfl, rfl⟩ (by kernel_rfl) rfl
    (ask_card 4 "janus/januslaw16.DirPlays" Tryz.f4 [31] (by kernel_rfl) Tryz.func4 (by rw [Tryz.params4]) (by kernel_rfl)) (by kernel_rfl)
#print axioms plays_holds
end Go.Proofs.YtcaofdbcgdgbbaaGreatDoor
