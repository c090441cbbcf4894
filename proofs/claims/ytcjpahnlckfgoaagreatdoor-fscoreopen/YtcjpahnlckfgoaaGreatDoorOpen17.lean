/- Proved: januslaw17.FscoreOpen answers true for every path and text (a file that is open is there, without a name, until it is closed), and its arguments read behind the call as before, at the commit of this claim; where the listed variables of package unicode/utf8 are laid as the program's text lays them (the card ties that; the call reads none of them). -/
import Derived.Test.YtcjpahnlckfgoaaGreatDoorCaA
import Derived.Test.YtcjpahnlckfgoaaGreatDoorOpW
import Derived.ChangeMaps5
namespace Go.Proofs.YtcjpahnlckfgoaaGreatDoor
open Go.ChangeShapes Go.WideShapes Go.ChangeAt Go.RowKit Go.Lib
set_option linter.unusedVariables false

set_option maxRecDepth 100000 in
theorem open17_lifted (os : Os) (started : os.Started) (H : Type) (enc : TypeId × Value → H) :
    ReturnsInHanded {} Tryz.checked os 7 .any (fun w args => (Rows.fscoreOpenSpec.pre enc Tryz.prog Tryz.f7 Rows.fscoreOpenRow.domain false w args ∧ laidMetH Tryz.prog Rows.fscoreOpenRow.laid w) ∧ sizedMet enc Tryz.prog Tryz.f7 (OpenSpec.ofChange Rows.fscoreOpenSpec) false w args) (Rows.fscoreOpenSpec.post enc Tryz.prog Tryz.f7 false true false false) := by
  refine returnsInHanded_of_change_and (C := Tryz.checked) (X := fun w _ => laidMetH Tryz.prog Rows.fscoreOpenRow.laid w) (fun _ _ _ hh h => h.of_heap hh) own started (by kernel_rfl) Tryz.func7
    (ChangeSpec.witness_shaped (enc := enc) (C := Tryz.checked) (os := os) (X := fun w _ => laidMetH Tryz.prog Rows.fscoreOpenRow.laid w) false (World.laidAll Tryz.prog os Rows.fscoreOpenRow.laid) #[.string ⟨#[]⟩, .string ⟨#[]⟩] 8 (World.laidAll_os _ _ _)
      (World.shaped_of_ZipB (by kernel_rfl) (by kernel_rfl)) (by kernel_rfl) (by kernel_rfl) (by kernel_rfl)
      (by rw [MakeChecks.laidMetH_plain _ _ _ (by kernel_rfl)]; exact laidMet_laidAll _ (by kernel_rfl) (by kernel_rfl))) ?_
  intro W base args ds gs before hval0 hW hcnd hsz hL _
  have hval : ∀ (j : Nat) t v, Tryz.f7.params[j]? = some t → args[j]? = some v → Value.okWide Tryz.prog W .any base t v := hval0
  have hW' := hW
  obtain ⟨p, q, hA0, hV, rfl, hfz, hnd⟩ := hW
  have hA : DataW.TrodAll enc Tryz.prog W 0 (fun _ => true) true Tryz.f7.params.toList args.toList ds p := hA0
  rw [Tryz.params7] at hA hval
  obtain ⟨v0, vs0, d0, ds0, p0, q0, hargs, rfl, rfl, h0, r0⟩ := trodAll_cons hA
  obtain ⟨v1, vs1, d1, ds1, p1, q1, rfl, rfl, rfl, h1, r1⟩ := trodAll_cons r0
  obtain ⟨rfl, rfl, rfl⟩ := trodAll_nil r1
  obtain rfl : args = #[v0, v1] := by cases args; simp_all
  obtain ⟨rfl, rfl⟩ := trodVars_none hV
  obtain ⟨s0, rfl, rfl, rfl, len0⟩ := Go.ChangeMaps.open_string Tryz.underlying9 (hval 0 9 v0 rfl rfl) h0
  obtain ⟨s1, rfl, rfl, rfl, len1⟩ := Go.ChangeMaps.open_string Tryz.underlying9 (hval 1 9 v1 rfl rfl) h1
  clear hA0 hval0
  obtain ⟨l, rfl, hl⟩ : ∃ l : List UInt8, s0 = ⟨l.toArray⟩ ∧ l.length ≤ 9223372036854775807 := ⟨s0.data.toList, by simp, text_len len0⟩
  obtain ⟨k, rfl, hk⟩ : ∃ l : List UInt8, s1 = ⟨l.toArray⟩ ∧ l.length ≤ 9223372036854775807 := ⟨s1.data.toList, by simp, text_len len1⟩
  have hwalk : Calls Tryz.prog 7 #[tx l, tx k] W fun e w' => e = .returned (.bool true) ∧ Below W.heap.size W w' := fopen_at l k hl hk W
  refine hwalk.mono fun e W' ⟨he, bel⟩ => ?_
  subst he
  exact ⟨_, rfl, _, _, _, [], _, [], hW', trodAll_mk1 (shut_bool Tryz.underlying4 _), (trodAll_cons_mk (Go.ChangeMaps.shut_string Tryz.underlying9 len0) (trodAll_cons_mk (Go.ChangeMaps.shut_string Tryz.underlying9 len1) trodAll_mk0)), rfl, bel.frame _, fun h => by cases h⟩

theorem open17_said : Rows.FscoreOpenSaid :=
  OpenClaim.holds_of_wide 7 Tryz.f7 rfl rfl rfl rfl rfl rfl rfl ⟨rfl, rfl, rfl, rfl, rfl⟩ rfl rfl rfl rfl rfl (by kernel_rfl) Tryz.func7 (by kernel_rfl)
    (of_decide_eq_true (by kernel_rfl)) (by unfold Func.isWrapper; first | (rw [if_pos (by decide +kernel)]; kernel_rfl) | (rw [if_neg (by decide +kernel)]; exact ⟨rfl, rfl⟩))
    (fun os started H enc _ => open17_lifted os started H enc)
theorem open17_holds : Rows.FscoreOpenCardSaid :=
  Claim7.holds_tied_plain_at .later [] _ _ _ _ open17_said (fun _ h => by cases h) (by kernel_rfl) (fun _ h => by cases h) fscoreOpen_row_tie rfl ⟨rfl, rfl⟩ (by kernel_rfl) rfl
    (ask_card 7 "janus/januslaw17.FscoreOpen" Tryz.f7 [9, 9] (by kernel_rfl) Tryz.func7 (by rw [Tryz.params7]) (by kernel_rfl)) (by kernel_rfl)
#print axioms open17_holds
end Go.Proofs.YtcjpahnlckfgoaaGreatDoor
