/- Proved: januslaw17.FscoreLinks answers true for every two paths and text (a file with two names is one file: what is written under one is read under the other, and it is there until both are gone), and its arguments read behind the call as before, at the commit of this claim; where the listed variables of package unicode/utf8 are laid as the program's text lays them (the card ties that; the call reads none of them). -/
import Derived.Test.YtcjpahnlckfgoaaGreatDoorCaA
import Derived.Test.YtcjpahnlckfgoaaGreatDoorOpSL
import Derived.ChangeMaps5
namespace Go.Proofs.YtcjpahnlckfgoaaGreatDoor
open Go.ChangeShapes Go.WideShapes Go.ChangeAt Go.RowKit Go.Lib
set_option linter.unusedVariables false

set_option maxRecDepth 100000 in
theorem links17_lifted (os : Os) (started : os.Started) (H : Type) (enc : TypeId × Value → H) :
    ReturnsInHanded {} Tryz.checked os 6 .any (fun w args => (Rows.fscoreLinksSpec.pre enc Tryz.prog Tryz.f6 Rows.fscoreLinksRow.domain false w args ∧ laidMetH Tryz.prog Rows.fscoreLinksRow.laid w) ∧ sizedMet enc Tryz.prog Tryz.f6 (OpenSpec.ofChange Rows.fscoreLinksSpec) false w args) (Rows.fscoreLinksSpec.post enc Tryz.prog Tryz.f6 false true false false) := by
  refine returnsInHanded_of_change_and (C := Tryz.checked) (X := fun w _ => laidMetH Tryz.prog Rows.fscoreLinksRow.laid w) (fun _ _ _ hh h => h.of_heap hh) own started (by kernel_rfl) Tryz.func6
    (ChangeSpec.witness_shaped (enc := enc) (C := Tryz.checked) (os := os) (X := fun w _ => laidMetH Tryz.prog Rows.fscoreLinksRow.laid w) false (World.laidAll Tryz.prog os Rows.fscoreLinksRow.laid) #[.string ⟨#[]⟩, .string ⟨#[]⟩, .string ⟨#[]⟩] 8 (World.laidAll_os _ _ _)
      (World.shaped_of_ZipB (by kernel_rfl) (by kernel_rfl)) (by kernel_rfl) (by kernel_rfl) (by kernel_rfl)
      (by rw [MakeChecks.laidMetH_plain _ _ _ (by kernel_rfl)]; exact laidMet_laidAll _ (by kernel_rfl) (by kernel_rfl))) ?_
  intro W base args ds gs before hval0 hW hcnd hsz hL _
  have hval : ∀ (j : Nat) t v, Tryz.f6.params[j]? = some t → args[j]? = some v → Value.okWide Tryz.prog W .any base t v := hval0
  have hW' := hW
  obtain ⟨p, q, hA0, hV, rfl, hfz, hnd⟩ := hW
  have hA : DataW.TrodAll enc Tryz.prog W 0 (fun _ => true) true Tryz.f6.params.toList args.toList ds p := hA0
  rw [Tryz.params6] at hA hval
  obtain ⟨v0, vs0, d0, ds0, p0, q0, hargs, rfl, rfl, h0, r0⟩ := trodAll_cons hA
  obtain ⟨v1, vs1, d1, ds1, p1, q1, rfl, rfl, rfl, h1, r1⟩ := trodAll_cons r0
  obtain ⟨v2, vs2, d2, ds2, p2, q2, rfl, rfl, rfl, h2, r2⟩ := trodAll_cons r1
  obtain ⟨rfl, rfl, rfl⟩ := trodAll_nil r2
  obtain rfl : args = #[v0, v1, v2] := by cases args; simp_all
  obtain ⟨rfl, rfl⟩ := trodVars_none hV
  obtain ⟨s0, rfl, rfl, rfl, len0⟩ := Go.ChangeMaps.open_string Tryz.underlying9 (hval 0 9 v0 rfl rfl) h0
  obtain ⟨s1, rfl, rfl, rfl, len1⟩ := Go.ChangeMaps.open_string Tryz.underlying9 (hval 1 9 v1 rfl rfl) h1
  obtain ⟨s2, rfl, rfl, rfl, len2⟩ := Go.ChangeMaps.open_string Tryz.underlying9 (hval 2 9 v2 rfl rfl) h2
  clear hA0 hval0
  obtain ⟨l, rfl, hl⟩ : ∃ l : List UInt8, s0 = ⟨l.toArray⟩ ∧ l.length ≤ 9223372036854775807 := ⟨s0.data.toList, by simp, text_len len0⟩
  obtain ⟨k, rfl, hk⟩ : ∃ l : List UInt8, s1 = ⟨l.toArray⟩ ∧ l.length ≤ 9223372036854775807 := ⟨s1.data.toList, by simp, text_len len1⟩
  obtain ⟨o, rfl, ho⟩ : ∃ l : List UInt8, s2 = ⟨l.toArray⟩ ∧ l.length ≤ 9223372036854775807 := ⟨s2.data.toList, by simp, text_len len2⟩
  have hwalk : Calls Tryz.prog 6 #[tx l, tx k, tx o] W fun e w' => e = .returned (.bool true) ∧ Below W.heap.size W w' := flinks_at l k o hl hk ho W
  refine hwalk.mono fun e W' ⟨he, bel⟩ => ?_
  subst he
  exact ⟨_, rfl, _, _, _, [], _, [], hW', trodAll_mk1 (shut_bool Tryz.underlying4 _), (trodAll_cons_mk (Go.ChangeMaps.shut_string Tryz.underlying9 len0) (trodAll_cons_mk (Go.ChangeMaps.shut_string Tryz.underlying9 len1) (trodAll_cons_mk (Go.ChangeMaps.shut_string Tryz.underlying9 len2) trodAll_mk0))), rfl, bel.frame _, fun h => by cases h⟩

theorem links17_said : Rows.FscoreLinksSaid :=
  OpenClaim.holds_of_wide 6 Tryz.f6 rfl rfl rfl rfl rfl rfl rfl ⟨rfl, rfl, rfl, rfl, rfl⟩ rfl rfl rfl rfl rfl (by kernel_rfl) Tryz.func6 (by kernel_rfl)
    (of_decide_eq_true (by kernel_rfl)) (by unfold Func.isWrapper; first | (rw [if_pos (by decide +kernel)]; kernel_rfl) | (rw [if_neg (by decide +kernel)]; exact ⟨rfl, rfl⟩))
    (fun os started H enc _ => links17_lifted os started H enc)
theorem links17_holds : Rows.FscoreLinksCardSaid :=
  Claim7.holds_tied_plain_at .later [] _ _ _ _ links17_said (fun _ h => by cases h) (by kernel_rfl) (fun _ h => by cases h) fscoreLinks_row_tie rfl ⟨rfl, rfl⟩ (by kernel_rfl) rfl
    (ask_card 6 "janus/januslaw17.FscoreLinks" Tryz.f6 [9, 9, 9] (by kernel_rfl) Tryz.func6 (by rw [Tryz.params6]) (by kernel_rfl)) (by kernel_rfl)
#print axioms links17_holds
end Go.Proofs.YtcjpahnlckfgoaaGreatDoor
