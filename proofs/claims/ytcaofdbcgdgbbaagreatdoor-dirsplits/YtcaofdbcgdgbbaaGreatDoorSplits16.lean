/- Proved: januslaw16.DirSplits answers true for every text (any path's parts, or the error), and its argument reads behind the call as before, at the commit of this claim; where the listed variables of package unicode/utf8 are laid as the program's text lays them (the card ties that; the call reads none of them). -/
import Derived.Test.YtcaofdbcgdgbbaaGreatDoorDtJ
import Derived.Test.YtcaofdbcgdgbbaaGreatDoorRtA
import Derived.ChangeMaps5
namespace Go.Proofs.YtcaofdbcgdgbbaaGreatDoor
open Go.ChangeShapes Go.WideShapes Go.ChangeAt Go.RowKit Go.Lib
set_option linter.unusedVariables false

theorem text_len {s : ByteArray} (h : s.size ≤ maxLen) : s.data.toList.length ≤ 9223372036854775807 := by
  have : s.data.toList.length = s.size := Array.length_toList
  rw [this]
  unfold maxLen at h
  omega
set_option maxHeartbeats 4000000 in
set_option maxRecDepth 100000 in
theorem splits_walk (l : List UInt8) (hl : l.length ≤ 9223372036854775807) (w : World) :
    Calls Tryz.prog 3 #[tx l] w fun e w' => e = .returned (.bool true) ∧ Below w.heap.size w w' := by
  have hS := split_at l hl w
  have hL := split_len l
  have hR := fun W => rsplit_at l hl W
  obtain ⟨er, her⟩ : ∃ er, er = splitR l := ⟨_, rfl⟩
  obtain ⟨ts, hts⟩ : ∃ ts, ts = splitP l := ⟨_, rfl⟩
  rw [← her] at hS
  simp only [← her] at hR
  rw [← hts] at hL
  simp only [← hts] at hS hR
  clear her hts
  go_enter Tryz.func3, Tryz.ntmps3
  go_wp2_with fail
  refine hS.mono ?_
  rintro e w1 ⟨v, rfl, hT1, hb1⟩
  obtain ⟨a, cap, rfl, -⟩ := hT1.form
  have HT1 : Hid (Ts w1 w.heap.size (.slice a ts.length cap) ts) := hT1
  have HB1 : Hid (Below w.heap.size w w1) := hb1
  have hR1 := hR w1
  clear hS hT1 hb1 hR
  go_wp2_with fail
  refine hR1.mono ?_
  rintro e w2 ⟨u, rfl, hT2, hb2⟩
  obtain ⟨a', cap', rfl, -⟩ := hT2.form
  have hX := texts_same _ _ _ _ _ w2 (HT1.out.below hb2) hT2 (by omega)
  have HB2 : Hid (Below w.heap.size w w2) := HB1.out.trans (hb2.mono HB1.out.size)
  clear hR1 hT2 hb2
  go_wp2_with fail
  refine hX.mono ?_
  rintro e w3 ⟨rfl, hq⟩
  have HB3 : Hid (Below w.heap.size w w3) := HB2.out.trans ((Di.drewN_below hq).mono HB2.out.size)
  have hA := awake_at w3
  clear hX hq
  go_wp2_with fail
  refine hA.mono ?_
  rintro e w4 ⟨rfl, hb4⟩
  have HB4 : Hid (Below w.heap.size w w4) := HB3.out.trans (hb4.mono HB3.out.size)
  clear hA hb4
  go_wp2
  go_ret
  exact ⟨rfl, HB4.out⟩
set_option maxRecDepth 100000 in
theorem splits_lifted (os : Os) (started : os.Started) (H : Type) (enc : TypeId × Value → H) :
    ReturnsInHanded {} Tryz.checked os 3 .any (fun w args => (Rows.dirSplitsSpec.pre enc Tryz.prog Tryz.f3 Rows.dirSplitsRow.domain false w args ∧ laidMetH Tryz.prog Rows.dirSplitsRow.laid w) ∧ sizedMet enc Tryz.prog Tryz.f3 (OpenSpec.ofChange Rows.dirSplitsSpec) false w args) (Rows.dirSplitsSpec.post enc Tryz.prog Tryz.f3 false true false false) := by
  refine returnsInHanded_of_change_and (C := Tryz.checked) (X := fun w _ => laidMetH Tryz.prog Rows.dirSplitsRow.laid w) (fun _ _ _ hh h => h.of_heap hh) own started (by kernel_rfl) Tryz.func3
    (ChangeSpec.witness_shaped (enc := enc) (C := Tryz.checked) (os := os) (X := fun w _ => laidMetH Tryz.prog Rows.dirSplitsRow.laid w) false (World.laidAll Tryz.prog os Rows.dirSplitsRow.laid) #[.string ⟨#[]⟩] 8 (World.laidAll_os _ _ _)
      (World.shaped_of_ZipB (by kernel_rfl) (by kernel_rfl)) (by kernel_rfl) (by kernel_rfl) (by kernel_rfl)
      (by rw [MakeChecks.laidMetH_plain _ _ _ (by kernel_rfl)]; exact laidMet_laidAll _ (by kernel_rfl) (by kernel_rfl))) ?_
  intro W base args ds gs before hval0 hW hcnd hsz hL _
  have hval : ∀ (j : Nat) t v, Tryz.f3.params[j]? = some t → args[j]? = some v → Value.okWide Tryz.prog W .any base t v := hval0
  have hW' := hW
  obtain ⟨p, q, hA0, hV, rfl, hfz, hnd⟩ := hW
  have hA : DataW.TrodAll enc Tryz.prog W 0 (fun _ => true) true Tryz.f3.params.toList args.toList ds p := hA0
  rw [Tryz.params3] at hA hval
  obtain ⟨v0, vs0, d0, ds0, p0, q0, hargs, rfl, rfl, h0, r0⟩ := trodAll_cons hA
  obtain ⟨rfl, rfl, rfl⟩ := trodAll_nil r0
  obtain rfl : args = #[v0] := by cases args; simp_all
  obtain ⟨rfl, rfl⟩ := trodVars_none hV
  obtain ⟨s0, rfl, rfl, rfl, len0⟩ := Go.ChangeMaps.open_string Tryz.underlying9 (hval 0 9 v0 rfl rfl) h0
  clear hA0 hval0
  obtain ⟨l, rfl, hl⟩ : ∃ l : List UInt8, s0 = ⟨l.toArray⟩ ∧ l.length ≤ 9223372036854775807 := ⟨s0.data.toList, by simp, text_len len0⟩
  have hwalk : Calls Tryz.prog 3 #[tx l] W fun e w' => e = .returned (.bool true) ∧ Below W.heap.size W w' := splits_walk l hl W
  refine hwalk.mono fun e W' ⟨he, bel⟩ => ?_
  subst he
  exact ⟨_, rfl, _, _, _, [], _, [], hW', trodAll_mk1 (shut_bool Tryz.underlying4 _), (trodAll_cons_mk (Go.ChangeMaps.shut_string Tryz.underlying9 len0) trodAll_mk0), rfl, bel.frame _, fun h => by cases h⟩

theorem splits_said : Rows.DirSplitsSaid :=
  OpenClaim.holds_of_wide 3 Tryz.f3 rfl rfl rfl rfl rfl rfl rfl ⟨rfl, rfl, rfl, rfl, rfl⟩ rfl rfl rfl rfl rfl (by kernel_rfl) Tryz.func3 (by kernel_rfl)
    (of_decide_eq_true (by kernel_rfl)) (by unfold Func.isWrapper; first | (rw [if_pos (by decide +kernel)]; kernel_rfl) | (rw [if_neg (by decide +kernel)]; exact ⟨rfl, rfl⟩))
    (fun os started H enc _ => splits_lifted os started H enc)
theorem splits_holds : Rows.DirSplitsCardSaid :=
  Claim7.holds_tied_plain_at .later [] _ _ _ _ splits_said (fun _ h => by cases h) (by kernel_rfl) (fun _ h => by cases h) dirSplits_row_tie rfl ⟨rfl, rfl⟩ (by kernel_rfl) rfl
    (ask_card 3 "janus/januslaw16.DirSplits" Tryz.f3 [9] (by kernel_rfl) Tryz.func3 (by rw [Tryz.params3]) (by kernel_rfl)) (by kernel_rfl)
#print axioms splits_holds
end Go.Proofs.YtcaofdbcgdgbbaaGreatDoor
