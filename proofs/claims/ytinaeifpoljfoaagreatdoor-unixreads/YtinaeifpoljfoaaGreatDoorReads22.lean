import Derived.Test.YtinaeifpoljfoaaGreatDoorReadW22
import Derived.Test.YtinaeifpoljfoaaGreatDoorCaA
set_option linter.all false
set_option maxRecDepth 100000
set_option maxHeartbeats 16000000
namespace Go.Proofs.YtinaeifpoljfoaaGreatDoor
open Go.ChangeShapes Go.WideShapes Go.ChangeAt Go.RowKit Go.Lib
section
variable {H : Type} {enc : TypeId × Value → H} {w : World} {base : Nat} {held : Bool}
theorem words_came {n : Nat} {a : Option Addr} {len cap : Nat} {y : DataW H × List MemPlace} (h : DataW.trod enc Tryz.prog w base (fun _ => true) held n 22 [.slice a len cap] = some y) :
  len ≤ 9223372036854775807 ∧ len ≤ cap ∧ ∃ D : List Int, len = D.length ∧ Ow.Rd w a D ∧ Fd.U64 D := by
 rcases open_ints Tryz.underlying22 Tryz.underlying45 (by kernel_rfl) h with ⟨hcs, _⟩ | ⟨ad, l, c, zs, hcs, _, hl, hm, hz, _, hcell, hwz⟩
 ·simp only [List.cons.injEq, and_true, Value.slice.injEq] at hcs
  obtain ⟨rfl, rfl, rfl⟩ := hcs;exact ⟨by omega, Nat.le_refl _, [], rfl, Ow.Rd.nil _ _, fun x hx => by simp at hx⟩
 ·simp only [List.cons.injEq, and_true, Value.slice.injEq] at hcs
  obtain ⟨rfl, rfl, rfl⟩ := hcs
  have hz' : zs.length = cap := by simpa using hz
  refine ⟨by unfold maxLen at hm; omega, hl, zs.take len, by rw [List.length_take]; omega, fun j x hj => ?_, fun x hx => ?_⟩
  ·have hlt := (List.getElem?_eq_some_iff.1 hj).1
   rw [List.length_take] at hlt;rw [List.getElem?_take_of_lt (by omega)] at hj;obtain ⟨gb, off, rfl, hc⟩ := ints_at hcell (by omega);refine ⟨gb, off, rfl, ?_⟩;rw [hc j (by omega), List.getD_eq_getElem?_getD, hj]
   rfl
  ·have := bounds_u64 (hwz x (List.mem_of_mem_take hx))
   exact ⟨this.1, by have := this.2; omega⟩
end
theorem reads22_lifted (os : Os) (started : os.Started) (H : Type) (enc : TypeId × Value → H) :
  ReturnsInHanded {} Tryz.checked os 3 .any (fun w args => (Rows.unixReadsSpec.pre enc Tryz.prog Tryz.f3 Rows.unixReadsRow.domain false w args ∧ laidMetH Tryz.prog Rows.unixReadsRow.laid w) ∧ sizedMet enc Tryz.prog Tryz.f3 (OpenSpec.ofChange Rows.unixReadsSpec) false w args) (Rows.unixReadsSpec.post enc Tryz.prog Tryz.f3 false true false false) := by
 refine returnsInHanded_of_change_and (C := Tryz.checked) (X := fun w _ => laidMetH Tryz.prog Rows.unixReadsRow.laid w) (fun _ _ _ hh h => h.of_heap hh) own started (by kernel_rfl) Tryz.func3
  (ChangeSpec.witness_shaped (enc := enc) (C := Tryz.checked) (os := os) (X := fun w _ => laidMetH Tryz.prog Rows.unixReadsRow.laid w) false (World.laidAll Tryz.prog os Rows.unixReadsRow.laid) #[.slice none 0 0] 8 (World.laidAll_os _ _ _)
    (World.shaped_of_ZipB (by kernel_rfl) (by kernel_rfl)) (by kernel_rfl) (by kernel_rfl) (by kernel_rfl)
    (by rw [MakeChecks.laidMetH_plain _ _ _ (by kernel_rfl)]; exact laidMet_laidAll _ (by kernel_rfl) (by kernel_rfl))) ?_
 intro W base args ds gs before hval0 hW hcnd hsz hL _;have hval : ∀ (j : Nat) t v, Tryz.f3.params[j]? = some t → args[j]? = some v → Value.okWide Tryz.prog W .any base t v := hval0;have hW' := hW;obtain ⟨p, q, hA0, hV, rfl, hfz, hnd⟩ := hW;have hA : DataW.TrodAll enc Tryz.prog W 0 (fun _ => true) true Tryz.f3.params.toList args.toList ds p := hA0;rw [Tryz.params3] at hA hval;obtain ⟨v0, vs0, d0, ds0, p0, q0, hargs, rfl, rfl, h0, r0⟩ := trodAll_cons hA;obtain ⟨rfl, rfl, rfl⟩ := trodAll_nil r0
 obtain rfl : args = #[v0] := by cases args; simp_all
 obtain ⟨rfl, rfl⟩ := trodVars_none hV;have k0 := h0
 have lt0 : ∀ x ∈ p0, x.block < W.heap.size := by obtain ⟨m, hm⟩ := k0; exact DataW.trod_lt m _ _ _ hm
 obtain ⟨a0, len0, cap0, rfl⟩ := okWide_slice Tryz.underlying22 (hval 0 22 v0 rfl rfl);clear hA0 hval0
 have hin : len0 ≤ 9223372036854775807 ∧ len0 ≤ cap0 ∧ ∃ D : List Int, len0 = D.length ∧ Ow.Rd W a0 D ∧ Fd.U64 D := by
  obtain ⟨fuel, hf⟩ := h0;exact words_came (by simpa [Value.cells] using hf)
 obtain ⟨hle, hcp, D, hD, hR, hU⟩ := hin
 have hwalk : Calls Tryz.prog 3 #[.slice a0 len0 cap0] W fun e w' => e = .returned (.bool true) ∧ Below W.heap.size W w' := reads22_walk a0 len0 cap0 D W hle hcp hD hR hU
 refine hwalk.mono fun e W' ⟨he, bel⟩ => ?_
 subst he;exact ⟨_, rfl, _, _, _, [], _, [], hW', trodAll_mk1 (shut_bool Tryz.underlying4 _), (trodAll_cons_mk (Below.trod laidOut (by kernel_rfl) (of_decide_eq_true (by kernel_rfl)) k0 bel lt0) trodAll_mk0), rfl, bel.frame _, fun h => by cases h⟩
theorem reads22_joined : joinedFacts Tryz.prog 3 Tryz.f3 Rows.unixReadsSpec Rows.unixReadsRow = true := by
 unfold joinedFacts;simp only [Bool.and_eq_true]
 repeat' apply And.intro
 all_goals as_aux_lemma => kernel_rfl
theorem reads22_said : Rows.UnixReadsSaid :=
 OpenClaim.holds_of_wide 3 Tryz.f3 rfl rfl rfl rfl rfl rfl rfl ⟨rfl, rfl, rfl, rfl, rfl⟩ rfl rfl rfl rfl rfl (by as_aux_lemma => kernel_rfl) Tryz.func3 reads22_joined
  (of_decide_eq_true (by as_aux_lemma => kernel_rfl)) (by unfold Func.isWrapper; first | (rw [if_pos (by decide +kernel)]; kernel_rfl) | (rw [if_neg (by decide +kernel)]; exact ⟨rfl, rfl⟩))
  (fun os started H enc _ => reads22_lifted os started H enc)
theorem reads22_holds : Rows.UnixReadsCardSaid :=
 Claim7.holds_tied_plain_at .later [] _ _ _ _ reads22_said (fun _ h => by cases h) (by as_aux_lemma => kernel_rfl) (fun _ h => by cases h) unixReads_row_tie rfl ⟨rfl, rfl⟩ (by as_aux_lemma => kernel_rfl) rfl
  (ask_card 3 "janus/januslaw22.UnixReads" Tryz.f3 [22] (by as_aux_lemma => kernel_rfl) Tryz.func3 (by rw [Tryz.params3]) (by as_aux_lemma => kernel_rfl)) (by as_aux_lemma => kernel_rfl)
#print axioms reads22_holds
end Go.Proofs.YtinaeifpoljfoaaGreatDoor
