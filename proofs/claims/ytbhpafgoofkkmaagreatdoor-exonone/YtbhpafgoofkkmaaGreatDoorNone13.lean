/- januslaw13.ExoNone: for every input it answers true, and its argument reads behind the call as it read before it; where the variable exo.forms is laid as the program's text lays it (the card ties that). -/
import Derived.Test.YtbhpafgoofkkmaaGreatDoorArgs13
namespace Go.Proofs.YtbhpafgoofkkmaaGreatDoor
open Go.ChangeShapes Go.WideShapes Go.ChangeAt Go.RowKit
set_option linter.unusedVariables false

set_option maxHeartbeats 1000000 in
theorem none_walk (e : Int) (v : Value) (w : World) (hF : Frm w) (hv : ∃ a n c, v = .slice a n c) :
    Calls Tryz.prog 7 #[.agg #[.int .i64 e, v]] w fun x w' => x = .returned (.bool true) ∧ Below w.heap.size w w' := by
  obtain ⟨a, n, c, rfl⟩ := hv
  obtain ⟨W, hW⟩ : ∃ W, W = w.alloc (.cells #[.int .i64 e, .slice a n c] 32) := ⟨_, rfl⟩
  have hb : Below w.heap.size w W := by rw [hW]; exact Ca.below_alloc _ _
  have hX : W.heap[w.heap.size]? = some (.cells #[.int .i64 e, .slice a n c] 32) := by rw [hW]; exact heap_alloc_new _ _
  have c0 : W.cell? ⟨w.heap.size, 0, none⟩ = some (.int .i64 e) := by rw [cell_of_heap hX]; rfl
  have hNW := rawx_nil e (.slice a n c) W
  have HFW : Hid (Frm W) := hF.below hF.pos hb
  have HB : Hid _ := hb
  have HW : Hid _ := hW
  clear hb hX hW hF
  have hpn : ∀ W : World, (binOp .eql 23 (.pointer none) (.pointer none)).run Tryz.prog W = .ok (.bool true) W := exo_nil
  go_enter Tryz.func7, Tryz.ntmps7
  go_wp2_with fail
  rw [← HW.out]
  clear HW
  refine hNW.mono ?_
  rintro x w1 ⟨rfl, hw⟩
  rw [hw]
  clear hw w1 hNW
  go_wp2_with (first
    | (go_at_call 20; refine (xcreate_nil _ _).mono ?_; rintro x w1 ⟨rfl, hw⟩; rw [hw]; clear hw w1)
    | (go_at_call 12; refine (sees_nil _ _).mono ?_; rintro x w1 ⟨rfl, hw⟩; rw [hw]; clear hw w1)
    | (go_at_call 15; refine (xframe_nil _ _).mono ?_; rintro x w1 ⟨rfl, hw⟩; rw [hw]; clear hw w1)
    | (go_at_call 16; refine (xblock_nil _ _).mono ?_; rintro x w1 ⟨rfl, hw⟩; rw [hw]; clear hw w1)
    | fail)
  refine (xonew_mem 0 16 W (by omega) (by omega) (by omega)).mono ?_
  rintro x w2 ⟨rfl, hb2⟩
  have HB2 : Hid (Below w.heap.size w w2) := HB.out.trans (hb2.mono HB.out.size)
  have HF2 : Hid (Frm w2) := HFW.out.below (Frm.pos HFW.out) hb2
  clear hb2 c0
  go_wp2_with fail
  refine (xonew_disk 4 0 w2 (by omega) (by omega) (by omega)).mono ?_
  rintro x w3 ⟨rfl, hb3⟩
  have HB3 : Hid (Below w.heap.size w w3) := HB2.out.trans (hb3.mono HB2.out.size)
  have HF3 : Hid (Frm w3) := HF2.out.below (Frm.pos HF2.out) hb3
  clear hb3
  go_wp2_with fail
  refine (awake_at w3 HF3.out).mono ?_
  rintro x w4 ⟨rfl, hb4⟩
  have HB4 : Hid (Below w.heap.size w w4) := HB3.out.trans (hb4.mono HB3.out.size)
  clear hb4
  go_wp2
  go_ret
  exact ⟨rfl, HB4.out⟩
set_option maxRecDepth 100000 in
theorem none_contract (H : Type) (enc : TypeId × Value → H) (W : World) (base : Nat) (args : Array Value) (ds gs : List (DataW H)) (before : List MemPlace)
    (hval0 : ∀ (j : Nat) t v, Tryz.f7.params[j]? = some t → args[j]? = some v → Value.okWide Tryz.prog W .any base t v)
    (hW : DataW.Whole enc Tryz.prog Tryz.f7.params.toList Rows.exoNoneSpec.vars false W args.toList ds gs before)
    (hsz : (DataW.weightsEach Tryz.prog (Tryz.f7.params.toList ++ (OpenSpec.ofChange Rows.exoNoneSpec).bare.plain.varTypes Tryz.prog) (ds ++ gs)).all (· ≤ reachBytes) = true)
    (hL : laidMetH Tryz.prog Rows.exoNoneRow.laid W) :
    Calls Tryz.prog 7 args W fun e W' => ∃ v, e = .returned v ∧ Rows.exoNoneSpec.post enc Tryz.prog Tryz.f7 false true false false W args v W' := by
  have hF : Frm W := frm_of_laid hL
  have hval : ∀ (j : Nat) t v, Tryz.f7.params[j]? = some t → args[j]? = some v → Value.okWide Tryz.prog W .any base t v := hval0
  have hW' := hW
  obtain ⟨p, q, hA0, hV, rfl, hfz, hnd⟩ := hW
  have hA : DataW.TrodAll enc Tryz.prog W 0 (fun _ => true) true Tryz.f7.params.toList args.toList ds p := hA0
  rw [Tryz.params7] at hA hval
  obtain ⟨v0, vs0, d0, ds0, p0, q0, hargs, rfl, rfl, h0, r0⟩ := trodAll_cons hA
  obtain ⟨rfl, rfl, rfl⟩ := trodAll_nil r0
  obtain rfl : args = #[v0] := by cases args; simp_all
  obtain ⟨rfl, rfl⟩ := trodVars_none hV
  have k0 := h0
  have lt0 : ∀ x ∈ p0, x.block < W.heap.size := by obtain ⟨m, hm⟩ := k0; exact DataW.trod_lt m _ _ _ hm
  clear hA0 hval0
  obtain ⟨cs0, hcs0, _⟩ := okWide_struct Tryz.underlying32 (hval 0 32 v0 rfl rfl)
  obtain ⟨fuel0, hf0⟩ := h0
  obtain ⟨dd, rfl, _, _⟩ := ask_open ⟨cs0, hcs0⟩ hf0
  have hwalk : Calls Tryz.prog 7 #[.agg (askRow dd)] W fun e w' => e = .returned (.bool true) ∧ Below W.heap.size W w' := none_walk dd.e _ W hF ⟨_, _, _, rfl⟩
  refine hwalk.mono fun e W' ⟨he, bel⟩ => ?_
  subst he
  exact ⟨_, rfl, _, _, _, [], _, [], hW', trodAll_mk1 (shut_bool Tryz.underlying4 _), (trodAll_cons_mk (Below.trod laidOut (by kernel_rfl) (of_decide_eq_true (by kernel_rfl)) k0 bel lt0) trodAll_mk0), rfl, bel.frame _, fun h => by cases h⟩

set_option maxRecDepth 100000 in
theorem none_lifted (os : Os) (started : os.Started) (H : Type) (enc : TypeId × Value → H) (F : Stop.Interp) :
    ReturnsInHanded {} Tryz.checked os 7 .any ((OpenSpec.ofChange Rows.exoNoneSpec).preRow enc Tryz.prog Tryz.f7 Rows.exoNoneRow.domain false Rows.exoNoneRow.laid) (((OpenSpec.ofChange Rows.exoNoneSpec).at F).post enc Tryz.prog Tryz.f7 false true false false) := by
  have hx0 : ∃ places, DataW.whole enc Tryz.prog (World.forCall ({ World.holding Tryz.prog os ⟨#[], #[], []⟩ with heap := (World.holding Tryz.prog os ⟨#[], #[], []⟩).heap.modify 0 fun | .cells _ t frozen => .cells (ftab.map (Value.int .i64)).toArray t frozen | o => o }) (fun _ _ => 0) ⟨#[], #[.agg #[.int .i64 0, .slice none 0 0]], []⟩).memory Tryz.f7.params.toList Rows.exoNoneSpec.vars false (#[.agg #[.int .i64 0, .slice none 0 0]] : Array Value).toList 8 = some ([.agg [.lit (.int .i64 0), .nil]], [], places) := ⟨[], by kernel_rfl⟩
  obtain ⟨places, hx⟩ := hx0
  refine returnsInHanded_of_row (C := Tryz.checked) (s := OpenSpec.ofChange Rows.exoNoneSpec) own started (by kernel_rfl) Tryz.func7
    (witness_row_at (enc := enc) (C := Tryz.checked) false ({ World.holding Tryz.prog os ⟨#[], #[], []⟩ with heap := (World.holding Tryz.prog os ⟨#[], #[], []⟩).heap.modify 0 fun | .cells _ t frozen => .cells (ftab.map (Value.int .i64)).toArray t frozen | o => o }) #[.agg #[.int .i64 0, .slice none 0 0]] rfl (by kernel_rfl) (by kernel_rfl) (by kernel_rfl)
      (OpenSpec.preRow_of_cond 8 hx (by kernel_rfl) (fun k hk => by cases hk) (by kernel_rfl) (laid_met os _))) ?_
  intro W base args ds gs before hval hW _ _ hsz hL _ _
  exact none_contract H enc W base args ds gs before hval hW hsz hL
theorem none_said : Rows.ExoNoneSaid :=
  OpenClaim.holds_of_cond 7 Tryz.f7 rfl rfl rfl rfl rfl rfl rfl ⟨rfl, rfl, rfl, rfl, rfl⟩ rfl rfl rfl rfl rfl (by kernel_rfl) Tryz.func7 (by kernel_rfl)
    (of_decide_eq_true (by kernel_rfl)) (by unfold Func.isWrapper; first | (rw [if_pos (by decide +kernel)]; kernel_rfl) | (rw [if_neg (by decide +kernel)]; exact ⟨rfl, rfl⟩))
    (fun os started H enc _ F => by rw [OpenClaim.pre_eq_preRow]; exact none_lifted os started H enc F)
theorem none_holds : Rows.ExoNoneCardSaid :=
  Claim7.holds_tied_plain_at .later [] _ _ _ _ none_said (fun _ h => by cases h) (by kernel_rfl) (fun _ h => by cases h) exoNone_row_tie rfl ⟨rfl, rfl⟩ (by kernel_rfl) rfl
    (ask_card 7 "janus/januslaw13.ExoNone" Tryz.f7 [32] (by kernel_rfl) Tryz.func7 (by rw [Tryz.params7]) (by kernel_rfl)) (by kernel_rfl)
#print axioms none_holds
end Go.Proofs.YtbhpafgoofkkmaaGreatDoor
