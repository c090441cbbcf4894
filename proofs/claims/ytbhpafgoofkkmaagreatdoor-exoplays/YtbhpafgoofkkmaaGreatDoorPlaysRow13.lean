import Derived.Test.YtbhpafgoofkkmaaGreatDoorPlAll
import Derived.Deep.Slices
set_option linter.all false
namespace Go.Proofs.YtbhpafgoofkkmaaGreatDoor
open Go.ChangeShapes Go.WideShapes Go.ChangeAt Go.RowKit Go.Lib Go.Joins
theorem weights_all13 {H : Type} {P : Program} {e : TypeId} : ∀ {l : List (DataW H)} {d : DataW H}, d ∈ l → ∀ n ∈ d.weights P e, n ∈ DataW.weightsAll P e l
 | x :: l, d, hd, n, hn => by
  simp only [DataW.weightsAll, List.mem_append]
  rcases List.mem_cons.1 hd with rfl | hd
  ·exact Or.inl hn
  ·exact Or.inr (weights_all13 hd n hn)
section
variable {H : Type} {enc : TypeId × Value → H} {w : World} {base : Nat} {held : Bool}
set_option maxRecDepth 100000 in
theorem asks_inR {fuel len cap : Nat} {a0 : Option Addr} {x : DataW H × List MemPlace} (h : DataW.trod enc Tryz.prog w base (fun _ => true) held fuel 22 [.slice a0 len cap] = some x) (hsz : ∀ k ∈ x.1.weights Tryz.prog 22, k ≤ reachBytes) :
  len ≤ 9223372036854775807 ∧ AsksR w a0 len := by
 rcases Go.Deep.open_slice Tryz.underlying22 h with ⟨h0, _⟩ | ⟨a, len', cap', m, n, D, Pl, hcs, hb, hl1, hm, hmm, hx0, hx⟩
 ·simp at h0
  obtain ⟨rfl, rfl, rfl⟩ := h0
  exact ⟨by omega, fun j hj => by omega⟩
 ·simp at hcs
  obtain ⟨rfl, rfl, rfl⟩ := hcs
  refine ⟨by unfold maxLen at hm; omega, fun j hj => ?_⟩
  have hlm : len ≤ m := by rw [hmm]; split <;> omega
  have hc : Tryz.prog.cellsOf 32 = 2 := by kernel_rfl
  obtain ⟨cs', h1, h2⟩ := hx j (by omega)
  obtain ⟨d, rfl, hd, hreach⟩ := ask_in h2
  rw [hc] at h1
  obtain ⟨_, hlen, hcell⟩ := World.cells?_some h1
  have hz : ∃ u, w.cell? a = some u := by
   obtain ⟨cs0, z1, _⟩ := hx 0 (by omega)
   rw [hc] at z1
   obtain ⟨_, zl, z2⟩ := World.cells?_some z1
   have z3 := z2 0 (by omega)
   rw [Go.Deep.add_add] at z3
   have z4 : w.cell? a = cs0[0]? := by simpa [Addr.add] using z3
   exact ⟨cs0[0]'(by omega), by rw [z4]; simp⟩
  obtain ⟨gb, off, spot⟩ := a
  obtain ⟨u, hu⟩ := hz
  have hspot : spot = none := by simpa using World.cell?_spot hu
  subst hspot
  have q : ∀ i, i < 2 → w.cell? ⟨gb, off + j * 2 + i, none⟩ = (askRow d).toList[i]? := by
   intro i hi
   have q := hcell i hi
   rw [Go.Deep.add_add] at q
   simp only [Go.WideShapes.add_plain] at q
   rw [Nat.add_assoc]
   exact q
  refine ⟨gb, off, d, rfl, ⟨q 0 (by omega), q 1 (by omega), hd⟩, hreach (fun k hk => hsz k ?_)⟩
  rw [hx0]
  unfold DataW.weights
  rw [Tryz.underlying22]
  refine List.mem_cons_of_mem _ (List.mem_append_left _ (weights_all13 (d := D j) ?_ k hk))
  exact List.mem_map.2 ⟨j, List.mem_range.2 hj, rfl⟩
end
set_option maxRecDepth 100000 in
theorem plays_contract (H : Type) (enc : TypeId × Value → H) (W : World) (base : Nat) (args : Array Value) (ds gs : List (DataW H)) (before : List MemPlace)
  (hval0 : ∀ (j : Nat) t v, Tryz.f3.params[j]? = some t → args[j]? = some v → Value.okWide Tryz.prog W .any base t v)
  (hW : DataW.Whole enc Tryz.prog Tryz.f3.params.toList Rows.exoPlaysSpec.vars false W args.toList ds gs before)
  (hsz : (DataW.weightsEach Tryz.prog (Tryz.f3.params.toList ++ (OpenSpec.ofChange Rows.exoPlaysSpec).bare.plain.varTypes Tryz.prog) (ds ++ gs)).all (· ≤ reachBytes) = true)
  (hL : laidMetH Tryz.prog Rows.exoPlaysRow.laid W) :
  Calls Tryz.prog 3 args W fun e W' => ∃ v, e = .returned v ∧ Rows.exoPlaysSpec.post enc Tryz.prog Tryz.f3 false true false false W args v W' := by
 have hF : Frm W := frm_of_laid hL
 have hval : ∀ (j : Nat) t v, Tryz.f3.params[j]? = some t → args[j]? = some v → Value.okWide Tryz.prog W .any base t v := hval0
 have hW' := hW
 obtain ⟨p, q, hA0, hV, rfl, hfz, hnd⟩ := hW
 have hA : DataW.TrodAll enc Tryz.prog W 0 (fun _ => true) true Tryz.f3.params.toList args.toList ds p := hA0
 rw [Tryz.params3] at hA hval
 obtain ⟨v0, vs0, d0, ds0, p0, q0, hargs, rfl, rfl, h0, r0⟩ := trodAll_cons hA
 obtain ⟨rfl, rfl, rfl⟩ := trodAll_nil r0
 obtain rfl : args = #[v0] := by cases args; simp_all
 obtain ⟨rfl, rfl⟩ := trodVars_none hV
 have k0 := h0
 have lt0 : ∀ x ∈ p0, x.block < W.heap.size := by obtain ⟨m, hm⟩ := k0; exact DataW.trod_lt m _ _ _ hm
 obtain ⟨a0, len0, cap0, rfl⟩ := okWide_slice Tryz.underlying22 (hval 0 22 v0 rfl rfl)
 clear hA0 hval0
 have hl : len0 ≤ 9223372036854775807 ∧ AsksR W a0 len0 := by
  obtain ⟨fuel, hf⟩ := h0
  refine asks_inR (by simpa [Value.cells] using hf) (fun k hk => ?_)
  have := List.all_eq_true.1 hsz k (DataW.weights_mem_each (j := 0) (t := 22) (d := d0) rfl rfl k hk)
  exact of_decide_eq_true this
 have hwalk : Calls Tryz.prog 3 #[.slice a0 len0 cap0] W fun e w' => e = .returned (.bool true) ∧ Below W.heap.size W w' := plays_walk a0 len0 cap0 W hF hl.1 hl.2
 refine hwalk.mono fun e W' ⟨he, bel⟩ => ?_
 subst he
 exact ⟨_, rfl, _, _, _, [], _, [], hW', trodAll_mk1 (shut_bool Tryz.underlying4 _), (trodAll_cons_mk (Below.trod laidOut (by kernel_rfl) (of_decide_eq_true (by kernel_rfl)) k0 bel lt0) trodAll_mk0), rfl, bel.frame _, fun h => by cases h⟩
set_option maxRecDepth 100000 in
theorem plays_lifted (os : Os) (started : os.Started) (H : Type) (enc : TypeId × Value → H) (F : Stop.Interp) :
  ReturnsInHanded {} Tryz.checked os 3 .any ((OpenSpec.ofChange Rows.exoPlaysSpec).preRow enc Tryz.prog Tryz.f3 Rows.exoPlaysRow.domain false Rows.exoPlaysRow.laid) (((OpenSpec.ofChange Rows.exoPlaysSpec).at F).post enc Tryz.prog Tryz.f3 false true false false) := by
 have hx0 : ∃ places, DataW.whole enc Tryz.prog (World.forCall ({ World.holding Tryz.prog os ⟨#[], #[], []⟩ with heap := (World.holding Tryz.prog os ⟨#[], #[], []⟩).heap.modify 0 fun | .cells _ t frozen => .cells (ftab.map (Value.int .i64)).toArray t frozen | o => o }) (fun _ _ => 0) ⟨#[], #[.slice none 0 0], []⟩).memory Tryz.f3.params.toList Rows.exoPlaysSpec.vars false (#[.slice none 0 0] : Array Value).toList 8 = some ([.nil], [], places) := ⟨[], by kernel_rfl⟩
 obtain ⟨places, hx⟩ := hx0
 refine returnsInHanded_of_row (C := Tryz.checked) (s := OpenSpec.ofChange Rows.exoPlaysSpec) own started (by kernel_rfl) Tryz.func3
  (witness_row_at (enc := enc) (C := Tryz.checked) false ({ World.holding Tryz.prog os ⟨#[], #[], []⟩ with heap := (World.holding Tryz.prog os ⟨#[], #[], []⟩).heap.modify 0 fun | .cells _ t frozen => .cells (ftab.map (Value.int .i64)).toArray t frozen | o => o }) #[.slice none 0 0] rfl (by kernel_rfl) (by kernel_rfl) (by kernel_rfl)
    (OpenSpec.preRow_of_cond 8 hx (by kernel_rfl) (fun k hk => by cases hk) (by kernel_rfl) (laid_met os _))) ?_
 intro W base args ds gs before hval hW _ _ hsz hL _ _
 exact plays_contract H enc W base args ds gs before hval hW hsz hL
theorem plays_said : Rows.ExoPlaysSaid :=
 OpenClaim.holds_of_cond 3 Tryz.f3 rfl rfl rfl rfl rfl rfl rfl ⟨rfl, rfl, rfl, rfl, rfl⟩ rfl rfl rfl rfl rfl (by kernel_rfl) Tryz.func3 (by kernel_rfl)
  (of_decide_eq_true (by kernel_rfl)) (by unfold Func.isWrapper; first | (rw [if_pos (by decide +kernel)]; kernel_rfl) | (rw [if_neg (by decide +kernel)]; exact ⟨rfl, rfl⟩))
  (fun os started H enc _ F => by rw [OpenClaim.pre_eq_preRow]; exact plays_lifted os started H enc F)
theorem plays_holds : Rows.ExoPlaysCardSaid :=
 Claim7.holds_tied_plain_at .later [] _ _ _ _ plays_said (fun _ h => by cases h) (by kernel_rfl) (fun _ h => by cases h) exoPlays_row_tie rfl ⟨rfl, rfl⟩ (by kernel_rfl) rfl
  (ask_card 3 "janus/januslaw13.ExoPlays" Tryz.f3 [22] (by kernel_rfl) Tryz.func3 (by rw [Tryz.params3]) (by kernel_rfl)) (by kernel_rfl)
#print axioms plays_holds
end Go.Proofs.YtbhpafgoofkkmaaGreatDoor
