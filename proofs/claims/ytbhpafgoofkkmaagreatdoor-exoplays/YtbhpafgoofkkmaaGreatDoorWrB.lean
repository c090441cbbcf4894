import Derived.Test.YtbhpafgoofkkmaaGreatDoorWrA
set_option linter.all false
namespace Go.Proofs.YtbhpafgoofkkmaaGreatDoor
open Go.RowKit
set_option maxHeartbeats 1000000 in
theorem grow_nil (n : Nat) (w : World) (h0 : 0 < n) (h1 : n ≤ 10000000) :
  Calls Tryz.prog 99 #[.slice none 0 0, .int .i64 n] w fun e w' => ∃ g cap, e = .returned (.slice (some ⟨g, 0, none⟩) 0 cap) ∧ OW w' w.heap.size (.slice (some ⟨g, 0, none⟩) 0 cap) [] ∧ Below w.heap.size w w' := by
 obtain ⟨i0, hi0, hzz⟩ := Option.map_eq_some_iff.1 Di.wordInfo
 simp only [Prod.mk.injEq] at hzz
 obtain ⟨hz0, hz1, hz2⟩ := hzz
 have hold : (Builtin.firstCells i0.size 0 (.slice none 0 0)).run Tryz.prog w.drew = .ok ([] : List Value).toArray w.drew := by
  simp [Builtin.firstCells]
 have hrun : ∀ ty, (Builtin.append_ #[27, 3] ty #[.slice none 0 0, .int .i64 (n : Int)]).run Tryz.prog w = .ok (.slice (some ⟨w.heap.size, 0, none⟩) (0 + n) (grownCap w (0 + n) 0 42)) _ := fun ty =>
  Lib.run_append_grow_zeros w 27 3 ty 42 i0 _ .i64 .i64 Tryz.underlying27 Tryz.underlying3 hi0 hz0 none 0 0 [] hold n h0 (by omega) (by omega) (by omega) (by rw [hz2]; omega) (growslice_fits (by omega) (by rw [hz2]; omega))
 have hge := grownCap_ge w (0 + n) 0 42
 have hcm : grownCap w (0 + n) 0 42 ≤ maxLen := grownCap_le_maxLen w (0 + n) 0 42 (by unfold maxLen; omega)
 have hc63 : grownCap w (0 + n) 0 42 ≤ 9223372036854775807 := by unfold maxLen at hcm; omega
 generalize grownCap w (0 + n) 0 42 = G at *
 rw [Nat.zero_add] at hrun hge
 simp only [List.toArray, Array.empty_append] at hrun
 obtain ⟨W, hW⟩ : ∃ W, W = w.drew.alloc (.cells (#[] ++ Builtin.zeroCells (Value.int .u64 0).cells n ++ Builtin.zeroCells (Value.int .u64 0).cells (G - n)) 42) := ⟨_, rfl⟩
 have HO : Hid (OW W w.heap.size (.slice (some ⟨w.heap.size, 0, none⟩) 0 G) []) := by
  refine ⟨rfl, Or.inr ⟨w.heap.size, G, _, rfl, Nat.le_refl _, by rw [hW]; exact heap_alloc_new w.drew _, Nat.zero_le _, hcm, ?_, by simp [uvs]⟩⟩
  simp [Builtin.zeroCells, Value.cells]
  omega
 have HB : Hid (Below w.heap.size w W) := by
  rw [hW]
  exact ⟨rfl, rfl, rfl, by simp, fun k hk => Below.heap_alloc w.drew _ k hk⟩
 have HRun : Hid (∀ ty, (Builtin.append_ #[27, 3] ty #[.slice none 0 0, .int .i64 (n : Int)]).run Tryz.prog w = .ok (.slice (some ⟨w.heap.size, 0, none⟩) n G) W) := by
  intro ty
  rw [hW]
  simpa using hrun ty
 clear hrun hW hold hi0 hz0 hz1 hz2 hcm
 have g1 : decide ((n : Int) < 0) = false := decide_eq_false (by omega)
 have g2 : decide ((0 : Int) < (n : Int)) = true := decide_eq_true (by omega)
 go_enter Tryz.func99, Tryz.ntmps99
 go_wp2_with (at_builtin; refine Lib.wpList_append_run _ rfl _ _ _ _ rfl _ _ rfl rfl _ _ (HRun.out _) ?_)
 all_goals
  go_ret
  exact ⟨_, G, rfl, HO.out, HB.out⟩
def catL (rs : List (List Int)) : List Int := rs.flatten
theorem catL_take {rs : List (List Int)} {k : Nat} {r : List Int} (h : rs[k]? = some r) : catL (rs.take (k + 1)) = catL (rs.take k) ++ r := by
 have : rs.take (k + 1) = rs.take k ++ [r] := by
  rw [List.take_add_one, h]
  rfl
 unfold catL
 rw [this, List.flatten_append]
 simp
theorem catL_len {rs : List (List Int)} {k : Nat} {r : List Int} (h : rs[k]? = some r) : (catL (rs.take (k + 1))).length = (catL (rs.take k)).length + r.length := by rw [catL_take h, List.length_append]
theorem catL_le (rs : List (List Int)) (k : Nat) : (catL (rs.take k)).length ≤ (catL rs).length := by
 have : catL rs = catL (rs.take k) ++ catL (rs.drop k) := by
  unfold catL
  rw [← List.flatten_append, List.take_append_drop]
 rw [this, List.length_append]
 omega
set_option maxHeartbeats 2000000 in
theorem concat_at (rs : List (List Int)) (n g c : Nat) (w : World) (hn : rs.length = n) (hv : ∀ (j : Nat) (r : List Int), rs[j]? = some r → ∃ u, w.cell? ⟨g, j, none⟩ = some u ∧ RdV w u r) (h0 : 0 < (catL rs).length) (h1 : (catL rs).length ≤ 10000000) (hn1 : n ≤ 1000) :
  Calls Tryz.prog 35 #[.slice (some ⟨g, 0, none⟩) n c] w fun e w' => ∃ v, e = .returned v ∧ OW w' w.heap.size v (catL rs) ∧ Below w.heap.size w w' := by
 have HV : Hid (∀ (j : Nat) (r : List Int), rs[j]? = some r → ∃ u, w.cell? ⟨g, j, none⟩ = some u ∧ RdV w u r) := hv
 have HN : Hid _ := hn
 have HC : Hid ((catL rs).length ≤ 10000000 ∧ 0 < (catL rs).length) := ⟨h1, h0⟩
 clear hv hn h0 h1
 go_enter Tryz.func35, Tryz.ntmps35
 go_wp2
 go_loopw [3, 11] (fun a s wr => ∃ (k : Nat), k ≤ n ∧ s = .int .i64 k ∧ a = .int .i64 ((catL (rs.take k)).length : Nat) ∧ wr = w) (fun _ s _ => n - (intOf s).toNat)
 case atStart => exact ⟨0, by omega, rfl, rfl, rfl⟩
 case round =>
  obtain ⟨k, hk, rfl, rfl, hwr⟩ := hrel
  subst wr
  by_cases hlt : k < n
  ·obtain ⟨r, hr⟩ : ∃ r, rs[k]? = some r := ⟨rs[k]'(by rw [HN.out]; exact hlt), List.getElem?_eq_getElem _⟩
   obtain ⟨u, c0, a, cp, rfl, _⟩ := HV.out k r hr
   have HL : Hid _ := catL_len hr
   have hle := catL_le rs (k + 1)
   have hb := HC.out.1
   rw [HL.out] at hle
   have hcp : (catL (rs.take k)).length + r.length ≤ 10000000 := by omega
   clear hr hle hb
   generalize (catL (rs.take k)).length = A at *
   generalize r.length = R at *
   have g0 : decide ((A : Int) + (R : Int) < 0) = false := decide_eq_false (by omega)
   have g1 : IntKind.i64.wrap ((A : Int) + (R : Int)) = (A : Int) + (R : Int) := by rw [IntKind.wrap_i64]; omega
   go_wp2
   go_roundw
   case rel => exact ⟨k + 1, by omega, by go_num, by rw [HL.out]; go_num, by first | rfl | trivial⟩
   case measure => simp [intOf]; omega
  ·obtain rfl : k = n := by omega
   have e1 : rs.take k = rs := List.take_of_length_le (by rw [HN.out]; exact Nat.le_refl _)
   rw [e1]
   have hG := grow_nil (catL rs).length w HC.out.2 HC.out.1
   generalize hcl : (catL rs).length = A at *
   have HCL : Hid _ := hcl
   clear hcl
   go_wp2_with (go_at_call 99; refine hG.mono ?_; rintro x w1 ⟨gg, cap, rfl, ho, hb⟩)
   have HO : Hid (OW w1 w.heap.size (.slice (some ⟨gg, 0, none⟩) 0 cap) []) := ho
   have HB : Hid _ := hb
   clear ho hb hG e1
   go_loopw [6, 27] (fun v s wq => ∃ (j : Nat), j ≤ k ∧ s = .int .i64 j ∧ OW wq w.heap.size v (catL (rs.take j)) ∧ Below w.heap.size w wq) (fun _ s _ => k - (intOf s).toNat)
   case atStart => exact ⟨0, by omega, rfl, HO.out, HB.out⟩
   case round =>
    clear HO HB
    obtain ⟨j, hj, rfl, hO, hB⟩ := hrel
    by_cases hlt2 : j < k
    ·obtain ⟨r, hr⟩ : ∃ r, rs[j]? = some r := ⟨rs[j]'(by rw [HN.out]; exact hlt2), List.getElem?_eq_getElem _⟩
     obtain ⟨u, c0, hu⟩ := HV.out j r hr
     have c1 := (hB.cell (cell_lt c0)).trans c0
     have HT : Hid _ := catL_take hr
     have hle := catL_le rs (j + 1)
     rw [HT.out, List.length_append] at hle
     have hc := HC.out.1
     have hcl := HCL.out
     obtain ⟨av, cv, rfl, _⟩ := hO.form
     obtain ⟨a', c', w', hrun, hO', hB', _⟩ := grow_words hO (hu.below hB) (by omega) hB.size
     obtain ⟨au, cu, rfl, _⟩ := hu
     have HRun : Hid (∀ ty, _ = _) := hrun
     have HO' : Hid (OW w' w.heap.size (.slice a' ((catL (rs.take j)).length + r.length) c') (catL (rs.take j) ++ r)) := hO'
     have HB' : Hid (Below w.heap.size w w') := hB.trans hB'
     clear hr c0 hle hc hcl hrun hO' hB' hO hB
     go_wp2_with (at_builtin; refine Ip.wpList_append_eq rfl _ _ _ rfl _ _ _ rfl rfl HRun.out ?_)
     go_roundw
     case rel => exact ⟨j + 1, by omega, by go_num, by rw [HT.out]; exact HO'.out, HB'.out⟩
     case measure => simp [intOf]; omega
    ·obtain rfl : j = k := by omega
     have e1 : rs.take j = rs := List.take_of_length_le (by rw [HN.out]; exact Nat.le_refl _)
     rw [e1] at hO
     have HO : Hid (OW _ w.heap.size _ (catL rs)) := hO
     clear hO e1
     go_wp2
     go_ret
     exact ⟨_, rfl, HO.out, hB⟩
end Go.Proofs.YtbhpafgoofkkmaaGreatDoor
