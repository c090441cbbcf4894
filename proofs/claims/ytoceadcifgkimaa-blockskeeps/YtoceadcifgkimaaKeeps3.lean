/- Proved: januslaw03.BlocksKeeps answers true for every two deeds (what was put is got, and no other block changes), at the commit of this claim; no condition beyond the row's own. -/
import Derived.Test.YtoceadcifgkimaaKeepsB3
namespace Go.Proofs.Ytoceadcifgkimaa
open Go.ChangeShapes Go.WideShapes Go.ChangeAt Go.RowKit
set_option linter.unusedVariables false

/-- What is on the disk behind both Puts. -/
def both (b1 v1 b2 v2 : Int) : List Int := splice (splice (List.replicate ((3 : Int).toNat * 32) 0) (b1.toNat * 32) (blk v1 (cnt 32))) (b2.toNat * 32) (blk v2 (cnt 32))
theorem both_frame (b1 v1 b2 v2 : Int) (y1 : 0 ≤ b1) (y2 : b1 < 3) (z1 : 0 ≤ b2) (z2 : b2 < 3) (i : Nat) (hi : i < 3) :
    frameOf (both b1 v1 b2 v2) i = if (i : Int) = b2 then blk v2 (cnt 32) else if (i : Int) = b1 then blk v1 (cnt 32) else List.replicate 32 0 := by
  have l1 : (List.replicate ((3 : Int).toNat * 32) (0 : Int)).length = 3 * 32 := by simp
  have l2 : (splice (List.replicate ((3 : Int).toNat * 32) 0) (b1.toNat * 32) (blk v1 (cnt 32))).length = 3 * 32 := by
    rw [splice_length _ _ _ (by rw [l1, blk32]; omega), l1]
  unfold both
  rw [frame_splice _ _ 3 b2.toNat i l2 (by omega) hi (blk32 v2)]
  by_cases e2 : (i : Int) = b2
  · rw [if_pos (by omega), if_pos e2]
  · rw [if_neg (by omega), if_neg e2, frame_splice _ _ 3 b1.toNat i l1 (by omega) hi (blk32 v1)]
    by_cases e1 : (i : Int) = b1
    · rw [if_pos (by omega), if_pos e1]
    · rw [if_neg (by omega), if_neg e1]
      exact frame_zeros 3 i hi

set_option maxHeartbeats 4000000 in
theorem keeps_yes (p1 : Bool) (b1 n1 v1 : Int) (p2 : Bool) (b2 n2 v2 : Int) (w : World) (y1 : 0 ≤ b1) (y2 : b1 < 3) (z1 : 0 ≤ b2) (z2 : b2 < 3) :
    Calls Try.prog 4 #[.agg (deedRow p1 b1 n1 v1), .agg (deedRow p2 b2 n2 v2)] w fun e w' => e = .returned (.bool true) ∧ Below w.heap.size w w' := by
  have BF : Hid _ := both_frame b1 v1 b2 v2 y1 y2 z1 z2
  unfold deedRow
  go_enter Try.func4, Try.ntmps4
  go_wp2_with fail
  refine (new_at 3 _ (by omega) (by omega)).mono ?_
  rintro e w1 ⟨rfl, hm1, hb1, hs1⟩
  simp only [World.size_alloc] at hm1 hb1 ⊢
  have hq := kb_start p1 b1 n1 v1 p2 b2 n2 v2 _ hm1 hb1
  clear hm1 hb1 hs1
  have hqd : KB w w1.drew _ _ _ _ _ _ _ _ _ _ _ := hq.below ⟨rfl, rfl, rfl, Nat.le_refl _, fun _ _ => rfl⟩
  go_wp2_with fail
  refine wp_region_held_drew (S := fun w' => w'.cell? ⟨w.heap.size, 1, none⟩ = some (.int .i64 b1) ∧ w'.cell? ⟨w.heap.size, 3, none⟩ = some (.int .u64 v1) ∧ w'.cell? ⟨w.heap.size + 1, 1, none⟩ = some (.int .i64 b2) ∧ w'.cell? ⟨w.heap.size + 1, 3, none⟩ = some (.int .u64 v2)) (by kernel_rfl) ⟨hqd.ca1, hqd.ca3, hqd.cb1, hqd.cb3⟩ (fun hHeld => ?_)
  refine wpAnyH_take (i := 0) (v := ?_) rfl (by kernel_rfl) (by kernel_rfl) (by kernel_rfl) (fun _ _ _ h => h) (Or.inl ⟨by kernel_rfl, ?_⟩) (by assumption) ?_
  rotate_left
  · (intro w hSw; (try dsimp only at hSw); go_simp) <;> with_reducible rfl
  (try simp only [Act.put, List.getElem_toArray, List.getElem_cons_zero, List.setIfInBounds_toArray, List.set_cons_zero, List.set_cons_succ])
  refine wpAnyH_take (i := 1) (v := ?_) rfl (by kernel_rfl) (by kernel_rfl) (by kernel_rfl) (fun _ _ _ h => h) (Or.inl ⟨by kernel_rfl, ?_⟩) (by assumption) ?_
  rotate_left
  · (intro w hSw; (try dsimp only at hSw); go_simp) <;> with_reducible rfl
  (try simp only [Act.put, List.getElem_toArray, List.getElem_cons_zero, List.getElem_cons_succ, List.setIfInBounds_toArray, List.set_cons_zero, List.set_cons_succ])
  refine wpAnyH_take (i := 2) (v := ?_) rfl (by kernel_rfl) (by kernel_rfl) (by kernel_rfl) (fun _ _ _ h => h) (Or.inl ⟨by kernel_rfl, ?_⟩) (by assumption) ?_
  rotate_left
  · (intro w hSw; (try dsimp only at hSw); go_simp) <;> with_reducible rfl
  (try simp only [Act.put, List.getElem_toArray, List.getElem_cons_zero, List.getElem_cons_succ, List.setIfInBounds_toArray, List.set_cons_zero, List.set_cons_succ])
  refine wpAnyH_take (i := 3) (v := ?_) rfl (by kernel_rfl) (by kernel_rfl) (by kernel_rfl) (fun _ _ _ h => h) (Or.inl ⟨by kernel_rfl, ?_⟩) (by assumption) ?_
  rotate_left
  · (intro w hSw; (try dsimp only at hSw); go_simp) <;> with_reducible rfl
  (try simp only [Act.put, List.getElem_toArray, List.getElem_cons_zero, List.getElem_cons_succ, List.setIfInBounds_toArray, List.set_cons_zero, List.set_cons_succ])
  refine wpAnyH_take (i := 4) (v := ?_) rfl (by kernel_rfl) (by kernel_rfl) (by kernel_rfl) (fun _ _ _ h => h) (Or.inl ⟨by kernel_rfl, ?_⟩) (by assumption) ?_
  rotate_left
  · (intro w hSw; (try dsimp only at hSw); go_simp) <;> with_reducible rfl
  (try simp only [Act.put, List.getElem_toArray, List.getElem_cons_zero, List.getElem_cons_succ, List.setIfInBounds_toArray, List.set_cons_zero, List.set_cons_succ])
  refine wpAnyH_ready (rs := [5]) (by kernel_rfl) (by simp) ?_
  refine AllReadyH.cons rfl (fun K hK => ?_) AllReadyH.nil
  go_simp
  refine (kb_block _ hqd).mono ?_
  rintro e wq ⟨a, c, rfl, hr, hq, hk⟩
  refine hK.out _ _ ⟨hq.ca1, hq.ca3, hq.cb1, hq.cb3⟩ (fun hHeld => ?_)
  clear hK K
  (try simp only [Act.put, List.getElem_toArray, List.getElem_cons_zero, List.getElem_cons_succ, List.setIfInBounds_toArray, List.set_cons_zero, List.set_cons_succ])
  refine wpAnyH_ready (rs := [6]) (by kernel_rfl) (by simp) ?_
  refine AllReadyH.cons rfl (fun K hK => ?_) AllReadyH.nil
  go_simp
  refine (kb_put hq hr y1 y2 (by omega)).mono ?_
  rintro e wq ⟨rfl, hq⟩
  refine hK.out _ _ ⟨hq.ca1, hq.ca3, hq.cb1, hq.cb3⟩ (fun hHeld => ?_)
  clear hK K
  (try simp only [Act.put, List.getElem_toArray, List.getElem_cons_zero, List.getElem_cons_succ, List.setIfInBounds_toArray, List.set_cons_zero, List.set_cons_succ])
  refine wpAnyH_take (i := 7) (v := ?_) rfl (by kernel_rfl) (by kernel_rfl) (by kernel_rfl) (fun _ _ _ h => h) (Or.inl ⟨by kernel_rfl, ?_⟩) (by assumption) ?_
  rotate_left
  · (intro w hSw; (try dsimp only at hSw); go_simp) <;> with_reducible rfl
  (try simp only [Act.put, List.getElem_toArray, List.getElem_cons_zero, List.getElem_cons_succ, List.setIfInBounds_toArray, List.set_cons_zero, List.set_cons_succ])
  refine wpAnyH_take (i := 8) (v := ?_) rfl (by kernel_rfl) (by kernel_rfl) (by kernel_rfl) (fun _ _ _ h => h) (Or.inl ⟨by kernel_rfl, ?_⟩) (by assumption) ?_
  rotate_left
  · (intro w hSw; (try dsimp only at hSw); go_simp) <;> with_reducible rfl
  (try simp only [Act.put, List.getElem_toArray, List.getElem_cons_zero, List.getElem_cons_succ, List.setIfInBounds_toArray, List.set_cons_zero, List.set_cons_succ])
  refine wpAnyH_take (i := 9) (v := ?_) rfl (by kernel_rfl) (by kernel_rfl) (by kernel_rfl) (fun _ _ _ h => h) (Or.inl ⟨by kernel_rfl, ?_⟩) (by assumption) ?_
  rotate_left
  · (intro w hSw; (try dsimp only at hSw); go_simp) <;> with_reducible rfl
  (try simp only [Act.put, List.getElem_toArray, List.getElem_cons_zero, List.getElem_cons_succ, List.setIfInBounds_toArray, List.set_cons_zero, List.set_cons_succ])
  refine wpAnyH_take (i := 10) (v := ?_) rfl (by kernel_rfl) (by kernel_rfl) (by kernel_rfl) (fun _ _ _ h => h) (Or.inl ⟨by kernel_rfl, ?_⟩) (by assumption) ?_
  rotate_left
  · (intro w hSw; (try dsimp only at hSw); go_simp) <;> with_reducible rfl
  (try simp only [Act.put, List.getElem_toArray, List.getElem_cons_zero, List.getElem_cons_succ, List.setIfInBounds_toArray, List.set_cons_zero, List.set_cons_succ])
  refine wpAnyH_take (i := 11) (v := ?_) rfl (by kernel_rfl) (by kernel_rfl) (by kernel_rfl) (fun _ _ _ h => h) (Or.inl ⟨by kernel_rfl, ?_⟩) (by assumption) ?_
  rotate_left
  · (intro w hSw; (try dsimp only at hSw); go_simp) <;> with_reducible rfl
  (try simp only [Act.put, List.getElem_toArray, List.getElem_cons_zero, List.getElem_cons_succ, List.setIfInBounds_toArray, List.set_cons_zero, List.set_cons_succ])
  refine wpAnyH_take (i := 12) (v := ?_) rfl (by kernel_rfl) (by kernel_rfl) (by kernel_rfl) (fun _ _ _ h => h) (Or.inl ⟨by kernel_rfl, ?_⟩) (by assumption) ?_
  rotate_left
  · (intro w hSw; (try dsimp only at hSw); go_simp) <;> with_reducible rfl
  (try simp only [Act.put, List.getElem_toArray, List.getElem_cons_zero, List.getElem_cons_succ, List.setIfInBounds_toArray, List.set_cons_zero, List.set_cons_succ])
  refine wpAnyH_take (i := 13) (v := ?_) rfl (by kernel_rfl) (by kernel_rfl) (by kernel_rfl) (fun _ _ _ h => h) (Or.inl ⟨by kernel_rfl, ?_⟩) (by assumption) ?_
  rotate_left
  · (intro w hSw; (try dsimp only at hSw); go_simp) <;> with_reducible rfl
  (try simp only [Act.put, List.getElem_toArray, List.getElem_cons_zero, List.getElem_cons_succ, List.setIfInBounds_toArray, List.set_cons_zero, List.set_cons_succ])
  refine wpAnyH_ready (rs := [14]) (by kernel_rfl) (by simp) ?_
  refine AllReadyH.cons rfl (fun K hK => ?_) AllReadyH.nil
  go_simp
  refine (kb_block _ hq).mono ?_
  rintro e wq ⟨a, c, rfl, hr, hq, hk⟩
  refine hK.out _ _ ⟨hq.ca1, hq.ca3, hq.cb1, hq.cb3⟩ (fun hHeld => ?_)
  clear hK K
  (try simp only [Act.put, List.getElem_toArray, List.getElem_cons_zero, List.getElem_cons_succ, List.setIfInBounds_toArray, List.set_cons_zero, List.set_cons_succ])
  refine wpAnyH_ready (rs := [15]) (by kernel_rfl) (by simp) ?_
  refine AllReadyH.cons rfl (fun K hK => ?_) AllReadyH.nil
  go_simp
  refine (kb_put hq hr z1 z2 (by omega)).mono ?_
  rintro e wq ⟨rfl, hq⟩
  refine hK.out _ _ ⟨hq.ca1, hq.ca3, hq.cb1, hq.cb3⟩ (fun hHeld => ?_)
  clear hK K
  (try simp only [Act.put, List.getElem_toArray, List.getElem_cons_zero, List.getElem_cons_succ, List.setIfInBounds_toArray, List.set_cons_zero, List.set_cons_succ])
  refine wpAnyH_take (i := 16) (v := ?_) rfl (by kernel_rfl) (by kernel_rfl) (by kernel_rfl) (fun _ _ _ h => h) (Or.inl ⟨by kernel_rfl, ?_⟩) (by assumption) ?_
  rotate_left
  · (intro w hSw; (try dsimp only at hSw); go_simp) <;> with_reducible rfl
  (try simp only [Act.put, List.getElem_toArray, List.getElem_cons_zero, List.getElem_cons_succ, List.setIfInBounds_toArray, List.set_cons_zero, List.set_cons_succ])
  refine wpAnyH_take (i := 17) (v := ?_) rfl (by kernel_rfl) (by kernel_rfl) (by kernel_rfl) (fun _ _ _ h => h) (Or.inl ⟨by kernel_rfl, ?_⟩) (by assumption) ?_
  rotate_left
  · (intro w hSw; (try dsimp only at hSw); go_simp) <;> with_reducible rfl
  (try simp only [Act.put, List.getElem_toArray, List.getElem_cons_zero, List.getElem_cons_succ, List.setIfInBounds_toArray, List.set_cons_zero, List.set_cons_succ])
  refine wpAnyH_done (by kernel_rfl) ?_ _
  have hq3 : KB w wq p1 b1 n1 v1 p2 b2 n2 v2 (both b1 v1 b2 v2) 0 2 := hq
  clear hq hqd hr hk hHeld
  have hmk := make_page
  go_wp2_with fail
  go_loopw [6] (fun i wr => ∃ k : Nat, k ≤ 3 ∧ i = .int .i64 k ∧ KB w wr p1 b1 n1 v1 p2 b2 n2 v2 (both b1 v1 b2 v2) k 2) (fun i _ => 3 - (intOf i).toNat)
  case atStart => exact ⟨0, Nat.zero_le _, rfl, hq3⟩
  case round =>
    obtain ⟨k, hk, rfl, hq⟩ := hrel
    clear hq3
    by_cases hlt : k < 3
    · have hf := BF.out k hlt
      go_wp2_with fail
      refine (kb_get hq (by omega) (by omega) (by omega)).mono ?_
      rintro e w2 ⟨gg, rfl, hr2, hq2⟩
      rw [Int.toNat_natCast, hf] at hr2
      have hbm : Below w2.heap.size w2 (w2.alloc (.cells (zrow 32) 27)) := (Below.refl _ _).alloc (Nat.le_refl _) _
      have hr3 := hr2.keep (Keeps.of_below hbm)
      have hq3 := hq2.below hbm
      have hz3 := page_row (w.heap.size + 4) w2 hq2.sz
      have a1 := hq3.ca1
      have a3 := hq3.ca3
      have d1 := hq3.cb1
      have d3 := hq3.cb3
      clear hf hr2 hq2 hq
      by_cases e2 : (k : Int) = b2 <;> by_cases e1 : (k : Int) = b1
      · have t1 : ((k : Int) == b1) = true := by simpa using e1
        have t2 : ((k : Int) == b2) = true := by simpa using e2
        rw [if_pos e2] at hr3
        clear e1 e2
        go_wp2_with fail
        refine (kb_block _ hq3).mono ?_
        rintro e w4 ⟨a4, c4, rfl, hr4, hq4, hk4⟩
        have hr5 := hr3.keep hk4
        have d1' := hq4.cb1
        have d3' := hq4.cb3
        clear a1 a3 d1 d3 hr3 hr4 hz3 hk4 hbm hq3
        go_wp2_with fail
        refine (kb_block _ hq4).mono ?_
        rintro e w5 ⟨a5, c5, rfl, hr6, hq5, hk5⟩
        have hr7 := hr5.keep hk5
        clear d1' d3' hr5 hk5 hq4
        go_wp2_with fail
        refine (words_same _ _ _ _ _ _ hr7 hr6 (by rw [blk32]; omega)).mono ?_
        rintro e w6 ⟨rfl, hq6⟩
        have hq7 := hq5.below (drewN_below hq6)
        clear hq6 hr6 hr7 hq5
        go_wp2_with fail
        go_roundw
        case rel => exact ⟨k + 1, by omega, by go_num, hq7⟩
        case measure => simp [intOf]; omega
      · have t1 : ((k : Int) == b1) = false := by simpa using e1
        have t2 : ((k : Int) == b2) = true := by simpa using e2
        rw [if_pos e2] at hr3
        clear e1 e2
        go_wp2_with fail
        refine (kb_block _ hq3).mono ?_
        rintro e w4 ⟨a4, c4, rfl, hr4, hq4, hk4⟩
        have hr5 := hr3.keep hk4
        clear a1 a3 d1 d3 hr3 hz3 hk4 hbm hq3
        go_wp2_with fail
        refine (words_same _ _ _ _ _ _ hr5 hr4 (by rw [blk32]; omega)).mono ?_
        rintro e w6 ⟨rfl, hq6⟩
        have hq7 := hq4.below (drewN_below hq6)
        clear hq6 hr4 hr5 hq4
        go_wp2_with fail
        go_roundw
        case rel => exact ⟨k + 1, by omega, by go_num, hq7⟩
        case measure => simp [intOf]; omega
      · have t1 : ((k : Int) == b1) = true := by simpa using e1
        have t2 : ((k : Int) == b2) = false := by simpa using e2
        rw [if_neg e2, if_pos e1] at hr3
        clear e1 e2
        go_wp2_with fail
        refine (kb_block _ hq3).mono ?_
        rintro e w4 ⟨a4, c4, rfl, hr4, hq4, hk4⟩
        have hr5 := hr3.keep hk4
        have d1' := hq4.cb1
        clear a1 a3 d1 d3 hr3 hz3 hk4 hbm hq3
        go_wp2_with fail
        refine (words_same _ _ _ _ _ _ hr5 hr4 (by rw [blk32]; omega)).mono ?_
        rintro e w6 ⟨rfl, hq6⟩
        have hq7 := hq4.below (drewN_below hq6)
        clear hq6 hr4 hr5 hq4 d1'
        go_wp2_with fail
        go_roundw
        case rel => exact ⟨k + 1, by omega, by go_num, hq7⟩
        case measure => simp [intOf]; omega
      · have t1 : ((k : Int) == b1) = false := by simpa using e1
        have t2 : ((k : Int) == b2) = false := by simpa using e2
        rw [if_neg e2, if_neg e1] at hr3
        clear e1 e2
        go_wp2_with fail
        refine (words_same _ _ _ _ _ _ hr3 hz3 (by rw [List.length_replicate]; omega)).mono ?_
        rintro e w6 ⟨rfl, hq6⟩
        have hq7 := hq3.below (drewN_below hq6)
        clear hq6 hr3 hz3 hq3 a1 a3 d1 d3 hbm
        go_wp2_with fail
        go_roundw
        case rel => exact ⟨k + 1, by omega, by go_num, hq7⟩
        case measure => simp [intOf]; omega
    · have : k = 3 := by omega
      subst this
      go_wp2_with fail
      refine (awake_any _).mono ?_
      rintro e w6 ⟨rfl, hb6⟩
      go_wp2_with fail
      go_ret
      exact ⟨rfl, hq.old.trans (hb6.mono hq.old.size)⟩

theorem own : ownKnob Try.prog.godebug = none := by kernel_rfl
theorem laidOut : laidOutB Try.prog = true := by kernel_rfl

set_option maxRecDepth 100000 in
theorem keeps_lifted (os : Os) (started : os.Started) (H : Type) (enc : TypeId × Value → H) :
    ReturnsInHanded {} Try.checked os 4 .any (Rows.blocksKeepsSpec.pre6 enc Try.prog Try.f4 Rows.blocksKeepsRow.domain false) (Rows.blocksKeepsSpec.post enc Try.prog Try.f4 false true false false) := by
  refine returnsInHanded_of_change (C := Try.checked) own started (by kernel_rfl) Try.func4
    (ChangeSpec.witness6 (enc := enc) (C := Try.checked) false ⟨#[], #[.agg #[.bool false, .int .i64 0, .int .i64 0, .int .u64 0], .agg #[.bool false, .int .i64 0, .int .i64 0, .int .u64 0]], []⟩ 8 (by kernel_rfl) (by kernel_rfl) (by kernel_rfl) (by kernel_rfl)) ?_
  intro W base args ds gs before hval0 hW hcnd _
  have hval : ∀ (j : Nat) t v, Try.f4.params[j]? = some t → args[j]? = some v → Value.okWide Try.prog W .any base t v := hval0
  have hW' := hW
  obtain ⟨p, q, hA0, hV, rfl, hfz, hnd⟩ := hW
  have hA : DataW.TrodAll enc Try.prog W 0 (fun _ => true) true Try.f4.params.toList args.toList ds p := hA0
  rw [Try.params4] at hA hval
  obtain ⟨v0, vs0, d0, ds0, p0, q0, hargs, rfl, rfl, h0, r0⟩ := trodAll_cons hA
  obtain ⟨v1, vs1, d1, ds1, p1, q1, rfl, rfl, rfl, h1, r1⟩ := trodAll_cons r0
  obtain ⟨rfl, rfl, rfl⟩ := trodAll_nil r1
  obtain rfl : args = #[v0, v1] := by cases args; simp_all
  obtain ⟨rfl, rfl⟩ := trodVars_none hV
  have k0 := h0
  have lt0 : ∀ x ∈ p0, x.block < W.heap.size := by obtain ⟨m, hm⟩ := k0; exact DataW.trod_lt m _ _ _ hm
  obtain ⟨cs0, rfl, fit0⟩ := agg_fits Try.underlying29 deedKinds (hval 0 29 v0 rfl rfl) h0
  have k1 := h1
  have lt1 : ∀ x ∈ p1, x.block < W.heap.size := by obtain ⟨m, hm⟩ := k1; exact DataW.trod_lt m _ _ _ hm
  obtain ⟨cs1, rfl, fit1⟩ := agg_fits Try.underlying29 deedKinds (hval 1 29 v1 rfl rfl) h1
  clear hA0 hval0
  obtain ⟨p1, b1, n1, v1, hcs0⟩ := deedOf fit0
  obtain rfl : cs0 = deedRow p1 b1 n1 v1 := Array.toList_inj.1 hcs0
  obtain ⟨p2, b2, n2, v2, hcs1⟩ := deedOf fit1
  obtain rfl : cs1 = deedRow p2 b2 n2 v2 := Array.toList_inj.1 hcs1
  have hwalk : Calls Try.prog 4 #[.agg (deedRow p1 b1 n1 v1), .agg (deedRow p2 b2 n2 v2)] W fun e w' => e = .returned (.bool true) ∧ Below W.heap.size W w' := by
    by_cases h1 : 0 ≤ b1 ∧ b1 < 3
    · by_cases h2 : 0 ≤ b2 ∧ b2 < 3
      · exact keeps_yes p1 b1 n1 v1 p2 b2 n2 v2 W h1.1 h1.2 h2.1 h2.2
      · exact keeps_no2 p1 b1 n1 v1 p2 b2 n2 v2 W h1.1 h1.2 h2
    · exact keeps_no1 p1 b1 n1 v1 p2 b2 n2 v2 W h1
  refine hwalk.mono fun e W' ⟨he, bel⟩ => ?_
  subst he
  exact ⟨_, rfl, _, _, _, [], _, [], hW', trodAll_mk1 (shut_bool Try.underlying4 _), (trodAll_cons_mk (Below.trod laidOut (by kernel_rfl) (of_decide_eq_true (by kernel_rfl)) k0 bel lt0) (trodAll_cons_mk (Below.trod laidOut (by kernel_rfl) (of_decide_eq_true (by kernel_rfl)) k1 bel lt1) trodAll_mk0)), rfl, bel.frame _, fun h => by cases h⟩

theorem keeps_holds : Rows.BlocksKeepsSaid :=
  OpenClaim.holds_of_wide 4 Try.f4 rfl rfl rfl rfl rfl rfl rfl ⟨rfl, rfl, rfl, rfl, rfl⟩ rfl rfl rfl rfl rfl (by kernel_rfl) Try.func4 (by kernel_rfl)
    (of_decide_eq_true (by kernel_rfl)) (by unfold Func.isWrapper; first | (rw [if_pos (by decide +kernel)]; kernel_rfl) | (rw [if_neg (by decide +kernel)]; exact ⟨rfl, rfl⟩))
    (fun os started H enc _ => keeps_lifted os started H enc)
#print axioms keeps_holds
end Go.Proofs.Ytoceadcifgkimaa
