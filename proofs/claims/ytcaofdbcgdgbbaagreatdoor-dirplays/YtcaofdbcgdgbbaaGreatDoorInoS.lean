/- Package inode: a file's clearFrom. -/
import Derived.Test.YtcaofdbcgdgbbaaGreatDoorInoQR
namespace Go.Proofs.YtcaofdbcgdgbbaaGreatDoor
open Go.RowKit
set_option linter.unusedVariables false

theorem word_zero : (Tryz.prog.info? 120).map (fun i => i.zero) = some (some (.int .u64 0)) := by kernel_rfl
theorem clear_cells {b a : Nat} {A : Array Value} {F : List Int} (hA : A.size = 32) (hF : F.length = 32) (ha : a ≤ 32) :
    ((shRow b A (urow F)).toList.take (33 + a) ++ List.replicate (32 - a) (Value.int .u64 0) ++ (shRow b A (urow F)).toList.drop (33 + a + (32 - a))).toArray = shRow b A (urow (F.take a ++ List.replicate (32 - a) 0)) := by
  apply Array.ext'
  unfold shRow
  simp only [Array.toList_append, urow, List.map_append, List.map_take, List.map_replicate]
  have h1 : (([Value.int .i64 (b : Int)] ++ A.toList) ++ F.map (Value.int .u64)).take (33 + a) = ([Value.int .i64 (b : Int)] ++ A.toList) ++ (F.map (Value.int .u64)).take a := by
    rw [List.take_append, List.take_of_length_le (by simp [hA])]
    congr 2
    simp [hA]
  have h2 : (([Value.int .i64 (b : Int)] ++ A.toList) ++ F.map (Value.int .u64)).drop (33 + a + (32 - a)) = [] := by
    rw [List.drop_eq_nil_of_le]
    simp [hA, hF]
    omega
  show (([Value.int .i64 (b : Int)] ++ A.toList) ++ F.map (Value.int .u64)).take (33 + a) ++ List.replicate (32 - a) (Value.int .u64 0) ++ (([Value.int .i64 (b : Int)] ++ A.toList) ++ F.map (Value.int .u64)).drop (33 + a + (32 - a)) = ([Value.int .i64 (b : Int)] ++ A.toList) ++ ((F.map (Value.int .u64)).take a ++ List.replicate (32 - a) (Value.int .u64 0))
  rw [h1, h2, List.append_nil, List.append_assoc]
section
variable {w w' : World} {X : FX} {vs ws : List Int} {m : Nat} {iw bw : List Nat} {kd lk sz : Int} {bl : List Nat}
theorem DrQ.clear {base bd B G n b q a : Nat} (h : DrQ w base bd B G n vs ws m b q) (ha : a < 32) (ty : TypeId) (c : Nat) (hc : c = 32 - a) :
    ∃ W, (Builtin.clear_ #[113] ty #[.slice (some ⟨q, 33 + a, none⟩) c c]).run Tryz.prog w = .ok (.tuple #[]) W ∧ DrQ W base bd B G n vs (splice ws (b * 32) ((frameOf ws b).take a ++ List.replicate (32 - a) 0)) m b q ∧ DT base B w W := by
  subst hc
  have hl : ws.length = n * 32 := h.dr.len
  obtain ⟨A, hA, hh, _, hb⟩ := h.row
  have hF := frameOf_length ws b n hl hb
  have hr := run_clear_row w 113 ty 120 q (33 + a) (32 - a) (32 - a) _ _ (.int .u64 0) Tryz.underlying113 word_zero rfl rfl hh (by omega) (by rw [shRow_size hA (by rw [urow_size, hF])]; omega)
  obtain ⟨r1, r2⟩ := h.lay (us := (frameOf ws b).take a ++ List.replicate (32 - a) 0) (w' := w.setRow q (((shRow b A (urow (frameOf ws b))).toList.take (33 + a) ++ List.replicate (32 - a) (Value.int .u64 0) ++ (shRow b A (urow (frameOf ws b))).toList.drop (33 + a + (32 - a))).toArray)) (by simp [hF]; omega) (fun A' hA' hh' => by
    have e : A' = A := by
      rw [hh] at hh'
      simp only [Option.some.injEq, Obj.cells.injEq] at hh'
      have e1 := hh'.1
      unfold shRow at e1
      have e2 := congrArg Array.toList e1
      simp only [Array.toList_append, List.append_assoc] at e2
      have e3 := List.append_cancel_left e2
      exact (Array.toList_inj.1 ((List.append_inj e3 (by simp [hA, hA'])).1)).symm
    subst e
    rw [setRow_heap w q _ _ _ _ hh, clear_cells hA hF (by omega)]) (Upd.setRow _ _ _)
  exact ⟨_, hr, r1, r2⟩
set_option maxHeartbeats 2000000 in
set_option maxRecDepth 100000 in
theorem fclear_at (h : FlAt w X vs ws m iw bw kd lk sz bl) (hm : m ≤ 900000000000) (f nd : Nat) (hf : f ≤ 192) (hn : nd ≤ 6) (hb : ∀ k, k < nd → bl.getD k 0 < X.n) (hinj : ∀ j k, j < nd → k < nd → bl.getD j 0 = bl.getD k 0 → j = k) :
    Calls Tryz.prog 119 #[ptr X.bf, .int .i64 (f : Int), .int .i64 (nd : Int)] w fun e w' => e = .returned (.tuple #[]) ∧ (∃ us, FlAt w' X vs us m iw bw kd lk sz bl ∧ CL X.n f nd bl ws us) ∧ Fr X w w' := by
  have HH : Hid (FlAt w X vs ws m iw bw kd lk sz bl) := h
  have HB : Hid (∀ k, k < nd → bl.getD k 0 < X.n) := hb
  have HI : Hid (∀ j k, j < nd → k < nd → bl.getD j 0 = bl.getD k 0 → j = k) := hinj
  obtain ⟨k0, hk0⟩ : ∃ k, k = f / 32 := ⟨_, rfl⟩
  have hd : (f : Int).tdiv 32 = (k0 : Int) := by rw [Int.tdiv_eq_ediv_of_nonneg (by omega)]; omega
  have hw0 : IntKind.i64.wrap ((k0 : Nat) : Int) = (k0 : Int) := Bi.wrap_small k0 (by omega)
  have HK0 : Hid (k0 = f / 32) := hk0
  have hk06 : k0 ≤ 6 := by omega
  have HLn : Hid (ws.length = X.n * 32) := h.dr.len
  clear h hb hinj hk0
  go_enter Tryz.func119, Tryz.ntmps119
  go_wp2
  go_loopw [6] (fun s wr => ∃ (k : Nat) (us : List Int), k0 ≤ k ∧ k ≤ 6 ∧ s = .int .i64 k ∧ FlAt wr X vs us m iw bw kd lk sz bl ∧ Fr X w wr ∧ Hid (us.length = ws.length ∧ (∀ j, j < nd → k0 ≤ j → j < k → frameOf us (bl.getD j 0) = cleared f j (frameOf ws (bl.getD j 0))) ∧ (∀ b, b < X.n → (∀ j, j < nd → k0 ≤ j → j < k → bl.getD j 0 ≠ b) → frameOf us b = frameOf ws b))) (fun s _ => nd - (intOf s).toNat)
  case atStart => exact ⟨k0, ws, by omega, by omega, rfl, HH.out, UpdP.refl _ _, rfl, fun j _ h1 h2 => by omega, fun b _ _ => rfl⟩
  case round =>
    obtain ⟨k, us, hk1, hk2, rfl, hF, hfr, HC⟩ := hrel
    have HF : Hid (FlAt wr X vs us m iw bw kd lk sz bl) := hF
    have HFr : Hid (Fr X w wr) := hfr
    by_cases hlt : k < nd
    · have hki : (k : Int) < (nd : Int) := by omega
      have hk6 : (k : Int) < 6 := by omega
      obtain ⟨c0, c1, c2, c3, c4, c5, c6⟩ := hF.c
      have cb := hF.blk (k := k) (by omega)
      have hbn := HB.out k hlt
      have hA := dat_at (w := wr.drew) (hF.dr.below (Di.drewN_below (w := wr) ⟨1, rfl⟩)) (bl.getD k 0) hbn hm
      obtain ⟨b, hbq⟩ : ∃ b, b = bl.getD k 0 := ⟨_, rfl⟩
      have HBq : Hid (b = bl.getD k 0) := hbq
      rw [← hbq] at cb hbn hA
      have hs : wr.cell? ⟨X.bf, 0, none⟩ = some (ptr X.bd) ∧ wr.cell? ⟨X.bf, 7 + k, none⟩ = some (.int .i64 (b : Int)) := ⟨c0, cb⟩
      obtain ⟨a, ha⟩ : ∃ a, a = f - 32 * k := ⟨_, rfl⟩
      have Ha : Hid (a = f - 32 * k) := ha
      have ha32 : a < 32 := by have := HK0.out; omega
      have hmx : max ((f : Int) - (k : Int) * 32) 0 = (a : Int) := by omega
      have hwk : IntKind.i64.wrap ((k : Int) * 32) = (k : Int) * 32 := by
        have := Bi.wrap_small (k * 32) (by omega)
        rw [Int.natCast_mul] at this
        exact this
      clear hF hfr c0 c1 c2 c3 c4 c5 c6 cb hbq ha
      go_wp2_with fail
      refine wp_region_held_drew (S := fun w' => w'.cell? ⟨X.bf, 0, none⟩ = some (ptr X.bd) ∧ w'.cell? ⟨X.bf, 7 + k, none⟩ = some (.int .i64 (b : Int))) (by kernel_rfl) hs (fun hHeld => ?_)
      refine wpAnyH_take (i := 0) (v := ?_) rfl (by kernel_rfl) (by kernel_rfl) (by kernel_rfl) (fun _ _ _ h => h) (Or.inl ⟨by kernel_rfl, ?_⟩) (by assumption) ?_
      rotate_left
      · (intro w hSw; (try dsimp only at hSw); go_simp) <;> with_reducible rfl
      (try simp only [Act.put, List.getElem_toArray, List.getElem_cons_zero, List.setIfInBounds_toArray, List.set_cons_zero, List.set_cons_succ])
      refine wpAnyH_take (i := 1) (v := ?_) rfl (by kernel_rfl) (by kernel_rfl) (by kernel_rfl) (fun _ _ _ h => h) (Or.inl ⟨by kernel_rfl, ?_⟩) (by assumption) ?_
      rotate_left
      · (intro w hSw; (try dsimp only at hSw); go_simp) <;> with_reducible rfl
      (try simp only [Act.put, List.getElem_toArray, List.getElem_cons_zero, List.getElem_cons_succ, List.setIfInBounds_toArray, List.set_cons_zero, List.set_cons_succ])
      refine wpAnyH_take (i := 2) (v := ?_) rfl (by kernel_rfl) (by kernel_rfl) (by kernel_rfl) (fun _ _ _ h => h) (Or.inl ⟨by kernel_rfl, ?_⟩) (by assumption) ?_
      rotate_left
      · (intro w hSw; (try dsimp only at hSw); go_simp) <;> with_reducible rfl
      (try simp only [Act.put, List.getElem_toArray, List.getElem_cons_zero, List.getElem_cons_succ, List.setIfInBounds_toArray, List.set_cons_zero, List.set_cons_succ])
      refine wpAnyH_take (i := 3) (v := ?_) rfl (by kernel_rfl) (by kernel_rfl) (by kernel_rfl) (fun _ _ _ h => h) (Or.inl ⟨by kernel_rfl, ?_⟩) (by assumption) ?_
      rotate_left
      · (intro w hSw; (try dsimp only at hSw); go_simp) <;> with_reducible rfl
      (try simp only [Act.put, List.getElem_toArray, List.getElem_cons_zero, List.getElem_cons_succ, List.setIfInBounds_toArray, List.set_cons_zero, List.set_cons_succ])
      refine wpAnyH_take (i := 4) (v := ?_) rfl (by kernel_rfl) (by kernel_rfl) (by kernel_rfl) (fun _ _ _ h => h) (Or.inl ⟨by kernel_rfl, ?_⟩) (by assumption) ?_
      rotate_left
      · (intro w hSw; (try dsimp only at hSw); go_simp) <;> with_reducible rfl
      (try simp only [Act.put, List.getElem_toArray, List.getElem_cons_zero, List.getElem_cons_succ, List.setIfInBounds_toArray, List.set_cons_zero, List.set_cons_succ])
      refine wpAnyH_take (i := 5) (v := ?_) rfl (by kernel_rfl) (by kernel_rfl) (by kernel_rfl) (fun _ _ _ h => h) (Or.inl ⟨by kernel_rfl, ?_⟩) (by assumption) ?_
      rotate_left
      · (intro w hSw; (try dsimp only at hSw); go_simp) <;> with_reducible rfl
      (try simp only [Act.put, List.getElem_toArray, List.getElem_cons_zero, List.getElem_cons_succ, List.setIfInBounds_toArray, List.set_cons_zero, List.set_cons_succ])
      refine wpAnyH_take (i := 6) (v := ?_) rfl (by kernel_rfl) (by kernel_rfl) (by kernel_rfl) (fun _ _ _ h => h) (Or.inl ⟨by kernel_rfl, ?_⟩) (by assumption) ?_
      rotate_left
      · (intro w hSw; (try dsimp only at hSw); go_simp) <;> with_reducible rfl
      (try simp only [Act.put, List.getElem_toArray, List.getElem_cons_zero, List.getElem_cons_succ, List.setIfInBounds_toArray, List.set_cons_zero, List.set_cons_succ])
      refine wpAnyH_take (i := 7) (v := ?_) rfl (by kernel_rfl) (by kernel_rfl) (by kernel_rfl) (fun _ _ _ h => h) (Or.inl ⟨by kernel_rfl, ?_⟩) (by assumption) ?_
      rotate_left
      · (intro w hSw; (try dsimp only at hSw); go_simp) <;> with_reducible rfl
      (try simp only [Act.put, List.getElem_toArray, List.getElem_cons_zero, List.getElem_cons_succ, List.setIfInBounds_toArray, List.set_cons_zero, List.set_cons_succ])
      refine wpAnyH_take (i := 8) (v := ?_) rfl (by kernel_rfl) (by kernel_rfl) (by kernel_rfl) (fun _ _ _ h => h) (Or.inl ⟨by kernel_rfl, ?_⟩) (by assumption) ?_
      rotate_left
      · (intro w hSw; (try dsimp only at hSw); go_simp) <;> with_reducible rfl
      (try simp only [Act.put, List.getElem_toArray, List.getElem_cons_zero, List.getElem_cons_succ, List.setIfInBounds_toArray, List.set_cons_zero, List.set_cons_succ])
      refine wpAnyH_take (i := 9) (v := ?_) rfl (by kernel_rfl) (by kernel_rfl) (by kernel_rfl) (fun _ _ _ h => h) (Or.inl ⟨by kernel_rfl, ?_⟩) (by assumption) ?_
      rotate_left
      · (intro w hSw; (try dsimp only at hSw); go_simp) <;> with_reducible rfl
      (try simp only [Act.put, List.getElem_toArray, List.getElem_cons_zero, List.getElem_cons_succ, List.setIfInBounds_toArray, List.set_cons_zero, List.set_cons_succ])
      refine wpAnyH_take (i := 10) (v := ?_) rfl (by kernel_rfl) (by kernel_rfl) (by kernel_rfl) (fun _ _ _ h => h) (Or.inl ⟨by kernel_rfl, ?_⟩) (by assumption) ?_
      rotate_left
      · (intro w hSw; (try dsimp only at hSw); go_simp) <;> with_reducible rfl
      (try simp only [Act.put, List.getElem_toArray, List.getElem_cons_zero, List.getElem_cons_succ, List.setIfInBounds_toArray, List.set_cons_zero, List.set_cons_succ])
      refine wpAnyH_ready (rs := [11]) (by kernel_rfl) (by simp) ?_
      refine AllReadyH.cons rfl (fun K hK => ?_) AllReadyH.nil
      go_simp
      refine hA.mono ?_
      rintro e w1 ⟨q, rfl, hq, hdt⟩
      have hdt' : DT X.base X.B wr w1 := (DT.of_below (Di.drewN_below ⟨1, rfl⟩)).trans hdt
      have h1 := HF.out.dt hq.dr hdt'
      obtain ⟨d0, d1, d2, d3, d4, d5, d6⟩ := h1.c
      have cb1 := h1.blk (k := k) (by omega)
      rw [← HBq.out] at cb1
      have hs1 : w1.cell? ⟨X.bf, 0, none⟩ = some (ptr X.bd) ∧ w1.cell? ⟨X.bf, 7 + k, none⟩ = some (.int .i64 (b : Int)) := ⟨d0, cb1⟩
      have HU : Hid (us.length = X.n * 32) := h1.dr.len
      obtain ⟨c, hc⟩ : ∃ c, c = 32 - a := ⟨_, rfl⟩
      have Hc : Hid (c = 32 - a) := hc
      have hsl := fun W => cont_l q 33 a ha32 W
      rw [← hc] at hsl
      have hcl := fun ty => hq.clear ha32 ty c hc
      obtain ⟨W2, hr2, hq2, hdt2⟩ := hcl 0
      have hr2' : ∀ ty, (Builtin.clear_ #[113] ty #[.slice (some ⟨q, 33 + a, none⟩) c c]).run Tryz.prog w1 = .ok (.tuple #[]) W2 := fun ty => hr2
      have H2 : Hid (FlAt W2 X vs (splice us (b * 32) ((frameOf us b).take a ++ List.replicate (32 - a) 0)) m iw bw kd lk sz bl) := HF.out.dt hq2.dr (hdt'.trans hdt2)
      have HF2 : Hid (Fr X w W2) := HFr.out.trans (hdt'.trans hdt2).fr
      clear hA hq hdt hdt' h1 d0 d1 d2 d3 d4 d5 d6 cb1 hc hcl hr2 hq2 hdt2
      refine hK.out _ _ hs1 (fun hHeld => ?_)
      clear hK K
      (try simp only [Act.put, List.getElem_toArray, List.getElem_cons_zero, List.getElem_cons_succ, List.setIfInBounds_toArray, List.set_cons_zero, List.set_cons_succ])
      refine wpAnyH_take (i := 12) (v := ?_) rfl (by kernel_rfl) (by kernel_rfl) (by kernel_rfl) (fun _ _ _ h => h) (Or.inl ⟨by kernel_rfl, ?_⟩) (by assumption) ?_
      rotate_left
      · (intro w hSw; (try dsimp only at hSw); go_simp) <;> with_reducible rfl
      (try simp only [Act.put, List.getElem_toArray, List.getElem_cons_zero, List.getElem_cons_succ, List.setIfInBounds_toArray, List.set_cons_zero, List.set_cons_succ])
      refine wpAnyH_done (by kernel_rfl) ?_ _
      clear hs hs1
      go_wp2
      go_roundw
      case rel =>
        have hk0' := HK0.out
        have hC := HC.out
        have hul := HU.out
        have hfl := frameOf_length us b X.n hul hbn
        have hcl : ((frameOf us b).take a ++ List.replicate (32 - a) 0).length = 32 := by simp [hfl]; omega
        refine ⟨k + 1, _, by omega, by omega, by go_num, H2.out, HF2.out, ?_, fun j hj h1 h2 => ?_, fun b' hb' hj => ?_⟩
        · rw [splice_length _ _ _ (by rw [hul, hcl]; omega)]
          exact hC.1
        · rw [frame_splice us _ X.n b _ hul hbn (HB.out j hj) hcl]
          by_cases e : j = k
          · subst e
            rw [if_pos (by rw [HBq.out]), HBq.out]
            unfold cleared
            rw [← Ha.out]
            congr 2
            exact hC.2.2 _ (HB.out j hj) (fun j' hj' h3 h4 e => by have := HI.out j' j hj' hj e; omega)
          · rw [if_neg (fun e2 => e (HI.out j k hj hlt (e2.trans HBq.out)))]
            exact hC.2.1 j hj h1 (by omega)
        · rw [frame_splice us _ X.n b b' hul hbn hb' hcl, if_neg (fun e => hj k hlt hk1 (by omega) (by rw [e, HBq.out]))]
          exact hC.2.2 b' hb' (fun j h1 h2 h3 => hj j h1 h2 (by omega))
      case measure => simp [intOf]; omega
    · have hki : ¬ (k : Int) < (nd : Int) := by omega
      have HR : Hid (CL X.n f nd bl ws us) := by
        have hC := HC.out
        rw [HK0.out] at hC hk1
        exact ⟨hC.1, fun j h1 h2 => hC.2.1 j h1 h2 (by omega), fun b h1 h2 => hC.2.2 b h1 (fun j h3 h4 h5 => h2 j h3 h4)⟩
      clear hF hfr
      go_wp2
      go_end0
      exact ⟨rfl, ⟨us, HF.out, HR.out⟩, HFr.out⟩
end
end Go.Proofs.YtcaofdbcgdgbbaaGreatDoor
