/- Package inode: a file's clearFrom. -/
/- Package inode: a file's resize. -/
import Derived.Test.YtcjpahnlckfgoaaGreatDoorInoQR
import Derived.Test.YtcjpahnlckfgoaaGreatDoorInoQR
namespace Go.Proofs.YtcjpahnlckfgoaaGreatDoor
open Go.RowKit
set_option linter.unusedVariables false

theorem word_zero : (Tryz.prog.info? 103).map (fun i => i.zero) = some (some (.int .u64 0)) := by kernel_rfl
theorem clear_cells {b a : Nat} {A : Array Value} {F : List Int} (hA : A.size = 32) (hF : F.length = 32) (ha : a ≤ 32) :
    ((shRow b A (urow F)).toList.take (33 + a) ++ List.replicate (32 - a) (Value.int .u64 0) ++ (shRow b A (urow F)).toList.drop (33 + a + (32 - a))).toArray = shRow b A (urow (F.take a ++ List.replicate (32 - a) 0)) := by
  apply Array.ext'
  unfold shRow
  simp only [Array.toList_append, urow, List.map_append, List.map_take, List.map_replicate]
  have h1 : (([Value.int .i64 (b : Int)] ++ A.toList) ++ F.map (Value.int .u64)).take (33 + a) = ([Value.int .i64 (b : Int)] ++ A.toList) ++ (F.map (Value.int .u64)).take a := by
    rw [List.take_append, List.take_of_length_le (by simp [hA])]
    congr 2
    simp [hA]
  have h2 : (([Value.int .i64 (b : Int)] ++ A.toList) ++ F.map (Value.int .u64)).drop (33 + a + (32 - a)) = [] := by
    rw [List.drop_eq_nil_of_le]
    simp [hA, hF]
    omega
  show (([Value.int .i64 (b : Int)] ++ A.toList) ++ F.map (Value.int .u64)).take (33 + a) ++ List.replicate (32 - a) (Value.int .u64 0) ++ (([Value.int .i64 (b : Int)] ++ A.toList) ++ F.map (Value.int .u64)).drop (33 + a + (32 - a)) = ([Value.int .i64 (b : Int)] ++ A.toList) ++ ((F.map (Value.int .u64)).take a ++ List.replicate (32 - a) (Value.int .u64 0))
  rw [h1, h2, List.append_nil, List.append_assoc]
section
variable {w w' : World} {X : FX} {vs ws : List Int} {m : Nat} {iw bw : List Nat} {kd lk sz : Int} {bl : List Nat}
theorem DrQ.clear {base bd n b q a : Nat} {B : Sto} (h : DrQ w base bd B n vs ws m b q) (ha : a < 32) (ty : TypeId) (c : Nat) (hc : c = 32 - a) :
    ∃ W, (Builtin.clear_ #[81] ty #[.slice (some ⟨q, 33 + a, none⟩) c c]).run Tryz.prog w = .ok (.tuple #[]) W ∧ DrQ W base bd B n vs (splice ws (b * 32) ((frameOf ws b).take a ++ List.replicate (32 - a) 0)) m b q ∧ DT base B w W := by
  subst hc
  have hl : ws.length = n * 32 := h.dr.len
  obtain ⟨A, hA, hh, _, hb⟩ := h.row
  have hF := frameOf_length ws b n hl hb
  have hr := run_clear_row w 81 ty 103 q (33 + a) (32 - a) (32 - a) _ _ (.int .u64 0) Tryz.underlying81 word_zero rfl rfl hh (by omega) (by rw [shRow_size hA (by rw [urow_size, hF])]; omega)
  obtain ⟨r1, r2⟩ := h.lay (us := (frameOf ws b).take a ++ List.replicate (32 - a) 0) (w' := w.setRow q (((shRow b A (urow (frameOf ws b))).toList.take (33 + a) ++ List.replicate (32 - a) (Value.int .u64 0) ++ (shRow b A (urow (frameOf ws b))).toList.drop (33 + a + (32 - a))).toArray)) (by simp [hF]; omega) (fun A' hA' hh' => by
    have e : A' = A := by
      rw [hh] at hh'
      simp only [Option.some.injEq, Obj.cells.injEq] at hh'
      have e1 := hh'.1
      unfold shRow at e1
      have e2 := congrArg Array.toList e1
      simp only [Array.toList_append, List.append_assoc] at e2
      have e3 := List.append_cancel_left e2
      exact (Array.toList_inj.1 ((List.append_inj e3 (by simp [hA, hA'])).1)).symm
    subst e
    rw [setRow_heap w q _ _ _ _ hh, clear_cells hA hF (by omega)]) (Upd.setRow _ _ _)
  exact ⟨_, hr, r1, r2⟩
set_option maxHeartbeats 2000000 in
set_option maxRecDepth 100000 in
theorem fclear_at (h : FlAt w X vs ws m iw bw kd lk sz bl) (hm : m ≤ 900000000000) (f nd : Nat) (hf : f ≤ 192) (hn : nd ≤ 6) (hb : ∀ k, k < nd → bl.getD k 0 < X.n) (hinj : ∀ j k, j < nd → k < nd → bl.getD j 0 = bl.getD k 0 → j = k) :
    Calls Tryz.prog 128 #[ptr X.bf, .int .i64 (f : Int), .int .i64 (nd : Int)] w fun e w' => e = .returned (.tuple #[]) ∧ (∃ us, FlAt w' X vs us m iw bw kd lk sz bl ∧ CL X.n f nd bl ws us) ∧ Fr X w w' := by
  have HH : Hid (FlAt w X vs ws m iw bw kd lk sz bl) := h
  have HB : Hid (∀ k, k < nd → bl.getD k 0 < X.n) := hb
  have HI : Hid (∀ j k, j < nd → k < nd → bl.getD j 0 = bl.getD k 0 → j = k) := hinj
  obtain ⟨k0, hk0⟩ : ∃ k, k = f / 32 := ⟨_, rfl⟩
  have hd : (f : Int).tdiv 32 = (k0 : Int) := by rw [Int.tdiv_eq_ediv_of_nonneg (by omega)]; omega
  have hw0 : IntKind.i64.wrap ((k0 : Nat) : Int) = (k0 : Int) := Bi.wrap_small k0 (by omega)
  have HK0 : Hid (k0 = f / 32) := hk0
  have hk06 : k0 ≤ 6 := by omega
  have HLn : Hid (ws.length = X.n * 32) := h.dr.len
  clear h hb hinj hk0
  go_enter Tryz.func128, Tryz.ntmps128
  go_wp2
  go_loopw [6] (fun s wr => ∃ (k : Nat) (us : List Int), k0 ≤ k ∧ k ≤ 6 ∧ s = .int .i64 k ∧ FlAt wr X vs us m iw bw kd lk sz bl ∧ Fr X w wr ∧ Hid (us.length = ws.length ∧ (∀ j, j < nd → k0 ≤ j → j < k → frameOf us (bl.getD j 0) = cleared f j (frameOf ws (bl.getD j 0))) ∧ (∀ b, b < X.n → (∀ j, j < nd → k0 ≤ j → j < k → bl.getD j 0 ≠ b) → frameOf us b = frameOf ws b))) (fun s _ => nd - (intOf s).toNat)
  case atStart => exact ⟨k0, ws, by omega, by omega, rfl, HH.out, SU.refl _ _ _, rfl, fun j _ h1 h2 => by omega, fun b _ _ => rfl⟩
  case round =>
    obtain ⟨k, us, hk1, hk2, rfl, hF, hfr, HC⟩ := hrel
    have HF : Hid (FlAt wr X vs us m iw bw kd lk sz bl) := hF
    have HFr : Hid (Fr X w wr) := hfr
    by_cases hlt : k < nd
    · have hki : (k : Int) < (nd : Int) := by omega
      have hk6 : (k : Int) < 6 := by omega
      obtain ⟨c0, c1, c2, c3, c4, c5, c6⟩ := hF.c
      have cb := hF.blk (k := k) (by omega)
      have hbn := HB.out k hlt
      have hA := dat_at (w := wr.drew) (hF.dr.below (Di.drewN_below (w := wr) ⟨1, rfl⟩)) (bl.getD k 0) hbn hm
      obtain ⟨b, hbq⟩ : ∃ b, b = bl.getD k 0 := ⟨_, rfl⟩
      have HBq : Hid (b = bl.getD k 0) := hbq
      rw [← hbq] at cb hbn hA
      have hs : wr.cell? ⟨X.bf, 0, none⟩ = some (ptr X.bd) ∧ wr.cell? ⟨X.bf, 7 + k, none⟩ = some (.int .i64 (b : Int)) := ⟨c0, cb⟩
      obtain ⟨a, ha⟩ : ∃ a, a = f - 32 * k := ⟨_, rfl⟩
      have Ha : Hid (a = f - 32 * k) := ha
      have ha32 : a < 32 := by have := HK0.out; omega
      have hmx : max ((f : Int) - (k : Int) * 32) 0 = (a : Int) := by omega
      have hwk : IntKind.i64.wrap ((k : Int) * 32) = (k : Int) * 32 := by
        have := Bi.wrap_small (k * 32) (by omega)
        rw [Int.natCast_mul] at this
        exact this
      clear hF hfr c0 c1 c2 c3 c4 c5 c6 cb hbq ha
      go_wp2_with fail
      refine wp_region_held_drew (S := fun w' => w'.cell? ⟨X.bf, 0, none⟩ = some (ptr X.bd) ∧ w'.cell? ⟨X.bf, 7 + k, none⟩ = some (.int .i64 (b : Int))) (by kernel_rfl) hs (fun hHeld => ?_)
      refine wpAnyH_take (i := 0) (v := ?_) rfl (by kernel_rfl) (by kernel_rfl) (by kernel_rfl) (fun _ _ _ h => h) (Or.inl ⟨by kernel_rfl, ?_⟩) (by assumption) ?_
      rotate_left
      · (intro w hSw; (try dsimp only at hSw); go_simp) <;> with_reducible rfl
      (try simp only [Act.put, List.getElem_toArray, List.getElem_cons_zero, List.setIfInBounds_toArray, List.set_cons_zero, List.set_cons_succ])
      refine wpAnyH_take (i := 1) (v := ?_) rfl (by kernel_rfl) (by kernel_rfl) (by kernel_rfl) (fun _ _ _ h => h) (Or.inl ⟨by kernel_rfl, ?_⟩) (by assumption) ?_
      rotate_left
      · (intro w hSw; (try dsimp only at hSw); go_simp) <;> with_reducible rfl
      (try simp only [Act.put, List.getElem_toArray, List.getElem_cons_zero, List.getElem_cons_succ, List.setIfInBounds_toArray, List.set_cons_zero, List.set_cons_succ])
      refine wpAnyH_take (i := 2) (v := ?_) rfl (by kernel_rfl) (by kernel_rfl) (by kernel_rfl) (fun _ _ _ h => h) (Or.inl ⟨by kernel_rfl, ?_⟩) (by assumption) ?_
      rotate_left
      · (intro w hSw; (try dsimp only at hSw); go_simp) <;> with_reducible rfl
      (try simp only [Act.put, List.getElem_toArray, List.getElem_cons_zero, List.getElem_cons_succ, List.setIfInBounds_toArray, List.set_cons_zero, List.set_cons_succ])
      refine wpAnyH_take (i := 3) (v := ?_) rfl (by kernel_rfl) (by kernel_rfl) (by kernel_rfl) (fun _ _ _ h => h) (Or.inl ⟨by kernel_rfl, ?_⟩) (by assumption) ?_
      rotate_left
      · (intro w hSw; (try dsimp only at hSw); go_simp) <;> with_reducible rfl
      (try simp only [Act.put, List.getElem_toArray, List.getElem_cons_zero, List.getElem_cons_succ, List.setIfInBounds_toArray, List.set_cons_zero, List.set_cons_succ])
      refine wpAnyH_take (i := 4) (v := ?_) rfl (by kernel_rfl) (by kernel_rfl) (by kernel_rfl) (fun _ _ _ h => h) (Or.inl ⟨by kernel_rfl, ?_⟩) (by assumption) ?_
      rotate_left
      · (intro w hSw; (try dsimp only at hSw); go_simp) <;> with_reducible rfl
      (try simp only [Act.put, List.getElem_toArray, List.getElem_cons_zero, List.getElem_cons_succ, List.setIfInBounds_toArray, List.set_cons_zero, List.set_cons_succ])
      refine wpAnyH_take (i := 5) (v := ?_) rfl (by kernel_rfl) (by kernel_rfl) (by kernel_rfl) (fun _ _ _ h => h) (Or.inl ⟨by kernel_rfl, ?_⟩) (by assumption) ?_
      rotate_left
      · (intro w hSw; (try dsimp only at hSw); go_simp) <;> with_reducible rfl
      (try simp only [Act.put, List.getElem_toArray, List.getElem_cons_zero, List.getElem_cons_succ, List.setIfInBounds_toArray, List.set_cons_zero, List.set_cons_succ])
      refine wpAnyH_take (i := 6) (v := ?_) rfl (by kernel_rfl) (by kernel_rfl) (by kernel_rfl) (fun _ _ _ h => h) (Or.inl ⟨by kernel_rfl, ?_⟩) (by assumption) ?_
      rotate_left
      · (intro w hSw; (try dsimp only at hSw); go_simp) <;> with_reducible rfl
      (try simp only [Act.put, List.getElem_toArray, List.getElem_cons_zero, List.getElem_cons_succ, List.setIfInBounds_toArray, List.set_cons_zero, List.set_cons_succ])
      refine wpAnyH_take (i := 7) (v := ?_) rfl (by kernel_rfl) (by kernel_rfl) (by kernel_rfl) (fun _ _ _ h => h) (Or.inl ⟨by kernel_rfl, ?_⟩) (by assumption) ?_
      rotate_left
      · (intro w hSw; (try dsimp only at hSw); go_simp) <;> with_reducible rfl
      (try simp only [Act.put, List.getElem_toArray, List.getElem_cons_zero, List.getElem_cons_succ, List.setIfInBounds_toArray, List.set_cons_zero, List.set_cons_succ])
      refine wpAnyH_take (i := 8) (v := ?_) rfl (by kernel_rfl) (by kernel_rfl) (by kernel_rfl) (fun _ _ _ h => h) (Or.inl ⟨by kernel_rfl, ?_⟩) (by assumption) ?_
      rotate_left
      · (intro w hSw; (try dsimp only at hSw); go_simp) <;> with_reducible rfl
      (try simp only [Act.put, List.getElem_toArray, List.getElem_cons_zero, List.getElem_cons_succ, List.setIfInBounds_toArray, List.set_cons_zero, List.set_cons_succ])
      refine wpAnyH_take (i := 9) (v := ?_) rfl (by kernel_rfl) (by kernel_rfl) (by kernel_rfl) (fun _ _ _ h => h) (Or.inl ⟨by kernel_rfl, ?_⟩) (by assumption) ?_
      rotate_left
      · (intro w hSw; (try dsimp only at hSw); go_simp) <;> with_reducible rfl
      (try simp only [Act.put, List.getElem_toArray, List.getElem_cons_zero, List.getElem_cons_succ, List.setIfInBounds_toArray, List.set_cons_zero, List.set_cons_succ])
      refine wpAnyH_take (i := 10) (v := ?_) rfl (by kernel_rfl) (by kernel_rfl) (by kernel_rfl) (fun _ _ _ h => h) (Or.inl ⟨by kernel_rfl, ?_⟩) (by assumption) ?_
      rotate_left
      · (intro w hSw; (try dsimp only at hSw); go_simp) <;> with_reducible rfl
      (try simp only [Act.put, List.getElem_toArray, List.getElem_cons_zero, List.getElem_cons_succ, List.setIfInBounds_toArray, List.set_cons_zero, List.set_cons_succ])
      refine wpAnyH_ready (rs := [11]) (by kernel_rfl) (by simp) ?_
      refine AllReadyH.cons rfl (fun K hK => ?_) AllReadyH.nil
      go_simp
      refine hA.mono ?_
      rintro e w1 ⟨q, rfl, hq, hdt⟩
      have hdt' : DT X.base X.B wr w1 := (DT.of_below (Di.drewN_below ⟨1, rfl⟩)).trans hdt
      have h1 := HF.out.dt hq.dr hdt'
      obtain ⟨d0, d1, d2, d3, d4, d5, d6⟩ := h1.c
      have cb1 := h1.blk (k := k) (by omega)
      rw [← HBq.out] at cb1
      have hs1 : w1.cell? ⟨X.bf, 0, none⟩ = some (ptr X.bd) ∧ w1.cell? ⟨X.bf, 7 + k, none⟩ = some (.int .i64 (b : Int)) := ⟨d0, cb1⟩
      have HU : Hid (us.length = X.n * 32) := h1.dr.len
      obtain ⟨c, hc⟩ : ∃ c, c = 32 - a := ⟨_, rfl⟩
      have Hc : Hid (c = 32 - a) := hc
      have hsl := fun W => cont_l q 33 a ha32 W
      rw [← hc] at hsl
      have hcl := fun ty => hq.clear ha32 ty c hc
      obtain ⟨W2, hr2, hq2, hdt2⟩ := hcl 0
      have hr2' : ∀ ty, (Builtin.clear_ #[81] ty #[.slice (some ⟨q, 33 + a, none⟩) c c]).run Tryz.prog w1 = .ok (.tuple #[]) W2 := fun ty => hr2
      have H2 : Hid (FlAt W2 X vs (splice us (b * 32) ((frameOf us b).take a ++ List.replicate (32 - a) 0)) m iw bw kd lk sz bl) := HF.out.dt hq2.dr (hdt'.trans hdt2)
      have HF2 : Hid (Fr X w W2) := HFr.out.trans (hdt'.trans hdt2).fr
      clear hA hq hdt hdt' h1 d0 d1 d2 d3 d4 d5 d6 cb1 hc hcl hr2 hq2 hdt2
      refine hK.out _ _ hs1 (fun hHeld => ?_)
      clear hK K
      (try simp only [Act.put, List.getElem_toArray, List.getElem_cons_zero, List.getElem_cons_succ, List.setIfInBounds_toArray, List.set_cons_zero, List.set_cons_succ])
      refine wpAnyH_take (i := 12) (v := ?_) rfl (by kernel_rfl) (by kernel_rfl) (by kernel_rfl) (fun _ _ _ h => h) (Or.inl ⟨by kernel_rfl, ?_⟩) (by assumption) ?_
      rotate_left
      · (intro w hSw; (try dsimp only at hSw); go_simp) <;> with_reducible rfl
      (try simp only [Act.put, List.getElem_toArray, List.getElem_cons_zero, List.getElem_cons_succ, List.setIfInBounds_toArray, List.set_cons_zero, List.set_cons_succ])
      refine wpAnyH_done (by kernel_rfl) ?_ _
      clear hs hs1
      go_wp2
      go_roundw
      case rel =>
        have hk0' := HK0.out
        have hC := HC.out
        have hul := HU.out
        have hfl := frameOf_length us b X.n hul hbn
        have hcl : ((frameOf us b).take a ++ List.replicate (32 - a) 0).length = 32 := by simp [hfl]; omega
        refine ⟨k + 1, _, by omega, by omega, by go_num, H2.out, HF2.out, ?_, fun j hj h1 h2 => ?_, fun b' hb' hj => ?_⟩
        · rw [splice_length _ _ _ (by rw [hul, hcl]; omega)]
          exact hC.1
        · rw [frame_splice us _ X.n b _ hul hbn (HB.out j hj) hcl]
          by_cases e : j = k
          · subst e
            rw [if_pos (by rw [HBq.out]), HBq.out]
            unfold cleared
            rw [← Ha.out]
            congr 2
            exact hC.2.2 _ (HB.out j hj) (fun j' hj' h3 h4 e => by have := HI.out j' j hj' hj e; omega)
          · rw [if_neg (fun e2 => e (HI.out j k hj hlt (e2.trans HBq.out)))]
            exact hC.2.1 j hj h1 (by omega)
        · rw [frame_splice us _ X.n b b' hul hbn hb' hcl, if_neg (fun e => hj k hlt hk1 (by omega) (by rw [e, HBq.out]))]
          exact hC.2.2 b' hb' (fun j h1 h2 h3 => hj j h1 h2 (by omega))
      case measure => simp [intOf]; omega
    · have hki : ¬ (k : Int) < (nd : Int) := by omega
      have HR : Hid (CL X.n f nd bl ws us) := by
        have hC := HC.out
        rw [HK0.out] at hC hk1
        exact ⟨hC.1, fun j h1 h2 => hC.2.1 j h1 h2 (by omega), fun b h1 h2 => hC.2.2 b h1 (fun j h3 h4 h5 => h2 j h3 h4)⟩
      clear hF hfr
      go_wp2
      go_end0
      exact ⟨rfl, ⟨us, HF.out, HR.out⟩, HFr.out⟩
end
end Go.Proofs.YtcjpahnlckfgoaaGreatDoor

namespace Go.Proofs.YtcjpahnlckfgoaaGreatDoor
open Go.RowKit
set_option linter.unusedVariables false

theorem isDat_yes {n b : Nat} (h1 : 12 ≤ b) (h2 : b < n) : isDat n b = true := by simp [isDat, h1, h2]
theorem isDat_zero (n : Nat) : isDat n 0 = false := by simp [isDat]
section
variable {w w' : World} {X : FX} {F : FS} {vs : List Int} {m i : Nat}
/-- An open file of a file system. -/
structure OpF (w : World) (X : FX) (F : FS) (vs : List Int) (m i : Nat) : Prop where
  fl : FlAt w X vs vs m F.iw F.bw (F.ino i).kind (F.ino i).links ((F.ino i).txt.length : Int) (six (fun j => (F.ino i).blk.getD j 0))
  n : X.n = F.n
  xi : X.i = i
  i32 : i < 32
  hold : Holds vs F
  inv : FInv F
theorem OpF.lacks (h : OpF w X F vs m i) (nd : Nat) (hn : nd ≤ 6) : ∀ k, k < nd → isDat X.n ((six (fun j => (F.ino i).blk.getD j 0)).getD k 0) = decide (k < (F.ino i).blk.length) := by
  intro k hk
  rw [six_get _ (by omega)]
  by_cases q : k < (F.ino i).blk.length
  · rw [decide_eq_true q, List.getD_eq_getElem?_getD, List.getElem?_eq_getElem q]
    have := h.inv.data i h.i32 _ (List.getElem_mem q)
    rw [h.n]
    exact isDat_yes this.1 this.2.1
  · rw [decide_eq_false q, List.getD_eq_getElem?_getD, List.getElem?_eq_none (by omega)]
    exact isDat_zero _
set_option maxHeartbeats 2000000 in
set_option maxRecDepth 100000 in
theorem fresize_no (h : OpF w X F vs m i) (s : Nat) (hs : s ≤ 192) (hr : roomB F i s = false) :
    Calls Tryz.prog 61 #[ptr X.bf, .int .i64 (s : Int)] w fun e w' => e = .returned (.int .i64 28) ∧ Below w.heap.size w w' := by
  obtain ⟨nd, hnd⟩ : ∃ k, k = need s := ⟨_, rfl⟩
  have hn6 : nd ≤ 6 := by rw [hnd]; exact need_le hs
  have hd : ((s : Int) + 32 - 1).tdiv 32 = (nd : Int) := by
    rw [Int.tdiv_eq_ediv_of_nonneg (by omega), hnd]
    unfold need
    omega
  have hwn : IntKind.i64.wrap ((nd : Nat) : Int) = (nd : Int) := Bi.wrap_small nd (by omega)
  obtain ⟨c0, c1, c2, c3, c4, c5, c6⟩ := h.fl.c
  have hb := Di.drewN_below (w := w) ⟨1, rfl⟩
  have hL := flacks_at (w := w.drew) (h.fl.below hb) nd (F.ino i).blk.length hn6 (h.lacks nd hn6)
  have HB : Hid (Below w.heap.size w w.drew) := hb
  have HBm : Hid (Bi.BmAt w X.hb X.gb X.n F.bw) := h.fl.bm.bb
  have Hr : Hid (Bi.cntF (Bi.bt F.bw) X.n < nd - (F.ino i).blk.length) := by
    unfold roomB at hr
    have := of_decide_eq_false hr
    rw [h.n, hnd]
    show _ < _
    omega
  clear h c0 c1 c3 c4 c5 c6 hb hnd hr
  go_enter Tryz.func61, Tryz.ntmps61
  go_wp2_with fail
  refine wp_region_held_drew (S := fun w' => w'.cell? ⟨X.bf, 2, none⟩ = some (ptr X.hb)) (by kernel_rfl) c2 (fun hHeld => ?_)
  refine wpAnyH_take (i := 0) (v := ?_) rfl (by kernel_rfl) (by kernel_rfl) (by kernel_rfl) (fun _ _ _ h => h) (Or.inl ⟨by kernel_rfl, ?_⟩) (by assumption) ?_
  rotate_left
  · (intro w hSw; (try dsimp only at hSw); go_simp) <;> with_reducible rfl
  (try simp only [Act.put, List.getElem_toArray, List.getElem_cons_zero, List.setIfInBounds_toArray, List.set_cons_zero, List.set_cons_succ])
  refine wpAnyH_take (i := 1) (v := ?_) rfl (by kernel_rfl) (by kernel_rfl) (by kernel_rfl) (fun _ _ _ h => h) (Or.inl ⟨by kernel_rfl, ?_⟩) (by assumption) ?_
  rotate_left
  · (intro w hSw; (try dsimp only at hSw); go_simp) <;> with_reducible rfl
  (try simp only [Act.put, List.getElem_toArray, List.getElem_cons_zero, List.getElem_cons_succ, List.setIfInBounds_toArray, List.set_cons_zero, List.set_cons_succ])
  refine wpAnyH_take (i := 3) (v := ?_) rfl (by kernel_rfl) (by kernel_rfl) (by kernel_rfl) (fun _ _ _ h => h) (Or.inl ⟨by kernel_rfl, ?_⟩) (by assumption) ?_
  rotate_left
  · (intro w hSw; (try dsimp only at hSw); go_simp) <;> with_reducible rfl
  (try simp only [Act.put, List.getElem_toArray, List.getElem_cons_zero, List.getElem_cons_succ, List.setIfInBounds_toArray, List.set_cons_zero, List.set_cons_succ])
  refine wpAnyH_take (i := 4) (v := ?_) rfl (by kernel_rfl) (by kernel_rfl) (by kernel_rfl) (fun _ _ _ h => h) (Or.inl ⟨by kernel_rfl, ?_⟩) (by assumption) ?_
  rotate_left
  · (intro w hSw; (try dsimp only at hSw); go_simp) <;> with_reducible rfl
  (try simp only [Act.put, List.getElem_toArray, List.getElem_cons_zero, List.getElem_cons_succ, List.setIfInBounds_toArray, List.set_cons_zero, List.set_cons_succ])
  refine wpAnyH_take (i := 5) (v := ?_) rfl (by kernel_rfl) (by kernel_rfl) (by kernel_rfl) (fun _ _ _ h => h) (Or.inl ⟨by kernel_rfl, ?_⟩) (by assumption) ?_
  rotate_left
  · (intro w hSw; (try dsimp only at hSw); go_simp) <;> with_reducible rfl
  (try simp only [Act.put, List.getElem_toArray, List.getElem_cons_zero, List.getElem_cons_succ, List.setIfInBounds_toArray, List.set_cons_zero, List.set_cons_succ])
  refine wpAnyH_take (i := 6) (v := ?_) rfl (by kernel_rfl) (by kernel_rfl) (by kernel_rfl) (fun _ _ _ h => h) (Or.inl ⟨by kernel_rfl, ?_⟩) (by assumption) ?_
  rotate_left
  · (intro w hSw; (try dsimp only at hSw); go_simp) <;> with_reducible rfl
  (try simp only [Act.put, List.getElem_toArray, List.getElem_cons_zero, List.getElem_cons_succ, List.setIfInBounds_toArray, List.set_cons_zero, List.set_cons_succ])
  refine wpAnyH_take (i := 7) (v := ?_) rfl (by kernel_rfl) (by kernel_rfl) (by kernel_rfl) (fun _ _ _ h => h) (Or.inl ⟨by kernel_rfl, ?_⟩) (by assumption) ?_
  rotate_left
  · (intro w hSw; (try dsimp only at hSw); go_simp) <;> with_reducible rfl
  (try simp only [Act.put, List.getElem_toArray, List.getElem_cons_zero, List.getElem_cons_succ, List.setIfInBounds_toArray, List.set_cons_zero, List.set_cons_succ])
  refine wpAnyH_ready (rs := [2]) (by kernel_rfl) (by simp) ?_
  refine AllReadyH.cons rfl (fun K hK => ?_) AllReadyH.nil
  go_simp
  refine hL.mono ?_
  rintro e w1 ⟨rfl, hb1⟩
  have HB1 : Hid (Below w.heap.size w w1) := HB.out.trans (hb1.mono HB.out.size)
  have c21 : w1.cell? ⟨X.bf, 2, none⟩ = some (ptr X.hb) := (HB1.out.cell (cell_lt c2)).trans c2
  have hLf := Bi.left_at X.hb X.gb X.n F.bw w1 (HBm.out.below HB1.out)
  obtain ⟨p, hp⟩ : ∃ p, p = nd - (F.ino i).blk.length := ⟨_, rfl⟩
  obtain ⟨cn, hcn⟩ : ∃ c, c = Bi.cntF (Bi.bt F.bw) X.n := ⟨_, rfl⟩
  rw [← hp, ← hcn] at Hr
  rw [← hcn] at hLf
  rw [← hp]
  have hlt : (cn : Int) < (p : Int) := by have := Hr.out; omega
  clear hL hb1 hp hcn
  refine hK.out _ _ c21 (fun hHeld => ?_)
  clear hK K
  (try simp only [Act.put, List.getElem_toArray, List.getElem_cons_zero, List.getElem_cons_succ, List.setIfInBounds_toArray, List.set_cons_zero, List.set_cons_succ])
  refine wpAnyH_ready (rs := [8]) (by kernel_rfl) (by simp) ?_
  refine AllReadyH.cons rfl (fun K hK => ?_) AllReadyH.nil
  go_simp
  refine hLf.mono ?_
  rintro e w2 ⟨rfl, q2, hw2⟩
  have hb2 := Di.drewN_below ⟨q2, hw2⟩
  have HB2 : Hid (Below w.heap.size w w2) := HB1.out.trans (hb2.mono HB1.out.size)
  have c22 : w2.cell? ⟨X.bf, 2, none⟩ = some (ptr X.hb) := (hb2.cell (cell_lt c21)).trans c21
  clear hLf hw2 hb2
  refine hK.out _ _ c22 (fun hHeld => ?_)
  clear hK K
  (try simp only [Act.put, List.getElem_toArray, List.getElem_cons_zero, List.getElem_cons_succ, List.setIfInBounds_toArray, List.set_cons_zero, List.set_cons_succ])
  refine wpAnyH_take (i := 9) (v := ?_) rfl (by kernel_rfl) (by kernel_rfl) (by kernel_rfl) (fun _ _ _ h => h) (Or.inl ⟨by kernel_rfl, ?_⟩) (by assumption) ?_
  rotate_left
  · (intro w hSw; (try dsimp only at hSw); go_simp) <;> with_reducible rfl
  (try simp only [Act.put, List.getElem_toArray, List.getElem_cons_zero, List.getElem_cons_succ, List.setIfInBounds_toArray, List.set_cons_zero, List.set_cons_succ])
  refine wpAnyH_done (by kernel_rfl) ?_ _
  clear c2 c21 c22
  go_wp2
  go_ret
  exact ⟨rfl, HB2.out⟩

set_option maxHeartbeats 4000000 in
set_option maxRecDepth 100000 in
theorem fresize_yes (h : OpF w X F vs m i) (hm : m ≤ 900000000000) (hu : Bi.bt F.iw i = true) (s : Nat) (hs : s ≤ 192) (hr : roomB F i s = true) :
    Calls Tryz.prog 61 #[ptr X.bf, .int .i64 (s : Int)] w fun e w' => e = .returned (.int .i64 0) ∧ (∃ us, FlAt w' X vs us m F.iw (newBw F i s) (F.ino i).kind (F.ino i).links (s : Int) (six (fun j => (newBlk F i s).getD j 0)) ∧ RZ F i s vs us) ∧ Fr X w w' := by
  obtain ⟨nd, hnd⟩ : ∃ k, k = need s := ⟨_, rfl⟩
  have hn6 : nd ≤ 6 := by rw [hnd]; exact need_le hs
  have hd : ((s : Int) + 32 - 1).tdiv 32 = (nd : Int) := by
    rw [Int.tdiv_eq_ediv_of_nonneg (by omega), hnd]
    unfold need
    omega
  have hwn : IntKind.i64.wrap ((nd : Nat) : Int) = (nd : Int) := Bi.wrap_small nd (by omega)
  obtain ⟨c0, c1, c2, c3, c4, c5, c6⟩ := h.fl.c
  have hb := Di.drewN_below (w := w) ⟨1, rfl⟩
  have hL := flacks_at (w := w.drew) (h.fl.below hb) nd (F.ino i).blk.length hn6 (h.lacks nd hn6)
  have HB : Hid (Below w.heap.size w w.drew) := hb
  have HBm : Hid (Bi.BmAt w X.hb X.gb X.n F.bw) := h.fl.bm.bb
  have Hroom : Hid (nd - (F.ino i).blk.length ≤ Bi.cntF (Bi.bt F.bw) F.n) := by rw [hnd]; show _ ≤ _; exact of_decide_eq_true hr
  have Hr : Hid (nd - (F.ino i).blk.length ≤ Bi.cntF (Bi.bt F.bw) X.n) := by rw [h.n]; exact Hroom.out
  have HO : Hid (OpF w X F vs m i) := h
  have HRm : Hid (roomB F i s = true) := hr
  have HU : Hid (Bi.bt F.iw i = true) := hu
  have HNd : Hid (nd = need s) := hnd
  have HL6 : Hid ((F.ino i).blk.length ≤ 6) := h.inv.six h.i32
  have HXn : Hid (X.n = F.n) := h.n
  clear h c0 c1 c3 c4 c5 c6 hb hnd hr hu
  go_enter Tryz.func61, Tryz.ntmps61
  go_wp2_with fail
  refine wp_region_held_drew (S := fun w' => w'.cell? ⟨X.bf, 2, none⟩ = some (ptr X.hb)) (by kernel_rfl) c2 (fun hHeld => ?_)
  refine wpAnyH_take (i := 0) (v := ?_) rfl (by kernel_rfl) (by kernel_rfl) (by kernel_rfl) (fun _ _ _ h => h) (Or.inl ⟨by kernel_rfl, ?_⟩) (by assumption) ?_
  rotate_left
  · (intro w hSw; (try dsimp only at hSw); go_simp) <;> with_reducible rfl
  (try simp only [Act.put, List.getElem_toArray, List.getElem_cons_zero, List.setIfInBounds_toArray, List.set_cons_zero, List.set_cons_succ])
  refine wpAnyH_take (i := 1) (v := ?_) rfl (by kernel_rfl) (by kernel_rfl) (by kernel_rfl) (fun _ _ _ h => h) (Or.inl ⟨by kernel_rfl, ?_⟩) (by assumption) ?_
  rotate_left
  · (intro w hSw; (try dsimp only at hSw); go_simp) <;> with_reducible rfl
  (try simp only [Act.put, List.getElem_toArray, List.getElem_cons_zero, List.getElem_cons_succ, List.setIfInBounds_toArray, List.set_cons_zero, List.set_cons_succ])
  refine wpAnyH_take (i := 3) (v := ?_) rfl (by kernel_rfl) (by kernel_rfl) (by kernel_rfl) (fun _ _ _ h => h) (Or.inl ⟨by kernel_rfl, ?_⟩) (by assumption) ?_
  rotate_left
  · (intro w hSw; (try dsimp only at hSw); go_simp) <;> with_reducible rfl
  (try simp only [Act.put, List.getElem_toArray, List.getElem_cons_zero, List.getElem_cons_succ, List.setIfInBounds_toArray, List.set_cons_zero, List.set_cons_succ])
  refine wpAnyH_take (i := 4) (v := ?_) rfl (by kernel_rfl) (by kernel_rfl) (by kernel_rfl) (fun _ _ _ h => h) (Or.inl ⟨by kernel_rfl, ?_⟩) (by assumption) ?_
  rotate_left
  · (intro w hSw; (try dsimp only at hSw); go_simp) <;> with_reducible rfl
  (try simp only [Act.put, List.getElem_toArray, List.getElem_cons_zero, List.getElem_cons_succ, List.setIfInBounds_toArray, List.set_cons_zero, List.set_cons_succ])
  refine wpAnyH_take (i := 5) (v := ?_) rfl (by kernel_rfl) (by kernel_rfl) (by kernel_rfl) (fun _ _ _ h => h) (Or.inl ⟨by kernel_rfl, ?_⟩) (by assumption) ?_
  rotate_left
  · (intro w hSw; (try dsimp only at hSw); go_simp) <;> with_reducible rfl
  (try simp only [Act.put, List.getElem_toArray, List.getElem_cons_zero, List.getElem_cons_succ, List.setIfInBounds_toArray, List.set_cons_zero, List.set_cons_succ])
  refine wpAnyH_take (i := 6) (v := ?_) rfl (by kernel_rfl) (by kernel_rfl) (by kernel_rfl) (fun _ _ _ h => h) (Or.inl ⟨by kernel_rfl, ?_⟩) (by assumption) ?_
  rotate_left
  · (intro w hSw; (try dsimp only at hSw); go_simp) <;> with_reducible rfl
  (try simp only [Act.put, List.getElem_toArray, List.getElem_cons_zero, List.getElem_cons_succ, List.setIfInBounds_toArray, List.set_cons_zero, List.set_cons_succ])
  refine wpAnyH_take (i := 7) (v := ?_) rfl (by kernel_rfl) (by kernel_rfl) (by kernel_rfl) (fun _ _ _ h => h) (Or.inl ⟨by kernel_rfl, ?_⟩) (by assumption) ?_
  rotate_left
  · (intro w hSw; (try dsimp only at hSw); go_simp) <;> with_reducible rfl
  (try simp only [Act.put, List.getElem_toArray, List.getElem_cons_zero, List.getElem_cons_succ, List.setIfInBounds_toArray, List.set_cons_zero, List.set_cons_succ])
  refine wpAnyH_ready (rs := [2]) (by kernel_rfl) (by simp) ?_
  refine AllReadyH.cons rfl (fun K hK => ?_) AllReadyH.nil
  go_simp
  refine hL.mono ?_
  rintro e w1 ⟨rfl, hb1⟩
  have HB1 : Hid (Below w.heap.size w w1) := HB.out.trans (hb1.mono HB.out.size)
  have c21 : w1.cell? ⟨X.bf, 2, none⟩ = some (ptr X.hb) := (HB1.out.cell (cell_lt c2)).trans c2
  have hLf := Bi.left_at X.hb X.gb X.n F.bw w1 (HBm.out.below HB1.out)
  obtain ⟨p, hp⟩ : ∃ p, p = nd - (F.ino i).blk.length := ⟨_, rfl⟩
  obtain ⟨cn, hcn⟩ : ∃ c, c = Bi.cntF (Bi.bt F.bw) X.n := ⟨_, rfl⟩
  rw [← hp, ← hcn] at Hr
  rw [← hcn] at hLf
  rw [← hp]
  have hlt : ¬ (cn : Int) < (p : Int) := by have := Hr.out; omega
  clear hL hb1 hp hcn
  refine hK.out _ _ c21 (fun hHeld => ?_)
  clear hK K
  (try simp only [Act.put, List.getElem_toArray, List.getElem_cons_zero, List.getElem_cons_succ, List.setIfInBounds_toArray, List.set_cons_zero, List.set_cons_succ])
  refine wpAnyH_ready (rs := [8]) (by kernel_rfl) (by simp) ?_
  refine AllReadyH.cons rfl (fun K hK => ?_) AllReadyH.nil
  go_simp
  refine hLf.mono ?_
  rintro e w2 ⟨rfl, q2, hw2⟩
  have hb2 := Di.drewN_below ⟨q2, hw2⟩
  have HB2 : Hid (Below w.heap.size w w2) := HB1.out.trans (hb2.mono HB1.out.size)
  have c22 : w2.cell? ⟨X.bf, 2, none⟩ = some (ptr X.hb) := (hb2.cell (cell_lt c21)).trans c21
  clear hLf hw2 hb2
  refine hK.out _ _ c22 (fun hHeld => ?_)
  clear hK K
  (try simp only [Act.put, List.getElem_toArray, List.getElem_cons_zero, List.getElem_cons_succ, List.setIfInBounds_toArray, List.set_cons_zero, List.set_cons_succ])
  refine wpAnyH_take (i := 9) (v := ?_) rfl (by kernel_rfl) (by kernel_rfl) (by kernel_rfl) (fun _ _ _ h => h) (Or.inl ⟨by kernel_rfl, ?_⟩) (by assumption) ?_
  rotate_left
  · (intro w hSw; (try dsimp only at hSw); go_simp) <;> with_reducible rfl
  (try simp only [Act.put, List.getElem_toArray, List.getElem_cons_zero, List.getElem_cons_succ, List.setIfInBounds_toArray, List.set_cons_zero, List.set_cons_succ])
  refine wpAnyH_done (by kernel_rfl) ?_ _
  clear c2 c21 c22 Hr
  go_wp2
  have HF0 : Hid (FlAt w2 X vs vs m F.iw F.bw (F.ino i).kind (F.ino i).links ((F.ino i).txt.length : Int) (six (fun j => (F.ino i).blk.getD j 0))) := HO.out.fl.below HB2.out
  go_loopw [21] (fun z wr => ∃ (k : Nat) (us : List Int) (bl bw' Z : List Nat), k ≤ 6 ∧ z = .int .i64 k ∧ FlAt wr X vs us m F.iw bw' (F.ino i).kind (F.ino i).links ((F.ino i).txt.length : Int) bl ∧ Fr X w wr ∧ Hid (RS F.n (F.ino i).blk F.bw nd k bl bw' Z ∧ ZW F.n vs Z us)) (fun z _ => 6 - (intOf z).toNat)
  case atStart => exact ⟨0, vs, _, _, [], by omega, rfl, HF0.out, SU.of_below HB2.out, RS.start _ _ _ _, ZW.refl _ _⟩
  case round =>
    clear HF0 HB2 HB1 HB HBm
    obtain ⟨k, us, bl, bw', Z, hk, rfl, hF, hfr, HR⟩ := hrel
    have HF : Hid (FlAt wr X vs us m F.iw bw' (F.ino i).kind (F.ino i).links ((F.ino i).txt.length : Int) bl) := hF
    have HFr : Hid (Fr X w wr) := hfr
    have Hg := (grow_ok HO.out.inv.bw (k := nd - (F.ino i).blk.length) Hroom.out)
    have hvl : vs.length = F.n * 32 := HO.out.hold.len
    by_cases hlt6 : k < 6
    · have hki : decide ((k : Int) < 6) = true := by simp; omega
      have hk6 : (k : Int) < 6 := by omega
      by_cases hge : nd ≤ k
      · have hgi : (nd : Int) ≤ (k : Int) := by omega
        by_cases hkl : k < (F.ino i).blk.length
        · obtain ⟨r1, r2⟩ := HR.out.1.drop hge hkl HL6.out
          have hdat := HO.out.inv.data i HO.out.i32 _ (List.getElem_mem hkl)
          have hgk : (F.ino i).blk.getD k 0 = (F.ino i).blk[k] := by rw [List.getD_eq_getElem?_getD, List.getElem?_eq_getElem hkl]; rfl
          rw [← hgk] at hdat
          have hD := fdrop_yes hF hm k _ hlt6 r1 (isDat_yes hdat.1 (by rw [HXn.out]; exact hdat.2.1))
          have HZ2 : Hid (ZW F.n vs (Z ++ [(F.ino i).blk.getD k 0]) (splice us ((F.ino i).blk.getD k 0 * 32) (List.replicate 32 0))) := HR.out.2.snoc hvl hdat.2.1
          have HR2 : Hid _ := r2
          clear hF hfr r1 r2 hdat hgk hkl Hg hvl
          go_wp2_with fail
          refine hD.mono ?_
          rintro e w3 ⟨rfl, h3, f3⟩
          have H3 : Hid _ := h3
          have HF3 : Hid (Fr X w w3) := HFr.out.trans f3
          clear hD h3 f3
          go_wp2
          go_roundw
          case rel => exact ⟨k + 1, _, _, _, _, by omega, by go_num, H3.out, HF3.out, HR2.out, HZ2.out⟩
          case measure => simp [intOf]; omega
        · obtain ⟨r1, r2⟩ := HR.out.1.none hge (by omega) hlt6 Hg.1
          have hD := fdrop_no hF k hlt6 (by rw [r1]; exact isDat_zero _)
          have HR2 : Hid _ := r2
          clear hF hfr r1 r2 hkl Hg hvl
          go_wp2_with fail
          refine hD.mono ?_
          rintro e w3 ⟨rfl, h3, f3⟩
          have H3 : Hid _ := h3
          have HF3 : Hid (Fr X w w3) := HFr.out.trans f3
          clear hD h3 f3
          go_wp2
          go_roundw
          case rel => exact ⟨k + 1, _, _, _, _, by omega, by go_num, H3.out, HF3.out, HR2.out, HR.out.2⟩
          case measure => simp [intOf]; omega
      · have hgi : ¬ (nd : Int) ≤ (k : Int) := by omega
        have hH := fhas_at hF k hlt6
        by_cases hkl : k < (F.ino i).blk.length
        · obtain ⟨r1, r2⟩ := (HR.out.1.keep (by omega) hkl).resolve_right (by omega)
          have hdat := HO.out.inv.data i HO.out.i32 _ (List.getElem_mem hkl)
          have hgk : (F.ino i).blk.getD k 0 = (F.ino i).blk[k] := by rw [List.getD_eq_getElem?_getD, List.getElem?_eq_getElem hkl]; rfl
          rw [← hgk] at hdat
          rw [r2, isDat_yes hdat.1 (by rw [HXn.out]; exact hdat.2.1)] at hH
          have HR2 : Hid _ := r1
          clear hF hfr r1 r2 hdat hgk hkl Hg hvl
          go_wp2_with fail
          refine hH.mono ?_
          rintro e w3 ⟨rfl, hb3⟩
          have H3 : Hid _ := HF.out.below hb3
          have HF3 : Hid (Fr X w w3) := HFr.out.trans (SU.of_below hb3)
          clear hH hb3
          go_wp2
          go_roundw
          case rel => exact ⟨k + 1, _, _, _, _, by omega, by go_num, H3.out, HF3.out, HR2.out, HR.out.2⟩
          case measure => simp [intOf]; omega
        · have Hgk := (grow_ok HO.out.inv.bw (k := k - (F.ino i).blk.length) (by have := Hroom.out; omega))
          obtain ⟨r1, r2, r3⟩ := HR.out.1.take (by omega) (by omega) hn6 Hgk.1
          rw [r1, isDat_zero] at hH
          have hcnt : 0 < Bi.cntF (Bi.bt bw') X.n := by
            rw [r2, HXn.out]
            have := Hgk.2.2.2.2.2
            have := Hroom.out
            omega
          have hlow : lowN (Bi.bt bw') X.n < F.n := by rw [← HXn.out]; exact lowN_lt hcnt
          rw [← HXn.out] at r3
          have HZ2 : Hid (ZW F.n vs (Z ++ [lowN (Bi.bt bw') X.n]) (splice us (lowN (Bi.bt bw') X.n * 32) (List.replicate 32 0))) := HR.out.2.snoc hvl hlow
          have HR2 : Hid _ := r3
          have HCn : Hid (0 < Bi.cntF (Bi.bt bw') X.n) := hcnt
          rw [HXn.out] at HR2
          clear hF hfr r1 r2 r3 hkl Hg hvl Hgk hcnt hlow
          go_wp2_with fail
          refine hH.mono ?_
          rintro e w3 ⟨rfl, hb3⟩
          have h3 := HF.out.below hb3
          have hT := ftake_at h3 hm k hlt6 HCn.out
          have HF3 : Hid (Fr X w w3) := HFr.out.trans (SU.of_below hb3)
          clear hH hb3 h3
          go_wp2_with fail
          refine hT.mono ?_
          rintro e w4 ⟨rfl, h4, f4⟩
          have H4 : Hid _ := h4
          have HF4 : Hid (Fr X w w4) := HF3.out.trans f4
          clear hT h4 f4
          go_wp2
          go_roundw
          case rel =>
            refine ⟨k + 1, _, _, _, _, by omega, by go_num, H4.out, HF4.out, ?_, HZ2.out⟩
            have := HR2.out
            rw [← HXn.out] at this
            rwa [← HXn.out]
          case measure => simp [intOf]; omega
    · have hki : decide ((k : Int) < 6) = false := by simp; omega
      have hk6 : ¬ (k : Int) < 6 := by omega
      have hk0 : k = 6 := by omega
      have hRS := HR.out.1
      rw [hk0] at hRS
      obtain ⟨r1, r2, r3⟩ := hRS.done hn6 HL6.out
      have hnb : newBlk F i s = (F.ino i).blk.take nd ++ (grow F.n F.bw (nd - (F.ino i).blk.length)).1 := by rw [HNd.out]; rfl
      have hnw : newBw F i s = back (grow F.n F.bw (nd - (F.ino i).blk.length)).2 ((F.ino i).blk.drop nd) := by rw [HNd.out]; rfl
      rw [← hnb] at r1
      rw [← hnw] at r2
      subst r1
      subst r2
      have hG := HO.out.inv.resize HO.out.i32 HU.out hs HRm.out
      have hok := hG.ok HO.out.i32
      have e0 : (resizeF F i s).ino i = ⟨(F.ino i).kind, (F.ino i).links, sized (F.ino i).txt s, newBlk F i s⟩ := FS.put_same _ _ _ _
      rw [e0] at hok
      have hnl := newBlk_len HO.out.inv HO.out.i32 HRm.out
      rw [← HNd.out] at hnl
      obtain ⟨f, hfq⟩ : ∃ f, f = min s (F.ino i).txt.length := ⟨_, rfl⟩
      have hgt : ∀ j, j < nd → ∃ b, (newBlk F i s)[j]? = some b ∧ (six (fun j => (newBlk F i s).getD j 0)).getD j 0 = b := fun j hj => by
        have hj2 : j < (newBlk F i s).length := by omega
        refine ⟨(newBlk F i s)[j], List.getElem?_eq_getElem hj2, ?_⟩
        rw [six_get _ (by omega), List.getD_eq_getElem?_getD, List.getElem?_eq_getElem hj2]
        rfl
      have hC := fclear_at hF hm f nd (by omega) hn6 (fun j hj => by
        obtain ⟨b, h1, h2⟩ := hgt j hj
        rw [h2, HXn.out]
        exact (hok.data b (List.mem_of_getElem? h1)).2.1) (fun j j' hj hj' e => by
        obtain ⟨b, h1, h2⟩ := hgt j hj
        obtain ⟨b', h1', h2'⟩ := hgt j' hj'
        rw [h2, h2'] at e
        subst e
        exact (List.getElem?_inj (List.getElem?_eq_some_iff.1 h1).1 hok.nd).1 (h1.trans h1'.symm))
      obtain ⟨c0, c1, c2, c3, c4, c5, c6⟩ := hF.c
      obtain ⟨sz, hszq⟩ : ∃ z, z = (F.ino i).txt.length := ⟨_, rfl⟩
      have hmn : min (s : Int) (sz : Int) = (f : Int) := by omega
      rw [← hszq] at c6
      have HZs : Hid (∀ b, b ∈ Z ↔ (b ∈ (grow F.n F.bw (need s - (F.ino i).blk.length)).1 ∨ b ∈ (F.ino i).blk.drop (need s))) := by rw [← HNd.out]; exact r3
      have HFq : Hid (f = min s (F.ino i).txt.length) := hfq
      clear hfr hk0 hRS r3 hnb hnw hG hok e0 hnl hgt hF c0 c1 c2 c3 c4 c5 hfq hszq Hg hvl
      go_wp2_with fail
      refine hC.mono ?_
      rintro e w3 ⟨rfl, ⟨u3, h3, hcl⟩, f3⟩
      obtain ⟨d0, d1, d2, d3, d4, d5, d6⟩ := h3.c
      have fz := h3.free 6
      obtain ⟨h4, f4⟩ := h3.sets (s := (s : Int))
      have H4 : Hid _ := h4
      have HF4 : Hid (Fr X w (w3.setCell ⟨X.bf, 6, none⟩ (.int .i64 (s : Int)))) := (HFr.out.trans f3).trans f4
      have HRZ : Hid (RZ F i s vs u3) := by
        rw [HXn.out, HFq.out, HNd.out] at hcl
        exact rz_of HO.out.inv HO.out.hold HO.out.i32 HU.out hs HRm.out HZs.out HR.out.2 hcl
      clear hC h3 hcl f3 h4 f4 d0 d1 d2 d3 d4 d5 c6
      generalize (F.ino i).txt.length = sz' at *
      go_wp2
      go_ret
      exact ⟨rfl, ⟨u3, H4.out, HRZ.out⟩, HF4.out⟩
end
end Go.Proofs.YtcjpahnlckfgoaaGreatDoor
