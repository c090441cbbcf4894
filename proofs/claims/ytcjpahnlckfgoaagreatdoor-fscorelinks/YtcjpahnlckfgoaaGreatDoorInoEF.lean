/- Package inode: a draft is laid: lay. -/
/- Package inode: the head of a file system: headOf, head, words, setHead, newHead, isData, isInode. -/
import Derived.Test.YtcjpahnlckfgoaaGreatDoorInoC
import Derived.BigQuiet
import Derived.Deep.QuietTactic
namespace Go.Proofs.YtcjpahnlckfgoaaGreatDoor
open Go.RowKit
set_option linter.unusedVariables false

theorem frames_ext {n : Nat} {us ws : List Int} (hu : us.length = n * 32) (hw : ws.length = n * 32) (h : ∀ b, b < n → frameOf us b = frameOf ws b) : us = ws := by
  refine list_ext_getD _ _ (hu.trans hw.symm) fun i hi => ?_
  have hb : i / 32 < n := by omega
  have e := congrArg (fun l => l.getD (i % 32) 0) (h _ hb)
  simp only [frameOf_getD _ _ _ (Nat.mod_lt i (show 0 < 32 by omega))] at e
  rw [show i / 32 * 32 + i % 32 = i by omega] at e
  exact e
section
variable {w w' : World} {base bd n m : Nat} {B : Sto} {vs ws : List Int}
set_option maxHeartbeats 2000000 in
set_option maxRecDepth 100000 in
theorem dlay_at (h : Dr w base bd B n vs ws m) (hm : m ≤ 900000000000) :
    Calls Tryz.prog 54 #[ptr bd] w fun e w' => e = .returned (.int .i64 0) ∧ Dk w' B n ws (m + 2048) ∧ ST B.lo w w' := by
  obtain ⟨sv, S, h⟩ := h
  have HH : Hid (DrAt w base bd B n vs ws m sv S) := h
  obtain ⟨a, cap, rfl⟩ := own_slice h.own
  have c1 : w.cell? ⟨bd, 1, none⟩ = some (.slice a S.length cap) := by rw [cell_of_heap h.head]; rfl
  have c2 : w.cell? ⟨bd, 2, none⟩ = some (.int .i64 0) := by rw [cell_of_heap h.head]; rfl
  have hle := h.few
  have hnn := h.nn
  have hd := h.disk
  have HD : Hid (Dk w B n vs (m + S.length)) := hd
  have HS : Hid (∀ k, k < S.length → ∃ g q0 q, S[k]? = some (q0, q) ∧ a = some ⟨g, 0, none⟩ ∧ ¬ IsSt w g ∧ w.cell? ⟨g, k, none⟩ = some (ptr q)) := by
    intro k hk
    rcases h.own.2 with ⟨_, e⟩ | ⟨g, cap', cur, e2, hg, hh, hc, _, hcs, ht⟩
    · omega
    · simp only [Value.slice.injEq] at e2
      obtain ⟨e2, -, -⟩ := e2
      have hp := List.getElem?_eq_getElem hk
      refine ⟨g, S[k].1, S[k].2, hp, e2, not_isSt hh (by decide), ?_⟩
      rw [cell_of_heap hh]
      have e1 : (cur.toList.take (S.length * 1))[k]? = (S.map (fun p => ptr p.2))[k]? := by rw [ht]
      rw [List.getElem?_take_of_lt (by omega), List.getElem?_map, hp] at e1
      simpa using e1
  clear h hd
  obtain ⟨L, hL⟩ : ∃ L, L = S.length := ⟨_, rfl⟩
  have HL : Hid (L = S.length) := hL
  rw [← hL] at c1 hle HS HD
  clear hL
  go_enter Tryz.func54, Tryz.ntmps54
  go_wp2
  go_loopw [20] (fun s wr => ∃ (k : Nat) (us : List Int), k ≤ L ∧ s = .int .i64 k ∧ Dk wr B n us (m + L + k) ∧ ST B.lo w wr ∧ Hid (∀ b, b < n → frameOf us b = if b ∈ (S.take k).map (fun p => p.1) then frameOf ws b else frameOf vs b)) (fun s _ => L - (intOf s).toNat)
  case atStart => exact ⟨0, vs, by omega, rfl, HD.out, SU.refl _ _ _, fun b _ => by simp⟩
  case round =>
    obtain ⟨k, us, hk, rfl, hd, hu, HF⟩ := hrel
    have HU : Hid (ST B.lo w wr) := hu
    by_cases hlt : k < L
    · have hki : (k : Int) < (L : Int) := by omega
      obtain ⟨g, q0, q, hp, rfl, hgS, d0⟩ := HS.out k hlt
      have hmem := List.mem_of_getElem? hp
      obtain ⟨hbq, hq0, A, hA, hq⟩ := HH.out.sh _ hmem
      dsimp only at hbq hq0 hq
      have hq' : wr.heap[q]? = some (.cells (shRow q0 A (urow (frameOf ws q0))) 170) := hu.other hq (by decide)
      have hbd' : wr.heap[bd]? = w.heap[bd]? := hu.same HH.out.head (by decide)
      have e0 : wr.cell? ⟨bd, 0, none⟩ = some (sto B) := by rw [cell_of_heap (hbd'.trans HH.out.head)]; rfl
      have e1 : wr.cell? ⟨g, k, none⟩ = some (ptr q) := (World.cell?_of_block (hu.block g (cell_lt d0) (Or.inr hgS) id)).trans d0
      have e2 : wr.cell? ⟨q, 0, none⟩ = some (.int .i64 (q0 : Int)) := by rw [cell_of_heap hq']; exact shRow_0 _ _ _
      have HLw : Hid _ := frameOf_length ws q0 n HH.out.len hq0
      have e3 : wr.rangeAt q 33 (uvs (frameOf ws q0)) := by
        intro j v hv
        rw [cell_of_heap hq', shRow_now hA, urow]
        simpa [uvs] using hv
      obtain ⟨Rl, hRl⟩ : ∃ R, R = uvs (frameOf ws q0) := ⟨_, rfl⟩
      have HRl : Hid (Rl.length = 32) := by show _ = _; rw [hRl, uvs_len]; exact HLw.out
      have hput : Calls Tryz.prog 115 #[sto B, .int .i64 q0, .agg Rl.toArray] wr.drew fun e w' => e = .returned (.int .i64 0) ∧ Dk w' B n (splice us (q0 * 32) (frameOf ws q0)) (m + L + k + 1) ∧ ST B.lo wr.drew w' := by
        rw [hRl]
        exact iput_at (w := wr.drew) hd.drew q0 hq0 (by omega) (frameOf ws q0) HLw.out
      rw [← hRl] at e3
      have HP : Hid (S[k]? = some (q0, q)) := hp
      have hs0 : wr.cell? ⟨bd, 0, none⟩ = some (sto B) ∧ wr.cell? ⟨q, 0, none⟩ = some (.int .i64 (q0 : Int)) ∧ wr.rangeAt q 33 Rl := ⟨e0, e2, e3⟩
      have HKq : Hid (wr.heap[q]? = some (.cells (shRow q0 A (urow (frameOf ws q0))) 170) ∧ wr.heap[bd]? = w.heap[bd]?) := ⟨hq', hbd'⟩
      have HDl : Hid (us.length = n * 32) := hd.len
      have HDq : Hid (q0 < n) := hq0
      clear hp hmem hbq hq0 hA hq hq' hbd' hu hd e3 hRl d0 hgS HS
      go_wp2_with fail
      refine wp_region_held_drew (S := fun w' => w'.cell? ⟨bd, 0, none⟩ = some (sto B) ∧ w'.cell? ⟨q, 0, none⟩ = some (.int .i64 (q0 : Int)) ∧ w'.rangeAt q 33 Rl) (by kernel_rfl) hs0 (fun hHeld => ?_)
      refine wpAnyH_take (i := 0) (v := ?_) rfl (by kernel_rfl) (by kernel_rfl) (by kernel_rfl) (fun _ _ _ h => h) (Or.inl ⟨by kernel_rfl, ?_⟩) (by assumption) ?_
      rotate_left
      · (intro w hSw; (try dsimp only at hSw); go_simp) <;> with_reducible rfl
      (try simp only [Act.put, List.getElem_toArray, List.getElem_cons_zero, List.setIfInBounds_toArray, List.set_cons_zero, List.set_cons_succ])
      refine wpAnyH_take (i := 1) (v := ?_) rfl (by kernel_rfl) (by kernel_rfl) (by kernel_rfl) (fun _ _ _ h => h) (Or.inl ⟨by kernel_rfl, ?_⟩) (by assumption) ?_
      rotate_left
      · (intro w hSw; (try dsimp only at hSw); go_simp) <;> with_reducible rfl
      (try simp only [Act.put, List.getElem_toArray, List.getElem_cons_zero, List.getElem_cons_succ, List.setIfInBounds_toArray, List.set_cons_zero, List.set_cons_succ])
      refine wpAnyH_take (i := 2) (v := ?_) rfl (by kernel_rfl) (by kernel_rfl) (by kernel_rfl) (fun _ _ _ h => h) (Or.inl ⟨by kernel_rfl, ?_⟩) (by assumption) ?_
      rotate_left
      · (intro w hSw; (try dsimp only at hSw); go_simp) <;> with_reducible rfl
      (try simp only [Act.put, List.getElem_toArray, List.getElem_cons_zero, List.getElem_cons_succ, List.setIfInBounds_toArray, List.set_cons_zero, List.set_cons_succ])
      refine wpAnyH_take (i := 3) (v := ?_) rfl (by kernel_rfl) (by kernel_rfl) (by kernel_rfl) (fun _ _ _ h => h) (Or.inl ⟨by kernel_rfl, ?_⟩) (by assumption) ?_
      rotate_left
      · (intro w hSw; (try dsimp only at hSw); go_simp) <;> with_reducible rfl
      (try simp only [Act.put, List.getElem_toArray, List.getElem_cons_zero, List.getElem_cons_succ, List.setIfInBounds_toArray, List.set_cons_zero, List.set_cons_succ])
      refine wpAnyH_take (i := 4) (v := ?_) rfl (by kernel_rfl) (by kernel_rfl) (by kernel_rfl) (fun _ _ _ h => h) (Or.inl ⟨by kernel_rfl, ?_⟩) (by assumption) ?_
      rotate_left
      · (intro w hSw; (try dsimp only at hSw); go_simp) <;> with_reducible rfl
      (try simp only [Act.put, List.getElem_toArray, List.getElem_cons_zero, List.getElem_cons_succ, List.setIfInBounds_toArray, List.set_cons_zero, List.set_cons_succ])
      refine wpAnyH_take (i := 5) (v := ?_) rfl (by kernel_rfl) (by kernel_rfl) (by kernel_rfl) (fun _ _ _ h => h) (Or.inl ⟨by kernel_rfl, ?_⟩) (by assumption) ?_
      rotate_left
      · (intro w hSw; (try dsimp only at hSw); go_simp) <;> with_reducible rfl
      (try simp only [Act.put, List.getElem_toArray, List.getElem_cons_zero, List.getElem_cons_succ, List.setIfInBounds_toArray, List.set_cons_zero, List.set_cons_succ])
      refine wpAnyH_take (i := 6) (v := ?_) rfl (by kernel_rfl) (by kernel_rfl) (by kernel_rfl) (fun _ _ _ h => h) (Or.inl ⟨by kernel_rfl, ?_⟩) (by assumption) ?_
      rotate_left
      · (intro w hSw; (try dsimp only at hSw); go_simp) <;> with_reducible rfl
      (try simp only [Act.put, List.getElem_toArray, List.getElem_cons_zero, List.getElem_cons_succ, List.setIfInBounds_toArray, List.set_cons_zero, List.set_cons_succ])
      refine wpAnyH_take (i := 7) (v := ?_) rfl (by kernel_rfl) (by kernel_rfl) (by kernel_rfl) (fun _ _ _ h => h) (Or.inl ⟨by kernel_rfl, ?_⟩) (by assumption) ?_
      rotate_left
      · (intro w hSw; (try dsimp only at hSw); go_simp) <;> with_reducible rfl
      (try simp only [Act.put, List.getElem_toArray, List.getElem_cons_zero, List.getElem_cons_succ, List.setIfInBounds_toArray, List.set_cons_zero, List.set_cons_succ])
      refine wpAnyH_take (i := 8) (v := ?_) rfl (by kernel_rfl) (by kernel_rfl) (by kernel_rfl) (fun _ _ _ h => h) (Or.inl ⟨by kernel_rfl, ?_⟩) (by assumption) ?_
      rotate_left
      · (intro w hSw; (try dsimp only at hSw); go_simp) <;> with_reducible rfl
      (try simp only [Act.put, List.getElem_toArray, List.getElem_cons_zero, List.getElem_cons_succ, List.setIfInBounds_toArray, List.set_cons_zero, List.set_cons_succ])
      refine wpAnyH_take (i := 9) (v := ?_) rfl (by kernel_rfl) (by kernel_rfl) (by kernel_rfl) (fun _ _ _ h => h) (Or.inl ⟨by kernel_rfl, ?_⟩) (by assumption) ?_
      rotate_left
      · (intro w hSw; (try dsimp only at hSw); go_simp) <;> with_reducible rfl
      (try simp only [Act.put, List.getElem_toArray, List.getElem_cons_zero, List.getElem_cons_succ, List.setIfInBounds_toArray, List.set_cons_zero, List.set_cons_succ])
      refine wpAnyH_take (i := 10) (v := ?_) rfl (by kernel_rfl) (by kernel_rfl) (by kernel_rfl) (fun _ _ _ h => h) (Or.inl ⟨by kernel_rfl, ?_⟩) (by assumption) ?_
      rotate_left
      · (intro w hSw; (try dsimp only at hSw); go_simp) <;> with_reducible rfl
      (try simp only [Act.put, List.getElem_toArray, List.getElem_cons_zero, List.getElem_cons_succ, List.setIfInBounds_toArray, List.set_cons_zero, List.set_cons_succ])
      refine wpAnyH_take (i := 11) (v := .agg (Rl).toArray) rfl (by kernel_rfl) (by kernel_rfl) (by kernel_rfl) (fun _ _ _ h => h) (yieldsIf_load_mid (by kernel_rfl) 105 _ rfl q 33 rfl (Rl) _ (fun w h => h.2.2) Tryz.underlying105 rfl (by rw [HRl.out]; exact contSize)) (by assumption) ?_
      (try simp only [Act.put, List.getElem_toArray, List.getElem_cons_zero, List.getElem_cons_succ, List.setIfInBounds_toArray, List.set_cons_zero, List.set_cons_succ])
      refine wpAnyH_ready (rs := [12]) (by kernel_rfl) (by simp) ?_
      refine AllReadyH.cons rfl (fun K hK => ?_) AllReadyH.nil
      go_simp
      refine hput.mono ?_
      rintro e w1 ⟨rfl, hd1, hu1⟩
      have HD1 : Hid (Dk w1 B n (splice us (q0 * 32) (frameOf ws q0)) (m + L + k + 1)) := hd1
      have hu2 : ST B.lo wr w1 := ⟨hu1.os, hu1.tape, hu1.output, hu1.size, hu1.block⟩
      have HU1 : Hid (ST B.lo w w1) := HU.out.trans hu2
      have hs1 : w1.cell? ⟨bd, 0, none⟩ = some (sto B) ∧ w1.cell? ⟨q, 0, none⟩ = some (.int .i64 (q0 : Int)) ∧ w1.rangeAt q 33 Rl := by
        have hk1 := HKq.out
        have b1 := hu2.same (hk1.2.trans HH.out.head) (by decide)
        have b2 := hu2.same hk1.1 (by decide)
        refine ⟨(World.cell?_of_block b1).trans hs0.1, (World.cell?_of_block b2).trans hs0.2.1, fun j v hv => (World.cell?_of_block b2).trans (hs0.2.2 j v hv)⟩
      clear hd1 hu1 hu2 hput
      refine hK.out _ _ hs1 (fun hHeld => ?_)
      clear hK K
      (try simp only [Act.put, List.getElem_toArray, List.getElem_cons_zero, List.getElem_cons_succ, List.setIfInBounds_toArray, List.set_cons_zero, List.set_cons_succ])
      refine wpAnyH_take (i := 13) (v := ?_) rfl (by kernel_rfl) (by kernel_rfl) (by kernel_rfl) (fun _ _ _ h => h) (Or.inl ⟨by kernel_rfl, ?_⟩) (by assumption) ?_
      rotate_left
      · (intro w hSw; (try dsimp only at hSw); go_simp) <;> with_reducible rfl
      (try simp only [Act.put, List.getElem_toArray, List.getElem_cons_zero, List.getElem_cons_succ, List.setIfInBounds_toArray, List.set_cons_zero, List.set_cons_succ])
      refine wpAnyH_done (by kernel_rfl) ?_ _
      clear hs0 hs1 e0 e2
      go_wp2
      go_roundw
      case rel =>
        refine ⟨k + 1, _, by omega, by go_num, HD1.out, HU1.out, fun b hb => ?_⟩
        have hP : S[k]? = some (q0, q) := HP.out
        rw [frame_splice us _ n q0 b HDl.out HDq.out hb HLw.out, HF.out b hb, List.take_add_one, hP]
        by_cases e : b = q0
        · rw [if_pos e, if_pos (by simp [e]), e]
        · rw [if_neg e]
          by_cases q1 : b ∈ (S.take k).map (fun p => p.1)
          · rw [if_pos q1, if_pos (by rw [List.map_append]; exact List.mem_append_left _ q1)]
          · rw [if_neg q1, if_neg (by rw [List.map_append, List.mem_append]; rintro (h | h); exact q1 h; simp at h; exact e h)]
      case measure => simp [intOf]; omega
    · obtain rfl : k = L := by omega
      have hus : us = ws := frames_ext hd.len HH.out.len (fun b hb => by
        rw [HF.out b hb, HL.out, List.take_length]
        by_cases q1 : b ∈ S.map (fun p => p.1)
        · rw [if_pos q1]
        · rw [if_neg q1, HH.out.out b hb q1])
      have HE : Hid (Dk wr B n ws (m + k + k)) := by rw [← hus]; exact hd
      clear hd hu hus HS
      go_wp2
      go_ret
      exact ⟨rfl, HE.out.mono (by omega), HU.out⟩
end
end Go.Proofs.YtcjpahnlckfgoaaGreatDoor

namespace Go.Proofs.YtcjpahnlckfgoaaGreatDoor
open Go.RowKit
set_option linter.unusedVariables false

theorem cont_arr : Tryz.prog.underlying 105 = some (.array (Tryz.prog.arrayLen 105) (Tryz.prog.elem 105)) := by kernel_rfl
theorem cont_n : Tryz.prog.arrayLen 105 = 32 := by kernel_rfl
theorem cont_e (W : World) : (sizeOf (Tryz.prog.elem 105)).run Tryz.prog W = .ok 1 W := by kernel_rfl
/-- A piece of 32 words. -/
theorem cont_lh (q o : Nat) (l h : Nat) (h1 : l ≤ h) (h2 : h ≤ 32) (h3 : l < 32) (W : World) : (Instr.sliceAt 105 (.pointer (some ⟨q, o, none⟩)) (some (.int .i64 (l : Int))) (some (.int .i64 (h : Int))) none).run Tryz.prog W = .ok (.slice (some ⟨q, o + l, none⟩) (h - l) (32 - l)) W := by
  rw [run_sliceAt_array_lh W _ _ cont_arr .i64 .i64 l h (by omega) (by omega) (by rw [cont_n]; omega), cont_e]
  show Result.ok (slicedAt _ _ _ _ _) W = _
  unfold slicedAt
  rw [cont_n, Int.toNat_natCast, Int.toNat_natCast, if_neg (by omega), add0, Nat.mul_one]
theorem cont_l (q o : Nat) (l : Nat) (h3 : l < 32) (W : World) : (Instr.sliceAt 105 (.pointer (some ⟨q, o, none⟩)) (some (.int .i64 (l : Int))) none none).run Tryz.prog W = .ok (.slice (some ⟨q, o + l, none⟩) (32 - l) (32 - l)) W := by
  rw [run_sliceAt_array_l W _ _ cont_arr .i64 l (by omega) (by rw [cont_n]; omega), cont_e]
  show Result.ok (slicedAt _ _ _ _ _) W = _
  unfold slicedAt
  rw [cont_n, Int.toNat_natCast, if_neg (by omega), add0, Nat.mul_one]
/-- The words of block 0. -/
def hdW (n : Nat) (iw bw : List Nat) : List Int := FS.head ⟨n, iw, bw, fun _ => Ino.no⟩
theorem FS.head_hdW (F : FS) : F.head = hdW F.n F.iw F.bw := rfl
theorem hdW_len {n : Nat} {iw bw : List Nat} (hi : iw.length = 1) (hb : bw.length ≤ 29) : (hdW n iw bw).length = 32 := by
  simp [hdW, FS.head]
  omega
theorem hdW_3 {n x k : Nat} {bw : List Nat} (hk : k < bw.length) : (hdW n [x] bw).getD (3 + k) 0 = ((bw.getD k 0 : Nat) : Int) := by
  unfold hdW FS.head
  rw [app_get, if_pos (by simp; omega), app_get, if_neg (by simp)]
  simp only [List.length_append, List.length_cons, List.length_nil, List.length_map]
  rw [show 3 + k - (0 + 1 + 1 + (0 + 1)) = k by omega]
  simp [hk]
theorem one_word {iw : List Nat} (h : Bi.Wf 32 iw) : ∃ x, iw = [x] := by
  have h1 : iw.length = 1 := h.len
  match hq : iw, h1 with
  | [x], _ => exact ⟨x, rfl⟩
theorem hdW_splice (n x : Nat) {bw : List Nat} (hb : bw.length ≤ 29) :
    splice (splice (318923232595 :: (n : Int) :: List.replicate 30 0) 2 ([x].map (fun x : Nat => (x : Int)))) 3 (bw.map (fun x : Nat => (x : Int))) = hdW n [x] bw := by
  have e : splice (318923232595 :: (n : Int) :: List.replicate 30 0) 2 ([x].map (fun x : Nat => (x : Int))) = 318923232595 :: (n : Int) :: (x : Int) :: List.replicate 29 0 := rfl
  rw [e]
  unfold splice hdW FS.head
  simp only [List.length_map]
  rw [show 3 + bw.length = bw.length + 1 + 1 + 1 by omega]
  simp only [List.drop_succ_cons, List.drop_replicate]
  rfl

/-- Both bitmaps, from block M on. -/
structure Bms (w : World) (M hi gi hb gb n : Nat) (iw bw : List Nat) : Prop where
  bi : Bi.BmAt w hi gi 32 iw
  bb : Bi.BmAt w hb gb n bw
  lo : M ≤ hi ∧ M ≤ gi ∧ M ≤ hb ∧ M ≤ gb
  ne : gi ≠ gb
def BmsE (w : World) (M hi hb n : Nat) (iw bw : List Nat) : Prop := ∃ gi gb, Bms w M hi gi hb gb n iw bw
section
variable {w w' : World} {M hi gi hb gb n : Nat} {iw bw : List Nat}
theorem Bms.mono {M' : Nat} (h : Bms w M hi gi hb gb n iw bw) (hM : M' ≤ M) : Bms w M' hi gi hb gb n iw bw := ⟨h.bi, h.bb, by have := h.lo; omega, h.ne⟩
theorem Bms.below (h : Bms w M hi gi hb gb n iw bw) (k : Below w.heap.size w w') : Bms w' M hi gi hb gb n iw bw := ⟨h.bi.below k, h.bb.below k, h.lo, h.ne⟩
theorem Bms.dt {base : Nat} {B : Sto} (h : Bms w M hi gi hb gb n iw bw) (k : DT base B w w') : Bms w' M hi gi hb gb n iw bw := ⟨k.bm h.bi, k.bm h.bb, h.lo, h.ne⟩
/-- .. behind a change of a block of another type. -/
theorem Bms.other {g : Nat} (h : Bms w M hi gi hb gb n iw bw) (hu : Upd g w w') (hg : ∀ cs, w.heap[g]? ≠ some (.cells cs 228 (0, 0)) ∧ w.heap[g]? ≠ some (.cells cs 103 (0, 0))) : Bms w' M hi gi hb gb n iw bw := by
  refine ⟨h.bi.keep (hu.block _ h.bi.ltb ?_) (hu.block _ h.bi.ltg ?_), h.bb.keep (hu.block _ h.bb.ltb ?_) (hu.block _ h.bb.ltg ?_), h.lo, h.ne⟩
  · rintro rfl; exact (hg _).1 h.bi.head
  · rintro rfl; exact (hg _).2 h.bi.row
  · rintro rfl; exact (hg _).1 h.bb.head
  · rintro rfl; exact (hg _).2 h.bb.row
end
section
variable {w w' : World} {base bd n m : Nat} {B : Sto} {vs ws : List Int} {iw bw : List Nat}
set_option maxHeartbeats 2000000 in
set_option maxRecDepth 100000 in
theorem headOf_at (q : Nat) (hn1 : 13 ≤ n) (hn2 : n ≤ 1024) (hi : Bi.Wf 32 iw) (hb : Bi.Wf n bw) (hlow : ∀ b, b < 12 → Bi.bt bw b = true) (c0 : w.cell? ⟨q, 33, none⟩ = some (.int .u64 318923232595)) (c1 : w.cell? ⟨q, 34, none⟩ = some (.int .u64 (n : Int)))
    (r1 : Bi.NRd w (.slice (some ⟨q, 35, none⟩) 1 30) iw) (r2 : Bi.NRd w (.slice (some ⟨q, 36, none⟩) ((n + 63) / 64) 29) bw) :
    Calls Tryz.prog 130 #[.pointer (some ⟨q, 33, none⟩)] w fun e w' => ∃ hi hb, e = .returned (.tuple #[.agg #[ptr hi, ptr hb], .int .i64 0]) ∧ BmsE w' w.heap.size hi hb n iw bw ∧ Below w.heap.size w w' := by
  obtain ⟨L, hL⟩ : ∃ L, L = (n + 63) / 64 := ⟨_, rfl⟩
  have hd : ((n : Int) + 63).tdiv 64 = ((L : Nat) : Int) := by
    rw [Int.tdiv_eq_ediv_of_nonneg (by omega)]
    omega
  have hL16 : L ≤ 16 := by omega
  have hL1 : 1 ≤ L := by omega
  rw [← hL] at r2
  have hwr := Bi.wrap_small n (by omega)
  have hwL := Bi.wrap_small L (by omega)
  have t1 : decide ((n : Int) < 13) = false := by simp; omega
  have t2 : decide (1024 < (n : Int)) = false := by simp; omega
  have hq := cell_lt c0
  dsimp only at hq
  obtain ⟨W0, hW0⟩ : ∃ W, W = w.alloc (.cells #[.pointer none, .pointer none] 111) := ⟨_, rfl⟩
  have hb0 : Below w.heap.size w W0 := by rw [hW0]; exact below_alloc _ _
  have hs0 : W0.heap.size = w.heap.size + 1 := by rw [hW0]; simp
  have hr0 : W0.heap[w.heap.size]? = some (.cells #[.pointer none, .pointer none] 111) := by rw [hW0]; exact heap_alloc_new _ _
  have d0 : W0.cell? ⟨q, 33, none⟩ = some (.int .u64 318923232595) := (hb0.cell hq).trans c0
  have d1 : W0.cell? ⟨q, 34, none⟩ = some (.int .u64 (n : Int)) := (hb0.cell hq).trans c1
  have hO1 := Bi.of_at 32 iw _ W0 (r1.below hb0) hi.lt (by rw [hi.len]; omega)
  have HI : Hid (Bi.Wf 32 iw) := hi
  have HBw : Hid (Bi.Wf n bw) := hb
  have HLow : Hid (∀ b, b < 12 → Bi.bt bw b = true) := hlow
  have HB0 : Hid (Below w.heap.size w W0) := hb0
  have HR2 : Hid (Bi.NRd W0 (.slice (some ⟨q, 36, none⟩) L 29) bw) := r2.below hb0
  have HS0 : Hid (W0.heap.size = w.heap.size + 1) := hs0
  have HR0 : Hid _ := hr0
  have HW0 : Hid _ := hW0
  have HLq : Hid (L = (n + 63) / 64) := hL
  clear hi hb hlow r1 r2 hb0 hs0 hr0 hW0 hL
  go_enter Tryz.func130, Tryz.ntmps130
  go_wp2_with fail
  rw [← HW0.out]
  clear c0 c1
  refine hO1.mono ?_
  rintro e w1 ⟨p, r, rfl, hb1, hor⟩
  obtain ⟨rfl, -, b1, g1, rfl, hl1, hl2, hB1⟩ := hor.resolve_right (fun k => k.2.1 ⟨by omega, by omega, HI.out⟩)
  have HB1 : Hid (Bi.BmAt w1 b1 g1 32 iw) := hB1
  have Hb1 : Hid (Below W0.heap.size W0 w1) := hb1
  have Hl1 : Hid (W0.heap.size ≤ b1 ∧ W0.heap.size ≤ g1) := ⟨hl1, hl2⟩
  have e1 : w1.cell? ⟨q, 34, none⟩ = some (.int .u64 (n : Int)) := (hb1.cell (by show q < _; rw [HS0.out]; omega)).trans d1
  have hsl : ∀ W, (Instr.sliceAt 105 (.pointer (some ⟨q, 33, none⟩)) (some (.int .i64 3)) (some (.int .i64 (3 + (L : Int)))) none).run Tryz.prog W = .ok (.slice (some ⟨q, 36, none⟩) L 29) W := fun W => by
    have := cont_lh q 33 3 (3 + L) (by omega) (by omega) (by omega) W
    rw [Nat.add_sub_cancel_left] at this
    exact this
  have hO2 := Bi.of_at n bw _ w1 (HR2.out.below hb1) HBw.out.lt (by rw [HBw.out.len]; omega)
  clear hO1 hor hB1 hb1 hl1 hl2 d0 d1
  go_wp2_with fail
  refine hO2.mono ?_
  rintro e w2 ⟨p, r, rfl, hb2, hor⟩
  obtain ⟨rfl, -, b2, g2, rfl, hl1, hl2, hB2⟩ := hor.resolve_right (fun k => k.2.1 ⟨by omega, by omega, HBw.out⟩)
  rw [Int.toNat_natCast] at hB2
  have HBms : Hid (Bms w2 W0.heap.size b1 g1 b2 g2 n iw bw) := by
    have a1 := Hl1.out
    have a2 := Hb1.out.size
    have a3 := HB1.out.ltg
    exact ⟨HB1.out.below hb2, hB2, by omega, by omega⟩
  have Hb2 : Hid (Below W0.heap.size W0 w2) := Hb1.out.trans (hb2.mono Hb1.out.size)
  clear hO2 hor hB2 hb2 hl1 hl2 HB1 Hb1 Hl1 e1
  go_wp2
  go_loopw [61] (fun s wr => ∃ (k : Nat), k ≤ 12 ∧ s = .int .i64 k ∧ ∃ nq, wr = w2.drewN nq) (fun s _ => 12 - (intOf s).toNat)
  case atStart => exact ⟨0, by omega, rfl, 0, rfl⟩
  case round =>
    obtain ⟨k, hk, rfl, nq, rfl⟩ := hrel
    by_cases hlt : k < 12
    · have hki : decide ((k : Int) < 12) = true := by simp; omega
      have hU := Bi.used_yes b2 g2 n bw k (w2.drewN nq) (HBms.out.bb.drew nq) (by omega)
      rw [HLow.out k hlt] at hU
      go_wp2_with fail
      refine hU.mono ?_
      rintro e w3 ⟨rfl, q3, hw⟩
      obtain ⟨q4, hq4⟩ := Bi.drew_add w2 nq q3
      rw [hw, hq4]
      clear hw w3 hU hq4
      go_wp2
      go_roundw
      case rel => exact ⟨k + 1, by omega, by go_num, q4, rfl⟩
      case measure => simp [intOf]; omega
    · have hki : decide ((k : Int) < 12) = false := by simp; omega
      have hk12 : ¬ (k : Int) < 12 := by omega
      have hr2 : (w2.drewN nq).heap[w.heap.size]? = some (.cells #[.pointer none, .pointer none] 111) := (Hb2.out.block _ (by rw [HS0.out]; omega)).trans HR0.out
      have hc0 : (w2.drewN nq).cell? ⟨w.heap.size, 0, none⟩ = some (.pointer none) := by rw [cell_of_heap hr2]; rfl
      have hc1 : (w2.drewN nq).cell? ⟨w.heap.size, 1, none⟩ = some (.pointer none) := by rw [cell_of_heap hr2]; rfl
      have hf0 : ∀ i, (w2.drewN nq).frozen? ⟨w.heap.size, i, none⟩ = false := fun i => frozen_of_heap hr2
      have HR3 : Hid _ := hr2
      obtain ⟨W3, hW3⟩ : ∃ W, W = w2.drewN nq := ⟨_, rfl⟩
      have HW3 : Hid _ := hW3
      rw [← hW3] at hr2 hc0 hc1 hf0 ⊢
      obtain ⟨r0, hr0⟩ : ∃ r, r = w.heap.size := ⟨_, rfl⟩
      have Hr0 : Hid (r0 = w.heap.size) := hr0
      rw [← hr0] at hr2 hc0 hc1 hf0 ⊢
      clear hr0 hW3 hr2
      go_wp2
      have HU : Hid (Upd r0 W3 ((W3.setCell ⟨r0, 0, none⟩ (ptr b1)).setCell ⟨r0, 1, none⟩ (ptr b2))) := (Upd.setCell _ _ _ _).trans (Upd.setCell _ _ _ _)
      have HT : Hid (∀ cs, W3.heap[r0]? ≠ some (.cells cs 228 (0, 0)) ∧ W3.heap[r0]? ≠ some (.cells cs 103 (0, 0))) := by
        intro cs
        rw [HW3.out, Hr0.out, HR3.out]
        constructor <;> (intro e; simp only [Option.some.injEq, Obj.cells.injEq] at e; exact absurd e.2.1 (by decide))
      have HB3 : Hid (Bms W3 W0.heap.size b1 g1 b2 g2 n iw bw) := by rw [HW3.out]; exact HBms.out.below (Di.drewN_below ⟨nq, rfl⟩)
      have Hb3 : Hid (Below w.heap.size w W3) := by rw [HW3.out]; exact ((HB0.out.trans (Hb2.out.mono (by rw [HS0.out]; omega))).trans ((Di.drewN_below ⟨nq, rfl⟩).mono (by have := Hb2.out.size; have := HS0.out; omega)))
      refine bodyPost_ret (v := .tuple #[.agg #[ptr b1, ptr b2], .int .i64 0]) ?_ rfl ⟨b1, b2, rfl, ⟨g1, g2, ?_⟩, ?_⟩
      · rw [results_cell_tmp rfl]
        go_simp
      · exact (HB3.out.other HU.out HT.out).mono (by rw [HS0.out]; omega)
      · exact Hb3.out.trans (HU.out.below (by rw [Hr0.out]; exact Nat.le_refl _) Hb3.out.size)

set_option maxHeartbeats 2000000 in
set_option maxRecDepth 100000 in
theorem dhead_at (h : Dr w base bd B n vs ws m) (hm : m ≤ 900000000000) (hbase : base ≤ w.heap.size) (hn1 : 13 ≤ n) (hn2 : n ≤ 1024) (hi : Bi.Wf 32 iw) (hb : Bi.Wf n bw) (hlow : ∀ b, b < 12 → Bi.bt bw b = true) (hf : frameOf ws 0 = hdW n iw bw) :
    Calls Tryz.prog 66 #[ptr bd] w fun e w' => ∃ hi hb, e = .returned (.tuple #[.agg #[ptr hi, ptr hb], .int .i64 0]) ∧ BmsE w' w.heap.size hi hb n iw bw ∧ Dr w' base bd B n vs ws m ∧ DT base B w w' := by
  obtain ⟨W0, hW0⟩ : ∃ W, W = w.alloc (.cells #[.pointer none, .pointer none] 111) := ⟨_, rfl⟩
  have hb0 : Below w.heap.size w W0 := by rw [hW0]; exact below_alloc _ _
  have hs0 : W0.heap.size = w.heap.size + 1 := by rw [hW0]; simp
  have hr0 : W0.heap[w.heap.size]? = some (.cells #[.pointer none, .pointer none] 111) := by rw [hW0]; exact heap_alloc_new _ _
  have hA := dat_at (h.below hb0) 0 (by omega) hm
  have HB0 : Hid (Below w.heap.size w W0) := hb0
  have HS0 : Hid (W0.heap.size = w.heap.size + 1) := hs0
  have HR0 : Hid _ := hr0
  have HW0 : Hid _ := hW0
  have HI : Hid (Bi.Wf 32 iw) := hi
  have HBw : Hid (Bi.Wf n bw) := hb
  have HLow : Hid (∀ b, b < 12 → Bi.bt bw b = true) := hlow
  have HF : Hid (frameOf ws 0 = hdW n iw bw) := hf
  clear h hi hb hlow hf hb0 hs0 hr0 hW0
  go_enter Tryz.func66, Tryz.ntmps66
  go_wp2_with fail
  rw [← HW0.out]
  refine hA.mono ?_
  rintro e w1 ⟨q, rfl, hq, hdt⟩
  obtain ⟨sv, e0, e1, e2⟩ := hq.dr.cells
  obtain ⟨x, rfl⟩ := one_word HI.out
  have hbl : bw.length = (n + 63) / 64 := HBw.out.len
  have c0 : w1.cell? ⟨q, 33, none⟩ = some (.int .u64 318923232595) := by have := hq.word (j := 0) (by omega); rw [HF.out] at this; exact this
  have c1 : w1.cell? ⟨q, 34, none⟩ = some (.int .u64 (n : Int)) := by have := hq.word (j := 1) (by omega); rw [HF.out] at this; exact this
  have r1 : Bi.NRd w1 (.slice (some ⟨q, 35, none⟩) 1 30) [x] := ⟨_, 30, rfl, by simp, fun j y hj => ⟨q, 35, rfl, by
    have hj0 : j = 0 := by have := (List.getElem?_eq_some_iff.1 hj).1; simp at this; omega
    subst hj0
    simp at hj
    have := hq.word (j := 2) (by omega)
    rw [HF.out] at this
    rw [← hj]
    exact this⟩⟩
  have r2 : Bi.NRd w1 (.slice (some ⟨q, 36, none⟩) ((n + 63) / 64) 29) bw := ⟨_, 29, by rw [hbl], by omega, fun j y hj => ⟨q, 36, rfl, by
    have hj0 := (List.getElem?_eq_some_iff.1 hj).1
    have := hq.word (j := 3 + j) (by omega)
    rw [HF.out, hdW_3 hj0, List.getD_eq_getElem?_getD, hj] at this
    rw [show 36 + j = 33 + (3 + j) by omega]
    exact this⟩⟩
  have hO := headOf_at q hn1 hn2 HI.out HBw.out HLow.out c0 c1 r1 r2
  have HD1 : Hid (Dr w1 base bd B n vs ws m) := hq.dr
  have HT1 : Hid (DT base B w w1) := (DT.of_below HB0.out).trans hdt
  have hr1 : w1.heap[w.heap.size]? = some (.cells #[.pointer none, .pointer none] 111) := hdt.other HR0.out (by decide) (by decide)
  have HR1 : Hid _ := hr1
  clear hA hq hdt e0 e1 c0 c1 r1 r2 hr1
  go_wp2_with fail
  refine hO.mono ?_
  rintro e w2 ⟨b1, b2, rfl, hbm, hb2⟩
  have HBm : Hid (BmsE w2 w1.heap.size b1 b2 n [x] bw) := hbm
  have Hb2 : Hid (Below w1.heap.size w1 w2) := hb2
  have hr2 : w2.heap[w.heap.size]? = some (.cells #[.pointer none, .pointer none] 111) := (hb2.block _ (lt_of_heap HR1.out)).trans HR1.out
  have hc0 : w2.cell? ⟨w.heap.size, 0, none⟩ = some (.pointer none) := by rw [cell_of_heap hr2]; rfl
  have hc1 : w2.cell? ⟨w.heap.size, 1, none⟩ = some (.pointer none) := by rw [cell_of_heap hr2]; rfl
  have hf0 : ∀ i, w2.frozen? ⟨w.heap.size, i, none⟩ = false := fun i => frozen_of_heap hr2
  have HR2 : Hid _ := hr2
  obtain ⟨r0, hr0⟩ : ∃ r, r = w.heap.size := ⟨_, rfl⟩
  have Hr0 : Hid (r0 = w.heap.size) := hr0
  rw [← hr0] at hc0 hc1 hf0 ⊢
  clear hr0 hr2 hbm hb2 hO e2
  go_wp2
  have HU : Hid (Upd r0 w2 ((w2.setCell ⟨r0, 0, none⟩ (ptr b1)).setCell ⟨r0, 1, none⟩ (ptr b2))) := (Upd.setCell _ _ _ _).trans (Upd.setCell _ _ _ _)
  have HT : Hid (∀ cs, w2.heap[r0]? ≠ some (.cells cs 228 (0, 0)) ∧ w2.heap[r0]? ≠ some (.cells cs 103 (0, 0))) := by
    intro cs
    rw [Hr0.out, HR2.out]
    constructor <;> (intro e; simp only [Option.some.injEq, Obj.cells.injEq] at e; exact absurd e.2.1 (by decide))
  have HN : Hid (¬ IsD w2 r0 ∧ ¬ IsSt w2 r0) := by rw [Hr0.out]; exact not_isD HR2.out (by decide)
  refine bodyPost_ret (v := .tuple #[.agg #[ptr b1, ptr b2], .int .i64 0]) ?_ rfl ⟨b1, b2, rfl, ?_, ?_, ?_⟩
  · rw [results_cell_tmp rfl]
    go_simp
  · obtain ⟨g1, g2, hbm⟩ := HBm.out
    exact ⟨g1, g2, (hbm.other HU.out HT.out).mono HT1.out.size⟩
  · exact (HD1.out.below Hb2.out).other HU.out (by rw [Hr0.out]; exact hbase) HN.out
  · have h12 : DT base B w w2 := HT1.out.trans (DT.of_below Hb2.out)
    have hu := HU.out
    refine ⟨hu.os.trans h12.os, hu.tape.trans h12.tape, hu.output.trans h12.output, Nat.le_trans h12.size hu.size, fun k hk hB hg => (hu.block k (Nat.lt_of_lt_of_le hk h12.size) (by rw [Hr0.out]; omega)).trans (h12.block k hk hB hg)⟩
end
end Go.Proofs.YtcjpahnlckfgoaaGreatDoor
