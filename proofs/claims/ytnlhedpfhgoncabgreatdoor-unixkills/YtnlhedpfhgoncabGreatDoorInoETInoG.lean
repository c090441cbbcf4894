/- Package inode: a draft is laid: lay. -/
/- Package inode: the head of a file system: headOf, head, words, setHead, newHead, isData, isInode. -/
/- Package inode: the head's words; setHead. -/
import Derived.Test.YtnlhedpfhgoncabGreatDoorInoATInoC
import Derived.BigQuiet
import Derived.Deep.QuietTactic
set_option linter.all false
namespace Go.Proofs.YtnlhedpfhgoncabGreatDoor
open Go.RowKit
theorem frames_ext {n : Nat} {us ws : List Int} (hu : us.length = n * 32) (hw : ws.length = n * 32) (h : ∀ b, b < n → frameOf us b = frameOf ws b) : us = ws := by
  refine list_ext_getD _ _ (hu.trans hw.symm) fun i hi => ?_
  have hb : i / 32 < n := by omega
  have e := congrArg (fun l => l.getD (i % 32) 0) (h _ hb)
  simp only [frameOf_getD _ _ _ (Nat.mod_lt i (show 0 < 32 by omega))] at e
  rw [show i / 32 * 32 + i % 32 = i by omega] at e
  exact e
section
variable {w w' : World} {base bd n m : Nat} {B : Sto} {vs ws : List Int}
set_option maxHeartbeats 2000000 in
set_option maxRecDepth 100000 in
theorem dlay_at (h : Dr w base bd B n vs ws m) (hm : m ≤ 900000000000) :
    Calls Tryz.prog 141 #[ptr bd] w fun e w' => e = .returned (.int .i64 0) ∧ Dk w' B n ws (m + 2048) ∧ ST B.lo w w' := by
  obtain ⟨sv, S, h⟩ := h
  have HH : Hid (DrAt w base bd B n vs ws m sv S) := h
  obtain ⟨a, cap, rfl⟩ := own_slice h.own
  have c1 : w.cell? ⟨bd, 1, none⟩ = some (.slice a S.length cap) := by rw [cell_of_heap h.head]; rfl
  have c2 : w.cell? ⟨bd, 2, none⟩ = some (.int .i64 0) := by rw [cell_of_heap h.head]; rfl
  have hle := h.few
  have hnn := h.nn
  have hd := h.disk
  have HD : Hid (Dk w B n vs (m + S.length)) := hd
  have HS : Hid (∀ k, k < S.length → ∃ g q0 q, S[k]? = some (q0, q) ∧ a = some ⟨g, 0, none⟩ ∧ ¬ IsSt w g ∧ w.cell? ⟨g, k, none⟩ = some (ptr q)) := by
    intro k hk
    rcases h.own.2 with ⟨_, e⟩ | ⟨g, cap', cur, e2, hg, hh, hc, _, hcs, ht⟩
    · omega
    · simp only [Value.slice.injEq] at e2
      obtain ⟨e2, -, -⟩ := e2
      have hp := List.getElem?_eq_getElem hk
      refine ⟨g, S[k].1, S[k].2, hp, e2, not_isSt hh (by decide), ?_⟩
      rw [cell_of_heap hh]
      have e1 : (cur.toList.take (S.length * 1))[k]? = (S.map (fun p => ptr p.2))[k]? := by rw [ht]
      rw [List.getElem?_take_of_lt (by omega), List.getElem?_map, hp] at e1
      simpa using e1
  clear h hd
  obtain ⟨L, hL⟩ : ∃ L, L = S.length := ⟨_, rfl⟩
  have HL : Hid (L = S.length) := hL
  rw [← hL] at c1 hle HS HD
  clear hL
  go_enter Tryz.func141, Tryz.ntmps141
  go_wp2
  go_loopw [20] (fun s wr => ∃ (k : Nat) (us : List Int), k ≤ L ∧ s = .int .i64 k ∧ Dk wr B n us (m + L + k) ∧ ST B.lo w wr ∧ Hid (∀ b, b < n → frameOf us b = if b ∈ (S.take k).map (fun p => p.1) then frameOf ws b else frameOf vs b)) (fun s _ => L - (intOf s).toNat)
  case atStart => exact ⟨0, vs, by omega, rfl, HD.out, SU.refl _ _ _, fun b _ => by simp⟩
  case round =>
    obtain ⟨k, us, hk, rfl, hd, hu, HF⟩ := hrel
    have HU : Hid (ST B.lo w wr) := hu
    by_cases hlt : k < L
    · have hki : (k : Int) < (L : Int) := by omega
      obtain ⟨g, q0, q, hp, rfl, hgS, d0⟩ := HS.out k hlt
      have hmem := List.mem_of_getElem? hp
      obtain ⟨hbq, hq0, A, hA, hq⟩ := HH.out.sh _ hmem
      dsimp only at hbq hq0 hq
      have hq' : wr.heap[q]? = some (.cells (shRow q0 A (urow (frameOf ws q0))) 311) := hu.other hq (by decide)
      have hbd' : wr.heap[bd]? = w.heap[bd]? := hu.same HH.out.head (by decide)
      have e0 : wr.cell? ⟨bd, 0, none⟩ = some (sto B) := by rw [cell_of_heap (hbd'.trans HH.out.head)]; rfl
      have e1 : wr.cell? ⟨g, k, none⟩ = some (ptr q) := (World.cell?_of_block (hu.block g (cell_lt d0) (Or.inr hgS) id)).trans d0
      have e2 : wr.cell? ⟨q, 0, none⟩ = some (.int .i64 (q0 : Int)) := by rw [cell_of_heap hq']; exact shRow_0 _ _ _
      have HLw : Hid _ := frameOf_length ws q0 n HH.out.len hq0
      have e3 : wr.rangeAt q 33 (uvs (frameOf ws q0)) := by
        intro j v hv
        rw [cell_of_heap hq', shRow_now hA, urow]
        simpa [uvs] using hv
      obtain ⟨Rl, hRl⟩ : ∃ R, R = uvs (frameOf ws q0) := ⟨_, rfl⟩
      have HRl : Hid (Rl.length = 32) := by show _ = _; rw [hRl, uvs_len]; exact HLw.out
      have hput : Calls Tryz.prog 200 #[sto B, .int .i64 q0, .agg Rl.toArray] wr.drew fun e w' => e = .returned (.int .i64 0) ∧ Dk w' B n (splice us (q0 * 32) (frameOf ws q0)) (m + L + k + 1) ∧ ST B.lo wr.drew w' := by
        rw [hRl]
        exact iput_at (w := wr.drew) hd.drew q0 hq0 (by omega) (frameOf ws q0) HLw.out
      rw [← hRl] at e3
      have HP : Hid (S[k]? = some (q0, q)) := hp
      have hs0 : wr.cell? ⟨bd, 0, none⟩ = some (sto B) ∧ wr.cell? ⟨q, 0, none⟩ = some (.int .i64 (q0 : Int)) ∧ wr.rangeAt q 33 Rl := ⟨e0, e2, e3⟩
      have HKq : Hid (wr.heap[q]? = some (.cells (shRow q0 A (urow (frameOf ws q0))) 311) ∧ wr.heap[bd]? = w.heap[bd]?) := ⟨hq', hbd'⟩
      have HDl : Hid (us.length = n * 32) := hd.len
      have HDq : Hid (q0 < n) := hq0
      clear hp hmem hbq hq0 hA hq hq' hbd' hu hd e3 hRl d0 hgS HS
      go_wp2_with fail
      refine wp_region_held_drew (S := fun w' => w'.cell? ⟨bd, 0, none⟩ = some (sto B) ∧ w'.cell? ⟨q, 0, none⟩ = some (.int .i64 (q0 : Int)) ∧ w'.rangeAt q 33 Rl) (by kernel_rfl) hs0 (fun hHeld => ?_)
      refine wpAnyH_take (i := 0) (v := ?_) rfl (by kernel_rfl) (by kernel_rfl) (by kernel_rfl) (fun _ _ _ h => h) (Or.inl ⟨by kernel_rfl, ?_⟩) (by assumption) ?_
      rotate_left
      · (intro w hSw; (try dsimp only at hSw); go_simp) <;> with_reducible rfl
      (try simp only [Act.put, List.getElem_toArray, List.getElem_cons_zero, List.setIfInBounds_toArray, List.set_cons_zero, List.set_cons_succ])
      refine wpAnyH_take (i := 1) (v := ?_) rfl (by kernel_rfl) (by kernel_rfl) (by kernel_rfl) (fun _ _ _ h => h) (Or.inl ⟨by kernel_rfl, ?_⟩) (by assumption) ?_
      rotate_left
      · (intro w hSw; (try dsimp only at hSw); go_simp) <;> with_reducible rfl
      (try simp only [Act.put, List.getElem_toArray, List.getElem_cons_zero, List.getElem_cons_succ, List.setIfInBounds_toArray, List.set_cons_zero, List.set_cons_succ])
      refine wpAnyH_take (i := 2) (v := ?_) rfl (by kernel_rfl) (by kernel_rfl) (by kernel_rfl) (fun _ _ _ h => h) (Or.inl ⟨by kernel_rfl, ?_⟩) (by assumption) ?_
      rotate_left
      · (intro w hSw; (try dsimp only at hSw); go_simp) <;> with_reducible rfl
      (try simp only [Act.put, List.getElem_toArray, List.getElem_cons_zero, List.getElem_cons_succ, List.setIfInBounds_toArray, List.set_cons_zero, List.set_cons_succ])
      refine wpAnyH_take (i := 3) (v := ?_) rfl (by kernel_rfl) (by kernel_rfl) (by kernel_rfl) (fun _ _ _ h => h) (Or.inl ⟨by kernel_rfl, ?_⟩) (by assumption) ?_
      rotate_left
      · (intro w hSw; (try dsimp only at hSw); go_simp) <;> with_reducible rfl
      (try simp only [Act.put, List.getElem_toArray, List.getElem_cons_zero, List.getElem_cons_succ, List.setIfInBounds_toArray, List.set_cons_zero, List.set_cons_succ])
      refine wpAnyH_take (i := 4) (v := ?_) rfl (by kernel_rfl) (by kernel_rfl) (by kernel_rfl) (fun _ _ _ h => h) (Or.inl ⟨by kernel_rfl, ?_⟩) (by assumption) ?_
      rotate_left
      · (intro w hSw; (try dsimp only at hSw); go_simp) <;> with_reducible rfl
      (try simp only [Act.put, List.getElem_toArray, List.getElem_cons_zero, List.getElem_cons_succ, List.setIfInBounds_toArray, List.set_cons_zero, List.set_cons_succ])
      refine wpAnyH_take (i := 5) (v := ?_) rfl (by kernel_rfl) (by kernel_rfl) (by kernel_rfl) (fun _ _ _ h => h) (Or.inl ⟨by kernel_rfl, ?_⟩) (by assumption) ?_
      rotate_left
      · (intro w hSw; (try dsimp only at hSw); go_simp) <;> with_reducible rfl
      (try simp only [Act.put, List.getElem_toArray, List.getElem_cons_zero, List.getElem_cons_succ, List.setIfInBounds_toArray, List.set_cons_zero, List.set_cons_succ])
      refine wpAnyH_take (i := 6) (v := ?_) rfl (by kernel_rfl) (by kernel_rfl) (by kernel_rfl) (fun _ _ _ h => h) (Or.inl ⟨by kernel_rfl, ?_⟩) (by assumption) ?_
      rotate_left
      · (intro w hSw; (try dsimp only at hSw); go_simp) <;> with_reducible rfl
      (try simp only [Act.put, List.getElem_toArray, List.getElem_cons_zero, List.getElem_cons_succ, List.setIfInBounds_toArray, List.set_cons_zero, List.set_cons_succ])
      refine wpAnyH_take (i := 7) (v := ?_) rfl (by kernel_rfl) (by kernel_rfl) (by kernel_rfl) (fun _ _ _ h => h) (Or.inl ⟨by kernel_rfl, ?_⟩) (by assumption) ?_
      rotate_left
      · (intro w hSw; (try dsimp only at hSw); go_simp) <;> with_reducible rfl
      (try simp only [Act.put, List.getElem_toArray, List.getElem_cons_zero, List.getElem_cons_succ, List.setIfInBounds_toArray, List.set_cons_zero, List.set_cons_succ])
      refine wpAnyH_take (i := 8) (v := ?_) rfl (by kernel_rfl) (by kernel_rfl) (by kernel_rfl) (fun _ _ _ h => h) (Or.inl ⟨by kernel_rfl, ?_⟩) (by assumption) ?_
      rotate_left
      · (intro w hSw; (try dsimp only at hSw); go_simp) <;> with_reducible rfl
      (try simp only [Act.put, List.getElem_toArray, List.getElem_cons_zero, List.getElem_cons_succ, List.setIfInBounds_toArray, List.set_cons_zero, List.set_cons_succ])
      refine wpAnyH_take (i := 9) (v := ?_) rfl (by kernel_rfl) (by kernel_rfl) (by kernel_rfl) (fun _ _ _ h => h) (Or.inl ⟨by kernel_rfl, ?_⟩) (by assumption) ?_
      rotate_left
      · (intro w hSw; (try dsimp only at hSw); go_simp) <;> with_reducible rfl
      (try simp only [Act.put, List.getElem_toArray, List.getElem_cons_zero, List.getElem_cons_succ, List.setIfInBounds_toArray, List.set_cons_zero, List.set_cons_succ])
      refine wpAnyH_take (i := 10) (v := ?_) rfl (by kernel_rfl) (by kernel_rfl) (by kernel_rfl) (fun _ _ _ h => h) (Or.inl ⟨by kernel_rfl, ?_⟩) (by assumption) ?_
      rotate_left
      · (intro w hSw; (try dsimp only at hSw); go_simp) <;> with_reducible rfl
      (try simp only [Act.put, List.getElem_toArray, List.getElem_cons_zero, List.getElem_cons_succ, List.setIfInBounds_toArray, List.set_cons_zero, List.set_cons_succ])
      refine wpAnyH_take (i := 11) (v := .agg (Rl).toArray) rfl (by kernel_rfl) (by kernel_rfl) (by kernel_rfl) (fun _ _ _ h => h) (yieldsIf_load_mid (by kernel_rfl) 250 _ rfl q 33 rfl (Rl) _ (fun w h => h.2.2) Tryz.underlying250 rfl (by rw [HRl.out]; exact contSize)) (by assumption) ?_
      (try simp only [Act.put, List.getElem_toArray, List.getElem_cons_zero, List.getElem_cons_succ, List.setIfInBounds_toArray, List.set_cons_zero, List.set_cons_succ])
      refine wpAnyH_ready (rs := [12]) (by kernel_rfl) (by simp) ?_
      refine AllReadyH.cons rfl (fun K hK => ?_) AllReadyH.nil
      go_simp
      refine hput.mono ?_
      rintro e w1 ⟨rfl, hd1, hu1⟩
      have HD1 : Hid (Dk w1 B n (splice us (q0 * 32) (frameOf ws q0)) (m + L + k + 1)) := hd1
      have hu2 : ST B.lo wr w1 := ⟨hu1.os, hu1.tape, hu1.output, hu1.size, hu1.block⟩
      have HU1 : Hid (ST B.lo w w1) := HU.out.trans hu2
      have hs1 : w1.cell? ⟨bd, 0, none⟩ = some (sto B) ∧ w1.cell? ⟨q, 0, none⟩ = some (.int .i64 (q0 : Int)) ∧ w1.rangeAt q 33 Rl := by
        have hk1 := HKq.out
        have b1 := hu2.same (hk1.2.trans HH.out.head) (by decide)
        have b2 := hu2.same hk1.1 (by decide)
        refine ⟨(World.cell?_of_block b1).trans hs0.1, (World.cell?_of_block b2).trans hs0.2.1, fun j v hv => (World.cell?_of_block b2).trans (hs0.2.2 j v hv)⟩
      clear hd1 hu1 hu2 hput
      refine hK.out _ _ hs1 (fun hHeld => ?_)
      clear hK K
      (try simp only [Act.put, List.getElem_toArray, List.getElem_cons_zero, List.getElem_cons_succ, List.setIfInBounds_toArray, List.set_cons_zero, List.set_cons_succ])
      refine wpAnyH_take (i := 13) (v := ?_) rfl (by kernel_rfl) (by kernel_rfl) (by kernel_rfl) (fun _ _ _ h => h) (Or.inl ⟨by kernel_rfl, ?_⟩) (by assumption) ?_
      rotate_left
      · (intro w hSw; (try dsimp only at hSw); go_simp) <;> with_reducible rfl
      (try simp only [Act.put, List.getElem_toArray, List.getElem_cons_zero, List.getElem_cons_succ, List.setIfInBounds_toArray, List.set_cons_zero, List.set_cons_succ])
      refine wpAnyH_done (by kernel_rfl) ?_ _
      clear hs0 hs1 e0 e2
      go_wp2
      go_roundw
      case rel =>
        refine ⟨k + 1, _, by omega, by go_num, HD1.out, HU1.out, fun b hb => ?_⟩
        have hP : S[k]? = some (q0, q) := HP.out
        rw [frame_splice us _ n q0 b HDl.out HDq.out hb HLw.out, HF.out b hb, List.take_add_one, hP]
        by_cases e : b = q0
        · rw [if_pos e, if_pos (by simp [e]), e]
        · rw [if_neg e]
          by_cases q1 : b ∈ (S.take k).map (fun p => p.1)
          · rw [if_pos q1, if_pos (by rw [List.map_append]; exact List.mem_append_left _ q1)]
          · rw [if_neg q1, if_neg (by rw [List.map_append, List.mem_append]; rintro (h | h); exact q1 h; simp at h; exact e h)]
      case measure => simp [intOf]; omega
    · obtain rfl : k = L := by omega
      have hus : us = ws := frames_ext hd.len HH.out.len (fun b hb => by
        rw [HF.out b hb, HL.out, List.take_length]
        by_cases q1 : b ∈ S.map (fun p => p.1)
        · rw [if_pos q1]
        · rw [if_neg q1, HH.out.out b hb q1])
      have HE : Hid (Dk wr B n ws (m + k + k)) := by rw [← hus]; exact hd
      clear hd hu hus HS
      go_wp2
      go_ret
      exact ⟨rfl, HE.out.mono (by omega), HU.out⟩
end
end Go.Proofs.YtnlhedpfhgoncabGreatDoor
namespace Go.Proofs.YtnlhedpfhgoncabGreatDoor
open Go.RowKit
theorem cont_arr : Tryz.prog.underlying 250 = some (.array (Tryz.prog.arrayLen 250) (Tryz.prog.elem 250)) := by kernel_rfl
theorem cont_n : Tryz.prog.arrayLen 250 = 32 := by kernel_rfl
theorem cont_e (W : World) : (sizeOf (Tryz.prog.elem 250)).run Tryz.prog W = .ok 1 W := by kernel_rfl
theorem cont_l (q o : Nat) (l : Nat) (h3 : l < 32) (W : World) : (Instr.sliceAt 250 (.pointer (some ⟨q, o, none⟩)) (some (.int .i64 (l : Int))) none none).run Tryz.prog W = .ok (.slice (some ⟨q, o + l, none⟩) (32 - l) (32 - l)) W := by
  rw [run_sliceAt_array_l W _ _ cont_arr .i64 l (by omega) (by rw [cont_n]; omega), cont_e]
  show Result.ok (slicedAt _ _ _ _ _) W = _
  unfold slicedAt
  rw [cont_n, Int.toNat_natCast, if_neg (by omega), add0, Nat.mul_one]
/-- The words of block 0. -/
def hdW (n : Nat) (iw bw : List Nat) : List Int := FS.head ⟨n, iw, bw, fun _ => Ino.no⟩
theorem hdW_len {n : Nat} {iw bw : List Nat} (hi : iw.length = 1) (hb : bw.length ≤ 29) : (hdW n iw bw).length = 32 := by
  simp [hdW, FS.head]
  omega
theorem one_word {iw : List Nat} (h : Bi.Wf 32 iw) : ∃ x, iw = [x] := by
  have h1 : iw.length = 1 := h.len
  match hq : iw, h1 with
  | [x], _ => exact ⟨x, rfl⟩
theorem hdW_splice (n x : Nat) {bw : List Nat} (hb : bw.length ≤ 29) :
    splice (splice (318923232595 :: (n : Int) :: List.replicate 30 0) 2 ([x].map (fun x : Nat => (x : Int)))) 3 (bw.map (fun x : Nat => (x : Int))) = hdW n [x] bw := by
  have e : splice (318923232595 :: (n : Int) :: List.replicate 30 0) 2 ([x].map (fun x : Nat => (x : Int))) = 318923232595 :: (n : Int) :: (x : Int) :: List.replicate 29 0 := rfl
  rw [e]
  unfold splice hdW FS.head
  simp only [List.length_map]
  rw [show 3 + bw.length = bw.length + 1 + 1 + 1 by omega]
  simp only [List.drop_succ_cons, List.drop_replicate]
  rfl
/-- Both bitmaps, from block M on. -/
structure Bms (w : World) (M hi gi hb gb n : Nat) (iw bw : List Nat) : Prop where
  bi : Bi.BmAt w hi gi 32 iw
  bb : Bi.BmAt w hb gb n bw
  lo : M ≤ hi ∧ M ≤ gi ∧ M ≤ hb ∧ M ≤ gb
  ne : gi ≠ gb
def BmsE (w : World) (M hi hb n : Nat) (iw bw : List Nat) : Prop := ∃ gi gb, Bms w M hi gi hb gb n iw bw
section
variable {w w' : World} {M hi gi hb gb n : Nat} {iw bw : List Nat}
theorem Bms.mono {M' : Nat} (h : Bms w M hi gi hb gb n iw bw) (hM : M' ≤ M) : Bms w M' hi gi hb gb n iw bw := ⟨h.bi, h.bb, by have := h.lo; omega, h.ne⟩
theorem Bms.below (h : Bms w M hi gi hb gb n iw bw) (k : Below w.heap.size w w') : Bms w' M hi gi hb gb n iw bw := ⟨h.bi.below k, h.bb.below k, h.lo, h.ne⟩
theorem Bms.dt {base : Nat} {B : Sto} (h : Bms w M hi gi hb gb n iw bw) (k : DT base B w w') : Bms w' M hi gi hb gb n iw bw := ⟨k.bm h.bi, k.bm h.bb, h.lo, h.ne⟩
/-- .. behind a change of a block of another type. -/
theorem Bms.other {g : Nat} (h : Bms w M hi gi hb gb n iw bw) (hu : Upd g w w') (hg : ∀ cs, w.heap[g]? ≠ some (.cells cs 372 (0, 0)) ∧ w.heap[g]? ≠ some (.cells cs 40 (0, 0))) : Bms w' M hi gi hb gb n iw bw := by
  refine ⟨h.bi.keep (hu.block _ h.bi.ltb ?_) (hu.block _ h.bi.ltg ?_), h.bb.keep (hu.block _ h.bb.ltb ?_) (hu.block _ h.bb.ltg ?_), h.lo, h.ne⟩
  · rintro rfl; exact (hg _).1 h.bi.head
  · rintro rfl; exact (hg _).2 h.bi.row
  · rintro rfl; exact (hg _).1 h.bb.head
  · rintro rfl; exact (hg _).2 h.bb.row
end
section
variable {w w' : World} {base bd n m : Nat} {B : Sto} {vs ws : List Int} {iw bw : List Nat}
end
end Go.Proofs.YtnlhedpfhgoncabGreatDoor
namespace Go.Proofs.YtnlhedpfhgoncabGreatDoor
open Go.RowKit
def ints (ws : List Nat) : List Int := ws.map (fun x : Nat => (x : Int))
theorem ints_len (ws : List Nat) : (ints ws).length = ws.length := by simp [ints]
/-- A copy of words over a part of 32. -/
theorem copy_part {w : World} {g : Nat} {t : TypeId} {us : List Int} {ws : List Nat} (h : w.heap[g]? = some (.cells (urow us) t)) (hu : us.length = 32) (o d c1 : Nat) (hd : o + d = 32) (hk : ws.length ≤ d) (p po c2 : Nat)
    (hw : ∀ (j x : Nat), ws[j]? = some x → w.cell? ⟨p, po + j, none⟩ = some (.int .u64 ((x : Nat) : Int))) (ty : TypeId) :
    (Builtin.copy_ #[46, 46] ty #[.slice (some ⟨g, o, none⟩) d c1, .slice (some ⟨p, po, none⟩) ws.length c2]).run Tryz.prog w = .ok (goInt ws.length) (w.setRow g (urow (splice us o (ints ws)))) := by
  have hr := run_copy_row Tryz.prog w 46 46 ty 40 g o d c1 ⟨p, po, none⟩ ws.length c2 (urow us) t (uvs (ints ws)) Tryz.underlying46 (by kernel_rfl) h
    (by rw [uvs_len, ints_len]; exact (Nat.min_eq_left hk).symm)
    (fun j v hv => by
      obtain ⟨x, hx, rfl⟩ := uvs_get hv
      simp only [ints, List.getElem?_map, Option.map_eq_some_iff] at hx
      obtain ⟨y, hy, rfl⟩ := hx
      rw [add0]
      exact hw j y hy)
    (by simp [uvs_len, ints_len, urow_size, hu]; omega) (uvs_one _)
  rw [hr, urow_splice us o (ints ws) (uvs (ints ws)) rfl (by rw [ints_len, hu]; omega)]
  rw [uvs_len, ints_len]
section
variable {w w' : World} {M hi gi hb gb n : Nat} {iw bw : List Nat}
theorem head_built (n : Nat) : Tryz.prog.built 250 [(0, .int .u64 318923232595), (1, .int .u64 (n : Int))] = some (urow (318923232595 :: (n : Int) :: List.replicate 30 0)) := by kernel_rfl
set_option maxHeartbeats 2000000 in
set_option maxRecDepth 100000 in
theorem hwords_at (h : Bms w M hi gi hb gb n iw bw) :
    Calls Tryz.prog 196 #[.agg #[ptr hi, ptr hb]] w fun e w' => e = .returned (.agg (urow (hdW n iw bw))) ∧ Below w.heap.size w w' := by
  have hle := h.bb.le
  have hpos := h.bb.pos
  obtain ⟨x, hx⟩ := one_word h.bi.wf
  subst hx
  have hz := lit_zc
  have HBl : Hid (bw.length = (n + 63) / 64) := h.bb.wf.len
  obtain ⟨U0, hU0⟩ : ∃ U, U = (318923232595 :: (n : Int) :: List.replicate 30 0) := ⟨_, rfl⟩
  have HU0 : Hid (U0.length = 32) := by rw [hU0]; rfl
  have HUb := head_built n
  rw [← hU0] at HUb
  have HUB : Hid _ := HUb
  obtain ⟨R0, hR0⟩ : ∃ R, R = urow U0 := ⟨_, rfl⟩
  rw [← hR0] at HUB
  have HRs : Hid (R0.size = 32) := by rw [hR0]; show _ = _; rw [urow_size]; exact HU0.out
  have HRo : Hid (R0.all (·.oneCell') = true) := by rw [hR0]; exact urow_one _
  have HRq : Hid (R0 = urow U0) := hR0
  have HUq : Hid (U0 = 318923232595 :: (n : Int) :: List.replicate 30 0) := hU0
  obtain ⟨W1, hW1⟩ : ∃ W, W = (w.alloc (.cells #[ptr hi, ptr hb] 256)).alloc (.cells zc 250) := ⟨_, rfl⟩
  have hb1 : Below w.heap.size w W1 := by rw [hW1]; exact (below_alloc w _).trans ((below_alloc _ _).mono (by simp))
  have hL := Bi.len_at hb gb n bw W1 (h.bb.below hb1)
  have hs1 : W1.heap.size = w.heap.size + 1 + 1 := by rw [hW1]; simp
  have hp0 : W1.heap[w.heap.size]? = some (.cells #[ptr hi, ptr hb] 256) := by rw [hW1]; exact heap_alloc2_old w _ _
  have hp1 : W1.heap[w.heap.size + 1]? = some (.cells zc 250) := by rw [hW1]; exact heap_alloc2_new w _ _
  have HH : Hid (Bms w M hi gi hb gb n [x] bw) := h
  have HB1 : Hid (Below w.heap.size w W1) := hb1
  have HS1 : Hid (W1.heap.size = w.heap.size + 1 + 1) := hs1
  have HP0 : Hid _ := hp0
  have HP1 : Hid _ := hp1
  have HW1 : Hid _ := hW1
  clear h hU0 HUb hR0 hW1 hb1 hs1 hp1
  go_enter Tryz.func196, Tryz.ntmps196
  go_wp2_with fail
  rw [← HW1.out]
  refine hL.mono ?_
  rintro e w0 ⟨rfl, hw⟩
  rw [hw]
  clear hw w0 hL
  obtain ⟨W2, hW2⟩ : ∃ W, W = W1.alloc (.cells R0 250) := ⟨_, rfl⟩
  have hb2 : Below W1.heap.size W1 W2 := by rw [hW2]; exact below_alloc _ _
  have HB2 : Hid (Below w.heap.size w W2) := HB1.out.trans (hb2.mono HB1.out.size)
  have hq0 : W2.heap[w.heap.size]? = some (.cells #[ptr hi, ptr hb] 256) := (hb2.block _ (by rw [HS1.out]; omega)).trans HP0.out
  have HQ0 : Hid _ := hq0
  have HQ1 : Hid (W2.heap[w.heap.size + 1]? = some (.cells zc 250)) := (hb2.block _ (by rw [HS1.out]; omega)).trans HP1.out
  have HQ2 : Hid (W2.heap[W1.heap.size]? = some (.cells R0 250)) := by rw [hW2]; exact heap_alloc_new _ _
  have HW2 : Hid _ := hW2
  clear hW2 hb2 hp0
  go_wp2_with (first
    | (refine wpList_build_eq rfl 250 _ rfl R0 (by rw [← HUB.out]; go_simp) ?_)
    | (refine wpList_store_row rfl 250 _ _ rfl W1.heap.size R0 rfl rfl 250 zc (heap_alloc_new _ _) (by rw [HRs.out]; exact contSize) (by rw [HRs.out]; rfl) HRo.out ?_; rw [setRow_alloc_new])
    | go_in)
  rw [← HW2.out]
  obtain ⟨p0, hp0⟩ : ∃ p, p = w.heap.size := ⟨_, rfl⟩
  obtain ⟨p1, hp1⟩ : ∃ p, p = w.heap.size + 1 := ⟨_, rfl⟩
  obtain ⟨p2, hp2⟩ : ∃ p, p = W1.heap.size := ⟨_, rfl⟩
  have HPs : Hid (w.heap.size ≤ p0 ∧ w.heap.size ≤ p1 ∧ w.heap.size ≤ p2 ∧ p0 ≠ p1 ∧ p0 ≠ p2 ∧ p1 ≠ p2) := by
    have := HS1.out
    show _ ∧ _
    omega
  rw [← hp0] at hq0 HQ0
  rw [← hp1] at HQ1
  rw [← hp2] at HQ2
  rw [← hp1, ← hp0, ← hp2]
  have c0 : W2.cell? ⟨p0, 0, none⟩ = some (ptr hi) := by rw [cell_of_heap hq0]; rfl
  have hW := Bi.words_at hi gi 32 [x] W2.drew (HH.out.bi.below (HB2.out.trans ((Di.drewN_below (w := W2) ⟨1, rfl⟩).mono HB2.out.size)))
  clear hp0 hp1 hp2 hq0 HW2 HP0 HP1 HW1 HB1
  refine wp_region_held_drew (S := fun w' => w'.cell? ⟨p0, 0, none⟩ = some (ptr hi)) (by kernel_rfl) c0 (fun hHeld => ?_)
  refine wpAnyH_take (i := 0) (v := ?_) rfl (by kernel_rfl) (by kernel_rfl) (by kernel_rfl) (fun _ _ _ h => h) (Or.inl ⟨by kernel_rfl, ?_⟩) (by assumption) ?_
  rotate_left
  · (intro w hSw; (try dsimp only at hSw); go_simp) <;> with_reducible rfl
  (try simp only [Act.put, List.getElem_toArray, List.getElem_cons_zero, List.setIfInBounds_toArray, List.set_cons_zero, List.set_cons_succ])
  refine wpAnyH_take (i := 1) (v := ?_) rfl (by kernel_rfl) (by kernel_rfl) (by kernel_rfl) (fun _ _ _ h => h) (Or.inl ⟨by kernel_rfl, ?_⟩) (by assumption) ?_
  rotate_left
  · (intro w hSw; (try dsimp only at hSw); go_simp) <;> with_reducible rfl
  (try simp only [Act.put, List.getElem_toArray, List.getElem_cons_zero, List.getElem_cons_succ, List.setIfInBounds_toArray, List.set_cons_zero, List.set_cons_succ])
  refine wpAnyH_take (i := 2) (v := ?_) rfl (by kernel_rfl) (by kernel_rfl) (by kernel_rfl) (fun _ _ _ h => h) (Or.inl ⟨by kernel_rfl, ?_⟩) (by assumption) ?_
  rotate_left
  · (intro w hSw; (try dsimp only at hSw); go_simp) <;> with_reducible rfl
  (try simp only [Act.put, List.getElem_toArray, List.getElem_cons_zero, List.getElem_cons_succ, List.setIfInBounds_toArray, List.set_cons_zero, List.set_cons_succ])
  refine wpAnyH_ready (rs := [3]) (by kernel_rfl) (by simp) ?_
  refine AllReadyH.cons rfl (fun K hK => ?_) AllReadyH.nil
  go_simp
  refine hW.mono ?_
  rintro e w3 ⟨v, rfl, hv, hb3⟩
  have hb3' : Below W2.heap.size W2 w3 := ⟨hb3.os, hb3.tape, hb3.output, hb3.size, hb3.block⟩
  obtain ⟨ga, oa, ca, rfl, hcell⟩ := hv.has (by simp)
  have HQ0' : Hid (w3.heap[p0]? = some (.cells #[ptr hi, ptr hb] 256)) := (hb3'.block _ (lt_of_heap HQ0.out)).trans HQ0.out
  have HQ1' : Hid (w3.heap[p1]? = some (.cells zc 250)) := (hb3'.block _ (lt_of_heap HQ1.out)).trans HQ1.out
  have hq2' : w3.heap[p2]? = some (.cells (urow U0) 250) := by rw [← HRq.out]; exact (hb3'.block _ (lt_of_heap HQ2.out)).trans HQ2.out
  have hcp := fun ty => copy_part (ws := [x]) hq2' HU0.out 2 30 30 rfl (by simp) ga oa ca hcell ty
  have HB3 : Hid (Below w.heap.size w w3) := HB2.out.trans (hb3'.mono HB2.out.size)
  obtain ⟨U1, hU1⟩ : ∃ U, U = splice U0 2 (ints [x]) := ⟨_, rfl⟩
  have HU1 : Hid (U1.length = 32) := by rw [hU1]; show _ = _; rw [splice_length _ _ _ (by rw [HU0.out, ints_len]; simp), HU0.out]
  have HU1q : Hid (U1 = splice U0 2 (ints [x])) := hU1
  rw [← hU1] at hcp
  obtain ⟨R1, hR1⟩ : ∃ R, R = urow U1 := ⟨_, rfl⟩
  rw [← hR1] at hcp
  dsimp only [List.length_cons, List.length_nil] at hcp
  have HR1q : Hid (R1 = urow U1) := hR1
  have HQ2' : Hid ((w3.setRow p2 R1).heap[p2]? = some (.cells R1 250)) := setRow_heap w3 p2 _ _ _ _ hq2'
  have HQ0'' : Hid ((w3.setRow p2 R1).heap[p0]? = some (.cells #[ptr hi, ptr hb] 256)) := (setRow_other _ _ _ _ HPs.out.2.2.2.2.1).trans HQ0'.out
  have HQ1'' : Hid ((w3.setRow p2 R1).heap[p1]? = some (.cells zc 250)) := (setRow_other _ _ _ _ HPs.out.2.2.2.2.2).trans HQ1'.out
  have hc3 : w3.cell? ⟨p0, 0, none⟩ = some (ptr hi) := by rw [cell_of_heap HQ0'.out]; rfl
  have hc4 : (w3.setRow p2 R1).cell? ⟨p0, 0, none⟩ = some (ptr hi) := by rw [cell_of_heap HQ0''.out]; rfl
  have HB4 : Hid (Below w.heap.size w (w3.setRow p2 R1)) := HB3.out.trans ((Upd.setRow p2 w3 R1).below HPs.out.2.2.1 HB3.out.size)
  clear hb3 hb3' hv hcell hq2' hU1 hR1 hW HQ0' HQ1' HB3 HQ0 HQ1 HQ2 HB2
  refine hK.out _ _ hc3 (fun hHeld => ?_)
  clear hK K
  (try simp only [Act.put, List.getElem_toArray, List.getElem_cons_zero, List.getElem_cons_succ, List.setIfInBounds_toArray, List.set_cons_zero, List.set_cons_succ])
  refine wpAnyH_ready (rs := [4]) (by kernel_rfl) (by simp) ?_
  refine AllReadyH.cons rfl (fun K hK => ?_) AllReadyH.nil
  go_simp
  refine hK.out _ _ hc4 (fun hHeld => ?_)
  clear hK K
  (try simp only [Act.put, List.getElem_toArray, List.getElem_cons_zero, List.getElem_cons_succ, List.setIfInBounds_toArray, List.set_cons_zero, List.set_cons_succ])
  refine wpAnyH_done (by kernel_rfl) ?_ _
  clear hcp hc3 c0
  obtain ⟨W4, hW4⟩ : ∃ W, W = w3.setRow p2 R1 := ⟨_, rfl⟩
  rw [← hW4] at HQ2' HQ0'' HQ1'' hc4 HB4 ⊢
  clear hW4
  go_wp2_with fail
  have c1 : W4.cell? ⟨p0, 1, none⟩ = some (ptr hb) := by rw [cell_of_heap HQ0''.out]; rfl
  have hW := Bi.words_at hb gb n bw W4.drew (HH.out.bb.below (HB4.out.trans ((Di.drewN_below (w := W4) ⟨1, rfl⟩).mono HB4.out.size)))
  clear hc4
  refine wp_region_held_drew (S := fun w' => w'.cell? ⟨p0, 1, none⟩ = some (ptr hb)) (by kernel_rfl) c1 (fun hHeld => ?_)
  refine wpAnyH_take (i := 0) (v := ?_) rfl (by kernel_rfl) (by kernel_rfl) (by kernel_rfl) (fun _ _ _ h => h) (Or.inl ⟨by kernel_rfl, ?_⟩) (by assumption) ?_
  rotate_left
  · (intro w hSw; (try dsimp only at hSw); go_simp) <;> with_reducible rfl
  (try simp only [Act.put, List.getElem_toArray, List.getElem_cons_zero, List.setIfInBounds_toArray, List.set_cons_zero, List.set_cons_succ])
  refine wpAnyH_take (i := 1) (v := ?_) rfl (by kernel_rfl) (by kernel_rfl) (by kernel_rfl) (fun _ _ _ h => h) (Or.inl ⟨by kernel_rfl, ?_⟩) (by assumption) ?_
  rotate_left
  · (intro w hSw; (try dsimp only at hSw); go_simp) <;> with_reducible rfl
  (try simp only [Act.put, List.getElem_toArray, List.getElem_cons_zero, List.getElem_cons_succ, List.setIfInBounds_toArray, List.set_cons_zero, List.set_cons_succ])
  refine wpAnyH_take (i := 2) (v := ?_) rfl (by kernel_rfl) (by kernel_rfl) (by kernel_rfl) (fun _ _ _ h => h) (Or.inl ⟨by kernel_rfl, ?_⟩) (by assumption) ?_
  rotate_left
  · (intro w hSw; (try dsimp only at hSw); go_simp) <;> with_reducible rfl
  (try simp only [Act.put, List.getElem_toArray, List.getElem_cons_zero, List.getElem_cons_succ, List.setIfInBounds_toArray, List.set_cons_zero, List.set_cons_succ])
  refine wpAnyH_ready (rs := [3]) (by kernel_rfl) (by simp) ?_
  refine AllReadyH.cons rfl (fun K hK => ?_) AllReadyH.nil
  go_simp
  refine hW.mono ?_
  rintro e w5 ⟨v, rfl, hv, hb5⟩
  have hb5' : Below W4.heap.size W4 w5 := ⟨hb5.os, hb5.tape, hb5.output, hb5.size, hb5.block⟩
  obtain ⟨gc, oc, cc, rfl, hcell⟩ := hv.has (by rw [HBl.out]; omega)
  have HQ0' : Hid (w5.heap[p0]? = some (.cells #[ptr hi, ptr hb] 256)) := (hb5'.block _ (lt_of_heap HQ0''.out)).trans HQ0''.out
  have HQ1' : Hid (w5.heap[p1]? = some (.cells zc 250)) := (hb5'.block _ (lt_of_heap HQ1''.out)).trans HQ1''.out
  have hq2' : w5.heap[p2]? = some (.cells (urow U1) 250) := by rw [← HR1q.out]; exact (hb5'.block _ (lt_of_heap HQ2'.out)).trans HQ2'.out
  have hcp := fun ty => copy_part (ws := bw) hq2' HU1.out 3 29 29 rfl (by rw [HBl.out]; omega) gc oc cc hcell ty
  have HB5 : Hid (Below w.heap.size w w5) := HB4.out.trans (hb5'.mono HB4.out.size)
  obtain ⟨U2, hU2⟩ : ∃ U, U = splice U1 3 (ints bw) := ⟨_, rfl⟩
  have HU2 : Hid (U2.length = 32) := by rw [hU2]; show _ = _; rw [splice_length _ _ _ (by rw [HU1.out, ints_len, HBl.out]; omega), HU1.out]
  have HU2q : Hid (U2 = hdW n [x] bw) := by
    rw [hU2, HU1q.out, HUq.out]
    exact hdW_splice n x (by rw [HBl.out]; omega)
  rw [← hU2] at hcp
  obtain ⟨R2, hR2⟩ : ∃ R, R = urow U2 := ⟨_, rfl⟩
  rw [← hR2] at hcp
  have HR2q : Hid (R2 = urow U2) := hR2
  have HR2s : Hid (R2.size = 32) := by rw [hR2]; show _ = _; rw [urow_size]; exact HU2.out
  have HR2o : Hid (R2.all (·.oneCell') = true) := by rw [hR2]; exact urow_one _
  have HQ2'' : Hid ((w5.setRow p2 R2).heap[p2]? = some (.cells R2 250)) := setRow_heap w5 p2 _ _ _ _ hq2'
  have HQ0a : Hid ((w5.setRow p2 R2).heap[p0]? = some (.cells #[ptr hi, ptr hb] 256)) := (setRow_other _ _ _ _ HPs.out.2.2.2.2.1).trans HQ0'.out
  have HQ1a : Hid ((w5.setRow p2 R2).heap[p1]? = some (.cells zc 250)) := (setRow_other _ _ _ _ HPs.out.2.2.2.2.2).trans HQ1'.out
  have hc3 : w5.cell? ⟨p0, 1, none⟩ = some (ptr hb) := by rw [cell_of_heap HQ0'.out]; rfl
  have hc4 : (w5.setRow p2 R2).cell? ⟨p0, 1, none⟩ = some (ptr hb) := by rw [cell_of_heap HQ0a.out]; rfl
  have HB6 : Hid (Below w.heap.size w (w5.setRow p2 R2)) := HB5.out.trans ((Upd.setRow p2 w5 R2).below HPs.out.2.2.1 HB5.out.size)
  clear hb5 hb5' hv hcell hq2' hU2 hR2 hW
  generalize bw.length = BL at *
  refine hK.out _ _ hc3 (fun hHeld => ?_)
  clear hK K
  (try simp only [Act.put, List.getElem_toArray, List.getElem_cons_zero, List.getElem_cons_succ, List.setIfInBounds_toArray, List.set_cons_zero, List.set_cons_succ])
  refine wpAnyH_ready (rs := [4]) (by kernel_rfl) (by simp) ?_
  refine AllReadyH.cons rfl (fun K hK => ?_) AllReadyH.nil
  go_simp
  refine hK.out _ _ hc4 (fun hHeld => ?_)
  clear hK K
  (try simp only [Act.put, List.getElem_toArray, List.getElem_cons_zero, List.getElem_cons_succ, List.setIfInBounds_toArray, List.set_cons_zero, List.set_cons_succ])
  refine wpAnyH_done (by kernel_rfl) ?_ _
  clear hcp hc3 hc4 c1
  obtain ⟨W6, hW6⟩ : ∃ W, W = w5.setRow p2 R2 := ⟨_, rfl⟩
  rw [← hW6] at HQ2'' HQ0a HQ1a HB6 ⊢
  clear hW6
  have HQr : Hid ((W6.setRow p1 R2).heap[p1]? = some (.cells R2 250)) := setRow_heap W6 p1 _ _ _ _ HQ1a.out
  go_wp2_with (first
    | (refine wpList_load_row rfl 250 _ rfl p2 rfl 250 R2 (0, 0) _ HQ2''.out Tryz.underlying250 rfl (by rw [HR2s.out]; exact contSize) ?_)
    | (refine wpList_store_row rfl 250 _ _ rfl p1 R2 rfl rfl 250 zc HQ1a.out (by rw [HR2s.out]; exact contSize) (by rw [HR2s.out]; rfl) HR2o.out ?_)
    | go_in)
  refine bodyPost_ret (v := .agg R2) ?_ rfl ⟨by rw [HR2q.out, HU2q.out], ?_⟩
  · rw [results_cell_row rfl _ _ p1 250 R2 (0, 0) _ rfl HQr.out Tryz.underlying250 rfl (by rw [HR2s.out]; exact contSize)]
  · exact HB6.out.trans ((Upd.setRow p1 W6 R2).below HPs.out.2.1 HB6.out.size)
end
end Go.Proofs.YtnlhedpfhgoncabGreatDoor
