/- Package inode: a draft is laid: lay. -/
import Derived.Test.YtcaofdbcgdgbbaaGreatDoorInoC
namespace Go.Proofs.YtcaofdbcgdgbbaaGreatDoor
open Go.RowKit
set_option linter.unusedVariables false

theorem frames_ext {n : Nat} {us ws : List Int} (hu : us.length = n * 32) (hw : ws.length = n * 32) (h : ∀ b, b < n → frameOf us b = frameOf ws b) : us = ws := by
  refine list_ext_getD _ _ (hu.trans hw.symm) fun i hi => ?_
  have hb : i / 32 < n := by omega
  have e := congrArg (fun l => l.getD (i % 32) 0) (h _ hb)
  simp only [frameOf_getD _ _ _ (Nat.mod_lt i (show 0 < 32 by omega))] at e
  rw [show i / 32 * 32 + i % 32 = i by omega] at e
  exact e
section
variable {w w' : World} {base bd B G n m : Nat} {vs ws : List Int}
set_option maxHeartbeats 2000000 in
set_option maxRecDepth 100000 in
theorem dlay_at (h : Dr w base bd B G n vs ws m) (hm : m ≤ 900000000000) :
    Calls Tryz.prog 44 #[ptr bd] w fun e w' => e = .returned (.int .i64 0) ∧ (∃ gt pt, Di.DiskAt w' B G n ws gt pt ∧ gt ≤ m + 1024 ∧ pt ≤ m + 1024) ∧ UpdP (fun k => k = B ∨ k = G) w w' := by
  obtain ⟨sv, S, h⟩ := h
  have HH : Hid (DrAt w base bd B G n vs ws m sv S) := h
  obtain ⟨a, cap, rfl⟩ := own_slice h.own
  have c1 : w.cell? ⟨bd, 1, none⟩ = some (.slice a S.length cap) := by rw [cell_of_heap h.head]; rfl
  have c2 : w.cell? ⟨bd, 2, none⟩ = some (.int .i64 0) := by rw [cell_of_heap h.head]; rfl
  have hle := h.few
  have hnn := h.nn
  obtain ⟨gt, pt, hd, hg1, hg2⟩ := h.disk
  have HD : Hid _ := hd
  have HG : Hid (gt ≤ m + S.length ∧ pt ≤ m) := ⟨hg1, hg2⟩
  have HK : Hid (bd ≠ B ∧ bd ≠ G ∧ (∀ p ∈ S, p.2 ≠ B ∧ p.2 ≠ G)) := by
    have h1 := h.low
    have h2 := h.bB
    refine ⟨by omega, by omega, fun p hp => ?_⟩
    have := (h.sh p hp).1
    omega
  have HS : Hid (∀ k, k < S.length → ∃ g q0 q, S[k]? = some (q0, q) ∧ a = some ⟨g, 0, none⟩ ∧ g ≠ B ∧ g ≠ G ∧ w.cell? ⟨g, k, none⟩ = some (ptr q)) := by
    intro k hk
    rcases h.own.2 with ⟨_, e⟩ | ⟨g, cap', cur, e2, hg, hh, hc, _, hcs, ht⟩
    · omega
    · simp only [Value.slice.injEq] at e2
      obtain ⟨e2, -, -⟩ := e2
      have hp := List.getElem?_eq_getElem hk
      have h1 := h.low
      refine ⟨g, S[k].1, S[k].2, hp, e2, by omega, by omega, ?_⟩
      rw [cell_of_heap hh]
      have e1 : (cur.toList.take (S.length * 1))[k]? = (S.map (fun p => ptr p.2))[k]? := by rw [ht]
      rw [List.getElem?_take_of_lt (by omega), List.getElem?_map, hp] at e1
      simpa using e1
  clear h hd hg1 hg2
  obtain ⟨L, hL⟩ : ∃ L, L = S.length := ⟨_, rfl⟩
  have HL : Hid (L = S.length) := hL
  rw [← hL] at c1 hle HS HG
  clear hL
  go_enter Tryz.func44, Tryz.ntmps44
  go_wp2
  go_loopw [20] (fun s wr => ∃ (k pt' : Nat) (us : List Int), k ≤ L ∧ s = .int .i64 k ∧ Di.DiskAt wr B G n us gt pt' ∧ pt' ≤ m + k ∧ UpdP (fun k => k = B ∨ k = G) w wr ∧ Hid (∀ b, b < n → frameOf us b = if b ∈ (S.take k).map (fun p => p.1) then frameOf ws b else frameOf vs b)) (fun s _ => L - (intOf s).toNat)
  case atStart => exact ⟨0, pt, vs, by omega, rfl, HD.out, by have := HG.out; omega, UpdP.refl _ _, fun b _ => by simp⟩
  case round =>
    obtain ⟨k, pt', us, hk, rfl, hd, hpt, hu, HF⟩ := hrel
    have HU : Hid (UpdP (fun k => k = B ∨ k = G) w wr) := hu
    by_cases hlt : k < L
    · have hki : (k : Int) < (L : Int) := by omega
      obtain ⟨g, q0, q, hp, rfl, hgB, hgG, d0⟩ := HS.out k hlt
      have hmem := List.mem_of_getElem? hp
      obtain ⟨hbq, hq0, A, hA, hq⟩ := HH.out.sh _ hmem
      dsimp only at hbq hq0 hq
      have hqq := HK.out.2.2 _ hmem
      dsimp only at hqq
      have hq' : wr.heap[q]? = some (.cells (shRow q0 A (urow (frameOf ws q0))) 142) := (hu.block q (lt_of_heap hq) (by omega)).trans hq
      have hbd' : wr.heap[bd]? = w.heap[bd]? := hu.block bd (lt_of_heap HH.out.head) (by have := HK.out; omega)
      have e0 : wr.cell? ⟨bd, 0, none⟩ = some (sto B) := by rw [cell_of_heap (hbd'.trans HH.out.head)]; rfl
      have e1 : wr.cell? ⟨g, k, none⟩ = some (ptr q) := (World.cell?_of_block (hu.block g (cell_lt d0) (by omega))).trans d0
      have e2 : wr.cell? ⟨q, 0, none⟩ = some (.int .i64 (q0 : Int)) := by rw [cell_of_heap hq']; exact shRow_0 _ _ _
      have HLw : Hid _ := frameOf_length ws q0 n HH.out.len hq0
      have e3 : wr.rangeAt q 33 (uvs (frameOf ws q0)) := by
        intro j v hv
        rw [cell_of_heap hq', shRow_now hA, urow]
        simpa [uvs] using hv
      obtain ⟨Rl, hRl⟩ : ∃ R, R = uvs (frameOf ws q0) := ⟨_, rfl⟩
      have HRl : Hid (Rl.length = 32) := by show _ = _; rw [hRl, uvs_len]; exact HLw.out
      have hput : Calls Tryz.prog 76 #[sto B, .int .i64 q0, .agg Rl.toArray] wr.drew fun e w' => e = .returned (.int .i64 0) ∧ Di.DiskAt w' B G n (splice us (q0 * 32) (frameOf ws q0)) gt (pt' + 1) ∧ UpdP (fun k => k = B ∨ k = G) wr.drew w' := by
        rw [hRl]
        exact iput_at (w := wr.drew) (hd.keep rfl rfl) q0 hq0 (by omega) (frameOf ws q0) HLw.out
      rw [← hRl] at e3
      have HP : Hid (S[k]? = some (q0, q)) := hp
      have hs0 : wr.cell? ⟨bd, 0, none⟩ = some (sto B) ∧ wr.cell? ⟨q, 0, none⟩ = some (.int .i64 (q0 : Int)) ∧ wr.rangeAt q 33 Rl := ⟨e0, e2, e3⟩
      have HKq : Hid (bd ≠ B ∧ bd ≠ G ∧ q ≠ B ∧ q ≠ G ∧ bd < wr.heap.size ∧ q < wr.heap.size) := ⟨HK.out.1, HK.out.2.1, hqq.1, hqq.2, cell_lt e0, lt_of_heap hq'⟩
      have HDl : Hid (us.length = n * 32) := hd.len
      have HDq : Hid (q0 < n) := hq0
      clear hp hmem hbq hq0 hA hq hqq hq' hbd' hu hd e3 hRl d0 hgB hgG HS
      go_wp2_with fail
      refine wp_region_held_drew (S := fun w' => w'.cell? ⟨bd, 0, none⟩ = some (sto B) ∧ w'.cell? ⟨q, 0, none⟩ = some (.int .i64 (q0 : Int)) ∧ w'.rangeAt q 33 Rl) (by kernel_rfl) hs0 (fun hHeld => ?_)
      refine wpAnyH_take (i := 0) (v := ?_) rfl (by kernel_rfl) (by kernel_rfl) (by kernel_rfl) (fun _ _ _ h => h) (Or.inl ⟨by kernel_rfl, ?_⟩) (by assumption) ?_
      rotate_left
      · (intro w hSw; (try dsimp only at hSw); go_simp) <;> with_reducible rfl
      (try simp only [Act.put, List.getElem_toArray, List.getElem_cons_zero, List.setIfInBounds_toArray, List.set_cons_zero, List.set_cons_succ])
      refine wpAnyH_take (i := 1) (v := ?_) rfl (by kernel_rfl) (by kernel_rfl) (by kernel_rfl) (fun _ _ _ h => h) (Or.inl ⟨by kernel_rfl, ?_⟩) (by assumption) ?_
      rotate_left
      · (intro w hSw; (try dsimp only at hSw); go_simp) <;> with_reducible rfl
      (try simp only [Act.put, List.getElem_toArray, List.getElem_cons_zero, List.getElem_cons_succ, List.setIfInBounds_toArray, List.set_cons_zero, List.set_cons_succ])
      refine wpAnyH_take (i := 2) (v := ?_) rfl (by kernel_rfl) (by kernel_rfl) (by kernel_rfl) (fun _ _ _ h => h) (Or.inl ⟨by kernel_rfl, ?_⟩) (by assumption) ?_
      rotate_left
      · (intro w hSw; (try dsimp only at hSw); go_simp) <;> with_reducible rfl
      (try simp only [Act.put, List.getElem_toArray, List.getElem_cons_zero, List.getElem_cons_succ, List.setIfInBounds_toArray, List.set_cons_zero, List.set_cons_succ])
      refine wpAnyH_take (i := 3) (v := ?_) rfl (by kernel_rfl) (by kernel_rfl) (by kernel_rfl) (fun _ _ _ h => h) (Or.inl ⟨by kernel_rfl, ?_⟩) (by assumption) ?_
      rotate_left
      · (intro w hSw; (try dsimp only at hSw); go_simp) <;> with_reducible rfl
      (try simp only [Act.put, List.getElem_toArray, List.getElem_cons_zero, List.getElem_cons_succ, List.setIfInBounds_toArray, List.set_cons_zero, List.set_cons_succ])
      refine wpAnyH_take (i := 4) (v := ?_) rfl (by kernel_rfl) (by kernel_rfl) (by kernel_rfl) (fun _ _ _ h => h) (Or.inl ⟨by kernel_rfl, ?_⟩) (by assumption) ?_
      rotate_left
      · (intro w hSw; (try dsimp only at hSw); go_simp) <;> with_reducible rfl
      (try simp only [Act.put, List.getElem_toArray, List.getElem_cons_zero, List.getElem_cons_succ, List.setIfInBounds_toArray, List.set_cons_zero, List.set_cons_succ])
      refine wpAnyH_take (i := 5) (v := ?_) rfl (by kernel_rfl) (by kernel_rfl) (by kernel_rfl) (fun _ _ _ h => h) (Or.inl ⟨by kernel_rfl, ?_⟩) (by assumption) ?_
      rotate_left
      · (intro w hSw; (try dsimp only at hSw); go_simp) <;> with_reducible rfl
      (try simp only [Act.put, List.getElem_toArray, List.getElem_cons_zero, List.getElem_cons_succ, List.setIfInBounds_toArray, List.set_cons_zero, List.set_cons_succ])
      refine wpAnyH_take (i := 6) (v := ?_) rfl (by kernel_rfl) (by kernel_rfl) (by kernel_rfl) (fun _ _ _ h => h) (Or.inl ⟨by kernel_rfl, ?_⟩) (by assumption) ?_
      rotate_left
      · (intro w hSw; (try dsimp only at hSw); go_simp) <;> with_reducible rfl
      (try simp only [Act.put, List.getElem_toArray, List.getElem_cons_zero, List.getElem_cons_succ, List.setIfInBounds_toArray, List.set_cons_zero, List.set_cons_succ])
      refine wpAnyH_take (i := 7) (v := ?_) rfl (by kernel_rfl) (by kernel_rfl) (by kernel_rfl) (fun _ _ _ h => h) (Or.inl ⟨by kernel_rfl, ?_⟩) (by assumption) ?_
      rotate_left
      · (intro w hSw; (try dsimp only at hSw); go_simp) <;> with_reducible rfl
      (try simp only [Act.put, List.getElem_toArray, List.getElem_cons_zero, List.getElem_cons_succ, List.setIfInBounds_toArray, List.set_cons_zero, List.set_cons_succ])
      refine wpAnyH_take (i := 8) (v := ?_) rfl (by kernel_rfl) (by kernel_rfl) (by kernel_rfl) (fun _ _ _ h => h) (Or.inl ⟨by kernel_rfl, ?_⟩) (by assumption) ?_
      rotate_left
      · (intro w hSw; (try dsimp only at hSw); go_simp) <;> with_reducible rfl
      (try simp only [Act.put, List.getElem_toArray, List.getElem_cons_zero, List.getElem_cons_succ, List.setIfInBounds_toArray, List.set_cons_zero, List.set_cons_succ])
      refine wpAnyH_take (i := 9) (v := ?_) rfl (by kernel_rfl) (by kernel_rfl) (by kernel_rfl) (fun _ _ _ h => h) (Or.inl ⟨by kernel_rfl, ?_⟩) (by assumption) ?_
      rotate_left
      · (intro w hSw; (try dsimp only at hSw); go_simp) <;> with_reducible rfl
      (try simp only [Act.put, List.getElem_toArray, List.getElem_cons_zero, List.getElem_cons_succ, List.setIfInBounds_toArray, List.set_cons_zero, List.set_cons_succ])
      refine wpAnyH_take (i := 10) (v := ?_) rfl (by kernel_rfl) (by kernel_rfl) (by kernel_rfl) (fun _ _ _ h => h) (Or.inl ⟨by kernel_rfl, ?_⟩) (by assumption) ?_
      rotate_left
      · (intro w hSw; (try dsimp only at hSw); go_simp) <;> with_reducible rfl
      (try simp only [Act.put, List.getElem_toArray, List.getElem_cons_zero, List.getElem_cons_succ, List.setIfInBounds_toArray, List.set_cons_zero, List.set_cons_succ])
      refine wpAnyH_take (i := 11) (v := .agg (Rl).toArray) rfl (by kernel_rfl) (by kernel_rfl) (by kernel_rfl) (fun _ _ _ h => h) (yieldsIf_load_mid (by kernel_rfl) 122 _ rfl q 33 rfl (Rl) _ (fun w h => h.2.2) Tryz.underlying122 rfl (by rw [HRl.out]; exact contSize)) (by assumption) ?_
      (try simp only [Act.put, List.getElem_toArray, List.getElem_cons_zero, List.getElem_cons_succ, List.setIfInBounds_toArray, List.set_cons_zero, List.set_cons_succ])
      refine wpAnyH_ready (rs := [12]) (by kernel_rfl) (by simp) ?_
      refine AllReadyH.cons rfl (fun K hK => ?_) AllReadyH.nil
      go_simp
      refine hput.mono ?_
      rintro e w1 ⟨rfl, hd1, hu1⟩
      have HD1 : Hid _ := hd1
      have hu2 : UpdP (fun k => k = B ∨ k = G) wr w1 := ⟨hu1.os, hu1.tape, hu1.output, hu1.size, hu1.block⟩
      have HU1 : Hid (UpdP (fun k => k = B ∨ k = G) w w1) := HU.out.trans hu2
      have hs1 : w1.cell? ⟨bd, 0, none⟩ = some (sto B) ∧ w1.cell? ⟨q, 0, none⟩ = some (.int .i64 (q0 : Int)) ∧ w1.rangeAt q 33 Rl := by
        have hk1 := HKq.out
        have b1 := hu2.block bd hk1.2.2.2.2.1 (by omega)
        have b2 := hu2.block q hk1.2.2.2.2.2 (by omega)
        refine ⟨(World.cell?_of_block b1).trans hs0.1, (World.cell?_of_block b2).trans hs0.2.1, fun j v hv => (World.cell?_of_block b2).trans (hs0.2.2 j v hv)⟩
      clear hd1 hu1 hu2 hput
      refine hK.out _ _ hs1 (fun hHeld => ?_)
      clear hK K
      (try simp only [Act.put, List.getElem_toArray, List.getElem_cons_zero, List.getElem_cons_succ, List.setIfInBounds_toArray, List.set_cons_zero, List.set_cons_succ])
      refine wpAnyH_take (i := 13) (v := ?_) rfl (by kernel_rfl) (by kernel_rfl) (by kernel_rfl) (fun _ _ _ h => h) (Or.inl ⟨by kernel_rfl, ?_⟩) (by assumption) ?_
      rotate_left
      · (intro w hSw; (try dsimp only at hSw); go_simp) <;> with_reducible rfl
      (try simp only [Act.put, List.getElem_toArray, List.getElem_cons_zero, List.getElem_cons_succ, List.setIfInBounds_toArray, List.set_cons_zero, List.set_cons_succ])
      refine wpAnyH_done (by kernel_rfl) ?_ _
      clear hs0 hs1 e0 e2
      go_wp2
      go_roundw
      case rel =>
        refine ⟨k + 1, pt' + 1, _, by omega, by go_num, HD1.out, by omega, HU1.out, fun b hb => ?_⟩
        have hP : S[k]? = some (q0, q) := HP.out
        rw [frame_splice us _ n q0 b HDl.out HDq.out hb HLw.out, HF.out b hb, List.take_add_one, hP]
        by_cases e : b = q0
        · rw [if_pos e, if_pos (by simp [e]), e]
        · rw [if_neg e]
          by_cases q1 : b ∈ (S.take k).map (fun p => p.1)
          · rw [if_pos q1, if_pos (by rw [List.map_append]; exact List.mem_append_left _ q1)]
          · rw [if_neg q1, if_neg (by rw [List.map_append, List.mem_append]; rintro (h | h); exact q1 h; simp at h; exact e h)]
      case measure => simp [intOf]; omega
    · obtain rfl : k = L := by omega
      have hus : us = ws := frames_ext hd.len HH.out.len (fun b hb => by
        rw [HF.out b hb, HL.out, List.take_length]
        by_cases q1 : b ∈ S.map (fun p => p.1)
        · rw [if_pos q1]
        · rw [if_neg q1, HH.out.out b hb q1])
      have HE : Hid (Di.DiskAt wr B G n ws gt pt') := by rw [← hus]; exact hd
      clear hd hu hus HS HK
      go_wp2
      go_ret
      exact ⟨rfl, ⟨gt, pt', HE.out, by have := HG.out; omega, by omega⟩, HU.out⟩
end
end Go.Proofs.YtcaofdbcgdgbbaaGreatDoor
