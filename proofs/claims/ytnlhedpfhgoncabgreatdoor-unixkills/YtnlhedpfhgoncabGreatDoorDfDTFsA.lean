/- Package fscore: a draft over a disk is laid: lay. -/
/- Package fscore: must, told, attempt: what gives up by a panic is recovered. -/
import Derived.Test.YtnlhedpfhgoncabGreatDoorInoHTDfC
import Derived.Test.YtnlhedpfhgoncabGreatDoorInoETInoG
import Derived.ChangeKeysEq
import Derived.Defers
import Derived.Recover
set_option linter.all false
namespace Go.Proofs.YtnlhedpfhgoncabGreatDoor
open Go.RowKit
theorem wordCells : Tryz.prog.cellsOf 40 = 1 := by kernel_rfl
theorem wordPlain : Tryz.prog.plainKey 40 = true := by kernel_rfl
theorem wordsUnder : Tryz.prog.underlying 241 = some (.array 32 40) := by kernel_rfl
theorem eq_items (us ws : List Int) (d : Nat) (W : World) : ∀ (is : List Nat), (∀ i ∈ is, i < us.length ∧ i < ws.length) → (Op.eqItems (d + 1) 40 1 (urow us) (urow ws) is).run Tryz.prog W = .ok (is.all (fun j => us.getD j 0 == ws.getD j 0)) W
  | [], _ => by simp [Op.eqItems]
  | i :: is, h => by
    obtain ⟨h1, h2⟩ := h i List.mem_cons_self
    have e1 := urow_get us i h1
    have e2 := urow_get ws i h2
    have p1 := run_part_plain (P := Tryz.prog) W wordPlain e1
    have p2 := run_part_plain (P := Tryz.prog) W wordPlain e2
    have ih := eq_items us ws d W is (fun j hj => h j (List.mem_cons_of_mem _ hj))
    have q := run_equalIn_int (P := Tryz.prog) W d 40 .u64 .u64 (us.getD i 0) (ws.getD i 0) Tryz.underlying40
    simp only [Op.eqItems, Nat.mul_one, Sem.run_bind, p1, p2, Result.andThen_ok, q, List.all_cons]
    cases hb : (us.getD i 0 == ws.getD i 0) with
    | true => simp [ih]
    | false => simp
theorem all_same {us ws : List Int} (hu : us.length = 32) (hw : ws.length = 32) : (List.range 32).all (fun j => us.getD j 0 == ws.getD j 0) = decide (us = ws) := by
  by_cases e : us = ws
  · rw [decide_eq_true e, e]
    simp
  · rw [decide_eq_false e]
    rw [List.all_eq_false]
    refine Classical.byContradiction fun hn => e (list_ext_getD us ws (hu.trans hw.symm) fun i hi => ?_)
    refine Classical.byContradiction fun hne => hn ⟨i, List.mem_range.2 (by omega), by simpa using hne⟩
/-- Two blocks' words are held against each other. -/
theorem words_eq {us ws : List Int} (hu : us.length = 32) (hw : ws.length = 32) (W : World) : (binOp BinOp.eql 241 (.agg (urow us)) (.agg (urow ws))).run Tryz.prog W = .ok (.bool (decide (us = ws))) W := by
  have h1 : (Tryz.prog.info? 40).isSome = true := by kernel_rfl
  obtain ⟨i, hi⟩ := Option.isSome_iff_exists.mp h1
  have h2 : (Op.equalIn 10000 241 (.agg (urow us)) (.agg (urow ws))).run Tryz.prog W = .ok (decide (us = ws)) W := by
    rw [run_equalIn_array W 9999 _ _ wordsUnder hi, wordCells, eq_items us ws 9998 W _ (fun i hi => by have := List.mem_range.1 hi; omega), all_same hu hw]
  go_simp
section
variable {w w' : World} {lo d B G n m : Nat} {P : Nat → Prop} {vs ws : List Int} {sv : Value} {L : List (Nat × Nat)}
set_option maxHeartbeats 2000000 in
set_option maxRecDepth 100000 in
theorem flay_at (h : DfAt w (dsk lo B G) lo d P n vs ws m sv L) (hm : m ≤ 900000000000) :
    Calls Tryz.prog 72 #[ptr d] w fun e w' => e = .returned (.int .i64 0) ∧ Dk w' (dsk lo B G) n ws (m + 1024) ∧ ST lo w w' := by
  have HH : Hid (DfAt w (dsk lo B G) lo d P n vs ws m sv L) := h
  obtain ⟨a, cap, rfl⟩ := own_slice h.own
  have c1 : w.cell? ⟨d, 1, none⟩ = some (.slice a L.length cap) := by rw [cell_of_heap h.head]; rfl
  have c2 : w.cell? ⟨d, 2, none⟩ = some (.int .i64 0) := by rw [cell_of_heap h.head]; rfl
  have hle := h.few
  have hnn := h.nn
  obtain ⟨hP, lB, lG, gt, pt, hd, hgt, hpt⟩ := h.st
  have HG : Hid (gt ≤ m ∧ pt ≤ m ∧ lo ≤ B ∧ lo ≤ G) := ⟨hgt, hpt, lB, lG⟩
  have hvl : vs.length = n * 32 := hd.len
  have HD : Hid (Di.DiskAt w B G n vs gt pt) := hd
  have HK : Hid (d ≠ B ∧ d ≠ G ∧ (∀ p ∈ L, p.2 ≠ B ∧ p.2 ≠ G)) := by
    have h1 := h.apd
    rw [hP] at h1
    refine ⟨fun e => h1 (Or.inl e), fun e => h1 (Or.inr e), fun p hp => ?_⟩
    have h2 := h.apl p hp
    rw [hP] at h2
    exact ⟨fun e => h2 (Or.inl e), fun e => h2 (Or.inr e)⟩
  have HS : Hid (∀ k, k < L.length → ∃ g q0 q, L[k]? = some (q0, q) ∧ a = some ⟨g, 0, none⟩ ∧ g ≠ B ∧ g ≠ G ∧ w.cell? ⟨g, k, none⟩ = some (ptr q)) := by
    intro k hk
    rcases h.own.2 with ⟨_, e⟩ | ⟨g, cap', cur, e2, hg, hh, hc, _, hcs, ht⟩
    · omega
    · simp only [Value.slice.injEq] at e2
      obtain ⟨e2, -, -⟩ := e2
      have hp := List.getElem?_eq_getElem hk
      have h2 := h.apo g (by rw [e2]; rfl)
      rw [hP] at h2
      refine ⟨g, L[k].1, L[k].2, hp, e2, fun e => h2 (Or.inl e), fun e => h2 (Or.inr e), ?_⟩
      rw [cell_of_heap hh]
      have e1 : (cur.toList.take (L.length * 1))[k]? = (L.map (fun p => ptr p.2))[k]? := by rw [ht]
      rw [List.getElem?_take_of_lt (by omega), List.getElem?_map, hp] at e1
      simpa using e1
  have HV : Hid (vs.length = n * 32) := hvl
  have hme := (dsk_ok lo B G).mput
  have hah := (dsk_ok lo B G).aput
  have hcf := (dsk_ok lo B G).cput
  clear h hd hgt hpt hvl lB lG
  obtain ⟨N, hN⟩ : ∃ N, N = L.length := ⟨_, rfl⟩
  have HN : Hid (N = L.length) := hN
  obtain ⟨i0, hi0, hzz⟩ := Option.map_eq_some_iff.1 leafInfo
  simp only [Prod.mk.injEq] at hzz
  obtain ⟨hz0, hz1, hz2⟩ := hzz
  rw [← hN] at c1 hle HS
  clear hN
  obtain ⟨M0, hM0⟩ : ∃ M, M = w.heap.size := ⟨_, rfl⟩
  have HM0 : Hid (M0 = w.heap.size) := hM0
  clear hM0
  go_enter Tryz.func72, Tryz.ntmps72
  go_wp2
  go_loopw [3, 21] (fun v s wr => ∃ (k z pt' : Nat) (us : List Int) (rs : List Value), k ≤ N ∧ z ≤ k ∧ s = .int .i64 k ∧ (∃ u, u = v ∧ wr.ownsRow M0 240 1 u z rs) ∧ Di.DiskAt wr B G n us gt pt' ∧ pt' ≤ m + k ∧ UpdP (fun j => j = B ∨ j = G ∨ M0 ≤ j) w wr ∧ Hid (∀ b, b < n → frameOf us b = if b ∈ (L.take k).map (fun p => p.1) then frameOf ws b else frameOf vs b)) (fun _ s _ => N - (intOf s).toNat)
  case atStart => exact ⟨0, 0, pt, vs, [], by omega, by omega, rfl, ⟨_, rfl, World.ownsRow_nil _ _ _ _⟩, HD.out, by have := HG.out; omega, UpdP.refl _ _, fun b _ => by simp⟩
  case round =>
    obtain ⟨k, z, pt', us, rs, hk, hzk, rfl, ⟨v, rfl, hown⟩, hd, hpt, hu, HF⟩ := hrel
    have HU : Hid (UpdP (fun j => j = B ∨ j = G ∨ M0 ≤ j) w wr) := hu
    obtain ⟨va, vc, rfl⟩ := own_slice hown
    have HOw : Hid (wr.ownsRow M0 240 1 (.slice va z vc) z rs) := hown
    by_cases hlt : k < N
    · have hki : (k : Int) < (N : Int) := by omega
      obtain ⟨g, q0, q, hp, rfl, hgB, hgG, d0⟩ := HS.out k hlt
      have hmem := List.mem_of_getElem? hp
      obtain ⟨hbq, hq0, hq⟩ := HH.out.lf _ hmem
      dsimp only at hbq hq0 hq
      have hqq := HK.out.2.2 _ hmem
      dsimp only at hqq
      have hM := HM0.out
      have hq' : wr.heap[q]? = some (.cells (shRow q0 (urow (frameOf vs q0)) (urow (frameOf ws q0))) 243) := (hu.block q (lt_of_heap hq) (by have := lt_of_heap hq; omega)).trans hq
      have hdd := lt_of_heap HH.out.head
      have hbd' : wr.heap[d]? = w.heap[d]? := hu.block d hdd (by have := HK.out; omega)
      have e0 : wr.cell? ⟨d, 0, none⟩ = some (.iface 34 (ptr B)) := by rw [cell_of_heap (hbd'.trans HH.out.head)]; rfl
      have e1 : wr.cell? ⟨g, k, none⟩ = some (ptr q) := (World.cell?_of_block (hu.block g (cell_lt d0) (by have := cell_lt d0; dsimp only at this; omega))).trans d0
      have e2 : wr.cell? ⟨q, 0, none⟩ = some (.int .i64 (q0 : Int)) := by rw [cell_of_heap hq']; exact shRow_0 _ _ _
      have HLw : Hid ((frameOf ws q0).length = 32) := frameOf_length ws q0 n HH.out.len hq0
      have HLv : Hid ((frameOf vs q0).length = 32) := frameOf_length vs q0 n HV.out hq0
      have hA : (urow (frameOf vs q0)).size = 32 := by rw [urow_size]; exact HLv.out
      have e3 : wr.rangeAt q 33 (uvs (frameOf ws q0)) := by
        intro j v hv
        rw [cell_of_heap hq', shRow_now hA, urow]
        simpa [uvs] using hv
      have e4 : wr.rangeAt q 1 (uvs (frameOf vs q0)) := by
        intro j v hv
        rw [cell_of_heap hq', shRow_old hA (by have := (List.getElem?_eq_some_iff.1 hv).1; rw [uvs_len, HLv.out] at this; exact this), urow]
        simpa [uvs] using hv
      have hWs : ∀ (j : Nat) (x : Int), (frameOf ws q0)[j]? = some x → wr.cell? ⟨q, 33 + j, none⟩ = some (.int .u64 x) := fun j x hx => e3 j _ (by simp [uvs, hx])
      have heq := words_eq HLw.out HLv.out
      obtain ⟨Rn, hRn⟩ : ∃ R, R = uvs (frameOf ws q0) := ⟨_, rfl⟩
      obtain ⟨Ro, hRo⟩ : ∃ R, R = uvs (frameOf vs q0) := ⟨_, rfl⟩
      have HRn : Hid (Rn.length = 32) := by show _ = _; rw [hRn, uvs_len]; exact HLw.out
      have HRo : Hid (Ro.length = 32) := by show _ = _; rw [hRo, uvs_len]; exact HLv.out
      have r1 : urow (frameOf ws q0) = Rn.toArray := by rw [hRn]; rfl
      have r2 : urow (frameOf vs q0) = Ro.toArray := by rw [hRo]; rfl
      rw [r1, r2] at heq
      rw [← hRn] at e3
      rw [← hRo] at e4
      have HP : Hid (L[k]? = some (q0, q)) := hp
      have HD' : Hid (Di.DiskAt wr B G n us gt pt') := hd
      have HDl : Hid (us.length = n * 32) := hd.len
      have HDq : Hid (q0 < n) := hq0
      have HWs : Hid (∀ (j : Nat) (x : Int), (frameOf ws q0)[j]? = some x → wr.cell? ⟨q, 33 + j, none⟩ = some (.int .u64 x)) := hWs
      have hs0 : wr.rangeAt q 33 Rn ∧ wr.rangeAt q 1 Ro := ⟨e3, e4⟩
      have HqB : Hid (q ≠ B ∧ q ≠ G ∧ q < wr.heap.size ∧ d < wr.heap.size ∧ d ≠ B ∧ d ≠ G ∧ M0 ≤ wr.heap.size) := by
        refine ⟨hqq.1, hqq.2, lt_of_heap hq', cell_lt e0, HK.out.1, HK.out.2.1, ?_⟩
        rw [hM]; exact hu.size
      clear hp hmem hbq hq0 hq hqq hq' hbd' hu hd e3 e4 hRn hRo d0 hgB hgG HS hA hWs r1 r2 hown hM hdd
      go_wp2_with fail
      refine wp_region_held_drew (S := fun w' => w'.rangeAt q 33 Rn ∧ w'.rangeAt q 1 Ro) (by kernel_rfl) hs0 (fun hHeld => ?_)
      refine wpAnyH_take (i := 0) (v := ?_) rfl (by kernel_rfl) (by kernel_rfl) (by kernel_rfl) (fun _ _ _ h => h) (Or.inl ⟨by kernel_rfl, ?_⟩) (by assumption) ?_
      rotate_left
      · (intro w hSw; (try dsimp only at hSw); go_simp) <;> with_reducible rfl
      (try simp only [Act.put, List.getElem_toArray, List.getElem_cons_zero, List.setIfInBounds_toArray, List.set_cons_zero, List.set_cons_succ])
      refine wpAnyH_take (i := 1) (v := ?_) rfl (by kernel_rfl) (by kernel_rfl) (by kernel_rfl) (fun _ _ _ h => h) (Or.inl ⟨by kernel_rfl, ?_⟩) (by assumption) ?_
      rotate_left
      · (intro w hSw; (try dsimp only at hSw); go_simp) <;> with_reducible rfl
      (try simp only [Act.put, List.getElem_toArray, List.getElem_cons_zero, List.getElem_cons_succ, List.setIfInBounds_toArray, List.set_cons_zero, List.set_cons_succ])
      refine wpAnyH_take (i := 2) (v := ?_) rfl (by kernel_rfl) (by kernel_rfl) (by kernel_rfl) (fun _ _ _ h => h) (Or.inl ⟨by kernel_rfl, ?_⟩) (by assumption) ?_
      rotate_left
      · (intro w hSw; (try dsimp only at hSw); go_simp) <;> with_reducible rfl
      (try simp only [Act.put, List.getElem_toArray, List.getElem_cons_zero, List.getElem_cons_succ, List.setIfInBounds_toArray, List.set_cons_zero, List.set_cons_succ])
      refine wpAnyH_take (i := 3) (v := .agg (Rn).toArray) rfl (by kernel_rfl) (by kernel_rfl) (by kernel_rfl) (fun _ _ _ h => h) (yieldsIf_load_mid (by kernel_rfl) 241 _ rfl q 33 rfl (Rn) _ (fun w h => h.1) Tryz.underlying241 rfl (by rw [HRn.out]; exact arrSize)) (by assumption) ?_
      (try simp only [Act.put, List.getElem_toArray, List.getElem_cons_zero, List.getElem_cons_succ, List.setIfInBounds_toArray, List.set_cons_zero, List.set_cons_succ])
      refine wpAnyH_take (i := 4) (v := ?_) rfl (by kernel_rfl) (by kernel_rfl) (by kernel_rfl) (fun _ _ _ h => h) (Or.inl ⟨by kernel_rfl, ?_⟩) (by assumption) ?_
      rotate_left
      · (intro w hSw; (try dsimp only at hSw); go_simp) <;> with_reducible rfl
      (try simp only [Act.put, List.getElem_toArray, List.getElem_cons_zero, List.getElem_cons_succ, List.setIfInBounds_toArray, List.set_cons_zero, List.set_cons_succ])
      refine wpAnyH_take (i := 5) (v := ?_) rfl (by kernel_rfl) (by kernel_rfl) (by kernel_rfl) (fun _ _ _ h => h) (Or.inl ⟨by kernel_rfl, ?_⟩) (by assumption) ?_
      rotate_left
      · (intro w hSw; (try dsimp only at hSw); go_simp) <;> with_reducible rfl
      (try simp only [Act.put, List.getElem_toArray, List.getElem_cons_zero, List.getElem_cons_succ, List.setIfInBounds_toArray, List.set_cons_zero, List.set_cons_succ])
      refine wpAnyH_take (i := 6) (v := ?_) rfl (by kernel_rfl) (by kernel_rfl) (by kernel_rfl) (fun _ _ _ h => h) (Or.inl ⟨by kernel_rfl, ?_⟩) (by assumption) ?_
      rotate_left
      · (intro w hSw; (try dsimp only at hSw); go_simp) <;> with_reducible rfl
      (try simp only [Act.put, List.getElem_toArray, List.getElem_cons_zero, List.getElem_cons_succ, List.setIfInBounds_toArray, List.set_cons_zero, List.set_cons_succ])
      refine wpAnyH_take (i := 7) (v := .agg (Ro).toArray) rfl (by kernel_rfl) (by kernel_rfl) (by kernel_rfl) (fun _ _ _ h => h) (yieldsIf_load_mid (by kernel_rfl) 241 _ rfl q 1 rfl (Ro) _ (fun w h => h.2) Tryz.underlying241 rfl (by rw [HRo.out]; exact arrSize)) (by assumption) ?_
      (try simp only [Act.put, List.getElem_toArray, List.getElem_cons_zero, List.getElem_cons_succ, List.setIfInBounds_toArray, List.set_cons_zero, List.set_cons_succ])
      refine wpAnyH_take (i := 8) (v := ?_) rfl (by kernel_rfl) (by kernel_rfl) (by kernel_rfl) (fun _ _ _ h => h) (Or.inl ⟨by kernel_rfl, ?_⟩) (by assumption) ?_
      rotate_left
      · (intro w hSw; (try dsimp only at hSw); go_simp) <;> with_reducible rfl
      (try simp only [Act.put, List.getElem_toArray, List.getElem_cons_zero, List.getElem_cons_succ, List.setIfInBounds_toArray, List.set_cons_zero, List.set_cons_succ])
      refine wpAnyH_done (by kernel_rfl) ?_ _
      clear hs0
      have hdr : wr.drew.heap = wr.heap := rfl
      by_cases hsame : frameOf ws q0 = frameOf vs q0
      · have hdec : decide (frameOf ws q0 = frameOf vs q0) = true := decide_eq_true hsame
        rw [hdec]
        have HSm : Hid (frameOf ws q0 = frameOf vs q0) := hsame
        clear hsame hdec heq
        go_wp2
        go_roundw
        case rel =>
          refine ⟨k + 1, z, pt', us, rs, by omega, by omega, by go_num, ⟨_, rfl, ownsRow_at HOw.out (fun _ _ => rfl)⟩, HD'.out.keep rfl rfl, by omega, ⟨HU.out.os, HU.out.tape, HU.out.output, HU.out.size, HU.out.block⟩, fun b hb => ?_⟩
          have hP : L[k]? = some (q0, q) := HP.out
          rw [HF.out b hb, List.take_add_one, hP]
          by_cases q1 : b ∈ (L.take k).map (fun p => p.1)
          · rw [if_pos q1, if_pos (by rw [List.map_append]; exact List.mem_append_left _ q1)]
          · rw [if_neg q1]
            by_cases e : b = q0
            · rw [if_pos (by simp [e]), e, HSm.out]
            · rw [if_neg (by rw [List.map_append, List.mem_append]; rintro (h | h); exact q1 h; simp at h; exact e h)]
        case measure => simp [intOf]; omega
      · have hdec : decide (frameOf ws q0 = frameOf vs q0) = false := decide_eq_false hsame
        rw [hdec]
        have HPut : Hid (∀ q1, Calls Tryz.prog 371 #[ptr B, .int .i64 q0, .slice (some ⟨q, 33, none⟩) 32 32] (wr.drewN q1) fun e w' => e = .returned (.int .i64 0) ∧ Di.DiskAt w' B G n (splice us (q0 * 32) (frameOf ws q0)) gt (pt' + 1) ∧ UpdP (fun k => k = B ∨ k = G) (wr.drewN q1) w') := fun q1 =>
          dput_at (w := wr.drewN q1) (HD'.out.keep rfl rfl) q0 HDq.out (by have := HG.out; omega) q 33 (frameOf ws q0) 32 HqB.out.1 HLw.out HWs.out
        have hs1 : wr.cell? ⟨d, 0, none⟩ = some (.iface 34 (ptr B)) ∧ wr.cell? ⟨q, 0, none⟩ = some (.int .i64 (q0 : Int)) := ⟨e0, e2⟩
        clear hsame hdec heq e0 e2 e1
        go_wp2_with fail
        refine wp_region_held_drew (S := fun w' => w'.cell? ⟨d, 0, none⟩ = some (.iface 34 (ptr B)) ∧ w'.cell? ⟨q, 0, none⟩ = some (.int .i64 (q0 : Int))) (by kernel_rfl) hs1 (fun hHeld => ?_)
        refine wpAnyH_take (i := 0) (v := ?_) rfl (by kernel_rfl) (by kernel_rfl) (by kernel_rfl) (fun _ _ _ h => h) (Or.inl ⟨by kernel_rfl, ?_⟩) (by assumption) ?_
        rotate_left
        · (intro w hSw; (try dsimp only at hSw); go_simp) <;> with_reducible rfl
        (try simp only [Act.put, List.getElem_toArray, List.getElem_cons_zero, List.setIfInBounds_toArray, List.set_cons_zero, List.set_cons_succ])
        refine wpAnyH_take (i := 1) (v := ?_) rfl (by kernel_rfl) (by kernel_rfl) (by kernel_rfl) (fun _ _ _ h => h) (Or.inl ⟨by kernel_rfl, ?_⟩) (by assumption) ?_
        rotate_left
        · (intro w hSw; (try dsimp only at hSw); go_simp) <;> with_reducible rfl
        (try simp only [Act.put, List.getElem_toArray, List.getElem_cons_zero, List.getElem_cons_succ, List.setIfInBounds_toArray, List.set_cons_zero, List.set_cons_succ])
        refine wpAnyH_take (i := 2) (v := ?_) rfl (by kernel_rfl) (by kernel_rfl) (by kernel_rfl) (fun _ _ _ h => h) (Or.inl ⟨by kernel_rfl, ?_⟩) (by assumption) ?_
        rotate_left
        · (intro w hSw; (try dsimp only at hSw); go_simp) <;> with_reducible rfl
        (try simp only [Act.put, List.getElem_toArray, List.getElem_cons_zero, List.getElem_cons_succ, List.setIfInBounds_toArray, List.set_cons_zero, List.set_cons_succ])
        refine wpAnyH_take (i := 3) (v := ?_) rfl (by kernel_rfl) (by kernel_rfl) (by kernel_rfl) (fun _ _ _ h => h) (Or.inl ⟨by kernel_rfl, ?_⟩) (by assumption) ?_
        rotate_left
        · (intro w hSw; (try dsimp only at hSw); go_simp) <;> with_reducible rfl
        (try simp only [Act.put, List.getElem_toArray, List.getElem_cons_zero, List.getElem_cons_succ, List.setIfInBounds_toArray, List.set_cons_zero, List.set_cons_succ])
        refine wpAnyH_take (i := 4) (v := ?_) rfl (by kernel_rfl) (by kernel_rfl) (by kernel_rfl) (fun _ _ _ h => h) (Or.inl ⟨by kernel_rfl, ?_⟩) (by assumption) ?_
        rotate_left
        · (intro w hSw; (try dsimp only at hSw); go_simp) <;> with_reducible rfl
        (try simp only [Act.put, List.getElem_toArray, List.getElem_cons_zero, List.getElem_cons_succ, List.setIfInBounds_toArray, List.set_cons_zero, List.set_cons_succ])
        refine wpAnyH_take (i := 5) (v := ?_) rfl (by kernel_rfl) (by kernel_rfl) (by kernel_rfl) (fun _ _ _ h => h) (Or.inl ⟨by kernel_rfl, ?_⟩) (by assumption) ?_
        rotate_left
        · (intro w hSw; (try dsimp only at hSw); go_simp) <;> with_reducible rfl
        (try simp only [Act.put, List.getElem_toArray, List.getElem_cons_zero, List.getElem_cons_succ, List.setIfInBounds_toArray, List.set_cons_zero, List.set_cons_succ])
        refine wpAnyH_take (i := 6) (v := ?_) rfl (by kernel_rfl) (by kernel_rfl) (by kernel_rfl) (fun _ _ _ h => h) (Or.inl ⟨by kernel_rfl, ?_⟩) (by assumption) ?_
        rotate_left
        · (intro w hSw; (try dsimp only at hSw); go_simp) <;> with_reducible rfl
        (try simp only [Act.put, List.getElem_toArray, List.getElem_cons_zero, List.getElem_cons_succ, List.setIfInBounds_toArray, List.set_cons_zero, List.set_cons_succ])
        refine wpAnyH_take (i := 7) (v := ?_) rfl (by kernel_rfl) (by kernel_rfl) (by kernel_rfl) (fun _ _ _ h => h) (Or.inl ⟨by kernel_rfl, ?_⟩) (by assumption) ?_
        rotate_left
        · (intro w hSw; (try dsimp only at hSw); go_simp) <;> with_reducible rfl
        (try simp only [Act.put, List.getElem_toArray, List.getElem_cons_zero, List.getElem_cons_succ, List.setIfInBounds_toArray, List.set_cons_zero, List.set_cons_succ])
        refine wpAnyH_take (i := 8) (v := ?_) rfl (by kernel_rfl) (by kernel_rfl) (by kernel_rfl) (fun _ _ _ h => h) (Or.inl ⟨by kernel_rfl, ?_⟩) (by assumption) ?_
        rotate_left
        · (intro w hSw; (try dsimp only at hSw); go_simp) <;> with_reducible rfl
        (try simp only [Act.put, List.getElem_toArray, List.getElem_cons_zero, List.getElem_cons_succ, List.setIfInBounds_toArray, List.set_cons_zero, List.set_cons_succ])
        refine wpAnyH_take (i := 9) (v := ?_) rfl (by kernel_rfl) (by kernel_rfl) (by kernel_rfl) (fun _ _ _ h => h) (Or.inl ⟨by kernel_rfl, ?_⟩) (by assumption) ?_
        rotate_left
        · (intro w hSw; (try dsimp only at hSw); go_simp) <;> with_reducible rfl
        (try simp only [Act.put, List.getElem_toArray, List.getElem_cons_zero, List.getElem_cons_succ, List.setIfInBounds_toArray, List.set_cons_zero, List.set_cons_succ])
        refine wpAnyH_take (i := 10) (v := ?_) rfl (by kernel_rfl) (by kernel_rfl) (by kernel_rfl) (fun _ _ _ h => h) (Or.inl ⟨by kernel_rfl, ?_⟩) (by assumption) ?_
        rotate_left
        · (intro w hSw; (try dsimp only at hSw); go_simp) <;> with_reducible rfl
        (try simp only [Act.put, List.getElem_toArray, List.getElem_cons_zero, List.getElem_cons_succ, List.setIfInBounds_toArray, List.set_cons_zero, List.set_cons_succ])
        refine wpAnyH_take (i := 11) (v := ?_) rfl (by kernel_rfl) (by kernel_rfl) (by kernel_rfl) (fun _ _ _ h => h) (Or.inl ⟨by kernel_rfl, ?_⟩) (by assumption) ?_
        rotate_left
        · (intro w hSw; (try dsimp only at hSw); go_simp) <;> with_reducible rfl
        (try simp only [Act.put, List.getElem_toArray, List.getElem_cons_zero, List.getElem_cons_succ, List.setIfInBounds_toArray, List.set_cons_zero, List.set_cons_succ])
        refine wpAnyH_take (i := 12) (v := ?_) rfl (by kernel_rfl) (by kernel_rfl) (by kernel_rfl) (fun _ _ _ h => h) (Or.inl ⟨by kernel_rfl, ?_⟩) (by assumption) ?_
        rotate_left
        · (intro w hSw; (try dsimp only at hSw); go_simp) <;> with_reducible rfl
        (try simp only [Act.put, List.getElem_toArray, List.getElem_cons_zero, List.getElem_cons_succ, List.setIfInBounds_toArray, List.set_cons_zero, List.set_cons_succ])
        refine wpAnyH_take (i := 13) (v := ?_) rfl (by kernel_rfl) (by kernel_rfl) (by kernel_rfl) (fun _ _ _ h => h) (Or.inl ⟨by kernel_rfl, ?_⟩) (by assumption) ?_
        rotate_left
        · (intro w hSw; (try dsimp only at hSw); go_simp) <;> with_reducible rfl
        (try simp only [Act.put, List.getElem_toArray, List.getElem_cons_zero, List.getElem_cons_succ, List.setIfInBounds_toArray, List.set_cons_zero, List.set_cons_succ])
        refine wpAnyH_ready (rs := [14]) (by kernel_rfl) (by simp) ?_
        refine AllReadyH.cons rfl (fun K hK => ?_) AllReadyH.nil
        go_simp
        refine (HPut.out 2).mono ?_
        rintro e w1 ⟨rfl, hd1, hu1⟩
        have hu2 : UpdP (fun k => k = B ∨ k = G) wr w1 := ⟨hu1.os, hu1.tape, hu1.output, hu1.size, hu1.block⟩
        have hk1 := HqB.out
        have b1 := hu2.block d hk1.2.2.2.1 (by omega)
        have b2 := hu2.block q hk1.2.2.1 (by omega)
        have hs2 : w1.cell? ⟨d, 0, none⟩ = some (.iface 34 (ptr B)) ∧ w1.cell? ⟨q, 0, none⟩ = some (.int .i64 (q0 : Int)) := ⟨(World.cell?_of_block b1).trans hs1.1, (World.cell?_of_block b2).trans hs1.2⟩
        have hown1 : w1.ownsRow M0 240 1 (.slice va z vc) z rs := ownsRow_at HOw.out (fun j hj => by
          obtain ⟨_, cs, h2⟩ := own_type HOw.out hj
          refine hu2.block j (lt_of_heap h2) ?_
          rintro (e | e)
          · have h3 := HD'.out.head
            rw [← e, h2] at h3
            simp only [Option.some.injEq, Obj.cells.injEq] at h3
            exact absurd h3.2.1 (by decide)
          · have h3 := HD'.out.row
            rw [← e, h2] at h3
            simp only [Option.some.injEq, Obj.cells.injEq] at h3
            exact absurd h3.2.1 (by decide))
        have HO1 : Hid (w1.ownsRow M0 240 1 (.slice va z vc) z rs) := hown1
        have HD1 : Hid (Di.DiskAt w1 B G n (splice us (q0 * 32) (frameOf ws q0)) gt (pt' + 1)) := hd1
        have HU1 : Hid (UpdP (fun j => j = B ∨ j = G ∨ M0 ≤ j) w w1) := HU.out.trans (hu2.mono (fun j hj => hj.elim Or.inl (fun x => Or.inr (Or.inl x))))
        have hM1 : M0 ≤ w1.heap.size := Nat.le_trans hk1.2.2.2.2.2.2 hu2.size
        clear hd1 hu1 hu2 hk1 b1 b2 hown1 HPut
        refine hK.out _ _ hs2 (fun hHeld => ?_)
        clear hK K
        (try simp only [Act.put, List.getElem_toArray, List.getElem_cons_zero, List.getElem_cons_succ, List.setIfInBounds_toArray, List.set_cons_zero, List.set_cons_succ])
        refine wpAnyH_take (i := 15) (v := ?_) rfl (by kernel_rfl) (by kernel_rfl) (by kernel_rfl) (fun _ _ _ h => h) (Or.inl ⟨by kernel_rfl, ?_⟩) (by assumption) ?_
        rotate_left
        · (intro w hSw; (try dsimp only at hSw); go_simp) <;> with_reducible rfl
        (try simp only [Act.put, List.getElem_toArray, List.getElem_cons_zero, List.getElem_cons_succ, List.setIfInBounds_toArray, List.set_cons_zero, List.set_cons_succ])
        refine wpAnyH_done (by kernel_rfl) ?_ _
        clear hs1 hs2
        go_wp2_with (first
          | (at_builtin; go_loud (refine wpList_append_lies _ rfl _ _ _ rfl M0 240 i0 _ 1 8 Tryz.underlying171 hi0 hz0 hz1 hz2 rfl (by omega) (.slice va z vc) z rs rfl (World.ownsRow.alloc HO1.out _) ⟨w1.heap.size, 0, none⟩ 1 1 [ptr q] rfl rfl (World.news_of_block (cs := #[ptr q]) (t := 240) (fr := (0, 0)) (heap_alloc_new w1 _)) (by simp [Value.oneCell']) (by omega) (by unfold maxLen; omega) (by omega) (by simp; omega) _ rfl ?_; intro gg' cap2 w5 hown5 hgrow hat hlt5))
          | go_in)
        go_roundw
        case rel =>
          have hlo : ∀ j, (Value.slice va z vc).ownBlock = some j → M0 ≤ j := ownsRow_low HO1.out
          have hb1 : Below w1.heap.size w1 (w1.alloc (.cells #[ptr q] 240)) := below_alloc _ _
          have k5 : ∀ j, j < w1.heap.size → (Value.slice va z vc).ownBlock ≠ some j → w5.heap[j]? = w1.heap[j]? := fun j hj hn => (hgrow.block j (Nat.lt_of_lt_of_le hj hb1.size) (fun e => hn e.symm)).trans (hb1.block j hj)
          have nB : (Value.slice va z vc).ownBlock ≠ some B ∧ (Value.slice va z vc).ownBlock ≠ some G := by
            constructor
            · intro e
              obtain ⟨_, cs, h2⟩ := own_type HO1.out e
              have h3 := HD1.out.head
              rw [h2] at h3
              simp only [Option.some.injEq, Obj.cells.injEq] at h3
              exact absurd h3.2.1 (by decide)
            · intro e
              obtain ⟨_, cs, h2⟩ := own_type HO1.out e
              have h3 := HD1.out.row
              rw [h2] at h3
              simp only [Option.some.injEq, Obj.cells.injEq] at h3
              exact absurd h3.2.1 (by decide)
          refine ⟨k + 1, z + 1, pt' + 1, _, rs ++ [ptr q], by omega, by omega, by go_num, ⟨_, rfl, hown5⟩, HD1.out.keep (k5 B (lt_of_heap HD1.out.head) nB.1) (k5 G (lt_of_heap HD1.out.row) nB.2), by omega, ⟨hgrow.os.trans HU1.out.os, hgrow.tape.trans HU1.out.tape, hgrow.output.trans HU1.out.output, by have := HU1.out.size; have := hgrow.size; simp at this; omega, fun j hj hn => ?_⟩, fun b hb => ?_⟩
          · have := HU1.out.size
            rw [k5 j (by omega) (fun e => hn (Or.inr (Or.inr (hlo j e))))]
            exact HU1.out.block j hj hn
          · have hP : L[k]? = some (q0, q) := HP.out
            rw [frame_splice us _ n q0 b HDl.out HDq.out hb HLw.out, HF.out b hb, List.take_add_one, hP]
            by_cases e : b = q0
            · rw [if_pos e, if_pos (by simp [e]), e]
            · rw [if_neg e]
              by_cases q1 : b ∈ (L.take k).map (fun p => p.1)
              · rw [if_pos q1, if_pos (by rw [List.map_append]; exact List.mem_append_left _ q1)]
              · rw [if_neg q1, if_neg (by rw [List.map_append, List.mem_append]; rintro (h | h); exact q1 h; simp at h; exact e h)]
        case measure => simp [intOf]; omega
    · obtain rfl : k = N := by omega
      have hus : us = ws := frames_ext hd.len HH.out.len (fun b hb => by
        rw [HF.out b hb, HN.out, List.take_length]
        by_cases q1 : b ∈ L.map (fun p => p.1)
        · rw [if_pos q1]
        · rw [if_neg q1, HH.out.out b hb q1])
      have HE : Hid (Di.DiskAt wr B G n ws gt pt') := by rw [← hus]; exact hd
      have HPq : Hid (P = fun k => k = B ∨ k = G) := hP
      clear hd hu hus HS HK hown hP
      go_wp2
      go_ret
      have hg := HG.out
      refine ⟨rfl, ⟨dsk_ok _ _ _, _, rfl, hg.2.2.1, hg.2.2.2, gt, pt', HE.out, by omega, by omega⟩, ⟨HU.out.os, HU.out.tape, HU.out.output, HU.out.size, fun j hj hs _ => HU.out.block j hj ?_⟩⟩
      have hM := HM0.out
      have hst := disk_st HD.out
      rintro (e | e | e)
      · rcases hs with hs | hs
        · omega
        · exact hs (by rw [e]; exact hst.1)
      · rcases hs with hs | hs
        · omega
        · exact hs (by rw [e]; exact hst.2)
      · omega
end
end Go.Proofs.YtnlhedpfhgoncabGreatDoor
namespace Go.Proofs.YtnlhedpfhgoncabGreatDoor
open Go.RowKit
/-- The panic that tells an error. -/
abbrev errV (er : Int) : Value := .iface 29 (.int .i64 er)
abbrev pan (er : Int) : List PanicEntry := [{ v := errV er, recovered := false }]
theorem must_ok (w : World) : Calls Tryz.prog 73 #[.int .i64 0] w fun e w' => e = .returned (.tuple #[]) ∧ w' = w := by
  go_enter Tryz.func73, Tryz.ntmps73
  go_wp2
  go_end0
  exact ⟨rfl, rfl⟩
set_option maxRecDepth 100000 in
theorem told_at (er : Int) (w : World) : Calls Tryz.prog 71 #[errV er] w fun e w' => e = .returned (.int .i64 er) ∧ w' = w := by
  have hta : ∀ W : World, (Instr.typeAssert (errV er) 20 29 true).run Tryz.prog W = .ok (.tuple #[.int .i64 er, .bool true]) W := fun W => by kernel_rfl
  go_enter Tryz.func71, Tryz.ntmps71
  go_wp2
  go_ret
  exact ⟨rfl, rfl⟩
theorem catch_panic (c : Nat) (er x : Int) (w : World) (hc : w.cell? ⟨c, 0, none⟩ = some (.int .i64 x)) (hz : w.frozen? ⟨c, 0, none⟩ = false) :
    CallsD Tryz.prog 70 #[ptr c] (.panicking (pan er)) w fun e u' w' => e = .returned (.tuple #[]) ∧ u' = .panicking [{ v := errV er, recovered := true }] ∧ w' = w.setCell ⟨c, 0, none⟩ (.int .i64 er) := by
  have hT := told_at er w
  refine callsD_of_wpS Tryz.func70 rfl fun c₀ cs hu => ?_
  apply wpS_seq
  apply wpS_region
  simp [wpOpsS, go_sem, recoverD, hu, Tryz.ntmps70, Exit.thenS]
  refine wpS_of_wp ?_
  go_wp2_with fail
  refine hT.mono ?_
  rintro e w1 ⟨rfl, rfl⟩
  go_wp2
  simp [bodyPostS, results, Tryz.results70]
theorem catch_idle (c : Nat) (w : World) :
    CallsD Tryz.prog 70 #[ptr c] .returning w fun e u' w' => e = .returned (.tuple #[]) ∧ u' = .returning ∧ w' = w := by
  refine callsD_of_wpS Tryz.func70 rfl fun c₀ cs hu => ?_
  apply wpS_seq
  apply wpS_region
  simp [wpOpsS, go_sem, recoverD, hu, Tryz.ntmps70, Exit.thenS]
  refine wpS_of_wp ?_
  go_wp2
  cases c₀
  simp_all [bodyPostS, results, Tryz.results70]
/-- What a call of attempt's does on the draft. -/
def Doe (lo B G d n : Nat) (vs : List Int) (m : Nat) (Q : Nat → Prop) (Rok : List Int → World → Prop) (Re : Int → Prop) (W : World) : Ending → World → Prop := fun e w' =>
  (e = .returned (.tuple #[]) ∧ SU lo Q W w' ∧ ∃ ws, Dk w' (dft (dsk lo B G) lo d vs) n ws m ∧ Rok ws w') ∨ (∃ er, e = .panicked (pan er) ∧ SU lo Q W w' ∧ (∃ ws, Dk w' (dft (dsk lo B G) lo d vs) n ws m) ∧ Re er)
/-- What attempt answers. -/
def Tri (lo B G n : Nat) (vs : List Int) (m : Nat) (Q : Nat → Prop) (Rok : List Int → World → Prop) (Re : Int → Prop) (w : World) : Ending → World → Prop := fun e w' =>
  (e = .returned (.int .i64 0) ∧ SU lo Q w w' ∧ ∃ ws, Dk w' (dsk lo B G) n ws (m + 1024) ∧ Rok ws w') ∨ (∃ er, e = .returned (.int .i64 er) ∧ SU lo Q w w' ∧ Dk w' (dsk lo B G) n vs (m + 1024) ∧ Re er)
theorem draft_built (t : TypeId) (b : Value) : Tryz.prog.built 173 [(0, .iface t b)] = some #[.iface t b, .slice none 0 0, .int .i64 0] := by kernel_rfl
theorem build_draft (S : Sto) (W : World) : (Instr.build 173 #[(0, sto S)]).run Tryz.prog W = .ok (.agg #[sto S, .slice none 0 0, .int .i64 0]) W := run_build W _ _ _ (draft_built S.t S.x)
theorem SU.new {lo c : Nat} {Q : Nat → Prop} {w w1 w2 : World} (h : SU lo Q w w1) (hu : Upd c w1 w2) (hc : w.heap.size ≤ c) : SU lo Q w w2 := ⟨hu.os.trans h.os, hu.tape.trans h.tape, hu.output.trans h.output, Nat.le_trans h.size hu.size, fun k hk hs hn => (hu.block k (Nat.lt_of_lt_of_le hk h.size) (by omega)).trans (h.block k hk hs hn)⟩
theorem SU.kept {lo : Nat} {Q : Nat → Prop} {w w' : World} (h : SU lo Q w w') {k : Nat} {cs : Array Value} {t : TypeId} {fr : Nat × Nat} (hk : w.heap[k]? = some (.cells cs t fr)) (ht : stB t = false) (hq : ¬ Q k) : w'.heap[k]? = some (.cells cs t fr) := by
  rw [h.block k (lt_of_heap hk) (Or.inr (not_isSt hk ht)) hq]
  exact hk
set_option maxHeartbeats 2000000 in
set_option maxRecDepth 100000 in
theorem attempt_at {w : World} {lo B G n m m' N : Nat} {vs : List Int} {caps : Array Value} {Q : Nat → Prop} {Rok : List Int → World → Prop} {Re : Int → Prop}
    (h : Dk w (dsk lo B G) n vs m) (hn : n ≤ 1024) (hmm : m ≤ m') (hm : m' ≤ 900000000000) (hQ : ∀ k, Q k → k < w.heap.size)
    (hcf : ∀ (args : Array Value) (W : World), (callFunc N args).run Tryz.prog W = .ok (.enter N args) W)
    (hK : ∀ ws w1 w2, ST lo w1 w2 → Rok ws w1 → Rok ws w2)
    (hK2 : ∀ ws w1 c cs v, w.heap.size ≤ c → w1.heap[c]? = some (Obj.cells cs 29) → Rok ws w1 → Rok ws (w1.setCell ⟨c, 0, none⟩ v))
    (hdo : ∀ W d, Below w.heap.size w W → w.heap.size ≤ d → Dk W (dft (dsk lo B G) lo d vs) n vs m → Calls Tryz.prog N (#[.iface 170 (ptr d)] ++ caps) W (Doe lo B G d n vs m' Q Rok Re W)) :
    Calls Tryz.prog 32 #[sto (dsk lo B G), .func (.func N) #[] caps] w (Tri lo B G n vs m' Q Rok Re w) := by
  have hmf : ∀ (fn : Fn) (first cap : Array Value) (w : World), (Instr.makeFunc fn first cap).run Tryz.prog w = .ok (.func fn first cap) w := fun _ _ _ _ => rfl
  obtain ⟨W0, hW0⟩ : ∃ W, W = w.alloc (.cells #[.int .i64 0] 29) := ⟨_, rfl⟩
  have hb0 : Below w.heap.size w W0 := by rw [hW0]; exact below_alloc _ _
  have hs0 : W0.heap.size = w.heap.size + 1 := by rw [hW0]; simp
  have hr0 : W0.heap[w.heap.size]? = some (.cells #[.int .i64 0] 29) := by rw [hW0]; exact heap_alloc_new _ _
  obtain ⟨W1, hW1⟩ : ∃ W, W = W0.alloc (.cells #[sto (dsk lo B G), .slice none 0 0, .int .i64 0] 173) := ⟨_, rfl⟩
  have hb1 : Below W0.heap.size W0 W1 := by rw [hW1]; exact below_alloc _ _
  have hdk := dft_new (h.below hb0) hn
  rw [← hW1] at hdk
  have hC := hdo W1 W0.heap.size (hb0.trans (hb1.mono hb0.size)) hb0.size hdk
  have HR1 : Hid (W1.heap[w.heap.size]? = some (.cells #[.int .i64 0] 29)) := (hb1.block _ (lt_of_heap hr0)).trans hr0
  have HB1 : Hid (Below w.heap.size w W1) := hb0.trans (hb1.mono hb0.size)
  have HW0 : Hid _ := hW0
  have HW1 : Hid _ := hW1
  have HS0 : Hid (W0.heap.size = w.heap.size + 1) := hs0
  have HQ : Hid (¬ Q w.heap.size) := fun q => by have := hQ _ q; omega
  have HKk : Hid (∀ ws w1 w2, ST lo w1 w2 → Rok ws w1 → Rok ws w2) := hK
  have HK2 : Hid (∀ ws w1 c cs v, w.heap.size ≤ c → w1.heap[c]? = some (Obj.cells cs 29) → Rok ws w1 → Rok ws (w1.setCell ⟨c, 0, none⟩ v)) := hK2
  obtain ⟨c, hc⟩ : ∃ c, c = w.heap.size := ⟨_, rfl⟩
  have Hc : Hid (c = w.heap.size) := hc
  have hbd : ∀ W : World, (Instr.build 173 #[(0, sto (dsk lo B G))]).run Tryz.prog W = .ok (.agg #[sto (dsk lo B G), .slice none 0 0, .int .i64 0]) W := build_draft _
  clear h hb0 hs0 hr0 hb1 hdk hW0 hW1 hdo hQ hK hK2 hc
  go_enter_defers Tryz.func32, Tryz.ntmps32
  go_wp2_with fail
  rw [← HW0.out, ← HW1.out, ← HS0.out, ← Hc.out]
  refine hC.mono ?_
  rintro e w2 (⟨rfl, hsu, ws, hdk2, hR⟩ | ⟨er, rfl, hsu, ⟨ws, hdk2⟩, hRe⟩)
  · obtain ⟨-, P, P0, sv, L, hdf, -⟩ := hdk2
    have hL := flay_at hdf hm
    have h2 : w2.heap[c]? = some (.cells #[.int .i64 0] 29) := hsu.kept (by rw [Hc.out]; exact HR1.out) (by decide) (by rw [Hc.out]; exact HQ.out)
    have H2 : Hid (w2.heap[c]? = some (.cells #[.int .i64 0] 29)) := h2
    have HSU : Hid (SU lo Q w w2) := SU.trans (SU.of_below HB1.out) hsu
    have HR : Hid (Rok ws w2) := hR
    clear hC hsu hdf hR h2
    go_wp2_with fail
    refine hL.mono ?_
    rintro e w3 ⟨rfl, hdk3, hst3⟩
    have h3 := hst3.other H2.out (by decide)
    have c3 : w3.cell? ⟨c, 0, none⟩ = some (.int .i64 0) := by rw [cell_of_heap h3]; rfl
    have f3 : w3.frozen? ⟨c, 0, none⟩ = false := frozen_of_heap h3
    have HE : Hid (SU lo Q w (w3.setCell ⟨c, 0, none⟩ (.int .i64 0)) ∧ ∃ ws, Dk (w3.setCell ⟨c, 0, none⟩ (.int .i64 0)) (dsk lo B G) n ws (m' + 1024) ∧ Rok ws (w3.setCell ⟨c, 0, none⟩ (.int .i64 0))) :=
      ⟨(HSU.out.trans (SU.any hst3)).new (Upd.setCell _ _ _ _) (by rw [Hc.out]; exact Nat.le_refl _), ws, hdk3.other (Upd.setCell c 0 w3 _) (not_isSt h3 (by decide)), HK2.out ws w3 c _ _ (by rw [Hc.out]; exact Nat.le_refl _) h3 (HKk.out ws w2 w3 hst3 HR.out)⟩
    have HC4 : Hid ((w3.setCell ⟨c, 0, none⟩ (.int .i64 0)).cell? ⟨c, 0, none⟩ = some (.int .i64 0)) := by
      rw [cell_of_heap (cs := #[.int .i64 0]) (t := 29) (fr := (0, 0)) (by rw [setCell_eq_setRow w3 c 0 _ _ _ _ h3, setRow_heap w3 c _ _ _ _ h3]; rfl)]
      rfl
    clear hL hdk3 hst3 h3
    go_wp2
    refine leaves_cons (f := 70) (args := #[ptr c]) (by simp) (by simp [go_sem]) ?_
    refine (catch_idle c _).mono ?_
    rintro e u' w'' ⟨rfl, rfl, rfl⟩
    have hc4 := HC4.out
    simp [Leaves, settle, results, Tryz.results32, go_sem, hc4]
    exact Or.inl ⟨rfl, HE.out⟩
  · have h2 : w2.heap[c]? = some (.cells #[.int .i64 0] 29) := hsu.kept (by rw [Hc.out]; exact HR1.out) (by decide) (by rw [Hc.out]; exact HQ.out)
    have c2 : w2.cell? ⟨c, 0, none⟩ = some (.int .i64 0) := by rw [cell_of_heap h2]; rfl
    have f2 : w2.frozen? ⟨c, 0, none⟩ = false := frozen_of_heap h2
    have hE : SU lo Q w (w2.setCell ⟨c, 0, none⟩ (.int .i64 er)) ∧ Dk (w2.setCell ⟨c, 0, none⟩ (.int .i64 er)) (dsk lo B G) n vs (m' + 1024) ∧ Re er :=
      ⟨(SU.trans (SU.of_below HB1.out) hsu).new (Upd.setCell _ _ _ _) (by rw [Hc.out]; exact Nat.le_refl _), ((dft_under hdk2).other (Upd.setCell c 0 w2 _) (not_isSt h2 (by decide))).mono (by omega), hRe⟩
    have hc4 : (w2.setCell ⟨c, 0, none⟩ (.int .i64 er)).cell? ⟨c, 0, none⟩ = some (.int .i64 er) := by
      rw [cell_of_heap (cs := #[.int .i64 er]) (t := 29) (fr := (0, 0)) (by rw [setCell_eq_setRow w2 c 0 _ _ _ _ h2, setRow_heap w2 c _ _ _ _ h2]; rfl)]
      rfl
    refine leaves_cons (f := 70) (args := #[ptr c]) (by simp) (by simp [go_sem]) ?_
    refine (catch_panic c er 0 _ c2 f2).mono ?_
    rintro e u' w'' ⟨rfl, rfl, rfl⟩
    simp [Leaves, settle, results, Tryz.results32, go_sem, hc4]
    exact Or.inr ⟨er, rfl, hE⟩
end Go.Proofs.YtnlhedpfhgoncabGreatDoor
