import Derived.Test.YtinaeifpoljfoaaGreatDoorInoFTDfA
import Derived.ChangeKeysEq
import Derived.Defers
import Derived.Recover
set_option linter.all false
set_option maxRecDepth 100000
set_option maxHeartbeats 16000000
namespace Go.Proofs.YtinaeifpoljfoaaGreatDoor
open Go.RowKit
section
variable {w w' : World} {S : Sto} {lo d : Nat} {P : Nat → Prop} {n : Nat} {vs ws : List Int} {m : Nat} {sv : Value} {L : List (Nat × Nat)}
def Lft (w w' : World) (S : Sto) (lo d : Nat) (P : Nat → Prop) (n : Nat) (vs ws : List Int) (m : Nat) (sv : Value) (L : List (Nat × Nat)) (b q : Nat) : Prop :=
 ∃ P' sv' L', DfAt w' S lo d P' n vs ws m sv' L' ∧ (b, q) ∈ L' ∧ (∀ k, dfP d P' sv' L' k → dfP d P sv L k ∨ w.heap.size ≤ k) ∧ UpdP (dfP d P sv L) w w'
theorem leaf_at (h : DfAt w S lo d P n vs ws m sv L) (b : Nat) (hb : b < n) (hm : m ≤ 1000000000000) :
  Calls Tryz.prog 413 #[ptr d, .int .i64 b] w fun e w' => ∃ q, e = .returned (.tuple #[ptr q, .int .i64 0]) ∧ Lft w w' S lo d P n vs ws (m + 1) sv L b q := by
 have HH := hid h;obtain ⟨a, cap, rfl⟩ := own_slice h.own
 have c0 : w.cell? ⟨d, 0, none⟩ = some (sto S) := by rw [cell_of_heap h.head]; rfl
 have c1 : w.cell? ⟨d, 1, none⟩ = some (.slice a L.length cap) := by rw [cell_of_heap h.head]; rfl
 have c2 : w.cell? ⟨d, 2, none⟩ = some (.int .i64 0) := by rw [cell_of_heap h.head]; rfl
 have hle := h.few;have hnn := h.nn
 have HS : Hid (∀ k, k < L.length → ∃ g q0 q, L[k]? = some (q0, q) ∧ a = some ⟨g, 0, none⟩ ∧ w.cell? ⟨g, k, none⟩ = some (ptr q) ∧ w.cell? ⟨q, 0, none⟩ = some (.int .i64 (q0 : Int))) := by
  intro k hk
  rcases h.own.2 with ⟨_, e⟩ | ⟨g, cap', cur, e2, hg, hh, hc, _, hcs, ht⟩
  ·omega
  ·simp only [Value.slice.injEq] at e2
   obtain ⟨e2, -, -⟩ := e2;have hp := List.getElem?_eq_getElem hk;obtain ⟨_, _, hq⟩ := h.lf _ (List.getElem_mem hk);refine ⟨g, L[k].1, L[k].2, hp, e2, ?_, by rw [cell_of_heap hq]; exact shRow_0 _ _ _⟩;rw [cell_of_heap hh]
   have e1 : (cur.toList.take (L.length * 1))[k]? = (L.map (fun p => ptr p.2))[k]? := by rw [ht]
   rw [List.getElem?_take_of_lt (by omega), List.getElem?_map, hp] at e1
   simpa using e1
 obtain ⟨N, hN⟩ : ∃ N, N = L.length := ⟨_, rfl⟩;have HN := hid hN;have HF : Hid (∀ k, P k → S.lo ≤ k ∧ IsSt w k) := h.ok.foot h.st
 have HGet : Hid (Calls Tryz.prog 414 #[ptr d, .int .i64 (b : Int)] w fun e w1 => ∃ gg gcap, e = .returned (.tuple #[.slice (some ⟨gg, 0, none⟩) 32 gcap, .int .i64 0]) ∧ URow w.heap.size w1 (.slice (some ⟨gg, 0, none⟩) 32 gcap) (frameOf vs b) ∧ ∃ P', S.At w1 P' n vs (m + 1) ∧ (∀ k, P' k → P k ∨ w.heap.size ≤ k) ∧ UpdP P w w1) := by
  refine dask_at h.ok d b c0 ((h.ok.get h.st b hb hm).mono ?_);rintro e w1 ⟨gg, gcap, rfl, h1, h2⟩;exact ⟨_, rfl, gg, gcap, rfl, h1, h2⟩
 have HLn : Hid ((frameOf vs b).length = 32) := frameOf_length vs b n (h.ok.len h.st) hb;rw [← hN] at c1 hle HS;clear h hN
 go_enter Tryz.func413, Tryz.ntmps413
 go_wp2
 go_loopw [16] (fun s wr => ∃ (k : Nat), k ≤ N ∧ s = .int .i64 k ∧ wr = w ∧ Hid (∀ j p, j < k → L[j]? = some p → p.1 ≠ b)) (fun s _ => N - (intOf s).toNat)
 case atStart => exact ⟨0, by omega, rfl, rfl, fun j p hj => by omega⟩
 case round =>
  obtain ⟨k, hk, rfl, rfl, HA⟩ := hrel
  by_cases hlt : k < N
  ·have hki : (k : Int) < (N : Int) := by omega
   obtain ⟨g, q0, q, hp, rfl, d0, d1⟩ := HS.out k hlt;have HP := hid hp;clear hp
   by_cases hq : q0 = b
   ·have hqb : ((q0 : Int) == (b : Int)) = true := by simp [hq]
    have HQ := hid hq;clear hq HA;go_wp2
    go_ret2
    refine ⟨q, rfl, P, _, L, HH.out.mono (by omega), ?_, fun k hk => Or.inl hk, UpdP.refl _ _⟩
    rw [← HQ.out];exact List.mem_of_getElem? HP.out
   ·have hqb : ((q0 : Int) == (b : Int)) = false := by simp; omega
    have HQ := hid hq;clear hq;go_wp2;go_roundw
    case rel =>
     refine ⟨k + 1, by omega, by go_num, by trivial, fun j p hj hp => ?_⟩
     by_cases e : j = k
     ·subst e
      have := HP.out;rw [this] at hp
      cases hp
      exact HQ.out
     ·exact HA.out j p (by omega) hp
    case measure => simp [intOf]; omega
  ·obtain rfl : k = N := by omega
   have hnot : b ∉ L.map (fun p => p.1) := by
    intro hm;obtain ⟨p, hp, e⟩ := List.mem_map.1 hm;obtain ⟨j, hj, ep⟩ := List.getElem_of_mem hp;exact HA.out j p (by have := HN.out; omega) (by rw [List.getElem?_eq_getElem hj, ep]) e
   have HNot := hid hnot;have hg := HGet.out;have hdl : d < wr.heap.size := lt_of_heap HH.out.head;obtain ⟨R, hR⟩ : ∃ R, R = urow (frameOf vs b) := ⟨_, rfl⟩;have HRq := hid hR
   have HRs : Hid (R.size = 32) := by show _ = _; rw [hR, urow_size]; exact HLn.out
   have HRo : Hid (R.all (·.oneCell') = true) := by show _ = _; rw [hR]; exact urow_one _
   obtain ⟨X0, hX0⟩ : ∃ X, X = shRow b zc zc := ⟨_, rfl⟩;obtain ⟨X1, hX1⟩ : ∃ X, X = shRow b R zc := ⟨_, rfl⟩;have HX0 := hid hX0;have HX1 := hid hX1;obtain ⟨i0, hi0, hzz⟩ := Option.map_eq_some_iff.1 leafInfo;simp only [Prod.mk.injEq] at hzz;obtain ⟨hz0, hz1, hz2⟩ := hzz;clear hR hX0 hX1 hnot HA HS HGet
   go_wp2_with fail
   refine hg.mono ?_;rintro e w1 ⟨gg, gcap, rfl, hr1, P', hst, hP', hu1⟩;obtain ⟨ga, gc, e, -, -, hf⟩ := hr1;obtain ⟨g', cur, e2, -, hh, hcell⟩ := hf (by intro e; have := HLn.out; rw [e] at this; simp at this);rw [HLn.out] at e;simp only [Value.slice.injEq] at e;obtain ⟨e3, -, -⟩ := e;rw [e2] at e3;simp only [Option.some.injEq, Addr.mk.injEq] at e3;have e4 : gg = g' := e3.1;subst e4;obtain ⟨q, hq⟩ : ∃ q, q = w1.heap.size := ⟨_, rfl⟩;have Hq := hid hq;have HSt : Hid (S.At w1 P' n vs (m + 1) ∧ (∀ k, P' k → P k ∨ wr.heap.size ≤ k) ∧ UpdP P wr w1) := ⟨hst, hP', hu1⟩
   have hcp : ∀ ty c1 c2, (Builtin.copy_ #[22, 22] ty #[.slice (some ⟨w1.heap.size, 1, none⟩) 32 c1, .slice (some ⟨gg, 0, none⟩) 32 c2]).run Tryz.prog (w1.alloc (.cells X0 289)) = .ok (goInt 32) (w1.alloc (.cells X1 289)) := fun ty c1 c2 => by
    have hl : (uvs (frameOf vs b)).length = 32 := by rw [uvs_len, HLn.out]
    have hr := run_copy_row Tryz.prog (w1.alloc (.cells X0 289)) 22 22 ty 45 w1.heap.size 1 32 c1 ⟨gg, 0, none⟩ 32 c2 X0 289 (uvs (frameOf vs b)) Tryz.underlying22 (by kernel_rfl) (heap_alloc_new _ _)
     (by rw [hl]; rfl)
     (fun j v hv => by
       obtain ⟨x, hx, rfl⟩ := uvs_get hv;rw [add0, Nat.zero_add, (below_alloc w1 _).cell (show gg < _ from lt_of_heap hh), cell_of_heap hh]
       exact hcell j x hx)
     (by rw [hl, HX0.out, shRow_size zc_size zc_size]; omega) (uvs_one _)
    rw [hr, HX0.out, shRow_lay1 zc_size hl, setRow_alloc_new, hl, HX1.out, HRq.out]
    rfl
   have HX1s : Hid (X1.size = 65) := by rw [HX1.out]; exact shRow_size HRs.out zc_size
   have hrg : (w1.alloc (.cells X1 289)).rangeAt w1.heap.size 1 R.toList := fun j v hv => by
    rw [cell_of_heap (heap_alloc_new _ _), HX1.out, shRow_old HRs.out (by have := (List.getElem?_eq_some_iff.1 hv).1; rw [Array.length_toList, HRs.out] at this; exact this)]
    simpa using hv
   have hth : (w1.alloc (.cells X1 289)).there w1.heap.size 33 R.size := fun j hj => by
    rw [HRs.out] at hj;refine ⟨?_, frozen_of_heap (heap_alloc_new _ _)⟩;rw [cell_of_heap (heap_alloc_new _ _), Array.getElem?_eq_getElem (by rw [HX1s.out]; omega)]
    rfl
   obtain ⟨W4, hW4⟩ : ∃ W, W = (w1.alloc (.cells X1 289)).setCells w1.heap.size 33 R.toList := ⟨_, rfl⟩;obtain ⟨k1, k2⟩ := setCells_heap w1.heap.size R.toList 33 (w1.alloc (.cells X1 289)) X1 289 (heap_alloc_new _ _);rw [← hW4] at k1 k2
   have HQ4 : Hid (W4.heap[q]? = some (.cells (shRow b R R) 289)) := by
    rw [hq, k1, HX1.out, setL_sheet HRs.out zc_size HRs.out]
    rfl
   have HB4 : Hid (Below w1.heap.size w1 W4) := (below_alloc w1 _).trans (k2.below (Nat.le_refl _) (by simp))
   have HS4 : Hid (w1.heap.size < W4.heap.size) := by have := k2.size; simp at this; show _ < _; omega
   have HW4 : Hid _ := hW4;have hl1 : wr.heap.size ≤ w1.heap.size := hu1.size
   have hh4 : W4.heap[d]? = some (.cells #[sto S, .slice a k cap, .int .i64 0] 224) := by
    rw [HB4.out.block d (by omega), hu1.block d hdl HH.out.apd, HH.out.head, HN.out]
   have c1' : W4.cell? ⟨d, 1, none⟩ = some (.slice a k cap) := by rw [cell_of_heap hh4]; rfl
   have hown4 : W4.ownsRow lo 286 1 (.slice a k cap) k (L.map (fun p => ptr p.2)) := by
    have ho := HH.out.own;rw [← HN.out] at ho
    exact ownsRow_at ho (fun g hg => by
      obtain ⟨_, cs, h2⟩ := own_type ho hg;have := lt_of_heap h2
      rw [HB4.out.block g (by omega), hu1.block g this (HH.out.apo g (by rw [← HN.out]; exact hg))])
   have HO4 : Hid _ := hown4
   have hne : (Value.slice a k cap).ownBlock ≠ some d := by
    intro e;obtain ⟨_, cs, h2⟩ := own_type hown4 e;rw [hh4] at h2;simp only [Option.some.injEq, Obj.cells.injEq] at h2;exact absurd h2.2.1 (by decide)
   have HNE := hid hne
   have hlo4 : lo ≤ W4.heap.size := by have := HH.out.lod; have := HS4.out; omega
   have hd4 : d < W4.heap.size := by have := HS4.out; omega
   have HFZ : Hid ((W4.alloc (.cells #[ptr w1.heap.size] 286)).heap[d]? = some (.cells #[sto S, .slice a k cap, .int .i64 0] 224)) := by
    show _ = _
    rw [Below.heap_alloc _ _ _ hd4, hh4]
   clear hg hst hP' hu1 hf hh hcell e2 e3 c0 c1 c2 hown4 hne hW4 k1 k2 hh4 hq
   go_wp2_with (first
     | (refine wpList_build_eq rfl 289 _ rfl X0 (by rw [HX0.out, ← leaf_built]; go_simp) ?_)
     | (refine wpList_load_mid rfl 287 _ rfl w1.heap.size 1 rfl R.toList _ hrg Tryz.underlying287 rfl (by rw [Array.length_toList, HRs.out]; exact arrSize) ?_)
     | (refine wpList_store_mid rfl 287 _ _ rfl w1.heap.size 33 R rfl rfl hth (by rw [HRs.out]; exact arrSize) HRo.out ?_; rw [← HW4.out]; clear hcp hrg hth)
     | (at_builtin; go_loud (refine wpList_append_lies _ rfl _ _ _ rfl lo 286 i0 _ 1 8 Tryz.underlying222 hi0 hz0 hz1 hz2 rfl (by omega) (.slice a k cap) k (L.map (fun p => ptr p.2)) rfl (World.ownsRow.alloc HO4.out _) ⟨W4.heap.size, 0, none⟩ 1 1 [ptr w1.heap.size] rfl rfl (World.news_of_block (cs := #[ptr w1.heap.size]) (t := 286) (fr := (0, 0)) (heap_alloc_new W4 _)) (by simp [Value.oneCell']) (by omega) (by unfold maxLen; omega) (by omega) (by simp; omega) _ rfl ?_; intro gg' cap2 w5 hown5 hgrow hat hlt5; have h5 := (hgrow.block d (by simp; omega) (Ne.symm HNE.out)).trans HFZ.out; have hcw : w5.cell? ⟨d, 1, none⟩ = some (.slice a k cap) := (by rw [cell_of_heap h5]; rfl); have hfw : w5.frozen? ⟨d, 1, none⟩ = false := frozen_of_heap h5; clear h5))
     | go_in)
   go_ret2
   obtain ⟨r1, r2, r3⟩ := HH.out.grow (q := q) (sv' := .slice (some ⟨gg', 0, none⟩) (k + 1) cap2) hb HNot.out HSt.out.1 HSt.out.2.1 HSt.out.2.2 Hq.out (w4 := W4.alloc (.cells #[ptr w1.heap.size] 286)) (HB4.out.trans ((below_alloc W4 _).mono (by have := HS4.out; omega))) (by have := HS4.out; simp; omega) ((Below.heap_alloc _ _ _ (by rw [Hq.out]; exact HS4.out)).trans HQ4.out) HRq.out (by rw [HN.out]) (by rw [← HN.out]; exact hgrow) (by rw [← HN.out]; exact hat) (by rw [← HN.out, Hq.out]; exact hown5);exact ⟨q, by rw [Hq.out]; rfl, P', _, _, r1, by simp, r2, r3⟩
end
def dft (S : Sto) (lo d : Nat) (vs : List Int) : Sto := ⟨221, ptr d, 411, 412, lo, fun w P n ws m => ∃ P0 sv L, DfAt w S lo d P0 n vs ws m sv L ∧ P = dfP d P0 sv L⟩
section
variable {w w' : World} {S : Sto} {lo d : Nat} {P : Nat → Prop} {n : Nat} {vs ws : List Int} {m : Nat} {sv : Value} {L : List (Nat × Nat)}
theorem dget_at (h : DfAt w S lo d P n vs ws m sv L) (b : Nat) (hb : b < n) (hm : m ≤ 1000000000000) :
  Calls Tryz.prog 411 #[ptr d, .int .i64 b] w fun e w' => ∃ gg cap, e = .returned (.tuple #[.slice (some ⟨gg, 0, none⟩) 32 cap, .int .i64 0]) ∧ URow w.heap.size w' (.slice (some ⟨gg, 0, none⟩) 32 cap) (frameOf ws b) ∧
   ∃ P' sv' L', DfAt w' S lo d P' n vs ws (m + 1) sv' L' ∧ (∀ k, dfP d P' sv' L' k → dfP d P sv L k ∨ w.heap.size ≤ k) ∧ UpdP (dfP d P sv L) w w' := by
 have hL := leaf_at h b hb hm;have HLn : Hid ((frameOf ws b).length = 32) := frameOf_length ws b n h.len hb;have HLv : Hid ((frameOf vs b).length = 32) := frameOf_length vs b n (h.ok.len h.st) hb;clear h
 go_enter Tryz.func411, Tryz.ntmps411
 go_wp2_with fail
 refine hL.mono ?_;rintro e w1 ⟨q, rfl, P', sv', L', h1, h2, h3, h4⟩;have hrow := (h1.row h2).1
 have hC := Di.clone_at q 33 32 32 (frameOf ws b) w1 HLn.out (by omega) (by omega) (fun j x hx => by
   have hj : j < (frameOf ws b).length := (List.getElem?_eq_some_iff.1 hx).1;rw [cell_of_heap hrow, shRow_now (by rw [urow_size]; exact HLv.out), urow_get _ _ hj, List.getD_eq_getElem?_getD, hx]
   rfl)
 have H1 : Hid (DfAt w1 S lo d P' n vs ws (m + 1) sv' L' ∧ (∀ k, dfP d P' sv' L' k → dfP d P sv L k ∨ w.heap.size ≤ k) ∧ UpdP (dfP d P sv L) w w1) := ⟨h1, h3, h4⟩;clear hL h1 h2 h3 h4 hrow
 go_wp2_with fail
 refine hC.mono ?_;rintro e w2 ⟨gg, cap, rfl, hown, hb2⟩;have hur := urow_of_own (zs := frameOf ws b) (by rw [HLn.out]; exact hown);have HU : Hid (URow w.heap.size w2 (.slice (some ⟨gg, 0, none⟩) 32 cap) (frameOf ws b)) := hur.mono H1.out.2.2.size;have HB2 := hid hb2;clear hC hown hur hb2;go_wp2
 go_ret2
 exact ⟨gg, cap, rfl, HU.out, P', sv', L', H1.out.1.below HB2.out, H1.out.2.1, H1.out.2.2.trans (UpdP.of_below HB2.out)⟩
theorem dfput_at (h : DfAt w S lo d P n vs ws m sv L) (b : Nat) (hb : b < n) (hm : m ≤ 1000000000000) (p : Nat) (us : List Int) (cap : Nat) (hp : ¬ IsSt w p) (hl : us.length = 32) (hw : ∀ (j : Nat) (x : Int), us[j]? = some x → w.cell? ⟨p, j, none⟩ = some (.int .u64 x)) :
  Calls Tryz.prog 412 #[ptr d, .int .i64 b, .slice (some ⟨p, 0, none⟩) 32 cap] w fun e w' => e = .returned (.int .i64 0) ∧
   ∃ P' sv' L', DfAt w' S lo d P' n vs (splice ws (b * 32) us) (m + 1) sv' L' ∧ (∀ k, dfP d P' sv' L' k → dfP d P sv L k ∨ w.heap.size ≤ k) ∧ UpdP (dfP d P sv L) w w' := by
 have hL := leaf_at h b hb hm
 have HF : Hid (∀ k, dfP d P sv L k → IsSt w k) := fun k hk => (h.foot k hk).2
 have HLn : Hid ((frameOf ws b).length = 32) := frameOf_length ws b n h.len hb;have HLv : Hid ((frameOf vs b).length = 32) := frameOf_length vs b n (h.ok.len h.st) hb;have HW := hid hw;have HP := hid hp;have HL := hid hl;clear h hw hp hl
 go_enter Tryz.func412, Tryz.ntmps412
 go_wp2_with fail
 refine hL.mono ?_;rintro e w1 ⟨q, rfl, P', sv', L', h1, h2, h3, h4⟩;have hrow := (h1.row h2).1;obtain ⟨X, hX⟩ : ∃ X, X = shRow b (urow (frameOf vs b)) (urow us) := ⟨_, rfl⟩
 have hcp : ∀ ty c1 c2, (Builtin.copy_ #[22, 22] ty #[.slice (some ⟨q, 33, none⟩) 32 c1, .slice (some ⟨p, 0, none⟩) 32 c2]).run Tryz.prog w1 = .ok (goInt 32) (w1.setRow q X) := fun ty c1 c2 => by
  have hlu : (uvs us).length = 32 := by rw [uvs_len, HL.out]
  have hA : (urow (frameOf vs b)).size = 32 := by rw [urow_size]; exact HLv.out
  have hB : (urow (frameOf ws b)).size = 32 := by rw [urow_size]; exact HLn.out
  have hr := run_copy_row Tryz.prog w1 22 22 ty 45 q 33 32 c1 ⟨p, 0, none⟩ 32 c2 (shRow b (urow (frameOf vs b)) (urow (frameOf ws b))) 289 (uvs us) Tryz.underlying22 (by kernel_rfl) hrow
   (by rw [hlu]; rfl)
   (fun j v hv => by
     obtain ⟨x, hx, rfl⟩ := uvs_get hv;rw [add0, Nat.zero_add];have hc := HW.out j x hx;rw [World.cell?_of_block (h4.block p (cell_lt hc) (fun e => HP.out (HF.out p e)))]
     exact hc)
   (by rw [hlu, shRow_size hA hB]; omega) (uvs_one _)
  rw [hr, shRow_lay2 hA hB hlu, hlu, hX]
  rfl
 obtain ⟨r1, r2⟩ := h1.put h2 HL.out (w' := w1.setRow q X) (fun hh => by rw [setRow_heap w1 q _ _ _ _ hh, hX]) (Upd.setRow q w1 X)
 have H1 : Hid (DfAt (w1.setRow q X) S lo d P' n vs (splice ws (b * 32) us) (m + 1) sv' L' ∧ (∀ k, dfP d P' sv' L' k → dfP d P sv L k ∨ w.heap.size ≤ k) ∧ UpdP (dfP d P sv L) w (w1.setRow q X)) := by
  refine ⟨r1, h3, ⟨r2.os.trans h4.os, r2.tape.trans h4.tape, r2.output.trans h4.output, Nat.le_trans h4.size r2.size, fun k hk hn => ?_⟩⟩;rw [r2.block k (Nat.lt_of_lt_of_le hk h4.size) (fun x => (h3 k x).elim hn (fun y => by omega))];exact h4.block k hk hn
 clear hL h1 h2 h3 h4 hrow r1 r2 hX;go_wp2;go_ret;exact ⟨rfl, P', sv', L', H1.out⟩
end
theorem dft_ok (S : Sto) (lo d : Nat) (vs : List Int) : SOk (dft S lo d vs) where
 mget W := by show (method 622 221 (ptr d) "Get").run Tryz.prog W = .ok (411, ptr d) W; kernel_rfl
 mput W := by show (method 622 221 (ptr d) "Put").run Tryz.prog W = .ok (412, ptr d) W; kernel_rfl
 aput W := by show (nilAhead 622 221 (ptr d) "Put").run Tryz.prog W = .ok (some false) W; kernel_rfl
 cget args W := by show (callFunc 411 args).run Tryz.prog W = .ok (.enter 411 args) W; kernel_rfl
 cput args W := by show (callFunc 412 args).run Tryz.prog W = .ok (.enter 412 args) W; kernel_rfl
 nil W := by show (binOp BinOp.eql 94 (.iface 221 (ptr d)) .nilIface).run Tryz.prog W = .ok (.bool false) W; kernel_rfl
 keep := fun ⟨P0, sv, L, h, hP⟩ hk => ⟨P0, sv, L, h.keep (fun k hp => hk k (by rw [hP]; exact hp)), hP⟩
 foot := fun ⟨P0, sv, L, h, hP⟩ k hk => h.foot k (by rw [← hP]; exact hk)
 len := fun ⟨_, _, _, h, _⟩ => h.len
 mono := fun ⟨P0, sv, L, h, hP⟩ hm => ⟨P0, sv, L, h.mono hm, hP⟩
 low := fun ⟨_, _, _, h, _⟩ => by have := lt_of_heap h.head; have := h.lod; show lo ≤ _; omega
 get := fun {w P n ws m} ⟨P0, sv, L, h, hP⟩ b hb hm => by
  subst hP;refine (dget_at h b hb hm).mono ?_;rintro e w1 ⟨gg, cap, rfl, hr, P', sv', L', h1, h2, h3⟩;exact ⟨gg, cap, rfl, hr, _, ⟨P', sv', L', h1, rfl⟩, h2, h3⟩
 put := fun {w P n ws m} ⟨P0, sv, L, h, hP⟩ b hb hm p us cap hp hl hw => by
  subst hP;refine (dfput_at h b hb hm p us cap hp hl hw).mono ?_;rintro e w1 ⟨rfl, P', sv', L', h1, h2, h3⟩;exact ⟨rfl, _, ⟨P', sv', L', h1, rfl⟩, h2, h3⟩
theorem dft_new {w : World} {S : Sto} {n : Nat} {vs : List Int} {m : Nat} (h : Dk w S n vs m) (hn : n ≤ 1024) : Dk (w.alloc (.cells #[sto S, .slice none 0 0, .int .i64 0] 224)) (dft S S.lo w.heap.size vs) n vs m := by
 obtain ⟨hk, P, hat⟩ := h;have hb := below_alloc w (.cells #[sto S, .slice none 0 0, .int .i64 0] 224)
 refine ⟨dft_ok _ _ _ _, _, P, _, [], ⟨hk, hk.keep hat (fun k hp => hb.block k (hk.foot hat k hp).2.lt), heap_alloc_new _ _, World.ownsRow_nil _ _ _ _, fun p hp => (by cases hp), List.nodup_nil, fun k _ _ => rfl, hk.len hat, hn, fun hp => ?_, fun g hg => ?_, fun p hp => (by cases hp), hk.low hat, Nat.le_refl _⟩, rfl⟩
 ·have := (hk.foot hat _ hp).2.lt
  omega
 ·simp [Value.ownBlock] at hg
theorem dft_under {w : World} {S : Sto} {lo d n : Nat} {vs ws : List Int} {m : Nat} (h : Dk w (dft S lo d vs) n ws m) : Dk w S n vs m := by
 obtain ⟨-, P, P0, sv, L, h, -⟩ := h;exact ⟨h.ok, P0, h.st⟩
theorem wordCells : Tryz.prog.cellsOf 45 = 1 := by kernel_rfl
theorem wordPlain : Tryz.prog.plainKey 45 = true := by kernel_rfl
theorem wordsUnder : Tryz.prog.underlying 287 = some (.array 32 45) := by kernel_rfl
theorem eq_items (us ws : List Int) (d : Nat) (W : World) : ∀ (is : List Nat), (∀ i ∈ is, i < us.length ∧ i < ws.length) → (Op.eqItems (d + 1) 45 1 (urow us) (urow ws) is).run Tryz.prog W = .ok (is.all (fun j => us.getD j 0 == ws.getD j 0)) W
 | [], _ => by simp [Op.eqItems]
 | i :: is, h => by
  obtain ⟨h1, h2⟩ := h i List.mem_cons_self;have e1 := urow_get us i h1;have e2 := urow_get ws i h2;have p1 := run_part_plain (P := Tryz.prog) W wordPlain e1;have p2 := run_part_plain (P := Tryz.prog) W wordPlain e2;have ih := eq_items us ws d W is (fun j hj => h j (List.mem_cons_of_mem _ hj));have q := run_equalIn_int (P := Tryz.prog) W d 45 .u64 .u64 (us.getD i 0) (ws.getD i 0) Tryz.underlying45;simp only [Op.eqItems, Nat.mul_one, Sem.run_bind, p1, p2, Result.andThen_ok, q, List.all_cons]
  cases hb : (us.getD i 0 == ws.getD i 0) with
  | true => simp [ih]
  | false => simp
theorem all_same {us ws : List Int} (hu : us.length = 32) (hw : ws.length = 32) : (List.range 32).all (fun j => us.getD j 0 == ws.getD j 0) = decide (us = ws) := by
 by_cases e : us = ws
 ·rw [decide_eq_true e, e]
  simp
 ·rw [decide_eq_false e]
  rw [List.all_eq_false]
  refine Classical.byContradiction fun hn => e (list_ext_getD us ws (hu.trans hw.symm) fun i hi => ?_)
  refine Classical.byContradiction fun hne => hn ⟨i, List.mem_range.2 (by omega), by simpa using hne⟩
theorem words_eq {us ws : List Int} (hu : us.length = 32) (hw : ws.length = 32) (W : World) : (binOp BinOp.eql 287 (.agg (urow us)) (.agg (urow ws))).run Tryz.prog W = .ok (.bool (decide (us = ws))) W := by
 have h1 : (Tryz.prog.info? 45).isSome = true := by kernel_rfl
 obtain ⟨i, hi⟩ := Option.isSome_iff_exists.mp h1
 have h2 : (Op.equalIn 10000 287 (.agg (urow us)) (.agg (urow ws))).run Tryz.prog W = .ok (decide (us = ws)) W := by
  rw [run_equalIn_array W 9999 _ _ wordsUnder hi, wordCells, eq_items us ws 9998 W _ (fun i hi => by have := List.mem_range.1 hi; omega), all_same hu hw]
 go_simp
section
variable {w w' : World} {lo d B G n m : Nat} {P : Nat → Prop} {vs ws : List Int} {sv : Value} {L : List (Nat × Nat)}
theorem flay_at (h : DfAt w (dsk lo B G) lo d P n vs ws m sv L) (hm : m ≤ 900000000000) :
  Calls Tryz.prog 112 #[ptr d] w fun e w' => e = .returned (.int .i64 0) ∧ Dk w' (dsk lo B G) n ws (m + 1024) ∧ ST lo w w' := by
 have HH := hid h;obtain ⟨a, cap, rfl⟩ := own_slice h.own
 have c1 : w.cell? ⟨d, 1, none⟩ = some (.slice a L.length cap) := by rw [cell_of_heap h.head]; rfl
 have c2 : w.cell? ⟨d, 2, none⟩ = some (.int .i64 0) := by rw [cell_of_heap h.head]; rfl
 have hle := h.few;have hnn := h.nn;obtain ⟨hP, lB, lG, gt, pt, hd, hgt, hpt⟩ := h.st;have HG : Hid (gt ≤ m ∧ pt ≤ m ∧ lo ≤ B ∧ lo ≤ G) := ⟨hgt, hpt, lB, lG⟩;have hvl : vs.length = n * 32 := hd.len;have HD := hid hd
 have HK : Hid (d ≠ B ∧ d ≠ G ∧ (∀ p ∈ L, p.2 ≠ B ∧ p.2 ≠ G)) := by
  have h1 := h.apd;rw [hP] at h1;refine ⟨fun e => h1 (Or.inl e), fun e => h1 (Or.inr e), fun p hp => ?_⟩;have h2 := h.apl p hp;rw [hP] at h2;exact ⟨fun e => h2 (Or.inl e), fun e => h2 (Or.inr e)⟩
 have HS : Hid (∀ k, k < L.length → ∃ g q0 q, L[k]? = some (q0, q) ∧ a = some ⟨g, 0, none⟩ ∧ g ≠ B ∧ g ≠ G ∧ w.cell? ⟨g, k, none⟩ = some (ptr q)) := by
  intro k hk
  rcases h.own.2 with ⟨_, e⟩ | ⟨g, cap', cur, e2, hg, hh, hc, _, hcs, ht⟩
  ·omega
  ·simp only [Value.slice.injEq] at e2
   obtain ⟨e2, -, -⟩ := e2;have hp := List.getElem?_eq_getElem hk;have h2 := h.apo g (by rw [e2]; rfl);rw [hP] at h2;refine ⟨g, L[k].1, L[k].2, hp, e2, fun e => h2 (Or.inl e), fun e => h2 (Or.inr e), ?_⟩;rw [cell_of_heap hh]
   have e1 : (cur.toList.take (L.length * 1))[k]? = (L.map (fun p => ptr p.2))[k]? := by rw [ht]
   rw [List.getElem?_take_of_lt (by omega), List.getElem?_map, hp] at e1
   simpa using e1
 have HV := hid hvl;have hme := (dsk_ok lo B G).mput;have hah := (dsk_ok lo B G).aput;have hcf := (dsk_ok lo B G).cput;clear h hd hgt hpt hvl lB lG;obtain ⟨N, hN⟩ : ∃ N, N = L.length := ⟨_, rfl⟩;have HN := hid hN;obtain ⟨i0, hi0, hzz⟩ := Option.map_eq_some_iff.1 leafInfo;simp only [Prod.mk.injEq] at hzz;obtain ⟨hz0, hz1, hz2⟩ := hzz;rw [← hN] at c1 hle HS;clear hN;obtain ⟨M0, hM0⟩ : ∃ M, M = w.heap.size := ⟨_, rfl⟩;have HM0 := hid hM0;clear hM0
 go_enter Tryz.func112, Tryz.ntmps112
 go_wp2
 go_loopw [3, 21] (fun v s wr => ∃ (k z pt' : Nat) (us : List Int) (rs : List Value), k ≤ N ∧ z ≤ k ∧ s = .int .i64 k ∧ (∃ u, u = v ∧ wr.ownsRow M0 286 1 u z rs) ∧ Di.DiskAt wr B G n us gt pt' ∧ pt' ≤ m + k ∧ UpdP (fun j => j = B ∨ j = G ∨ M0 ≤ j) w wr ∧ Hid (∀ b, b < n → frameOf us b = if b ∈ (L.take k).map (fun p => p.1) then frameOf ws b else frameOf vs b)) (fun _ s _ => N - (intOf s).toNat)
 case atStart => exact ⟨0, 0, pt, vs, [], by omega, by omega, rfl, ⟨_, rfl, World.ownsRow_nil _ _ _ _⟩, HD.out, by have := HG.out; omega, UpdP.refl _ _, fun b _ => by simp⟩
 case round =>
  obtain ⟨k, z, pt', us, rs, hk, hzk, rfl, ⟨v, rfl, hown⟩, hd, hpt, hu, HF⟩ := hrel;have HU := hid hu;obtain ⟨va, vc, rfl⟩ := own_slice hown;have HOw := hid hown
  by_cases hlt : k < N
  ·have hki : (k : Int) < (N : Int) := by omega
   obtain ⟨g, q0, q, hp, rfl, hgB, hgG, d0⟩ := HS.out k hlt;have hmem := List.mem_of_getElem? hp;obtain ⟨hbq, hq0, hq⟩ := HH.out.lf _ hmem;dsimp only at hbq hq0 hq;have hqq := HK.out.2.2 _ hmem;dsimp only at hqq;have hM := HM0.out;have hq' : wr.heap[q]? = some (.cells (shRow q0 (urow (frameOf vs q0)) (urow (frameOf ws q0))) 289) := (hu.block q (lt_of_heap hq) (by have := lt_of_heap hq; omega)).trans hq;have hdd := lt_of_heap HH.out.head;have hbd' : wr.heap[d]? = w.heap[d]? := hu.block d hdd (by have := HK.out; omega)
   have e0 : wr.cell? ⟨d, 0, none⟩ = some (.iface 40 (ptr B)) := by rw [cell_of_heap (hbd'.trans HH.out.head)]; rfl
   have e1 : wr.cell? ⟨g, k, none⟩ = some (ptr q) := (World.cell?_of_block (hu.block g (cell_lt d0) (by have := cell_lt d0; dsimp only at this; omega))).trans d0
   have e2 : wr.cell? ⟨q, 0, none⟩ = some (.int .i64 (q0 : Int)) := by rw [cell_of_heap hq']; exact shRow_0 _ _ _
   have HLw : Hid ((frameOf ws q0).length = 32) := frameOf_length ws q0 n HH.out.len hq0;have HLv : Hid ((frameOf vs q0).length = 32) := frameOf_length vs q0 n HV.out hq0
   have hA : (urow (frameOf vs q0)).size = 32 := by rw [urow_size]; exact HLv.out
   have e3 : wr.rangeAt q 33 (uvs (frameOf ws q0)) := by
    intro j v hv;rw [cell_of_heap hq', shRow_now hA, urow]
    simpa [uvs] using hv
   have e4 : wr.rangeAt q 1 (uvs (frameOf vs q0)) := by
    intro j v hv;rw [cell_of_heap hq', shRow_old hA (by have := (List.getElem?_eq_some_iff.1 hv).1; rw [uvs_len, HLv.out] at this; exact this), urow]
    simpa [uvs] using hv
   have hWs : ∀ (j : Nat) (x : Int), (frameOf ws q0)[j]? = some x → wr.cell? ⟨q, 33 + j, none⟩ = some (.int .u64 x) := fun j x hx => e3 j _ (by simp [uvs, hx])
   have heq := words_eq HLw.out HLv.out;obtain ⟨Rn, hRn⟩ : ∃ R, R = uvs (frameOf ws q0) := ⟨_, rfl⟩;obtain ⟨Ro, hRo⟩ : ∃ R, R = uvs (frameOf vs q0) := ⟨_, rfl⟩
   have HRn : Hid (Rn.length = 32) := by show _ = _; rw [hRn, uvs_len]; exact HLw.out
   have HRo : Hid (Ro.length = 32) := by show _ = _; rw [hRo, uvs_len]; exact HLv.out
   have r1 : urow (frameOf ws q0) = Rn.toArray := by rw [hRn]; rfl
   have r2 : urow (frameOf vs q0) = Ro.toArray := by rw [hRo]; rfl
   rw [r1, r2] at heq;rw [← hRn] at e3;rw [← hRo] at e4;have HP := hid hp;have HD' := hid hd;have HDl : Hid (us.length = n * 32) := hd.len;have HDq := hid hq0;have HWs := hid hWs;have hs0 : wr.rangeAt q 33 Rn ∧ wr.rangeAt q 1 Ro := ⟨e3, e4⟩
   have HqB : Hid (q ≠ B ∧ q ≠ G ∧ q < wr.heap.size ∧ d < wr.heap.size ∧ d ≠ B ∧ d ≠ G ∧ M0 ≤ wr.heap.size) := by
    refine ⟨hqq.1, hqq.2, lt_of_heap hq', cell_lt e0, HK.out.1, HK.out.2.1, ?_⟩;rw [hM]; exact hu.size
   clear hp hmem hbq hq0 hq hqq hq' hbd' hu hd e3 e4 hRn hRo d0 hgB hgG HS hA hWs r1 r2 hown hM hdd
   go_wp2_with fail
   refine wp_region_held_drew (S := fun w' => w'.rangeAt q 33 Rn ∧ w'.rangeAt q 1 Ro) (by kernel_rfl) hs0 (fun hHeld => ?_);refine tkz [0, 1, 2] ?_
   iterate 3
    refine tkq (v := ?_) rfl (Or.inl ⟨by kernel_rfl, ?_⟩) ?_
    rotate_left
    ·(intro w hSw; (try dsimp only at hSw); go_simp) <;> with_reducible rfl
    (try simp only [Act.put, lq])
   refine tkw ?_;refine tkv 3 (.agg (Rn).toArray) rfl (yieldsIf_load_mid (by kernel_rfl) 287 _ rfl q 33 rfl (Rn) _ (fun w h => h.1) Tryz.underlying287 rfl (by rw [HRn.out]; exact arrSize)) ?_
   (try simp only [Act.put, lq])
   refine tkz [4, 5, 6] ?_
   iterate 3
    refine tkq (v := ?_) rfl (Or.inl ⟨by kernel_rfl, ?_⟩) ?_
    rotate_left
    ·(intro w hSw; (try dsimp only at hSw); go_simp) <;> with_reducible rfl
    (try simp only [Act.put, lq])
   refine tkw ?_;refine tkv 7 (.agg (Ro).toArray) rfl (yieldsIf_load_mid (by kernel_rfl) 287 _ rfl q 1 rfl (Ro) _ (fun w h => h.2) Tryz.underlying287 rfl (by rw [HRo.out]; exact arrSize)) ?_
   (try simp only [Act.put, lq])
   refine tkz [8] ?_
   iterate 1
    refine tkq (v := ?_) rfl (Or.inl ⟨by kernel_rfl, ?_⟩) ?_
    rotate_left
    ·(intro w hSw; (try dsimp only at hSw); go_simp) <;> with_reducible rfl
    (try simp only [Act.put, lq])
   refine tkw ?_;refine wpAnyH_done (by kernel_rfl) ?_ _;clear hs0;have hdr : wr.drew.heap = wr.heap := rfl
   by_cases hsame : frameOf ws q0 = frameOf vs q0
   ·have hdec : decide (frameOf ws q0 = frameOf vs q0) = true := decide_eq_true hsame
    rw [hdec];have HSm := hid hsame;clear hsame hdec heq;go_wp2;go_roundw
    case rel =>
     refine ⟨k + 1, z, pt', us, rs, by omega, by omega, by go_num, ⟨_, rfl, ownsRow_at HOw.out (fun _ _ => rfl)⟩, HD'.out.keep rfl rfl, by omega, ⟨HU.out.os, HU.out.tape, HU.out.output, HU.out.size, HU.out.block⟩, fun b hb => ?_⟩;have hP : L[k]? = some (q0, q) := HP.out;rw [HF.out b hb, List.take_add_one, hP]
     by_cases q1 : b ∈ (L.take k).map (fun p => p.1)
     ·rw [if_pos q1, if_pos (by rw [List.map_append]; exact List.mem_append_left _ q1)]
     ·rw [if_neg q1]
      by_cases e : b = q0
      ·rw [if_pos (by simp [e]), e, HSm.out]
      ·rw [if_neg (by rw [List.map_append, List.mem_append]; rintro (h | h); exact q1 h; simp at h; exact e h)]
    case measure => simp [intOf]; omega
   ·have hdec : decide (frameOf ws q0 = frameOf vs q0) = false := decide_eq_false hsame
    rw [hdec]
    have HPut : Hid (∀ q1, Calls Tryz.prog 398 #[ptr B, .int .i64 q0, .slice (some ⟨q, 33, none⟩) 32 32] (wr.drewN q1) fun e w' => e = .returned (.int .i64 0) ∧ Di.DiskAt w' B G n (splice us (q0 * 32) (frameOf ws q0)) gt (pt' + 1) ∧ UpdP (fun k => k = B ∨ k = G) (wr.drewN q1) w') := fun q1 =>
     dput_at (w := wr.drewN q1) (HD'.out.keep rfl rfl) q0 HDq.out (by have := HG.out; omega) q 33 (frameOf ws q0) 32 HqB.out.1 HLw.out HWs.out
    have hs1 : wr.cell? ⟨d, 0, none⟩ = some (.iface 40 (ptr B)) ∧ wr.cell? ⟨q, 0, none⟩ = some (.int .i64 (q0 : Int)) := ⟨e0, e2⟩;clear hsame hdec heq e0 e2 e1
    go_wp2_with fail
    refine wp_region_held_drew (S := fun w' => w'.cell? ⟨d, 0, none⟩ = some (.iface 40 (ptr B)) ∧ w'.cell? ⟨q, 0, none⟩ = some (.int .i64 (q0 : Int))) (by kernel_rfl) hs1 (fun hHeld => ?_);refine tkz [0, 1, 2, 3, 4, 5, 6, 7, 8, 9, 10, 11, 12, 13] ?_
    iterate 14
     refine tkq (v := ?_) rfl (Or.inl ⟨by kernel_rfl, ?_⟩) ?_
     rotate_left
     ·(intro w hSw; (try dsimp only at hSw); go_simp) <;> with_reducible rfl
     (try simp only [Act.put, lq])
    refine tkw ?_
    refine rdy 14 rfl fun K hK => ?_
    go_simp;refine (HPut.out 2).mono ?_;rintro e w1 ⟨rfl, hd1, hu1⟩;have hu2 : UpdP (fun k => k = B ∨ k = G) wr w1 := ⟨hu1.os, hu1.tape, hu1.output, hu1.size, hu1.block⟩;have hk1 := HqB.out;have b1 := hu2.block d hk1.2.2.2.1 (by omega);have b2 := hu2.block q hk1.2.2.1 (by omega);have hs2 : w1.cell? ⟨d, 0, none⟩ = some (.iface 40 (ptr B)) ∧ w1.cell? ⟨q, 0, none⟩ = some (.int .i64 (q0 : Int)) := ⟨(World.cell?_of_block b1).trans hs1.1, (World.cell?_of_block b2).trans hs1.2⟩
    have hown1 : w1.ownsRow M0 286 1 (.slice va z vc) z rs := ownsRow_at HOw.out (fun j hj => by
      obtain ⟨_, cs, h2⟩ := own_type HOw.out hj;refine hu2.block j (lt_of_heap h2) ?_;rintro (e | e)
      · have h3 := HD'.out.head
        rw [← e, h2] at h3;simp only [Option.some.injEq, Obj.cells.injEq] at h3;exact absurd h3.2.1 (by decide)
      · have h3 := HD'.out.row
        rw [← e, h2] at h3;simp only [Option.some.injEq, Obj.cells.injEq] at h3
        exact absurd h3.2.1 (by decide))
    have HO1 := hid hown1;have HD1 := hid hd1;have HU1 : Hid (UpdP (fun j => j = B ∨ j = G ∨ M0 ≤ j) w w1) := HU.out.trans (hu2.mono (fun j hj => hj.elim Or.inl (fun x => Or.inr (Or.inl x))));have hM1 : M0 ≤ w1.heap.size := Nat.le_trans hk1.2.2.2.2.2.2 hu2.size;clear hd1 hu1 hu2 hk1 b1 b2 hown1 HPut;refine hK.out _ _ hs2 (fun hHeld => ?_);clear hK K
    (try simp only [Act.put, lq])
    refine tkz [15] ?_
    iterate 1
     refine tkq (v := ?_) rfl (Or.inl ⟨by kernel_rfl, ?_⟩) ?_
     rotate_left
     ·(intro w hSw; (try dsimp only at hSw); go_simp) <;> with_reducible rfl
     (try simp only [Act.put, lq])
    refine tkw ?_;refine wpAnyH_done (by kernel_rfl) ?_ _;clear hs1 hs2
    go_wp2_with (first
      | (at_builtin; go_loud (refine wpList_append_lies _ rfl _ _ _ rfl M0 286 i0 _ 1 8 Tryz.underlying222 hi0 hz0 hz1 hz2 rfl (by omega) (.slice va z vc) z rs rfl (World.ownsRow.alloc HO1.out _) ⟨w1.heap.size, 0, none⟩ 1 1 [ptr q] rfl rfl (World.news_of_block (cs := #[ptr q]) (t := 286) (fr := (0, 0)) (heap_alloc_new w1 _)) (by simp [Value.oneCell']) (by omega) (by unfold maxLen; omega) (by omega) (by simp; omega) _ rfl ?_; intro gg' cap2 w5 hown5 hgrow hat hlt5))
      | go_in)
    go_roundw
    case rel =>
     have hlo : ∀ j, (Value.slice va z vc).ownBlock = some j → M0 ≤ j := ownsRow_low HO1.out;have hb1 : Below w1.heap.size w1 (w1.alloc (.cells #[ptr q] 286)) := below_alloc _ _
     have k5 : ∀ j, j < w1.heap.size → (Value.slice va z vc).ownBlock ≠ some j → w5.heap[j]? = w1.heap[j]? := fun j hj hn => (hgrow.block j (Nat.lt_of_lt_of_le hj hb1.size) (fun e => hn e.symm)).trans (hb1.block j hj)
     have nB : (Value.slice va z vc).ownBlock ≠ some B ∧ (Value.slice va z vc).ownBlock ≠ some G := by
      constructor
      ·intro e
       obtain ⟨_, cs, h2⟩ := own_type HO1.out e;have h3 := HD1.out.head;rw [h2] at h3;simp only [Option.some.injEq, Obj.cells.injEq] at h3;exact absurd h3.2.1 (by decide)
      ·intro e
       obtain ⟨_, cs, h2⟩ := own_type HO1.out e;have h3 := HD1.out.row;rw [h2] at h3;simp only [Option.some.injEq, Obj.cells.injEq] at h3;exact absurd h3.2.1 (by decide)
     refine ⟨k + 1, z + 1, pt' + 1, _, rs ++ [ptr q], by omega, by omega, by go_num, ⟨_, rfl, hown5⟩, HD1.out.keep (k5 B (lt_of_heap HD1.out.head) nB.1) (k5 G (lt_of_heap HD1.out.row) nB.2), by omega, ⟨hgrow.os.trans HU1.out.os, hgrow.tape.trans HU1.out.tape, hgrow.output.trans HU1.out.output, by have := HU1.out.size; have := hgrow.size; simp at this; omega, fun j hj hn => ?_⟩, fun b hb => ?_⟩
     ·have := HU1.out.size
      rw [k5 j (by omega) (fun e => hn (Or.inr (Or.inr (hlo j e))))];exact HU1.out.block j hj hn
     ·have hP : L[k]? = some (q0, q) := HP.out
      rw [frame_splice us _ n q0 b HDl.out HDq.out hb HLw.out, HF.out b hb, List.take_add_one, hP]
      by_cases e : b = q0
      ·rw [if_pos e, if_pos (by simp [e]), e]
      ·rw [if_neg e]
       by_cases q1 : b ∈ (L.take k).map (fun p => p.1)
       ·rw [if_pos q1, if_pos (by rw [List.map_append]; exact List.mem_append_left _ q1)]
       ·rw [if_neg q1, if_neg (by rw [List.map_append, List.mem_append]; rintro (h | h); exact q1 h; simp at h; exact e h)]
    case measure => simp [intOf]; omega
  ·obtain rfl : k = N := by omega
   have hus : us = ws := frames_ext hd.len HH.out.len (fun b hb => by
     rw [HF.out b hb, HN.out, List.take_length]
     by_cases q1 : b ∈ L.map (fun p => p.1)
     · rw [if_pos q1]
     · rw [if_neg q1, HH.out.out b hb q1])
   have HE : Hid (Di.DiskAt wr B G n ws gt pt') := by rw [← hus]; exact hd
   have HPq := hid hP;clear hd hu hus HS HK hown hP;go_wp2;go_ret;have hg := HG.out;refine ⟨rfl, ⟨dsk_ok _ _ _, _, rfl, hg.2.2.1, hg.2.2.2, gt, pt', HE.out, by omega, by omega⟩, ⟨HU.out.os, HU.out.tape, HU.out.output, HU.out.size, fun j hj hs _ => HU.out.block j hj ?_⟩⟩;have hM := HM0.out;have hst := disk_st HD.out;rintro (e | e | e)
   ·rcases hs with hs | hs
    ·omega
    ·exact hs (by rw [e]; exact hst.1)
   ·rcases hs with hs | hs
    ·omega
    ·exact hs (by rw [e]; exact hst.2)
   ·omega
end
abbrev errV (er : Int) : Value := .iface 25 (.int .i64 er)
abbrev pan (er : Int) : List PanicEntry := [{ v := errV er, recovered := false }]
theorem must_ok (w : World) : Calls Tryz.prog 113 #[.int .i64 0] w fun e w' => e = .returned (.tuple #[]) ∧ w' = w := by
 go_enter Tryz.func113, Tryz.ntmps113
 go_wp2
 go_end0
 exact ⟨rfl, rfl⟩
theorem told_at (er : Int) (w : World) : Calls Tryz.prog 111 #[errV er] w fun e w' => e = .returned (.int .i64 er) ∧ w' = w := by
 have hta : ∀ W : World, (Instr.typeAssert (errV er) 20 25 true).run Tryz.prog W = .ok (.tuple #[.int .i64 er, .bool true]) W := fun W => by kernel_rfl
 go_enter Tryz.func111, Tryz.ntmps111
 go_wp2;go_ret;exact ⟨rfl, rfl⟩
theorem catch_panic (c : Nat) (er x : Int) (w : World) (hc : w.cell? ⟨c, 0, none⟩ = some (.int .i64 x)) (hz : w.frozen? ⟨c, 0, none⟩ = false) :
  CallsD Tryz.prog 110 #[ptr c] (.panicking (pan er)) w fun e u' w' => e = .returned (.tuple #[]) ∧ u' = .panicking [{ v := errV er, recovered := true }] ∧ w' = w.setCell ⟨c, 0, none⟩ (.int .i64 er) := by
 have hT := told_at er w
 refine callsD_of_wpS Tryz.func110 rfl fun c₀ cs hu => ?_
 apply wpS_seq
 apply wpS_region
 simp [wpOpsS, go_sem, recoverD, hu, Tryz.ntmps110, Exit.thenS];refine wpS_of_wp ?_
 go_wp2_with fail
 refine hT.mono ?_;rintro e w1 ⟨rfl, rfl⟩;go_wp2;simp [bodyPostS, results, Tryz.results110]
theorem catch_idle (c : Nat) (w : World) :
  CallsD Tryz.prog 110 #[ptr c] .returning w fun e u' w' => e = .returned (.tuple #[]) ∧ u' = .returning ∧ w' = w := by
 refine callsD_of_wpS Tryz.func110 rfl fun c₀ cs hu => ?_
 apply wpS_seq
 apply wpS_region
 simp [wpOpsS, go_sem, recoverD, hu, Tryz.ntmps110, Exit.thenS];refine wpS_of_wp ?_;go_wp2
 cases c₀
 simp_all [bodyPostS, results, Tryz.results110]
def Doe (lo B G d n : Nat) (vs : List Int) (m : Nat) (Q : Nat → Prop) (Rok : List Int → World → Prop) (Re : Int → Prop) (W : World) : Ending → World → Prop := fun e w' =>
 (e = .returned (.tuple #[]) ∧ SU lo Q W w' ∧ ∃ ws, Dk w' (dft (dsk lo B G) lo d vs) n ws m ∧ Rok ws w') ∨ (∃ er, e = .panicked (pan er) ∧ SU lo Q W w' ∧ (∃ ws, Dk w' (dft (dsk lo B G) lo d vs) n ws m) ∧ Re er)
def Tri (lo B G n : Nat) (vs : List Int) (m : Nat) (Q : Nat → Prop) (Rok : List Int → World → Prop) (Re : Int → Prop) (w : World) : Ending → World → Prop := fun e w' =>
 (e = .returned (.int .i64 0) ∧ SU lo Q w w' ∧ ∃ ws, Dk w' (dsk lo B G) n ws (m + 1024) ∧ Rok ws w') ∨ (∃ er, e = .returned (.int .i64 er) ∧ SU lo Q w w' ∧ Dk w' (dsk lo B G) n vs (m + 1024) ∧ Re er)
theorem draft_built (t : TypeId) (b : Value) : Tryz.prog.built 224 [(0, .iface t b)] = some #[.iface t b, .slice none 0 0, .int .i64 0] := by kernel_rfl
theorem build_draft (S : Sto) (W : World) : (Instr.build 224 #[(0, sto S)]).run Tryz.prog W = .ok (.agg #[sto S, .slice none 0 0, .int .i64 0]) W := run_build W _ _ _ (draft_built S.t S.x)
theorem SU.new {lo c : Nat} {Q : Nat → Prop} {w w1 w2 : World} (h : SU lo Q w w1) (hu : Upd c w1 w2) (hc : w.heap.size ≤ c) : SU lo Q w w2 := ⟨hu.os.trans h.os, hu.tape.trans h.tape, hu.output.trans h.output, Nat.le_trans h.size hu.size, fun k hk hs hn => (hu.block k (Nat.lt_of_lt_of_le hk h.size) (by omega)).trans (h.block k hk hs hn)⟩
theorem SU.kept {lo : Nat} {Q : Nat → Prop} {w w' : World} (h : SU lo Q w w') {k : Nat} {cs : Array Value} {t : TypeId} {fr : Nat × Nat} (hk : w.heap[k]? = some (.cells cs t fr)) (ht : stB t = false) (hq : ¬ Q k) : w'.heap[k]? = some (.cells cs t fr) := by
 rw [h.block k (lt_of_heap hk) (Or.inr (not_isSt hk ht)) hq];exact hk
theorem attempt_at {w : World} {lo B G n m m' N : Nat} {vs : List Int} {caps : Array Value} {Q : Nat → Prop} {Rok : List Int → World → Prop} {Re : Int → Prop}
  (h : Dk w (dsk lo B G) n vs m) (hn : n ≤ 1024) (hmm : m ≤ m') (hm : m' ≤ 900000000000) (hQ : ∀ k, Q k → k < w.heap.size)
  (hcf : ∀ (args : Array Value) (W : World), (callFunc N args).run Tryz.prog W = .ok (.enter N args) W)
  (hK : ∀ ws w1 w2, ST lo w1 w2 → Rok ws w1 → Rok ws w2)
  (hK2 : ∀ ws w1 c cs v, w.heap.size ≤ c → w1.heap[c]? = some (Obj.cells cs 25) → Rok ws w1 → Rok ws (w1.setCell ⟨c, 0, none⟩ v))
  (hdo : ∀ W d, Below w.heap.size w W → w.heap.size ≤ d → Dk W (dft (dsk lo B G) lo d vs) n vs m → Calls Tryz.prog N (#[.iface 221 (ptr d)] ++ caps) W (Doe lo B G d n vs m' Q Rok Re W)) :
  Calls Tryz.prog 63 #[sto (dsk lo B G), .func (.func N) #[] caps] w (Tri lo B G n vs m' Q Rok Re w) := by
 have hmf : ∀ (fn : Fn) (first cap : Array Value) (w : World), (Instr.makeFunc fn first cap).run Tryz.prog w = .ok (.func fn first cap) w := fun _ _ _ _ => rfl
 obtain ⟨W0, hW0⟩ : ∃ W, W = w.alloc (.cells #[.int .i64 0] 25) := ⟨_, rfl⟩
 have hb0 : Below w.heap.size w W0 := by rw [hW0]; exact below_alloc _ _
 have hs0 : W0.heap.size = w.heap.size + 1 := by rw [hW0]; simp
 have hr0 : W0.heap[w.heap.size]? = some (.cells #[.int .i64 0] 25) := by rw [hW0]; exact heap_alloc_new _ _
 obtain ⟨W1, hW1⟩ : ∃ W, W = W0.alloc (.cells #[sto (dsk lo B G), .slice none 0 0, .int .i64 0] 224) := ⟨_, rfl⟩
 have hb1 : Below W0.heap.size W0 W1 := by rw [hW1]; exact below_alloc _ _
 have hdk := dft_new (h.below hb0) hn;rw [← hW1] at hdk;have hC := hdo W1 W0.heap.size (hb0.trans (hb1.mono hb0.size)) hb0.size hdk;have HR1 : Hid (W1.heap[w.heap.size]? = some (.cells #[.int .i64 0] 25)) := (hb1.block _ (lt_of_heap hr0)).trans hr0;have HB1 : Hid (Below w.heap.size w W1) := hb0.trans (hb1.mono hb0.size);have HW0 : Hid _ := hW0;have HW1 : Hid _ := hW1;have HS0 := hid hs0
 have HQ : Hid (¬ Q w.heap.size) := fun q => by have := hQ _ q; omega
 have HKk := hid hK;have HK2 := hid hK2;obtain ⟨c, hc⟩ : ∃ c, c = w.heap.size := ⟨_, rfl⟩;have Hc := hid hc;have hbd : ∀ W : World, (Instr.build 224 #[(0, sto (dsk lo B G))]).run Tryz.prog W = .ok (.agg #[sto (dsk lo B G), .slice none 0 0, .int .i64 0]) W := build_draft _;clear h hb0 hs0 hr0 hb1 hdk hW0 hW1 hdo hQ hK hK2 hc
 go_enter_defers Tryz.func63, Tryz.ntmps63
 go_wp2_with fail
 rw [← HW0.out, ← HW1.out, ← HS0.out, ← Hc.out];refine hC.mono ?_;rintro e w2 (⟨rfl, hsu, ws, hdk2, hR⟩ | ⟨er, rfl, hsu, ⟨ws, hdk2⟩, hRe⟩)
 ·obtain ⟨-, P, P0, sv, L, hdf, -⟩ := hdk2
  have hL := flay_at hdf hm;have h2 : w2.heap[c]? = some (.cells #[.int .i64 0] 25) := hsu.kept (by rw [Hc.out]; exact HR1.out) (by decide) (by rw [Hc.out]; exact HQ.out);have H2 := hid h2;have HSU : Hid (SU lo Q w w2) := SU.trans (SU.of_below HB1.out) hsu;have HR := hid hR;clear hC hsu hdf hR h2
  go_wp2_with fail
  refine hL.mono ?_;rintro e w3 ⟨rfl, hdk3, hst3⟩;have h3 := hst3.other H2.out (by decide)
  have c3 : w3.cell? ⟨c, 0, none⟩ = some (.int .i64 0) := by rw [cell_of_heap h3]; rfl
  have f3 : w3.frozen? ⟨c, 0, none⟩ = false := frozen_of_heap h3
  have HE : Hid (SU lo Q w (w3.setCell ⟨c, 0, none⟩ (.int .i64 0)) ∧ ∃ ws, Dk (w3.setCell ⟨c, 0, none⟩ (.int .i64 0)) (dsk lo B G) n ws (m' + 1024) ∧ Rok ws (w3.setCell ⟨c, 0, none⟩ (.int .i64 0))) :=
   ⟨(HSU.out.trans (SU.any hst3)).new (Upd.setCell _ _ _ _) (by rw [Hc.out]; exact Nat.le_refl _), ws, hdk3.other (Upd.setCell c 0 w3 _) (not_isSt h3 (by decide)), HK2.out ws w3 c _ _ (by rw [Hc.out]; exact Nat.le_refl _) h3 (HKk.out ws w2 w3 hst3 HR.out)⟩
  have HC4 : Hid ((w3.setCell ⟨c, 0, none⟩ (.int .i64 0)).cell? ⟨c, 0, none⟩ = some (.int .i64 0)) := by
   rw [cell_of_heap (cs := #[.int .i64 0]) (t := 25) (fr := (0, 0)) (by rw [setCell_eq_setRow w3 c 0 _ _ _ _ h3, setRow_heap w3 c _ _ _ _ h3]; rfl)]
   rfl
  clear hL hdk3 hst3 h3;go_wp2;refine leaves_cons (f := 110) (args := #[ptr c]) (by simp) (by simp [go_sem]) ?_;refine (catch_idle c _).mono ?_;rintro e u' w'' ⟨rfl, rfl, rfl⟩;have hc4 := HC4.out;simp [Leaves, settle, results, Tryz.results63, go_sem, hc4];exact Or.inl ⟨rfl, HE.out⟩
 ·have h2 : w2.heap[c]? = some (.cells #[.int .i64 0] 25) := hsu.kept (by rw [Hc.out]; exact HR1.out) (by decide) (by rw [Hc.out]; exact HQ.out)
  have c2 : w2.cell? ⟨c, 0, none⟩ = some (.int .i64 0) := by rw [cell_of_heap h2]; rfl
  have f2 : w2.frozen? ⟨c, 0, none⟩ = false := frozen_of_heap h2
  have hE : SU lo Q w (w2.setCell ⟨c, 0, none⟩ (.int .i64 er)) ∧ Dk (w2.setCell ⟨c, 0, none⟩ (.int .i64 er)) (dsk lo B G) n vs (m' + 1024) ∧ Re er :=
   ⟨(SU.trans (SU.of_below HB1.out) hsu).new (Upd.setCell _ _ _ _) (by rw [Hc.out]; exact Nat.le_refl _), ((dft_under hdk2).other (Upd.setCell c 0 w2 _) (not_isSt h2 (by decide))).mono (by omega), hRe⟩
  have hc4 : (w2.setCell ⟨c, 0, none⟩ (.int .i64 er)).cell? ⟨c, 0, none⟩ = some (.int .i64 er) := by
   rw [cell_of_heap (cs := #[.int .i64 er]) (t := 25) (fr := (0, 0)) (by rw [setCell_eq_setRow w2 c 0 _ _ _ _ h2, setRow_heap w2 c _ _ _ _ h2]; rfl)]
   rfl
  refine leaves_cons (f := 110) (args := #[ptr c]) (by simp) (by simp [go_sem]) ?_;refine (catch_panic c er 0 _ c2 f2).mono ?_;rintro e u' w'' ⟨rfl, rfl, rfl⟩;simp [Leaves, settle, results, Tryz.results63, go_sem, hc4];exact Or.inr ⟨er, rfl, hE⟩
end Go.Proofs.YtinaeifpoljfoaaGreatDoor
