/- Package fscore over a store: add, into. -/
/- Package fscore over a store: add of a directory. -/
import Derived.Test.YtcjpahnlckfgoaaGreatDoorTrA
namespace Go.Proofs.YtcjpahnlckfgoaaGreatDoor
open Go.RowKit
set_option linter.unusedVariables false

theorem rd_ok {i : Nat} (hi : i < 32) : rdR (i : Int) 0 192 = 0 := by
  unfold rdR
  rw [if_pos ⟨isI_nat hi, by omega, by omega⟩]
section
variable {base L k : Nat} {B : Sto} {F : FS}
set_option maxHeartbeats 4000000 in
set_option maxRecDepth 100000 in
theorem add_file (hL : L < base) {sn sn' : Nat → Bool} {i : Nat} {q : List UInt8} {nodes : List Nd} (hA : addN (intoN k F) F sn i q = some (nodes, sn')) (hi : i < 32) (hq : q.length + 9 * k ≤ 1000) (hd : isD F (i : Int) = false) {w : World} {m : Nat} {v : Value} {acc : List Nd} (h : Fs w B F m) (hK : LookAt w base L B sn v acc) (hbs : base ≤ w.heap.size) (hac : acc.length + nodes.length ≤ 5000) (hm : m + 12000 * nodes.length + 6000 ≤ 700000000000) :
    Calls Tryz.prog 99 #[ptr L, .int .i64 (i : Int), tx q] w (Tell F B base L w m sn' acc nodes) := by
  obtain ⟨i0, hi0, hzz⟩ := Option.map_eq_some_iff.1 nodeInfo
  simp only [Prod.mk.injEq] at hzz
  obtain ⟨hz0, hz1, hz2⟩ := hzz
  have hD := fisdir_at h (by omega) i hi
  obtain ⟨va, vc, rfl⟩ := own_slice hK.own
  have c0 := hK.c0
  have HK : Hid (LookAt w base L B sn (.slice va acc.length vc) acc) := hK
  unfold addN at hA
  clear hK h
  rw [hd, if_neg (by simp)] at hA
  rw [hd] at hD
  simp only [Option.some.injEq, Prod.mk.injEq] at hA
  obtain ⟨rfl, rfl⟩ := hA
  have HR : Hid (∀ W, Fs W B F (m + 3000) → Calls Tryz.prog 26 #[sto B, .int .i64 (i : Int), .int .i64 0, .int .i64 192] W fun e w' => e = .returned (.tuple #[tx (rdT F (i : Int) 0 192), .int .i64 0]) ∧ Fs w' B F (m + 6000) ∧ BG B W w') := fun W hW => by
    have := read_all hW (by omega) (i : Int) 0 192 (by omega) (by omega)
    rw [rd_ok hi] at this
    exact this
  generalize rdT F (i : Int) 0 192 = dt at *
  simp only [List.length_cons, List.length_nil] at hac hm
  go_enter Tryz.func99, Tryz.ntmps99
  go_wp2_with fail
  refine hD.mono ?_
  rintro e w1 ⟨rfl, hf, hbg⟩
  have hK1 := HK.out.st hbg
  have c1 := hK1.c0
  have hR := HR.out w1 hf
  have HK1 : Hid (LookAt w1 base L B sn (.slice va acc.length vc) acc) := hK1
  have HU1 : Hid (LU B base L w w1 ∧ Kp w w1) := ⟨SU.any hbg, Kp.of_st hbg⟩
  have hs1 : base ≤ w1.heap.size := Nat.le_trans hbs hbg.size
  clear hD hf hbg hK1 c0 HR HK
  go_wp2_with fail
  refine hR.mono ?_
  rintro e w2 ⟨rfl, hf, hbg⟩
  have hK2 := HK1.out.st hbg
  have c2 := hK2.cn
  have hs2 : base ≤ w2.heap.size := Nat.le_trans hs1 hbg.size
  have HK2 : Hid (LookAt w2 base L B sn (.slice va acc.length vc) acc) := hK2
  have HU2 : Hid (LU B base L w w2 ∧ Kp w w2) := ⟨SU.trans HU1.out.1 (SU.any hbg), HU1.out.2.trans (Kp.of_st hbg)⟩
  have HF2 : Hid (Fs w2 B F (m + 6000)) := hf
  have HOw : Hid (w2.ownsRow base 54 3 (.slice va acc.length vc) acc.length (cellsN acc)) := hK2.own
  have hLl : L < w2.heap.size := by omega
  have HNE : Hid ((Value.slice va acc.length vc).ownBlock ≠ some L) := fun e => by
    obtain ⟨_, cs, h2⟩ := own_type hK2.own e
    rw [hK2.head] at h2
    simp only [Option.some.injEq, Obj.cells.injEq] at h2
    exact absurd h2.2.1 (by decide)
  have HFZ : Hid ((w2.alloc (.cells #[tx q, .bool false, tx dt] 54)).heap[L]? = some (.cells (lkRow B sn (.slice va acc.length vc)) 89)) := (Below.heap_alloc _ _ _ hLl).trans hK2.head
  obtain ⟨N, hN⟩ : ∃ N, N = acc.length := ⟨_, rfl⟩
  have HN : Hid (N = acc.length) := hN
  rw [← hN] at HOw hac HNE HFZ c2
  clear hR hf hbg hK2 c1 HK1 hN
  go_wp2_with (first
    | (go_at_call 102; refine (must_ok _).mono ?_; rintro e w2 ⟨rfl, hw⟩; rw [hw]; clear hw w2)
    | (at_builtin; go_loud (refine wpList_append_lies _ rfl _ _ _ rfl base 54 i0 _ 3 40 Tryz.underlying33 hi0 hz0 hz1 hz2 rfl (by omega) (.slice va N vc) N (cellsN acc) rfl (World.ownsRow.alloc HOw.out _) ⟨w2.heap.size, 0, none⟩ 1 1 [tx q, .bool false, tx dt] rfl rfl (World.news_of_block (cs := #[tx q, .bool false, tx dt]) (t := 54) (fr := (0, 0)) (heap_alloc_new w2 _)) (by simp [Value.oneCell']) (by omega) (by unfold maxLen; omega) (by omega) (by simp; omega) _ rfl ?_; intro gg cap2 w5 hown5 hgrow hat hlt5; have h5 := (hgrow.block L (by simp; omega) (Ne.symm HNE.out)).trans HFZ.out; have hcw : w5.cell? ⟨L, 33, none⟩ = some (.slice va N vc) := (by rw [cell_of_heap h5]; exact lkRow_n _ _ _); have hfw : w5.frozen? ⟨L, 33, none⟩ = false := frozen_of_heap h5; clear h5))
    | go_in)
  refine bodyPost_ret (results_none rfl _ _ _) rfl ?_
  obtain ⟨r1, r2, r3⟩ := HK2.out.grow (x := ⟨q, false, dt⟩) (v' := .slice (some ⟨gg, 0, none⟩) (N + 1) cap2) hL (below_alloc w2 _) (by rw [← HN.out]; exact hgrow) (by rw [← HN.out]; exact hown5)
  refine ⟨rfl, _, ?_, r1, SU.trans HU2.out.1 r2, HU2.out.2.trans r3⟩
  have hf3 := HF2.out
  have hsame : ∀ k, IsSt w2 k → (w5.setCell ⟨L, 33, none⟩ (.slice (some ⟨gg, 0, none⟩) (N + 1) cap2)).heap[k]? = w2.heap[k]? := fun k hk => by
    have hkL : k ≠ L := fun e => not_isSt HK2.out.head (by decide) (by rw [← e]; exact hk)
    have hb := below_alloc w2 (.cells #[tx q, .bool false, tx dt] 54)
    rw [Below.heap_setCell _ _ _ _ (show k ≠ L from hkL), hgrow.block k (Nat.lt_of_lt_of_le hk.lt hb.size) (fun e => by
      obtain ⟨_, cs, h2⟩ := own_type HOw.out e.symm
      exact not_isSt h2 (by decide) hk), hb.block k hk.lt]
  exact (hf3.keep hsame).mono (by simp)
end
end Go.Proofs.YtcjpahnlckfgoaaGreatDoor

namespace Go.Proofs.YtcjpahnlckfgoaaGreatDoor
open Go.RowKit
set_option linter.unusedVariables false

section
variable {base L k : Nat} {B : Sto} {F : FS}
set_option maxHeartbeats 4000000 in
set_option maxRecDepth 100000 in
theorem add_dir (hIn : IntoOk F B base L k) (hL : L < base) {sn sn' : Nat → Bool} {i : Nat} {q : List UInt8} {nodes : List Nd} (hA : addN (intoN k F) F sn i q = some (nodes, sn')) (hi : i < 32) (hq : q.length + 9 * k ≤ 1000) (hd : isD F (i : Int) = true) {w : World} {m : Nat} {v : Value} {acc : List Nd} (h : Fs w B F m) (hK : LookAt w base L B sn v acc) (hbs : base ≤ w.heap.size) (hac : acc.length + nodes.length ≤ 5000) (hm : m + 12000 * nodes.length + 6000 ≤ 700000000000) :
    Calls Tryz.prog 99 #[ptr L, .int .i64 (i : Int), tx q] w (Tell F B base L w m sn' acc nodes) := by
  obtain ⟨i0, hi0, hzz⟩ := Option.map_eq_some_iff.1 nodeInfo
  simp only [Prod.mk.injEq] at hzz
  obtain ⟨hz0, hz1, hz2⟩ := hzz
  have hD := fisdir_at h (by omega) i hi
  obtain ⟨va, vc, rfl⟩ := own_slice hK.own
  have c0 := hK.c0
  have HK : Hid (LookAt w base L B sn (.slice va acc.length vc) acc) := hK
  unfold addN at hA
  clear hK h
  rw [hd, if_pos rfl] at hA
  rw [hd] at hD
  have HNd : Hid (∃ ns, nodes = ⟨q, true, []⟩ :: ns ∧ ((sn i = true ∧ ns = [] ∧ sn' = sn) ∨ (sn i = false ∧ intoN k F sn i q = some (ns, sn')))) := by
    cases hs : sn i with
    | true =>
      rw [hs, if_pos rfl] at hA
      simp only [Option.some.injEq, Prod.mk.injEq] at hA
      exact ⟨[], hA.1.symm, Or.inl ⟨rfl, rfl, hA.2.symm⟩⟩
    | false =>
      rw [hs, if_neg (by simp)] at hA
      obtain ⟨r, hr, he⟩ := Option.map_eq_some_iff.1 hA
      simp only [Prod.mk.injEq] at he
      exact ⟨r.1, he.1.symm, Or.inr ⟨rfl, by rw [hr, ← he.2]⟩⟩
  obtain ⟨ns, hns, hor⟩ := HNd.out
  have HO : Hid ((sn i = true ∧ ns = [] ∧ sn' = sn) ∨ (sn i = false ∧ intoN k F sn i q = some (ns, sn'))) := hor
  subst hns
  simp only [List.length_cons] at hac hm
  clear hA HNd hor
  go_enter Tryz.func99, Tryz.ntmps99
  go_wp2_with fail
  refine hD.mono ?_
  rintro e w2 ⟨rfl, hf, hbg⟩
  have hK2 := HK.out.st hbg
  have c2 := hK2.cn
  have hs2 : base ≤ w2.heap.size := Nat.le_trans hbs hbg.size
  have HK2 : Hid (LookAt w2 base L B sn (.slice va acc.length vc) acc) := hK2
  have HU2 : Hid (LU B base L w w2 ∧ Kp w w2) := ⟨SU.any hbg, Kp.of_st hbg⟩
  have HF2 : Hid (Fs w2 B F (m + 3000)) := hf
  have HOw : Hid (w2.ownsRow base 54 3 (.slice va acc.length vc) acc.length (cellsN acc)) := hK2.own
  have hLl : L < w2.heap.size := by omega
  have HNE : Hid ((Value.slice va acc.length vc).ownBlock ≠ some L) := fun e => by
    obtain ⟨_, cs, h2⟩ := own_type hK2.own e
    rw [hK2.head] at h2
    simp only [Option.some.injEq, Obj.cells.injEq] at h2
    exact absurd h2.2.1 (by decide)
  have HFZ : Hid ((w2.alloc (.cells #[tx q, .bool true, .string ⟨#[]⟩] 54)).heap[L]? = some (.cells (lkRow B sn (.slice va acc.length vc)) 89)) := (Below.heap_alloc _ _ _ hLl).trans hK2.head
  obtain ⟨N, hN⟩ : ∃ N, N = acc.length := ⟨_, rfl⟩
  have HN : Hid (N = acc.length) := hN
  rw [← hN] at HOw hac HNE HFZ c2
  clear hD hf hbg hK2 c0 HK hN
  have hii : (i : Int) < 32 := by omega
  rcases HO.out with ⟨hsn, hn0, hs0⟩ | ⟨hsn, hin⟩
  · clear HO
    have hs1 := hs0.symm
    clear hs0
    subst hn0
    subst hs1
    go_wp2_with (first
      | (at_builtin; go_loud (refine wpList_append_lies _ rfl _ _ _ rfl base 54 i0 _ 3 40 Tryz.underlying33 hi0 hz0 hz1 hz2 rfl (by omega) (.slice va N vc) N (cellsN acc) rfl (World.ownsRow.alloc HOw.out _) ⟨w2.heap.size, 0, none⟩ 1 1 [tx q, .bool true, .string ⟨#[]⟩] rfl rfl (World.news_of_block (cs := #[tx q, .bool true, .string ⟨#[]⟩]) (t := 54) (fr := (0, 0)) (heap_alloc_new w2 _)) (by simp [Value.oneCell']) (by omega) (by unfold maxLen; omega) (by omega) (by simp; omega) _ rfl ?_; intro gg cap2 w5 hown5 hgrow hat hlt5; have h5 := (hgrow.block L (by simp; omega) (Ne.symm HNE.out)).trans HFZ.out; have hcw : w5.cell? ⟨L, 33, none⟩ = some (.slice va N vc) := (by rw [cell_of_heap h5]; exact lkRow_n _ _ _); have hfw : w5.frozen? ⟨L, 33, none⟩ = false := frozen_of_heap h5; have hsc : (w5.setCell ⟨L, 33, none⟩ (.slice (some ⟨gg, 0, none⟩) (N + 1) cap2)).cell? ⟨L, 1 + i, none⟩ = some (.bool (sn i)) := (by rw [cell_of_heap (cs := lkRow B sn (.slice (some ⟨gg, 0, none⟩) (N + 1) cap2)) (t := 89) (fr := (0, 0)) (by rw [setCell_eq_setRow w5 L _ _ _ _ _ h5, setRow_heap w5 L _ _ _ _ h5, lkRow_put])]; exact lkRow_s _ _ _ i hi); rw [hsn] at hsc; clear h5))
      | go_in)
    go_end0
    have hsame : ∀ k, IsSt w2 k → (w5.setCell ⟨L, 33, none⟩ (.slice (some ⟨gg, 0, none⟩) (N + 1) cap2)).heap[k]? = w2.heap[k]? := fun k hk => by
      have hkL : k ≠ L := fun e => not_isSt HK2.out.head (by decide) (by rw [← e]; exact hk)
      have hb := below_alloc w2 (.cells #[tx q, .bool true, .string ⟨#[]⟩] 54)
      rw [Below.heap_setCell _ _ _ _ (show k ≠ L from hkL), hgrow.block k (Nat.lt_of_lt_of_le hk.lt hb.size) (fun e => by
        obtain ⟨_, cs, h2⟩ := own_type HOw.out e.symm
        exact not_isSt h2 (by decide) hk), hb.block k hk.lt]
    obtain ⟨r1, r2, r3⟩ := HK2.out.grow (x := ⟨q, true, []⟩) (v' := .slice (some ⟨gg, 0, none⟩) (N + 1) cap2) hL (below_alloc w2 _) (by rw [← HN.out]; exact hgrow) (by rw [← HN.out]; exact hown5)
    have hf3 := HF2.out.keep hsame
    exact ⟨rfl, _, hf3.mono (by simp), r1, SU.trans HU2.out.1 r2, HU2.out.2.trans r3⟩
  · have HIn : Hid (intoN k F sn i q = some (ns, sn')) := hin
    clear HO hin
    go_wp2_with (first
      | (at_builtin; go_loud (refine wpList_append_lies _ rfl _ _ _ rfl base 54 i0 _ 3 40 Tryz.underlying33 hi0 hz0 hz1 hz2 rfl (by omega) (.slice va N vc) N (cellsN acc) rfl (World.ownsRow.alloc HOw.out _) ⟨w2.heap.size, 0, none⟩ 1 1 [tx q, .bool true, .string ⟨#[]⟩] rfl rfl (World.news_of_block (cs := #[tx q, .bool true, .string ⟨#[]⟩]) (t := 54) (fr := (0, 0)) (heap_alloc_new w2 _)) (by simp [Value.oneCell']) (by omega) (by unfold maxLen; omega) (by omega) (by simp; omega) _ rfl ?_; intro gg cap2 w5 hown5 hgrow hat hlt5; have h5 := (hgrow.block L (by simp; omega) (Ne.symm HNE.out)).trans HFZ.out; have hcw : w5.cell? ⟨L, 33, none⟩ = some (.slice va N vc) := (by rw [cell_of_heap h5]; exact lkRow_n _ _ _); have hfw : w5.frozen? ⟨L, 33, none⟩ = false := frozen_of_heap h5; have hsc : (w5.setCell ⟨L, 33, none⟩ (.slice (some ⟨gg, 0, none⟩) (N + 1) cap2)).cell? ⟨L, 1 + i, none⟩ = some (.bool (sn i)) := (by rw [cell_of_heap (cs := lkRow B sn (.slice (some ⟨gg, 0, none⟩) (N + 1) cap2)) (t := 89) (fr := (0, 0)) (by rw [setCell_eq_setRow w5 L _ _ _ _ _ h5, setRow_heap w5 L _ _ _ _ h5, lkRow_put])]; exact lkRow_s _ _ _ i hi); rw [hsn] at hsc; clear h5))
      | fail)
    have hsame : ∀ k, IsSt w2 k → (w5.setCell ⟨L, 33, none⟩ (.slice (some ⟨gg, 0, none⟩) (N + 1) cap2)).heap[k]? = w2.heap[k]? := fun k hk => by
      have hkL : k ≠ L := fun e => not_isSt HK2.out.head (by decide) (by rw [← e]; exact hk)
      have hb := below_alloc w2 (.cells #[tx q, .bool true, .string ⟨#[]⟩] 54)
      rw [Below.heap_setCell _ _ _ _ (show k ≠ L from hkL), hgrow.block k (Nat.lt_of_lt_of_le hk.lt hb.size) (fun e => by
        obtain ⟨_, cs, h2⟩ := own_type HOw.out e.symm
        exact not_isSt h2 (by decide) hk), hb.block k hk.lt]
    obtain ⟨r1, r2, r3⟩ := HK2.out.grow (x := ⟨q, true, []⟩) (v' := .slice (some ⟨gg, 0, none⟩) (N + 1) cap2) hL (below_alloc w2 _) (by rw [← HN.out]; exact hgrow) (by rw [← HN.out]; exact hown5)
    have hf3 := HF2.out.keep hsame
    have hI := hIn sn i q ns sn' HIn.out hi hq _ (m + 3000) _ _ hf3 r1 (by have := r2.size; omega) (by simp; have := HN.out; omega) (by omega)
    have HU3 : Hid (LU B base L w (w5.setCell ⟨L, 33, none⟩ (.slice (some ⟨gg, 0, none⟩) (N + 1) cap2)) ∧ Kp w (w5.setCell ⟨L, 33, none⟩ (.slice (some ⟨gg, 0, none⟩) (N + 1) cap2))) := ⟨SU.trans HU2.out.1 r2, HU2.out.2.trans r3⟩
    clear r1 r2 r3 hf3 hsame
    refine hI.mono ?_
    rintro e w6 ⟨rfl, v', hf6, hK6, hu6, hk6⟩
    have HF : Hid (∃ v', Fs w6 B F (m + 12000 * (ns.length + 1)) ∧ LookAt w6 base L B sn' v' (acc ++ ⟨q, true, []⟩ :: ns) ∧ LU B base L w w6 ∧ Kp w w6) := ⟨v', hf6.mono (by omega), by rw [List.append_assoc] at hK6; exact hK6, SU.trans HU3.out.1 hu6, HU3.out.2.trans hk6⟩
    clear hI hf6 hK6 hu6 hk6
    go_wp2
    go_end0
    exact ⟨rfl, HF.out⟩
end
end Go.Proofs.YtcjpahnlckfgoaaGreatDoor
