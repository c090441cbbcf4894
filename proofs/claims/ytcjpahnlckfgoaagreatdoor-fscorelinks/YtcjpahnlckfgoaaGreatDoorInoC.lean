/- Package inode: a draft's at and lay. -/
import Derived.Test.YtcjpahnlckfgoaaGreatDoorInoAB
namespace Go.Proofs.YtcjpahnlckfgoaaGreatDoor
open Go.RowKit
set_option linter.all false

theorem wpList_build_eq {P : Program} {ops : Array Oper} {rest : List Oper} {o : Oper} {a : Act} {w : World} {Q : Exit → Act → World → Prop} (hg : o.guard = none) (t : TypeId) (parts : Array (Nat × Operand)) (ho : o.op = .build t parts) (cells : Array Value)
    (hb : P.built t (parts.map fun (i, x) => (i, a.eval x)).toList = some cells) (h : wpList P ops Q rest (a.put o.dst (.agg cells)) w) : wpList P ops Q (o :: rest) a w :=
  wpList_build hg t parts ho (by rw [hb]; rfl) (by rw [hb]; exact h)
theorem sheetInfo : (Tryz.prog.info? 168).map (fun i => (i.zero, i.size, i.bytes)) = some (some (.pointer none), 1, 8) := by kernel_rfl
/-- Where the words of block b lie, to be changed. -/
def DrQ (w : World) (base bd : Nat) (B : Sto) (n : Nat) (vs ws : List Int) (m b q : Nat) : Prop := ∃ sv S, DrAt w base bd B n vs ws m sv S ∧ (b, q) ∈ S
def Dr (w : World) (base bd : Nat) (B : Sto) (n : Nat) (vs ws : List Int) (m : Nat) : Prop := ∃ sv S, DrAt w base bd B n vs ws m sv S
section
variable {w w' : World} {base bd n m : Nat} {B : Sto} {vs ws : List Int}
theorem DrQ.dr {b q : Nat} (h : DrQ w base bd B n vs ws m b q) : Dr w base bd B n vs ws m := by
  obtain ⟨sv, S, h, _⟩ := h
  exact ⟨sv, S, h⟩
theorem Dr.below (h : Dr w base bd B n vs ws m) (hb : Below w.heap.size w w') : Dr w' base bd B n vs ws m := by
  obtain ⟨sv, S, h⟩ := h
  exact ⟨sv, S, h.below hb⟩
theorem Dr.other (h : Dr w base bd B n vs ws m) {g : Nat} (hu : Upd g w w') (hg : base ≤ g) (hd : ¬ IsD w g ∧ ¬ IsSt w g) : Dr w' base bd B n vs ws m := by
  obtain ⟨sv, S, h⟩ := h
  exact ⟨sv, S, h.other hu hg hd⟩
theorem Dr.len (h : Dr w base bd B n vs ws m) : ws.length = n * 32 := by
  obtain ⟨sv, S, h⟩ := h
  exact h.len
theorem Dr.cells (h : Dr w base bd B n vs ws m) : ∃ sv, w.cell? ⟨bd, 0, none⟩ = some (sto B) ∧ w.cell? ⟨bd, 1, none⟩ = some sv ∧ w.cell? ⟨bd, 2, none⟩ = some (.int .i64 0) := by
  obtain ⟨sv, S, h⟩ := h
  exact ⟨sv, by rw [cell_of_heap h.head]; rfl, by rw [cell_of_heap h.head]; rfl, by rw [cell_of_heap h.head]; rfl⟩

/-- The sheet's words, and where they lie. -/
theorem DrQ.row {b q : Nat} (h : DrQ w base bd B n vs ws m b q) : ∃ A : Array Value, A.size = 32 ∧ w.heap[q]? = some (.cells (shRow b A (urow (frameOf ws b))) 170) ∧ base ≤ q ∧ b < n := by
  obtain ⟨sv, S, h, hq⟩ := h
  obtain ⟨h1, h2, A, h3, h4⟩ := h.sh _ hq
  exact ⟨A, h3, h4, h1, h2⟩
theorem DrQ.word {b q j : Nat} (h : DrQ w base bd B n vs ws m b q) (hj : j < 32) : w.cell? ⟨q, 33 + j, none⟩ = some (.int .u64 ((frameOf ws b).getD j 0)) := by
  have hl : ws.length = n * 32 := h.dr.len
  obtain ⟨A, hA, hh, _, hb⟩ := h.row
  rw [cell_of_heap hh, shRow_now hA, urow_get _ _ (by rw [frameOf_length ws b n hl hb]; exact hj)]
theorem DrQ.free {b q j : Nat} (h : DrQ w base bd B n vs ws m b q) : w.frozen? ⟨q, j, none⟩ = false := by
  obtain ⟨A, hA, hh, _, _⟩ := h.row
  exact frozen_of_heap hh
theorem shRow_set {k : Nat} {A : Array Value} {xs : List Int} (hA : A.size = 32) (j : Nat) (x : Int) : (shRow k A (urow xs)).setIfInBounds (33 + j) (.int .u64 x) = shRow k A (urow (xs.set j x)) := by
  unfold shRow
  apply Array.ext_getElem?
  intro i
  rw [Array.getElem?_setIfInBounds]
  by_cases e : 33 + j = i
  · subst e
    rw [if_pos rfl, Array.getElem?_append_right (by simp [hA])]
    simp only [Array.size_append, hA, urow_size, List.length_set]
    by_cases q : j < xs.length
    · rw [if_pos (by simp; omega)]
      simp [urow, q]
    · rw [if_neg (by simp; omega)]
      simp [urow]
      omega
  · rw [if_neg e]
    by_cases q : i < 33
    · rw [Array.getElem?_append_left (xs := #[Value.int .i64 (k : Int)] ++ A) (by simp [hA]; omega), Array.getElem?_append_left (xs := #[Value.int .i64 (k : Int)] ++ A) (by simp [hA]; omega)]
    · rw [Array.getElem?_append_right (by simp [hA]; omega), Array.getElem?_append_right (by simp [hA]; omega)]
      simp only [urow, hA, Array.size_append, List.size_toArray, List.length_cons, List.length_nil, List.getElem?_toArray, List.getElem?_map]
      rw [List.getElem?_set_ne (by omega)]
/-- One word is laid anew. -/
theorem DrQ.set {b q j : Nat} {x : Int} (h : DrQ w base bd B n vs ws m b q) (hj : j < 32) :
    DrQ (w.setCell ⟨q, 33 + j, none⟩ (.int .u64 x)) base bd B n vs (splice ws (b * 32) ((frameOf ws b).set j x)) m b q ∧ DT base B w (w.setCell ⟨q, 33 + j, none⟩ (.int .u64 x)) := by
  have hl : ws.length = n * 32 := h.dr.len
  obtain ⟨_, _, _, _, hb⟩ := h.row
  obtain ⟨sv, S, h, hq⟩ := h
  obtain ⟨h1, h2⟩ := h.put hq (us := (frameOf ws b).set j x) (w' := w.setCell ⟨q, 33 + j, none⟩ (.int .u64 x)) (by rw [List.length_set, frameOf_length ws b n hl hb]) (fun A hA hh => by
    rw [setCell_eq_setRow w q _ _ _ _ _ hh, setRow_heap w q _ _ _ _ hh, shRow_set hA]) (Upd.setCell _ _ _ _)
  exact ⟨⟨sv, S, h1, hq⟩, h2⟩
/-- All 32 are. -/
theorem DrQ.lay {b q : Nat} {us : List Int} (h : DrQ w base bd B n vs ws m b q) (hu : us.length = 32) (hw : ∀ A : Array Value, A.size = 32 → w.heap[q]? = some (.cells (shRow b A (urow (frameOf ws b))) 170) → w'.heap[q]? = some (.cells (shRow b A (urow us)) 170)) (hU : Upd q w w') :
    DrQ w' base bd B n vs (splice ws (b * 32) us) m b q ∧ DT base B w w' := by
  obtain ⟨sv, S, h, hq⟩ := h
  obtain ⟨h1, h2⟩ := h.put hq hu hw hU
  exact ⟨⟨sv, S, h1, hq⟩, h2⟩

theorem DrAt.grow {sv sv' : Value} {S : List (Nat × Nat)} (h : DrAt w base bd B n vs ws m sv S) {w1 w4 w5 : World} {b q : Nat} {R : Array Value} (hb : b < n) (hnot : b ∉ S.map (fun p => p.1)) (hd1 : Dk w1 B n vs (m + S.length + 1))
    (hu1 : ST B.lo w w1) (hq : w1.heap.size ≤ q) (h4 : Below w1.heap.size w1 w4) (hq4 : w4.heap[q]? = some (.cells (shRow b R R) 170)) (hR : R = urow (frameOf vs b))
    (hgrow : w4.grownBy w5 sv.ownBlock) (hown5 : w5.ownsRow base 168 1 sv' (S.length + 1) (S.map (fun p => ptr p.2) ++ [ptr q])) :
    DrAt (w5.setCell ⟨bd, 1, none⟩ sv') base bd B n vs ws m sv' (S ++ [(b, q)]) ∧ DT base B w (w5.setCell ⟨bd, 1, none⟩ sv') := by
  have hbB := h.bB
  have hs1 := hu1.size
  have hbl := lt_of_heap h.head
  have hv : ∀ g, sv.ownBlock = some g → base ≤ g ∧ g < w.heap.size ∧ IsD w g ∧ g ≠ bd := by
    intro g hg
    obtain ⟨h1, cs, h2⟩ := own_type h.own hg
    refine ⟨h1, lt_of_heap h2, ⟨_, _, _, h2, Or.inr (Or.inr rfl)⟩, fun e => ?_⟩
    have h3 := h.head
    rw [← e, h2] at h3
    simp only [Option.some.injEq, Obj.cells.injEq] at h3
    exact absurd h3.2.1 (by decide)
  have old1 : ∀ k, k < w1.heap.size → sv.ownBlock ≠ some k → w5.heap[k]? = w1.heap[k]? := fun k hk hn => (hgrow.block k (Nat.lt_of_lt_of_le hk h4.size) (fun e => hn e.symm)).trans (h4.block k hk)
  have old : ∀ k, k < w.heap.size → (k < B.lo ∨ ¬ IsSt w k) → sv.ownBlock ≠ some k → w5.heap[k]? = w.heap[k]? := fun k hk hB hn => (old1 k (by omega) hn).trans (hu1.block k hk hB id)
  have hst1 : ∀ k, IsSt w1 k → k ≠ bd ∧ sv.ownBlock ≠ some k := fun k hk => by
    refine ⟨fun e => ?_, fun e => ?_⟩
    · have e1 := hu1.other h.head (by decide)
      rw [← e] at e1
      exact not_isSt e1 (by decide) hk
    · obtain ⟨_, cs, e1⟩ := own_type h.own e
      exact not_isSt (hu1.other e1 (by decide)) (by decide) hk
  have hh5 : w5.heap[bd]? = some (.cells #[sto B, sv, .int .i64 0] 102) := (old bd hbl (Or.inr (isD_not_st h.isd)) (fun e => (hv bd e).2.2.2 rfl)).trans h.head
  have hq5 : w5.heap[q]? = some (.cells (shRow b R R) 170) := (hgrow.block q (lt_of_heap hq4) (fun e => by have := (hv q e.symm).2.1; omega)).trans hq4
  refine ⟨⟨?_, ?_, hbB, fun p hp => ?_, ?_, fun k hk hn => h.out k hk (fun e => hn (by simp [e])), h.len, ?_, h.nn⟩, ⟨?_, ?_, ?_, ?_, fun k hk hB hg => ?_⟩⟩
  · rw [setCell_eq_setRow w5 bd 1 _ _ _ _ hh5, setRow_heap w5 bd _ _ _ _ hh5]
    rfl
  · rw [List.length_append, List.map_append]
    refine ownsRow_at hown5 (fun g hg => Below.heap_setCell _ _ _ _ ?_)
    show g ≠ bd
    intro e
    obtain ⟨_, cs, h2⟩ := own_type hown5 hg
    rw [e, hh5] at h2
    simp only [Option.some.injEq, Obj.cells.injEq] at h2
    exact absurd h2.2.1 (by decide)
  · rcases List.mem_append.1 hp with hp | hp
    · obtain ⟨h1, h2, A, h3, h4'⟩ := h.sh p hp
      refine ⟨h1, h2, A, h3, ?_⟩
      rw [Below.heap_setCell _ _ _ _ (show p.2 ≠ bd from fun e => by
        have h5 := h.head
        rw [← e, h4'] at h5
        simp only [Option.some.injEq, Obj.cells.injEq] at h5
        exact absurd h5.2.1 (by decide)), old p.2 (lt_of_heap h4') (Or.inr (isD_not_st (h.isq hp))) (fun e => by
        obtain ⟨_, cs, h5⟩ := own_type h.own e
        rw [h4'] at h5
        simp only [Option.some.injEq, Obj.cells.injEq] at h5
        exact absurd h5.2.1 (by decide))]
      exact h4'
    · simp only [List.mem_singleton] at hp
      subst hp
      refine ⟨by show base ≤ q; omega, hb, R, by rw [hR, urow_size, frameOf_length vs b n hd1.len hb], ?_⟩
      show (w5.setCell ⟨bd, 1, none⟩ sv').heap[q]? = _
      rw [Below.heap_setCell _ _ _ _ (show q ≠ bd by omega), hq5, h.out b hb hnot, ← hR]
  · rw [List.map_append, List.nodup_append]
    refine ⟨h.nd, by simp, fun x hx y hy e => ?_⟩
    simp only [List.map_cons, List.map_nil, List.mem_singleton] at hy
    subst hy
    subst e
    exact hnot hx
  · rw [List.length_append]
    exact hd1.keep (fun k hk => (Below.heap_setCell _ _ _ _ (show k ≠ bd from (hst1 k hk).1)).trans (old1 k hk.lt (hst1 k hk).2))
  · exact hgrow.os.trans (h4.os.trans hu1.os)
  · exact hgrow.tape.trans (h4.tape.trans hu1.tape)
  · exact hgrow.output.trans (h4.output.trans hu1.output)
  · have a1 := hgrow.size
    have a2 := h4.size
    simp only [World.setCell, Array.size_modify]
    omega
  · have hne : k ≠ bd := by
      rintro rfl
      rcases hg with hg | hg
      · omega
      · exact hg h.isd
    rw [Below.heap_setCell _ _ _ _ (show k ≠ bd from hne)]
    refine old k hk hB (fun e => ?_)
    rcases hg with hg | hg
    · have := (hv k e).1; omega
    · exact hg (hv k e).2.2.1

set_option maxHeartbeats 2000000 in
set_option maxRecDepth 100000 in
theorem dat_at (h : Dr w base bd B n vs ws m) (b : Nat) (hb : b < n) (hm : m ≤ 900000000000) :
    Calls Tryz.prog 50 #[ptr bd, .int .i64 b] w fun e w' => ∃ q, e = .returned (.pointer (some ⟨q, 33, none⟩)) ∧ DrQ w' base bd B n vs ws m b q ∧ DT base B w w' := by
  obtain ⟨sv, S, h⟩ := h
  have HH : Hid (DrAt w base bd B n vs ws m sv S) := h
  obtain ⟨a, cap, rfl⟩ := own_slice h.own
  have c0 : w.cell? ⟨bd, 0, none⟩ = some (sto B) := by rw [cell_of_heap h.head]; rfl
  have c1 : w.cell? ⟨bd, 1, none⟩ = some (.slice a S.length cap) := by rw [cell_of_heap h.head]; rfl
  have c2 : w.cell? ⟨bd, 2, none⟩ = some (.int .i64 0) := by rw [cell_of_heap h.head]; rfl
  have hle := h.few
  have hnn := h.nn
  have HS : Hid (∀ k, k < S.length → ∃ g q0 q, S[k]? = some (q0, q) ∧ a = some ⟨g, 0, none⟩ ∧ w.cell? ⟨g, k, none⟩ = some (ptr q) ∧ w.cell? ⟨q, 0, none⟩ = some (.int .i64 (q0 : Int))) := by
    intro k hk
    rcases h.own.2 with ⟨_, e⟩ | ⟨g, cap', cur, e2, hg, hh, hc, _, hcs, ht⟩
    · omega
    · simp only [Value.slice.injEq] at e2
      obtain ⟨e2, -, -⟩ := e2
      have hp := List.getElem?_eq_getElem hk
      obtain ⟨_, _, A, hA, hq⟩ := h.sh _ (List.getElem_mem hk)
      refine ⟨g, S[k].1, S[k].2, hp, e2, ?_, by rw [cell_of_heap hq]; exact shRow_0 _ _ _⟩
      rw [cell_of_heap hh]
      have e1 : (cur.toList.take (S.length * 1))[k]? = (S.map (fun p => ptr p.2))[k]? := by rw [ht]
      rw [List.getElem?_take_of_lt (by omega), List.getElem?_map, hp] at e1
      simpa using e1
  clear h
  obtain ⟨L, hL⟩ : ∃ L, L = S.length := ⟨_, rfl⟩
  have HL : Hid (L = S.length) := hL
  rw [← hL] at c1 hle HS
  clear hL
  go_enter Tryz.func50, Tryz.ntmps50
  go_wp2
  go_loopw [15] (fun s wr => ∃ (k : Nat), k ≤ L ∧ s = .int .i64 k ∧ wr = w ∧ Hid (∀ j p, j < k → S[j]? = some p → p.1 ≠ b)) (fun s _ => L - (intOf s).toNat)
  case atStart => exact ⟨0, by omega, rfl, rfl, fun j p hj => by omega⟩
  case round =>
    obtain ⟨k, hk, rfl, rfl, HA⟩ := hrel
    by_cases hlt : k < L
    · have hki : (k : Int) < (L : Int) := by omega
      obtain ⟨g, q0, q, hp, rfl, d0, d1⟩ := HS.out k hlt
      have HP : Hid (S[k]? = some (q0, q)) := hp
      clear hp
      by_cases hq : q0 = b
      · have hqb : ((q0 : Int) == (b : Int)) = true := by simp [hq]
        have HQ : Hid (q0 = b) := hq
        clear hq HA
        go_wp2
        go_ret
        refine ⟨q, rfl, ⟨_, S, HH.out, ?_⟩, DT.refl _ _ _⟩
        rw [← HQ.out]
        exact List.mem_of_getElem? HP.out
      · have hqb : ((q0 : Int) == (b : Int)) = false := by simp; omega
        have HQ : Hid (q0 ≠ b) := hq
        clear hq
        go_wp2
        go_roundw
        case rel =>
          refine ⟨k + 1, by omega, by go_num, by trivial, fun j p hj hp => ?_⟩
          by_cases e : j = k
          · subst e
            have := HP.out
            rw [this] at hp
            cases hp
            exact HQ.out
          · exact HA.out j p (by omega) hp
        case measure => simp [intOf]; omega
    · obtain rfl : k = L := by omega
      have hnot : b ∉ S.map (fun p => p.1) := by
        intro hm
        obtain ⟨p, hp, e⟩ := List.mem_map.1 hm
        obtain ⟨j, hj, ep⟩ := List.getElem_of_mem hp
        exact HA.out j p (by have := HL.out; omega) (by rw [List.getElem?_eq_getElem hj, ep]) e
      have HNot : Hid (b ∉ S.map (fun p => p.1)) := hnot
      have hd := HH.out.disk
      have hg := iget_at hd b hb (by have := HL.out; omega)
      have HLn : Hid _ := frameOf_length vs b n hd.len hb
      have hz := lit_zc
      clear hnot HA HS hd
      have hown := HH.out.own
      rw [← HL.out] at hown
      have hne : (Value.slice a k cap).ownBlock ≠ some bd := by
        intro e
        obtain ⟨_, cs, h2⟩ := own_type hown e
        have h5 := HH.out.head
        rw [h2] at h5
        simp only [Option.some.injEq, Obj.cells.injEq] at h5
        exact absurd h5.2.1 (by decide)
      have HNE : Hid ((Value.slice a k cap).ownBlock ≠ some bd) := hne
      have hbl : bd < wr.heap.size := lt_of_heap HH.out.head
      have HfB : Hid (base ≤ wr.heap.size) := by have := HH.out.bB; show base ≤ _; omega
      obtain ⟨R, hR⟩ : ∃ R, R = urow (frameOf vs b) := ⟨_, rfl⟩
      have HRq : Hid _ := hR
      have HRs : Hid (R.size = 32) := by show _ = _; rw [hR, urow_size]; exact HLn.out
      have HRo : Hid (R.all (·.oneCell') = true) := by show _ = _; rw [hR]; exact urow_one _
      obtain ⟨X, hX⟩ : ∃ X, X = shRow b R R := ⟨_, rfl⟩
      have HXq : Hid _ := hX
      rw [← hR] at hg
      obtain ⟨i0, hi0, hzz⟩ := Option.map_eq_some_iff.1 sheetInfo
      simp only [Prod.mk.injEq] at hzz
      obtain ⟨hz0, hz1, hz2⟩ := hzz
      have HOw : Hid _ := hown
      clear hR hX hne hown
      go_wp2_with fail
      refine hg.mono ?_
      rintro e w1 ⟨rfl, hd1, hu1⟩
      have HD1 : Hid (Dk w1 B n vs (m + S.length + 1)) := hd1
      have HU1 : Hid (ST B.lo wr w1) := hu1
      have hbl1 : bd < w1.heap.size := by have := hu1.size; omega
      have hheap := hu1.same HH.out.head (by decide)
      have c1' : w1.cell? ⟨bd, 1, none⟩ = some (.slice a k cap) := (World.cell?_of_block hheap).trans c1
      have f1' : w1.frozen? ⟨bd, 1, none⟩ = false := frozen_of_heap (hheap.trans HH.out.head)
      have hown1 : w1.ownsRow base 168 1 (.slice a k cap) k (S.map (fun p => ptr p.2)) := ownsRow_at HOw.out (fun g hg => by obtain ⟨_, cs, h2⟩ := own_type HOw.out hg; exact hu1.same h2 (by decide))
      have HO1 : Hid _ := hown1
      have hs1 : base ≤ w1.heap.size := by have := HfB.out; have := hu1.size; omega
      obtain ⟨W2, hW2⟩ : ∃ W, W = w1.alloc (.cells R 105) := ⟨_, rfl⟩
      have HW2 : Hid _ := hW2
      have HFZ : Hid ((((w1.alloc (.cells R 105)).alloc (.cells X 170)).alloc (.cells #[ptr (w1.heap.size + 1)] 168)).heap[bd]? = some (.cells #[sto B, .slice a k cap, .int .i64 0] 102)) := by
        show _ = _
        rw [Below.heap_alloc _ _ _ (by simp; omega), Below.heap_alloc _ _ _ (by simp; omega), Below.heap_alloc _ _ _ hbl1, hheap, HH.out.head, HL.out]
      clear hg hd1 hu1 hheap c0 c1 c2 hown1 hW2
      go_wp2_with (first
        | (refine wpList_store_row rfl 105 _ _ rfl w1.heap.size R rfl rfl 105 zc (heap_alloc_new _ _) (by rw [HRs.out]; exact contSize) (by rw [HRs.out]; rfl) HRo.out ?_; rw [setRow_alloc_new])
        | (refine wpList_load_row rfl 105 _ rfl w1.heap.size rfl 105 R (0, 0) _ (heap_alloc_new _ _) Tryz.underlying105 rfl (by rw [HRs.out]; exact contSize) ?_)
        | (refine wpList_build_eq rfl 170 _ rfl X (by rw [HXq.out, ← sheet_built HRs.out HRs.out]; go_simp) ?_)
        | (at_builtin; go_loud (refine wpList_append_lies _ rfl _ _ _ rfl base 168 i0 _ 1 8 Tryz.underlying100 hi0 hz0 hz1 hz2 rfl (by omega) (.slice a k cap) k (S.map (fun p => ptr p.2)) rfl (World.ownsRow.alloc (World.ownsRow.alloc (World.ownsRow.alloc HO1.out _) _) _) ⟨w1.heap.size + 1 + 1, 0, none⟩ 1 1 [ptr (w1.heap.size + 1)] rfl rfl (World.news_of_block (cs := #[ptr (w1.heap.size + 1)]) (t := 168) (fr := (0, 0)) (by have := heap_alloc_new ((w1.alloc (.cells R 105)).alloc (.cells X 170)) (.cells #[ptr (w1.heap.size + 1)] 168); simpa using this)) (by simp [Value.oneCell']) (by omega) (by unfold maxLen; omega) (by omega) (by simp; omega) _ rfl ?_; intro gg cap2 w5 hown5 hgrow hat hlt5; have h5 := (hgrow.block bd (by simp; omega) (Ne.symm HNE.out)).trans HFZ.out; have hcw : w5.cell? ⟨bd, 1, none⟩ = some (.slice a k cap) := (by rw [cell_of_heap h5]; rfl); have hfw : w5.frozen? ⟨bd, 1, none⟩ = false := frozen_of_heap h5; clear h5))
        | go_in)
      go_ret
      have hb4 : Below w1.heap.size w1 (((w1.alloc (.cells R 105)).alloc (.cells X 170)).alloc (.cells #[ptr (w1.heap.size + 1)] 168)) := ((below_alloc _ _).trans ((below_alloc _ _).mono (by simp))).trans ((below_alloc _ _).mono (by simp; omega))
      have hq4 : (((w1.alloc (.cells R 105)).alloc (.cells X 170)).alloc (.cells #[ptr (w1.heap.size + 1)] 168)).heap[w1.heap.size + 1]? = some (.cells (shRow b R R) 170) := by
        rw [Below.heap_alloc _ _ _ (by simp), heap_alloc2_new, HXq.out]
      obtain ⟨r1, r2⟩ := HH.out.grow hb HNot.out HD1.out HU1.out (by omega) hb4 hq4 HRq.out (by rw [← HL.out]; exact hgrow) (by rw [← HL.out]; simpa using hown5)
      exact ⟨_, rfl, ⟨_, _, r1, by simp⟩, r2⟩
end
end Go.Proofs.YtcjpahnlckfgoaaGreatDoor
