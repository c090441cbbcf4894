/- Package exoipc: the library's Delete over a queue's row; take, Recv. -/
import Derived.Test.YtikeknehkoccpaaIpcC
import Derived.Laws.ResultCell
namespace Go.Proofs.Ytikeknehkoccpaa
open Go.RowKit
set_option linter.unusedVariables false

theorem run_append_zero {P : Program} (w : World) (t e : TypeId) (i : TypeInfo) (ht : P.underlying t = some (.slice e)) (hi : P.info? e = some i) (a b : Option Addr) (n c cap : Nat) (hle : n ≤ c) (ty : TypeId) :
    (Builtin.append_ #[t, t] ty #[.slice a n c, .slice b 0 cap]).run P w = .ok (.slice a n c) w := by
  cases a <;> cases b <;> simp [Builtin.append_, run_underlying ht, sizeOf, typeInfo, hi, Builtin.lenOf, Builtin.firstCells, loadCells, loadCellsFrom, hle, storeCells]
theorem elemM : Try.prog.elem 54 = 64 := by kernel_rfl
set_option maxRecDepth 100000 in
theorem cut_0 (g len cap : Nat) (V : World) : (Instr.slice 54 (.slice (some ⟨g, 0, none⟩) len cap) none (some (.int .i64 0)) none).run Try.prog V = .ok (.slice (some ⟨g, 0, none⟩) 0 cap) V := by
  obtain ⟨i0, hi0, hzz⟩ := Option.map_eq_some_iff.1 msgInfo
  rw [run_slice_h V 54 _ _ _ Try.underlying54 _ _ (by omega) (by omega)]
  simp [sizeOf, typeInfo, elemM, hi0, sliced, Addr.add]
set_option maxRecDepth 100000 in
theorem cut_1 (g len cap n : Nat) (hl : len = n + 1) (V : World) : (Instr.slice 54 (.slice (some ⟨g, 0, none⟩) len cap) (some (.int .i64 1)) none none).run Try.prog V = .ok (.slice (some (if cap = 1 then ⟨g, 0, none⟩ else ⟨g, 2, none⟩)) n (cap - 1)) V := by
  obtain ⟨i0, hi0, hzz⟩ := Option.map_eq_some_iff.1 msgInfo
  simp only [Prod.mk.injEq] at hzz
  subst hl
  rw [run_slice_l V 54 _ _ _ Try.underlying54 _ _ (by omega) (by omega)]
  simp only [sizeOf, typeInfo, elemM, sliced, Sem.run_bind, Sem.run_pure]
  by_cases h : cap = 1
  · simp [h, hi0]
  · simp [h, hi0, Addr.add, hzz.2.1]
set_option maxRecDepth 100000 in
theorem cut_01 (g len cap : Nat) (h1 : 1 ≤ len) (h2 : len ≤ cap) (V : World) : (Instr.slice 54 (.slice (some ⟨g, 0, none⟩) len cap) (some (.int .i64 0)) (some (.int .i64 1)) (some (.int .i64 len))).run Try.prog V = .ok (.slice (some ⟨g, 0, none⟩) 1 len) V := by
  obtain ⟨i0, hi0, hzz⟩ := Option.map_eq_some_iff.1 msgInfo
  rw [run_slice_lhm V 54 _ _ _ Try.underlying54 _ _ _ _ _ _ (by omega) (by omega) (by omega) (by omega)]
  simp [sizeOf, typeInfo, elemM, hi0, sliced, Addr.add]
set_option maxRecDepth 100000 in
theorem cut_end (g len cap n : Nat) (hl : len = n + 1) (h2 : len ≤ cap) (V : World) : (Instr.slice 54 (.slice (some ⟨g, 0, none⟩) n cap) (some (.int .i64 n)) (some (.int .i64 len)) none).run Try.prog V = .ok (.slice (some ⟨g, n * 2, none⟩) 1 (cap - n)) V := by
  obtain ⟨i0, hi0, hzz⟩ := Option.map_eq_some_iff.1 msgInfo
  simp only [Prod.mk.injEq] at hzz
  rw [run_slice_lh V 54 _ _ _ Try.underlying54 _ _ _ _ (by omega) (by omega) (by omega)]
  subst hl
  simp only [sizeOf, typeInfo, elemM, sliced, Sem.run_bind, Sem.run_pure]
  have hne : ¬ cap = n := by omega
  simp [hi0, Addr.add, hzz.2.1, hne]
  omega
/-- append(s[:0], s[1:]...): the first one is gone. -/
theorem del_append {g cap n c : Nat} {cur : Array Value} {m : Mg} {R : List Mg} {w : World} {a2 : Addr} (hh : w.heap[g]? = some (.cells cur 64 (0, 0))) (hcs : cur.size = cap * 2) (hn : n = R.length) (hc : n + 1 ≤ cap) (hpt : Pts cur (m :: R)) (ha : 0 < n → a2 = ⟨g, 2, none⟩) :
    ∃ w2 cur2, (∀ ty, (Builtin.append_ #[54, 54] ty #[.slice (some ⟨g, 0, none⟩) 0 cap, .slice (some a2) n c]).run Try.prog w = .ok (.slice (some ⟨g, 0, none⟩) n cap) w2) ∧ w2.heap[g]? = some (.cells cur2 64 (0, 0)) ∧ cur2.size = cap * 2 ∧ Pts cur2 R ∧ Upd g w w2 := by
  obtain ⟨i0, hi0, hzz⟩ := Option.map_eq_some_iff.1 msgInfo
  simp only [Prod.mk.injEq] at hzz
  by_cases h0 : n = 0
  · have : R = [] := List.length_eq_zero_iff.1 (by omega)
    subst this
    subst h0
    exact ⟨w, cur, fun ty => run_append_zero w _ _ i0 Try.underlying54 hi0 _ _ 0 cap c (by omega) ty, hh, hcs, fun i e he => by simp at he, Upd.refl _ _⟩
  · have ha' := ha (by omega)
    subst ha'
    have hread : ∀ j u, (mcells R)[j]? = some u → w.cell? ((⟨g, 2, none⟩ : Addr).add j) = some u := by
      intro j u hu
      have hj : j < R.length * 2 := by rw [← mcells_len]; exact (List.getElem?_eq_some_iff.1 hu).1
      obtain ⟨q, hq⟩ : ∃ q, R[j / 2]? = some q := ⟨R[j / 2], List.getElem?_eq_getElem (by omega)⟩
      obtain ⟨b1, b2⟩ := mcells_get R _ q hq
      obtain ⟨c1, c2⟩ := hpt (j / 2 + 1) q (by simpa using hq)
      rw [add0, cell_of_heap hh]
      rcases Nat.mod_two_eq_zero_or_one j with e | e
      · rw [show j / 2 * 2 = j by omega] at b1
        rw [b1] at hu
        cases hu
        rw [show 2 + j = (j / 2 + 1) * 2 by omega]
        exact c1
      · rw [show j / 2 * 2 + 1 = j by omega] at b2
        rw [b2] at hu
        cases hu
        rw [show 2 + j = (j / 2 + 1) * 2 + 1 by omega]
        exact c2
    have hr := fun ty => run_append_room (P := Try.prog) w 54 ty 64 i0 Try.underlying54 hi0 g 0 cap cur hh ⟨g, 2, none⟩ n c (mcells R) (by rw [mcells_len, hzz.2.1, hn]) hread (mcells_one R) (by omega) (by rw [mcells_len, hcs]; omega)
    simp only [Nat.zero_add, Nat.zero_mul, List.take_zero, List.nil_append] at hr
    refine ⟨_, _, hr, setRow_heap w g _ _ _ _ hh, ?_, ?_, Upd.setRow _ _ _⟩
    · simp [mcells_len, hcs]
      omega
    · intro i e he
      obtain ⟨b1, b2⟩ := mcells_get R i e he
      have hi : i < R.length := (List.getElem?_eq_some_iff.1 he).1
      rw [List.getElem?_toArray, List.getElem?_toArray, List.getElem?_append_left (by rw [mcells_len]; omega), List.getElem?_append_left (by rw [mcells_len]; omega)]
      exact ⟨b1, b2⟩

set_option maxRecDepth 100000 in
set_option maxHeartbeats 2000000 in
theorem delete_any (g cap : Nat) (cur : Array Value) (m : Mg) (R : List Mg) (len : Nat) (w : World) (hlen : len = R.length + 1) (hh : w.heap[g]? = some (.cells cur 64 (0, 0))) (hc : len ≤ cap) (hcs : cur.size = cap * 2) (hpt : Pts cur (m :: R)) (hcl : cap ≤ maxLen) :
    Calls Try.prog 30 #[.slice (some ⟨g, 0, none⟩) len cap, .int .i64 0, .int .i64 1] w fun o w' =>
      ∃ cur', o = .returned (.slice (some ⟨g, 0, none⟩) R.length cap) ∧ w'.heap[g]? = some (.cells cur' 64 (0, 0)) ∧ cur'.size = cap * 2 ∧ Pts cur' R ∧ Upd g w w' := by
  have s1 := cut_01 g len cap (by omega) hc
  have s2 := cut_0 g len cap
  have s3 := cut_1 g len cap R.length hlen
  have s4 := cut_end g len cap R.length hlen hc
  have HA2 : Hid (0 < R.length → (if cap = 1 then (⟨g, 0, none⟩ : Addr) else ⟨g, 2, none⟩) = ⟨g, 2, none⟩) := fun hk1 => if_neg (by omega)
  generalize (if cap = 1 then (⟨g, 0, none⟩ : Addr) else ⟨g, 2, none⟩) = a2 at *
  obtain ⟨w2, cur2, hrun, h2, hs2, hp2, hu2⟩ := del_append (w := w.drew) (c := cap - 1) (R := R) (m := m) (n := R.length) (a2 := a2) hh hcs rfl (by omega) hpt HA2.out
  obtain ⟨cur3, hclr, hs3, hx3⟩ := run_clear_wide (P := Try.prog) w2 54 0 64 g (R.length * 2) 1 (cap - R.length) cur2 64 _ 2 Try.underlying54 msgZero rfl (by omega) (by simp [Value.cells, Value.oneCell']) h2 (by omega) (by rw [hs2]; omega)
  have HRun : Hid _ := hrun
  have HF : Hid ((w2.setRow g cur3).heap[g]? = some (.cells cur3 64 (0, 0))) := setRow_heap _ _ _ _ _ _ h2
  have HS : Hid (cur3.size = cap * 2) := hs3.trans hs2
  have HP : Hid (Pts cur3 R) := hp2.sub (fun x hx => hx3 x hx)
  have HU : Hid (Upd g w (w2.setRow g cur3)) := ((Upd.drew g w).trans hu2).trans (Upd.setRow _ _ _)
  clear hh hcs hpt hlen hc hrun h2 hs2 hp2 hu2 hs3 hx3
  go_enter Try.func30, Try.ntmps30
  go_wp2_with fail
  go_region_law (refine step_append_eq rfl (.tmp 22) (.tmp 25) 54 rfl (.slice (some ⟨g, 0, none⟩) 0 cap) (.slice (some a2) R.length (cap - 1)) (.slice (some ⟨g, 0, none⟩) R.length cap) (by rfl) (by rfl) HRun.out ?_)
  all_goals
    go_wp2
    go_ret
    exact ⟨cur3, rfl, HF.out, HS.out, HP.out, HU.out⟩
theorem delete_at {B : Nat} {v : Value} {m : Mg} {R : List Mg} {w : World} (h : w.ownsRow B 64 2 v (m :: R).length (mcells (m :: R))) :
    Calls Try.prog 30 #[v, .int .i64 0, .int .i64 1] w fun o w' =>
      ∃ a c, o = .returned (.slice a R.length c) ∧ w'.ownsRow B 64 2 (.slice a R.length c) R.length (mcells R) ∧ w.grownBy w' v.ownBlock ∧ (∀ g, (Value.slice a R.length c).ownBlock = some g → v.ownBlock = some g) := by
  rcases own_pts h with ⟨_, h2⟩ | ⟨g, cap, cur, rfl, hB, hh, hc, hm, hs, hpt⟩
  · cases h2
  · refine (delete_any g cap cur m R _ w (by simp) hh hc hs hpt hm).mono ?_
    rintro o w' ⟨cur', rfl, hh', hs', hpt', hu⟩
    exact ⟨_, _, rfl, own_of_pts hB hh' (by simp at hc; omega) hm hs' hpt', upd_grown hu, fun g hg => hg⟩

theorem setCell_comm (w : World) (p q : Addr) (x y : Value) (h : p.block ≠ q.block) : (w.setCell p x).setCell q y = (w.setCell q y).setCell p x := by
  unfold World.setCell
  congr 1
  apply Array.ext
  · simp
  · intro i h1 h2
    simp only [Array.getElem_modify]
    by_cases e1 : p.block = i
    · have e2 : ¬ q.block = i := fun e => h (e1.trans e.symm)
      simp [e1, e2]
    · simp [e1]
set_option maxRecDepth 100000 in
set_option maxHeartbeats 2000000 in
theorem take_no (B b j : Nat) (V : Nat → Value) (Q : QS) (w : World) (h : IpcIs w B b V Q) (hj : j < 12) (hq : Q j = []) :
    Calls Try.prog 27 #[.pointer (some ⟨b, j, none⟩)] w fun e w' => e = .returned (.tuple #[.agg #[.int .i64 0, .slice none 0 0], .bool false]) ∧ Below w.heap.size w w' := by
  have c0 := h.cell hj
  obtain ⟨av, cv, hv⟩ := own_slice (h.own j hj)
  rw [hv, hq] at c0
  have hb := h.ltb
  clear h hv hq
  dsimp only [List.length_nil] at c0
  have hn0 : b ≠ w.heap.size := by omega
  have hn1 : b ≠ w.heap.size + 1 := by omega
  go_enter Try.func27, Try.ntmps27
  go_wp2
  refine bodyPost_ret (v := .tuple #[.agg #[.int .i64 0, .slice none 0 0], .bool false]) ?_ rfl ⟨rfl, ?_⟩
  · rw [results_cell_tmp rfl]
    go_simp
  · exact (below_alloc w _).trans ((below_alloc _ _).mono (by simp))
set_option maxRecDepth 100000 in
set_option maxHeartbeats 2000000 in
theorem take_yes (B b j : Nat) (V : Nat → Value) (Q : QS) (m : Mg) (R : List Mg) (w : World) (h : IpcIs w B b V Q) (hj : j < 12) (hq : Q j = m :: R) :
    Calls Try.prog 27 #[.pointer (some ⟨b, j, none⟩)] w fun e w' => e = .returned (.tuple #[.agg (mrow m), .bool true]) ∧ IpcAt w' B b (Q.set j R) ∧ Tch B w w' := by
  have c0 := h.cell hj
  have hown := h.own j hj
  rw [hq] at hown
  have hb := h.ltb
  have hn0 : b ≠ w.heap.size := by omega
  have hn1 : b ≠ w.heap.size + 1 := by omega
  have HI : Hid _ := h
  have hpts := own_pts hown
  rcases hpts with ⟨_, h2⟩ | ⟨g, cap, cur, hv, hB, hh, hc, hm, hs, hpt⟩
  · cases h2
  obtain ⟨p0, p1⟩ := hpt 0 m rfl
  have hgl := lt_of_heap hh
  have d0 : w.cell? ⟨g, 0, none⟩ = some (.int .i64 m.fr) := by rw [cell_of_heap hh]; exact p0
  have d1 : w.cell? ⟨g, 1, none⟩ = some (.slice m.a m.ws.length m.cap) := by rw [cell_of_heap hh]; exact p1
  have hg0 : g ≠ w.heap.size := by omega
  have hg1 : g ≠ w.heap.size + 1 := by omega
  rw [hv] at c0
  have HV : Hid _ := hv
  have hlen : (m :: R).length = R.length + 1 := rfl
  rw [hlen] at c0
  have gl : (((R.length + 1 : Nat) : Int) == 0) = false := beq_false_of_ne (by omega)
  have gl2 : (((R.length : Int) + 1) == 0) = false := beq_false_of_ne (by omega)
  obtain ⟨W, hW⟩ : ∃ W, W = (w.alloc (.cells #[.int .i64 0, .slice none 0 0] 64)).alloc (.cells (mrow m) 64) := ⟨_, rfl⟩
  have hbW : Below w.heap.size w W := by rw [hW]; exact (below_alloc w _).trans ((below_alloc _ _).mono (by simp))
  have hW0 : W.heap[w.heap.size]? = some (.cells #[.int .i64 0, .slice none 0 0] 64) := by
    rw [hW, Below.heap_alloc _ _ _ (by simp)]
    exact heap_alloc_new _ _
  have hW1 : W.heap[w.heap.size + 1]? = some (.cells (mrow m) 64) := by
    rw [hW]
    have := heap_alloc_new (w.alloc (.cells #[.int .i64 0, .slice none 0 0] 64)) (.cells (mrow m) 64)
    rwa [World.size_alloc] at this
  have hWb : W.cell? ⟨b, j, none⟩ = some (.slice (some ⟨g, 0, none⟩) (R.length + 1) cap) := by rw [hbW.cell (p := ⟨b, j, none⟩) hb]; exact c0
  have hWf : W.frozen? ⟨b, j, none⟩ = false := by
    have := (h.below hbW).free j
    exact this
  have hD := delete_at (ownsRow_below hown hbW)
  rw [hv, hlen] at hD
  have HBW : Hid _ := hbW
  have HW0 : Hid _ := hW0
  have HW1 : Hid _ := hW1
  have HWb : Hid _ := hWb
  have HWf : Hid _ := hWf
  have HQ : Hid _ := hq
  unfold mrow at hW
  have HW : Hid _ := hW
  clear hq hW hbW hW0 hW1 hWb hWf h hown hv hh hc hm hs hpt p0 p1 hlen
  go_enter Try.func27, Try.ntmps27
  go_wp2_with fail
  rw [← HW.out]
  clear HW c0 d0 d1
  refine hD.mono ?_
  rintro o w4 ⟨a4, c4, rfl, hown4, hgrow4, hat4⟩
  have hsz : w.heap.size + 1 < W.heap.size := lt_of_heap HW1.out
  have hk0 : w4.heap[w.heap.size]? = _ := (hgrow4.block _ (lt_of_heap HW0.out) (by simp only [Value.ownBlock, ne_eq, Option.some.injEq]; omega)).trans HW0.out
  have hk1 : w4.heap[w.heap.size + 1]? = _ := (hgrow4.block _ hsz (by simp only [Value.ownBlock, ne_eq, Option.some.injEq]; omega)).trans HW1.out
  have hgb : g ≠ b := fun e => HI.out.far hj (by rw [HV.out, ← e]; rfl)
  have hkb : w4.heap[b]? = W.heap[b]? := hgrow4.block b (by omega) (by simp only [Value.ownBlock, ne_eq, Option.some.injEq]; omega)
  have e0 : w4.cell? ⟨w.heap.size, 0, none⟩ = some (.int .i64 0) := by rw [cell_of_heap hk0]; rfl
  have e1 : w4.cell? ⟨w.heap.size, 1, none⟩ = some (.slice none 0 0) := by rw [cell_of_heap hk0]; rfl
  have e2 : w4.cell? ⟨w.heap.size + 1, 0, none⟩ = some (.int .i64 m.fr) := by rw [cell_of_heap hk1]; rfl
  have e3 : w4.cell? ⟨w.heap.size + 1, 1, none⟩ = some (.slice m.a m.ws.length m.cap) := by rw [cell_of_heap hk1]; rfl
  have e4 : w4.cell? ⟨b, j, none⟩ = some (.slice (some ⟨g, 0, none⟩) (R.length + 1) cap) := cell_same HWb.out hkb
  have e5 : w4.frozen? ⟨b, j, none⟩ = false := by rw [← HWf.out]; exact World.frozen?_of_block hkb
  have e6 : w4.frozen? ⟨w.heap.size, 0, none⟩ = false := frozen_of_heap hk0
  have e7 : w4.frozen? ⟨w.heap.size, 1, none⟩ = false := frozen_of_heap hk0
  have HO4 : Hid _ := hown4
  have HG4 : Hid _ := hgrow4
  have HA4 : Hid _ := hat4
  clear hk0 hk1 hkb hown4 hgrow4 hat4 HW0 HW1 HWb HWf
  go_wp2
  refine bodyPost_ret (v := .tuple #[.agg (mrow m), .bool true]) ?_ rfl ⟨rfl, ?_⟩
  · rw [results_cell_tmp rfl]
    go_simp
  · clear e0 e1 e2 e3 e4 e5 e6 e7
    rw [setCell_comm w4 ⟨b, j, none⟩ ⟨w.heap.size, 0, none⟩ _ _ hn0, setCell_comm _ ⟨b, j, none⟩ ⟨w.heap.size, 1, none⟩ _ _ hn0]
    have hg : w.grownBy ((w4.setCell ⟨w.heap.size, 0, none⟩ (.int .i64 m.fr)).setCell ⟨w.heap.size, 1, none⟩ (.slice m.a m.ws.length m.cap)) (V j).ownBlock := by
      have h4 := HG4.out
      have hb0 := HBW.out
      refine ⟨h4.os.trans hb0.os, h4.tape.trans hb0.tape, h4.output.trans hb0.output, ?_, fun k hk hne => ?_⟩
      · have := h4.size
        have := hb0.size
        simp [World.setCell]
        omega
      · rw [Below.heap_setCell _ _ _ _ (by show k ≠ w.heap.size; omega), Below.heap_setCell _ _ _ _ (by show k ≠ w.heap.size; omega)]
        refine (h4.block k (by omega) (fun e => hne ?_)).trans (hb0.block k hk)
        rw [e, HV.out]
        rfl
    have ho : ((w4.setCell ⟨w.heap.size, 0, none⟩ (.int .i64 m.fr)).setCell ⟨w.heap.size, 1, none⟩ (.slice m.a m.ws.length m.cap)).ownsRow B 64 2 (.slice a4 R.length c4) R.length (mcells R) := by
      refine ownsRow_at HO4.out (fun g' hg' => ?_)
      have e := HA4.out g' hg'
      simp only [Value.ownBlock, Option.some.injEq] at e
      rw [Below.heap_setCell _ _ _ _ (by show g' ≠ w.heap.size; omega), Below.heap_setCell _ _ _ _ (by show g' ≠ w.heap.size; omega)]
    refine ⟨HI.out.put hj hg ho (fun g' hg' => Or.inl (by rw [HV.out]; exact HA4.out g' hg')) (fun q hq => ?_) ?_, HI.out.tch hj hg⟩
    · refine (HI.out.wd j hj q (by rw [HQ.out]; exact List.mem_cons_of_mem _ hq)).keep (fun k cs fr hk => ?_)
      refine (hg.block k (lt_of_heap hk) (fun e => ?_)).trans hk
      obtain ⟨cs', hcs⟩ := own_type (HI.out.own j hj) e.symm
      rw [hk] at hcs
      simp only [Option.some.injEq, Obj.cells.injEq] at hcs
      exact absurd hcs.2.1 (by decide)
    · have := HI.out.len j hj
      rw [HQ.out] at this
      simp at this
      omega
end Go.Proofs.Ytikeknehkoccpaa
