/- The reference of package caps: put, Add, Give. -/
import Derived.Test.YtfnafjddajgahaaGreatRefB8
import Derived.Deep.RegionLaw
import Derived.Deep.AppendLies
import Derived.BigRegion
namespace Go.Proofs.YtfnafjddajgahaaGreat
open Go.RowKit
namespace Ca
set_option linter.unusedVariables false

theorem step_append_eq {P : Program} {ops : Array Oper} {o : Oper} {a : Act} {w w' : World} {K : Act → World → Prop} {Q : Exit → Act → World → Prop} {E : Prop} (hgd : o.guard = none) (s x : Operand) (t : TypeId)
    (ho : o.op = .call { callee := .builtin .append, args := #[s, x], argTypes := #[t, t] }) (sv xv r : Value) (hs : a.eval s = sv) (hx : a.eval x = xv) (hr : ∀ ty, (Builtin.append_ #[t, t] ty #[sv, xv]).run P w = .ok r w') (hK : K (a.put o.dst r) w') :
    if Region.wanted o (yielded ops a.tmps) = true then Oper.wp P o a w K Q else E := by
  have hw : Region.wanted o (yielded ops a.tmps) = true := by simp [Region.wanted, hgd]
  rw [if_pos hw]
  unfold Oper.wp execOp
  simp only [ho, resolve, invoke, builtin, Sem.run_bind, Sem.run_pure, Result.andThen_ok, List.map_toArray, List.map_cons, List.map_nil, hs, hx, hr]
  exact hK
theorem run_append_none {P : Program} (w : World) (t e : TypeId) (i : TypeInfo) (ht : P.underlying t = some (.slice e)) (hi : P.info? e = some i) (b : Option Addr) (cap : Nat) (ty : TypeId) :
    (Builtin.append_ #[t, t] ty #[.slice none 0 0, .slice b 0 cap]).run P w = .ok (.slice none 0 0) w := by
  cases b <;> simp [Builtin.append_, run_underlying ht, sizeOf, typeInfo, hi, Builtin.lenOf, Builtin.firstCells, loadCells, loadCellsFrom]
theorem ceInfo : (Tryz.prog.info? 99).map (fun i => (i.zero, i.size, i.bytes)) = some (some (.agg #[.int .i64 0, .int .i64 0, .int .i64 0, .int .i64 0, .int .i64 0, .int .i64 0, .int .i64 0, .int .i64 0]), 8, 64) := by kernel_rfl
theorem ccells_one (L : List Ce) : ∀ u ∈ ccells L, u.oneCell' = true := by
  intro u hu
  simp only [ccells, List.mem_flatMap] at hu
  obtain ⟨d, _, hd⟩ := hu
  simp at hd
  rcases hd with rfl | rfl | rfl | rfl | rfl | rfl | rfl | rfl <;> rfl
theorem RefAt.apart {M : Nat} {w : World} {c : Nat} {sv : Value} {L : List Ce} {last : Int} (h : RefAt M w c sv L last) : sv.ownBlock ≠ some c := by
  intro e
  rcases h.own.2 with ⟨e2, _⟩ | ⟨g, cap, cur, e2, _, hh, _⟩
  · rw [e2] at e; simp [Value.ownBlock] at e
  · rw [e2] at e
    simp [Value.ownBlock] at e
    subst e
    rw [h.head] at hh
    simp at hh
theorem RefAt.put1 {M : Nat} {w : World} {c : Nat} {sv : Value} {L : List Ce} {last : Int} (h : RefAt M w c sv L last) (q : Int) : RefAt M (w.setCell ⟨c, 1, none⟩ (.int .i64 q)) c sv L q := by
  refine ⟨?_, ownsRow_at h.own (fun g hg => Below.heap_setCell _ _ _ _ (fun e => h.apart (by have e' : g = c := e; rw [← e']; exact hg))), h.nil⟩
  rw [setCell_eq_setRow w c 1 _ _ _ _ h.head, setRow_heap w c _ _ _ _ h.head]
  rfl
theorem head0 {w : World} {c : Nat} {sv u : Value} {t : TypeId} (h : w.heap[c]? = some (.cells #[sv, u] t)) (v : Value) : (w.setCell ⟨c, 0, none⟩ v).heap[c]? = some (.cells #[v, u] t) := by
  rw [setCell_eq_setRow w c 0 _ _ _ _ h, setRow_heap w c _ _ _ _ h]
  rfl
theorem own_news8 {w : World} {base : Nat} {e : TypeId} {g n cap : Nat} {xs : List Value} (h : w.ownsRow base e 8 (.slice (some ⟨g, 0, none⟩) n cap) n xs) : ∀ j u, xs[j]? = some u → w.cell? ((⟨g, 0, none⟩ : Addr).add j) = some u := by
  intro j u hj
  rcases h.2 with ⟨e2, _⟩ | ⟨g', cap', cur, e2, _, hh, _, _, _, ht⟩
  · cases e2
  · simp only [Value.slice.injEq, Option.some.injEq, Addr.mk.injEq] at e2
    obtain ⟨⟨rfl, _⟩, _⟩ := e2
    have ea : (⟨g, 0, none⟩ : Addr).add j = ⟨g, 0 + j, none⟩ := by unfold Addr.add; split <;> simp_all
    rw [ea, cell_of_heap hh, Nat.zero_add]
    rw [← ht] at hj
    have hl : j < n * 8 := by
      rcases Nat.lt_or_ge j (n * 8) with hl | hl
      · exact hl
      · rw [List.getElem?_take_eq_none hl] at hj
        cases hj
    rw [List.getElem?_take_of_lt hl] at hj
    simpa using hj

theorem rput_full (M c : Nat) (sv : Value) (L : List Ce) (last n ob : Int) (x : Cp) (w : World) (h : RefAt M w c sv L last) (hl : L.length ≤ 1000) (hf : rfree L n = 0) :
    Calls Tryz.prog 73 #[.pointer (some ⟨c, 0, none⟩), .int .i64 n, .int .i64 ob, .agg (cpRow x)] w fun e w' => e = .returned (.tuple #[.int .i64 0, .int .i64 105]) ∧ Below w.heap.size w w' := by
  obtain ⟨W, hW⟩ : ∃ W, W = w.alloc (.cells (cpRow x) 95) := ⟨_, rfl⟩
  have hbW : Below w.heap.size w W := by rw [hW]; exact below_alloc _ _
  have hfr := free_at M c sv L last n W (h.below hbW) hl
  rw [hf] at hfr
  clear h hf
  obtain ⟨k, i, l, r⟩ := x
  dsimp only [cpRow] at *
  go_enter Tryz.func73, Tryz.ntmps73
  go_wp2_with fail
  rw [← hW]
  refine hfr.mono ?_
  rintro e w1 ⟨rfl, hw1⟩
  rw [hw1]
  clear hw1 w1
  rw [hW]
  go_wp2
  go_ret2
  exact ⟨rfl, below_alloc _ _⟩

set_option maxRecDepth 100000 in
set_option maxHeartbeats 4000000 in
theorem rput_cons (M c : Nat) (sv : Value) (L : List Ce) (last n ob s : Int) (x : Cp) (w : World) (h : RefAt M w c sv L last) (hM : M ≤ w.heap.size) (hl : L.length ≤ 900) (hla : 0 ≤ last ∧ last ≤ 100000) (hf : rfree L n = s) (hs : 1 ≤ s) (hpos : 0 < L.length) :
    Calls Tryz.prog 73 #[.pointer (some ⟨c, 0, none⟩), .int .i64 n, .int .i64 ob, .agg (cpRow x)] w fun e w' => e = .returned (.tuple #[.int .i64 s, .int .i64 0]) ∧ ∃ sv', RefAt M w' c sv' (L ++ [⟨last + 1, ob, n, s, x⟩]) (last + 1) ∧ Upd c w w' := by
  obtain ⟨i0, hi0, hzz⟩ := Option.map_eq_some_iff.1 ceInfo
  simp only [Prod.mk.injEq] at hzz
  obtain ⟨hz0, hz1, hz2⟩ := hzz
  obtain ⟨W0, hW0⟩ : ∃ W, W = w.alloc (.cells (cpRow x) 95) := ⟨_, rfl⟩
  have hbW0 : Below w.heap.size w W0 := by rw [hW0]; exact below_alloc _ _
  have hr0 := h.below hbW0
  have hfr := free_at M c sv L last n W0 hr0 (by omega)
  rw [hf] at hfr
  have hr1 := hr0.put1 (last + 1)
  have hsz0 : W0.heap.size = w.heap.size + 1 := by rw [hW0]; simp
  have hbox0 : W0.heap[w.heap.size]? = some (.cells (cpRow x) 95) := by rw [hW0]; exact heap_alloc_new _ _
  have hlt := h.lt
  obtain ⟨W, hW⟩ : ∃ W, W = W0.setCell ⟨c, 1, none⟩ (.int .i64 (last + 1)) := ⟨_, rfl⟩
  have hu1 : Upd c W0 W := by rw [hW]; exact Upd.setCell _ _ _ _
  rw [← hW] at hr1
  have hsz : W.heap.size = w.heap.size + 1 := by rw [hW]; simp [World.setCell, hsz0]
  have hbox : W.heap[w.heap.size]? = some (.cells (cpRow x) 95) := (hu1.block _ (by omega) (by omega)).trans hbox0
  obtain ⟨b0, b1, b2, b3⟩ := cap_cells hbox
  have a1 := hr0.c1
  have fa : W0.frozen? ⟨c, 1, none⟩ = false := frozen_of_heap hr0.head
  have HU : Hid (Upd c w W) := (Upd.of_below hbW0).trans hu1
  have HW0 : Hid _ := hW0
  have HW : Hid _ := hW
  have HR1 : Hid _ := hr1
  have hc0 := hr1.c0
  have hc1 := hr1.c1
  have hfz : W.frozen? ⟨c, 0, none⟩ = false := frozen_of_heap hr1.head
  have hcW := hr1.lt
  have hss : (s == 0) = false := by simp; omega
  obtain ⟨hla0, hla9⟩ := hla
  have hqW : w.heap.size < W.heap.size := by omega
  have HNB : Hid (∀ (Z : World), (Z.alloc (.cells #[.int .i64 (last + 1), .int .i64 ob, .int .i64 n, .int .i64 s, .int .i64 x.kind, .int .i64 x.id, .int .i64 x.len, .int .i64 x.rights] 99)).heap[Z.heap.size]? = some (.cells #[.int .i64 (last + 1), .int .i64 ob, .int .i64 n, .int .i64 s, .int .i64 x.kind, .int .i64 x.id, .int .i64 x.len, .int .i64 x.rights] 99 (0, 0))) := fun Z => heap_alloc_new _ _
  have HMW : Hid (M ≤ W.heap.size) := by show M ≤ W.heap.size; omega
  clear hr0 hbox0 hbox hu1 hbW0 h hW hW0 hf hsz hsz0
  obtain ⟨k, i, l, r⟩ := x
  dsimp only [cpRow] at *
  obtain ⟨g, cap, hsv⟩ : ∃ g cap, sv = .slice (some ⟨g, 0, none⟩) L.length cap := by
    rcases hr1.own.2 with ⟨_, e3⟩ | ⟨g, cap, cur, e2, _⟩
    · omega
    · exact ⟨g, cap, e2⟩
  subst hsv
  have N1 : Hid (∀ j u, (ccells L)[j]? = some u → W.cell? ((⟨g, 0, none⟩ : Addr).add j) = some u) := own_news8 hr1.own
  have HLen : Hid ((ccells L).length = L.length * 8) := ccells_len L
  have HONE : Hid (∀ u ∈ ccells L, u.oneCell' = true) := ccells_one L
  clear hr1
  go_enter Tryz.func73, Tryz.ntmps73
  go_wp2_with fail
  rw [← HW0.out]
  refine hfr.mono ?_
  rintro e w1 ⟨rfl, hw1⟩
  rw [hw1]
  clear hw1 w1 hfr
  go_wp2
  rw [← HW.out]
  clear a1 fa
  have hfa := frozen?_alloc_cells
  go_region_law (first
    | (refine step_append_lies _ (by rfl) (.const (.slice none 0 0)) (.tmp 27) _ (by rfl) W.heap.size 99 i0 _ 8 64 Tryz.underlying63 hi0 hz0 hz1 hz2 rfl (by omega) (.slice none 0 0) 0 [] (by rfl) (World.ownsRow_nil _ _ _ _)
          ⟨g, 0, none⟩ L.length cap (ccells L) (by rfl) HLen.out (fun j u hu => by first | exact N1.out j u hu | exact cell_alloc_old (N1.out j u hu) _) HONE.out
          (by omega) (by unfold maxLen; omega) (by omega) (by simp) _ rfl ?_; intro g1 cap1 w3 hown3 hgrow3 hat3 hlt3; simp only [Nat.zero_add, List.nil_append] at hown3; have B3 : Below W.heap.size W w3 := (by first | exact (Below.refl W.heap.size W).drew.trans (below_grown (v := .slice none 0 0) (w := W.drew) hgrow3 (Nat.le_refl _) (fun g hg => by simp [Value.ownBlock] at hg)) | exact ((Below.refl W.heap.size W).alloc (Nat.le_refl _) _).drew.trans (below_grown (v := .slice none 0 0) hgrow3 (by simp) (fun g hg => by simp [Value.ownBlock] at hg))); have q03 := (B3.cell (p := ⟨w.heap.size, 0, none⟩) hqW).trans b0; have q13 := (B3.cell (p := ⟨w.heap.size, 1, none⟩) hqW).trans b1; have q23 := (B3.cell (p := ⟨w.heap.size, 2, none⟩) hqW).trans b2; have q33 := (B3.cell (p := ⟨w.heap.size, 3, none⟩) hqW).trans b3; have q43 := (B3.cell (p := ⟨c, 1, none⟩) hcW).trans hc1)
    | (refine step_append_lies _ (by rfl) (.tmp 28) (.tmp 38) _ (by rfl) W.heap.size 99 i0 _ 8 64 Tryz.underlying63 hi0 hz0 hz1 hz2 rfl (by omega) (.slice (some ⟨g1, 0, none⟩) L.length cap1) L.length (ccells L) (by rfl) (hown3.alloc _)
          ⟨w3.heap.size, 0, none⟩ 1 1 [.int .i64 (last + 1), .int .i64 ob, .int .i64 n, .int .i64 s, .int .i64 k, .int .i64 i, .int .i64 l, .int .i64 r] (by rfl) (by rfl) (World.news_of_block (cs := #[.int .i64 (last + 1), .int .i64 ob, .int .i64 n, .int .i64 s, .int .i64 k, .int .i64 i, .int .i64 l, .int .i64 r]) (t := 99) (fr := (0, 0)) (HNB.out w3)) (by simp [Value.oneCell'])
          (by omega) (by unfold maxLen; omega) (by omega) (by have := B3.size; simp; omega) _ rfl ?_; intro g2 cap2 w4 hown4 hgrow4 hat4 hlt4; have B4 : Below W.heap.size W w4 := (by first | exact (B3.alloc B3.size _).trans (below_grown (v := .slice (some ⟨g1, 0, none⟩) L.length cap1) hgrow4 (by have := B3.size; simp; omega) (ownsRow_low hown3)) | exact B3.trans (below_grown (v := .slice (some ⟨g1, 0, none⟩) L.length cap1) hgrow4 B3.size (ownsRow_low hown3))); have hcw := B4.cell (p := ⟨c, 0, none⟩) hcW; have hfw := B4.frozen (p := ⟨c, 0, none⟩) hcW)
    | (refine step_append_lies _ (by rfl) (.tmp 28) (.tmp 38) _ (by rfl) W.heap.size 99 i0 _ 8 64 Tryz.underlying63 hi0 hz0 hz1 hz2 rfl (by omega) (.slice (some ⟨g1, 0, none⟩) L.length cap1) L.length (ccells L) (by rfl) hown3
          ⟨W.heap.size, 0, none⟩ 1 1 [.int .i64 (last + 1), .int .i64 ob, .int .i64 n, .int .i64 s, .int .i64 k, .int .i64 i, .int .i64 l, .int .i64 r] (by rfl) (by rfl) (World.news_of_block (cs := #[.int .i64 (last + 1), .int .i64 ob, .int .i64 n, .int .i64 s, .int .i64 k, .int .i64 i, .int .i64 l, .int .i64 r]) (t := 99) (fr := (0, 0)) ((hgrow3.block W.heap.size (by simp) (by simp [Value.ownBlock])).trans (HNB.out W))) (by simp [Value.oneCell'])
          (by omega) (by unfold maxLen; omega) (by omega) (by have := B3.size; simp; omega) _ rfl ?_; intro g2 cap2 w4 hown4 hgrow4 hat4 hlt4; have B4 : Below W.heap.size W w4 := (by first | exact (B3.alloc B3.size _).trans (below_grown (v := .slice (some ⟨g1, 0, none⟩) L.length cap1) hgrow4 (by have := B3.size; simp; omega) (ownsRow_low hown3)) | exact B3.trans (below_grown (v := .slice (some ⟨g1, 0, none⟩) L.length cap1) hgrow4 B3.size (ownsRow_low hown3))); have hcw := B4.cell (p := ⟨c, 0, none⟩) hcW; have hfw := B4.frozen (p := ⟨c, 0, none⟩) hcW))
  all_goals
    go_wp2
    go_ret2
    refine ⟨rfl, _, ⟨head0 ((B4.block c hcW).trans HR1.out.head) _, ?_, fun e => by simp at e⟩, ?_⟩
    · have h5 : w4.ownsRow W.heap.size 99 8 (.slice (some ⟨g2, 0, none⟩) (L.length + 1) cap2) (L.length + 1) (ccells (L ++ [⟨last + 1, ob, n, s, ⟨k, i, l, r⟩⟩])) := by
        rw [ccells_app]
        exact hown4
      have hg2 : W.heap.size ≤ g2 := ownsRow_low h5 g2 rfl
      rw [List.length_append]
      exact ownsRow_mono (ownsRow_at h5 (fun g hg => Below.heap_setCell _ _ _ _ (by have e' : g = g2 := by simpa [Value.ownBlock] using hg.symm
                                                                                    show g ≠ c
                                                                                    omega))) HMW.out
    · exact (HU.out.trans (Upd.of_below B4)).trans (Upd.setCell _ _ _ _)
end Ca
end Go.Proofs.YtfnafjddajgahaaGreat
