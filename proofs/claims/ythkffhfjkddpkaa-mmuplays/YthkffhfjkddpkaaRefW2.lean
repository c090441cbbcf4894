/- The contract of the reference TLB's Walk. -/
import Derived.Test.YthkffhfjkddpkaaRefL2
import Derived.Deep.RegionLaw
import Derived.Deep.DeepCutAuto
import Derived.Deep.CutBlock
namespace Go.Proofs.Ythkffhfjkddpkaa
open Go.RowKit
set_option linter.unusedVariables false

theorem findV_keep {ks : List (Int × Int × Bool)} {p : Int} (y : Int × Bool) (h : noneTo ks p ks.length) (hn : ks.length ≤ 2) : findV (keepL ks (p, y)) p = some y := by
  have hf : findV ks p = none := findV_end h
  unfold keepL
  match ks, hn, h, hf with
  | [], _, _, _ => simp [findV]
  | [ka], _, h, _ =>
    have h0 := h 0 ka (by simp) rfl
    simp [findV, h0]
  | [ka, kb], _, h, _ =>
    have h1 := h 1 kb (by simp) rfl
    simp [findV, h1]
  | _ :: _ :: _ :: _, hn, _, _ => simp at hn

theorem step_append_eq {P : Program} {ops : Array Oper} {o : Oper} {a : Act} {w w' : World} {K : Act → World → Prop} {Q : Exit → Act → World → Prop} {E : Prop} (hgd : o.guard = none) (s x : Operand) (t : TypeId)
    (ho : o.op = .call { callee := .builtin .append, args := #[s, x], argTypes := #[t, t] }) (sv xv r : Value) (hs : a.eval s = sv) (hx : a.eval x = xv) (hr : ∀ ty, (Builtin.append_ #[t, t] ty #[sv, xv]).run P w = .ok r w') (hK : K (a.put o.dst r) w') :
    if Region.wanted o (yielded ops a.tmps) = true then Oper.wp P o a w K Q else E := by
  have hw : Region.wanted o (yielded ops a.tmps) = true := by simp [Region.wanted, hgd]
  rw [if_pos hw]
  unfold Oper.wp execOp
  simp only [ho, resolve, invoke, builtin, Sem.run_bind, Sem.run_pure, Result.andThen_ok, List.map_toArray, List.map_cons, List.map_nil, hs, hx, hr]
  exact hK

theorem run_append_none {P : Program} (w : World) (t e : TypeId) (i : TypeInfo) (ht : P.underlying t = some (.slice e)) (hi : P.info? e = some i) (b : Option Addr) (cap : Nat) (ty : TypeId) :
    (Builtin.append_ #[t, t] ty #[.slice none 0 0, .slice b 0 cap]).run P w = .ok (.slice none 0 0) w := by
  cases b <;> simp [Builtin.append_, run_underlying ht, sizeOf, typeInfo, hi, Builtin.lenOf, Builtin.firstCells, loadCells, loadCellsFrom]

set_option maxHeartbeats 4000000 in
theorem rtwalk_hit (c : Nat) (v : Value) (L : List (Int × Int × Bool)) (x0 : Nat) (a : Int) (wr : Bool) (x : Int × Bool) (w : World) (h : RTlb w c v L) (hn : L.length ≤ 2) (h0 : 0 ≤ a) (hlt : a < 128) (hfx : findV L (a / 32) = some x) :
    Calls Try.prog 16 #[.pointer (some ⟨c, 0, none⟩), .pointer (some ⟨x0, 0, none⟩), .int .u64 a, .bool wr] w fun e w' => e = .returned (t4 (reachV x a wr) true) ∧
      ∃ v', RTlb w' c v' L ∧ (∀ g, v'.ownBlock = some g → v.ownBlock = some g ∨ w.heap.size ≤ g) ∧ Upd c w w' := by
  have hd : decide (128 ≤ a) = false := by simp; omega
  have hL3 : L.length ≤ 3 := by omega
  have hfind := rfind_at c v L (a / 32) w h hL3
  go_enter Try.func16, Try.ntmps16
  go_wp2_with fail
  refine hfind.mono ?_
  rintro o wc ⟨⟨rfl, hno⟩ | ⟨k, e, rfl, hno, he, hpe⟩, rfl⟩
  · exact absurd (findV_end hno) (by rw [hfx]; simp)
  · have RT := h
    have hfr : ∀ g, v.ownBlock = some g → v.ownBlock = some g ∨ wc.heap.size ≤ g := fun g hg => Or.inl hg
    have U := Upd.refl c wc
    obtain ⟨v5, hv5⟩ : ∃ v5, v5 = v := ⟨_, rfl⟩
    rw [← hv5] at RT
    subst hv5
    clear hno he hpe hfind
    go_wp2_with fail
    refine (rfind_at c v5 L (a / 32) wc RT hL3).mono ?_
    rintro o w6 ⟨⟨rfl, hno6⟩ | ⟨k, e, rfl, hno6, he6, hpe6⟩, rfl⟩
    · exact absurd (findV_end hno6) (by rw [hfx]; simp)
    · (try clear hcc)
      have hx2 := (findV_hit hno6 he6 hpe6).symm.trans hfx
      simp only [Option.some.injEq] at hx2
      have hkl : k < L.length := (List.getElem?_eq_some_iff.1 he6).1
      obtain ⟨b5, cap5, rfl, _, _, hf5⟩ := RT.form
      obtain ⟨g5, o5, cur5, rfl, hh5, hp5⟩ := hf5 (by intro e; rw [e] at hkl; simp at hkl)
      obtain ⟨_, k1, k2⟩ := hp5 k e he6
      have c5 : w6.cell? ⟨c, 0, none⟩ = some (.slice (some ⟨g5, o5, none⟩) L.length cap5) := by rw [cell_of_heap RT.head]; rfl
      have d1 : w6.cell? ⟨g5, o5 + k * 3 + 1, none⟩ = some (.int .i64 x.1) := by rw [cell_of_heap hh5, k1, hx2]
      have d2 : w6.cell? ⟨g5, o5 + k * 3 + 2, none⟩ = some (.bool x.2) := by rw [cell_of_heap hh5, k2, hx2]
      have hint : (k : Int) < (L.length : Int) := by omega
      have HRT : Hid _ := RT
      have HU : Hid _ := U
      have HFr : Hid _ := hfr
      clear RT U hfr hf5 hp5 hh5 k1 k2 he6 hpe6 hx2 hno6
      obtain ⟨fr, wt⟩ := x
      cases wr <;> cases wt
      all_goals
        go_wp2
        (try simp only [Exit.inBlock, Exit.then])
        refine bodyPost_ret (results_tmp4 rfl _ _ _) rfl ?_
        have hb6 : ∀ o, Below w6.heap.size w6 (w6.alloc o) := fun o => (Below.refl _ _).alloc (Nat.le_refl _) _
        refine ⟨?_, _, (HRT.out).below (hb6 _), HFr.out, (HU.out).trans (Upd.of_below (hb6 _))⟩
        simp [reachV, t4] <;> go_num

theorem cell_alloc_old {w : World} {p : Addr} {u : Value} (h : w.cell? p = some u) (o : Obj) : (w.alloc o).cell? p = some u :=
  (((Below.refl w.heap.size w).alloc (Nat.le_refl _) o).cell (p := p) (cell_lt h)).trans h

theorem pts_news {cur : Array Value} {off : Nat} : ∀ {ks : List (Int × Int × Bool)} (h : ∀ i e, ks[i]? = some e → cur[off + i * 3]? = some (.int .i64 e.1) ∧ cur[off + i * 3 + 1]? = some (.int .i64 e.2.1) ∧ cur[off + i * 3 + 2]? = some (.bool e.2.2)) (j : Nat) (u : Value),
    (flat ks)[j]? = some u → cur[off + j]? = some u := by
  intro ks h j u hu
  have hj : j < ks.length * 3 := by have := (List.getElem?_eq_some_iff.1 hu).1; rwa [flat_len] at this
  have hq : j / 3 < ks.length := by omega
  have he := List.getElem?_eq_getElem hq
  obtain ⟨a0, a1, a2⟩ := h _ _ he
  obtain ⟨b0, b1, b2⟩ := flat_get ks _ _ he
  have hr : j = j / 3 * 3 ∨ j = j / 3 * 3 + 1 ∨ j = j / 3 * 3 + 2 := by omega
  rcases hr with e | e | e
  · rw [e] at hu ⊢; rw [b0] at hu; rw [← hu]; exact a0
  · rw [e] at hu ⊢; rw [b1] at hu; rw [← hu, ← Nat.add_assoc]; exact a1
  · rw [e] at hu ⊢; rw [b2] at hu; rw [← hu, ← Nat.add_assoc]; exact a2

set_option maxHeartbeats 8000000 in
theorem rtwalk_0 (c : Nat) (v : Value) (x0 : Nat) (f : Int → Option (Int × Bool)) (a : Int) (wr : Bool) (x : Int × Bool) (w : World) (h : RTlb w c v []) (hx : RTbl w x0 f) (h0 : 0 ≤ a) (hlt : a < 128) (hno0 : noneTo [] (a / 32) 0) (hg : f (a / 32) = some x) (L : List (Int × Int × Bool)) (hLe : L = [(a / 32, x)]) (hfx : findV L (a / 32) = some x) :
    Calls Try.prog 16 #[.pointer (some ⟨c, 0, none⟩), .pointer (some ⟨x0, 0, none⟩), .int .u64 a, .bool wr] w fun e w' => e = .returned (t4 (reachV x a wr) false) ∧
      ∃ v', RTlb w' c v' L ∧ (∀ g, v'.ownBlock = some g → v.ownBlock = some g ∨ w.heap.size ≤ g) ∧ Upd c w w' := by
  obtain ⟨i0, hi0, hzz⟩ := Option.map_eq_some_iff.1 rkeptInfo
  simp only [Prod.mk.injEq] at hzz
  obtain ⟨hz0, hz1, hz2⟩ := hzz
  have hL3 : L.length ≤ 3 := by rw [hLe]; simp
  have hd : decide (128 ≤ a) = false := by simp; omega
  have hat := rat_at x0 f (a / 32) w hx
  rw [hg] at hat
  have hfind := rfind_at c v [] (a / 32) w h (by simp)
  go_enter Try.func16, Try.ntmps16
  go_wp2_with fail
  refine hfind.mono ?_
  rintro o w1 ⟨⟨rfl, hno⟩ | ⟨k, e, rfl, hno, he, hpe⟩, rfl⟩
  rotate_left
  · exact absurd hpe (hno0 k e (List.getElem?_eq_some_iff.1 he).1 he)
  · go_wp2_with fail
    refine hat.mono ?_
    rintro e w2 ⟨rfl, hb2⟩
    simp only [pv, Option.getD_some, Option.isSome_some]
    obtain ⟨W, hW⟩ : ∃ W, W = w2.alloc (.cells #[.int .i64 x.1, .bool x.2] 29) := ⟨_, rfl⟩
    have hB : Below w1.heap.size w1 W := by rw [hW]; exact hb2.alloc hb2.size _
    have hq : W.heap[w2.heap.size]? = some (.cells #[.int .i64 x.1, .bool x.2] 29 (0, 0)) := by rw [hW]; exact heap_alloc_new _ _
    have hT := h.below hB
    have q0 : W.cell? ⟨w2.heap.size, 0, none⟩ = some (.int .i64 x.1) := by rw [cell_of_heap hq]; rfl
    have q1 : W.cell? ⟨w2.heap.size, 1, none⟩ = some (.bool x.2) := by rw [cell_of_heap hq]; rfl
    have hqW := lt_of_heap hq
    obtain ⟨b, cap, hv, _, _, hform⟩ := hT.form
    have hvc : W.cell? ⟨c, 0, none⟩ = some v := by rw [cell_of_heap hT.head]; rfl
    have hc : W.cell? ⟨c, 0, none⟩ = some (.slice b 0 cap) := by rw [hvc, hv]; rfl
    have hz : W.frozen? ⟨c, 0, none⟩ = false := frozen_of_heap hT.head
    have HW : Hid _ := hW
    have HT : Hid _ := hT
    have hcW := hT.lt
    have hBs := hB.size
    have HNB : Hid (∀ (Z : World), (Z.alloc (.cells #[.int .i64 (a / 32), .int .i64 x.1, .bool x.2] 76)).heap[Z.heap.size]? = some (.cells #[.int .i64 (a / 32), .int .i64 x.1, .bool x.2] 76 (0, 0))) := fun Z => heap_alloc_new _ _
    clear hT hW hfind hat hform hvc hv
    go_upto_region 9 with fail
    rw [← HW.out]
    go_cut [] (fun wc => ∃ gz capz, RTlb wc c (.slice (some ⟨gz, 0, none⟩) 1 capz) [(a / 32, x)] ∧ w1.heap.size ≤ gz ∧ Upd c w1 wc)
    case first =>
      have hfa := frozen?_alloc_cells
      go_region_law (first
        | (refine step_append_eq rfl (.const (.slice none 0 0)) (.tmp 41) 35 rfl (.slice none 0 0) (.slice b 0 cap) (.slice none 0 0) rfl (by rfl) (run_append_none _ _ _ i0 Try.underlying35 hi0 b cap) ?_)
        | (refine step_append_lies _ (by rfl) (.tmp 42) (.tmp 46) _ (by rfl) W.heap.size 76 i0 _ 3 24 Try.underlying35 hi0 hz0 hz1 hz2 rfl (by omega) (.slice none 0 0) 0 [] (by rfl) (World.ownsRow_nil _ _ _ _)
              ⟨W.heap.size, 0, none⟩ 1 1 [.int .i64 (a / 32), .int .i64 x.1, .bool x.2] (by rfl) (by rfl) (World.news_of_block (cs := #[.int .i64 (a / 32), .int .i64 x.1, .bool x.2]) (t := 76) (fr := (0, 0)) (HNB.out W)) (by simp [Value.oneCell'])
              (by omega) (by unfold maxLen; omega) (by omega) (by simp) (W.heap.size + 1) (by simp) ?_; intro g2 cap2 w4 hown4 hgrow4 hat4 hlt4; have B4 : Below W.heap.size W w4 := ((Below.refl W.heap.size W).alloc (Nat.le_refl _) _).drew.trans (below_grown (v := .slice none 0 0) hgrow4 (by simp) (fun g hg => by simp [Value.ownBlock] at hg)); have hcw := B4.cell (p := ⟨c, 0, none⟩) hcW; have hfw := B4.frozen (p := ⟨c, 0, none⟩) hcW))
      all_goals
        go_wp2_with fail
        go_meet
        case rel =>
          have hown5 : w4.ownsRow W.heap.size 76 3 (.slice (some ⟨g2, 0, none⟩) 1 cap2) 1 (flat [(a / 32, x)]) := hown4
          exact ⟨g2, cap2, rtlb_of_own (ks := [(a / 32, x)]) ((B4.block c hcW).trans HT.out.head) hown5 hcW, Nat.le_trans hBs (ownsRow_low hown5 g2 rfl), (Upd.of_below (hB.trans (B4.mono hBs))).trans (Upd.setCell _ _ _ _)⟩
    case rest =>
      obtain ⟨gz, capz, RT, hgz, U⟩ := hcut
      have hcc : wc.cell? ⟨c, 0, none⟩ = some (.slice (some ⟨gz, 0, none⟩) 1 capz) := by rw [cell_of_heap RT.head]; rfl
      have hfr : ∀ g, (Value.slice (some ⟨gz, 0, none⟩) 1 capz).ownBlock = some g → v.ownBlock = some g ∨ w1.heap.size ≤ g := by
        intro g hg
        simp [Value.ownBlock] at hg
        subst hg
        exact Or.inr hgz
      obtain ⟨v5, hv5⟩ : ∃ v5, v5 = Value.slice (some ⟨gz, 0, none⟩) 1 capz := ⟨_, rfl⟩
      rw [← hv5] at RT hfr
      rw [← hLe] at RT
      clear hgz HT h hx hv5 hLe
      go_wp2_with fail
      refine (rfind_at c v5 L (a / 32) wc RT hL3).mono ?_
      rintro o w6 ⟨⟨rfl, hno6⟩ | ⟨k, e, rfl, hno6, he6, hpe6⟩, rfl⟩
      · exact absurd (findV_end hno6) (by rw [hfx]; simp)
      · (try clear hcc)
        have hx2 := (findV_hit hno6 he6 hpe6).symm.trans hfx
        simp only [Option.some.injEq] at hx2
        have hkl : k < L.length := (List.getElem?_eq_some_iff.1 he6).1
        obtain ⟨b5, cap5, rfl, _, _, hf5⟩ := RT.form
        obtain ⟨g5, o5, cur5, rfl, hh5, hp5⟩ := hf5 (by intro e; rw [e] at hkl; simp at hkl)
        obtain ⟨_, k1, k2⟩ := hp5 k e he6
        have c5 : w6.cell? ⟨c, 0, none⟩ = some (.slice (some ⟨g5, o5, none⟩) L.length cap5) := by rw [cell_of_heap RT.head]; rfl
        have d1 : w6.cell? ⟨g5, o5 + k * 3 + 1, none⟩ = some (.int .i64 x.1) := by rw [cell_of_heap hh5, k1, hx2]
        have d2 : w6.cell? ⟨g5, o5 + k * 3 + 2, none⟩ = some (.bool x.2) := by rw [cell_of_heap hh5, k2, hx2]
        have hint : (k : Int) < (L.length : Int) := by omega
        have HRT : Hid _ := RT
        have HU : Hid _ := U
        have HFr : Hid _ := hfr
        clear RT U hfr hf5 hp5 hh5 k1 k2 he6 hpe6 hx2 hno6
        obtain ⟨fr, wt⟩ := x
        cases wr <;> cases wt
        all_goals
          go_wp2
          (try simp only [Exit.inBlock, Exit.then])
          refine bodyPost_ret (results_tmp4 rfl _ _ _) rfl ?_
          have hb6 : ∀ o, Below w6.heap.size w6 (w6.alloc o) := fun o => (Below.refl _ _).alloc (Nat.le_refl _) _
          refine ⟨?_, _, (HRT.out).below (hb6 _), HFr.out, (HU.out).trans (Upd.of_below (hb6 _))⟩
          simp [reachV, t4] <;> go_num

end Go.Proofs.Ythkffhfjkddpkaa
