/- The contract of package mmu's keep: a page is kept, and where there are three the eldest goes. -/
import Derived.Test.YthkffhfjkddpkaaMmuF
import Derived.ArgAppend
import Derived.Deep.RegionLaw
namespace Go.Proofs.Ythkffhfjkddpkaa
open Go.RowKit
set_option linter.unusedVariables false

theorem keptInfo : (Try.prog.info? 79).map (fun i => (i.zero, i.size, i.bytes)) = some (some (.agg #[.int .i64 0, .int .i64 0, .bool false]), 3, 24) := by kernel_rfl

/-- The two elements that are moved to the front are read where they lie. -/
theorem shift_news {g cap : Nat} {cur : Array Value} {a b c : Int × Int × Bool} {w : World} (hh : w.heap[g]? = some (.cells cur 79 (0, 0))) (hp : Pts cur [a, b, c]) :
    ∀ j u, (flat [b, c])[j]? = some u → w.cell? ((⟨g, 3, none⟩ : Addr).add j) = some u := by
  obtain ⟨b0, b1, b2⟩ := hp 1 b rfl
  obtain ⟨c0, c1, c2⟩ := hp 2 c rfl
  intro j u hu
  have hj : j < 6 := by have := (List.getElem?_eq_some_iff.1 hu).1; rw [flat_len] at this; simpa using this
  rw [Addr.add_lit, cell_of_heap hh]
  match j, hj with
  | 0, _ => simp [flat] at hu; rw [← hu]; exact b0
  | 1, _ => simp [flat] at hu; rw [← hu]; exact b1
  | 2, _ => simp [flat] at hu; rw [← hu]; exact b2
  | 3, _ => simp [flat] at hu; rw [← hu]; exact c0
  | 4, _ => simp [flat] at hu; rw [← hu]; exact c1
  | 5, _ => simp [flat] at hu; rw [← hu]; exact c2

/-- Two elements are moved one place to the front. -/
theorem shifted (g cap : Nat) (cur : Array Value) (a b c : Int × Int × Bool) (w : World) (hh : w.heap[g]? = some (.cells cur 79 (0, 0))) (hcap : 3 ≤ cap) (hcs : cur.size = cap * 3) (hp : Pts cur [a, b, c]) :
    ∃ w' cur', w' = w.setCells g (0 + 0 * 3) (flat [b, c]) ∧ w'.heap[g]? = some (.cells cur' 79 (0, 0)) ∧ cur'.size = cap * 3 ∧ Pts cur' [b, c] ∧ Upd g w w' := by
  refine ⟨_, _, rfl, put3 (put3 hh 0 (.int .i64 b.1) (.int .i64 b.2.1) (.bool b.2.2)) 3 (.int .i64 c.1) (.int .i64 c.2.1) (.bool c.2.2), by rw [cur3_size, cur3_size]; exact hcs, ?_, ?_⟩
  · have p0 : Pts cur ([] : List (Int × Int × Bool)) := fun i e he => by simp at he
    have p1 := p0.snoc b (by simp; omega)
    have p2 := p1.snoc c (by rw [cur3_size]; simp; omega)
    exact p2
  · exact ((((((Upd.setCell g _ _ _).trans (Upd.setCell g _ _ _)).trans (Upd.setCell g _ _ _)).trans (Upd.setCell g _ _ _)).trans (Upd.setCell g _ _ _)).trans (Upd.setCell g _ _ _))

set_option maxHeartbeats 1000000 in
theorem delete3_any (g cap : Nat) (cur : Array Value) (a b c : Int × Int × Bool) (w : World) (hh : w.heap[g]? = some (.cells cur 79 (0, 0))) (hcap : 3 ≤ cap) (hcs : cur.size = cap * 3) (hp : Pts cur [a, b, c]) (hcl : cap ≤ maxLen) :
    Calls Try.prog 36 #[.slice (some ⟨g, 0, none⟩) 3 cap, .int .i64 0, .int .i64 1] w fun o w' =>
      ∃ cur', o = .returned (.slice (some ⟨g, 0, none⟩) 2 cap) ∧ w'.heap[g]? = some (.cells cur' 79 (0, 0)) ∧ cur'.size = cap * 3 ∧ Pts cur' [b, c] ∧ Upd g w w' := by
  unfold maxLen at hcl
  obtain ⟨i0, hi0, hzz⟩ := Option.map_eq_some_iff.1 keptInfo
  simp only [Prod.mk.injEq] at hzz
  obtain ⟨hz0, hz1, hz2⟩ := hzz
  obtain ⟨w1, cur1, hw1, h1, h2, h3, h4⟩ := shifted g cap cur a b c w.drew hh hcap hcs hp
  obtain ⟨cur2, hclr, hs2, hx2⟩ := run_clear_wide (P := Try.prog) w1 68 0 79 g 6 1 (cap - 2) cur1 79 _ 3 Try.underlying68 keptZero rfl (by omega) (by simp [Value.cells, Value.oneCell']) h1 (by omega) (by omega)
  have i1 : (3 : Int) ≤ (cap : Int) := by omega
  have i2 : (1 : Int) ≤ (cap : Int) := by omega
  have i3 : (0 : Int) ≤ (cap : Int) := by omega
  have HX : Hid (∃ cur', (w1.setRow g cur2).heap[g]? = some (.cells cur' 79 (0, 0)) ∧ cur'.size = cap * 3 ∧ Pts cur' [b, c] ∧ Upd g w (w1.setRow g cur2)) :=
    ⟨cur2, setRow_heap _ _ _ _ _ _ h1, by rw [hs2]; exact h2, h3.sub (fun x hx => hx2 x (by simpa using hx)), ((Upd.drew g w).trans h4).trans (Upd.setRow _ _ _)⟩
  have N1 : Hid _ := shift_news (cap := cap) (w := w.drew) hh hp
  have n2 : ∀ j, j < (flat [b, c]).length → (w.drew.cell? ⟨g, 0 + 0 * 3 + j, none⟩).isSome = true ∧ w.drew.frozen? ⟨g, 0 + 0 * 3 + j, none⟩ = false := by
    intro j hj
    rw [flat_len] at hj
    have hh2 : w.drew.heap[g]? = some (.cells cur 79 (0, 0)) := hh
    rw [cell_of_heap hh2]
    refine ⟨?_, frozen_of_heap hh2⟩
    simp at hj ⊢
    omega
  have N2 : Hid _ := n2
  have HW : Hid _ := hw1
  clear hh h1 h4 hx2 hp h3 hw1 n2
  go_enter Try.func36, Try.ntmps36
  go_wp2
  go_region_law (refine step_append_room rfl (.tmp 22) (.tmp 25) 68 rfl 79 i0 3 Try.underlying68 hi0 hz1 g 0 0 cap (by simp [Act.eval, Act.put]) ⟨g, 3, none⟩ 2 (cap - 1) (flat [b, c]) (by simp [Act.eval, Act.put] <;> omega) (by rw [flat_len]; rfl) N1.out (by simp [flat, Value.oneCell']) (by omega) N2.out ?_; rw [← HW.out])
  all_goals
    go_wp2
    go_ret
    obtain ⟨cur', q1, q2, q3, q4⟩ := HX.out
    exact ⟨rfl, cur', q1, q2, q3, q4⟩

/-- What is kept behind keep. -/
def keepL (ks : List (Int × Int × Bool)) (e : Int × Int × Bool) : List (Int × Int × Bool) := if ks.length < 2 then ks ++ [e] else (ks ++ [e]).drop 1

theorem keep_step {w w1 : World} {b gg cap : Nat} {v : Value} {ks : List (Int × Int × Bool)} (e : Int × Int × Bool) (o1 o2 : Obj) (h : TlbAt w b v ks)
    (hown1 : w1.ownsRow 0 79 3 (.slice (some ⟨gg, 0, none⟩) (ks.length + 1) cap) (ks.length + 1) (flat ks ++ [.int .i64 e.1, .int .i64 e.2.1, .bool e.2.2]))
    (hgrow : ((w.alloc o1).alloc o2).drew.grownBy w1 v.ownBlock) (hat : v.ownBlock = some gg ∨ gg = w.heap.size + 1 + 1) :
    TlbAt (w1.setCell ⟨b, 0, none⟩ (.slice (some ⟨gg, 0, none⟩) (ks.length + 1) cap)) b (.slice (some ⟨gg, 0, none⟩) (ks.length + 1) cap) (ks ++ [e]) ∧
      (v.ownBlock = some gg ∨ w.heap.size ≤ gg) ∧ UpdP (fun k => k = b ∨ v.ownBlock = some k) w (w1.setCell ⟨b, 0, none⟩ (.slice (some ⟨gg, 0, none⟩) (ks.length + 1) cap)) := by
  have hbl := h.blt
  have old : ∀ j, j < w.heap.size → v.ownBlock ≠ some j → w1.heap[j]? = w.heap[j]? := by
    intro j hj hn
    rw [hgrow.block j (by show j < ((w.alloc _).alloc _).heap.size; simp; omega) (fun e => hn e.symm)]
    show ((w.alloc _).alloc _).heap[j]? = _
    rw [Below.heap_alloc _ _ _ (by simp; omega), Below.heap_alloc _ _ _ hj]
  have hgb : gg ≠ b := by
    rcases hat with e | e
    · intro x; exact h.far (by rw [e, x])
    · omega
  have hb1 : w1.heap[b]? = _ := (old b hbl h.far).trans h.head
  refine ⟨⟨setCell_head hb1 _, ?_, by simp [Value.ownBlock]; exact hgb⟩, ?_, ?_⟩
  · have : (ks ++ [e]).length = ks.length + 1 := by simp
    rw [this, flat_append]
    exact ownsRow_keep hown1 (fun g hg => by
      simp [Value.ownBlock] at hg
      subst hg
      exact Below.heap_setCell _ _ _ _ hgb)
  · rcases hat with e | e
    · exact Or.inl e
    · exact Or.inr (by omega)
  · have hsz : ((w.alloc o1).alloc o2).heap.size ≤ w1.heap.size := hgrow.size
    rw [World.size_alloc, World.size_alloc] at hsz
    have hu : UpdP (fun k => k = b ∨ v.ownBlock = some k) w w1 :=
      ⟨hgrow.os, hgrow.tape, hgrow.output, by omega, fun k hk hp => old k hk (fun e => hp (Or.inr e))⟩
    exact hu.trans ((Upd.setCell b 0 _ _).p _ (Or.inl rfl))

set_option maxHeartbeats 400000 in
theorem keep_nil (p : Int) (x : Int × Bool) (w : World) :
    Calls Try.prog 32 #[.pointer none, .int .i64 p, pv x] w fun e w' => e = .returned (.tuple #[]) ∧ Below w.heap.size w w' := by
  unfold pv
  go_enter Try.func32, Try.ntmps32
  go_wp2
  (try simp only [Exit.inBlock, Exit.then])
  refine bodyPost_ret (results_none rfl _ _ _) rfl ?_
  exact ⟨rfl, (Below.refl _ _).alloc (Nat.le_refl _) _⟩

set_option maxHeartbeats 1000000 in
theorem keep_lt (b : Nat) (v : Value) (ks : List (Int × Int × Bool)) (p : Int) (x : Int × Bool) (w : World) (h : TlbAt w b v ks) (hn : ks.length < 2) :
    Calls Try.prog 32 #[.pointer (some ⟨b, 0, none⟩), .int .i64 p, pv x] w fun e w' => e = .returned (.tuple #[]) ∧ ∃ v', TlbAt w' b v' (keepL ks (p, x)) ∧ (∀ g, v'.ownBlock = some g → v.ownBlock = some g ∨ w.heap.size ≤ g) ∧ UpdP (fun k => k = b ∨ v.ownBlock = some k) w w' := by
  obtain ⟨i0, hi0, hzz⟩ := Option.map_eq_some_iff.1 keptInfo
  simp only [Prod.mk.injEq] at hzz
  obtain ⟨hz0, hz1, hz2⟩ := hzz
  have hc : w.cell? ⟨b, 0, none⟩ = some v := by rw [cell_of_heap h.head]; rfl
  have hz : w.frozen? ⟨b, 0, none⟩ = false := frozen_of_heap h.head
  have hl := h.blt
  have hown := h.own
  have hne := h.far
  have HM : Hid _ := h
  have hnb : ((w.alloc (.cells #[.int .i64 x.1, .bool x.2] 29)).alloc (.cells #[.int .i64 p, .int .i64 x.1, .bool x.2] 79)).drew.heap[w.heap.size + 1]? = some (.cells #[.int .i64 p, .int .i64 x.1, .bool x.2] 79 (0, 0)) := by
    have := heap_alloc_new (w.alloc (.cells #[.int .i64 x.1, .bool x.2] 29)) (.cells #[.int .i64 p, .int .i64 x.1, .bool x.2] 79)
    rw [World.size_alloc] at this
    exact this
  have HNB : Hid _ := hnb
  clear hnb h
  have hfa := frozen?_alloc_cells
  unfold pv
  go_enter Try.func32, Try.ntmps32
  go_wp2
  go_region_law
    ((refine step_append_lies _ (by rfl) _ _ _ (by rfl) 0 79 i0 _ 3 24 Try.underlying68 hi0 hz0 hz1 hz2 rfl (by omega) v ks.length (flat ks) (by rfl) (((hown.alloc _).alloc _).drew)
        ⟨w.heap.size + 1, 0, none⟩ 1 1 [.int .i64 p, .int .i64 x.1, .bool x.2] (by rfl) (by rfl) (World.news_of_block (cs := #[.int .i64 p, .int .i64 x.1, .bool x.2]) (t := 79) (fr := (0, 0)) HNB.out) (by simp [Value.oneCell'])
        (by omega) (by unfold maxLen; omega) (by omega) (by simp) (w.heap.size + 1 + 1) (by simp) ?_; intro gg cap w1 hown1 hgrow hat hlt1; have hcw := hgrow.cell_far ⟨b, 0, none⟩ (by simp; omega) (Ne.symm hne); have hfw := hgrow.frozen_far ⟨b, 0, none⟩ (by simp; omega) (Ne.symm hne)))
  all_goals
    obtain ⟨k1, k2, k3⟩ := keep_step (p, x) _ _ HM.out hown1 hgrow hat
    have hcell : (w1.setCell ⟨b, 0, none⟩ (.slice (some ⟨gg, 0, none⟩) (ks.length + 1) cap)).cell? ⟨b, 0, none⟩ = some (.slice (some ⟨gg, 0, none⟩) (ks.length + 1) cap) := by rw [cell_of_heap k1.head]; rfl
    have ht : decide ((2 : Int) < (ks.length : Int) + 1) = false := by simp; omega
    have K1 : Hid _ := k1
    clear k1 hown1 hgrow hat
    go_wp2
    go_end0
    refine ⟨rfl, .slice (some ⟨gg, 0, none⟩) (ks.length + 1) cap, ?_, ?_, k3⟩
    · have : keepL ks (p, x) = ks ++ [(p, x)] := by simp [keepL, hn]
      rw [this]
      exact K1.out
    · intro g hg
      simp [Value.ownBlock] at hg
      subst hg
      exact k2

set_option maxHeartbeats 1000000 in
theorem keep_two (b : Nat) (v : Value) (ka kb : Int × Int × Bool) (p : Int) (x : Int × Bool) (w : World) (h : TlbAt w b v [ka, kb]) :
    Calls Try.prog 32 #[.pointer (some ⟨b, 0, none⟩), .int .i64 p, pv x] w fun e w' => e = .returned (.tuple #[]) ∧ ∃ v', TlbAt w' b v' ([kb, (p, x)]) ∧ (∀ g, v'.ownBlock = some g → v.ownBlock = some g ∨ w.heap.size ≤ g) ∧ UpdP (fun k => k = b ∨ v.ownBlock = some k) w w' := by
  obtain ⟨i0, hi0, hzz⟩ := Option.map_eq_some_iff.1 keptInfo
  simp only [Prod.mk.injEq] at hzz
  obtain ⟨hz0, hz1, hz2⟩ := hzz
  have hc : w.cell? ⟨b, 0, none⟩ = some v := by rw [cell_of_heap h.head]; rfl
  have hz : w.frozen? ⟨b, 0, none⟩ = false := frozen_of_heap h.head
  have hl := h.blt
  have hown := h.own
  have hne := h.far
  have HM : Hid _ := h
  have hnb : ((w.alloc (.cells #[.int .i64 x.1, .bool x.2] 29)).alloc (.cells #[.int .i64 p, .int .i64 x.1, .bool x.2] 79)).drew.heap[w.heap.size + 1]? = some (.cells #[.int .i64 p, .int .i64 x.1, .bool x.2] 79 (0, 0)) := by
    have := heap_alloc_new (w.alloc (.cells #[.int .i64 x.1, .bool x.2] 29)) (.cells #[.int .i64 p, .int .i64 x.1, .bool x.2] 79)
    rw [World.size_alloc] at this
    exact this
  have HNB : Hid _ := hnb
  clear hnb h
  have hfa := frozen?_alloc_cells
  unfold pv
  go_enter Try.func32, Try.ntmps32
  go_wp2
  go_region_law
    ((refine step_append_lies _ (by rfl) _ _ _ (by rfl) 0 79 i0 _ 3 24 Try.underlying68 hi0 hz0 hz1 hz2 rfl (by omega) v 2 (flat [ka, kb]) (by rfl) (((hown.alloc _).alloc _).drew)
        ⟨w.heap.size + 1, 0, none⟩ 1 1 [.int .i64 p, .int .i64 x.1, .bool x.2] (by rfl) (by rfl) (World.news_of_block (cs := #[.int .i64 p, .int .i64 x.1, .bool x.2]) (t := 79) (fr := (0, 0)) HNB.out) (by simp [Value.oneCell'])
        (by omega) (by unfold maxLen; omega) (by omega) (by simp) (w.heap.size + 1 + 1) (by simp) ?_; intro gg cap w1 hown1 hgrow hat hlt1; have hcw := hgrow.cell_far ⟨b, 0, none⟩ (by simp; omega) (Ne.symm hne); have hfw := hgrow.frozen_far ⟨b, 0, none⟩ (by simp; omega) (Ne.symm hne)))
  all_goals
    obtain ⟨k1, k2, k3⟩ := keep_step (p, x) _ _ HM.out hown1 hgrow hat
    have k1 : TlbAt (w1.setCell ⟨b, 0, none⟩ (.slice (some ⟨gg, 0, none⟩) 3 cap)) b (.slice (some ⟨gg, 0, none⟩) 3 cap) [ka, kb, (p, x)] := k1
    have k3 : UpdP (fun k => k = b ∨ v.ownBlock = some k) w (w1.setCell ⟨b, 0, none⟩ (.slice (some ⟨gg, 0, none⟩) 3 cap)) := k3
    have hgb : gg ≠ b := fun e => k1.far (by rw [e]; rfl)
    have hbl2 := k1.blt
    have hcell : (w1.setCell ⟨b, 0, none⟩ (.slice (some ⟨gg, 0, none⟩) 3 cap)).cell? ⟨b, 0, none⟩ = some (.slice (some ⟨gg, 0, none⟩) 3 cap) := by rw [cell_of_heap k1.head]; rfl
    have hown2 := k1.own.2
    simp only [reduceCtorEq, Value.slice.injEq, Option.some.injEq, false_and, false_or] at hown2
    obtain ⟨g', cap', cur, ⟨e1, _, e2⟩, _, hh, h1, h2, h3, h4⟩ := hown2
    cases e1
    subst e2
    have hdel := delete3_any gg cap cur ka kb (p, x) _ hh h1 h3 (Pts.of_flat h4) h2
    have K1 : Hid _ := k1
    clear k1 hown1 hgrow hat hh
    go_wp2_with fail
    refine hdel.mono ?_
    rintro o w2 ⟨cur', rfl, g1, g2, g3, g4⟩
    have hb2 : w2.heap[b]? = _ := (g4.block b hbl2 (Ne.symm hgb)).trans K1.out.head
    have c2 : w2.cell? ⟨b, 0, none⟩ = some (.slice (some ⟨gg, 0, none⟩) 3 cap) := by rw [cell_of_heap hb2]; rfl
    have z2 : w2.frozen? ⟨b, 0, none⟩ = false := frozen_of_heap hb2
    have HB : Hid _ := hb2
    have HG : Hid _ := g1
    clear hb2 g1
    go_wp2
    go_end0
    refine ⟨rfl, .slice (some ⟨gg, 0, none⟩) 2 cap, ⟨setCell_head HB.out _, ⟨flat_len _, Or.inr ⟨gg, cap, cur', rfl, Nat.zero_le _, ?_, Nat.le_of_succ_le h1, h2, g2, g3.flat⟩⟩, by simp [Value.ownBlock]; exact hgb⟩, ?_, ?_⟩
    · rw [Below.heap_setCell _ _ _ _ hgb]; exact HG.out
    · intro g hg
      simp [Value.ownBlock] at hg
      subst hg
      exact k2
    · rcases k2 with k2 | k2
      · exact (k3.trans (g4.p _ (Or.inr k2))).trans ((Upd.setCell b 0 _ _).p _ (Or.inl rfl))
      · refine UpdP.trans ⟨g4.os.trans k3.os, g4.tape.trans k3.tape, g4.output.trans k3.output, Nat.le_trans k3.size g4.size, fun k hk hp => ?_⟩ ((Upd.setCell b 0 _ _).p _ (Or.inl rfl))
        exact (g4.block k (Nat.lt_of_lt_of_le hk k3.size) (by omega)).trans (k3.block k hk hp)

theorem keep_at (b : Nat) (v : Value) (ks : List (Int × Int × Bool)) (p : Int) (x : Int × Bool) (w : World) (h : TlbAt w b v ks) (hn : ks.length ≤ 2) :
    Calls Try.prog 32 #[.pointer (some ⟨b, 0, none⟩), .int .i64 p, pv x] w fun e w' => e = .returned (.tuple #[]) ∧ ∃ v', TlbAt w' b v' (keepL ks (p, x)) ∧ (∀ g, v'.ownBlock = some g → v.ownBlock = some g ∨ w.heap.size ≤ g) ∧ UpdP (fun k => k = b ∨ v.ownBlock = some k) w w' := by
  by_cases hlt : ks.length < 2
  · exact keep_lt b v ks p x w h hlt
  · match ks, h, hn, hlt with
    | [ka, kb], h, _, _ => exact keep_two b v ka kb p x w h
    | [], _, _, hlt => simp at hlt
    | [_], _, _, hlt => simp at hlt
    | _ :: _ :: _ :: _, _, hn, _ => simp at hn

end Go.Proofs.Ythkffhfjkddpkaa
