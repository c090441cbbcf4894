/- The contract of package mmu's Tlb.Walk. -/
import Derived.Test.YthkffhfjkddpkaaMmuG
namespace Go.Proofs.Ythkffhfjkddpkaa
open Go.RowKit
set_option linter.unusedVariables false

/-- Four answers: three integers and whether it was a hit. -/
def t4 (r : Int × Int × Int) (hit : Bool) : Value := .tuple #[.int .i64 r.1, .int .i64 r.2.1, .int .i64 r.2.2, .bool hit]

/-- What a TLB's Walk answers. -/
def twalkV (f : Int → Option (Int × Bool)) (ks : List (Int × Int × Bool)) (a : Int) (wr : Bool) : (Int × Int × Int) × Bool :=
  if 128 ≤ a then ((0, 0, 102), false) else match findV ks (a / 32) with
    | some x => (reachV x a wr, true)
    | none => match f (a / 32) with
      | some x => (reachV x a wr, false)
      | none => ((0, 0, 102), false)
/-- What it keeps behind it. -/
def twalkL (f : Int → Option (Int × Bool)) (ks : List (Int × Int × Bool)) (a : Int) : List (Int × Int × Bool) :=
  if 128 ≤ a then ks else match findV ks (a / 32) with
    | some x => ks
    | none => match f (a / 32) with
      | some x => keepL ks (a / 32, x)
      | none => ks

theorem results_tmp4 {fn : Func} {t u v s : Tmp} (h : fn.results = #[.tmp t, .tmp u, .tmp v, .tmp s]) (tmps : Array Value) (P : Program) (w : World) :
    (results fn tmps).run P w = .ok (.tuple #[tmps.getD t undef, tmps.getD u undef, tmps.getD v undef, tmps.getD s undef]) w := by
  simp [results, h]

set_option maxHeartbeats 400000 in
theorem twalk_nil (b : Option Addr) (a : Int) (wr : Bool) (w : World) (h0 : 0 ≤ a) :
    Calls Try.prog 15 #[.pointer b, .pointer none, .int .u64 a, .bool wr] w fun e w' => e = .returned (t4 (0, 0, 102) false) ∧ w' = w := by
  go_enter Try.func15, Try.ntmps15
  go_wp2
  (try simp only [Exit.inBlock, Exit.then])
  refine bodyPost_ret (results_tmp4 rfl _ _ _) rfl ?_
  exact ⟨rfl, rfl⟩

set_option maxHeartbeats 1000000 in
theorem twalk_at (b : Nat) (v : Value) (ks : List (Int × Int × Bool)) (t mb : Nat) (f : Int → Option (Int × Bool)) (a : Int) (wr : Bool) (w : World) (h : TlbAt w b v ks) (ht : TblAt w t mb f) (hn : ks.length ≤ 2) (h0 : 0 ≤ a) (hd1 : b ≠ t) (hd2 : v.ownBlock ≠ some t) (hd3 : b ≠ mb) (hd4 : v.ownBlock ≠ some mb) :
    Calls Try.prog 15 #[.pointer (some ⟨b, 0, none⟩), .pointer (some ⟨t, 0, none⟩), .int .u64 a, .bool wr] w fun e w' => e = .returned (t4 (twalkV f ks a wr).1 (twalkV f ks a wr).2) ∧
      ∃ v', TlbAt w' b v' (twalkL f ks a) ∧ (∀ g, v'.ownBlock = some g → v.ownBlock = some g ∨ w.heap.size ≤ g) ∧ UpdP (fun k => k = b ∨ v.ownBlock = some k) w w' := by
  by_cases h1 : 128 ≤ a
  · have e1 : twalkV f ks a wr = ((0, 0, 102), false) := by simp [twalkV, h1]
    have e2 : twalkL f ks a = ks := by simp [twalkL, h1]
    go_enter Try.func15, Try.ntmps15
    go_wp2
    (try simp only [Exit.inBlock, Exit.then])
    refine bodyPost_ret (results_tmp4 rfl _ _ _) rfl ?_
    exact ⟨by rw [e1]; rfl, v, by rw [e2]; exact h, fun g hg => Or.inl hg, UpdP.refl _ _⟩
  · have hd : decide (128 ≤ a) = false := by simp; omega
    have hlt : a < 128 := by omega
    cases hf : findV ks (a / 32) with
    | some x =>
      have e1 : twalkV f ks a wr = (reachV x a wr, true) := by simp [twalkV, h1, hf]
      have e2 : twalkL f ks a = ks := by simp [twalkL, h1, hf]
      have hfind := find_at b v ks (a / 32) w h (by omega)
      rw [hf] at hfind
      clear h1
      go_enter Try.func15, Try.ntmps15
      go_wp2_with fail
      refine (pageOf_any a _ h0 hlt).mono ?_
      rintro e w1 ⟨rfl, rfl⟩
      go_wp2_with fail
      refine hfind.mono ?_
      rintro e w2 ⟨rfl, hb2⟩
      simp only [pv, Option.getD_some, Option.isSome_some]
      go_wp2_with fail
      refine (reach_any x a wr _ h0 hlt).mono ?_
      rintro e w3 ⟨rfl, hb3⟩
      go_wp2
      (try simp only [Exit.inBlock, Exit.then])
      refine bodyPost_ret (results_tmp4 rfl _ _ _) rfl ?_
      have hbs := hb2.size
      have hb : Below w1.heap.size w1 w3 := (hb2.alloc hb2.size _).trans (hb3.mono (by simp; omega))
      exact ⟨by rw [e1]; rfl, v, by rw [e2]; exact h.below hb, fun g hg => Or.inl hg, UpdP.of_below hb⟩
    | none =>
      have hfind := find_at b v ks (a / 32) w h (by omega)
      rw [hf] at hfind
      cases hg : f (a / 32) with
      | none =>
        have e1 : twalkV f ks a wr = ((0, 0, 102), false) := by simp [twalkV, hf, hg]
        have e2 : twalkL f ks a = ks := by simp [twalkL, hf, hg]
        clear h1
        go_enter Try.func15, Try.ntmps15
        go_wp2_with fail
        refine (pageOf_any a _ h0 hlt).mono ?_
        rintro e w1 ⟨rfl, rfl⟩
        go_wp2_with fail
        refine hfind.mono ?_
        rintro e w2 ⟨rfl, hb2⟩
        simp only [pv, Option.getD_none, Option.isSome_none]
        have hb2' : Below w1.heap.size w1 (w2.alloc (.cells #[.int .i64 0, .bool false] 29)) := hb2.alloc hb2.size _
        have hat := at_at t mb f (a / 32) _ (ht.below hb2')
        rw [hg] at hat
        go_wp2_with fail
        refine hat.mono ?_
        rintro e w3 ⟨rfl, hb3⟩
        simp only [pv, Option.getD_none, Option.isSome_none]
        go_wp2
        (try simp only [Exit.inBlock, Exit.then])
        refine bodyPost_ret (results_tmp4 rfl _ _ _) rfl ?_
        have hb : Below w1.heap.size w1 (w3.alloc (.cells #[.int .i64 0, .bool false] 29)) := (hb2'.trans (hb3.mono hb2'.size)).alloc (Nat.le_trans hb2'.size hb3.size) _
        exact ⟨by rw [e1]; rfl, v, by rw [e2]; exact h.below hb, fun g hg => Or.inl hg, UpdP.of_below hb⟩
      | some x =>
        have e1 : twalkV f ks a wr = (reachV x a wr, false) := by simp [twalkV, h1, hf, hg]
        have e2 : twalkL f ks a = keepL ks (a / 32, x) := by simp [twalkL, h1, hf, hg]
        clear h1
        go_enter Try.func15, Try.ntmps15
        go_wp2_with fail
        refine (pageOf_any a _ h0 hlt).mono ?_
        rintro e w1 ⟨rfl, rfl⟩
        go_wp2_with fail
        refine hfind.mono ?_
        rintro e w2 ⟨rfl, hb2⟩
        simp only [pv, Option.getD_none, Option.isSome_none]
        have hb2' : Below w1.heap.size w1 (w2.alloc (.cells #[.int .i64 0, .bool false] 29)) := hb2.alloc hb2.size _
        have hP : (w2.alloc (.cells #[.int .i64 0, .bool false] 29)).heap[w2.heap.size]? = _ := heap_alloc_new _ _
        have hat := at_at t mb f (a / 32) _ (ht.below hb2')
        rw [hg] at hat
        have HP : Hid _ := hP
        clear hP
        go_wp2_with fail
        refine hat.mono ?_
        rintro e w3 ⟨rfl, hb3⟩
        simp only [pv, Option.getD_some, Option.isSome_some]
        have hb3' : Below w1.heap.size w1 (w3.alloc (.cells #[.int .i64 x.1, .bool x.2] 29)) := (hb2'.trans (hb3.mono hb2'.size)).alloc (Nat.le_trans hb2'.size hb3.size) _
        have hQ : (w3.alloc (.cells #[.int .i64 x.1, .bool x.2] 29)).heap[w3.heap.size]? = _ := heap_alloc_new _ _
        have hP3 : (w3.alloc (.cells #[.int .i64 x.1, .bool x.2] 29)).heap[w2.heap.size]? = _ := (Below.heap_alloc _ _ _ (Nat.lt_of_lt_of_le (lt_of_heap HP.out) hb3.size)).trans ((hb3.block _ (lt_of_heap HP.out)).trans HP.out)
        have T3 := h.below hb3'
        have hkeep := keep_at b v ks (a / 32) x _ T3 hn
        unfold pv at hkeep
        have hgl := h.glt
        have hw2 := hb2.size
        have hw3 : w2.heap.size + 1 ≤ w3.heap.size := by have := hb3.size; simpa using this
        have hbl := h.blt
        have HQ : Hid _ := hQ
        have HP3 : Hid _ := hP3
        clear hQ hP3
        go_wp2_with fail
        refine hkeep.mono ?_
        rintro e w4 ⟨rfl, v4, T4, o4, u4⟩
        have hq4 : w4.heap[w3.heap.size]? = _ := (u4.block _ (lt_of_heap HQ.out) (by
          rintro (e | e)
          · omega
          · have := hgl _ e; omega)).trans HQ.out
        have hp4 : w4.heap[w2.heap.size]? = _ := (u4.block _ (lt_of_heap HP3.out) (by
          rintro (e | e)
          · omega
          · have := hgl _ e; omega)).trans HP3.out
        have q0 : w4.cell? ⟨w3.heap.size, 0, none⟩ = some (.int .i64 x.1) := by rw [cell_of_heap hq4]; rfl
        have q1 : w4.cell? ⟨w3.heap.size, 1, none⟩ = some (.bool x.2) := by rw [cell_of_heap hq4]; rfl
        have p0 : w4.cell? ⟨w2.heap.size, 0, none⟩ = some (.int .i64 0) := by rw [cell_of_heap hp4]; rfl
        have p1 : w4.cell? ⟨w2.heap.size, 1, none⟩ = some (.bool false) := by rw [cell_of_heap hp4]; rfl
        have z0 : w4.frozen? ⟨w2.heap.size, 0, none⟩ = false := frozen_of_heap hp4
        have z1 : w4.frozen? ⟨w2.heap.size, 1, none⟩ = false := frozen_of_heap hp4
        have s4 := lt_of_heap hp4
        clear hq4 hp4
        have HT4 : Hid _ := T4
        clear T4
        go_wp2_with fail
        refine (reach_any x a wr _ h0 hlt).mono ?_
        rintro e w5 ⟨rfl, hb5⟩
        go_wp2
        (try simp only [Exit.inBlock, Exit.then])
        refine bodyPost_ret (results_tmp4 rfl _ _ _) rfl ?_
        have U5 : Upd w2.heap.size w4 w5 := ((Upd.setCell _ _ _ _).trans (Upd.setCell _ _ _ _)).trans (Upd.of_below hb5)
        have hv4 : ∀ g, v4.ownBlock = some g → g ≠ w2.heap.size := by
          intro g hg e
          rcases o4 g hg with o | o
          · have := hgl g o; omega
          · simp at o; omega
        have T4 := HT4.out
        have u14 := (UpdP.of_below (P := fun k => k = b ∨ v.ownBlock = some k) hb3').trans u4
        refine ⟨by rw [e1]; rfl, v4, ?_, ?_, ⟨U5.os.trans u14.os, U5.tape.trans u14.tape, U5.output.trans u14.output, Nat.le_trans u14.size U5.size, fun k hk hp => (U5.block k (Nat.lt_of_lt_of_le hk u14.size) (by omega)).trans (u14.block k hk hp)⟩⟩
        · rw [e2]
          exact T4.keep (U5.block b T4.blt (by omega)) (fun g hg => U5.block g (T4.glt g hg) (hv4 g hg))
        · intro g hg
          rcases o4 g hg with o | o
          · exact Or.inl o
          · simp at o
            exact Or.inr (by omega)

end Go.Proofs.Ythkffhfjkddpkaa
