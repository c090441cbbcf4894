/- The contracts of the reference disk's Get and Put. -/
import Derived.Test.YtdpniabjlnjkkaaRefA3
namespace Go.Proofs.Ytdpniabjlnjkkaa
open Go.RowKit
namespace Di
set_option linter.unusedVariables false

section
variable {w w' : World} {bx gx cap n : Nat} {vs : List Int} {gt pt : Nat}
theorem RefAt.c0 (h : RefAt w bx gx cap n vs gt pt) : w.cell? ⟨bx, 0, none⟩ = some (.slice (some ⟨gx, 0, none⟩) n cap) := by rw [cell_of_heap h.head]; rfl
theorem RefAt.c1 (h : RefAt w bx gx cap n vs gt pt) : w.cell? ⟨bx, 1, none⟩ = some (.int .i64 gt) := by rw [cell_of_heap h.head]; rfl
theorem RefAt.c2 (h : RefAt w bx gx cap n vs gt pt) : w.cell? ⟨bx, 2, none⟩ = some (.int .i64 pt) := by rw [cell_of_heap h.head]; rfl
theorem RefAt.free (h : RefAt w bx gx cap n vs gt pt) (i : Nat) : w.frozen? ⟨bx, i, none⟩ = false := frozen_of_heap h.head
theorem RefAt.glt (h : RefAt w bx gx cap n vs gt pt) : gx < w.heap.size := by obtain ⟨cur, hh, _⟩ := h.tab; exact lt_of_heap hh

theorem RefAt.keep (h : RefAt w bx gx cap n vs gt pt) {P : Nat → Prop} (u : UpdP P w w') (hp : ∀ k, P k → k < bx) : RefAt w' bx gx cap n vs gt pt := by
  obtain ⟨cur, hh, ht⟩ := h.tab
  have hlow := h.low
  refine ⟨(u.block _ (lt_of_heap h.head) (fun x => by have := hp _ x; omega)).trans h.head, ⟨cur, (u.block _ (lt_of_heap hh) (fun x => by have := hp _ x; omega)).trans hh, fun i hi => ?_⟩, h.len, h.low⟩
  obtain ⟨r, c, row, h1, h2, h3, h4⟩ := ht i hi
  exact ⟨r, c, row, h1, (u.block _ (lt_of_heap h2) (fun x => by have := hp _ x; omega)).trans h2, h3, h4⟩
theorem RefAt.below (h : RefAt w bx gx cap n vs gt pt) (k : Below w.heap.size w w') : RefAt w' bx gx cap n vs gt pt :=
  h.keep (P := fun _ => False) (UpdP.of_below k) (fun _ x => x.elim)

theorem RefAt.head1 (h : RefAt w bx gx cap n vs gt pt) (gt' pt' : Nat) (hh : w'.heap[bx]? = some (.cells #[.slice (some ⟨gx, 0, none⟩) n cap, .int .i64 gt', .int .i64 pt'] 44)) (u : Upd bx w w') : RefAt w' bx gx cap n vs gt' pt' := by
  obtain ⟨cur, hc, ht⟩ := h.tab
  have hlow := h.low
  refine ⟨hh, ⟨cur, (u.block _ (lt_of_heap hc) (by omega)).trans hc, fun i hi => ?_⟩, h.len, h.low⟩
  obtain ⟨r, c, row, h1, h2, h3, h4⟩ := ht i hi
  exact ⟨r, c, row, h1, (u.block _ (lt_of_heap h2) (by omega)).trans h2, h3, h4⟩
theorem RefAt.get1 (h : RefAt w bx gx cap n vs gt pt) : RefAt (w.setCell ⟨bx, 1, none⟩ (.int .i64 ((gt : Int) + 1))) bx gx cap n vs (gt + 1) pt := by
  refine h.head1 (gt + 1) pt ?_ (Upd.setCell _ _ _ _)
  rw [setCell_eq_setRow w bx 1 _ _ _ _ h.head, setRow_heap w bx _ _ _ _ h.head]
  rfl
theorem RefAt.put1 (h : RefAt w bx gx cap n vs gt pt) : RefAt (w.setCell ⟨bx, 2, none⟩ (.int .i64 ((pt : Int) + 1))) bx gx cap n vs gt (pt + 1) := by
  refine h.head1 gt (pt + 1) ?_ (Upd.setCell _ _ _ _)
  rw [setCell_eq_setRow w bx 2 _ _ _ _ h.head, setRow_heap w bx _ _ _ _ h.head]
  rfl

/-- A new row in the table's place f. -/
theorem RefAt.lay (h : RefAt w bx gx cap n vs gt pt) (f : Nat) (ws : List Int) (gg c : Nat) (row : Array Value) (hf : f < n) (hl : ws.length = 32) (hg : w.heap[gg]? = some (.cells row 29 (0, 0))) (hb : bx < gg) (hne : gg ≠ gx)
    (hw : ∀ (j : Nat) (x : Int), ws[j]? = some x → row[j]? = some (.int .u64 x)) : RefAt (w.setCell ⟨gx, f, none⟩ (.slice (some ⟨gg, 0, none⟩) 32 c)) bx gx cap n (splice vs (f * 32) ws) gt pt := by
  obtain ⟨cur, hc, ht⟩ := h.tab
  have hlow := h.low
  refine ⟨(Below.heap_setCell _ _ _ _ (by show bx ≠ gx; omega)).trans h.head, ⟨cur.setIfInBounds f (.slice (some ⟨gg, 0, none⟩) 32 c), ?_, fun i hi => ?_⟩, by rw [splice_length _ _ _ (by rw [h.len, hl]; omega), h.len], h.low⟩
  · rw [setCell_eq_setRow w gx f _ _ _ _ hc, setRow_heap w gx _ _ _ _ hc]
  · rw [frame_splice vs ws n f i h.len hf hi hl]
    obtain ⟨r, c', row', h1, h2, h3, h4, h5⟩ := ht i hi
    have hi' : i < cur.size := (Array.getElem?_eq_some_iff.1 h1).1
    by_cases e : i = f
    · subst e
      refine ⟨gg, c, row, ?_, (Below.heap_setCell _ _ _ _ hne).trans hg, hb, hne, ?_⟩
      · simp [hi']
      · rw [if_pos rfl]; exact hw
    · refine ⟨r, c', row', ?_, (Below.heap_setCell _ _ _ _ h4).trans h2, h3, h4, ?_⟩
      · rw [Array.getElem?_setIfInBounds_ne (fun x => e x.symm)]; exact h1
      · rw [if_neg e]; exact h5
end

set_option maxHeartbeats 1000000 in
theorem rgetno_at (bx gx cap n : Nat) (vs : List Int) (gt pt : Nat) (f : Int) (w : World) (h : RefAt w bx gx cap n vs gt pt) (hno : ¬ (0 ≤ f ∧ f < n)) :
    Calls Try.prog 101 #[.pointer (some ⟨bx, 0, none⟩), .int .i64 f] w fun e w' => e = .returned (.tuple #[.slice none 0 0, .int .i64 101]) ∧ w' = w := by
  have hc := h.c0
  by_cases hf : f < 0
  · go_enter Try.func101, Try.ntmps101
    go_wp2
    go_ret2
    exact ⟨rfl, rfl⟩
  · have h2 : (n : Int) ≤ f := by omega
    go_enter Try.func101, Try.ntmps101
    go_wp2
    go_ret2
    exact ⟨rfl, rfl⟩

set_option maxRecDepth 100000 in
set_option maxHeartbeats 1000000 in
theorem rget_at (bx gx cap n : Nat) (vs : List Int) (gt pt : Nat) (f : Int) (w : World) (h : RefAt w bx gx cap n vs gt pt) (h0 : 0 ≤ f) (h1 : f < n) (hgt : gt ≤ 1000) :
    Calls Try.prog 101 #[.pointer (some ⟨bx, 0, none⟩), .int .i64 f] w fun e w' => ∃ u, e = .returned (.tuple #[u, .int .i64 0]) ∧
      URow w.heap.size w' u (frameOf vs f.toNat) ∧ RefAt w' bx gx cap n vs (gt + 1) pt ∧ Upd bx w w' := by
  obtain ⟨f, rfl⟩ := nat_of f h0
  simp only [Int.toNat_natCast]
  have hfn : f < n := by omega
  obtain ⟨i0, hi0, hzz⟩ := Option.map_eq_some_iff.1 wordInfo
  simp only [Prod.mk.injEq] at hzz
  obtain ⟨hz0, hz1, hz2⟩ := hzz
  have hc0 := h.c0
  have hc1 := h.c1
  have hfz := h.free 1
  have hd0 := h.get1.c0
  obtain ⟨cur, hh, ht⟩ := h.get1.tab
  obtain ⟨r, c, row, q1, q2, q3, q4, q5⟩ := ht f hfn
  have hd1 : (w.setCell ⟨bx, 1, none⟩ (.int .i64 ((gt : Int) + 1))).cell? ⟨gx, f, none⟩ = some (.slice (some ⟨r, 0, none⟩) 32 c) := by rw [cell_of_heap hh]; exact q1
  have H1 : Hid _ := h.get1
  have HS : Hid ((w.setCell ⟨bx, 1, none⟩ (.int .i64 ((gt : Int) + 1))).heap.size = w.heap.size) := by show _ = _; simp [World.setCell]
  have HL : Hid _ := frameOf_length vs f n h.len hfn
  have hnews : ∀ (j : Nat) (u : Value), (uvs (frameOf vs f))[j]? = some u → (w.setCell ⟨bx, 1, none⟩ (.int .i64 ((gt : Int) + 1))).cell? ((⟨r, 0, none⟩ : Addr).add j) = some u := by
    intro j u hu
    obtain ⟨x, hx, rfl⟩ := uvs_get hu
    rw [add0, Nat.zero_add, cell_of_heap q2]
    exact q5 j x hx
  have HN : Hid _ := hnews
  have hown := World.ownsRow_nil (w.setCell ⟨bx, 1, none⟩ (.int .i64 ((gt : Int) + 1))) w.heap.size 29 1
  have hb := lt_of_heap h.head
  clear hnews ht q1 q2 q5 hh
  go_enter Try.func101, Try.ntmps101
  go_wp2_with (first
    | (at_builtin; refine wpList_append_lies _ rfl _ _ _ rfl w.heap.size 29 i0 _ 1 8 Try.underlying41 hi0 hz0 hz1 hz2 rfl (by omega) (.slice none 0 0) 0 [] rfl hown ⟨r, 0, none⟩ 32 c (uvs (frameOf vs f)) rfl (by rw [uvs_len, HL.out])
        HN.out (uvs_one _) (by omega) (by unfold maxLen; omega) (by omega) (by rw [HS.out]; omega) _ rfl ?_; intro gg cap2 w2 hown2 hgrow hat hlt2)
    | go_in)
  go_ret2
  have hbel : Below (w.setCell ⟨bx, 1, none⟩ (.int .i64 ((gt : Int) + 1))).heap.size _ w2 := below_grown hgrow (Nat.le_refl _) (fun g e => by simp [Value.ownBlock] at e)
  refine ⟨_, rfl, urow_of_own (by rw [HL.out]; simpa using hown2), (H1.out).below hbel, (Upd.setCell _ _ _ _).trans (Upd.of_below hbel)⟩

set_option maxHeartbeats 1000000 in
theorem rputno_at (bx gx cap n : Nat) (vs : List Int) (gt pt : Nat) (f : Int) (a : Option Addr) (m c : Nat) (w : World) (h : RefAt w bx gx cap n vs gt pt) (hno : ¬ (0 ≤ f ∧ f < n ∧ m = 32)) :
    Calls Try.prog 62 #[.pointer (some ⟨bx, 0, none⟩), .int .i64 f, .slice a m c] w fun e w' => e = .returned (.int .i64 101) ∧ w' = w := by
  have hc := h.c0
  by_cases hf : f < 0
  · go_enter Try.func62, Try.ntmps62
    go_wp2
    go_ret
    exact ⟨rfl, rfl⟩
  · by_cases h2 : (n : Int) ≤ f
    · go_enter Try.func62, Try.ntmps62
      go_wp2
      go_ret
      exact ⟨rfl, rfl⟩
    · have hm : ((m : Int) != 32) = true := by simp; omega
      clear hno
      go_enter Try.func62, Try.ntmps62
      go_wp2
      go_ret
      exact ⟨rfl, rfl⟩

set_option maxRecDepth 100000 in
set_option maxHeartbeats 2000000 in
theorem rput_any (M bx gx cap n : Nat) (vs ws : List Int) (gt pt : Nat) (f : Int) (u : Value) (w : World) (h : RefAt w bx gx cap n vs gt pt) (h0 : 0 ≤ f) (h1 : f < n) (hpt : pt ≤ 1000000) (hu : URow M w u ws) (hl : ws.length = 32) :
    Calls Try.prog 62 #[.pointer (some ⟨bx, 0, none⟩), .int .i64 f, u] w fun e w' => e = .returned (.int .i64 0) ∧
      RefAt w' bx gx cap n (splice vs (f.toNat * 32) ws) gt (pt + 1) ∧ UpdP (fun k => k = bx ∨ k = gx) w w' := by
  obtain ⟨f, rfl⟩ := nat_of f h0
  simp only [Int.toNat_natCast]
  obtain ⟨i0, hi0, hzz⟩ := Option.map_eq_some_iff.1 wordInfo
  simp only [Prod.mk.injEq] at hzz
  obtain ⟨hz0, hz1, hz2⟩ := hzz
  obtain ⟨a, ucap, rfl, _, _, hf⟩ := hu
  obtain ⟨p, cur, rfl, hpM, hh, hcell⟩ := hf (by intro e; rw [e] at hl; simp at hl)
  rw [hl]
  have hfn : f < n := by omega
  have hc0 := h.c0
  have hc2 := h.c2
  have hfz := h.free 2
  have H1 : Hid _ := h.put1
  have hd0 := h.put1.c0
  have hlow := h.low
  have hbl := lt_of_heap h.head
  have hgl := h.glt
  have HS : Hid ((w.setCell ⟨bx, 2, none⟩ (.int .i64 ((pt : Int) + 1))).heap.size = w.heap.size) := by show _ = _; simp [World.setCell]
  have hnews : ∀ (j : Nat) (x : Value), (uvs ws)[j]? = some x → (w.setCell ⟨bx, 2, none⟩ (.int .i64 ((pt : Int) + 1))).drew.cell? ((⟨p, 0, none⟩ : Addr).add j) = some x := by
    intro j x hx
    obtain ⟨z, hz, rfl⟩ := uvs_get hx
    rw [add0, Nat.zero_add]
    show (w.setCell ⟨bx, 2, none⟩ (.int .i64 ((pt : Int) + 1))).cell? ⟨p, j, none⟩ = _
    rw [World.cell?_of_block (w := w) (a := ⟨p, j, none⟩) (Below.heap_setCell _ _ _ _ (by show p ≠ bx; intro e; subst e; have q := h.head; rw [hh] at q; injection q with q1; injection q1 with _ q2; exact absurd q2 (by decide))), cell_of_heap hh]
    exact hcell j z hz
  have HN : Hid _ := hnews
  have HL : Hid _ := hl
  have hown := World.ownsRow_nil (w.setCell ⟨bx, 2, none⟩ (.int .i64 ((pt : Int) + 1))).drew w.heap.size 29 1
  obtain ⟨W1, hW1⟩ : ∃ W, W = w.setCell ⟨bx, 2, none⟩ (.int .i64 ((pt : Int) + 1)) := ⟨_, rfl⟩
  have HU1 : Hid (Upd bx w W1) := by rw [hW1]; exact Upd.setCell _ _ _ _
  rw [← hW1] at H1 hd0 HS HN hown
  clear hnews hl hcell hh
  go_enter Try.func62, Try.ntmps62
  go_wp2_with fail
  rw [← hW1]
  clear hW1 hc0 hc2 hfz h
  refine wp_region_held_drew (S := fun w' => w'.cell? ⟨bx, 0, none⟩ = some (.slice (some ⟨gx, 0, none⟩) n cap)) (by kernel_rfl) hd0 (fun hHeld => ?_)
  refine wpAnyH_take (i := 0) (v := ?_) rfl (by kernel_rfl) (by kernel_rfl) (by kernel_rfl) (fun _ _ _ h => h) (Or.inl ⟨by kernel_rfl, ?_⟩) (by assumption) ?_
  rotate_left
  · (intro w hSw; (try dsimp only at hSw); go_simp) <;> with_reducible rfl
  (try simp only [Act.put, List.getElem_toArray, List.getElem_cons_zero, List.setIfInBounds_toArray, List.set_cons_zero, List.set_cons_succ])
  refine wpAnyH_take (i := 1) (v := ?_) rfl (by kernel_rfl) (by kernel_rfl) (by kernel_rfl) (fun _ _ _ h => h) (Or.inl ⟨by kernel_rfl, ?_⟩) (by assumption) ?_
  rotate_left
  · (intro w hSw; (try dsimp only at hSw); go_simp) <;> with_reducible rfl
  (try simp only [Act.put, List.getElem_toArray, List.getElem_cons_zero, List.getElem_cons_succ, List.setIfInBounds_toArray, List.set_cons_zero, List.set_cons_succ])
  refine wpAnyH_take (i := 2) (v := ?_) rfl (by kernel_rfl) (by kernel_rfl) (by kernel_rfl) (fun _ _ _ h => h) (Or.inl ⟨by kernel_rfl, ?_⟩) (by assumption) ?_
  rotate_left
  · (intro w hSw; (try dsimp only at hSw); go_simp) <;> with_reducible rfl
  (try simp only [Act.put, List.getElem_toArray, List.getElem_cons_zero, List.getElem_cons_succ, List.setIfInBounds_toArray, List.set_cons_zero, List.set_cons_succ])
  refine wpAnyH_take (i := 3) (v := ?_) rfl (by kernel_rfl) (by kernel_rfl) (by kernel_rfl) (fun _ _ _ h => h) (Or.inl ⟨by kernel_rfl, ?_⟩) (by assumption) ?_
  rotate_left
  · (intro w hSw; (try dsimp only at hSw); go_simp) <;> with_reducible rfl
  (try simp only [Act.put, List.getElem_toArray, List.getElem_cons_zero, List.getElem_cons_succ, List.setIfInBounds_toArray, List.set_cons_zero, List.set_cons_succ])
  refine wpAnyH_take (i := 4) (v := ?_) rfl (by kernel_rfl) (by kernel_rfl) (by kernel_rfl) (fun _ _ _ h => h) (Or.inl ⟨by kernel_rfl, ?_⟩) (by assumption) ?_
  rotate_left
  · (intro w hSw; (try dsimp only at hSw); go_simp) <;> with_reducible rfl
  (try simp only [Act.put, List.getElem_toArray, List.getElem_cons_zero, List.getElem_cons_succ, List.setIfInBounds_toArray, List.set_cons_zero, List.set_cons_succ])
  refine wpAnyH_take (i := 5) (v := ?_) rfl (by kernel_rfl) (by kernel_rfl) (by kernel_rfl) (fun _ _ _ h => h) (Or.inl ⟨by kernel_rfl, ?_⟩) (by assumption) ?_
  rotate_left
  · (intro w hSw; (try dsimp only at hSw); go_simp) <;> with_reducible rfl
  (try simp only [Act.put, List.getElem_toArray, List.getElem_cons_zero, List.getElem_cons_succ, List.setIfInBounds_toArray, List.set_cons_zero, List.set_cons_succ])
  refine wpAnyH_ready (rs := [6]) (by kernel_rfl) (by simp) ?_
  refine AllReadyH.cons rfl (fun K hK => ?_) AllReadyH.nil
  refine step_append_lies _ (by rfl) _ _ _ (by rfl) w.heap.size 29 i0 _ 1 8 Try.underlying41 hi0 hz0 hz1 hz2 rfl (by omega) (.slice none 0 0) 0 [] (by rfl) hown ⟨p, 0, none⟩ 32 ucap (uvs ws) (by rfl) (by rw [uvs_len, HL.out])
        HN.out (uvs_one _) (by omega) (by unfold maxLen; omega) (by omega) (by show w.heap.size ≤ W1.heap.size; rw [HS.out]; omega) _ rfl ?_
  intro gg cap2 w2 hown2 hgrow hat hlt2
  have hbel : Below W1.heap.size W1 w2 := by
    have := below_grown (B := W1.heap.size) hgrow (Nat.le_refl _) (fun g e => by simp [Value.ownBlock] at e)
    exact ⟨this.os, this.tape, this.output, this.size, this.block⟩
  have hR2 := (H1.out).below hbel
  have hc2 := hR2.c0
  obtain ⟨curT, hT, hTt⟩ := hR2.tab
  obtain ⟨r0, c0, row0, q1, _⟩ := hTt f hfn
  have ht2 : w2.cell? ⟨gx, f, none⟩ = some (.slice (some ⟨r0, 0, none⟩) 32 c0) := by rw [cell_of_heap hT]; exact q1
  have hz2 : w2.frozen? ⟨gx, f, none⟩ = false := frozen_of_heap hT
  have hf3 : (f : Int) < n := by omega
  refine hK.out _ _ hc2 (fun hHeld => ?_)
  clear hK K
  (try simp only [Act.put, List.getElem_toArray, List.getElem_cons_zero, List.getElem_cons_succ, List.setIfInBounds_toArray, List.set_cons_zero, List.set_cons_succ])
  refine wpAnyH_take (i := 7) (v := ?_) rfl (by kernel_rfl) (by kernel_rfl) (by kernel_rfl) (fun _ _ _ h => h) (Or.inl ⟨by kernel_rfl, ?_⟩) (by assumption) ?_
  rotate_left
  · (intro w hSw; (try dsimp only at hSw); go_simp) <;> with_reducible rfl
  (try simp only [Act.put, List.getElem_toArray, List.getElem_cons_zero, List.getElem_cons_succ, List.setIfInBounds_toArray, List.set_cons_zero, List.set_cons_succ])
  refine wpAnyH_ready (rs := [8]) (by kernel_rfl) (by simp) ?_
  refine AllReadyH.cons rfl (fun K hK => ?_) AllReadyH.nil
  go_simp
  refine hK.out _ _ (by rw [World.cell?_of_block (w := w2) (a := ⟨bx, 0, none⟩) (Below.heap_setCell _ _ _ _ (by show bx ≠ gx; omega))]; exact hc2) (fun hHeld => ?_)
  clear hK K
  (try simp only [Act.put, List.getElem_toArray, List.getElem_cons_zero, List.getElem_cons_succ, List.setIfInBounds_toArray, List.set_cons_zero, List.set_cons_succ])
  refine wpAnyH_done (by kernel_rfl) ?_ _
  go_wp2
  go_ret
  have hu2 := urow_of_own (zs := ws) (by rw [HL.out]; simpa using hown2)
  obtain ⟨a3, c3, e3, _, _, hf4⟩ := hu2
  rw [HL.out] at e3
  simp only [Value.slice.injEq] at e3
  obtain ⟨rfl, _, rfl⟩ := e3
  obtain ⟨g4, row4, e4, hg4, hh4, hw4⟩ := hf4 (by intro e; have := HL.out; rw [e] at this; simp at this)
  simp only [Option.some.injEq, Addr.mk.injEq] at e4
  obtain ⟨rfl, _⟩ := e4
  refine ⟨rfl, hR2.lay f ws gg cap2 row4 hfn HL.out hh4 (by omega) (by omega) hw4, ?_⟩
  exact (((HU1.out).p _ (Or.inl rfl)).trans (UpdP.of_below hbel)).trans ((Upd.setCell gx f _ _).p _ (Or.inr rfl))
theorem rput_at (M bx gx cap n : Nat) (vs ws : List Int) (gt pt : Nat) (f : Int) (u : Value) (w : World) (h : RefAt w bx gx cap n vs gt pt) (h0 : 0 ≤ f) (h1 : f < n) (hpt : pt ≤ 1000) (hu : URow M w u ws) (hl : ws.length = 32) (hM : bx < M) :
    Calls Try.prog 62 #[.pointer (some ⟨bx, 0, none⟩), .int .i64 f, u] w fun e w' => e = .returned (.int .i64 0) ∧
      RefAt w' bx gx cap n (splice vs (f.toNat * 32) ws) gt (pt + 1) ∧ UpdP (fun k => k = bx ∨ k = gx) w w' := rput_any M bx gx cap n vs ws gt pt f u w h h0 h1 (by omega) hu hl

end Di
end Go.Proofs.Ytdpniabjlnjkkaa
