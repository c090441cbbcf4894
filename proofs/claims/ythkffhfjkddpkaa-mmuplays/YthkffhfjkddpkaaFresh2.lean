/- MmuFresh: what a TLB keeps is what the table has, if it is told of each change. -/
import Derived.Test.YthkffhfjkddpkaaDeed2
namespace Go.Proofs.Ythkffhfjkddpkaa
open Go.RowKit
set_option linter.unusedVariables false

theorem ownsRow_slice {w : World} {base : Nat} {e : TypeId} {size : Nat} {v : Value} {n : Nat} {xs : List Value} (h : w.ownsRow base e size v n xs) : ∃ a cap, v = .slice a n cap := by
  rcases h.2 with ⟨e2, e3⟩ | ⟨g, cap, cur, e2, _⟩
  · exact ⟨none, 0, by rw [e2, e3]⟩
  · exact ⟨_, _, e2⟩

/-- What is kept is what the table has. -/
def Fresh (f : Int → Option (Int × Bool)) (ks : List (Int × Int × Bool)) : Prop := ∀ e ∈ ks, f e.1 = some e.2

theorem fresh_filt {f f' : Int → Option (Int × Bool)} {ks : List (Int × Int × Bool)} {k : Int} (h : Fresh f ks) (hf : ∀ y, y ≠ k → f' y = f y) : Fresh f' (filt ks k) := by
  intro e he
  simp [filt] at he
  rw [hf e.1 he.2]
  exact h e he.1
theorem mapF_other (f : Int → Option (Int × Bool)) (k : Int) (x : Int × Bool) (y : Int) (h : y ≠ k) : mapF f k x y = f y := by
  unfold mapF
  split
  · simp [h]
  · rfl
theorem unmapF_other (f : Int → Option (Int × Bool)) (k : Int) (y : Int) (h : y ≠ k) : unmapF f k y = f y := by simp [unmapF, h]
theorem findV_mem {ks : List (Int × Int × Bool)} {p : Int} {x : Int × Bool} (h : findV ks p = some x) : (p, x) ∈ ks := by
  unfold findV at h
  rw [Option.map_eq_some_iff] at h
  obtain ⟨e, he, rfl⟩ := h
  have h1 := List.mem_of_find?_eq_some he
  have h2 := List.find?_some he
  simp at h2
  rw [← h2]
  exact h1
theorem fresh_walk {f : Int → Option (Int × Bool)} {ks : List (Int × Int × Bool)} (h : Fresh f ks) (a : Int) (wr : Bool) : (twalkV f ks a wr).1 = walkV f a wr ∧ Fresh f (twalkL f ks a) := by
  unfold twalkV walkV twalkL
  by_cases h1 : 128 ≤ a
  · simp [h1, h]
  · simp only [h1, if_false]
    cases hf : findV ks (a / 32) with
    | some x =>
      have := h _ (findV_mem hf)
      simp only at this
      simp [this, h]
    | none =>
      cases hg : f (a / 32) with
      | none => simp [h]
      | some x =>
        simp only [true_and]
        intro e he
        unfold keepL at he
        have : e ∈ ks ++ [(a / 32, x)] := by
          split at he
          · exact he
          · exact List.mem_of_mem_drop he
        rcases List.mem_append.1 this with e1 | e1
        · exact h e e1
        · simp at e1; subst e1; exact hg

theorem Next.far {mb b : Nat} {v v' : Value} {w w' : World} (h : Next mb b v v' w w') {g : Nat} (hg : g < w.heap.size) (h1 : g ≠ mb) (h2 : g ≠ b) (h3 : v.ownBlock ≠ some g) : w'.heap[g]? = w.heap[g]? :=
  h.upd.block g hg (fun e => e.elim h1 (fun r => r.elim h2 h3))

/-- The cells of the deeds that came in. -/
def DeedsAt (w : World) (a0 : Option Addr) (len : Nat) : Prop :=
  ∀ j, j < len → ∃ gb off, a0 = some ⟨gb, off, none⟩ ∧ ∃ (k pg fr : Int) (wt : Bool) (a : Int) (wr : Bool), 0 ≤ a ∧ w.cell? ⟨gb, off + j * 6, none⟩ = some (.int .i64 k) ∧ w.cell? ⟨gb, off + j * 6 + 1, none⟩ = some (.int .i64 pg) ∧ w.cell? ⟨gb, off + j * 6 + 2, none⟩ = some (.int .i64 fr) ∧
    w.cell? ⟨gb, off + j * 6 + 3, none⟩ = some (.bool wt) ∧ w.cell? ⟨gb, off + j * 6 + 4, none⟩ = some (.int .u64 a) ∧ w.cell? ⟨gb, off + j * 6 + 5, none⟩ = some (.bool wr)

theorem DeedsAt.below {w w' : World} {a0 : Option Addr} {len : Nat} (h : DeedsAt w a0 len) (hb : Below w.heap.size w w') : DeedsAt w' a0 len := by
  intro j hj
  obtain ⟨gb, off, e, k, pg, fr, wt, a, wr, ha, c0, c1, c2, c3, c4, c5⟩ := h j hj
  have hl := cell_lt c0
  have hc : ∀ o, w'.cell? ⟨gb, o, none⟩ = w.cell? ⟨gb, o, none⟩ := fun o => hb.cell (p := ⟨gb, o, none⟩) hl
  exact ⟨gb, off, e, k, pg, fr, wt, a, wr, ha, by rw [hc]; exact c0, by rw [hc]; exact c1, by rw [hc]; exact c2, by rw [hc]; exact c3, by rw [hc]; exact c4, by rw [hc]; exact c5⟩

set_option maxHeartbeats 8000000 in
set_option maxRecDepth 1000000 in
theorem fresh_walks (a0 : Option Addr) (len cap : Nat) (w : World) (hlen : len ≤ 9223372036854775807) (hdeeds : Hid (DeedsAt w a0 len)) :
    Calls Try.prog 4 #[.slice a0 len cap] w fun e w' => e = .returned (.bool true) ∧ Below w.heap.size w w' := by
  go_enter Try.func4, Try.ntmps4
  go_wp2_with fail
  refine (new_any _).mono ?_
  rintro e w1 ⟨rfl, t1, b1⟩
  go_wp2_with fail
  refine (newTlb_any _).mono ?_
  rintro e w2 ⟨rfl, t2, b2⟩
  obtain ⟨m2, B2⟩ := mach_new t1 b1 t2 b2
  have hs1 : w.heap.size ≤ w1.heap.size := b1.size
  clear t1 b1 t2 b2
  go_wp2
  go_loopw [5] (fun i wr => ∃ (k : Nat) (v : Value) (f : Int → Option (Int × Bool)) (ks : List (Int × Int × Bool)), k ≤ len ∧ k ≤ 300 ∧ i = .int .i64 k ∧ Mach wr (w.heap.size + 1) w.heap.size w1.heap.size v f ks ∧ Fresh f ks ∧ (∀ g, v.ownBlock = some g → w.heap.size ≤ g) ∧ Below w.heap.size w wr) (fun i _ => 300 - (intOf i).toNat)
  case atStart => exact ⟨0, _, _, _, by omega, by omega, rfl, m2, fun e he => by simp at he, fun g hg => by simp [Value.ownBlock] at hg, B2⟩
  case round =>
    clear m2 B2
    obtain ⟨k, v, f, ks, hk, hk3, rfl, m, hfr, ho, hB⟩ := hrel
    by_cases hin : k < len ∧ k < 300
    · obtain ⟨hin1, hin2⟩ := hin
      obtain ⟨gb, off, rfl, kd, pg, fr, wt, a, wr', ha, d0, d1, d2, d3, d4, d5⟩ := (hdeeds.out.below hB) k hin1
      have i1 : (k : Int) < (len : Int) := by omega
      have i2 : (k : Int) < 300 := by omega
      have i3 : decide ((k : Int) < 300) = true := by simp; omega
      have hbs := hB.size
      have hml := m.tbl.mlt
      have hbl := m.tlb.blt
      have hgl := m.tlb.glt
      obtain ⟨W, hW⟩ : ∃ W, W = wr.alloc (.cells (deedRow kd pg fr wt a wr') 40) := ⟨_, rfl⟩
      have bW : Below wr.heap.size wr W := by rw [hW]; exact (Below.refl _ _).alloc (Nat.le_refl _) _
      have BW := hB.trans (bW.mono hB.size)
      have mW := m.below bW
      have hx0 : Hid (W.heap[wr.heap.size]? = some (.cells (deedRow kd pg fr wt a wr') 40)) := by
        show W.heap[wr.heap.size]? = _
        rw [hW]; exact heap_alloc_new _ _
      obtain ⟨c0, c1, c2, c3, c4, c5⟩ := deedCells hx0.out
      unfold deedRow at hW
      have HW : Hid _ := hW
      clear hW
      have hc : kd = 0 ∨ kd = 1 ∨ ((kd == 0) = false ∧ (kd == 1) = false) := by simp; omega
      rcases hc with rfl | rfl | ⟨q0, q1⟩
      · go_wp2_with fail
        rw [← HW.out]
        refine (mmap_at mW pg (fr, wt)).mono ?_
        rintro e w3 ⟨rfl, m3, n3⟩
        have hx3 : Hid _ := (n3.far (lt_of_heap hx0.out) (by omega) (by omega) (fun e => by have := hgl _ e; omega)).trans hx0.out
        obtain ⟨c0, c1, c2, c3, c4, c5⟩ := deedCells hx3.out
        have B3 := BW.trans (n3.below (B := w.heap.size) (Nat.le_refl _) hs1 ho BW.size)
        go_wp2_with fail
        refine (mdrop_at m3 pg).mono ?_
        rintro e w4 ⟨rfl, v4, m4, n4⟩
        have B4 := B3.trans (n4.below (B := w.heap.size) (Nat.le_refl _) hs1 ho B3.size)
        have fr4 := fresh_filt hfr (mapF_other f pg (fr, wt))
        have o4 : ∀ g, v4.ownBlock = some g → w.heap.size ≤ g := fun g hg => (n4.own g hg).elim (ho g) (fun h => Nat.le_trans B3.size h)
        clear m m3 n3 n4 mW
        go_wp2_with fail
        refine (pages_at _ _ _ _ m4.tlb (Nat.le_trans m4.len (by omega))).mono ?_
        rintro e w5 ⟨u5, rfl, own5, b5⟩
        obtain ⟨pa, pc, rfl⟩ := ownsRow_slice own5
        have hlen5 := m4.len
        have ht5 : decide ((2 : Int) < ((filt ks pg).length : Int)) = false := by simp; omega
        have m5 := m4.below b5
        have B5 := B4.trans (b5.mono B4.size)
        have HM5 : Hid _ := m5
        clear m5 m4 own5 b5
        go_wp2
        go_roundw
        case rel =>
          exact ⟨k + 1, _, _, _, by omega, by omega, by go_num, HM5.out, fr4, o4, B5⟩
        case measure => simp [intOf]; omega
      · go_wp2_with fail
        rw [← HW.out]
        refine (munmap_at mW pg).mono ?_
        rintro e w3 ⟨rfl, m3, n3⟩
        have hx3 : Hid _ := (n3.far (lt_of_heap hx0.out) (by omega) (by omega) (fun e => by have := hgl _ e; omega)).trans hx0.out
        obtain ⟨c0, c1, c2, c3, c4, c5⟩ := deedCells hx3.out
        have B3 := BW.trans (n3.below (B := w.heap.size) (Nat.le_refl _) hs1 ho BW.size)
        go_wp2_with fail
        refine (mdrop_at m3 pg).mono ?_
        rintro e w4 ⟨rfl, v4, m4, n4⟩
        have B4 := B3.trans (n4.below (B := w.heap.size) (Nat.le_refl _) hs1 ho B3.size)
        have fr4 := fresh_filt hfr (unmapF_other f pg)
        have o4 : ∀ g, v4.ownBlock = some g → w.heap.size ≤ g := fun g hg => (n4.own g hg).elim (ho g) (fun h => Nat.le_trans B3.size h)
        clear m m3 n3 n4 mW
        go_wp2_with fail
        refine (pages_at _ _ _ _ m4.tlb (Nat.le_trans m4.len (by omega))).mono ?_
        rintro e w5 ⟨u5, rfl, own5, b5⟩
        obtain ⟨pa, pc, rfl⟩ := ownsRow_slice own5
        have hlen5 := m4.len
        have ht5 : decide ((2 : Int) < ((filt ks pg).length : Int)) = false := by simp; omega
        have m5 := m4.below b5
        have B5 := B4.trans (b5.mono B4.size)
        have HM5 : Hid _ := m5
        clear m5 m4 own5 b5
        go_wp2
        go_roundw
        case rel =>
          exact ⟨k + 1, _, _, _, by omega, by omega, by go_num, HM5.out, fr4, o4, B5⟩
        case measure => simp [intOf]; omega
      · obtain ⟨hv, fr4⟩ := fresh_walk hfr a wr'
        go_wp2_with fail
        rw [← HW.out]
        refine (mwalk_at mW a wr' ha).mono ?_
        rintro e w3 ⟨rfl, m3, n3⟩
        have hx3 : Hid _ := (n3.far (lt_of_heap hx0.out) (by omega) (by omega) (fun e => by have := hgl _ e; omega)).trans hx0.out
        obtain ⟨c0, c1, c2, c3, c4, c5⟩ := deedCells hx3.out
        have B3 := BW.trans (n3.below (B := w.heap.size) (Nat.le_refl _) hs1 ho BW.size)
        unfold t3
        go_wp2_with fail
        refine (mtwalk_at m3 a wr' ha).mono ?_
        rintro e w4 ⟨rfl, v4, m4, n4⟩
        rw [hv]
        have B4 := B3.trans (n4.below (B := w.heap.size) (Nat.le_refl _) hs1 ho B3.size)
        have o4 : ∀ g, v4.ownBlock = some g → w.heap.size ≤ g := fun g hg => (n4.own g hg).elim (ho g) (fun h => Nat.le_trans B3.size h)
        clear m m3 n3 n4 mW
        unfold t4
        go_wp2_with fail
        refine (pages_at _ _ _ _ m4.tlb (Nat.le_trans m4.len (by omega))).mono ?_
        rintro e w5 ⟨u5, rfl, own5, b5⟩
        obtain ⟨pa, pc, rfl⟩ := ownsRow_slice own5
        have hlen5 := m4.len
        have ht5 : decide ((2 : Int) < ((twalkL f ks a).length : Int)) = false := by simp; omega
        have m5 := m4.below b5
        have B5 := B4.trans (b5.mono B4.size)
        have HM5 : Hid _ := m5
        clear m5 m4 own5 b5
        go_wp2
        go_roundw
        case rel =>
          exact ⟨k + 1, _, _, _, by omega, by omega, by go_num, HM5.out, fr4, o4, B5⟩
        case measure => simp [intOf]; omega
    · have hno : k < len ∨ len ≤ k := by omega
      clear m
      rcases hno with h1 | h1
      all_goals
        go_wp2_with fail
        refine (awake_any _).mono ?_
        rintro e w9 ⟨rfl, b9⟩
        go_wp2
        go_ret
        exact ⟨rfl, hB.trans (b9.mono hB.size)⟩

end Go.Proofs.Ythkffhfjkddpkaa
