/- MmuPlays: any deeds on a table and a TLB answer as the references do. -/
import Derived.Test.YthkffhfjkddpkaaPlaysA2
import Derived.Deep.DeepCutAuto
import Derived.Deep.CutBlock
import Derived.Deep.RegionHeld3
import Derived.Deep.DrawnRows
import Derived.Laws.StructEq
namespace Go.Proofs.Ythkffhfjkddpkaa
open Go.RowKit
set_option linter.unusedVariables false

/-- All side by side, without a deed. -/
structure Solo (w0 w : World) (t mb b x c : Nat) (v u : Value) (f g : Int → Option (Int × Bool)) (ks ls : List (Int × Int × Bool)) : Prop where
  m : Mach w t mb b v f ks
  r : RTbl w x g
  l : RTlb w c u ls
  ll : ls.length ≤ 2
  old : Below w0.heap.size w0 w
  low : w0.heap.size ≤ mb ∧ w0.heap.size ≤ b ∧ w0.heap.size ≤ x ∧ w0.heap.size ≤ c
  vlow : ∀ k, v.ownBlock = some k → w0.heap.size ≤ k
  sx : x ≠ mb ∧ x ≠ b ∧ v.ownBlock ≠ some x
  sc : c ≠ mb ∧ c ≠ b ∧ v.ownBlock ≠ some c ∧ c ≠ x
  su : ∀ k, u.ownBlock = some k → k ≠ mb ∧ k ≠ b ∧ v.ownBlock ≠ some k ∧ k ≠ x ∧ k ≠ c
  st : t ≠ x ∧ t ≠ c

section
variable {w0 w w' : World} {t mb b x c d : Nat} {row : Array Value} {v u : Value} {f g : Int → Option (Int × Bool)} {ks ls : List (Int × Int × Bool)}
theorem Duo.solo (h : Duo w0 w t mb b x c d row v u f g ks ls) : Solo w0 w t mb b x c v u f g ks ls := ⟨h.m, h.r, h.l, h.ll, h.old, h.low, h.vlow, h.sx, h.sc, h.su, h.st⟩
theorem Solo.deed (h : Solo w0 w t mb b x c v u f g ks ls) (row : Array Value) : Duo w0 (w.alloc (.cells row 40)) t mb b x c w.heap.size row v u f g ks ls := by
  have hb : Below w.heap.size w (w.alloc (.cells row 40)) := (Below.refl _ _).alloc (Nat.le_refl _) _
  have a1 := h.m.tbl.mlt
  have a2 := h.m.tlb.blt
  have a3 := h.r.lt
  have a4 := h.l.lt
  exact ⟨h.m.below hb, h.r.below hb, h.l.below hb, h.ll, h.old.trans (hb.mono h.old.size), h.low, h.vlow, h.sx, h.sc, h.su, h.st, heap_alloc_new _ _, by omega, by omega, fun e => by have := h.m.tlb.glt _ e; omega, by omega, by omega⟩
end

theorem solo_new {w w1 w2 : World} (h1 : TblAt w1 (w.heap.size + 1) w.heap.size (fun _ => none)) (b1 : Below w.heap.size w w1) (h2 : TlbAt w2 w1.heap.size (.slice none 0 0) []) (b2 : Below w1.heap.size w1 w2) :
    Solo w ((w2.alloc (.cells (rrow (fun _ => none)) 33)).alloc (.cells #[.slice none 0 0] 37)) (w.heap.size + 1) w.heap.size w1.heap.size w2.heap.size (w2.heap.size + 1) (.slice none 0 0) (.slice none 0 0) (fun _ => none) (fun _ => none) [] [] := by
  obtain ⟨m, B⟩ := mach_new h1 b1 h2 b2
  have s1 := h1.lt
  have s2 := h2.blt
  have s3 := b1.size
  have s4 := b2.size
  have hb : Below w2.heap.size w2 ((w2.alloc (.cells (rrow (fun _ => none)) 33)).alloc (.cells #[.slice none 0 0] 37)) := ((Below.refl _ _).alloc (Nat.le_refl _) _).alloc (by simp) _
  have hnew := heap_alloc_new (w2.alloc (.cells (rrow (fun _ => none)) 33)) (.cells #[.slice none 0 0] 37)
  rw [World.size_alloc] at hnew
  refine ⟨m.below hb, ⟨(Below.heap_alloc _ _ _ (by simp)).trans (heap_alloc_new _ _), fun k y h => by cases h⟩, ⟨hnew, ⟨none, 0, rfl, by simp, by unfold maxLen; omega, fun h => absurd rfl h⟩, by simp [Value.ownBlock], fun g hg => by simp [Value.ownBlock] at hg⟩, by simp, B.trans (hb.mono B.size),
    ⟨by omega, by omega, by omega, by omega⟩, fun k hk => by simp [Value.ownBlock] at hk, ⟨by omega, by omega, by simp [Value.ownBlock]⟩, ⟨by omega, by omega, by simp [Value.ownBlock], by omega⟩, fun k hk => by simp [Value.ownBlock] at hk, by omega, by omega⟩

theorem page_neq (y : Int × Bool) (W : World) : (binOp .neq 29 (.agg #[.int .i64 y.1, .bool y.2]) (.agg #[.int .i64 y.1, .bool y.2])).run Try.prog W = .ok (.bool false) W := by
  go_simp

set_option maxHeartbeats 16000000 in
set_option maxRecDepth 1000000 in
theorem plays_walks (a0 : Option Addr) (len cap : Nat) (w : World) (hlen : len ≤ 9223372036854775807) (hdeeds : Hid (DeedsAt w a0 len)) :
    Calls Try.prog 3 #[.slice a0 len cap] w fun e w' => e = .returned (.bool true) ∧ Below w.heap.size w w' := by
  go_enter Try.func3, Try.ntmps3
  go_wp2_with fail
  refine (new_any _).mono ?_
  rintro e w1 ⟨rfl, t1, b1⟩
  go_wp2_with fail
  refine (newTlb_any _).mono ?_
  rintro e w2 ⟨rfl, t2, b2⟩
  have hS : Hid _ := solo_new t1 b1 t2 b2
  clear t1 b1 t2 b2
  go_wp2
  go_loopw [7] (fun i wr => ∃ (k : Nat) (v u : Value) (f : Int → Option (Int × Bool)) (ks : List (Int × Int × Bool)), k ≤ len ∧ k ≤ 300 ∧ i = .int .i64 k ∧ Solo w wr (w.heap.size + 1) w.heap.size w1.heap.size w2.heap.size (w2.heap.size + 1) v u f f ks ks) (fun i _ => 300 - (intOf i).toNat)
  case atStart => exact ⟨0, _, _, _, _, by omega, by omega, rfl, hS.out⟩
  case round =>
    clear hS
    obtain ⟨k, v, u, f, ks, hk, hk3, rfl, hs⟩ := hrel
    by_cases hin : k < len ∧ k < 300
    · obtain ⟨hin1, hin2⟩ := hin
      obtain ⟨gb, off, rfl, kd, pg, fr, wt, a, wr', ha, d0, d1, d2, d3, d4, d5⟩ := (hdeeds.out.below hs.old) k hin1
      have i1 : (k : Int) < (len : Int) := by omega
      have i2 : (k : Int) < 300 := by omega
      have i3 : decide ((k : Int) < 300) = true := by simp; omega
      have hD : Hid _ := hs.deed (deedRow kd pg fr wt a wr')
      clear hs
      go_upto_block 2 with fail
      go_cut [9] (fun ok wc => ok = .bool true ∧ ∃ (v' u' : Value) (f' : Int → Option (Int × Bool)) (ks' : List (Int × Int × Bool)), Duo w wc (w.heap.size + 1) w.heap.size w1.heap.size w2.heap.size (w2.heap.size + 1) wr.heap.size (deedRow kd pg fr wt a wr') v' u' f' f' ks' ks')
      case first =>
        have hd : Duo w (wr.alloc (.cells #[.int .i64 kd, .int .i64 pg, .int .i64 fr, .bool wt, .int .u64 a, .bool wr'] 40)) (w.heap.size + 1) w.heap.size w1.heap.size w2.heap.size (w2.heap.size + 1) wr.heap.size (deedRow kd pg fr wt a wr') v u f f ks ks := hD.out
        generalize wr.alloc (.cells #[.int .i64 kd, .int .i64 pg, .int .i64 fr, .bool wt, .int .u64 a, .bool wr'] 40) = W at hd ⊢
        have hdd : Duo w W.drew (w.heap.size + 1) w.heap.size w1.heap.size w2.heap.size (w2.heap.size + 1) wr.heap.size (deedRow kd pg fr wt a wr') v u f f ks ks := hd.below (Below.refl _ _).drew
        obtain ⟨c0, c1, c2, c3, c4, c5⟩ := deedCells hd.deed
        clear hD d0 d1 d2 d3 d4 d5 hdeeds
        have kinds : (kd == 0) = true ∨ ((kd == 0) = false ∧ (kd == 1) = true) ∨ ((kd == 0) = false ∧ (kd == 1) = false ∧ (kd == 2) = true) ∨ ((kd == 0) = false ∧ (kd == 1) = false ∧ (kd == 2) = false ∧ (kd == 3) = true) ∨ ((kd == 0) = false ∧ (kd == 1) = false ∧ (kd == 2) = false ∧ (kd == 3) = false ∧ (kd == 4) = true) ∨ ((kd == 0) = false ∧ (kd == 1) = false ∧ (kd == 2) = false ∧ (kd == 3) = false ∧ (kd == 4) = false) := by
          simp only [beq_iff_eq, beq_eq_false_iff_ne]
          omega
        rcases kinds with k0 | ⟨k0, k1⟩ | ⟨k0, k1, k2⟩ | ⟨k0, k1, k2, k3⟩ | ⟨k0, k1, k2, k3, k4⟩ | ⟨k0, k1, k2, k3, k4⟩
        · go_wp2_with fail
          go_region_held3 (fun w' => w'.cell? ⟨wr.heap.size, 1, none⟩ = some (.int .i64 pg) ∧ w'.cell? ⟨wr.heap.size, 2, none⟩ = some (.int .i64 fr) ∧ w'.cell? ⟨wr.heap.size, 3, none⟩ = some (.bool wt))
            (first | go_keep | (exact ⟨(deedCells hq.deed).2.1, (deedCells hq.deed).2.2.1, (deedCells hq.deed).2.2.2.1⟩))
            (first
              | (go_at_call 9; refine (d_map (by assumption) pg (fr, wt)).mono ?_; rintro e wq ⟨rfl, hq⟩)
              | (go_at_call 10; refine (d_rmap (by assumption) pg (fr, wt)).mono ?_; rintro e wq ⟨rfl, hq⟩))
          all_goals
            go_wp2_with fail
            go_meet
            case rel => exact ⟨by simp, _, _, _, _, hq⟩
        · go_wp2_with fail
          go_region_held3 (fun w' => w'.cell? ⟨wr.heap.size, 1, none⟩ = some (.int .i64 pg))
            (first | go_keep | (exact (deedCells hq.deed).2.1))
            (first
              | (go_at_call 11; refine (d_unmap (by assumption) pg).mono ?_; rintro e wq ⟨rfl, hq⟩)
              | (go_at_call 12; refine (d_runmap (by assumption) pg).mono ?_; rintro e wq ⟨rfl, hq⟩))
          all_goals
            go_wp2_with fail
            go_meet
            case rel => exact ⟨by simp, _, _, _, _, hq⟩
        · go_wp2_with fail
          refine (d_walk hd a wr' ha).mono ?_
          rintro e w3 ⟨rfl, h3⟩
          obtain ⟨c0, c1, c2, c3, c4, c5⟩ := deedCells h3.deed
          unfold t3
          go_wp2_with fail
          refine (d_rwalk h3 a wr' ha).mono ?_
          rintro e w4 ⟨rfl, h4⟩
          unfold t3
          go_wp2_with fail
          go_meet
          case rel => exact ⟨by simp, _, _, _, _, h4⟩
        · go_wp2_with fail
          refine (d_twalk hd a wr' ha).mono ?_
          rintro e w3 ⟨rfl, v3, h3⟩
          obtain ⟨c0, c1, c2, c3, c4, c5⟩ := deedCells h3.deed
          unfold t4
          go_wp2_with fail
          refine (d_rtwalk h3 a wr' ha).mono ?_
          rintro e w4 ⟨rfl, u4, h4⟩
          unfold t4
          go_wp2_with fail
          go_meet
          case rel => exact ⟨by simp, _, _, _, _, h4⟩
        · go_wp2_with fail
          refine (d_drop hd pg).mono ?_
          rintro e w3 ⟨rfl, v3, h3⟩
          obtain ⟨c0, c1, c2, c3, c4, c5⟩ := deedCells h3.deed
          go_wp2_with fail
          refine (d_rdrop h3 pg).mono ?_
          rintro e w4 ⟨rfl, u4, h4⟩
          go_wp2_with fail
          go_meet
          case rel => exact ⟨by simp, _, _, _, _, h4⟩
        · go_wp2_with fail
          refine (d_flush hd).mono ?_
          rintro e w3 ⟨rfl, v3, h3⟩
          have e1 : w3.cell? ⟨w2.heap.size + 1, 0, none⟩ = some u := by rw [cell_of_heap h3.l.head]; rfl
          have e2 : w3.frozen? ⟨w2.heap.size + 1, 0, none⟩ = false := frozen_of_heap h3.l.head
          have h4 : Hid _ := h3.rflush
          clear h3
          go_wp2_with fail
          go_meet
          case rel => exact ⟨by simp, _, _, _, _, h4.out⟩
      case rest =>
        obtain ⟨rfl, v', u', f', ks', hd⟩ := hcut
        obtain ⟨c0, c1, c2, c3, c4, c5⟩ := deedCells hd.deed
        have HD : Hid _ := hd
        have hat := d_at hd pg
        clear hD d0 d1 d2 d3 d4 d5 hdeeds hd
        obtain ⟨y, hy⟩ : ∃ y, y = (f' pg).getD (0, false) := ⟨_, rfl⟩
        obtain ⟨r, hr⟩ : ∃ r, r = (f' pg).isSome := ⟨_, rfl⟩
        rw [← hy, ← hr] at hat
        have HY : Hid _ := hy
        have HR : Hid _ := hr
        clear hy hr
        go_wp2_with fail
        refine hat.mono ?_
        rintro e w3 ⟨rfl, b3⟩
        unfold pv
        have hd3 := HD.out.below (b3.alloc b3.size (.cells #[.int .i64 y.1, .bool y.2] 29))
        have hx3 : Hid _ := heap_alloc_new w3 (.cells #[.int .i64 y.1, .bool y.2] 29)
        have hdl : wr.heap.size < w3.heap.size := Nat.lt_of_lt_of_le (lt_of_heap HD.out.deed) b3.size
        obtain ⟨e0, e1, e2, e3, e4, e5⟩ := deedCells ((b3.block _ (lt_of_heap HD.out.deed)).trans HD.out.deed)
        have hrat := d_rat hd3 pg
        rw [← HY.out, ← HR.out] at hrat
        have HD3 : Hid _ := hd3
        clear hd3
        go_wp2_with fail
        refine hrat.mono ?_
        rintro e w4 ⟨rfl, b4⟩
        unfold pv
        have hd4 := HD3.out.below (b4.alloc b4.size (.cells #[.int .i64 y.1, .bool y.2] 29))
        have hx4 := (b4.block _ (lt_of_heap hx3.out)).trans hx3.out
        have g0 : w4.cell? ⟨w3.heap.size, 0, none⟩ = some (.int .i64 y.1) := by rw [cell_of_heap hx4]; rfl
        have g1 : w4.cell? ⟨w3.heap.size, 1, none⟩ = some (.bool y.2) := by rw [cell_of_heap hx4]; rfl
        have hxl := lt_of_heap hx4
        have heq := page_neq y
        have HD4 : Hid _ := hd4
        clear hx4 hd4 hat hrat
        go_wp2_with fail
        refine (d_frames HD4.out).mono ?_
        rintro e w5 ⟨z5, rfl, q5, b5⟩
        have h5 := HD4.out.below b5
        go_wp2_with fail
        refine (d_rframes h5).mono ?_
        rintro e w6 ⟨z6, rfl, q6, b6⟩
        have h6 := h5.below b6
        have q5' := q5.below b6
        go_wp2_with fail
        refine (ints_same _ _ _ _ q5' q6).mono ?_
        rintro e w7 ⟨rfl, b7⟩
        have h7 := h6.below b7
        go_wp2_with fail
        refine (d_pages h7).mono ?_
        rintro e w8 ⟨z8, rfl, q8, b8⟩
        have h8 := h7.below b8
        go_wp2_with fail
        refine (d_rpages h8).mono ?_
        rintro e w9 ⟨z9, rfl, q9, b9⟩
        have h9 := h8.below b9
        have q8' := q8.below b9
        go_wp2_with fail
        refine (ints_same _ _ _ _ q8' q9).mono ?_
        rintro e w10 ⟨rfl, b10⟩
        have h10 := h9.below b10
        go_wp2_with fail
        go_roundw
        case rel => exact ⟨k + 1, _, _, _, _, by omega, by omega, by go_num, h10.solo⟩
        case measure => simp [intOf]; omega
    · have HS : Hid _ := hs
      clear hs hdeeds
      have hno : k < len ∨ len ≤ k := by omega
      rcases hno with h1 | h1
      all_goals
        go_wp2_with fail
        refine (awake_any _).mono ?_
        rintro e w9 ⟨rfl, b9⟩
        go_wp2
        go_ret
        exact ⟨rfl, (HS.out.old).trans (b9.mono HS.out.old.size)⟩

end Go.Proofs.Ythkffhfjkddpkaa
