/- The reference of package fds: Gone. -/
import Derived.Test.YtkdbmfckfbmbiaaRfK18
namespace Go.Proofs.Ytkdbmfckfbmbiaa
open Go.RowKit
set_option linter.unusedVariables false

theorem RU.alloc {B : Nat} {w w' : World} (h : RU B w w') (hB : B ≤ w.heap.size) (o : Obj) : RU B w (w'.alloc o) := h.trans (RU.of_below (below_alloc _ _) (Nat.le_trans hB h.size))
theorem RU.grown {B : Nat} {w w1 w2 : World} {row : Option Nat} (h : RU B w w1) (hg : w1.grownBy w2 row) (hv : ∀ g, row = some g → w.heap.size ≤ g) (hB : B ≤ w.heap.size) : RU B w w2 := by
  refine ⟨hg.os.trans h.os, hg.tape.trans h.tape, hg.output.trans h.output, Nat.le_trans h.size hg.size, fun k hk => ?_, fun k cs t fr hk h1 h2 => ?_⟩
  · have := h.size
    exact (hg.block k (by omega) (fun e => by have := hv k e.symm; omega)).trans (h.low k hk)
  · have := lt_of_heap hk
    have := h.size
    exact (hg.block k (by omega) (fun e => by have := hv k e.symm; omega)).trans (h.other k cs t fr hk h1 h2)
theorem RIs.grown {w w' : World} {B c : Nat} {v : Value} {L : List En} (h : RIs w B c v L) {B2 n2 : Nat} {v2 : Value} {x2 : List Value} {s2 : Nat} (ho : w.ownsRow B2 30 s2 v2 n2 x2) (hg : w.grownBy w' v2.ownBlock) : RIs w' B c v L := by
  refine h.keep (fun k cs t fr hk ht => (hg.block k (lt_of_heap hk) (fun e => ?_)).trans hk)
  obtain ⟨cs2, hcs⟩ := own_type ho (g := k) e.symm
  rw [hcs] at hk
  simp only [Option.some.injEq, Obj.cells.injEq] at hk
  rcases ht with e | e | e
  · exact absurd (hk.2.1.trans e) (by decide)
  · exact absurd (hk.2.1.trans e) (by decide)
  · exact absurd (hk.2.1.trans e) (by decide)
theorem own_ru {B B2 n2 s2 : Nat} {w w' : World} {v2 : Value} {x2 : List Value} (ho : w.ownsRow B2 30 s2 v2 n2 x2) (hu : RU B w w') : w'.ownsRow B2 30 s2 v2 n2 x2 :=
  ownsRow_at ho (fun g hg => by
    obtain ⟨cs, hcs⟩ := own_type ho hg
    rw [hcs]
    exact hu.other _ _ _ _ hcs (by decide) (by decide))
set_option maxHeartbeats 4000000 in
theorem rgone_at (B c : Nat) (v : Value) (L : List En) (S : FS) (n : Int) (w : World) (h : RIs w B c v L) (hL : RL L S) (hI : Inv S) (hBw : B ≤ w.heap.size) :
    Calls Try.prog 23 #[.pointer (some ⟨c, 0, none⟩), .int .i64 n] w fun e w' => ∃ v, e = .returned v ∧ w'.ownsRow w.heap.size 30 5 v (goneL S n 6).length (fls (goneL S n 6)) ∧ (∃ v' L', RIs w' B c v' L' ∧ RL L' (goneTo S n 6)) ∧ RU B w w' := by
  obtain ⟨i0, hi0, hzz⟩ := Option.map_eq_some_iff.1 fileInfo
  simp only [Prod.mk.injEq] at hzz
  obtain ⟨hz0, hz1, hz2⟩ := hzz
  have HH : Hid (RIs w B c v L) := h
  have HL0 : Hid (RL L S) := hL
  have HI : Hid (Inv S) := hI
  have hbl := h.lt
  clear h hI hL
  go_enter Try.func23, Try.ntmps23
  go_wp2
  go_loopw [5, 6] (fun s i wr => ∃ (k : Nat) (v : Value), k ≤ 6 ∧ i = .int .i64 k ∧ v = s ∧ wr.ownsRow w.heap.size 30 5 v (goneL S n k).length (fls (goneL S n k)) ∧ Hid (∃ v' L', RIs wr B c v' L' ∧ RL L' (goneTo S n k)) ∧ RU B w wr) (fun _ i _ => 6 - (intOf i).toNat)
  case atStart => exact ⟨0, _, by omega, rfl, rfl, World.ownsRow_nil _ _ _ _, (show Hid _ from ⟨_, _, HH.out, HL0.out⟩), RU.refl _ _⟩
  case round =>
    obtain ⟨k, v, hk, rfl, rfl, hown, HR, hU⟩ := hrel
    by_cases hlt : k < 6
    · obtain ⟨v', L', hR, hRL⟩ := HR.out
      have hC := rclose_at B c v' L' (goneTo S n k) n k wr hR hRL (HI.out.goneTo n k) (Nat.le_trans hBw hU.size)
      have i1 : decide ((k : Int) < 6) = true := decide_eq_true (by omega)
      have hle := goneL_len S n k
      have hlow := ownsRow_low hown
      have HO : Hid (wr.ownsRow w.heap.size 30 5 v (goneL S n k).length (fls (goneL S n k))) := hown
      have HU : Hid (RU B w wr) := hU
      by_cases hn : nm (goneTo S n k) n k = 0
      · have HL : Hid (goneL S n (k + 1) = goneL S n k) := by show _ = _; rw [goneL_succ, if_pos hn]
        have hE : getE (goneTo S n k) n k = 9 := if_pos hn
        rw [hE] at hC
        generalize closeX (goneTo S n k) n k = x at hC
        clear hn hE hown hR hRL hU
        go_wp2_with fail
        refine hC.mono ?_
        rintro e w1 ⟨rfl, hF1, hU1⟩
        have HF1 : Hid (∃ v' L', RIs w1 B c v' L' ∧ RL L' (goneTo S n (k + 1))) := hF1
        have HU1 : Hid (RU B w w1) := HU.out.trans hU1
        have HO1 : Hid (w1.ownsRow w.heap.size 30 5 v (goneL S n k).length (fls (goneL S n k))) := own_ru HO.out hU1
        clear hC hF1 hU1 HO HU HR
        obtain ⟨xk, xi, xo, xa, xr⟩ := x
        unfold Fl.row
        dsimp only
        go_wp2
        go_roundw
        case rel =>
          obtain ⟨v2, L2, r1, r2⟩ := HF1.out
          refine ⟨k + 1, v, by omega, by go_num, rfl, ?_, (show Hid _ from ⟨v2, L2, r1.below (below_alloc _ _), r2⟩), HU1.out.alloc hBw _⟩
          rw [HL.out]
          exact World.ownsRow.alloc HO1.out _
        case measure => simp [intOf]; omega
      · have HL : Hid (goneL S n (k + 1) = goneL S n k ++ [closeX (goneTo S n k) n k]) := by show _ = _; rw [goneL_succ, if_neg hn]
        have hE : getE (goneTo S n k) n k = 0 := if_neg hn
        rw [hE] at hC
        generalize closeX (goneTo S n k) n k = x at hC HL
        clear hn hE hown hR hRL hU
        go_wp2_with fail
        refine hC.mono ?_
        rintro e w1 ⟨rfl, hF1, hU1⟩
        have HF1 : Hid (∃ v' L', RIs w1 B c v' L' ∧ RL L' (goneTo S n (k + 1))) := hF1
        have HU1 : Hid (RU B w w1) := HU.out.trans hU1
        have HO1 : Hid (w1.ownsRow w.heap.size 30 5 v (goneL S n k).length (fls (goneL S n k))) := own_ru HO.out hU1
        have hws := HU1.out.size
        clear hC hF1 hU1 HO HU HR
        obtain ⟨xk, xi, xo, xa, xr⟩ := x
        unfold Fl.row
        dsimp only
        generalize goneL S n k = D at *
        go_wp2_with (at_builtin; refine wpList_append_lies _ rfl _ _ _ rfl w.heap.size 30 i0 _ 5 40 Try.underlying48 hi0 hz0 hz1 hz2 rfl (by omega) v D.length (fls D) rfl (World.ownsRow.alloc (World.ownsRow.alloc HO1.out _) _) ⟨w1.heap.size + 1, 0, none⟩ 1 1 [.int .i64 xk, .int .i64 xi, .int .i64 xo, .bool xa, .int .i64 xr] rfl rfl (World.news_of_block (cs := #[.int .i64 xk, .int .i64 xi, .int .i64 xo, .bool xa, .int .i64 xr]) (t := 30) (fr := (0, 0)) (by have := heap_alloc_new (w1.alloc (.cells #[.int .i64 xk, .int .i64 xi, .int .i64 xo, .bool xa, .int .i64 xr] 30)) (.cells #[.int .i64 xk, .int .i64 xi, .int .i64 xo, .bool xa, .int .i64 xr] 30); simpa using this)) (by simp [Value.oneCell']) (by omega) (by unfold maxLen; omega) (by omega) (by simp; omega) _ rfl ?_; intro gg capx w2 hown2 hgrow hat hlt2)
        go_roundw
        case rel =>
          obtain ⟨v2, L2, r1, r2⟩ := HF1.out
          refine ⟨k + 1, _, by omega, by go_num, rfl, ?_, (show Hid _ from ⟨v2, L2, ?_, r2⟩), RU.grown ((HU1.out.alloc hBw _).alloc hBw _) hgrow hlow hBw⟩
          · rw [HL.out, fls_app, List.length_append]
            exact hown2
          · exact ((r1.below (below_alloc _ _)).below (below_alloc _ _)).grown (World.ownsRow.alloc (World.ownsRow.alloc HO1.out _) _) hgrow
        case measure => simp [intOf]; omega
    · have : k = 6 := by omega
      subst this
      go_wp2
      go_ret
      exact ⟨_, rfl, hown, HR.out, hU⟩
end Go.Proofs.Ytkdbmfckfbmbiaa
