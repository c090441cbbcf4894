/- Package fds: Close, Fork, Gone. -/
import Derived.Test.YtkdbmfckfbmbiaaFdD
namespace Go.Proofs.Ytkdbmfckfbmbiaa
open Go.RowKit
set_option linter.unusedVariables false

theorem close_nil (n k : Int) (w : World) :
    Calls Try.prog 14 #[.pointer none, .int .i64 n, .int .i64 k] w fun e w' => e = .returned (.tuple #[.agg Fl.no.row, .int .i64 9]) ∧ Below w.heap.size w w' := by
  have hF := fun W => file_nil n k W
  go_enter Try.func14, Try.ntmps14
  go_wp2_with fail
  refine (hF _).mono ?_
  rintro e w1 ⟨rfl, hw⟩
  rw [hw]
  clear hw w1 hF
  go_wp2
  refine bodyPost_ret (v := .tuple #[.agg nor, .int .i64 9]) ?_ rfl ⟨rfl, ?_⟩
  · rw [results_cell_tmp rfl]; go_simp
  · exact below_alloc _ _
theorem FdAt.other {w : World} {b g o : Nat} {S : FS} (h : FdAt w b S) (hg : b ≠ g) (v : Value) : FdAt (w.setCell ⟨g, o, none⟩ v) b S := h.keep (Below.heap_setCell _ _ _ _ hg)
theorem FdAt.other5 {w : World} {b g o : Nat} {S : FS} (h : FdAt w b S) (hg : b ≠ g) (x : Fl) : FdAt (lay5 w g o x) b S :=
  ((((h.other hg _).other hg _).other hg _).other hg _).other hg _
/-- All that was there is as it was, but for block b: what else was written came later. -/
theorem upd_new {b g o : Nat} {w w1 : World} (h : Upd b w w1) (hg : w.heap.size ≤ g) (v : Value) : Upd b w (w1.setCell ⟨g, o, none⟩ v) :=
  ⟨h.os, h.tape, h.output, by simpa [World.setCell] using h.size, fun k hk hb => (Below.heap_setCell _ _ _ _ (by show k ≠ g; omega)).trans (h.block k hk hb)⟩
theorem upd_new5 {b g o : Nat} {w w1 : World} (h : Upd b w w1) (hg : w.heap.size ≤ g) (x : Fl) : Upd b w (lay5 w1 g o x) :=
  upd_new (upd_new (upd_new (upd_new (upd_new h hg _) hg _) hg _) hg _) hg _
theorem upd_alloc {b : Nat} {w w1 : World} (h : Upd b w w1) (o : Obj) : Upd b w (w1.alloc o) := h.trans (Upd.alloc _ _ _)
set_option maxHeartbeats 4000000 in
theorem close_at (b : Nat) (S : FS) (n k : Int) (w : World) (h : FdAt w b S) (hI : Inv S) :
    Calls Try.prog 14 #[.pointer (some ⟨b, 0, none⟩), .int .i64 n, .int .i64 k] w fun e w' => e = .returned (.tuple #[.agg (closeX S n k).row, .int .i64 (getE S n k)]) ∧ FdAt w' b (closeT S n k) ∧ Upd b w w' := by
  obtain ⟨W, hW⟩ : ∃ W, W = w.alloc (.cells nor 30) := ⟨_, rfl⟩
  have hbW : Below w.heap.size w W := by rw [hW]; exact below_alloc _ _
  have h1 := h.below hbW
  have HBW : Hid (Below w.heap.size w W) := hbW
  have hne := fptr_eq b
  by_cases hn : nm S n k = 0
  · have hF := file_no b S n k W h1 hn
    have HE : Hid (getE S n k = 9) := by show _ = _; unfold getE; rw [if_pos hn]
    have HX : Hid (closeX S n k = Fl.no) := by show _ = _; unfold closeX; rw [if_pos hn]
    have HT : Hid (closeT S n k = S) := by show _ = _; unfold closeT; rw [if_pos hn]
    have HH : Hid (FdAt W b S) := h1
    have HW : Hid _ := hW
    have hnb : w.heap.size ≠ b := by have := h.lt; omega
    clear h h1 hbW hn hW
    go_enter Try.func14, Try.ntmps14
    go_wp2_with fail
    rw [← Hid.out HW]
    refine hF.mono ?_
    rintro e w1 ⟨rfl, hw⟩
    rw [hw]
    clear hw w1 hF
    rw [Hid.out HW]
    go_wp2
    refine bodyPost_ret (v := .tuple #[.agg nor, .int .i64 9]) ?_ rfl ⟨by rw [HE.out, HX.out]; rfl, ?_, ?_⟩
    · rw [results_cell_tmp rfl]; go_simp
    · rw [HT.out, ← HW.out]
      exact HH.out
    · rw [← HW.out]
      exact Upd.of_below HBW.out
  · obtain ⟨m, j, rfl, rfl, hm, hj, h2, h3⟩ := nm_yes hn
    obtain ⟨h4, h5, h6⟩ := hI.pos (k := m * 6 + j) (by omega) h3
    obtain ⟨p, hp⟩ : ∃ p, S.t (m * 6 + j) = p + 1 := ⟨S.t (m * 6 + j) - 1, by omega⟩
    have hp32 : p < 32 := by omega
    have hr : 0 < (S.f p).refs ∧ (S.f p).refs ≤ 48 := by rw [hp] at h5 h6; exact ⟨h5, h6⟩
    have hF := file_yes b S m j p W h1 hm hj hp hp32
    have hTb := table_at b m W.drew hm
    have HE : Hid (getE S ((m : Int) + 1) j = 0) := by show _ = _; unfold getE; rw [if_neg hn]
    have HX : Hid (closeX S ((m : Int) + 1) j = (S.f p).re ((S.f p).refs - 1)) := by show _ = _; unfold closeX; rw [if_neg hn, h2, hp]; rfl
    have HT : Hid (closeT S ((m : Int) + 1) j = (S.setT (m * 6 + j) 0).setF p (S.f p).less) := by show _ = _; unfold closeT; rw [if_neg hn, h2, hp, key_of]; rfl
    obtain ⟨c0, c1, c2, c3, c4⟩ := h1.drew.cells hp32
    have f0 := h1.drew.free (p * 5)
    have f1 := h1.drew.free (p * 5 + 1)
    have f2 := h1.drew.free (p * 5 + 2)
    have f3 := h1.drew.free (p * 5 + 3)
    have f4 := h1.drew.free (p * 5 + 4)
    have ct := h1.drew.tcell (i := m * 6 + j) (o := 160 + m * 6 + j) (by omega) (by omega)
    have ft := h1.drew.free (160 + m * 6 + j)
    have hbl := h1.lt
    have hbl0 := h.lt
    have hnb : w.heap.size ≠ b := by omega
    have hWn : W.drew.heap[w.heap.size]? = some (.cells nor 30) := by rw [hW]; exact heap_alloc_new _ _
    have z0 : W.drew.cell? ⟨w.heap.size, 0, none⟩ = some (.int .i64 0) := by rw [cell_of_heap hWn]; rfl
    have z1 : W.drew.cell? ⟨w.heap.size, 1, none⟩ = some (.int .i64 0) := by rw [cell_of_heap hWn]; rfl
    have z2 : W.drew.cell? ⟨w.heap.size, 2, none⟩ = some (.int .i64 0) := by rw [cell_of_heap hWn]; rfl
    have z3 : W.drew.cell? ⟨w.heap.size, 3, none⟩ = some (.bool false) := by rw [cell_of_heap hWn]; rfl
    have z4 : W.drew.cell? ⟨w.heap.size, 4, none⟩ = some (.int .i64 0) := by rw [cell_of_heap hWn]; rfl
    have zf : ∀ o, W.drew.frozen? ⟨w.heap.size, o, none⟩ = false := fun o => frozen_of_heap hWn
    have hws : W.drew.heap.size = w.heap.size + 1 := by rw [hW]; simp [World.drew]
    have HW : Hid _ := hW
    have HH : Hid (FdAt W.drew b S) := h1.drew
    have hblV : b < W.drew.heap.size := h1.drew.lt
    have HBV : Hid (Below w.heap.size w W.drew) := HBW.out.drew
    have hji : (j : Int) < 6 := by omega
    have o0 : p * 5 ≠ 160 + m * 6 + j := by omega
    have o1 : p * 5 + 1 ≠ 160 + m * 6 + j := by omega
    have o2 : p * 5 + 2 ≠ 160 + m * 6 + j := by omega
    have o3 : p * 5 + 3 ≠ 160 + m * 6 + j := by omega
    have o4 : p * 5 + 4 ≠ 160 + m * 6 + j := by omega
    have hnw : W.drew.heap.size ≠ w.heap.size := by omega
    have hnb2 : W.drew.heap.size ≠ b := by omega
    obtain ⟨hr0, hr1⟩ := hr
    have HWS : Hid (W.drew.heap.size = w.heap.size + 1) := hws
    have hws1 : w.heap.size < W.drew.heap.size := by omega
    clear h h1 hbW hn hW h2 h3 h4 h5 h6 hp hWn hws hbl
    by_cases hone : (S.f p).refs = 1
    · have HL : Hid ((S.f p).less = Fl.no) := by show _ = _; unfold Fl.less; rw [hone]; rfl
      rw [hone] at c4
      have HR : Hid ((S.f p).refs = 1) := hone
      clear hone hr0 hr1
      go_enter Try.func14, Try.ntmps14
      go_wp2_with fail
      rw [← Hid.out HW]
      refine hF.mono ?_
      rintro e w1 ⟨rfl, hw⟩
      rw [hw]
      clear hw w1 hF HW
      generalize W.drew = V at *
      go_wp2_with fail
      refine hTb.mono ?_
      rintro e w1 ⟨rfl, hw⟩
      rw [hw]
      clear hw w1 hTb
      go_wp2
      refine bodyPost_ret (v := .tuple #[.agg ((S.f p).re 0).row, .int .i64 0]) ?_ rfl ⟨by rw [HE.out, HX.out, HR.out]; rfl, ?_, ?_⟩
      · rw [results_cell_tmp rfl]; go_simp; exact ⟨rfl, rfl, rfl, rfl, rfl⟩
      · have h7 := ((HH.out.setT (i := m * 6 + j) (o := 160 + m * 6 + j) (by omega) (by omega) 0).re hp32 0).put5 hp32 Fl.no
        rw [FS.setF_setF] at h7
        rw [HT.out, HL.out]
        exact (h7.other5 (g := w.heap.size) (o := 0) (Ne.symm hnb) ((S.f p).re 0)).below (below_alloc _ _)
      · exact upd_alloc (upd_new5 (g := w.heap.size) (o := 0) (updOf HBV.out (((Upd.setCell b (160 + m * 6 + j) _ _).trans (Upd.setCell b (p * 5 + 4) _ _)).trans (upd5 b (p * 5) _ Fl.no))) (Nat.le_refl _) ((S.f p).re 0)) _
    · have HL : Hid ((S.f p).less = (S.f p).re ((S.f p).refs - 1)) := by show _ = _; unfold Fl.less; rw [if_neg (by omega)]
      have gr : ((S.f p).refs - 1 == 0) = false := beq_false_of_ne (by omega)
      clear hone
      go_enter Try.func14, Try.ntmps14
      go_wp2_with fail
      rw [← Hid.out HW]
      refine hF.mono ?_
      rintro e w1 ⟨rfl, hw⟩
      rw [hw]
      clear hw w1 hF HW
      generalize W.drew = V at *
      go_wp2_with fail
      refine hTb.mono ?_
      rintro e w1 ⟨rfl, hw⟩
      rw [hw]
      clear hw w1 hTb
      go_wp2
      refine bodyPost_ret (v := .tuple #[.agg ((S.f p).re ((S.f p).refs - 1)).row, .int .i64 0]) ?_ rfl ⟨by rw [HE.out, HX.out], ?_, ?_⟩
      · rw [results_cell_tmp rfl]; go_simp; exact ⟨rfl, rfl, rfl, rfl, rfl⟩
      · have h7 := (HH.out.setT (i := m * 6 + j) (o := 160 + m * 6 + j) (by omega) (by omega) 0).re hp32 ((S.f p).refs - 1)
        rw [HT.out, HL.out]
        exact (h7.other5 (g := w.heap.size) (o := 0) (Ne.symm hnb) ((S.f p).re ((S.f p).refs - 1))).below (below_alloc _ _)
      · exact upd_alloc (upd_new5 (g := w.heap.size) (o := 0) (updOf HBV.out ((Upd.setCell b (160 + m * 6 + j) _ _).trans (Upd.setCell b (p * 5 + 4) _ _))) (Nat.le_refl _) ((S.f p).re ((S.f p).refs - 1))) _

theorem fork_nil (n k : Int) (w : World) :
    Calls Try.prog 20 #[.pointer none, .int .i64 n, .int .i64 k] w fun e w' => e = .returned (.tuple #[]) ∧ w' = w := by
  have hF := table_nil n w
  have hG := table_nil k w
  go_enter Try.func20, Try.ntmps20
  go_wp2_with fail
  refine hF.mono ?_
  rintro e w1 ⟨rfl, hw⟩
  rw [hw]
  clear hw w1 hF
  go_wp2_with fail
  refine hG.mono ?_
  rintro e w1 ⟨rfl, hw⟩
  rw [hw]
  clear hw w1 hG
  go_wp2
  refine bodyPost_ret (results_none rfl _ _ _) rfl ?_
  exact ⟨rfl, rfl⟩
theorem forkT_yes {S : FS} {a c : Nat} (ha : a < 8) (hc : c < 8) : forkT S ((a : Int) + 1) ((c : Int) + 1) = forkTo S a c 6 := by
  unfold forkT
  rw [isP_of ha, isP_of hc, show ((a : Int) + 1 - 1).toNat = a by omega, show ((c : Int) + 1 - 1).toNat = c by omega]
  rfl
end Go.Proofs.Ytkdbmfckfbmbiaa
