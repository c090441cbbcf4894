/- Package fds: Open, Dup. -/
/- Package fds: Close, Fork, Gone. -/
/- What holds of open files and descriptors whatever is called. -/
import Derived.Test.YtikjfdihocgfpaaGreatDoorFdMTFdC
set_option linter.all false
namespace Go.Proofs.YtikjfdihocgfpaaGreatDoor
open Go.RowKit
namespace Ow
end Ow
namespace Fd
open Ow
theorem updOf {b : Nat} {w w1 w2 : World} (h : Below w.heap.size w w1) (hu : Upd b w1 w2) : Upd b w w2 := (Upd.of_below h).trans hu
set_option maxHeartbeats 2000000 in
theorem open_at (b : Nat) (S : FS) (n : Int) (x : Fl) (w : World) (h : FdAt w b S) :
    Calls Tryz.prog 49 #[.pointer (some ⟨b, 0, none⟩), .int .i64 n, .agg x.row] w fun e w' => e = .returned (.tuple #[.int .i64 (openA S n), .int .i64 (openE S n)]) ∧ FdAt w' b (openT S n x) ∧ Upd b w w' := by
  obtain ⟨W, hW⟩ : ∃ W, W = w.alloc (.cells x.row 124) := ⟨_, rfl⟩
  have hbW : Below w.heap.size w W := by rw [hW]; exact below_alloc _ _
  have h1 := h.below hbW
  have HBW : Hid (Below w.heap.size w W) := hbW
  cases hp : isP n with
  | false =>
    have hF := table_no b n W hp
    have HO : Hid (openOk S n = false) := by show _ = _; unfold openOk; rw [hp]; rfl
    have HE : Hid (openE S n = 9) := by show _ = _; unfold openE; rw [hp]; rfl
    have HA : Hid (openA S n = 0) := by show _ = _; unfold openA; rw [HO.out]; rfl
    have HT : Hid (openT S n x = S) := by show _ = _; unfold openT; rw [HO.out]; rfl
    have HH : Hid (FdAt W b S) := h1
    have HW : Hid _ := hW
    clear h h1 hbW hp hW
    go_enter Tryz.func49, Tryz.ntmps49
    go_wp2_with fail
    rw [← Hid.out HW]
    refine hF.mono ?_
    rintro e w1 ⟨rfl, hw⟩
    rw [hw]
    clear hw w1 hF
    go_wp2
    go_ret2
    exact ⟨by rw [HA.out, HE.out]; rfl, by rw [HT.out]; exact HH.out, Upd.of_below HBW.out⟩
  | true =>
    obtain ⟨m, rfl, hm⟩ := isP_nat hp
    have hF := table_at b m W hm
    have hne := tptr_eq b (160 + m * 6)
    have hL := lowestFree_at b S m W h1 hm
    have em : ((m : Int) + 1 - 1).toNat = m := by omega
    have HE : Hid (openE S ((m : Int) + 1) = if openOk S ((m : Int) + 1) then 0 else 24) := by show _ = _; unfold openE; rw [hp]; rfl
    have HA : Hid (openA S ((m : Int) + 1) = if openOk S ((m : Int) + 1) then fdOf S m else 0) := by show _ = _; unfold openA; rw [em]
    have HT : Hid (openT S ((m : Int) + 1) x = if openOk S ((m : Int) + 1) then (S.setF (plOf S).toNat (x.re 1)).setT (key ((m : Int) + 1) (fdOf S m)) ((plOf S).toNat + 1) else S) := by show _ = _; unfold openT; rw [em]
    have HO : Hid (openOk S ((m : Int) + 1) = (decide (0 ≤ fdOf S m) && decide (0 ≤ plOf S))) := by show _ = _; unfold openOk; rw [hp, em]; rfl
    have HH : Hid (FdAt W b S) := h1
    have HW : Hid _ := hW
    have hXW : W.heap[w.heap.size]? = some (.cells x.row 124) := by rw [hW]; exact heap_alloc_new _ _
    have HXW : Hid (W.heap[w.heap.size]? = some (.cells x.row 124)) := hXW
    have hbl := h.lt
    have hnb : w.heap.size ≠ b := by omega
    clear h h1 hbW hp hW em hXW
    rcases low_spec (fun i => S.t (m * 6 + i) == 0) 6 with ⟨d, hd, q1, q2, q3⟩ | ⟨q1, q2⟩
    · have q3' : fdOf S m = (d : Int) := q3
      rcases low_spec (fun p => (S.f p).refs == 0) 32 with ⟨p, hp, r1, r2, r3⟩ | ⟨r1, r2⟩
      · have r3' : plOf S = (p : Int) := r3
        have HO2 : Hid (openOk S ((m : Int) + 1) = true) := by show _ = _; rw [HO.out, q3', r3']; simp
        have HE2 : Hid (openE S ((m : Int) + 1) = 0) := by show _ = _; rw [HE.out, HO2.out]; rfl
        have HA2 : Hid (openA S ((m : Int) + 1) = d) := by show _ = _; rw [HA.out, HO2.out, q3']; rfl
        have HT2 : Hid (openT S ((m : Int) + 1) x = (S.setF p (x.re 1)).setT (m * 6 + d) (p + 1)) := by show _ = _; rw [HT.out, HO2.out, q3', r3', key_of]; rfl
        rw [q3'] at hL
        have hPl := fun V hV => freePlace_at b S V hV
        rw [r3'] at hPl
        clear HE HA HT HO HO2 q1 q2 q3 q3' r1 r2 r3 r3'
        have hdi : (d : Int) < 6 := by omega
        have hpi : (p : Int) < 32 := by omega
        have gd : decide ((d : Int) < 0) = false := decide_eq_false (by omega)
        have gp : decide ((p : Int) < 0) = false := decide_eq_false (by omega)
        go_enter Tryz.func49, Tryz.ntmps49
        go_wp2_with fail
        rw [← Hid.out HW]
        refine hF.mono ?_
        rintro e w1 ⟨rfl, hw⟩
        rw [hw]
        clear hw w1 hF HW
        go_wp2_with fail
        refine hL.mono ?_
        rintro e w1 ⟨rfl, hb1⟩
        have hH1 := HH.out.below hb1
        have hP1 := hPl w1 hH1
        have HH1 : Hid (FdAt w1 b S) := hH1
        have HB1 : Hid (Below w.heap.size w w1) := HBW.out.trans (hb1.mono HBW.out.size)
        have HX1 : Hid (w1.heap[w.heap.size]? = some (.cells x.row 124)) := (hb1.block _ (lt_of_heap HXW.out)).trans HXW.out
        clear hL hb1 hH1 hPl HBW HXW HH
        go_wp2_with fail
        refine hP1.mono ?_
        rintro e w2 ⟨rfl, hb2⟩
        have hH2 := HH1.out.below hb2
        have hX2 : w2.heap[w.heap.size]? = some (.cells x.row 124) := (hb2.block _ (lt_of_heap HX1.out)).trans HX1.out
        have hB2 : Below w.heap.size w w2 := HB1.out.trans (hb2.mono HB1.out.size)
        have x0 : w2.cell? ⟨w.heap.size, 0, none⟩ = some (.int .i64 x.kind) := by rw [cell_of_heap hX2]; rfl
        have x1 : w2.cell? ⟨w.heap.size, 1, none⟩ = some (.int .i64 x.id) := by rw [cell_of_heap hX2]; rfl
        have x2 : w2.cell? ⟨w.heap.size, 2, none⟩ = some (.int .i64 x.off) := by rw [cell_of_heap hX2]; rfl
        have x3 : w2.cell? ⟨w.heap.size, 3, none⟩ = some (.bool x.app) := by rw [cell_of_heap hX2]; rfl
        have x4 : w2.cell? ⟨w.heap.size, 4, none⟩ = some (.int .i64 x.refs) := by rw [cell_of_heap hX2]; rfl
        have xf : w2.frozen? ⟨w.heap.size, 4, none⟩ = false := frozen_of_heap hX2
        obtain ⟨c0, c1, c2, c3, c4⟩ := hH2.cells hp
        have f0 := hH2.free (p * 5)
        have f1 := hH2.free (p * 5 + 1)
        have f2 := hH2.free (p * 5 + 2)
        have f3 := hH2.free (p * 5 + 3)
        have f4 := hH2.free (p * 5 + 4)
        have ct := hH2.tcell (i := m * 6 + d) (o := 160 + m * 6 + d) (by omega) (by omega)
        have ft := hH2.free (160 + m * 6 + d)
        have HH2 : Hid (FdAt w2 b S) := hH2
        have HB2 : Hid (Below w.heap.size w w2) := hB2
        clear hP1 hb2 hH2 hX2 hB2 HX1 HB1 HH1
        have ho : ∀ i, i < 5 → p * 5 + i ≠ 160 + m * 6 + d := by intro i hi; omega
        have o0 := ho 0 (by omega)
        have o1 := ho 1 (by omega)
        have o2 := ho 2 (by omega)
        have o3 := ho 3 (by omega)
        have o4 := ho 4 (by omega)
        rw [Nat.add_zero] at o0
        clear ho
        go_wp2_with fail
        go_region
        all_goals
          go_wp2
          go_ret2
          have hK : FdAt (w2.setCell ⟨w.heap.size, 4, none⟩ (.int .i64 1)) b S := HH2.out.keep (Below.heap_setCell _ _ _ _ (Ne.symm hnb))
          have hBk : Below w.heap.size w (w2.setCell ⟨w.heap.size, 4, none⟩ (.int .i64 1)) := HB2.out.setCell (p := ⟨w.heap.size, 4, none⟩) (Nat.le_refl _) _
          refine ⟨by rw [HA2.out, HE2.out]; rfl, ?_, ?_⟩
          · rw [HT2.out]
            exact ((hK.put5 hp (x.re 1)).setT (i := m * 6 + d) (o := 160 + m * 6 + d) (by omega) (by omega) (p + 1)).drew
          · exact ((updOf hBk (upd5 b (p * 5) _ (x.re 1))).trans (Upd.setCell b (160 + m * 6 + d) _ _)).trans (Upd.drew _ _)
      · have r3' : plOf S = -1 := r2
        have HO2 : Hid (openOk S ((m : Int) + 1) = false) := by show _ = _; rw [HO.out, r3']; simp
        have HE2 : Hid (openE S ((m : Int) + 1) = 24) := by show _ = _; rw [HE.out, HO2.out]; rfl
        have HA2 : Hid (openA S ((m : Int) + 1) = 0) := by show _ = _; rw [HA.out, HO2.out]; rfl
        have HT2 : Hid (openT S ((m : Int) + 1) x = S) := by show _ = _; rw [HT.out, HO2.out]; rfl
        rw [q3'] at hL
        have hPl := fun V hV => freePlace_at b S V hV
        rw [r3'] at hPl
        clear HE HA HT HO HO2 q1 q2 q3 q3' r1 r2 r3'
        have gd : decide ((d : Int) < 0) = false := decide_eq_false (by omega)
        go_enter Tryz.func49, Tryz.ntmps49
        go_wp2_with fail
        rw [← Hid.out HW]
        refine hF.mono ?_
        rintro e w1 ⟨rfl, hw⟩
        rw [hw]
        clear hw w1 hF HW
        go_wp2_with fail
        refine hL.mono ?_
        rintro e w1 ⟨rfl, hb1⟩
        have hH1 := HH.out.below hb1
        have hP1 := hPl w1 hH1
        have HH1 : Hid (FdAt w1 b S) := hH1
        have HB1 : Hid (Below w.heap.size w w1) := HBW.out.trans (hb1.mono HBW.out.size)
        clear hL hb1 hH1 hPl HBW HXW HH
        go_wp2_with fail
        refine hP1.mono ?_
        rintro e w2 ⟨rfl, hb2⟩
        have HH2 : Hid (FdAt w2 b S) := HH1.out.below hb2
        have HB2 : Hid (Below w.heap.size w w2) := HB1.out.trans (hb2.mono HB1.out.size)
        clear hP1 hb2 HB1 HH1
        go_wp2
        go_ret2
        exact ⟨by rw [HA2.out, HE2.out]; rfl, by rw [HT2.out]; exact HH2.out, Upd.of_below HB2.out⟩
    · have q3' : fdOf S m = -1 := q2
      have HO2 : Hid (openOk S ((m : Int) + 1) = false) := by show _ = _; rw [HO.out, q3']; simp
      have HE2 : Hid (openE S ((m : Int) + 1) = 24) := by show _ = _; rw [HE.out, HO2.out]; rfl
      have HA2 : Hid (openA S ((m : Int) + 1) = 0) := by show _ = _; rw [HA.out, HO2.out]; rfl
      have HT2 : Hid (openT S ((m : Int) + 1) x = S) := by show _ = _; rw [HT.out, HO2.out]; rfl
      rw [q3'] at hL
      have hPl := fun V hV => freePlace_at b S V hV
      generalize plOf S = pl at hPl
      clear HE HA HT HO HO2 q1 q2 q3'
      go_enter Tryz.func49, Tryz.ntmps49
      go_wp2_with fail
      rw [← Hid.out HW]
      refine hF.mono ?_
      rintro e w1 ⟨rfl, hw⟩
      rw [hw]
      clear hw w1 hF HW
      go_wp2_with fail
      refine hL.mono ?_
      rintro e w1 ⟨rfl, hb1⟩
      have hH1 := HH.out.below hb1
      have hP1 := hPl w1 hH1
      have HH1 : Hid (FdAt w1 b S) := hH1
      have HB1 : Hid (Below w.heap.size w w1) := HBW.out.trans (hb1.mono HBW.out.size)
      clear hL hb1 hH1 hPl HBW HXW HH
      go_wp2_with fail
      refine hP1.mono ?_
      rintro e w2 ⟨rfl, hb2⟩
      have HH2 : Hid (FdAt w2 b S) := HH1.out.below hb2
      have HB2 : Hid (Below w.heap.size w w2) := HB1.out.trans (hb2.mono HB1.out.size)
      clear hP1 hb2 HB1 HH1
      go_wp2
      go_ret2
      exact ⟨by rw [HA2.out, HE2.out]; rfl, by rw [HT2.out]; exact HH2.out, Upd.of_below HB2.out⟩
end Fd
end Go.Proofs.YtikjfdihocgfpaaGreatDoor
namespace Go.Proofs.YtikjfdihocgfpaaGreatDoor
open Go.RowKit
namespace Ow
end Ow
namespace Fd
open Ow
theorem FdAt.other {w : World} {b g o : Nat} {S : FS} (h : FdAt w b S) (hg : b ≠ g) (v : Value) : FdAt (w.setCell ⟨g, o, none⟩ v) b S := h.keep (Below.heap_setCell _ _ _ _ hg)
theorem FdAt.other5 {w : World} {b g o : Nat} {S : FS} (h : FdAt w b S) (hg : b ≠ g) (x : Fl) : FdAt (lay5 w g o x) b S :=
  ((((h.other hg _).other hg _).other hg _).other hg _).other hg _
/-- All that was there is as it was, but for block b: what else was written came later. -/
theorem upd_new {b g o : Nat} {w w1 : World} (h : Upd b w w1) (hg : w.heap.size ≤ g) (v : Value) : Upd b w (w1.setCell ⟨g, o, none⟩ v) :=
  ⟨h.os, h.tape, h.output, by simpa [World.setCell] using h.size, fun k hk hb => (Below.heap_setCell _ _ _ _ (by show k ≠ g; omega)).trans (h.block k hk hb)⟩
theorem upd_new5 {b g o : Nat} {w w1 : World} (h : Upd b w w1) (hg : w.heap.size ≤ g) (x : Fl) : Upd b w (lay5 w1 g o x) :=
  upd_new (upd_new (upd_new (upd_new (upd_new h hg _) hg _) hg _) hg _) hg _
theorem upd_alloc {b : Nat} {w w1 : World} (h : Upd b w w1) (o : Obj) : Upd b w (w1.alloc o) := h.trans (Upd.alloc _ _ _)
set_option maxHeartbeats 4000000 in
theorem close_at (b : Nat) (S : FS) (n k : Int) (w : World) (h : FdAt w b S) (hI : Inv S) :
    Calls Tryz.prog 187 #[.pointer (some ⟨b, 0, none⟩), .int .i64 n, .int .i64 k] w fun e w' => e = .returned (.tuple #[.agg (closeX S n k).row, .int .i64 (getE S n k)]) ∧ FdAt w' b (closeT S n k) ∧ Upd b w w' := by
  obtain ⟨W, hW⟩ : ∃ W, W = w.alloc (.cells nor 124) := ⟨_, rfl⟩
  have hbW : Below w.heap.size w W := by rw [hW]; exact below_alloc _ _
  have h1 := h.below hbW
  have HBW : Hid (Below w.heap.size w W) := hbW
  have hne := fptr_eq b
  by_cases hn : nm S n k = 0
  · have hF := file_no b S n k W h1 hn
    have HE : Hid (getE S n k = 9) := by show _ = _; unfold getE; rw [if_pos hn]
    have HX : Hid (closeX S n k = Fl.no) := by show _ = _; unfold closeX; rw [if_pos hn]
    have HT : Hid (closeT S n k = S) := by show _ = _; unfold closeT; rw [if_pos hn]
    have HH : Hid (FdAt W b S) := h1
    have HW : Hid _ := hW
    have hnb : w.heap.size ≠ b := by have := h.lt; omega
    clear h h1 hbW hn hW
    go_enter Tryz.func187, Tryz.ntmps187
    go_wp2_with fail
    rw [← Hid.out HW]
    refine hF.mono ?_
    rintro e w1 ⟨rfl, hw⟩
    rw [hw]
    clear hw w1 hF
    rw [Hid.out HW]
    go_wp2
    refine bodyPost_ret (v := .tuple #[.agg nor, .int .i64 9]) ?_ rfl ⟨by rw [HE.out, HX.out]; rfl, ?_, ?_⟩
    · rw [results_cell_tmp rfl]; go_simp
    · rw [HT.out, ← HW.out]
      exact HH.out
    · rw [← HW.out]
      exact Upd.of_below HBW.out
  · obtain ⟨m, j, rfl, rfl, hm, hj, h2, h3⟩ := nm_yes hn
    obtain ⟨h4, h5, h6⟩ := hI.pos (k := m * 6 + j) (by omega) h3
    obtain ⟨p, hp⟩ : ∃ p, S.t (m * 6 + j) = p + 1 := ⟨S.t (m * 6 + j) - 1, by omega⟩
    have hp32 : p < 32 := by omega
    have hr : 0 < (S.f p).refs ∧ (S.f p).refs ≤ 48 := by rw [hp] at h5 h6; exact ⟨h5, h6⟩
    have hF := file_yes b S m j p W h1 hm hj hp hp32
    have hTb := table_at b m W.drew hm
    have HE : Hid (getE S ((m : Int) + 1) j = 0) := by show _ = _; unfold getE; rw [if_neg hn]
    have HX : Hid (closeX S ((m : Int) + 1) j = (S.f p).re ((S.f p).refs - 1)) := by show _ = _; unfold closeX; rw [if_neg hn, h2, hp]; rfl
    have HT : Hid (closeT S ((m : Int) + 1) j = (S.setT (m * 6 + j) 0).setF p (S.f p).less) := by show _ = _; unfold closeT; rw [if_neg hn, h2, hp, key_of]; rfl
    obtain ⟨c0, c1, c2, c3, c4⟩ := h1.drew.cells hp32
    have f0 := h1.drew.free (p * 5)
    have f1 := h1.drew.free (p * 5 + 1)
    have f2 := h1.drew.free (p * 5 + 2)
    have f3 := h1.drew.free (p * 5 + 3)
    have f4 := h1.drew.free (p * 5 + 4)
    have ct := h1.drew.tcell (i := m * 6 + j) (o := 160 + m * 6 + j) (by omega) (by omega)
    have ft := h1.drew.free (160 + m * 6 + j)
    have hbl := h1.lt
    have hbl0 := h.lt
    have hnb : w.heap.size ≠ b := by omega
    have hWn : W.drew.heap[w.heap.size]? = some (.cells nor 124) := by rw [hW]; exact heap_alloc_new _ _
    have z0 : W.drew.cell? ⟨w.heap.size, 0, none⟩ = some (.int .i64 0) := by rw [cell_of_heap hWn]; rfl
    have z1 : W.drew.cell? ⟨w.heap.size, 1, none⟩ = some (.int .i64 0) := by rw [cell_of_heap hWn]; rfl
    have z2 : W.drew.cell? ⟨w.heap.size, 2, none⟩ = some (.int .i64 0) := by rw [cell_of_heap hWn]; rfl
    have z3 : W.drew.cell? ⟨w.heap.size, 3, none⟩ = some (.bool false) := by rw [cell_of_heap hWn]; rfl
    have z4 : W.drew.cell? ⟨w.heap.size, 4, none⟩ = some (.int .i64 0) := by rw [cell_of_heap hWn]; rfl
    have zf : ∀ o, W.drew.frozen? ⟨w.heap.size, o, none⟩ = false := fun o => frozen_of_heap hWn
    have hws : W.drew.heap.size = w.heap.size + 1 := by rw [hW]; simp [World.drew]
    have HW : Hid _ := hW
    have HH : Hid (FdAt W.drew b S) := h1.drew
    have hblV : b < W.drew.heap.size := h1.drew.lt
    have HBV : Hid (Below w.heap.size w W.drew) := HBW.out.drew
    have hji : (j : Int) < 6 := by omega
    have o0 : p * 5 ≠ 160 + m * 6 + j := by omega
    have o1 : p * 5 + 1 ≠ 160 + m * 6 + j := by omega
    have o2 : p * 5 + 2 ≠ 160 + m * 6 + j := by omega
    have o3 : p * 5 + 3 ≠ 160 + m * 6 + j := by omega
    have o4 : p * 5 + 4 ≠ 160 + m * 6 + j := by omega
    have hnw : W.drew.heap.size ≠ w.heap.size := by omega
    have hnb2 : W.drew.heap.size ≠ b := by omega
    obtain ⟨hr0, hr1⟩ := hr
    have HWS : Hid (W.drew.heap.size = w.heap.size + 1) := hws
    have hws1 : w.heap.size < W.drew.heap.size := by omega
    clear h h1 hbW hn hW h2 h3 h4 h5 h6 hp hWn hws hbl
    by_cases hone : (S.f p).refs = 1
    · have HL : Hid ((S.f p).less = Fl.no) := by show _ = _; unfold Fl.less; rw [hone]; rfl
      rw [hone] at c4
      have HR : Hid ((S.f p).refs = 1) := hone
      clear hone hr0 hr1
      go_enter Tryz.func187, Tryz.ntmps187
      go_wp2_with fail
      rw [← Hid.out HW]
      refine hF.mono ?_
      rintro e w1 ⟨rfl, hw⟩
      rw [hw]
      clear hw w1 hF HW
      generalize W.drew = V at *
      go_wp2_with fail
      refine hTb.mono ?_
      rintro e w1 ⟨rfl, hw⟩
      rw [hw]
      clear hw w1 hTb
      go_wp2
      refine bodyPost_ret (v := .tuple #[.agg ((S.f p).re 0).row, .int .i64 0]) ?_ rfl ⟨by rw [HE.out, HX.out, HR.out]; rfl, ?_, ?_⟩
      · rw [results_cell_tmp rfl]; go_simp; exact ⟨rfl, rfl, rfl, rfl, rfl⟩
      · have h7 := ((HH.out.setT (i := m * 6 + j) (o := 160 + m * 6 + j) (by omega) (by omega) 0).re hp32 0).put5 hp32 Fl.no
        rw [FS.setF_setF] at h7
        rw [HT.out, HL.out]
        exact (h7.other5 (g := w.heap.size) (o := 0) (Ne.symm hnb) ((S.f p).re 0)).below (below_alloc _ _)
      · exact upd_alloc (upd_new5 (g := w.heap.size) (o := 0) (updOf HBV.out (((Upd.setCell b (160 + m * 6 + j) _ _).trans (Upd.setCell b (p * 5 + 4) _ _)).trans (upd5 b (p * 5) _ Fl.no))) (Nat.le_refl _) ((S.f p).re 0)) _
    · have HL : Hid ((S.f p).less = (S.f p).re ((S.f p).refs - 1)) := by show _ = _; unfold Fl.less; rw [if_neg (by omega)]
      have gr : ((S.f p).refs - 1 == 0) = false := beq_false_of_ne (by omega)
      clear hone
      go_enter Tryz.func187, Tryz.ntmps187
      go_wp2_with fail
      rw [← Hid.out HW]
      refine hF.mono ?_
      rintro e w1 ⟨rfl, hw⟩
      rw [hw]
      clear hw w1 hF HW
      generalize W.drew = V at *
      go_wp2_with fail
      refine hTb.mono ?_
      rintro e w1 ⟨rfl, hw⟩
      rw [hw]
      clear hw w1 hTb
      go_wp2
      refine bodyPost_ret (v := .tuple #[.agg ((S.f p).re ((S.f p).refs - 1)).row, .int .i64 0]) ?_ rfl ⟨by rw [HE.out, HX.out], ?_, ?_⟩
      · rw [results_cell_tmp rfl]; go_simp; exact ⟨rfl, rfl, rfl, rfl, rfl⟩
      · have h7 := (HH.out.setT (i := m * 6 + j) (o := 160 + m * 6 + j) (by omega) (by omega) 0).re hp32 ((S.f p).refs - 1)
        rw [HT.out, HL.out]
        exact (h7.other5 (g := w.heap.size) (o := 0) (Ne.symm hnb) ((S.f p).re ((S.f p).refs - 1))).below (below_alloc _ _)
      · exact upd_alloc (upd_new5 (g := w.heap.size) (o := 0) (updOf HBV.out ((Upd.setCell b (160 + m * 6 + j) _ _).trans (Upd.setCell b (p * 5 + 4) _ _))) (Nat.le_refl _) ((S.f p).re ((S.f p).refs - 1))) _
end Fd
end Go.Proofs.YtikjfdihocgfpaaGreatDoor
namespace Go.Proofs.YtikjfdihocgfpaaGreatDoor
open Go.RowKit
namespace Ow
end Ow
namespace Fd
open Ow
/-- How many of the first n name one. -/
def cnt (t : Nat → Nat) (r n : Nat) : Nat := ((List.range n).filter (fun k => t k == r)).length
theorem cnt_succ (t : Nat → Nat) (r n : Nat) : cnt t r (n + 1) = cnt t r n + if t n = r then 1 else 0 := by
  unfold cnt
  rw [List.range_succ, List.filter_append, List.length_append]
  by_cases h : t n = r
  · simp [h]
  · simp [h]
theorem cnt_set (t : Nat → Nat) (k q r : Nat) : ∀ n, cnt (fun i => if i = k then q else t i) r n + (if k < n ∧ t k = r then 1 else 0) = cnt t r n + (if k < n ∧ q = r then 1 else 0)
  | 0 => by simp [cnt]
  | n + 1 => by
    have ih := cnt_set t k q r n
    rw [cnt_succ, cnt_succ]
    by_cases hk : n = k
    · subst hk
      rw [if_neg (by omega), if_neg (by omega)] at ih
      simp only [if_true, Nat.lt_succ_self, true_and]
      omega
    · rw [if_neg hk]
      have e : (k < n + 1) = (k < n) := by
        apply propext
        omega
      simp only [e]
      omega
theorem ks_set (S : FS) (k q r : Nat) (hk : k < 48) : (ks (S.setT k q).t r).length + (if S.t k = r then 1 else 0) = (ks S.t r).length + (if q = r then 1 else 0) := by
  have := cnt_set S.t k q r 48
  simp only [hk, true_and] at this
  exact this
/-- One descriptor names another, and the counts say so. -/
theorem Inv.set {S S' : FS} (h : Inv S) {k q : Nat} (hk : k < 48) (hq : q ≤ 32) (ht : S'.t = (S.setT k q).t) (hf : ∀ p, p < 32 → (S'.f p).refs + (if S.t k = p + 1 then 1 else 0) = (S.f p).refs + (if q = p + 1 then 1 else 0)) : Inv S' := by
  refine ⟨fun i hi => ?_, fun p hp => ?_⟩
  · rw [ht]
    by_cases e : i = k
    · rw [e, FS.setT_same]; exact hq
    · rw [FS.setT_other _ _ _ _ e]; exact h.name i hi
  · have h1 := hf p hp
    have h2 := h.refs p hp
    have h3 := ks_set S k q (p + 1) hk
    rw [ht]
    have h4 : ((ks (S.setT k q).t (p + 1)).length : Int) + (if S.t k = p + 1 then 1 else 0) = (ks S.t (p + 1)).length + (if q = p + 1 then 1 else 0) := by
      have := congrArg (Int.ofNat) h3
      split <;> split <;> simp_all <;> omega
    omega
theorem nat_beq {a b : Nat} (h : (a == b) = true) : a = b := by simpa using h
theorem Inv.openT {S : FS} (h : Inv S) (n : Int) (x : Fl) : Inv (openT S n x) := by
  unfold Go.Proofs.YtikjfdihocgfpaaGreatDoor.Fd.openT
  cases ho : openOk S n with
  | false => exact h
  | true =>
    unfold openOk at ho
    simp only [Bool.and_eq_true, decide_eq_true_eq] at ho
    obtain ⟨⟨hp, hd⟩, hl⟩ := ho
    obtain ⟨m, rfl, hm⟩ := isP_nat hp
    rw [show ((m : Int) + 1 - 1).toNat = m by omega] at *
    rcases low_spec (fun i => S.t (m * 6 + i) == 0) 6 with ⟨d, hd6, q1, q2, q3⟩ | ⟨q1, q2⟩
    · rcases low_spec (fun p => (S.f p).refs == 0) 32 with ⟨p, hp32, r1, r2, r3⟩ | ⟨r1, r2⟩
      · have q3' : fdOf S m = (d : Int) := q3
        have r3' : plOf S = (p : Int) := r3
        rw [q3', r3', key_of]
        have e1 : S.t (m * 6 + d) = 0 := nat_beq q1
        have e2 : (S.f p).refs = 0 := by simpa using r1
        simp only [if_true, Int.toNat_natCast]
        refine h.set (k := m * 6 + d) (q := p + 1) (by omega) (by omega) rfl (fun i hi => ?_)
        rw [e1, if_neg (by omega)]
        show ((S.setF p (x.re 1)).f i).refs + 0 = _
        by_cases e : i = p
        · subst e
          rw [FS.setF_same, e2, if_pos rfl]
          rfl
        · rw [FS.setF_other _ _ _ _ e, if_neg (by omega)]
      · have r3' : plOf S = -1 := r2
        omega
    · have q3' : fdOf S m = -1 := q2
      omega
theorem Inv.closeT {S : FS} (h : Inv S) (n k : Int) : Inv (closeT S n k) := by
  unfold Go.Proofs.YtikjfdihocgfpaaGreatDoor.Fd.closeT
  by_cases hn : nm S n k = 0
  · rw [if_pos hn]; exact h
  · rw [if_neg hn]
    obtain ⟨m, j, rfl, rfl, hm, hj, h2, h3⟩ := nm_yes hn
    rw [h2, key_of]
    have h4 := h.pos (k := m * 6 + j) (by omega) h3
    refine h.set (k := m * 6 + j) (q := 0) (by omega) (by omega) rfl (fun i hi => ?_)
    rw [if_neg (c := 0 = i + 1) (by omega)]
    by_cases e : i = S.t (m * 6 + j) - 1
    · subst e
      rw [FS.setF_same, if_pos (by omega)]
      unfold Fl.less
      split
      · rename_i q
        show (0 : Int) + 1 = _
        omega
      · show (S.f _).refs - 1 + 1 = _
        omega
    · rw [FS.setF_other _ _ _ _ e, if_neg (by omega)]
      rfl
end Fd
end Go.Proofs.YtikjfdihocgfpaaGreatDoor
