/- Package fds: Open, Dup. -/
/- Package fds: Close, Fork, Gone. -/
/- What holds of open files and descriptors whatever is called. -/
/- Package fds: Fork, Gone; rows of files. -/
import Derived.Test.YtnlhedpfhgoncabGreatDoorFdMTFdC
set_option linter.all false
namespace Go.Proofs.YtnlhedpfhgoncabGreatDoor
open Go.RowKit
namespace Ow
end Ow
namespace Fd
open Ow
theorem updOf {b : Nat} {w w1 w2 : World} (h : Below w.heap.size w w1) (hu : Upd b w1 w2) : Upd b w w2 := (Upd.of_below h).trans hu
set_option maxHeartbeats 2000000 in
theorem open_at (b : Nat) (S : FS) (n : Int) (x : Fl) (w : World) (h : FdAt w b S) :
    Calls Tryz.prog 41 #[.pointer (some ⟨b, 0, none⟩), .int .i64 n, .agg x.row] w fun e w' => e = .returned (.tuple #[.int .i64 (openA S n), .int .i64 (openE S n)]) ∧ FdAt w' b (openT S n x) ∧ Upd b w w' := by
  obtain ⟨W, hW⟩ : ∃ W, W = w.alloc (.cells x.row 121) := ⟨_, rfl⟩
  have hbW : Below w.heap.size w W := by rw [hW]; exact below_alloc _ _
  have h1 := h.below hbW
  have HBW : Hid (Below w.heap.size w W) := hbW
  cases hp : isP n with
  | false =>
    have hF := table_no b n W hp
    have HO : Hid (openOk S n = false) := by show _ = _; unfold openOk; rw [hp]; rfl
    have HE : Hid (openE S n = 9) := by show _ = _; unfold openE; rw [hp]; rfl
    have HA : Hid (openA S n = 0) := by show _ = _; unfold openA; rw [HO.out]; rfl
    have HT : Hid (openT S n x = S) := by show _ = _; unfold openT; rw [HO.out]; rfl
    have HH : Hid (FdAt W b S) := h1
    have HW : Hid _ := hW
    clear h h1 hbW hp hW
    go_enter Tryz.func41, Tryz.ntmps41
    go_wp2_with fail
    rw [← Hid.out HW]
    refine hF.mono ?_
    rintro e w1 ⟨rfl, hw⟩
    rw [hw]
    clear hw w1 hF
    go_wp2
    go_ret2
    exact ⟨by rw [HA.out, HE.out]; rfl, by rw [HT.out]; exact HH.out, Upd.of_below HBW.out⟩
  | true =>
    obtain ⟨m, rfl, hm⟩ := isP_nat hp
    have hF := table_at b m W hm
    have hne := tptr_eq b (160 + m * 6)
    have hL := lowestFree_at b S m W h1 hm
    have em : ((m : Int) + 1 - 1).toNat = m := by omega
    have HE : Hid (openE S ((m : Int) + 1) = if openOk S ((m : Int) + 1) then 0 else 24) := by show _ = _; unfold openE; rw [hp]; rfl
    have HA : Hid (openA S ((m : Int) + 1) = if openOk S ((m : Int) + 1) then fdOf S m else 0) := by show _ = _; unfold openA; rw [em]
    have HT : Hid (openT S ((m : Int) + 1) x = if openOk S ((m : Int) + 1) then (S.setF (plOf S).toNat (x.re 1)).setT (key ((m : Int) + 1) (fdOf S m)) ((plOf S).toNat + 1) else S) := by show _ = _; unfold openT; rw [em]
    have HO : Hid (openOk S ((m : Int) + 1) = (decide (0 ≤ fdOf S m) && decide (0 ≤ plOf S))) := by show _ = _; unfold openOk; rw [hp, em]; rfl
    have HH : Hid (FdAt W b S) := h1
    have HW : Hid _ := hW
    have hXW : W.heap[w.heap.size]? = some (.cells x.row 121) := by rw [hW]; exact heap_alloc_new _ _
    have HXW : Hid (W.heap[w.heap.size]? = some (.cells x.row 121)) := hXW
    have hbl := h.lt
    have hnb : w.heap.size ≠ b := by omega
    clear h h1 hbW hp hW em hXW
    rcases low_spec (fun i => S.t (m * 6 + i) == 0) 6 with ⟨d, hd, q1, q2, q3⟩ | ⟨q1, q2⟩
    · have q3' : fdOf S m = (d : Int) := q3
      rcases low_spec (fun p => (S.f p).refs == 0) 32 with ⟨p, hp, r1, r2, r3⟩ | ⟨r1, r2⟩
      · have r3' : plOf S = (p : Int) := r3
        have HO2 : Hid (openOk S ((m : Int) + 1) = true) := by show _ = _; rw [HO.out, q3', r3']; simp
        have HE2 : Hid (openE S ((m : Int) + 1) = 0) := by show _ = _; rw [HE.out, HO2.out]; rfl
        have HA2 : Hid (openA S ((m : Int) + 1) = d) := by show _ = _; rw [HA.out, HO2.out, q3']; rfl
        have HT2 : Hid (openT S ((m : Int) + 1) x = (S.setF p (x.re 1)).setT (m * 6 + d) (p + 1)) := by show _ = _; rw [HT.out, HO2.out, q3', r3', key_of]; rfl
        rw [q3'] at hL
        have hPl := fun V hV => freePlace_at b S V hV
        rw [r3'] at hPl
        clear HE HA HT HO HO2 q1 q2 q3 q3' r1 r2 r3 r3'
        have hdi : (d : Int) < 6 := by omega
        have hpi : (p : Int) < 32 := by omega
        have gd : decide ((d : Int) < 0) = false := decide_eq_false (by omega)
        have gp : decide ((p : Int) < 0) = false := decide_eq_false (by omega)
        go_enter Tryz.func41, Tryz.ntmps41
        go_wp2_with fail
        rw [← Hid.out HW]
        refine hF.mono ?_
        rintro e w1 ⟨rfl, hw⟩
        rw [hw]
        clear hw w1 hF HW
        go_wp2_with fail
        refine hL.mono ?_
        rintro e w1 ⟨rfl, hb1⟩
        have hH1 := HH.out.below hb1
        have hP1 := hPl w1 hH1
        have HH1 : Hid (FdAt w1 b S) := hH1
        have HB1 : Hid (Below w.heap.size w w1) := HBW.out.trans (hb1.mono HBW.out.size)
        have HX1 : Hid (w1.heap[w.heap.size]? = some (.cells x.row 121)) := (hb1.block _ (lt_of_heap HXW.out)).trans HXW.out
        clear hL hb1 hH1 hPl HBW HXW HH
        go_wp2_with fail
        refine hP1.mono ?_
        rintro e w2 ⟨rfl, hb2⟩
        have hH2 := HH1.out.below hb2
        have hX2 : w2.heap[w.heap.size]? = some (.cells x.row 121) := (hb2.block _ (lt_of_heap HX1.out)).trans HX1.out
        have hB2 : Below w.heap.size w w2 := HB1.out.trans (hb2.mono HB1.out.size)
        have x0 : w2.cell? ⟨w.heap.size, 0, none⟩ = some (.int .i64 x.kind) := by rw [cell_of_heap hX2]; rfl
        have x1 : w2.cell? ⟨w.heap.size, 1, none⟩ = some (.int .i64 x.id) := by rw [cell_of_heap hX2]; rfl
        have x2 : w2.cell? ⟨w.heap.size, 2, none⟩ = some (.int .i64 x.off) := by rw [cell_of_heap hX2]; rfl
        have x3 : w2.cell? ⟨w.heap.size, 3, none⟩ = some (.bool x.app) := by rw [cell_of_heap hX2]; rfl
        have x4 : w2.cell? ⟨w.heap.size, 4, none⟩ = some (.int .i64 x.refs) := by rw [cell_of_heap hX2]; rfl
        have xf : w2.frozen? ⟨w.heap.size, 4, none⟩ = false := frozen_of_heap hX2
        obtain ⟨c0, c1, c2, c3, c4⟩ := hH2.cells hp
        have f0 := hH2.free (p * 5)
        have f1 := hH2.free (p * 5 + 1)
        have f2 := hH2.free (p * 5 + 2)
        have f3 := hH2.free (p * 5 + 3)
        have f4 := hH2.free (p * 5 + 4)
        have ct := hH2.tcell (i := m * 6 + d) (o := 160 + m * 6 + d) (by omega) (by omega)
        have ft := hH2.free (160 + m * 6 + d)
        have HH2 : Hid (FdAt w2 b S) := hH2
        have HB2 : Hid (Below w.heap.size w w2) := hB2
        clear hP1 hb2 hH2 hX2 hB2 HX1 HB1 HH1
        have ho : ∀ i, i < 5 → p * 5 + i ≠ 160 + m * 6 + d := by intro i hi; omega
        have o0 := ho 0 (by omega)
        have o1 := ho 1 (by omega)
        have o2 := ho 2 (by omega)
        have o3 := ho 3 (by omega)
        have o4 := ho 4 (by omega)
        rw [Nat.add_zero] at o0
        clear ho
        go_wp2_with fail
        go_region
        all_goals
          go_wp2
          go_ret2
          have hK : FdAt (w2.setCell ⟨w.heap.size, 4, none⟩ (.int .i64 1)) b S := HH2.out.keep (Below.heap_setCell _ _ _ _ (Ne.symm hnb))
          have hBk : Below w.heap.size w (w2.setCell ⟨w.heap.size, 4, none⟩ (.int .i64 1)) := HB2.out.setCell (p := ⟨w.heap.size, 4, none⟩) (Nat.le_refl _) _
          refine ⟨by rw [HA2.out, HE2.out]; rfl, ?_, ?_⟩
          · rw [HT2.out]
            exact ((hK.put5 hp (x.re 1)).setT (i := m * 6 + d) (o := 160 + m * 6 + d) (by omega) (by omega) (p + 1)).drew
          · exact ((updOf hBk (upd5 b (p * 5) _ (x.re 1))).trans (Upd.setCell b (160 + m * 6 + d) _ _)).trans (Upd.drew _ _)
      · have r3' : plOf S = -1 := r2
        have HO2 : Hid (openOk S ((m : Int) + 1) = false) := by show _ = _; rw [HO.out, r3']; simp
        have HE2 : Hid (openE S ((m : Int) + 1) = 24) := by show _ = _; rw [HE.out, HO2.out]; rfl
        have HA2 : Hid (openA S ((m : Int) + 1) = 0) := by show _ = _; rw [HA.out, HO2.out]; rfl
        have HT2 : Hid (openT S ((m : Int) + 1) x = S) := by show _ = _; rw [HT.out, HO2.out]; rfl
        rw [q3'] at hL
        have hPl := fun V hV => freePlace_at b S V hV
        rw [r3'] at hPl
        clear HE HA HT HO HO2 q1 q2 q3 q3' r1 r2 r3'
        have gd : decide ((d : Int) < 0) = false := decide_eq_false (by omega)
        go_enter Tryz.func41, Tryz.ntmps41
        go_wp2_with fail
        rw [← Hid.out HW]
        refine hF.mono ?_
        rintro e w1 ⟨rfl, hw⟩
        rw [hw]
        clear hw w1 hF HW
        go_wp2_with fail
        refine hL.mono ?_
        rintro e w1 ⟨rfl, hb1⟩
        have hH1 := HH.out.below hb1
        have hP1 := hPl w1 hH1
        have HH1 : Hid (FdAt w1 b S) := hH1
        have HB1 : Hid (Below w.heap.size w w1) := HBW.out.trans (hb1.mono HBW.out.size)
        clear hL hb1 hH1 hPl HBW HXW HH
        go_wp2_with fail
        refine hP1.mono ?_
        rintro e w2 ⟨rfl, hb2⟩
        have HH2 : Hid (FdAt w2 b S) := HH1.out.below hb2
        have HB2 : Hid (Below w.heap.size w w2) := HB1.out.trans (hb2.mono HB1.out.size)
        clear hP1 hb2 HB1 HH1
        go_wp2
        go_ret2
        exact ⟨by rw [HA2.out, HE2.out]; rfl, by rw [HT2.out]; exact HH2.out, Upd.of_below HB2.out⟩
    · have q3' : fdOf S m = -1 := q2
      have HO2 : Hid (openOk S ((m : Int) + 1) = false) := by show _ = _; rw [HO.out, q3']; simp
      have HE2 : Hid (openE S ((m : Int) + 1) = 24) := by show _ = _; rw [HE.out, HO2.out]; rfl
      have HA2 : Hid (openA S ((m : Int) + 1) = 0) := by show _ = _; rw [HA.out, HO2.out]; rfl
      have HT2 : Hid (openT S ((m : Int) + 1) x = S) := by show _ = _; rw [HT.out, HO2.out]; rfl
      rw [q3'] at hL
      have hPl := fun V hV => freePlace_at b S V hV
      generalize plOf S = pl at hPl
      clear HE HA HT HO HO2 q1 q2 q3'
      go_enter Tryz.func41, Tryz.ntmps41
      go_wp2_with fail
      rw [← Hid.out HW]
      refine hF.mono ?_
      rintro e w1 ⟨rfl, hw⟩
      rw [hw]
      clear hw w1 hF HW
      go_wp2_with fail
      refine hL.mono ?_
      rintro e w1 ⟨rfl, hb1⟩
      have hH1 := HH.out.below hb1
      have hP1 := hPl w1 hH1
      have HH1 : Hid (FdAt w1 b S) := hH1
      have HB1 : Hid (Below w.heap.size w w1) := HBW.out.trans (hb1.mono HBW.out.size)
      clear hL hb1 hH1 hPl HBW HXW HH
      go_wp2_with fail
      refine hP1.mono ?_
      rintro e w2 ⟨rfl, hb2⟩
      have HH2 : Hid (FdAt w2 b S) := HH1.out.below hb2
      have HB2 : Hid (Below w.heap.size w w2) := HB1.out.trans (hb2.mono HB1.out.size)
      clear hP1 hb2 HB1 HH1
      go_wp2
      go_ret2
      exact ⟨by rw [HA2.out, HE2.out]; rfl, by rw [HT2.out]; exact HH2.out, Upd.of_below HB2.out⟩
end Fd
end Go.Proofs.YtnlhedpfhgoncabGreatDoor
namespace Go.Proofs.YtnlhedpfhgoncabGreatDoor
open Go.RowKit
namespace Ow
end Ow
namespace Fd
open Ow
theorem forkT_yes {S : FS} {a c : Nat} (ha : a < 8) (hc : c < 8) : forkT S ((a : Int) + 1) ((c : Int) + 1) = forkTo S a c 6 := by
  unfold forkT
  rw [isP_of ha, isP_of hc, show ((a : Int) + 1 - 1).toNat = a by omega, show ((c : Int) + 1 - 1).toNat = c by omega]
  rfl
end Fd
end Go.Proofs.YtnlhedpfhgoncabGreatDoor
namespace Go.Proofs.YtnlhedpfhgoncabGreatDoor
open Go.RowKit
namespace Ow
end Ow
namespace Fd
open Ow
/-- How many of the first n name one. -/
def cnt (t : Nat → Nat) (r n : Nat) : Nat := ((List.range n).filter (fun k => t k == r)).length
theorem cnt_succ (t : Nat → Nat) (r n : Nat) : cnt t r (n + 1) = cnt t r n + if t n = r then 1 else 0 := by
  unfold cnt
  rw [List.range_succ, List.filter_append, List.length_append]
  by_cases h : t n = r
  · simp [h]
  · simp [h]
theorem cnt_set (t : Nat → Nat) (k q r : Nat) : ∀ n, cnt (fun i => if i = k then q else t i) r n + (if k < n ∧ t k = r then 1 else 0) = cnt t r n + (if k < n ∧ q = r then 1 else 0)
  | 0 => by simp [cnt]
  | n + 1 => by
    have ih := cnt_set t k q r n
    rw [cnt_succ, cnt_succ]
    by_cases hk : n = k
    · subst hk
      rw [if_neg (by omega), if_neg (by omega)] at ih
      simp only [if_true, Nat.lt_succ_self, true_and]
      omega
    · rw [if_neg hk]
      have e : (k < n + 1) = (k < n) := by
        apply propext
        omega
      simp only [e]
      omega
theorem ks_set (S : FS) (k q r : Nat) (hk : k < 48) : (ks (S.setT k q).t r).length + (if S.t k = r then 1 else 0) = (ks S.t r).length + (if q = r then 1 else 0) := by
  have := cnt_set S.t k q r 48
  simp only [hk, true_and] at this
  exact this
/-- One descriptor names another, and the counts say so. -/
theorem Inv.set {S S' : FS} (h : Inv S) {k q : Nat} (hk : k < 48) (hq : q ≤ 32) (ht : S'.t = (S.setT k q).t) (hf : ∀ p, p < 32 → (S'.f p).refs + (if S.t k = p + 1 then 1 else 0) = (S.f p).refs + (if q = p + 1 then 1 else 0)) : Inv S' := by
  refine ⟨fun i hi => ?_, fun p hp => ?_⟩
  · rw [ht]
    by_cases e : i = k
    · rw [e, FS.setT_same]; exact hq
    · rw [FS.setT_other _ _ _ _ e]; exact h.name i hi
  · have h1 := hf p hp
    have h2 := h.refs p hp
    have h3 := ks_set S k q (p + 1) hk
    rw [ht]
    have h4 : ((ks (S.setT k q).t (p + 1)).length : Int) + (if S.t k = p + 1 then 1 else 0) = (ks S.t (p + 1)).length + (if q = p + 1 then 1 else 0) := by
      have := congrArg (Int.ofNat) h3
      split <;> split <;> simp_all <;> omega
    omega
theorem nat_beq {a b : Nat} (h : (a == b) = true) : a = b := by simpa using h
theorem Inv.openT {S : FS} (h : Inv S) (n : Int) (x : Fl) : Inv (openT S n x) := by
  unfold Go.Proofs.YtnlhedpfhgoncabGreatDoor.Fd.openT
  cases ho : openOk S n with
  | false => exact h
  | true =>
    unfold openOk at ho
    simp only [Bool.and_eq_true, decide_eq_true_eq] at ho
    obtain ⟨⟨hp, hd⟩, hl⟩ := ho
    obtain ⟨m, rfl, hm⟩ := isP_nat hp
    rw [show ((m : Int) + 1 - 1).toNat = m by omega] at *
    rcases low_spec (fun i => S.t (m * 6 + i) == 0) 6 with ⟨d, hd6, q1, q2, q3⟩ | ⟨q1, q2⟩
    · rcases low_spec (fun p => (S.f p).refs == 0) 32 with ⟨p, hp32, r1, r2, r3⟩ | ⟨r1, r2⟩
      · have q3' : fdOf S m = (d : Int) := q3
        have r3' : plOf S = (p : Int) := r3
        rw [q3', r3', key_of]
        have e1 : S.t (m * 6 + d) = 0 := nat_beq q1
        have e2 : (S.f p).refs = 0 := by simpa using r1
        simp only [if_true, Int.toNat_natCast]
        refine h.set (k := m * 6 + d) (q := p + 1) (by omega) (by omega) rfl (fun i hi => ?_)
        rw [e1, if_neg (by omega)]
        show ((S.setF p (x.re 1)).f i).refs + 0 = _
        by_cases e : i = p
        · subst e
          rw [FS.setF_same, e2, if_pos rfl]
          rfl
        · rw [FS.setF_other _ _ _ _ e, if_neg (by omega)]
      · have r3' : plOf S = -1 := r2
        omega
    · have q3' : fdOf S m = -1 := q2
      omega
theorem Inv.name2 {S : FS} (h : Inv S) {k to q : Nat} (hk : to < 48) (h0 : S.t to = 0) (hq : q ≠ 0) (hq2 : q ≤ 32) : Inv ((S.setT to q).addR (q - 1) 1) := by
  refine h.set (k := to) (q := q) hk hq2 rfl (fun i hi => ?_)
  rw [h0, if_neg (by omega)]
  unfold FS.addR
  by_cases e : i = q - 1
  · subst e
    rw [FS.setF_same, if_pos (by omega)]
    show ((S.f (q - 1)).re ((S.f (q - 1)).refs + 1)).refs + 0 = _
    unfold Fl.re
    simp
  · rw [FS.setF_other _ _ _ _ e, if_neg (by omega)]
    rfl
theorem Inv.forkStep {S : FS} (h : Inv S) {a b k : Nat} (ha : a < 8) (hb : b < 8) (hk : k < 6) : Inv (forkStep S a b k) := by
  unfold Go.Proofs.YtnlhedpfhgoncabGreatDoor.Fd.forkStep
  split
  · rename_i q
    exact h.name2 (k := 0) (by omega) q.1 q.2 (h.name _ (by omega))
  · exact h
theorem Inv.forkTo {S : FS} (h : Inv S) {a b : Nat} (ha : a < 8) (hb : b < 8) : ∀ k, k ≤ 6 → Inv (forkTo S a b k)
  | 0, _ => h
  | k + 1, hk => (Inv.forkTo h ha hb k (by omega)).forkStep ha hb (by omega)
theorem Inv.forkT {S : FS} (h : Inv S) (n c : Int) : Inv (forkT S n c) := by
  unfold Go.Proofs.YtnlhedpfhgoncabGreatDoor.Fd.forkT
  cases ho : (isP n && isP c) with
  | false => exact h
  | true =>
    simp only [Bool.and_eq_true] at ho
    obtain ⟨m, rfl, hm⟩ := isP_nat ho.1
    obtain ⟨d, rfl, hd⟩ := isP_nat ho.2
    rw [show ((m : Int) + 1 - 1).toNat = m by omega, show ((d : Int) + 1 - 1).toNat = d by omega]
    exact h.forkTo hm hd 6 (by omega)
end Fd
end Go.Proofs.YtnlhedpfhgoncabGreatDoor
namespace Go.Proofs.YtnlhedpfhgoncabGreatDoor
open Go.RowKit
namespace Ow
end Ow
namespace Fd
open Ow
theorem forkTo_no {S : FS} {a c k : Nat} (h : ¬ ((forkTo S a c k).t (c * 6 + k) = 0 ∧ (forkTo S a c k).t (a * 6 + k) ≠ 0)) : forkTo S a c (k + 1) = forkTo S a c k := if_neg h
theorem forkTo_yes {S : FS} {a c k q : Nat} (h : (forkTo S a c k).t (c * 6 + k) = 0) (h2 : (forkTo S a c k).t (a * 6 + k) = q + 1) : forkTo S a c (k + 1) = ((forkTo S a c k).setT (c * 6 + k) (q + 1)).setF q (((forkTo S a c k).f q).re (((forkTo S a c k).f q).refs + 1)) := by
  show forkStep (forkTo S a c k) a c k = _
  unfold forkStep
  rw [if_pos ⟨h, by omega⟩, h2]
  rfl
set_option maxHeartbeats 4000000 in
theorem fork_at (b : Nat) (S : FS) (n d : Int) (w : World) (h : FdAt w b S) (hI : Inv S) :
    Calls Tryz.prog 101 #[.pointer (some ⟨b, 0, none⟩), .int .i64 n, .int .i64 d] w fun e w' => e = .returned (.tuple #[]) ∧ FdAt w' b (forkT S n d) ∧ Upd b w w' := by
  cases hp : isP n with
  | false =>
    have hF := table_no b n w hp
    have HT : Hid (forkT S n d = S) := by show _ = _; unfold forkT; rw [hp]; rfl
    have HH : Hid (FdAt w b S) := h
    cases hq : isP d with
    | false =>
      have hG := table_no b d w hq
      clear h hp hq
      go_enter Tryz.func101, Tryz.ntmps101
      go_wp2_with fail
      refine hF.mono ?_
      rintro e w1 ⟨rfl, hw⟩
      rw [hw]
      clear hw w1 hF
      go_wp2_with fail
      refine hG.mono ?_
      rintro e w1 ⟨rfl, hw⟩
      rw [hw]
      clear hw w1 hG
      go_wp2
      refine bodyPost_ret (results_none rfl _ _ _) rfl ?_
      exact ⟨rfl, by rw [HT.out]; exact HH.out, Upd.refl _ _⟩
    | true =>
      obtain ⟨c, rfl, hc⟩ := isP_nat hq
      have hG := table_at b c w hc
      clear h hp hq
      go_enter Tryz.func101, Tryz.ntmps101
      go_wp2_with fail
      refine hF.mono ?_
      rintro e w1 ⟨rfl, hw⟩
      rw [hw]
      clear hw w1 hF
      go_wp2_with fail
      refine hG.mono ?_
      rintro e w1 ⟨rfl, hw⟩
      rw [hw]
      clear hw w1 hG
      go_wp2
      refine bodyPost_ret (results_none rfl _ _ _) rfl ?_
      exact ⟨rfl, by rw [HT.out]; exact HH.out, Upd.refl _ _⟩
  | true =>
    obtain ⟨a, rfl, ha⟩ := isP_nat hp
    have hF := table_at b a w ha
    have hne := tptr_eq b
    cases hq : isP d with
    | false =>
      have hG := table_no b d w hq
      have HT : Hid (forkT S ((a : Int) + 1) d = S) := by show _ = _; unfold forkT; rw [hp, hq]; rfl
      have HH : Hid (FdAt w b S) := h
      clear h hp hq
      go_enter Tryz.func101, Tryz.ntmps101
      go_wp2_with fail
      refine hF.mono ?_
      rintro e w1 ⟨rfl, hw⟩
      rw [hw]
      clear hw w1 hF
      go_wp2_with fail
      refine hG.mono ?_
      rintro e w1 ⟨rfl, hw⟩
      rw [hw]
      clear hw w1 hG
      go_wp2
      refine bodyPost_ret (results_none rfl _ _ _) rfl ?_
      exact ⟨rfl, by rw [HT.out]; exact HH.out, Upd.refl _ _⟩
    | true =>
      obtain ⟨c, rfl, hc⟩ := isP_nat hq
      have hG := table_at b c w hc
      have HT : Hid (forkT S ((a : Int) + 1) ((c : Int) + 1) = forkTo S a c 6) := forkT_yes ha hc
      have HH : Hid (FdAt w b S) := h
      have HI : Hid (Inv S) := hI
      clear h hp hq hI
      go_enter Tryz.func101, Tryz.ntmps101
      go_wp2_with fail
      refine hF.mono ?_
      rintro e w1 ⟨rfl, hw⟩
      rw [hw]
      clear hw w1 hF
      go_wp2_with fail
      refine hG.mono ?_
      rintro e w1 ⟨rfl, hw⟩
      rw [hw]
      clear hw w1 hG
      go_wp2
      go_loopw [23] (fun s wr => ∃ (k : Nat), k ≤ 6 ∧ s = .int .i64 k ∧ FdAt wr b (forkTo S a c k) ∧ Upd b w wr) (fun s _ => 6 - (intOf s).toNat)
      case atStart => exact ⟨0, by omega, rfl, HH.out, Upd.refl _ _⟩
      case round =>
        clear HH
        obtain ⟨k, hk, rfl, hH, hU⟩ := hrel
        have HU : Hid (Upd b w wr) := hU
        by_cases hlt : k < 6
        · have hInv := HI.out.forkTo ha hc k (by omega)
          have ca := hH.tcell (i := a * 6 + k) (o := 160 + a * 6 + k) (by omega) (by omega)
          have cc := hH.tcell (i := c * 6 + k) (o := 160 + c * 6 + k) (by omega) (by omega)
          have da := hH.drew.tcell (i := a * 6 + k) (o := 160 + a * 6 + k) (by omega) (by omega)
          have dc := hH.drew.tcell (i := c * 6 + k) (o := 160 + c * 6 + k) (by omega) (by omega)
          have hki : (k : Int) < 6 := by omega
          have i1 : decide ((k : Int) < 6) = true := decide_eq_true (by omega)
          have HF : Hid (FdAt wr.drew b (forkTo S a c k)) := hH.drew
          by_cases h0 : (forkTo S a c k).t (c * 6 + k) = 0
          · by_cases h1 : (forkTo S a c k).t (a * 6 + k) = 0
            · have HS : Hid (forkTo S a c (k + 1) = forkTo S a c k) := forkTo_no (fun q => q.2 h1)
              rw [h0] at cc dc
              rw [h1] at ca da
              clear hInv h0 h1 hH hU
              generalize forkTo S a c k = Sk at *
              go_wp2_with fail
              go_region
              all_goals
                go_wp2
                go_roundw
                case rel => exact ⟨k + 1, by omega, by go_num, by rw [HS.out]; exact HF.out, HU.out.trans (Upd.drew _ _)⟩
                case measure => simp [intOf]; omega
            · obtain ⟨q, hq⟩ : ∃ q, (forkTo S a c k).t (a * 6 + k) = q + 1 := ⟨(forkTo S a c k).t (a * 6 + k) - 1, by omega⟩
              have HS : Hid _ := forkTo_yes h0 hq
              have hq32 : q < 32 := by have := hInv.name (a * 6 + k) (by omega); omega
              obtain ⟨hr0, hr1⟩ := hInv.bound hq32
              rw [h0] at cc dc
              rw [hq, Int.natCast_add, Int.natCast_one] at ca da
              obtain ⟨p0, p1, p2, p3, p4⟩ := hH.drew.cells hq32
              have ft := hH.drew.free (160 + c * 6 + k)
              have f4 := hH.drew.free (q * 5 + 4)
              have o4 : q * 5 + 4 ≠ 160 + c * 6 + k := by omega
              have gq : ((q : Int) + 1 == 0) = false := beq_false_of_ne (by omega)
              have gq' : ((q : Int) + 1 != 0) = true := by simp; omega
              have hqi : (q : Int) < 32 := by omega
              have f4' : wr.frozen? ⟨b, q * 5 + 4, none⟩ = false := hH.free (q * 5 + 4)
              have ft' : wr.frozen? ⟨b, 160 + c * 6 + k, none⟩ = false := hH.free (160 + c * 6 + k)
              clear hInv h0 h1 hH hU hq
              generalize forkTo S a c k = Sk at *
              have p4' : wr.cell? ⟨b, q * 5 + 4, none⟩ = some (.int .i64 (Sk.f q).refs) := p4
              go_wp2_with fail
              go_region
              all_goals
                go_wp2_with fail
                go_region
                all_goals
                  go_wp2
                  go_roundw
                  case rel =>
                    refine ⟨k + 1, by omega, by go_num, ?_, ?_⟩
                    · rw [HS.out]
                      exact ((HF.out.setT (i := c * 6 + k) (o := 160 + c * 6 + k) (by omega) (by omega) (q + 1)).re hq32 _).drew
                    · exact (((HU.out.trans (Upd.drew _ _)).trans (Upd.setCell b (160 + c * 6 + k) _ _)).trans (Upd.setCell b (q * 5 + 4) _ _)).trans (Upd.drew _ _)
                  case measure => simp [intOf]; omega
          · have HS : Hid (forkTo S a c (k + 1) = forkTo S a c k) := forkTo_no (fun q => h0 q.1)
            generalize hx : (forkTo S a c k).t (c * 6 + k) = x at *
            generalize hy : (forkTo S a c k).t (a * 6 + k) = y at *
            have gx : ((x : Int) == 0) = false := beq_false_of_ne (by omega)
            clear hInv h0 hH hU hx hy
            generalize forkTo S a c k = Sk at *
            go_wp2_with fail
            go_region
            all_goals
              go_wp2
              go_roundw
              case rel => exact ⟨k + 1, by omega, by go_num, by rw [HS.out]; exact HF.out, HU.out.trans (Upd.drew _ _)⟩
              case measure => simp [intOf]; omega
        · obtain rfl : k = 6 := by omega
          have HF : Hid (FdAt wr b (forkTo S a c 6)) := hH
          clear hH hU
          go_wp2
          go_end0
          exact ⟨rfl, by rw [HT.out]; exact HF.out, HU.out⟩
end Fd
end Go.Proofs.YtnlhedpfhgoncabGreatDoor
