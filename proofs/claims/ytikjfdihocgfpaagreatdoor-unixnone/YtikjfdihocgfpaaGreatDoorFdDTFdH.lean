/- Package fds: Open, Dup. -/
/- What holds of open files and descriptors whatever is called. -/
/- The library's Sort and Compact of ints, laid at this program (by the shelf's own command: numbers of this seat). -/
/- Package fds: Ids. -/
import Derived.Test.YtikjfdihocgfpaaGreatDoorFdMTFdC
import Derived.Test.YtikjfdihocgfpaaGreatDoorRows
import Derived.Shelf.Sort.Plain
import Derived.Shelf.Slices.CompactI
import Derived.Shelf.Slices.In.SortNone
set_option linter.all false
namespace Go.Proofs.YtikjfdihocgfpaaGreatDoor
open Go.RowKit
namespace Ow
end Ow
namespace Fd
open Ow
theorem updOf {b : Nat} {w w1 w2 : World} (h : Below w.heap.size w w1) (hu : Upd b w1 w2) : Upd b w w2 := (Upd.of_below h).trans hu
set_option maxHeartbeats 2000000 in
theorem open_at (b : Nat) (S : FS) (n : Int) (x : Fl) (w : World) (h : FdAt w b S) :
    Calls Tryz.prog 49 #[.pointer (some ⟨b, 0, none⟩), .int .i64 n, .agg x.row] w fun e w' => e = .returned (.tuple #[.int .i64 (openA S n), .int .i64 (openE S n)]) ∧ FdAt w' b (openT S n x) ∧ Upd b w w' := by
  obtain ⟨W, hW⟩ : ∃ W, W = w.alloc (.cells x.row 124) := ⟨_, rfl⟩
  have hbW : Below w.heap.size w W := by rw [hW]; exact below_alloc _ _
  have h1 := h.below hbW
  have HBW : Hid (Below w.heap.size w W) := hbW
  cases hp : isP n with
  | false =>
    have hF := table_no b n W hp
    have HO : Hid (openOk S n = false) := by show _ = _; unfold openOk; rw [hp]; rfl
    have HE : Hid (openE S n = 9) := by show _ = _; unfold openE; rw [hp]; rfl
    have HA : Hid (openA S n = 0) := by show _ = _; unfold openA; rw [HO.out]; rfl
    have HT : Hid (openT S n x = S) := by show _ = _; unfold openT; rw [HO.out]; rfl
    have HH : Hid (FdAt W b S) := h1
    have HW : Hid _ := hW
    clear h h1 hbW hp hW
    go_enter Tryz.func49, Tryz.ntmps49
    go_wp2_with fail
    rw [← Hid.out HW]
    refine hF.mono ?_
    rintro e w1 ⟨rfl, hw⟩
    rw [hw]
    clear hw w1 hF
    go_wp2
    go_ret2
    exact ⟨by rw [HA.out, HE.out]; rfl, by rw [HT.out]; exact HH.out, Upd.of_below HBW.out⟩
  | true =>
    obtain ⟨m, rfl, hm⟩ := isP_nat hp
    have hF := table_at b m W hm
    have hne := tptr_eq b (160 + m * 6)
    have hL := lowestFree_at b S m W h1 hm
    have em : ((m : Int) + 1 - 1).toNat = m := by omega
    have HE : Hid (openE S ((m : Int) + 1) = if openOk S ((m : Int) + 1) then 0 else 24) := by show _ = _; unfold openE; rw [hp]; rfl
    have HA : Hid (openA S ((m : Int) + 1) = if openOk S ((m : Int) + 1) then fdOf S m else 0) := by show _ = _; unfold openA; rw [em]
    have HT : Hid (openT S ((m : Int) + 1) x = if openOk S ((m : Int) + 1) then (S.setF (plOf S).toNat (x.re 1)).setT (key ((m : Int) + 1) (fdOf S m)) ((plOf S).toNat + 1) else S) := by show _ = _; unfold openT; rw [em]
    have HO : Hid (openOk S ((m : Int) + 1) = (decide (0 ≤ fdOf S m) && decide (0 ≤ plOf S))) := by show _ = _; unfold openOk; rw [hp, em]; rfl
    have HH : Hid (FdAt W b S) := h1
    have HW : Hid _ := hW
    have hXW : W.heap[w.heap.size]? = some (.cells x.row 124) := by rw [hW]; exact heap_alloc_new _ _
    have HXW : Hid (W.heap[w.heap.size]? = some (.cells x.row 124)) := hXW
    have hbl := h.lt
    have hnb : w.heap.size ≠ b := by omega
    clear h h1 hbW hp hW em hXW
    rcases low_spec (fun i => S.t (m * 6 + i) == 0) 6 with ⟨d, hd, q1, q2, q3⟩ | ⟨q1, q2⟩
    · have q3' : fdOf S m = (d : Int) := q3
      rcases low_spec (fun p => (S.f p).refs == 0) 32 with ⟨p, hp, r1, r2, r3⟩ | ⟨r1, r2⟩
      · have r3' : plOf S = (p : Int) := r3
        have HO2 : Hid (openOk S ((m : Int) + 1) = true) := by show _ = _; rw [HO.out, q3', r3']; simp
        have HE2 : Hid (openE S ((m : Int) + 1) = 0) := by show _ = _; rw [HE.out, HO2.out]; rfl
        have HA2 : Hid (openA S ((m : Int) + 1) = d) := by show _ = _; rw [HA.out, HO2.out, q3']; rfl
        have HT2 : Hid (openT S ((m : Int) + 1) x = (S.setF p (x.re 1)).setT (m * 6 + d) (p + 1)) := by show _ = _; rw [HT.out, HO2.out, q3', r3', key_of]; rfl
        rw [q3'] at hL
        have hPl := fun V hV => freePlace_at b S V hV
        rw [r3'] at hPl
        clear HE HA HT HO HO2 q1 q2 q3 q3' r1 r2 r3 r3'
        have hdi : (d : Int) < 6 := by omega
        have hpi : (p : Int) < 32 := by omega
        have gd : decide ((d : Int) < 0) = false := decide_eq_false (by omega)
        have gp : decide ((p : Int) < 0) = false := decide_eq_false (by omega)
        go_enter Tryz.func49, Tryz.ntmps49
        go_wp2_with fail
        rw [← Hid.out HW]
        refine hF.mono ?_
        rintro e w1 ⟨rfl, hw⟩
        rw [hw]
        clear hw w1 hF HW
        go_wp2_with fail
        refine hL.mono ?_
        rintro e w1 ⟨rfl, hb1⟩
        have hH1 := HH.out.below hb1
        have hP1 := hPl w1 hH1
        have HH1 : Hid (FdAt w1 b S) := hH1
        have HB1 : Hid (Below w.heap.size w w1) := HBW.out.trans (hb1.mono HBW.out.size)
        have HX1 : Hid (w1.heap[w.heap.size]? = some (.cells x.row 124)) := (hb1.block _ (lt_of_heap HXW.out)).trans HXW.out
        clear hL hb1 hH1 hPl HBW HXW HH
        go_wp2_with fail
        refine hP1.mono ?_
        rintro e w2 ⟨rfl, hb2⟩
        have hH2 := HH1.out.below hb2
        have hX2 : w2.heap[w.heap.size]? = some (.cells x.row 124) := (hb2.block _ (lt_of_heap HX1.out)).trans HX1.out
        have hB2 : Below w.heap.size w w2 := HB1.out.trans (hb2.mono HB1.out.size)
        have x0 : w2.cell? ⟨w.heap.size, 0, none⟩ = some (.int .i64 x.kind) := by rw [cell_of_heap hX2]; rfl
        have x1 : w2.cell? ⟨w.heap.size, 1, none⟩ = some (.int .i64 x.id) := by rw [cell_of_heap hX2]; rfl
        have x2 : w2.cell? ⟨w.heap.size, 2, none⟩ = some (.int .i64 x.off) := by rw [cell_of_heap hX2]; rfl
        have x3 : w2.cell? ⟨w.heap.size, 3, none⟩ = some (.bool x.app) := by rw [cell_of_heap hX2]; rfl
        have x4 : w2.cell? ⟨w.heap.size, 4, none⟩ = some (.int .i64 x.refs) := by rw [cell_of_heap hX2]; rfl
        have xf : w2.frozen? ⟨w.heap.size, 4, none⟩ = false := frozen_of_heap hX2
        obtain ⟨c0, c1, c2, c3, c4⟩ := hH2.cells hp
        have f0 := hH2.free (p * 5)
        have f1 := hH2.free (p * 5 + 1)
        have f2 := hH2.free (p * 5 + 2)
        have f3 := hH2.free (p * 5 + 3)
        have f4 := hH2.free (p * 5 + 4)
        have ct := hH2.tcell (i := m * 6 + d) (o := 160 + m * 6 + d) (by omega) (by omega)
        have ft := hH2.free (160 + m * 6 + d)
        have HH2 : Hid (FdAt w2 b S) := hH2
        have HB2 : Hid (Below w.heap.size w w2) := hB2
        clear hP1 hb2 hH2 hX2 hB2 HX1 HB1 HH1
        have ho : ∀ i, i < 5 → p * 5 + i ≠ 160 + m * 6 + d := by intro i hi; omega
        have o0 := ho 0 (by omega)
        have o1 := ho 1 (by omega)
        have o2 := ho 2 (by omega)
        have o3 := ho 3 (by omega)
        have o4 := ho 4 (by omega)
        rw [Nat.add_zero] at o0
        clear ho
        go_wp2_with fail
        go_region
        all_goals
          go_wp2
          go_ret2
          have hK : FdAt (w2.setCell ⟨w.heap.size, 4, none⟩ (.int .i64 1)) b S := HH2.out.keep (Below.heap_setCell _ _ _ _ (Ne.symm hnb))
          have hBk : Below w.heap.size w (w2.setCell ⟨w.heap.size, 4, none⟩ (.int .i64 1)) := HB2.out.setCell (p := ⟨w.heap.size, 4, none⟩) (Nat.le_refl _) _
          refine ⟨by rw [HA2.out, HE2.out]; rfl, ?_, ?_⟩
          · rw [HT2.out]
            exact ((hK.put5 hp (x.re 1)).setT (i := m * 6 + d) (o := 160 + m * 6 + d) (by omega) (by omega) (p + 1)).drew
          · exact ((updOf hBk (upd5 b (p * 5) _ (x.re 1))).trans (Upd.setCell b (160 + m * 6 + d) _ _)).trans (Upd.drew _ _)
      · have r3' : plOf S = -1 := r2
        have HO2 : Hid (openOk S ((m : Int) + 1) = false) := by show _ = _; rw [HO.out, r3']; simp
        have HE2 : Hid (openE S ((m : Int) + 1) = 24) := by show _ = _; rw [HE.out, HO2.out]; rfl
        have HA2 : Hid (openA S ((m : Int) + 1) = 0) := by show _ = _; rw [HA.out, HO2.out]; rfl
        have HT2 : Hid (openT S ((m : Int) + 1) x = S) := by show _ = _; rw [HT.out, HO2.out]; rfl
        rw [q3'] at hL
        have hPl := fun V hV => freePlace_at b S V hV
        rw [r3'] at hPl
        clear HE HA HT HO HO2 q1 q2 q3 q3' r1 r2 r3'
        have gd : decide ((d : Int) < 0) = false := decide_eq_false (by omega)
        go_enter Tryz.func49, Tryz.ntmps49
        go_wp2_with fail
        rw [← Hid.out HW]
        refine hF.mono ?_
        rintro e w1 ⟨rfl, hw⟩
        rw [hw]
        clear hw w1 hF HW
        go_wp2_with fail
        refine hL.mono ?_
        rintro e w1 ⟨rfl, hb1⟩
        have hH1 := HH.out.below hb1
        have hP1 := hPl w1 hH1
        have HH1 : Hid (FdAt w1 b S) := hH1
        have HB1 : Hid (Below w.heap.size w w1) := HBW.out.trans (hb1.mono HBW.out.size)
        clear hL hb1 hH1 hPl HBW HXW HH
        go_wp2_with fail
        refine hP1.mono ?_
        rintro e w2 ⟨rfl, hb2⟩
        have HH2 : Hid (FdAt w2 b S) := HH1.out.below hb2
        have HB2 : Hid (Below w.heap.size w w2) := HB1.out.trans (hb2.mono HB1.out.size)
        clear hP1 hb2 HB1 HH1
        go_wp2
        go_ret2
        exact ⟨by rw [HA2.out, HE2.out]; rfl, by rw [HT2.out]; exact HH2.out, Upd.of_below HB2.out⟩
    · have q3' : fdOf S m = -1 := q2
      have HO2 : Hid (openOk S ((m : Int) + 1) = false) := by show _ = _; rw [HO.out, q3']; simp
      have HE2 : Hid (openE S ((m : Int) + 1) = 24) := by show _ = _; rw [HE.out, HO2.out]; rfl
      have HA2 : Hid (openA S ((m : Int) + 1) = 0) := by show _ = _; rw [HA.out, HO2.out]; rfl
      have HT2 : Hid (openT S ((m : Int) + 1) x = S) := by show _ = _; rw [HT.out, HO2.out]; rfl
      rw [q3'] at hL
      have hPl := fun V hV => freePlace_at b S V hV
      generalize plOf S = pl at hPl
      clear HE HA HT HO HO2 q1 q2 q3'
      go_enter Tryz.func49, Tryz.ntmps49
      go_wp2_with fail
      rw [← Hid.out HW]
      refine hF.mono ?_
      rintro e w1 ⟨rfl, hw⟩
      rw [hw]
      clear hw w1 hF HW
      go_wp2_with fail
      refine hL.mono ?_
      rintro e w1 ⟨rfl, hb1⟩
      have hH1 := HH.out.below hb1
      have hP1 := hPl w1 hH1
      have HH1 : Hid (FdAt w1 b S) := hH1
      have HB1 : Hid (Below w.heap.size w w1) := HBW.out.trans (hb1.mono HBW.out.size)
      clear hL hb1 hH1 hPl HBW HXW HH
      go_wp2_with fail
      refine hP1.mono ?_
      rintro e w2 ⟨rfl, hb2⟩
      have HH2 : Hid (FdAt w2 b S) := HH1.out.below hb2
      have HB2 : Hid (Below w.heap.size w w2) := HB1.out.trans (hb2.mono HB1.out.size)
      clear hP1 hb2 HB1 HH1
      go_wp2
      go_ret2
      exact ⟨by rw [HA2.out, HE2.out]; rfl, by rw [HT2.out]; exact HH2.out, Upd.of_below HB2.out⟩
end Fd
end Go.Proofs.YtikjfdihocgfpaaGreatDoor
namespace Go.Proofs.YtikjfdihocgfpaaGreatDoor
open Go.RowKit
namespace Ow
end Ow
namespace Fd
open Ow
/-- How many of the first n name one. -/
def cnt (t : Nat → Nat) (r n : Nat) : Nat := ((List.range n).filter (fun k => t k == r)).length
theorem cnt_succ (t : Nat → Nat) (r n : Nat) : cnt t r (n + 1) = cnt t r n + if t n = r then 1 else 0 := by
  unfold cnt
  rw [List.range_succ, List.filter_append, List.length_append]
  by_cases h : t n = r
  · simp [h]
  · simp [h]
theorem cnt_set (t : Nat → Nat) (k q r : Nat) : ∀ n, cnt (fun i => if i = k then q else t i) r n + (if k < n ∧ t k = r then 1 else 0) = cnt t r n + (if k < n ∧ q = r then 1 else 0)
  | 0 => by simp [cnt]
  | n + 1 => by
    have ih := cnt_set t k q r n
    rw [cnt_succ, cnt_succ]
    by_cases hk : n = k
    · subst hk
      rw [if_neg (by omega), if_neg (by omega)] at ih
      simp only [if_true, Nat.lt_succ_self, true_and]
      omega
    · rw [if_neg hk]
      have e : (k < n + 1) = (k < n) := by
        apply propext
        omega
      simp only [e]
      omega
theorem ks_set (S : FS) (k q r : Nat) (hk : k < 48) : (ks (S.setT k q).t r).length + (if S.t k = r then 1 else 0) = (ks S.t r).length + (if q = r then 1 else 0) := by
  have := cnt_set S.t k q r 48
  simp only [hk, true_and] at this
  exact this
/-- One descriptor names another, and the counts say so. -/
theorem Inv.set {S S' : FS} (h : Inv S) {k q : Nat} (hk : k < 48) (hq : q ≤ 32) (ht : S'.t = (S.setT k q).t) (hf : ∀ p, p < 32 → (S'.f p).refs + (if S.t k = p + 1 then 1 else 0) = (S.f p).refs + (if q = p + 1 then 1 else 0)) : Inv S' := by
  refine ⟨fun i hi => ?_, fun p hp => ?_⟩
  · rw [ht]
    by_cases e : i = k
    · rw [e, FS.setT_same]; exact hq
    · rw [FS.setT_other _ _ _ _ e]; exact h.name i hi
  · have h1 := hf p hp
    have h2 := h.refs p hp
    have h3 := ks_set S k q (p + 1) hk
    rw [ht]
    have h4 : ((ks (S.setT k q).t (p + 1)).length : Int) + (if S.t k = p + 1 then 1 else 0) = (ks S.t (p + 1)).length + (if q = p + 1 then 1 else 0) := by
      have := congrArg (Int.ofNat) h3
      split <;> split <;> simp_all <;> omega
    omega
theorem nat_beq {a b : Nat} (h : (a == b) = true) : a = b := by simpa using h
theorem Inv.openT {S : FS} (h : Inv S) (n : Int) (x : Fl) : Inv (openT S n x) := by
  unfold Go.Proofs.YtikjfdihocgfpaaGreatDoor.Fd.openT
  cases ho : openOk S n with
  | false => exact h
  | true =>
    unfold openOk at ho
    simp only [Bool.and_eq_true, decide_eq_true_eq] at ho
    obtain ⟨⟨hp, hd⟩, hl⟩ := ho
    obtain ⟨m, rfl, hm⟩ := isP_nat hp
    rw [show ((m : Int) + 1 - 1).toNat = m by omega] at *
    rcases low_spec (fun i => S.t (m * 6 + i) == 0) 6 with ⟨d, hd6, q1, q2, q3⟩ | ⟨q1, q2⟩
    · rcases low_spec (fun p => (S.f p).refs == 0) 32 with ⟨p, hp32, r1, r2, r3⟩ | ⟨r1, r2⟩
      · have q3' : fdOf S m = (d : Int) := q3
        have r3' : plOf S = (p : Int) := r3
        rw [q3', r3', key_of]
        have e1 : S.t (m * 6 + d) = 0 := nat_beq q1
        have e2 : (S.f p).refs = 0 := by simpa using r1
        simp only [if_true, Int.toNat_natCast]
        refine h.set (k := m * 6 + d) (q := p + 1) (by omega) (by omega) rfl (fun i hi => ?_)
        rw [e1, if_neg (by omega)]
        show ((S.setF p (x.re 1)).f i).refs + 0 = _
        by_cases e : i = p
        · subst e
          rw [FS.setF_same, e2, if_pos rfl]
          rfl
        · rw [FS.setF_other _ _ _ _ e, if_neg (by omega)]
      · have r3' : plOf S = -1 := r2
        omega
    · have q3' : fdOf S m = -1 := q2
      omega
end Fd
end Go.Proofs.YtikjfdihocgfpaaGreatDoor
namespace Go.Proofs.YtikjfdihocgfpaaGreatDoor
open Go.Shelf
def lays189_ren : Go.Shelf.Ren := ⟨fun | 189 => 191 | 125 => 244 | 257 => 243 | 128 => 296 | 129 => 297 | 294 => 287 | 295 => 288 | 296 => 289 | 297 => 290 | 298 => 291 | 299 => 292 | 216 => 293 | 300 => 294 | 301 => 295 | 328 => 330 | 329 => 331 | 330 => 332 | 331 => 333 | 332 => 334 | 215 => 335 | 343 => 351 | n => n, fun | 28 => 63 | 3 => 3 | 46 => 166 | 0 => 0 | 51 => 415 | 53 => 46 | 4 => 4 | 183 => 409 | 182 => 408 | 131 => 137 | 5 => 5 | 9 => 9 | 218 => 444 | 222 => 448 | 228 => 469 | 229 => 203 | n => n, fun | n => n⟩
theorem lays189 : Go.Proofs.Lays.n189 Tryz.prog lays189_ren := {
  mixed := by kernel_rfl
  f125 := Tryz.func244.trans (congrArg some (by kernel_rfl))
  f128 := Tryz.func296.trans (congrArg some (by kernel_rfl))
  f129 := Tryz.func297.trans (congrArg some (by kernel_rfl))
  f189 := Tryz.func191.trans (congrArg some (by kernel_rfl))
  f215 := Tryz.func335.trans (congrArg some (by kernel_rfl))
  f216 := Tryz.func293.trans (congrArg some (by kernel_rfl))
  f257 := Tryz.func243.trans (congrArg some (by kernel_rfl))
  f294 := Tryz.func287.trans (congrArg some (by kernel_rfl))
  f295 := Tryz.func288.trans (congrArg some (by kernel_rfl))
  f296 := Tryz.func289.trans (congrArg some (by kernel_rfl))
  f297 := Tryz.func290.trans (congrArg some (by kernel_rfl))
  f298 := Tryz.func291.trans (congrArg some (by kernel_rfl))
  f299 := Tryz.func292.trans (congrArg some (by kernel_rfl))
  f300 := Tryz.func294.trans (congrArg some (by kernel_rfl))
  f301 := Tryz.func295.trans (congrArg some (by kernel_rfl))
  f328 := Tryz.func330.trans (congrArg some (by kernel_rfl))
  f329 := Tryz.func331.trans (congrArg some (by kernel_rfl))
  f330 := Tryz.func332.trans (congrArg some (by kernel_rfl))
  f331 := Tryz.func333.trans (congrArg some (by kernel_rfl))
  f332 := Tryz.func334.trans (congrArg some (by kernel_rfl))
  f343 := Tryz.func351.trans (congrArg some (by kernel_rfl))
  t0 := Tryz.underlying0
  a0 := Tryz.isAgg0
  z0 := Tryz.sizeOf0
  v0 := Tryz.zeroValue0
  t3 := Tryz.underlying3
  a3 := Tryz.isAgg3
  z3 := Tryz.sizeOf3
  v3 := Tryz.zeroValue3
  t4 := Tryz.underlying4
  a4 := Tryz.isAgg4
  z4 := Tryz.sizeOf4
  v4 := Tryz.zeroValue4
  t5 := Tryz.underlying5
  a5 := Tryz.isAgg5
  z5 := Tryz.sizeOf5
  v5 := Tryz.zeroValue5
  t9 := Tryz.underlying9
  a9 := Tryz.isAgg9
  z9 := Tryz.sizeOf9
  v9 := Tryz.zeroValue9
  t28 := Tryz.underlying63
  a28 := Tryz.isAgg63
  z28 := Tryz.sizeOf63
  v28 := Tryz.zeroValue63
  t46 := Tryz.underlying166
  a46 := Tryz.isAgg166
  z46 := Tryz.sizeOf166
  v46 := Tryz.zeroValue166
  t51 := Tryz.underlying415
  a51 := Tryz.isAgg415
  z51 := Tryz.sizeOf415
  v51 := Tryz.zeroValue415
  t53 := Tryz.underlying46
  a53 := Tryz.isAgg46
  z53 := Tryz.sizeOf46
  v53 := Tryz.zeroValue46
  t131 := Tryz.underlying137
  a131 := Tryz.isAgg137
  z131 := Tryz.sizeOf137
  v131 := Tryz.zeroValue137
  t182 := Tryz.underlying408
  a182 := Tryz.isAgg408
  z182 := Tryz.sizeOf408
  v182 := Tryz.zeroValue408
  t183 := Tryz.underlying409
  a183 := Tryz.isAgg409
  z183 := Tryz.sizeOf409
  v183 := Tryz.zeroValue409
  t218 := Tryz.underlying444
  a218 := Tryz.isAgg444
  z218 := Tryz.sizeOf444
  v218 := Tryz.zeroValue444
  t222 := Tryz.underlying448
  a222 := Tryz.isAgg448
  z222 := Tryz.sizeOf448
  v222 := Tryz.zeroValue448
  t228 := Tryz.underlying469
  a228 := Tryz.isAgg469
  z228 := Tryz.sizeOf469
  v228 := Tryz.zeroValue469
  t229 := Tryz.underlying203
  a229 := Tryz.isAgg203
  z229 := Tryz.sizeOf203
  v229 := Tryz.zeroValue203 }
def laysNm220_ren : Go.Shelf.Ren := ⟨fun | 20 => 281 | n => n, fun | 22 => 63 | 3 => 3 | 4 => 4 | 0 => 0 | n => n, fun | n => n⟩
theorem laysNm220 : Go.Proofs.Lays2.n20 Tryz.prog laysNm220_ren := {
  mixed := by kernel_rfl
  f20 := Tryz.func281.trans (congrArg some (by kernel_rfl))
  t0 := Tryz.underlying0
  a0 := Tryz.isAgg0
  z0 := Tryz.sizeOf0
  v0 := Tryz.zeroValue0
  t3 := Tryz.underlying3
  a3 := Tryz.isAgg3
  z3 := Tryz.sizeOf3
  v3 := Tryz.zeroValue3
  t4 := Tryz.underlying4
  a4 := Tryz.isAgg4
  z4 := Tryz.sizeOf4
  v4 := Tryz.zeroValue4
  t22 := Tryz.underlying63
  a22 := Tryz.isAgg63
  z22 := Tryz.sizeOf63
  v22 := Tryz.zeroValue63
  i3 := by kernel_rfl }
open Go.Sort Go.RowKit in
theorem slices_Sort_int (blk off cap : Nat) (zs : List Int) (w : World) (hH : Holds (Value.int .i64) w blk off zs.toArray) (hblk : blk < w.heap.size) (hsz : zs.length < 4611686018427387904) :
    Calls Tryz.prog 191 #[.slice (some ⟨blk, off, none⟩) zs.length cap] w fun e w' =>
      e = .returned (.tuple #[]) ∧ ∃ n os, w' = grow (putRow (Value.int .i64) (Sort.ahead w n) blk off (zs.mergeSort fun x y => decide (x ≤ y)).toArray) os := Any.slices_Sort_int lays189 blk off cap zs w hH hblk hsz
open Go.RowKit Go.Lib Go.Sort in
open Go.RowKit Go.Lib Go.Sort in
theorem slices_Compact_int (blk off cap : Nat) (zs : List Int) (w : World) (hH : Holds (Value.int .i64) w blk off zs.toArray) (hsz : zs.length ≤ 9223372036854775807) (hcap : zs.length ≤ cap) :
    Calls Tryz.prog 281 #[.slice (some ⟨blk, off, none⟩) zs.length cap] w fun e w' => e = .returned (.slice (some ⟨blk, off, none⟩) (Lib.compact zs).length cap) ∧ ∃ q, w' = putRow (Value.int .i64) (Sort.ahead w q) blk off (Lib.compact zs ++ List.replicate (zs.length - (Lib.compact zs).length) 0).toArray := Any.slices_Compact_int laysNm220 blk off cap zs w hH hsz hcap
open Go.RowKit Go.Lib Go.Sort in
theorem slices_Compact_int_empty (a : Option Addr) (cap : Nat) (w : World) :
    Calls Tryz.prog 281 #[.slice a 0 cap] w fun e w' => e = .returned (.slice a 0 cap) ∧ w' = w := Any.slices_Compact_int_empty laysNm220 a cap w
open Go.RowKit Go.Sort in
theorem slices_Sort_int_none (p : Option Addr) (cap : Nat) (w : World) :
    Calls Tryz.prog 191 #[.slice p 0 cap] w fun e w' => e = .returned (.tuple #[]) ∧ w' = w := Any.slices_Sort_int_none lays189 p cap w
end Go.Proofs.YtikjfdihocgfpaaGreatDoor
namespace Go.Proofs.YtikjfdihocgfpaaGreatDoor
open Go.RowKit
namespace Ow
end Ow
namespace Fd
open Ow
/-- The ids, rising, each once. -/
def idsA (S : FS) (kind : Int) : List Int := Lib.compact ((idsTo S kind 32).mergeSort fun x y => decide (x ≤ y))
theorem holds_own {w : World} {base g n cap : Nat} {e : TypeId} {D : List Int} (h : w.ownsRow base e 1 (.slice (some ⟨g, 0, none⟩) n cap) D.length (ivs D)) : Go.Sort.Holds (Value.int .i64) w g 0 D.toArray := by
  rcases h.2 with ⟨e2, _⟩ | ⟨g', cap', cur, e2, _, hh, q1, _, _, ht⟩
  · cases e2
  · simp only [Value.slice.injEq, Option.some.injEq, Addr.mk.injEq] at e2
    obtain ⟨⟨rfl, _⟩, rfl, rfl⟩ := e2
    intro j hj
    have hj' : j < D.length := by simpa using hj
    refine ⟨?_, frozen_of_heap hh⟩
    have hq : (ivs D)[j]? = some (.int .i64 D[j]) := by simp [ivs, hj']
    rw [← ht, Nat.mul_one, List.getElem?_take_of_lt hj'] at hq
    rw [Nat.zero_add, cell_of_heap hh]
    have e3 : D.toArray[j]! = D[j] := by simp [hj']
    rw [e3]
    simpa using hq
theorem irow_holds {w : World} {g : Nat} {D E : List Int} (h : Go.Sort.Holds (Value.int .i64) w g 0 (D ++ E).toArray) : IRow w (some ⟨g, 0, none⟩) D := by
  intro j x hx
  obtain ⟨hj, he⟩ := List.getElem?_eq_some_iff.1 hx
  refine ⟨g, 0, rfl, ?_⟩
  have := (h j (by simp; omega)).1
  rw [this]
  have e3 : (D ++ E).toArray[j]! = x := by
    rw [← he]
    simp only [List.getElem!_toArray]
    rw [List.getElem!_eq_getElem?_getD, List.getElem?_append_left hj, List.getElem?_eq_getElem hj]
    rfl
  rw [e3]
theorem below_putRow {B g off n : Nat} {w0 w : World} (h : Below B w0 w) (hg : B ≤ g) (D : Array Int) : Below B w0 (Go.Sort.putRow (Value.int .i64) (Go.Sort.ahead w n) g off D) := by
  refine h.trans ⟨rfl, rfl, rfl, by simp, fun k hk => ?_⟩
  show (w.heap.modify g _)[k]? = w.heap[k]?
  rw [Array.getElem?_modify, if_neg (by omega)]
theorem below_growR {B : Nat} {w0 w : World} (h : Below B w0 w) (hB : B ≤ w.heap.size) (os : Array Obj) : Below B w0 (Go.Sort.grow w os) :=
  ⟨h.os, h.tape, h.output, by rw [Go.Sort.size_grow]; have := h.size; omega, fun k hk => by
    rw [Go.Sort.heap_grow_old w os (by omega)]
    exact h.block k hk⟩
theorem compact_len (l : List Int) : (Lib.compact l).length ≤ l.length := by
  unfold Lib.compact Lib.compactUpTo
  rw [List.length_map]
  exact Nat.le_trans (List.length_filter_le _ _) (by simp)
set_option maxHeartbeats 4000000 in
theorem ids_at (b : Nat) (S : FS) (kind : Int) (w : World) (h : FdAt w b S) :
    Calls Tryz.prog 233 #[.pointer (some ⟨b, 0, none⟩), .int .i64 kind] w fun e w' => ∃ a cap, e = .returned (.slice a (idsA S kind).length cap) ∧ IRow w' a (idsA S kind) ∧ Below w.heap.size w w' := by
  obtain ⟨i0, hi0, hzz⟩ := Option.map_eq_some_iff.1 intInfo
  simp only [Prod.mk.injEq] at hzz
  obtain ⟨hz0, hz1, hz2⟩ := hzz
  have HL : Hid _ := h.range
  have hne := ptr_eq b
  clear h
  go_enter Tryz.func233, Tryz.ntmps233
  go_wp2_with (first | (refine wpList_load_mid rfl 125 _ rfl b 0 rfl (fvals S) _ HL.out Tryz.underlying125 rfl (by kernel_rfl) ?_) | go_in)
  clear HL
  go_loopw [5, 14] (fun s i wr => ∃ (k : Nat) (v : Value), k ≤ 32 ∧ i = .int .i64 k ∧ v = s ∧ wr.ownsRow w.heap.size 3 1 v (idsTo S kind k).length (ivs (idsTo S kind k)) ∧ Below w.heap.size w wr) (fun _ i _ => 32 - (intOf i).toNat)
  case atStart => exact ⟨0, _, by omega, rfl, rfl, World.ownsRow_nil _ _ _ _, Below.refl _ _⟩
  case round =>
    obtain ⟨k, v, hk, rfl, rfl, hown, hB⟩ := hrel
    have HB : Hid (Below w.heap.size w wr) := hB
    have hsz := hB.size
    have HO : Hid (wr.ownsRow w.heap.size 3 1 v (idsTo S kind k).length (ivs (idsTo S kind k))) := hown
    have hle := idsTo_len S kind k
    by_cases hlt : k < 32
    · have hix := files_index S k hlt
      have i1 : decide ((k : Int) < 32) = true := decide_eq_true (by omega)
      by_cases h0 : 0 < (S.f k).refs
      · have g0 : decide (0 < (S.f k).refs) = true := decide_eq_true h0
        by_cases h1 : (S.f k).kind = kind
        · have g1 : ((S.f k).kind == kind) = true := by simp [h1]
          have HF : Hid (idsTo S kind (k + 1) = idsTo S kind k ++ [(S.f k).id]) := by show _ = _; rw [idsTo_succ, if_pos ⟨h0, h1⟩]
          generalize S.f k = x at *
          obtain ⟨xk, xi, xo, xa, xr⟩ := x
          unfold Fl.row at hix
          dsimp only at *
          clear hown hB h0 h1
          generalize idsTo S kind k = D at *
          go_wp2_with (first
            | (at_builtin; refine wpList_append_lies _ rfl _ _ _ rfl w.heap.size 3 i0 _ 1 8 Tryz.underlying63 hi0 hz0 hz1 hz2 rfl (by omega) v D.length (ivs D) rfl (World.ownsRow.alloc (World.ownsRow.alloc HO.out _) _) ⟨wr.heap.size + 1, 0, none⟩ 1 1 [.int .i64 xi] rfl rfl (World.news_of_block (cs := #[.int .i64 xi]) (t := 3) (fr := (0, 0)) (by have := heap_alloc_new (wr.alloc (.cells #[.int .i64 xk, .int .i64 xi, .int .i64 xo, .bool xa, .int .i64 xr] 124)) (.cells #[.int .i64 xi] 3); simpa using this)) (by simp [Value.oneCell']) (by omega) (by unfold maxLen; omega) (by omega) (by simp; omega) _ rfl ?_; intro gg capx w2 hown2 hgrow hat hlt2)
            | go_in)
          go_roundw
          case rel =>
            refine ⟨k + 1, _, by omega, by go_num, rfl, ?_, ((HB.out.alloc hsz _).alloc (by simp; omega) _).trans (below_grown hgrow (by simp; omega) (ownsRow_low HO.out))⟩
            rw [HF.out, ivs_app, List.length_append]
            exact hown2
          case measure => simp [intOf]; omega
        · have g1 : ((S.f k).kind == kind) = false := by simp [h1]
          have HF : Hid (idsTo S kind (k + 1) = idsTo S kind k) := by show _ = _; rw [idsTo_succ, if_neg (fun q => h1 q.2)]
          generalize S.f k = x at *
          obtain ⟨xk, xi, xo, xa, xr⟩ := x
          unfold Fl.row at hix
          dsimp only at *
          clear hown hB h0 h1
          go_wp2
          go_roundw
          case rel => exact ⟨k + 1, _, by omega, by go_num, rfl, by rw [HF.out]; exact World.ownsRow.alloc HO.out _, HB.out.alloc hsz _⟩
          case measure => simp [intOf]; omega
      · have g0 : decide (0 < (S.f k).refs) = false := decide_eq_false h0
        have HF : Hid (idsTo S kind (k + 1) = idsTo S kind k) := by show _ = _; rw [idsTo_succ, if_neg (fun q => h0 q.1)]
        generalize S.f k = x at *
        obtain ⟨xk, xi, xo, xa, xr⟩ := x
        unfold Fl.row at hix
        dsimp only at *
        clear hown hB h0
        go_wp2
        go_roundw
        case rel => exact ⟨k + 1, _, by omega, by go_num, rfl, by rw [HF.out]; exact World.ownsRow.alloc HO.out _, HB.out.alloc hsz _⟩
        case measure => simp [intOf]; omega
    · obtain rfl : k = 32 := by omega
      have HA : Hid (idsA S kind = Lib.compact ((idsTo S kind 32).mergeSort fun x y => decide (x ≤ y))) := rfl
      generalize idsTo S kind 32 = D at *
      by_cases hn : D.length = 0
      · have hD : D = [] := List.eq_nil_of_length_eq_zero hn
        subst hD
        have HA2 : Hid (idsA S kind = []) := by show idsA S kind = []; rw [HA.out]; simp [Lib.compact, Lib.compactUpTo]
        obtain ⟨a, cap, rfl⟩ := own_slice hown
        have hS := slices_Sort_int_none a cap wr
        have hC := slices_Compact_int_empty a cap wr
        clear hown hB
        go_wp2_with fail
        refine hS.mono ?_
        rintro e w1 ⟨rfl, hw⟩
        rw [hw]
        clear hw w1 hS
        go_wp2_with fail
        refine hC.mono ?_
        rintro e w1 ⟨rfl, hw⟩
        rw [hw]
        clear hw w1 hC
        go_wp2
        go_ret
        refine ⟨a, cap, ?_, ?_, HB.out⟩
        · rw [HA2.out]; rfl
        · rw [HA2.out]
          intro j x hx
          simp at hx
      · obtain ⟨g, cap, rfl, hgl, hgu⟩ := hown.form (by omega)
        have hH := holds_own hown
        have hlow := ownsRow_low hown g rfl
        have hcap := own_cap hown
        have hS := slices_Sort_int g 0 cap D wr hH hgu (by omega)
        have HLn : Hid ((D.mergeSort fun x y => decide (x ≤ y)).length = D.length) := List.length_mergeSort _
        have hC := fun W (hW : Go.Sort.Holds (Value.int .i64) W g 0 (D.mergeSort fun x y => decide (x ≤ y)).toArray) => slices_Compact_int g 0 cap (D.mergeSort fun x y => decide (x ≤ y)) W hW (by rw [HLn.out]; omega) (by rw [HLn.out]; exact hcap)
        have HHo : Hid (Go.Sort.Holds (Value.int .i64) wr g 0 D.toArray) := hH
        generalize (D.mergeSort fun x y => decide (x ≤ y)) = M at *
        generalize hDl : D.length = dl at *
        have HDl : Hid (dl = D.length) := hDl.symm
        clear hown hB hH HO hDl
        go_wp2_with fail
        refine hS.mono ?_
        rintro e w1 ⟨rfl, nn, os, hw⟩
        have hB1 : Below w.heap.size w w1 := by
          rw [hw]
          exact below_growR (below_putRow HB.out hlow _) (by simp; omega) _
        have hH1 : Go.Sort.Holds (Value.int .i64) w1 g 0 M.toArray := by
          rw [hw]
          refine Go.Sort.holds_grow _ _ _ _ _ _ (by simp; omega) ?_
          exact Go.Sort.holds_putRow _ _ _ _ D.toArray _ (Go.Sort.holds_ahead _ _ _ _ _ _ HHo.out) (by simp [HLn.out, ← HDl.out])
        have hC1 := hC w1 hH1
        have HB1 : Hid (Below w.heap.size w w1) := hB1
        have HH1 : Hid (Go.Sort.Holds (Value.int .i64) w1 g 0 M.toArray) := hH1
        have hml : M.length = dl := HLn.out
        rw [hml] at hC1
        clear hS hw hC hB1 hH1 hml
        go_wp2_with fail
        refine hC1.mono ?_
        rintro e w2 ⟨rfl, q, hw⟩
        have hB2 : Below w.heap.size w w2 := by
          rw [hw]
          exact below_putRow HB1.out hlow _
        have hcl := compact_len M
        have hH2 : Go.Sort.Holds (Value.int .i64) w2 g 0 (Lib.compact M ++ List.replicate (dl - (Lib.compact M).length) 0).toArray := by
          rw [hw]
          refine Go.Sort.holds_putRow _ _ _ _ M.toArray _ (Go.Sort.holds_ahead _ _ _ _ _ _ HH1.out) ?_
          have := HLn.out
          simp
          omega
        have HI : Hid (IRow w2 (some ⟨g, 0, none⟩) (Lib.compact M)) := irow_holds hH2
        have HB2 : Hid (Below w.heap.size w w2) := hB2
        clear hC1 hw hB2 hH2 HB1 HH1
        generalize hcm : Lib.compact M = Cm at *
        generalize hcl2 : Cm.length = cl at *
        have HCl : Hid (Cm.length = cl) := hcl2
        clear hcm hcl2
        go_wp2
        go_ret
        refine ⟨some ⟨g, 0, none⟩, cap, ?_, ?_, HB2.out⟩
        · rw [HA.out, HCl.out]; rfl
        · rw [HA.out]; exact HI.out
end Fd
end Go.Proofs.YtikjfdihocgfpaaGreatDoor
