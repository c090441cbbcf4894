/- Proved: januslaw18.FdsRefs answers true for every list of deeds (a file's count is how many descriptors name it), at the commit of this claim; no condition beyond the row's own. -/
import Derived.Test.YtkdbmfckfbmbiaaDeed18
import Derived.Test.YtkdbmfckfbmbiaaRefM18
import Derived.ProofKit
import Derived.OpenShut
import Derived.ChangeOld
import Derived.Below
import Derived.Deep.Slices
namespace Go.Proofs.Ytkdbmfckfbmbiaa
open Go.ChangeShapes Go.WideShapes Go.ChangeAt Go.RowKit
set_option linter.unusedVariables false

theorem idZero : Try.zeroCells64 = irow (idL FS.zero 0) := by kernel_rfl
theorem idL_zero (S : FS) : idL S 0 = idL FS.zero 0 := rfl
/-- Where the count has come to. -/
def kr (r k : Nat) : Nat := if r = 0 then k else 48
/-- What the counting keeps. -/
structure CoW (w wr : World) (b C : Nat) (S : FS) (K : Nat) : Prop where
  cnt : wr.heap[C]? = some (.cells (irow (idL S K)) 64)
  fd : FdAt wr b S
  bel : Below w.heap.size w wr
theorem CoW.below {w wr w' : World} {b C : Nat} {S : FS} {K : Nat} (h : CoW w wr b C S K) (hb : Below wr.heap.size wr w') : CoW w w' b C S K :=
  ⟨(hb.block _ (lt_of_heap h.cnt)).trans h.cnt, h.fd.below hb, h.bel.trans (hb.mono h.bel.size)⟩
theorem CoW.drewN {w wr : World} {b C : Nat} {S : FS} {K : Nat} (h : CoW w wr b C S K) (n : Nat) : CoW w (wr.drewN n) b C S K := h.below (below_drewN (Below.refl _ _) n)

set_option maxRecDepth 100000 in
set_option maxHeartbeats 8000000 in
theorem refs_walk (a0' : Option Addr) (len cap : Nat) (w : World) (hlen : len ≤ 9223372036854775807) (hdeeds : Hid (DeedsAt w a0' len)) :
    Calls Try.prog 5 #[.slice a0' len cap] w fun e w' => e = .returned (.bool true) ∧ Below w.heap.size w w' := by
  go_enter Try.func5, Try.ntmps5
  go_wp2_with fail
  refine (new_at w).mono ?_
  rintro e w1 ⟨rfl, hF, hB, hsz⟩
  obtain ⟨b, hbq⟩ : ∃ b, b = w.heap.size := ⟨_, rfl⟩
  rw [← hbq] at hF ⊢
  have hbb : w.heap.size ≤ b := by omega
  have HF1 : Hid (FdAt w1 b FS.zero) := hF
  have HB1 : Hid (Below w.heap.size w w1) := hB
  have hne := ptr_eq b
  clear hF hB hsz hbq
  go_wp2
  go_loopw [4, 5] (fun s i wr => ∃ (k m : Nat) (S : FS), k ≤ len ∧ k ≤ 100 ∧ m ≤ k ∧ i = .int .i64 k ∧ s = .int .i64 m ∧ Inv S ∧ IdsOk S m ∧ FdAt wr b S ∧ Below w.heap.size w wr) (fun _ i _ => 100 - (intOf i).toNat)
  case atStart => exact ⟨0, 0, FS.zero, by omega, by omega, by omega, rfl, rfl, Inv.zero, IdsOk.zero, HF1.out, HB1.out⟩
  case round =>
    clear HF1 HB1
    obtain ⟨k, m, S, hk, hk2, hmk, rfl, rfl, hI, hO, hF, hB⟩ := hrel
    have HI : Hid (Inv S) := hI
    have HO : Hid (IdsOk S m) := hO
    have HF : Hid (FdAt wr b S) := hF
    have HB : Hid (Below w.heap.size w wr) := hB
    by_cases hlt : k < len ∧ k < 100
    · obtain ⟨l1, l2⟩ := hlt
      obtain ⟨gb, off, d, rfl, hd⟩ := (hdeeds.out.below hB) k l1
      obtain ⟨e0, e1, e2, e3, e4, e5, e6, e7, e8⟩ := hd.cells
      obtain ⟨kd, pid, fd, nn, ⟨xk, xi, xo, xa, xr⟩⟩ := d
      dsimp only at *
      have g0 : decide ((k : Int) < (len : Int)) = true := decide_eq_true (by omega)
      have g1 : decide ((k : Int) < 100) = true := decide_eq_true (by omega)
      have ik : (k : Int) < (len : Int) := by omega
      obtain ⟨W, hW⟩ : ∃ W, W = wr.alloc (.cells #[.int .i64 kd, .int .i64 pid, .int .i64 fd, .int .i64 nn, .int .i64 xk, .int .i64 xi, .int .i64 xo, .bool xa, .int .i64 xr] 32) := ⟨_, rfl⟩
      have hbW : Below wr.heap.size wr W := by rw [hW]; exact below_alloc _ _
      obtain ⟨D, hDn⟩ : ∃ D, D = wr.heap.size := ⟨_, rfl⟩
      have hX : Box W D ⟨kd, pid, fd, nn, ⟨xk, xi, xo, xa, xr⟩⟩ := by rw [hW, hDn]; exact heap_alloc_new _ _
      obtain ⟨c0, c1, c2, c3, -⟩ := Box.cells hX
      dsimp only at c0 c1 c2 c3
      have HFW : Hid (FdAt W b S) := hF.below hbW
      have HBW : Hid (Below w.heap.size w W) := hB.trans (hbW.mono hB.size)
      have HW : Hid _ := hW
      have HDn : Hid _ := hDn
      clear hW hbW hX hDn hd hI hO hF hB HF HB
      have kinds : (kd == 0) = true ∨ ((kd == 0) = false ∧ (kd == 1) = true) ∨ ((kd == 0) = false ∧ (kd == 1) = false ∧ (kd == 2) = true) ∨ ((kd == 0) = false ∧ (kd == 1) = false ∧ (kd == 2) = false ∧ (kd == 5) = true) ∨ ((kd == 0) = false ∧ (kd == 1) = false ∧ (kd == 2) = false ∧ (kd == 5) = false ∧ (kd == 6) = true) ∨ ((kd == 0) = false ∧ (kd == 1) = false ∧ (kd == 2) = false ∧ (kd == 5) = false ∧ (kd == 6) = false) := by
        simp only [beq_iff_eq, beq_eq_false_iff_ne]
        omega
      rcases kinds with k0 | ⟨k0, k1⟩ | ⟨k0, k1, k2⟩ | ⟨k0, k1, k2, k3⟩ | ⟨k0, k1, k2, k3, k4⟩ | ⟨k0, k1, k2, k3, k4⟩
      · have hop := open_at b S pid ⟨2, (m : Int) + 1, 0, false, 0⟩ W HFW.out
        go_wp2_with fail
        rw [← Hid.out HW, ← Hid.out HDn]
        clear HW HDn
        refine hop.mono ?_
        rintro e w2 ⟨rfl, hF2, hU2⟩
        have HF2 : Hid (FdAt w2 b (openT S pid ⟨2, (m : Int) + 1, 0, false, 0⟩)) := hF2
        have HB2 : Hid (Below w.heap.size w w2) := upd_below HBW.out hU2 hbb
        clear hop hF2 hU2 e0 e1 e2 e3 e4 e5 e6 e7 e8 c0 c1 c2 c3
        go_wp2
        go_roundw
        case rel => exact ⟨k + 1, m + 1, openT S pid ⟨2, (m : Int) + 1, 0, false, 0⟩, by omega, by omega, by omega, by go_num, by go_num, HI.out.openT pid _, by rw [Int.natCast_add, Int.natCast_one]; exact HO.out.openT (by omega) pid, HF2.out, HB2.out⟩
        case measure => simp [intOf]; omega
      · have hop := dup_at b S pid fd W HFW.out HI.out
        go_wp2_with fail
        rw [← Hid.out HW, ← Hid.out HDn]
        clear HW HDn
        refine hop.mono ?_
        rintro e w2 ⟨rfl, hF2, hU2⟩
        have HF2 : Hid (FdAt w2 b (dupT S pid fd)) := hF2
        have HB2 : Hid (Below w.heap.size w w2) := upd_below HBW.out hU2 hbb
        clear hop hF2 hU2 e0 e1 e2 e3 e4 e5 e6 e7 e8 c0 c1 c2 c3
        go_wp2
        go_roundw
        case rel => exact ⟨k + 1, m, dupT S pid fd, by omega, by omega, by omega, by go_num, rfl, HI.out.dupT pid fd, HO.out.dupT HI.out pid fd, HF2.out, HB2.out⟩
        case measure => simp [intOf]; omega
      · have hop := close_at b S pid fd W HFW.out HI.out
        go_wp2_with fail
        rw [← Hid.out HW, ← Hid.out HDn]
        clear HW HDn
        refine hop.mono ?_
        rintro e w2 ⟨rfl, hF2, hU2⟩
        have HF2 : Hid (FdAt w2 b (closeT S pid fd)) := hF2
        have HB2 : Hid (Below w.heap.size w w2) := upd_below HBW.out hU2 hbb
        clear hop hF2 hU2 e0 e1 e2 e3 e4 e5 e6 e7 e8 c0 c1 c2 c3
        go_wp2
        go_roundw
        case rel => exact ⟨k + 1, m, closeT S pid fd, by omega, by omega, by omega, by go_num, rfl, HI.out.closeT pid fd, HO.out.closeT HI.out pid fd, HF2.out, HB2.out⟩
        case measure => simp [intOf]; omega
      · have hop := fork_at b S pid nn W HFW.out HI.out
        go_wp2_with fail
        rw [← Hid.out HW, ← Hid.out HDn]
        clear HW HDn
        refine hop.mono ?_
        rintro e w2 ⟨rfl, hF2, hU2⟩
        have HF2 : Hid (FdAt w2 b (forkT S pid nn)) := hF2
        have HB2 : Hid (Below w.heap.size w w2) := upd_below HBW.out hU2 hbb
        clear hop hF2 hU2 e0 e1 e2 e3 e4 e5 e6 e7 e8 c0 c1 c2 c3
        go_wp2
        go_roundw
        case rel => exact ⟨k + 1, m, forkT S pid nn, by omega, by omega, by omega, by go_num, rfl, HI.out.forkT pid nn, HO.out.forkT HI.out pid nn, HF2.out, HB2.out⟩
        case measure => simp [intOf]; omega
      · have hop := gone_at b S pid W HFW.out HI.out
        go_wp2_with fail
        rw [← Hid.out HW, ← Hid.out HDn]
        clear HW HDn
        refine hop.mono ?_
        rintro e w2 ⟨v2, rfl, -, hF2, hU2⟩
        have HF2 : Hid (FdAt w2 b (goneTo S pid 6)) := hF2
        have HB2 : Hid (Below w.heap.size w w2) := upd_below HBW.out hU2 hbb
        clear hop hF2 hU2 e0 e1 e2 e3 e4 e5 e6 e7 e8 c0 c1 c2 c3
        go_wp2
        go_roundw
        case rel => exact ⟨k + 1, m, goneTo S pid 6, by omega, by omega, by omega, by go_num, rfl, HI.out.goneTo pid 6, HO.out.goneTo HI.out pid 6, HF2.out, HB2.out⟩
        case measure => simp [intOf]; omega
      · go_wp2_with fail
        rw [← Hid.out HW]
        clear HW HDn e0 e1 e2 e3 e4 e5 e6 e7 e8 c0 c1 c2 c3
        go_roundw
        case rel => exact ⟨k + 1, m, S, by omega, by omega, by omega, by go_num, rfl, HI.out, HO.out, HFW.out, HBW.out⟩
        case measure => simp [intOf]; omega
    · have hI' := HI.out
      have h100 : (m : Int) ≤ 100 := by omega
      obtain ⟨W, hW⟩ : ∃ W, W = wr.alloc (.cells Try.zeroCells64 64) := ⟨_, rfl⟩
      have HC0 : Hid (CoW w W b wr.heap.size S 0) := by
        rw [hW, idZero]
        exact ⟨by rw [idL_zero S]; exact heap_alloc_new _ _, hF.below (below_alloc _ _), hB.alloc hB.size _⟩
      have hCb : w.heap.size ≤ wr.heap.size := hB.size
      have hCn : b ≠ wr.heap.size := by have := hF.lt; omega
      obtain ⟨C, hC⟩ : ∃ C, C = wr.heap.size := ⟨_, rfl⟩
      rw [← hC] at HC0 hCb hCn
      have HW : Hid _ := hW
      have HCn : Hid _ := hC
      have hend : k < len ∨ len ≤ k := by omega
      clear hI hO hF hB HF HB hW hC hI' hdeeds
      have hcut : (decide ((k : Int) < (len : Int)) = true ∧ decide ((k : Int) < 100) = false ∧ k < len ∧ 100 ≤ k) ∨ (decide ((k : Int) < (len : Int)) = false ∧ len ≤ k) := by
        rcases hend with h | h
        · exact Or.inl ⟨decide_eq_true (by omega), decide_eq_false (by omega), h, by omega⟩
        · exact Or.inr ⟨decide_eq_false (by omega), h⟩
      clear hend
      have hp0 : (m : Int) ≤ 100 := h100
      rcases hcut with ⟨ga, gb, gc, gd⟩ | ⟨ga, gc⟩
      · go_wp2
        rw [← Hid.out HW, ← Hid.out HCn]
        clear HW HCn
        go_loopw [8] (fun s wr => ∃ (r : Nat), r ≤ 2 ∧ s = .int .i64 r ∧ CoW w wr b C S (kr r 0)) (fun s _ => 2 - (intOf s).toNat)
        case atStart => exact ⟨0, by omega, rfl, HC0.out⟩
        case round =>
          clear HC0
          obtain ⟨r, hr, rfl, hC0⟩ := hrel
          have HC : Hid (CoW w wr b C S (kr r 0)) := hC0
          by_cases hr2 : r < 2
          · have i1 : decide ((r : Int) < 2) = true := decide_eq_true (by omega)
            clear hC0
            go_wp2
            go_loopw [9] (fun s wr => ∃ (q : Nat), q ≤ 8 ∧ s = .int .i64 ((q : Int) + 1) ∧ CoW w wr b C S (kr r (q * 6))) (fun s _ => 9 - (intOf s).toNat)
            case atStart => exact ⟨0, by omega, rfl, HC.out⟩
            case round =>
              clear HC
              obtain ⟨q, hq, rfl, hC0⟩ := hrel
              have HC : Hid (CoW w wr b C S (kr r (q * 6))) := hC0
              by_cases hq8 : q < 8
              · have i2 : decide ((q : Int) + 1 ≤ 8) = true := decide_eq_true (by omega)
                clear hC0
                go_wp2
                go_loopw [10, 11] (fun n s wr => ∃ (j : Nat), j ≤ 6 ∧ s = .int .i64 j ∧ n = .int .i64 (leftTo S q j : Nat) ∧ CoW w wr b C S (kr r (q * 6 + j))) (fun _ s _ => 6 - (intOf s).toNat)
                case atStart => exact ⟨0, by omega, rfl, rfl, HC.out⟩
                case round =>
                  clear HC
                  obtain ⟨j, hj, rfl, rfl, hC0⟩ := hrel
                  have HC : Hid (CoW w wr b C S (kr r (q * 6 + j))) := hC0
                  have hle := leftTo_le S q j
                  by_cases hj6 : j < 6
                  · have i3 : decide ((j : Int) < 6) = true := decide_eq_true (by omega)
                    have hG := get_at b S ((q : Int) + 1) j wr hC0.fd HI.out
                    by_cases ht : S.t (q * 6 + j) = 0
                    · have hnm : nm S ((q : Int) + 1) j = 0 := by rw [nm_of hq8 hj6]; exact ht
                      have hE : getE S ((q : Int) + 1) j = 9 := if_pos hnm
                      have HL : Hid (leftTo S q (j + 1) = leftTo S q j + 1) := by show _ = _; rw [leftTo_succ, if_pos ht]
                      have HK : Hid (idL S (kr r (q * 6 + (j + 1))) = idL S (kr r (q * 6 + j))) := by
                        show _ = _
                        unfold kr
                        split
                        · exact idL_no ht
                        · rfl
                      rw [hE] at hG
                      generalize getX S ((q : Int) + 1) j = x at hG
                      obtain ⟨xk, xi, xo, xa, xr⟩ := x
                      unfold Fl.row at hG
                      dsimp only at hG
                      generalize leftTo S q j = n0 at *
                      clear hC0 ht hnm hE
                      go_wp2_with fail
                      refine hG.mono ?_
                      rintro e w2 ⟨rfl, hb2⟩
                      have HC2 : Hid (CoW w (w2.alloc (.cells #[.int .i64 xk, .int .i64 xi, .int .i64 xo, .bool xa, .int .i64 xr] 30)) b C S (kr r (q * 6 + j))) := (HC.out.below hb2).below (below_alloc _ _)
                      clear hG hb2 HC
                      go_wp2
                      go_roundw
                      case rel =>
                        refine ⟨j + 1, by omega, by go_num, by rw [HL.out]; go_num, ?_⟩
                        exact ⟨by rw [HK.out]; exact HC2.out.cnt, HC2.out.fd, HC2.out.bel⟩
                      case measure => simp [intOf]; omega
                    · have hnm : nm S ((q : Int) + 1) j = S.t (q * 6 + j) := nm_of hq8 hj6
                      have hE : getE S ((q : Int) + 1) j = 0 := by unfold getE; rw [hnm, if_neg ht]
                      have hX : getX S ((q : Int) + 1) j = S.f (S.t (q * 6 + j) - 1) := by unfold getX; rw [hnm, if_neg ht]
                      have hpos := HI.out.pos (k := q * 6 + j) (by omega) ht
                      have hlo := HO.out.lo _ hpos.1 (by omega)
                      obtain ⟨i, hi⟩ : ∃ i : Nat, (S.f (S.t (q * 6 + j) - 1)).id = i := ⟨(S.f (S.t (q * 6 + j) - 1)).id.toNat, by omega⟩
                      have hi1 : 1 ≤ i ∧ i ≤ 100 := by omega
                      have hrf := idc_refs HI.out HO.out hpos.1 (by omega) hi
                      have HL : Hid (leftTo S q (j + 1) = leftTo S q j) := by show _ = _; rw [leftTo_succ, if_neg ht]
                      have HS : Hid ((idL S (q * 6 + j)).set i ((idc S i (q * 6 + j) : Int) + 1) = idL S (q * 6 + (j + 1))) := idL_yes ht hi
                      have hdc := idc_le S i (q * 6 + j)
                      have hdc2 := idc_le S i 48
                      rw [hE, hX] at hG
                      generalize S.f (S.t (q * 6 + j) - 1) = x at *
                      obtain ⟨xk, xi, xo, xa, xr⟩ := x
                      unfold Fl.row at hG
                      dsimp only at *
                      subst hi
                      obtain ⟨hi1, hi2⟩ := hi1
                      have c1 : decide ((i : Int) < 1) = false := decide_eq_false (by omega)
                      have c2 : decide (100 < (i : Int)) = false := decide_eq_false (by omega)
                      have hii : (i : Int) < 101 := by omega
                      generalize leftTo S q j = n0 at *
                      clear hC0 ht hnm hE hX hpos hlo
                      have hr01 : r = 0 ∨ r = 1 := by omega
                      rcases hr01 with hr0 | hr0
                      · have e1 : ((r : Int) == 1) = false := beq_false_of_ne (by omega)
                        have e2 : ((r : Int) == 0) = true := by simp [hr0]
                        have HR0 : Hid (r = 0) := hr0
                        clear hrf hr0 hr2
                        go_wp2_with fail
                        refine hG.mono ?_
                        rintro e w2 ⟨rfl, hb2⟩
                        have hC2 := HC.out.below hb2
                        obtain ⟨W2, hW2⟩ : ∃ W2, W2 = w2.alloc (.cells #[.int .i64 xk, .int .i64 i, .int .i64 xo, .bool xa, .int .i64 xr] 30) := ⟨_, rfl⟩
                        have hCW : CoW w W2 b C S (kr r (q * 6 + j)) := by rw [hW2]; exact hC2.below (below_alloc _ _)
                        have hXW : W2.heap[w2.heap.size]? = some (.cells #[.int .i64 xk, .int .i64 i, .int .i64 xo, .bool xa, .int .i64 xr] 30) := by rw [hW2]; exact heap_alloc_new _ _
                        have x1 : W2.cell? ⟨w2.heap.size, 1, none⟩ = some (.int .i64 i) := by rw [cell_of_heap hXW]; rfl
                        have x4 : W2.cell? ⟨w2.heap.size, 4, none⟩ = some (.int .i64 xr) := by rw [cell_of_heap hXW]; rfl
                        have d1 : W2.cell? ⟨C, i, none⟩ = some (.int .i64 (idc S i (q * 6 + j) : Nat)) := irow_cell (by have := hCW.cnt; rw [HR0.out] at this; exact this) (idL_get S (q * 6 + j) (by omega))
                        have f1 : W2.frozen? ⟨C, i, none⟩ = false := frozen_of_heap hCW.cnt
                        have hnc : C ≠ w2.heap.size := by have := lt_of_heap hC2.cnt; omega
                        have HCW : Hid (CoW w W2 b C S (kr r (q * 6 + j))) := hCW
                        have HW2 : Hid _ := hW2
                        generalize idc S i (q * 6 + j) = cv at *
                        clear hG hb2 hC2 hCW hW2 hXW HC
                        go_wp2_with fail
                        rw [← Hid.out HW2]
                        clear HW2
                        generalize w2.heap.size = g2 at *
                        go_quiet (fail)
                        have x1' : (W2.drewN nq).cell? ⟨g2, 1, none⟩ = some (.int .i64 i) := x1
                        have d1' : (W2.drewN nq).cell? ⟨C, i, none⟩ = some (.int .i64 (cv : Nat)) := d1
                        have f1' : (W2.drewN nq).frozen? ⟨C, i, none⟩ = false := f1
                        have HCV : Hid (CoW w (W2.drewN nq) b C S (kr r (q * 6 + j))) := HCW.out.drewN nq
                        generalize W2.drewN nq = V at *
                        clear x1 x4 d1 f1 HCW
                        (try simp only [Exit.then])
                        go_wp2
                        go_roundw
                        case rel =>
                          refine ⟨j + 1, by omega, by go_num, by rw [HL.out], ?_⟩
                          refine ⟨?_, HCV.out.fd.keep (Below.heap_setCell _ _ _ _ hCn), HCV.out.bel.setCell (p := ⟨C, i, none⟩) hCb _⟩
                          have h7 := HCV.out.cnt
                          rw [HR0.out] at h7 ⊢
                          exact set_row h7 HS.out
                        case measure => simp [intOf]; omega
                      · have ge : ((idc S i 48 : Int) != xr) = false := by simp; omega
                        have e1 : ((r : Int) == 1) = true := by simp [hr0]
                        have e2 : ((r : Int) == 0) = false := beq_false_of_ne (by omega)
                        have HR0 : Hid (r = 1) := hr0
                        clear hrf hr0 hr2
                        go_wp2_with fail
                        refine hG.mono ?_
                        rintro e w2 ⟨rfl, hb2⟩
                        have hC2 := HC.out.below hb2
                        obtain ⟨W2, hW2⟩ : ∃ W2, W2 = w2.alloc (.cells #[.int .i64 xk, .int .i64 i, .int .i64 xo, .bool xa, .int .i64 xr] 30) := ⟨_, rfl⟩
                        have hCW : CoW w W2 b C S (kr r (q * 6 + j)) := by rw [hW2]; exact hC2.below (below_alloc _ _)
                        have hXW : W2.heap[w2.heap.size]? = some (.cells #[.int .i64 xk, .int .i64 i, .int .i64 xo, .bool xa, .int .i64 xr] 30) := by rw [hW2]; exact heap_alloc_new _ _
                        have x1 : W2.cell? ⟨w2.heap.size, 1, none⟩ = some (.int .i64 i) := by rw [cell_of_heap hXW]; rfl
                        have x4 : W2.cell? ⟨w2.heap.size, 4, none⟩ = some (.int .i64 xr) := by rw [cell_of_heap hXW]; rfl
                        have d1 : W2.cell? ⟨C, i, none⟩ = some (.int .i64 (idc S i 48 : Nat)) := irow_cell (by have := hCW.cnt; rw [HR0.out] at this; exact this) (idL_get S 48 (by omega))
                        have HCW : Hid (CoW w W2 b C S (kr r (q * 6 + j))) := hCW
                        have HW2 : Hid _ := hW2
                        generalize idc S i 48 = cv at *
                        clear hG hb2 hC2 hCW hW2 hXW HC
                        go_wp2_with fail
                        rw [← Hid.out HW2]
                        clear HW2
                        generalize w2.heap.size = g2 at *
                        go_quiet (fail)
                        have HCV : Hid (CoW w (W2.drewN nq) b C S (kr r (q * 6 + j))) := HCW.out.drewN nq
                        generalize W2.drewN nq = V at *
                        clear x1 x4 d1 HCW
                        (try simp only [Exit.then])
                        go_wp2
                        go_roundw
                        case rel =>
                          refine ⟨j + 1, by omega, by go_num, by rw [HL.out], ?_⟩
                          have h7 := HCV.out
                          rw [HR0.out] at h7 ⊢
                          exact h7
                        case measure => simp [intOf]; omega
                  · obtain rfl : j = 6 := by omega
                    have hL := leftA_at b S ((q : Int) + 1) wr hC0.fd
                    have hLA : leftA S ((q : Int) + 1) = (leftTo S q 6 : Nat) := by unfold leftA; rw [isP_of hq8, show ((q : Int) + 1 - 1).toNat = q by omega]; rfl
                    rw [hLA] at hL
                    generalize leftTo S q 6 = n0 at *
                    have ge : ((n0 : Int) != (n0 : Int)) = false := by simp
                    clear hC0 hLA
                    go_wp2_with fail
                    refine hL.mono ?_
                    rintro e w2 ⟨rfl, hw⟩
                    rw [hw]
                    clear hw w2 hL
                    go_wp2
                    go_roundw
                    case rel => exact ⟨q + 1, by omega, by go_num, by rw [show (q + 1) * 6 = q * 6 + 6 by omega]; exact HC.out⟩
                    case measure => simp [intOf]; omega
              · obtain rfl : q = 8 := by omega
                clear hC0
                go_wp2
                go_roundw
                case rel =>
                  refine ⟨r + 1, by omega, by go_num, ?_⟩
                  have e : kr (r + 1) 0 = kr r (8 * 6) := by unfold kr; rw [if_neg (by omega)]; split <;> rfl
                  rw [e]
                  exact HC.out
                case measure => simp [intOf]; omega
          · obtain rfl : r = 2 := by omega
            clear hC0
            go_wp2_with fail
            refine (awake_at _).mono ?_
            rintro e w3 ⟨rfl, hb3⟩
            have HB3 : Hid (Below w.heap.size w w3) := HC.out.bel.trans (hb3.mono HC.out.bel.size)
            clear hb3
            go_wp2
            go_ret
            exact ⟨rfl, HB3.out⟩
      · go_wp2
        rw [← Hid.out HW, ← Hid.out HCn]
        clear HW HCn
        go_loopw [8] (fun s wr => ∃ (r : Nat), r ≤ 2 ∧ s = .int .i64 r ∧ CoW w wr b C S (kr r 0)) (fun s _ => 2 - (intOf s).toNat)
        case atStart => exact ⟨0, by omega, rfl, HC0.out⟩
        case round =>
          clear HC0
          obtain ⟨r, hr, rfl, hC0⟩ := hrel
          have HC : Hid (CoW w wr b C S (kr r 0)) := hC0
          by_cases hr2 : r < 2
          · have i1 : decide ((r : Int) < 2) = true := decide_eq_true (by omega)
            clear hC0
            go_wp2
            go_loopw [9] (fun s wr => ∃ (q : Nat), q ≤ 8 ∧ s = .int .i64 ((q : Int) + 1) ∧ CoW w wr b C S (kr r (q * 6))) (fun s _ => 9 - (intOf s).toNat)
            case atStart => exact ⟨0, by omega, rfl, HC.out⟩
            case round =>
              clear HC
              obtain ⟨q, hq, rfl, hC0⟩ := hrel
              have HC : Hid (CoW w wr b C S (kr r (q * 6))) := hC0
              by_cases hq8 : q < 8
              · have i2 : decide ((q : Int) + 1 ≤ 8) = true := decide_eq_true (by omega)
                clear hC0
                go_wp2
                go_loopw [10, 11] (fun n s wr => ∃ (j : Nat), j ≤ 6 ∧ s = .int .i64 j ∧ n = .int .i64 (leftTo S q j : Nat) ∧ CoW w wr b C S (kr r (q * 6 + j))) (fun _ s _ => 6 - (intOf s).toNat)
                case atStart => exact ⟨0, by omega, rfl, rfl, HC.out⟩
                case round =>
                  clear HC
                  obtain ⟨j, hj, rfl, rfl, hC0⟩ := hrel
                  have HC : Hid (CoW w wr b C S (kr r (q * 6 + j))) := hC0
                  have hle := leftTo_le S q j
                  by_cases hj6 : j < 6
                  · have i3 : decide ((j : Int) < 6) = true := decide_eq_true (by omega)
                    have hG := get_at b S ((q : Int) + 1) j wr hC0.fd HI.out
                    by_cases ht : S.t (q * 6 + j) = 0
                    · have hnm : nm S ((q : Int) + 1) j = 0 := by rw [nm_of hq8 hj6]; exact ht
                      have hE : getE S ((q : Int) + 1) j = 9 := if_pos hnm
                      have HL : Hid (leftTo S q (j + 1) = leftTo S q j + 1) := by show _ = _; rw [leftTo_succ, if_pos ht]
                      have HK : Hid (idL S (kr r (q * 6 + (j + 1))) = idL S (kr r (q * 6 + j))) := by
                        show _ = _
                        unfold kr
                        split
                        · exact idL_no ht
                        · rfl
                      rw [hE] at hG
                      generalize getX S ((q : Int) + 1) j = x at hG
                      obtain ⟨xk, xi, xo, xa, xr⟩ := x
                      unfold Fl.row at hG
                      dsimp only at hG
                      generalize leftTo S q j = n0 at *
                      clear hC0 ht hnm hE
                      go_wp2_with fail
                      refine hG.mono ?_
                      rintro e w2 ⟨rfl, hb2⟩
                      have HC2 : Hid (CoW w (w2.alloc (.cells #[.int .i64 xk, .int .i64 xi, .int .i64 xo, .bool xa, .int .i64 xr] 30)) b C S (kr r (q * 6 + j))) := (HC.out.below hb2).below (below_alloc _ _)
                      clear hG hb2 HC
                      go_wp2
                      go_roundw
                      case rel =>
                        refine ⟨j + 1, by omega, by go_num, by rw [HL.out]; go_num, ?_⟩
                        exact ⟨by rw [HK.out]; exact HC2.out.cnt, HC2.out.fd, HC2.out.bel⟩
                      case measure => simp [intOf]; omega
                    · have hnm : nm S ((q : Int) + 1) j = S.t (q * 6 + j) := nm_of hq8 hj6
                      have hE : getE S ((q : Int) + 1) j = 0 := by unfold getE; rw [hnm, if_neg ht]
                      have hX : getX S ((q : Int) + 1) j = S.f (S.t (q * 6 + j) - 1) := by unfold getX; rw [hnm, if_neg ht]
                      have hpos := HI.out.pos (k := q * 6 + j) (by omega) ht
                      have hlo := HO.out.lo _ hpos.1 (by omega)
                      obtain ⟨i, hi⟩ : ∃ i : Nat, (S.f (S.t (q * 6 + j) - 1)).id = i := ⟨(S.f (S.t (q * 6 + j) - 1)).id.toNat, by omega⟩
                      have hi1 : 1 ≤ i ∧ i ≤ 100 := by omega
                      have hrf := idc_refs HI.out HO.out hpos.1 (by omega) hi
                      have HL : Hid (leftTo S q (j + 1) = leftTo S q j) := by show _ = _; rw [leftTo_succ, if_neg ht]
                      have HS : Hid ((idL S (q * 6 + j)).set i ((idc S i (q * 6 + j) : Int) + 1) = idL S (q * 6 + (j + 1))) := idL_yes ht hi
                      have hdc := idc_le S i (q * 6 + j)
                      have hdc2 := idc_le S i 48
                      rw [hE, hX] at hG
                      generalize S.f (S.t (q * 6 + j) - 1) = x at *
                      obtain ⟨xk, xi, xo, xa, xr⟩ := x
                      unfold Fl.row at hG
                      dsimp only at *
                      subst hi
                      obtain ⟨hi1, hi2⟩ := hi1
                      have c1 : decide ((i : Int) < 1) = false := decide_eq_false (by omega)
                      have c2 : decide (100 < (i : Int)) = false := decide_eq_false (by omega)
                      have hii : (i : Int) < 101 := by omega
                      generalize leftTo S q j = n0 at *
                      clear hC0 ht hnm hE hX hpos hlo
                      have hr01 : r = 0 ∨ r = 1 := by omega
                      rcases hr01 with hr0 | hr0
                      · have e1 : ((r : Int) == 1) = false := beq_false_of_ne (by omega)
                        have e2 : ((r : Int) == 0) = true := by simp [hr0]
                        have HR0 : Hid (r = 0) := hr0
                        clear hrf hr0 hr2
                        go_wp2_with fail
                        refine hG.mono ?_
                        rintro e w2 ⟨rfl, hb2⟩
                        have hC2 := HC.out.below hb2
                        obtain ⟨W2, hW2⟩ : ∃ W2, W2 = w2.alloc (.cells #[.int .i64 xk, .int .i64 i, .int .i64 xo, .bool xa, .int .i64 xr] 30) := ⟨_, rfl⟩
                        have hCW : CoW w W2 b C S (kr r (q * 6 + j)) := by rw [hW2]; exact hC2.below (below_alloc _ _)
                        have hXW : W2.heap[w2.heap.size]? = some (.cells #[.int .i64 xk, .int .i64 i, .int .i64 xo, .bool xa, .int .i64 xr] 30) := by rw [hW2]; exact heap_alloc_new _ _
                        have x1 : W2.cell? ⟨w2.heap.size, 1, none⟩ = some (.int .i64 i) := by rw [cell_of_heap hXW]; rfl
                        have x4 : W2.cell? ⟨w2.heap.size, 4, none⟩ = some (.int .i64 xr) := by rw [cell_of_heap hXW]; rfl
                        have d1 : W2.cell? ⟨C, i, none⟩ = some (.int .i64 (idc S i (q * 6 + j) : Nat)) := irow_cell (by have := hCW.cnt; rw [HR0.out] at this; exact this) (idL_get S (q * 6 + j) (by omega))
                        have f1 : W2.frozen? ⟨C, i, none⟩ = false := frozen_of_heap hCW.cnt
                        have hnc : C ≠ w2.heap.size := by have := lt_of_heap hC2.cnt; omega
                        have HCW : Hid (CoW w W2 b C S (kr r (q * 6 + j))) := hCW
                        have HW2 : Hid _ := hW2
                        generalize idc S i (q * 6 + j) = cv at *
                        clear hG hb2 hC2 hCW hW2 hXW HC
                        go_wp2_with fail
                        rw [← Hid.out HW2]
                        clear HW2
                        generalize w2.heap.size = g2 at *
                        go_quiet (fail)
                        have x1' : (W2.drewN nq).cell? ⟨g2, 1, none⟩ = some (.int .i64 i) := x1
                        have d1' : (W2.drewN nq).cell? ⟨C, i, none⟩ = some (.int .i64 (cv : Nat)) := d1
                        have f1' : (W2.drewN nq).frozen? ⟨C, i, none⟩ = false := f1
                        have HCV : Hid (CoW w (W2.drewN nq) b C S (kr r (q * 6 + j))) := HCW.out.drewN nq
                        generalize W2.drewN nq = V at *
                        clear x1 x4 d1 f1 HCW
                        (try simp only [Exit.then])
                        go_wp2
                        go_roundw
                        case rel =>
                          refine ⟨j + 1, by omega, by go_num, by rw [HL.out], ?_⟩
                          refine ⟨?_, HCV.out.fd.keep (Below.heap_setCell _ _ _ _ hCn), HCV.out.bel.setCell (p := ⟨C, i, none⟩) hCb _⟩
                          have h7 := HCV.out.cnt
                          rw [HR0.out] at h7 ⊢
                          exact set_row h7 HS.out
                        case measure => simp [intOf]; omega
                      · have ge : ((idc S i 48 : Int) != xr) = false := by simp; omega
                        have e1 : ((r : Int) == 1) = true := by simp [hr0]
                        have e2 : ((r : Int) == 0) = false := beq_false_of_ne (by omega)
                        have HR0 : Hid (r = 1) := hr0
                        clear hrf hr0 hr2
                        go_wp2_with fail
                        refine hG.mono ?_
                        rintro e w2 ⟨rfl, hb2⟩
                        have hC2 := HC.out.below hb2
                        obtain ⟨W2, hW2⟩ : ∃ W2, W2 = w2.alloc (.cells #[.int .i64 xk, .int .i64 i, .int .i64 xo, .bool xa, .int .i64 xr] 30) := ⟨_, rfl⟩
                        have hCW : CoW w W2 b C S (kr r (q * 6 + j)) := by rw [hW2]; exact hC2.below (below_alloc _ _)
                        have hXW : W2.heap[w2.heap.size]? = some (.cells #[.int .i64 xk, .int .i64 i, .int .i64 xo, .bool xa, .int .i64 xr] 30) := by rw [hW2]; exact heap_alloc_new _ _
                        have x1 : W2.cell? ⟨w2.heap.size, 1, none⟩ = some (.int .i64 i) := by rw [cell_of_heap hXW]; rfl
                        have x4 : W2.cell? ⟨w2.heap.size, 4, none⟩ = some (.int .i64 xr) := by rw [cell_of_heap hXW]; rfl
                        have d1 : W2.cell? ⟨C, i, none⟩ = some (.int .i64 (idc S i 48 : Nat)) := irow_cell (by have := hCW.cnt; rw [HR0.out] at this; exact this) (idL_get S 48 (by omega))
                        have HCW : Hid (CoW w W2 b C S (kr r (q * 6 + j))) := hCW
                        have HW2 : Hid _ := hW2
                        generalize idc S i 48 = cv at *
                        clear hG hb2 hC2 hCW hW2 hXW HC
                        go_wp2_with fail
                        rw [← Hid.out HW2]
                        clear HW2
                        generalize w2.heap.size = g2 at *
                        go_quiet (fail)
                        have HCV : Hid (CoW w (W2.drewN nq) b C S (kr r (q * 6 + j))) := HCW.out.drewN nq
                        generalize W2.drewN nq = V at *
                        clear x1 x4 d1 HCW
                        (try simp only [Exit.then])
                        go_wp2
                        go_roundw
                        case rel =>
                          refine ⟨j + 1, by omega, by go_num, by rw [HL.out], ?_⟩
                          have h7 := HCV.out
                          rw [HR0.out] at h7 ⊢
                          exact h7
                        case measure => simp [intOf]; omega
                  · obtain rfl : j = 6 := by omega
                    have hL := leftA_at b S ((q : Int) + 1) wr hC0.fd
                    have hLA : leftA S ((q : Int) + 1) = (leftTo S q 6 : Nat) := by unfold leftA; rw [isP_of hq8, show ((q : Int) + 1 - 1).toNat = q by omega]; rfl
                    rw [hLA] at hL
                    generalize leftTo S q 6 = n0 at *
                    have ge : ((n0 : Int) != (n0 : Int)) = false := by simp
                    clear hC0 hLA
                    go_wp2_with fail
                    refine hL.mono ?_
                    rintro e w2 ⟨rfl, hw⟩
                    rw [hw]
                    clear hw w2 hL
                    go_wp2
                    go_roundw
                    case rel => exact ⟨q + 1, by omega, by go_num, by rw [show (q + 1) * 6 = q * 6 + 6 by omega]; exact HC.out⟩
                    case measure => simp [intOf]; omega
              · obtain rfl : q = 8 := by omega
                clear hC0
                go_wp2
                go_roundw
                case rel =>
                  refine ⟨r + 1, by omega, by go_num, ?_⟩
                  have e : kr (r + 1) 0 = kr r (8 * 6) := by unfold kr; rw [if_neg (by omega)]; split <;> rfl
                  rw [e]
                  exact HC.out
                case measure => simp [intOf]; omega
          · obtain rfl : r = 2 := by omega
            clear hC0
            go_wp2_with fail
            refine (awake_at _).mono ?_
            rintro e w3 ⟨rfl, hb3⟩
            have HB3 : Hid (Below w.heap.size w w3) := HC.out.bel.trans (hb3.mono HC.out.bel.size)
            clear hb3
            go_wp2
            go_ret
            exact ⟨rfl, HB3.out⟩

theorem own : ownKnob Try.prog.godebug = none := by kernel_rfl
theorem laidOut : laidOutB Try.prog = true := by kernel_rfl

set_option maxRecDepth 100000 in
theorem refs_lifted (os : Os) (started : os.Started) (H : Type) (enc : TypeId × Value → H) :
    ReturnsInHanded {} Try.checked os 5 .any (Rows.fdsRefsSpec.pre6 enc Try.prog Try.f5 Rows.fdsRefsRow.domain false) (Rows.fdsRefsSpec.post enc Try.prog Try.f5 false true false false) := by
  refine returnsInHanded_of_change (C := Try.checked) own started (by kernel_rfl) Try.func5
    (ChangeSpec.witness6 (enc := enc) (C := Try.checked) false ⟨#[], #[.slice none 0 0], []⟩ 8 (by kernel_rfl) (by kernel_rfl) (by kernel_rfl) (by kernel_rfl)) ?_
  intro W base args ds gs before hval0 hW hcnd _
  have hval : ∀ (j : Nat) t v, Try.f5.params[j]? = some t → args[j]? = some v → Value.okWide Try.prog W .any base t v := hval0
  have hW' := hW
  obtain ⟨p, q, hA0, hV, rfl, hfz, hnd⟩ := hW
  have hA : DataW.TrodAll enc Try.prog W 0 (fun _ => true) true Try.f5.params.toList args.toList ds p := hA0
  rw [Try.params5] at hA hval
  obtain ⟨v0, vs0, d0, ds0, p0, q0, hargs, rfl, rfl, h0, r0⟩ := trodAll_cons hA
  obtain ⟨rfl, rfl, rfl⟩ := trodAll_nil r0
  obtain rfl : args = #[v0] := by cases args; simp_all
  obtain ⟨rfl, rfl⟩ := trodVars_none hV
  have k0 := h0
  have lt0 : ∀ x ∈ p0, x.block < W.heap.size := by obtain ⟨m, hm⟩ := k0; exact DataW.trod_lt m _ _ _ hm
  obtain ⟨a0, len0, cap0, rfl⟩ := okWide_slice Try.underlying22 (hval 0 22 v0 rfl rfl)
  clear hA0 hval0
  have hdeeds : len0 ≤ 9223372036854775807 ∧ DeedsAt W a0 len0 := by
    obtain ⟨fuel, hf⟩ := h0
    obtain ⟨hl, hc⟩ := slice_fits (l := deedCK) Try.underlying22 deedKinds (by simp) deedSize (by simpa [Value.cells] using hf)
    exact ⟨hl, deeds_of hc⟩
  have hwalk : Calls Try.prog 5 #[.slice a0 len0 cap0] W fun e w' => e = .returned (.bool true) ∧ Below W.heap.size W w' := refs_walk a0 len0 cap0 W hdeeds.1 hdeeds.2
  refine hwalk.mono fun e W' ⟨he, bel⟩ => ?_
  subst he
  exact ⟨_, rfl, _, _, _, [], _, [], hW', trodAll_mk1 (shut_bool Try.underlying4 _), (trodAll_cons_mk (Below.trod laidOut (by kernel_rfl) (of_decide_eq_true (by kernel_rfl)) k0 bel lt0) trodAll_mk0), rfl, bel.frame _, fun h => by cases h⟩

theorem refs_holds : Rows.FdsRefsSaid :=
  OpenClaim.holds_of_wide 5 Try.f5 rfl rfl rfl rfl rfl rfl rfl ⟨rfl, rfl, rfl, rfl, rfl⟩ rfl rfl rfl rfl rfl (by kernel_rfl) Try.func5 (by kernel_rfl)
    (of_decide_eq_true (by kernel_rfl)) (by unfold Func.isWrapper; first | (rw [if_pos (by decide +kernel)]; kernel_rfl) | (rw [if_neg (by decide +kernel)]; exact ⟨rfl, rfl⟩))
    (fun os started H enc _ => refs_lifted os started H enc)
#print axioms refs_holds
end Go.Proofs.Ytkdbmfckfbmbiaa
