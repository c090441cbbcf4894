/- Package fds: readFiles, readNames. -/
import Derived.Test.YtkdbmfckfbmbiaaFdN
namespace Go.Proofs.Ytkdbmfckfbmbiaa
open Go.RowKit
set_option linter.unusedVariables false

theorem all_range_succ (p : Nat → Bool) (k : Nat) : (List.range (k + 1)).all p = ((List.range k).all p && p k) := by
  rw [List.range_succ, List.all_append]
  simp
theorem all_range_no {p : Nat → Bool} {k n : Nat} (hk : k < n) (h : p k = false) : (List.range n).all p = false := by
  rw [List.all_eq_false]
  exact ⟨k, by simpa using hk, by simp [h]⟩
/-- Rd is of what was there. -/
theorem Rd.from {w w' : World} {a : Option Addr} {ws : List Int} (h : Rd w a ws) (hb : Below w.heap.size w w') : Rd w' a ws := h.below hb

set_option maxHeartbeats 4000000 in
theorem readFiles_at (w0 : World) (b : Nat) (a : Option Addr) (L n cap : Nat) (D : List Int) (w : World) (hL : L = n * 4) (hD : D.length = L) (hn : n ≤ 32) (hcap : L ≤ cap) (hr : Rd w0 a D) (hu : U64 D) (hb : Below w0.heap.size w0 w) (hbb : w0.heap.size ≤ b) (h : FdAt w b FS.zero) :
    Calls Try.prog 44 #[.pointer (some ⟨b, 0, none⟩), .slice a L cap] w fun e w' => e = .returned (.bool (okFm D n)) ∧ (okFm D n = true → FdAt w' b (filesTo D n)) ∧ Below w0.heap.size w0 w' := by
  have HR : Hid (Rd w0 a D) := hr
  have HU : Hid (U64 D) := hu
  have HB : Hid (Below w0.heap.size w0 w) := hb
  have HH : Hid (FdAt w b FS.zero) := h
  have HD : Hid (D.length = L) := hD
  have HL : Hid (L = n * 4) := hL
  have hq1 : (L : Int).tdiv 4 = (n : Int) := by rw [Int.tdiv_eq_ediv_of_nonneg (by omega)]; omega
  have hq2 : (L : Int) / 4 = (n : Int) := by omega
  have hne := ptr_eq b
  clear hr hu hb h hD hL
  go_enter Try.func44, Try.ntmps44
  go_wp2
  go_loopw [11] (fun i wr => ∃ (k : Nat), k ≤ n ∧ i = .int .i64 k ∧ (List.range k).all (okAt D) = true ∧ FdAt wr b (filesTo D k) ∧ Below w0.heap.size w0 wr) (fun i _ => n - (intOf i).toNat)
  case atStart => exact ⟨0, by omega, rfl, rfl, HH.out, HB.out⟩
  case round =>
    clear HH HB
    obtain ⟨k, hk, rfl, hall, hF, hB⟩ := hrel
    have HF : Hid (FdAt wr b (filesTo D k)) := hF
    have HB : Hid (Below w0.heap.size w0 wr) := hB
    have HAl : Hid ((List.range k).all (okAt D) = true) := hall
    by_cases hlt : k < n
    · have hk4 : k * 4 + 4 ≤ L := by have := HL.out; omega
      obtain ⟨a2, c2, hsl, hle, hrd⟩ := cut_wl D a L cap (k * 4) HD.out.symm (by omega) hcap
      rw [Int.natCast_mul, show ((4 : Nat) : Int) = 4 from rfl] at hsl
      have hRf := readFile_at a2 (L - k * 4) c2 (D.drop (k * 4)) (D.getD (k * 4) 0) (D.getD (k * 4 + 1) 0) (D.getD (k * 4 + 2) 0) (D.getD (k * 4 + 3) 0) wr (hrd wr (HR.out.below hB)) (by rw [List.length_drop, HD.out])
        (by rw [List.getElem?_drop]; exact get_getD (by have := HD.out; omega)) (by rw [List.getElem?_drop]; exact get_getD (by have := HD.out; omega)) (by rw [List.getElem?_drop]; exact get_getD (by have := HD.out; omega)) (by rw [List.getElem?_drop]; exact get_getD (by have := HD.out; omega))
        (fun x hx => HU.out x (List.mem_of_mem_drop hx))
      have hw4 : IntKind.i64.wrap ((k : Int) * 4) = (k : Int) * 4 := by simp [IntKind.wrap, IntKind.bits, IntKind.signed]; omega
      have i1 : decide ((k : Int) < (n : Int)) = true := decide_eq_true (by omega)
      have hki : (k : Int) < (n : Int) := by omega
      have hk32 : (k : Int) < 32 := by omega
      have hbl := hF.lt
      cases hok : okAt D k with
      | true =>
        have hok' : okF (D.getD (k * 4) 0) (D.getD (k * 4 + 1) 0) (D.getD (k * 4 + 2) 0) (D.getD (k * 4 + 3) 0) = true := hok
        have HS : Hid (filesTo D (k + 1) = (filesTo D k).setF k (flOf (D.getD (k * 4) 0) (D.getD (k * 4 + 1) 0) (D.getD (k * 4 + 2) 0) (D.getD (k * 4 + 3) 0))) := rfl
        have HOk : Hid (okAt D k = true) := hok
        rw [hok'] at hRf
        clear hok hok' hall hF hB hrd
        go_wp2_with fail
        refine hRf.mono ?_
        rintro e w1 ⟨h1, -, hb1⟩
        obtain rfl := h1 (by simp)
        have hF1 := HF.out.below hb1
        have hB1 : Below w0.heap.size w0 w1 := HB.out.trans (hb1.mono HB.out.size)
        generalize flOf (D.getD (k * 4) 0) (D.getD (k * 4 + 1) 0) (D.getD (k * 4 + 2) 0) (D.getD (k * 4 + 3) 0) = x at *
        obtain ⟨W, hW⟩ : ∃ W, W = w1.alloc (.cells x.row 30) := ⟨_, rfl⟩
        have hbW : Below w1.heap.size w1 W := by rw [hW]; exact below_alloc _ _
        have hFW := hF1.below hbW
        have hXW : W.heap[w1.heap.size]? = some (.cells x.row 30) := by rw [hW]; exact heap_alloc_new _ _
        have HBW : Hid (Below w0.heap.size w0 W) := hB1.trans (hbW.mono hB1.size)
        have HFW : Hid (FdAt W b (filesTo D k)) := hFW
        obtain ⟨c0, c1, c2', c3, c4⟩ := hFW.cells (p := k) (by omega)
        have f0 := hFW.free (k * 5)
        have f1 := hFW.free (k * 5 + 1)
        have f2 := hFW.free (k * 5 + 2)
        have f3 := hFW.free (k * 5 + 3)
        have f4 := hFW.free (k * 5 + 4)
        have x0 : W.cell? ⟨w1.heap.size, 0, none⟩ = some (.int .i64 x.kind) := by rw [cell_of_heap hXW]; rfl
        have x1 : W.cell? ⟨w1.heap.size, 1, none⟩ = some (.int .i64 x.id) := by rw [cell_of_heap hXW]; rfl
        have x2 : W.cell? ⟨w1.heap.size, 2, none⟩ = some (.int .i64 x.off) := by rw [cell_of_heap hXW]; rfl
        have x3 : W.cell? ⟨w1.heap.size, 3, none⟩ = some (.bool x.app) := by rw [cell_of_heap hXW]; rfl
        have x4 : W.cell? ⟨w1.heap.size, 4, none⟩ = some (.int .i64 x.refs) := by rw [cell_of_heap hXW]; rfl
        have hnb : w1.heap.size ≠ b := by have := hF1.lt; omega
        have HW : Hid (W = w1.alloc (.cells x.row 30)) := hW
        obtain ⟨xk, xi, xo, xa, xr⟩ := x
        unfold Fl.row at *
        dsimp only at *
        clear hRf h1 hb1 hF1 hB1 hW hbW hFW hXW HF HB
        go_wp2_with fail
        rw [← Hid.out HW]
        clear HW
        go_region
        all_goals
          go_wp2
          go_roundw
          case rel =>
            refine ⟨k + 1, by omega, by go_num, by rw [all_range_succ, HAl.out, HOk.out]; rfl, ?_, ?_⟩
            · rw [HS.out]
              exact (HFW.out.put5 (by omega) ⟨xk, xi, xo, xa, xr⟩).drew
            · exact (HBW.out.trans ((upd5 b (k * 5) W ⟨xk, xi, xo, xa, xr⟩).below hbb HBW.out.size)).drew
          case measure => simp [intOf]; omega
      | false =>
        have hok' : okF (D.getD (k * 4) 0) (D.getD (k * 4 + 1) 0) (D.getD (k * 4 + 2) 0) (D.getD (k * 4 + 3) 0) = false := hok
        have HNo : Hid (okFm D n = false) := all_range_no hlt hok
        rw [hok'] at hRf
        clear hok hok' hall hF hB hrd
        go_wp2_with fail
        refine hRf.mono ?_
        rintro e w1 ⟨-, h1, hb1⟩
        obtain rfl := h1 (by simp)
        have HB1 : Hid (Below w0.heap.size w0 w1) := HB.out.trans (hb1.mono HB.out.size)
        have hs1 := HB1.out.size
        unfold Fl.row Fl.no
        dsimp only
        clear hRf h1 hb1 HF HB
        go_wp2
        go_ret
        exact ⟨by rw [HNo.out]; rfl, (fun e => by rw [HNo.out] at e; cases e), HB1.out.alloc hs1 _⟩
    · obtain rfl : k = n := by omega
      have HYes : Hid (okFm D k = true) := HAl.out
      clear hall hF hB
      go_wp2
      go_ret
      exact ⟨by rw [HYes.out]; rfl, fun _ => HF.out, HB.out⟩

theorem namesTo_succ0 {S : FS} {ys : List Int} {k : Nat} (h : (ys.getD k 0).toNat = 0) : namesTo S ys (k + 1) = (namesTo S ys k).setT k 0 := by
  show nmStep _ _ _ = _
  unfold nmStep
  rw [h, if_pos rfl]
theorem namesTo_succ1 {S : FS} {ys : List Int} {k p : Nat} (h : (ys.getD k 0).toNat = p + 1) : namesTo S ys (k + 1) = ((namesTo S ys k).setT k (p + 1)).setF p (((namesTo S ys k).f p).re (((namesTo S ys k).f p).refs + 1)) := by
  show nmStep _ _ _ = _
  unfold nmStep
  rw [h, if_neg (by omega)]
  rfl
set_option maxHeartbeats 4000000 in
theorem readNames_at (w0 : World) (b n : Nat) (a : Option Addr) (cap : Nat) (D : List Int) (S0 : FS) (w : World) (hD : D.length = 48) (hn : n ≤ 32) (hr : Rd w0 a D) (hu : U64 D) (hb : Below w0.heap.size w0 w) (hbb : w0.heap.size ≤ b) (h : FdAt w b S0) (hI : Inv S0) (hS : S0.t = fun _ => 0) :
    Calls Try.prog 45 #[.pointer (some ⟨b, 0, none⟩), .slice a 48 cap, .int .i64 n] w fun e w' => e = .returned (.bool (okNm D n)) ∧ (okNm D n = true → FdAt w' b (namesTo S0 D 48)) ∧ Below w0.heap.size w0 w' := by
  have HR : Hid (Rd w0 a D) := hr
  have HU : Hid (U64 D) := hu
  have HB : Hid (Below w0.heap.size w0 w) := hb
  have HH : Hid (FdAt w b S0) := h
  have HI : Hid (Inv S0) := hI
  have HS0 : Hid (S0.t = fun _ => 0) := hS
  have HD : Hid (D.length = 48) := hD
  have hne := ptr_eq b
  have hwn : IntKind.u64.wrap (n : Int) = n := by simp [IntKind.wrap, IntKind.bits, IntKind.signed]; omega
  clear hr hu hb h hD hI hS
  go_enter Try.func45, Try.ntmps45
  go_wp2
  go_loopw [12] (fun i wr => ∃ (k : Nat), k ≤ 48 ∧ i = .int .i64 k ∧ (∀ j, j < k → D.getD j 0 ≤ (n : Int)) ∧ FdAt wr b (namesTo S0 D k) ∧ Below w0.heap.size w0 wr) (fun i _ => 48 - (intOf i).toNat)
  case atStart => exact ⟨0, by omega, rfl, (fun j hj => by omega), HH.out, HB.out⟩
  case round =>
    clear HH HB
    obtain ⟨k, hk, rfl, hall, hF, hB⟩ := hrel
    have HF : Hid (FdAt wr b (namesTo S0 D k)) := hF
    have HB : Hid (Below w0.heap.size w0 wr) := hB
    have HAl : Hid (∀ j, j < k → D.getD j 0 ≤ (n : Int)) := hall
    by_cases hlt : k < 48
    · have hgk := get_getD (ws := D) (j := k) (by have := HD.out; omega)
      obtain ⟨g, off, rfl, d0⟩ := (HR.out.below hB) k _ hgk
      have hu64 := u64_get HU.out hgk
      generalize hx : D.getD k 0 = x at *
      have HX : Hid (D.getD k 0 = x) := hx
      have i1 : decide ((k : Int) < 48) = true := decide_eq_true (by omega)
      have hki : (k : Int) < 48 := by omega
      have hdv : (k : Int) / 6 = ((k / 6 : Nat) : Int) := by omega
      have hdt : (k : Int).tdiv 6 = ((k / 6 : Nat) : Int) := by rw [Int.tdiv_eq_ediv_of_nonneg (by omega)]; omega
      have hmd : (k : Int) % 6 = ((k % 6 : Nat) : Int) := by omega
      have hmt : (k : Int).tmod 6 = ((k % 6 : Nat) : Int) := by rw [Int.tmod_eq_emod_of_nonneg (by omega)]; omega
      obtain ⟨hx0, hx1⟩ := hu64
      by_cases hle : x ≤ (n : Int)
      · have g0 : decide ((n : Int) < x) = false := decide_eq_false (by omega)
        obtain ⟨q, rfl⟩ : ∃ q : Nat, x = q := ⟨x.toNat, by omega⟩
        have hInv := namesTo_inv HI.out HS0.out D k (by omega) (fun j hj => by have := HAl.out j hj; omega)
        have hwq : IntKind.i64.wrap (q : Int) = q := by simp [IntKind.wrap, IntKind.bits, IntKind.signed]; omega
        have HAl2 : Hid (∀ j, j < k + 1 → D.getD j 0 ≤ (n : Int)) := fun j hj => by
          rcases Nat.lt_or_ge j k with e | e
          · exact HAl.out j e
          · have : j = k := by omega
            rw [this, HX.out]
            exact hle
        have ct := hF.tcell (i := k) (o := 160 + k / 6 * 6 + k % 6) (by omega) (by omega)
        have ft := hF.free (160 + k / 6 * 6 + k % 6)
        have hk6 : ((k / 6 : Nat) : Int) < 8 := by omega
        have hm6 : ((k % 6 : Nat) : Int) < 6 := by omega
        by_cases hq0 : q = 0
        · subst hq0
          have HS : Hid (namesTo S0 D (k + 1) = (namesTo S0 D k).setT k 0) := namesTo_succ0 (by rw [HX.out]; rfl)
          generalize (namesTo S0 D k).t k = y at ct
          have HO : Hid (160 + k / 6 * 6 + k % 6 = 160 + k) := by show _ = _; omega
          generalize k / 6 = kd at *
          generalize k % 6 = km at *
          clear hall hF hB hgk hx hle hInv
          go_wp2
          go_roundw
          case rel =>
            refine ⟨k + 1, by omega, by go_num, HAl2.out, ?_, ?_⟩
            · rw [HS.out]
              exact HF.out.setT (i := k) (by omega) HO.out 0
            · exact HB.out.trans ((Upd.setCell b _ wr _).below hbb HB.out.size)
          case measure => simp [intOf]; omega
        · obtain ⟨p, rfl⟩ : ∃ p, q = p + 1 := ⟨q - 1, by omega⟩
          have hp32 : p < 32 := by omega
          have HS : Hid _ := namesTo_succ1 (S := S0) (ys := D) (k := k) (p := p) (by rw [HX.out]; rfl)
          obtain ⟨hr0, hr1⟩ := hInv.bound hp32
          obtain ⟨c0, c1, c2, c3, c4⟩ := hF.cells hp32
          have f4 := hF.free (p * 5 + 4)
          have o4 : p * 5 + 4 ≠ 160 + k / 6 * 6 + k % 6 := by omega
          have hpi : (p : Int) < 32 := by omega
          rw [Int.natCast_add, Int.natCast_one] at d0 hwq g0
          have gq : ((p : Int) + 1 != 0) = true := by simp; omega
          generalize (namesTo S0 D k).t k = y at ct
          have HO : Hid (160 + k / 6 * 6 + k % 6 = 160 + k) := by show _ = _; omega
          generalize k / 6 = kd at *
          generalize k % 6 = km at *
          clear hall hF hB hgk hx hle hInv hq0 hx0 hx1
          go_wp2_with fail
          go_region
          all_goals
            go_wp2
            go_roundw
            case rel =>
              refine ⟨k + 1, by omega, by go_num, HAl2.out, ?_, ?_⟩
              · rw [HS.out]
                exact ((HF.out.setT (i := k) (by omega) HO.out (p + 1)).re hp32 _).drew
              · exact (HB.out.trans (((Upd.setCell b (160 + kd * 6 + km) wr _).trans (Upd.setCell b (p * 5 + 4) _ _)).below hbb HB.out.size)).drew
            case measure => simp [intOf]; omega
      · have g0 : decide ((n : Int) < x) = true := decide_eq_true (by omega)
        have HNo : Hid (okNm D n = false) := all_range_no hlt (by rw [HX.out]; exact decide_eq_false hle)
        clear hall hF hB hgk hx
        go_wp2
        go_ret
        exact ⟨by rw [HNo.out]; rfl, (fun e => by rw [HNo.out] at e; cases e), HB.out⟩
    · obtain rfl : k = 48 := by omega
      have HYes : Hid (okNm D n = true) := by
        show (List.range 48).all _ = true
        rw [List.all_eq_true]
        intro i hi
        exact decide_eq_true (hall i (by simpa using hi))
      clear hall hF hB
      go_wp2
      go_ret
      exact ⟨by rw [HYes.out]; rfl, fun _ => HF.out, HB.out⟩
end Go.Proofs.Ytkdbmfckfbmbiaa
