import Derived.Test.YtinaeifpoljfoaaGreatDoorFdN
import Derived.ChangeKeysEq
set_option linter.all false
set_option maxRecDepth 100000
set_option maxHeartbeats 16000000
namespace Go.Proofs.YtinaeifpoljfoaaGreatDoor
open Go.RowKit
namespace Ow
end Ow
namespace Fd
open Ow
theorem all_range_succ (p : Nat → Bool) (k : Nat) : (List.range (k + 1)).all p = ((List.range k).all p && p k) := by
 rw [List.range_succ, List.all_append];simp
theorem all_range_no {p : Nat → Bool} {k n : Nat} (hk : k < n) (h : p k = false) : (List.range n).all p = false := by
 rw [List.all_eq_false];exact ⟨k, by simpa using hk, by simp [h]⟩
theorem readFiles_at (w0 : World) (b : Nat) (a : Option Addr) (L n cap : Nat) (D : List Int) (w : World) (hL : L = n * 4) (hD : D.length = L) (hn : n ≤ 32) (hcap : L ≤ cap) (hr : Rd w0 a D) (hu : U64 D) (hb : Below w0.heap.size w0 w) (hbb : w0.heap.size ≤ b) (h : FdAt w b FS.zero) :
  Calls Tryz.prog 39 #[.pointer (some ⟨b, 0, none⟩), .slice a L cap] w fun e w' => e = .returned (.bool (okFm D n)) ∧ (okFm D n = true → FdAt w' b (filesTo D n)) ∧ Below w0.heap.size w0 w' := by
 have HR := hid hr;have HU := hid hu;have HB := hid hb;have HH := hid h;have HD := hid hD;have HL := hid hL
 have hq1 : (L : Int).tdiv 4 = (n : Int) := by rw [Int.tdiv_eq_ediv_of_nonneg (by omega)]; omega
 have hq2 : (L : Int) / 4 = (n : Int) := by omega
 have hne := ptr_eq b;clear hr hu hb h hD hL
 go_enter Tryz.func39, Tryz.ntmps39
 go_wp2
 go_loopw [11] (fun i wr => ∃ (k : Nat), k ≤ n ∧ i = .int .i64 k ∧ (List.range k).all (okAt D) = true ∧ FdAt wr b (filesTo D k) ∧ Below w0.heap.size w0 wr) (fun i _ => n - (intOf i).toNat)
 case atStart => exact ⟨0, by omega, rfl, rfl, HH.out, HB.out⟩
 case round =>
  clear HH HB;obtain ⟨k, hk, rfl, hall, hF, hB⟩ := hrel;have HF := hid hF;have HB := hid hB;have HAl := hid hall
  by_cases hlt : k < n
  ·have hk4 : k * 4 + 4 ≤ L := by have := HL.out; omega
   obtain ⟨a2, c2, hsl, hle, hrd⟩ := cut_wl D a L cap (k * 4) HD.out.symm (by omega) hcap;rw [Int.natCast_mul, show ((4 : Nat) : Int) = 4 from rfl] at hsl
   have hRf := readFile_at a2 (L - k * 4) c2 (D.drop (k * 4)) (D.getD (k * 4) 0) (D.getD (k * 4 + 1) 0) (D.getD (k * 4 + 2) 0) (D.getD (k * 4 + 3) 0) wr (hrd wr (HR.out.below hB)) (by rw [List.length_drop, HD.out])
    (by rw [List.getElem?_drop]; exact get_getD (by have := HD.out; omega)) (by rw [List.getElem?_drop]; exact get_getD (by have := HD.out; omega)) (by rw [List.getElem?_drop]; exact get_getD (by have := HD.out; omega)) (by rw [List.getElem?_drop]; exact get_getD (by have := HD.out; omega))
    (fun x hx => HU.out x (List.mem_of_mem_drop hx))
   have hw4 : IntKind.i64.wrap ((k : Int) * 4) = (k : Int) * 4 := by simp [IntKind.wrap, IntKind.bits, IntKind.signed]; omega
   have i1 : decide ((k : Int) < (n : Int)) = true := decide_eq_true (by omega)
   have hki : (k : Int) < (n : Int) := by omega
   have hk32 : (k : Int) < 32 := by omega
   have hbl := hF.lt
   cases hok : okAt D k with
   | true =>
    have hok' : okF (D.getD (k * 4) 0) (D.getD (k * 4 + 1) 0) (D.getD (k * 4 + 2) 0) (D.getD (k * 4 + 3) 0) = true := hok;have HS : Hid (filesTo D (k + 1) = (filesTo D k).setF k (flOf (D.getD (k * 4) 0) (D.getD (k * 4 + 1) 0) (D.getD (k * 4 + 2) 0) (D.getD (k * 4 + 3) 0))) := rfl;have HOk := hid hok;rw [hok'] at hRf;clear hok hok' hall hF hB hrd
    go_wp2_with fail
    refine hRf.mono ?_;rintro e w1 ⟨h1, -, hb1⟩;obtain rfl := h1 (by simp);have hF1 := HF.out.below hb1;have hB1 : Below w0.heap.size w0 w1 := HB.out.trans (hb1.mono HB.out.size);generalize flOf (D.getD (k * 4) 0) (D.getD (k * 4 + 1) 0) (D.getD (k * 4 + 2) 0) (D.getD (k * 4 + 3) 0) = x at *;obtain ⟨W, hW⟩ : ∃ W, W = w1.alloc (.cells x.row 102) := ⟨_, rfl⟩
    have hbW : Below w1.heap.size w1 W := by rw [hW]; exact below_alloc _ _
    have hFW := hF1.below hbW
    have hXW : W.heap[w1.heap.size]? = some (.cells x.row 102) := by rw [hW]; exact heap_alloc_new _ _
    have HBW : Hid (Below w0.heap.size w0 W) := hB1.trans (hbW.mono hB1.size);have HFW := hid hFW;obtain ⟨c0, c1, c2', c3, c4⟩ := hFW.cells (p := k) (by omega);have f0 := hFW.free (k * 5);have f1 := hFW.free (k * 5 + 1);have f2 := hFW.free (k * 5 + 2);have f3 := hFW.free (k * 5 + 3);have f4 := hFW.free (k * 5 + 4)
    have x0 : W.cell? ⟨w1.heap.size, 0, none⟩ = some (.int .i64 x.kind) := by rw [cell_of_heap hXW]; rfl
    have x1 : W.cell? ⟨w1.heap.size, 1, none⟩ = some (.int .i64 x.id) := by rw [cell_of_heap hXW]; rfl
    have x2 : W.cell? ⟨w1.heap.size, 2, none⟩ = some (.int .i64 x.off) := by rw [cell_of_heap hXW]; rfl
    have x3 : W.cell? ⟨w1.heap.size, 3, none⟩ = some (.bool x.app) := by rw [cell_of_heap hXW]; rfl
    have x4 : W.cell? ⟨w1.heap.size, 4, none⟩ = some (.int .i64 x.refs) := by rw [cell_of_heap hXW]; rfl
    have hnb : w1.heap.size ≠ b := by have := hF1.lt; omega
    have HW := hid hW;obtain ⟨xk, xi, xo, xa, xr⟩ := x;unfold Fl.row at *;dsimp only at *;clear hRf h1 hb1 hF1 hB1 hW hbW hFW hXW HF HB
    go_wp2_with fail
    rw [← Hid.out HW];clear HW
    go_region
    all_goals
     go_wp2;go_roundw
     case rel =>
      refine ⟨k + 1, by omega, by go_num, by rw [all_range_succ, HAl.out, HOk.out]; rfl, ?_, ?_⟩
      ·rw [HS.out]
       exact (HFW.out.put5 (by omega) ⟨xk, xi, xo, xa, xr⟩).drew
      ·exact (HBW.out.trans ((upd5 b (k * 5) W ⟨xk, xi, xo, xa, xr⟩).below hbb HBW.out.size)).drew
     case measure => simp [intOf]; omega
   | false =>
    have hok' : okF (D.getD (k * 4) 0) (D.getD (k * 4 + 1) 0) (D.getD (k * 4 + 2) 0) (D.getD (k * 4 + 3) 0) = false := hok;have HNo : Hid (okFm D n = false) := all_range_no hlt hok;rw [hok'] at hRf;clear hok hok' hall hF hB hrd
    go_wp2_with fail
    refine hRf.mono ?_;rintro e w1 ⟨-, h1, hb1⟩;obtain rfl := h1 (by simp);have HB1 : Hid (Below w0.heap.size w0 w1) := HB.out.trans (hb1.mono HB.out.size);have hs1 := HB1.out.size;unfold Fl.row Fl.no;dsimp only;clear hRf h1 hb1 HF HB;go_wp2;go_ret;exact ⟨by rw [HNo.out]; rfl, (fun e => by rw [HNo.out] at e; cases e), HB1.out.alloc hs1 _⟩
  ·obtain rfl : k = n := by omega
   have HYes : Hid (okFm D k = true) := HAl.out;clear hall hF hB;go_wp2;go_ret;exact ⟨by rw [HYes.out]; rfl, fun _ => HF.out, HB.out⟩
theorem namesTo_succ0 {S : FS} {ys : List Int} {k : Nat} (h : (ys.getD k 0).toNat = 0) : namesTo S ys (k + 1) = (namesTo S ys k).setT k 0 := by
 show nmStep _ _ _ = _
 unfold nmStep;rw [h, if_pos rfl]
theorem namesTo_succ1 {S : FS} {ys : List Int} {k p : Nat} (h : (ys.getD k 0).toNat = p + 1) : namesTo S ys (k + 1) = ((namesTo S ys k).setT k (p + 1)).setF p (((namesTo S ys k).f p).re (((namesTo S ys k).f p).refs + 1)) := by
 show nmStep _ _ _ = _
 unfold nmStep;rw [h, if_neg (by omega)]
 rfl
theorem readNames_at (w0 : World) (b n : Nat) (a : Option Addr) (cap : Nat) (D : List Int) (S0 : FS) (w : World) (hD : D.length = 48) (hn : n ≤ 32) (hr : Rd w0 a D) (hu : U64 D) (hb : Below w0.heap.size w0 w) (hbb : w0.heap.size ≤ b) (h : FdAt w b S0) (hI : Inv S0) (hS : S0.t = fun _ => 0) :
  Calls Tryz.prog 40 #[.pointer (some ⟨b, 0, none⟩), .slice a 48 cap, .int .i64 n] w fun e w' => e = .returned (.bool (okNm D n)) ∧ (okNm D n = true → FdAt w' b (namesTo S0 D 48)) ∧ Below w0.heap.size w0 w' := by
 have HR := hid hr;have HU := hid hu;have HB := hid hb;have HH := hid h;have HI := hid hI;have HS0 := hid hS;have HD := hid hD;have hne := ptr_eq b
 have hwn : IntKind.u64.wrap (n : Int) = n := by simp [IntKind.wrap, IntKind.bits, IntKind.signed]; omega
 clear hr hu hb h hD hI hS
 go_enter Tryz.func40, Tryz.ntmps40
 go_wp2
 go_loopw [12] (fun i wr => ∃ (k : Nat), k ≤ 48 ∧ i = .int .i64 k ∧ (∀ j, j < k → D.getD j 0 ≤ (n : Int)) ∧ FdAt wr b (namesTo S0 D k) ∧ Below w0.heap.size w0 wr) (fun i _ => 48 - (intOf i).toNat)
 case atStart => exact ⟨0, by omega, rfl, (fun j hj => by omega), HH.out, HB.out⟩
 case round =>
  clear HH HB;obtain ⟨k, hk, rfl, hall, hF, hB⟩ := hrel;have HF := hid hF;have HB := hid hB;have HAl := hid hall
  by_cases hlt : k < 48
  ·have hgk := get_getD (ws := D) (j := k) (by have := HD.out; omega)
   obtain ⟨g, off, rfl, d0⟩ := (HR.out.below hB) k _ hgk;have hu64 := u64_get HU.out hgk;generalize hx : D.getD k 0 = x at *;have HX := hid hx;have i1 : decide ((k : Int) < 48) = true := decide_eq_true (by omega)
   have hki : (k : Int) < 48 := by omega
   have hdv : (k : Int) / 6 = ((k / 6 : Nat) : Int) := by omega
   have hdt : (k : Int).tdiv 6 = ((k / 6 : Nat) : Int) := by rw [Int.tdiv_eq_ediv_of_nonneg (by omega)]; omega
   have hmd : (k : Int) % 6 = ((k % 6 : Nat) : Int) := by omega
   have hmt : (k : Int).tmod 6 = ((k % 6 : Nat) : Int) := by rw [Int.tmod_eq_emod_of_nonneg (by omega)]; omega
   obtain ⟨hx0, hx1⟩ := hu64
   by_cases hle : x ≤ (n : Int)
   ·have g0 : decide ((n : Int) < x) = false := decide_eq_false (by omega)
    obtain ⟨q, rfl⟩ : ∃ q : Nat, x = q := ⟨x.toNat, by omega⟩;have hInv := namesTo_inv HI.out HS0.out D k (by omega) (fun j hj => by have := HAl.out j hj; omega)
    have hwq : IntKind.i64.wrap (q : Int) = q := by simp [IntKind.wrap, IntKind.bits, IntKind.signed]; omega
    have HAl2 : Hid (∀ j, j < k + 1 → D.getD j 0 ≤ (n : Int)) := fun j hj => by
     rcases Nat.lt_or_ge j k with e | e
     ·exact HAl.out j e
     ·have : j = k := by omega
      rw [this, HX.out];exact hle
    have ct := hF.tcell (i := k) (o := 160 + k / 6 * 6 + k % 6) (by omega) (by omega);have ft := hF.free (160 + k / 6 * 6 + k % 6)
    have hk6 : ((k / 6 : Nat) : Int) < 8 := by omega
    have hm6 : ((k % 6 : Nat) : Int) < 6 := by omega
    by_cases hq0 : q = 0
    ·subst hq0
     have HS : Hid (namesTo S0 D (k + 1) = (namesTo S0 D k).setT k 0) := namesTo_succ0 (by rw [HX.out]; rfl);generalize (namesTo S0 D k).t k = y at ct
     have HO : Hid (160 + k / 6 * 6 + k % 6 = 160 + k) := by show _ = _; omega
     generalize k / 6 = kd at *;generalize k % 6 = km at *;clear hall hF hB hgk hx hle hInv;go_wp2;go_roundw
     case rel =>
      refine ⟨k + 1, by omega, by go_num, HAl2.out, ?_, ?_⟩
      ·rw [HS.out]
       exact HF.out.setT (i := k) (by omega) HO.out 0
      ·exact HB.out.trans ((Upd.setCell b _ wr _).below hbb HB.out.size)
     case measure => simp [intOf]; omega
    ·obtain ⟨p, rfl⟩ : ∃ p, q = p + 1 := ⟨q - 1, by omega⟩
     have hp32 : p < 32 := by omega
     have HS : Hid _ := namesTo_succ1 (S := S0) (ys := D) (k := k) (p := p) (by rw [HX.out]; rfl);obtain ⟨hr0, hr1⟩ := hInv.bound hp32;obtain ⟨c0, c1, c2, c3, c4⟩ := hF.cells hp32;have f4 := hF.free (p * 5 + 4)
     have o4 : p * 5 + 4 ≠ 160 + k / 6 * 6 + k % 6 := by omega
     have hpi : (p : Int) < 32 := by omega
     rw [Int.natCast_add, Int.natCast_one] at d0 hwq g0
     have gq : ((p : Int) + 1 != 0) = true := by simp; omega
     generalize (namesTo S0 D k).t k = y at ct
     have HO : Hid (160 + k / 6 * 6 + k % 6 = 160 + k) := by show _ = _; omega
     generalize k / 6 = kd at *;generalize k % 6 = km at *;clear hall hF hB hgk hx hle hInv hq0 hx0 hx1
     go_wp2_with fail
     go_region
     all_goals
      go_wp2;go_roundw
      case rel =>
       refine ⟨k + 1, by omega, by go_num, HAl2.out, ?_, ?_⟩
       ·rw [HS.out]
        exact ((HF.out.setT (i := k) (by omega) HO.out (p + 1)).re hp32 _).drew
       ·exact (HB.out.trans (((Upd.setCell b (160 + kd * 6 + km) wr _).trans (Upd.setCell b (p * 5 + 4) _ _)).below hbb HB.out.size)).drew
      case measure => simp [intOf]; omega
   ·have g0 : decide ((n : Int) < x) = true := decide_eq_true (by omega)
    have HNo : Hid (okNm D n = false) := all_range_no hlt (by rw [HX.out]; exact decide_eq_false hle);clear hall hF hB hgk hx;go_wp2;go_ret;exact ⟨by rw [HNo.out]; rfl, (fun e => by rw [HNo.out] at e; cases e), HB.out⟩
  ·obtain rfl : k = 48 := by omega
   have HYes : Hid (okNm D n = true) := by
    show (List.range 48).all _ = true
    rw [List.all_eq_true];intro i hi;exact decide_eq_true (hall i (by simpa using hi))
   clear hall hF hB;go_wp2;go_ret;exact ⟨by rw [HYes.out]; rfl, fun _ => HF.out, HB.out⟩
end Fd
namespace Ow
end Ow
namespace Fd
open Ow
theorem intCells : Tryz.prog.cellsOf 3 = 1 := by kernel_rfl
theorem tabCells : Tryz.prog.cellsOf 105 = 6 := by kernel_rfl
theorem intPlain : Tryz.prog.plainKey 3 = true := by kernel_rfl
theorem sixUnder : Tryz.prog.underlying 105 = some (.array 6 3) := by kernel_rfl
theorem tabUnder : Tryz.prog.underlying 107 = some (.array 8 105) := by kernel_rfl
theorem eq_ints6 (g h : Nat → Nat) (p d : Nat) (W : World) : ∀ (is : List Nat), (∀ i ∈ is, i < 6) → (Op.eqItems (d + 1) 3 1 (six g p).toArray (six h p).toArray is).run Tryz.prog W = .ok (is.all (fun j => g (p * 6 + j) == h (p * 6 + j))) W
 | [], _ => by simp [Op.eqItems]
 | i :: is, hi => by
  have h1 := hi i List.mem_cons_self
  have e1 : (six g p).toArray[i]? = some (.int .i64 (g (p * 6 + i) : Nat)) := by simpa using six_get g p h1
  have e2 : (six h p).toArray[i]? = some (.int .i64 (h (p * 6 + i) : Nat)) := by simpa using six_get h p h1
  have p1 := run_part_plain (P := Tryz.prog) W intPlain e1;have p2 := run_part_plain (P := Tryz.prog) W intPlain e2;have ih := eq_ints6 g h p d W is (fun j hj => hi j (List.mem_cons_of_mem _ hj));have q := run_equalIn_int (P := Tryz.prog) W d 3 .i64 .i64 (g (p * 6 + i) : Nat) (h (p * 6 + i) : Nat) Tryz.underlying3;simp only [Op.eqItems, Nat.mul_one, Sem.run_bind, p1, p2, Result.andThen_ok, q, List.all_cons]
  by_cases hb : g (p * 6 + i) = h (p * 6 + i)
  ·simp [ih, hb]
  ·have : ¬ ((g (p * 6 + i) : Int) = (h (p * 6 + i) : Int)) := by omega
   simp [hb, this]
theorem tab_part (g : Nat → Nat) (p : Nat) (hp : p < 8) (W : World) : (part 105 (tabR g) (p * 6)).run Tryz.prog W = .ok (.agg (six g p).toArray) W := by
 have h1 : (tabR g).extract (p * 6) (p * 6 + 6) = (six g p).toArray := by
  apply Array.ext
  ·simp [tabR_size, six]; omega
  ·intro i h1 h2
   have hi : i < 6 := by simpa [six] using h2
   rw [Array.getElem_extract];simp [tabR, irow, tabL, six]
 have hs : (sizeOf 105).run Tryz.prog W = .ok 6 W := by kernel_rfl
 have ha : (isAgg 105).run Tryz.prog W = .ok true W := by kernel_rfl
 simp only [part, Sem.run_bind, ha, Result.andThen_ok, if_true, hs, Sem.run_pure, h1]
theorem eq_tabs (g h : Nat → Nat) (d : Nat) (W : World) : ∀ (is : List Nat), (∀ i ∈ is, i < 8) → (Op.eqItems (d + 2) 105 6 (tabR g) (tabR h) is).run Tryz.prog W = .ok (is.all (fun p => (List.range 6).all (fun j => g (p * 6 + j) == h (p * 6 + j)))) W
 | [], _ => by simp [Op.eqItems]
 | i :: is, hi => by
  have h1 := hi i List.mem_cons_self;have p1 := tab_part g i h1 W;have p2 := tab_part h i h1 W;have ih := eq_tabs g h d W is (fun j hj => hi j (List.mem_cons_of_mem _ hj))
  have hq : (Tryz.prog.info? 3).isSome = true := by kernel_rfl
  obtain ⟨i0, hi0⟩ := Option.isSome_iff_exists.mp hq
  have q : (Op.equalIn (d + 2) 105 (.agg (six g i).toArray) (.agg (six h i).toArray)).run Tryz.prog W = .ok ((List.range 6).all (fun j => g (i * 6 + j) == h (i * 6 + j))) W := by
   rw [run_equalIn_array W (d + 1) _ _ sixUnder hi0, intCells, eq_ints6 g h i d W _ (fun j hj => List.mem_range.1 hj)]
  simp only [Op.eqItems, Sem.run_bind, p1, p2, Result.andThen_ok, q, List.all_cons]
  cases hb : (List.range 6).all (fun j => g (i * 6 + j) == h (i * 6 + j)) with
  | true => simp [ih]
  | false => simp
theorem all48 (g h : Nat → Nat) : (List.range 8).all (fun p => (List.range 6).all (fun j => g (p * 6 + j) == h (p * 6 + j))) = (List.range 48).all (fun i => g i == h i) := by
 rw [Bool.eq_iff_iff];simp only [List.all_eq_true, List.mem_range, beq_iff_eq];constructor
 ·intro hh i hi
  have := hh (i / 6) (by omega) (i % 6) (by omega)
  rwa [show i / 6 * 6 + i % 6 = i by omega] at this
 ·intro hh p hp j hj
  exact hh (p * 6 + j) (by omega)
theorem tabs_ne (g h : Nat → Nat) (W : World) : (binOp .neq 107 (.agg (tabR g)) (.agg (tabR h))).run Tryz.prog W = .ok (.bool (!(List.range 48).all (fun i => g i == h i))) W := by
 have hq : (Tryz.prog.info? 105).isSome = true := by kernel_rfl
 obtain ⟨i0, hi0⟩ := Option.isSome_iff_exists.mp hq
 have h2 : (Op.equalIn 10000 107 (.agg (tabR g)) (.agg (tabR h))).run Tryz.prog W = .ok ((List.range 48).all (fun i => g i == h i)) W := by
  rw [run_equalIn_array W 9999 _ _ tabUnder hi0, tabCells, eq_tabs g h 9997 W _ (fun j hj => List.mem_range.1 hj), all48]
 generalize (List.range 48).all (fun i => g i == h i) = r at *;go_simp
end Fd
namespace Ow
end Ow
namespace Fd
open Ow
theorem okW_L {ws : List Int} (h : okL ws = false) : okW ws = false := by unfold okW; rw [h]; rfl
theorem okW_F {ws : List Int} (h : okFs ws = false) : okW ws = false := by unfold okW; rw [h]; simp
theorem okW_N {ws : List Int} (h : okNs ws = false) : okW ws = false := by unfold okW; rw [h]; simp
def DecP (ws : List Int) (w : World) (e : Ending) (w' : World) : Prop :=
 (okW ws = true → ∃ b, e = .returned (.tuple #[.pointer (some ⟨b, 0, none⟩), .int .i64 0]) ∧ w.heap.size ≤ b ∧ FdAt w' b (decS ws)) ∧ (okW ws = false → e = .returned (.tuple #[.pointer none, .int .i64 101])) ∧ Below w.heap.size w w'
theorem DecP.no {ws : List Int} {w w' : World} (h : okW ws = false) (hb : Below w.heap.size w w') : DecP ws w (.returned (.tuple #[.pointer none, .int .i64 101])) w' :=
 ⟨(fun e => by rw [h] at e; cases e), fun _ => rfl, hb⟩
theorem decode_short (a : Option Addr) (cap : Nat) (ws : List Int) (w : World) (hr : Rd w a ws) (hu : U64 ws) (hL : okL ws = false) (hlen : ws.length ≤ 1000000) :
  Calls Tryz.prog 15 #[.slice a ws.length cap] w (DecP ws w) := by
 have HN : Hid (okW ws = false) := okW_L hL
 by_cases h0 : ws.length = 0
 ·have HP : Hid (∀ w', Below w.heap.size w w' → DecP ws w (.returned (.tuple #[.pointer none, .int .i64 101])) w') := fun w' hb => DecP.no HN.out hb
  rw [h0];clear hr hu hL hlen h0 HN
  go_enter Tryz.func15, Tryz.ntmps15
  go_wp2
  go_ret2
  exact HP.out _ (Below.refl _ _)
 ·have hg0 := get_getD (ws := ws) (j := 0) (by omega)
  obtain ⟨g, off, rfl, d0⟩ := hr 0 _ hg0;obtain ⟨b0, b1⟩ := u64_get hu hg0;rw [Nat.add_zero] at d0
  have HP : Hid (∀ w', Below w.heap.size w w' → DecP ws w (.returned (.tuple #[.pointer none, .int .i64 101])) w') := fun w' hb => DecP.no HN.out hb
  have e0 : ((ws.length : Int) == 0) = false := beq_false_of_ne (by omega)
  have hl0 : (0 : Int) < (ws.length : Int) := by omega
  by_cases h1 : ws.getD 0 0 ≤ 32
  ·have g1 : decide (32 < ws.getD 0 0) = false := decide_eq_false (by omega)
   obtain ⟨n, hn⟩ : ∃ n : Nat, ws.getD 0 0 = n := ⟨(ws.getD 0 0).toNat, by omega⟩
   have hwn : wN ws = n := by unfold wN; rw [hn]; rfl
   have hne : ws.length ≠ 1 + n * 4 + 48 := by
    intro e;unfold okL at hL;rw [hwn, decide_eq_true (show 1 ≤ ws.length by omega), decide_eq_true h1, decide_eq_true e] at hL
    cases hL
   rw [hn] at d0 g1 h1
   have hwr : IntKind.i64.wrap (n : Int) = n := by simp [IntKind.wrap, IntKind.bits, IntKind.signed]; omega
   generalize hl : ws.length = l at *
   have gl : ((l : Int) != 1 + (n : Int) * 4 + 48) = true := by simp; omega
   have gl2 : ((l : Int) != (n : Int) * 4 + 49) = true := by simp; omega
   clear hr hu hL hg0 hn hwn hl HN b0 b1 hne
   go_enter Tryz.func15, Tryz.ntmps15
   go_wp2
   go_ret2
   exact HP.out _ (Below.refl _ _)
  ·have g1 : decide (32 < ws.getD 0 0) = true := decide_eq_true (by omega)
   generalize ws.getD 0 0 = x at *;generalize ws.length = l at *;clear hr hu hL hg0 HN
   go_enter Tryz.func15, Tryz.ntmps15
   go_wp2
   go_ret2
   exact HP.out _ (Below.refl _ _)
theorem wN_bounds {ws : List Int} (h : okL ws = true) (hu : U64 ws) : wN ws ≤ 32 ∧ ws.getD 0 0 = (wN ws : Int) ∧ ws.length = 1 + wN ws * 4 + 48 := by
 unfold okL at h;simp only [Bool.and_eq_true, decide_eq_true_eq] at h;obtain ⟨⟨h1, h2⟩, h3⟩ := h;have hg0 := get_getD (ws := ws) (j := 0) (by omega);have hb := u64_get hu hg0;unfold wN at *;exact ⟨by omega, by omega, h3⟩
theorem decS_inv {ws : List Int} (h : okL ws = true) (hu : U64 ws) (hn : okNs ws = true) : Inv (decS ws) := by
 obtain ⟨h1, h2, h3⟩ := wN_bounds h hu;refine namesTo_inv (filesTo_inv _ _) (filesTo_t _ _) _ 48 (by omega) (fun j hj => ?_);unfold okNs okNm at hn;rw [List.all_eq_true] at hn;have := hn j (by simpa using hj);simp only [decide_eq_true_eq] at this;omega
theorem decode_long (a : Option Addr) (cap : Nat) (ws : List Int) (w : World) (hr : Rd w a ws) (hu : U64 ws) (hcap : ws.length ≤ cap) (hL : okL ws = true) :
  Calls Tryz.prog 15 #[.slice a ws.length cap] w (DecP ws w) := by
 obtain ⟨n32, hd0, hlen⟩ := wN_bounds hL hu;have hInv := decS_inv hL hu;obtain ⟨n, hn⟩ : ∃ n, n = wN ws := ⟨_, rfl⟩;rw [← hn] at n32 hd0 hlen;obtain ⟨a1, c1, hs1, hc1, hrd1⟩ := cut_wlh ws a ws.length cap 1 (1 + n * 4) rfl (by omega) (by omega) hcap;obtain ⟨a2, c2, hs2, hc2, hrd2⟩ := cut_wl ws a ws.length cap (1 + n * 4) rfl (by omega) hcap
 have hF1 : (ws.take (1 + n * 4)).drop 1 = wF ws := by unfold wF; rw [hn]
 have hF2 : ws.drop (1 + n * 4) = wT ws := by unfold wT; rw [hn]
 rw [hF1] at hrd1;rw [hF2] at hrd2
 have hl1 : (wF ws).length = n * 4 := by unfold wF; rw [← hn, List.length_drop, List.length_take]; omega
 have hl2 : (wT ws).length = 48 := by unfold wT; rw [← hn, List.length_drop]; omega
 rw [show 1 + n * 4 - 1 = n * 4 by omega] at hs1 hc1;rw [show ws.length - (1 + n * 4) = 48 by omega] at hs2 hc2
 have ec : ((1 + n * 4 : Nat) : Int) = 1 + (n : Int) * 4 := by omega
 rw [ec, show ((1 : Nat) : Int) = 1 from rfl] at hs1;rw [ec] at hs2
 have hu1 : U64 (wF ws) := fun x hx => hu x (List.mem_of_mem_take (List.mem_of_mem_drop (by rw [← hF1] at hx; exact hx)))
 have hu2 : U64 (wT ws) := fun x hx => hu x (List.mem_of_mem_drop (by rw [← hF2] at hx; exact hx))
 have hg0 := get_getD (ws := ws) (j := 0) (by omega);obtain ⟨g, off, ea, d0⟩ := hr 0 _ hg0;rw [Nat.add_zero, hd0] at d0;obtain ⟨W, hW⟩ : ∃ W, W = w.alloc (.cells Tryz.zeroCells109 109) := ⟨_, rfl⟩
 have hbW : Below w.heap.size w W := by rw [hW]; exact below_alloc _ _
 have hFW : FdAt W w.heap.size FS.zero := by rw [hW, zc_lit]; exact fd_new w
 have HR1 : Hid _ := readFiles_at w w.heap.size a1 (n * 4) n c1 (wF ws) W rfl hl1 n32 hc1 (hrd1 w hr) hu1 hbW (Nat.le_refl _) hFW
 have HR2 : Hid (∀ V, FdAt V w.heap.size (filesTo (wF ws) n) → Below w.heap.size w V → _) := fun V hV hbV => readNames_at w w.heap.size n a2 c2 (wT ws) (filesTo (wF ws) n) V hl2 n32 (hrd2 w hr) hu2 hbV (Nat.le_refl _) hV (filesTo_inv _ _) (filesTo_t _ _)
 have HFs : Hid (okFs ws = okFm (wF ws) n) := by show _ = _; unfold okFs; rw [hn]
 have HNs : Hid (okNs ws = okNm (wT ws) n) := by show _ = _; unfold okNs; rw [hn]
 have HDS : Hid (decS ws = namesTo (filesTo (wF ws) n) (wT ws) 48) := by show _ = _; unfold decS; rw [hn]
 have HInv := hid hInv
 have HOk : Hid (okW ws = (okFs ws && okNs ws && okO ws)) := by show _ = _; unfold okW; rw [hL]; simp
 have HOo : Hid (okO ws = ((List.range 48).all (fun i => inO (decS ws).t i == (decS ws).t i) && decide ((ord (decS ws).t).length = n))) := by show _ = _; unfold okO; rw [hn]
 have HW := hid hW;have HBW := hid hbW;subst ea;generalize hll : ws.length = l at *;have e0 : ((l : Int) == 0) = false := beq_false_of_ne (by omega)
 have hl0 : (0 : Int) < (l : Int) := by omega
 have g1 : decide (32 < (n : Int)) = false := decide_eq_false (by omega)
 have hwr : IntKind.i64.wrap (n : Int) = n := by simp [IntKind.wrap, IntKind.bits, IntKind.signed]; omega
 have gl : ((l : Int) != 1 + (n : Int) * 4 + 48) = false := by simp; omega
 have hne := ptr_eq w.heap.size;clear hr hu hL hInv hn hrd1 hrd2 hF1 hF2 hl1 hl2 ec hu1 hu2 hg0 hW hbW hFW hll hd0 hlen
 go_enter Tryz.func15, Tryz.ntmps15
 go_wp2_with fail
 rw [← Hid.out HW];clear HW;refine Calls.mono HR1.out ?_
 cases hf : okFm (wF ws) n with
 | false =>
  have HN : Hid (okW ws = false) := okW_F (by rw [HFs.out]; exact hf);rintro e w1 ⟨rfl, -, hb1⟩;have HB1 := hid hb1;clear hb1 hf;go_wp2
  go_ret2
  exact DecP.no HN.out HB1.out
 | true =>
  rintro e w1 ⟨rfl, hf1, hb1⟩;have hR := HR2.out w1 (hf1 (by simp)) hb1
  have HF : Hid (okFs ws = true) := by show _ = _; rw [HFs.out]; exact hf
  clear hf hf1 hb1 HR1 HR2
  go_wp2_with fail
  refine Calls.mono hR ?_
  cases hnn : okNm (wT ws) n with
  | false =>
   have HN : Hid (okW ws = false) := okW_N (by rw [HNs.out]; exact hnn);rintro e w2 ⟨rfl, -, hb2⟩;have HB2 := hid hb2;clear hb2 hnn hR;go_wp2
   go_ret2
   exact DecP.no HN.out HB2.out
  | true =>
   rintro e w2 ⟨rfl, hf2, hb2⟩
   have hF2 : FdAt w2 w.heap.size (decS ws) := by rw [HDS.out]; exact hf2 (by simp)
   have hNs : okNs ws = true := by rw [HNs.out]; exact hnn
   have hIv := HInv.out hNs;have HNs2 := hid hNs;have HL : Hid (w2.rangeAt w.heap.size 160 (ivs (tabL (decS ws).t))) := hF2.trange;have hIO := inOrder_at (decS ws).t hIv.name w2
   have hll : (ivs (tabL (decS ws).t)).length = 48 := by rw [ivs_len, tabL_len]
   have HOL : Hid ((ordI (decS ws).t 48).length = (ord (decS ws).t).length) := ordI_len (decS ws).t 48;have HF2 := hid hF2;have HB2 := hid hb2;have hol := ord_len48 (decS ws).t;clear hnn hR hf2 hF2 hb2 hNs hIv HInv HDS HFs HNs
   go_wp2_with (refine wpList_load_mid rfl 107 _ rfl w.heap.size 160 rfl (ivs (tabL (decS ws).t)) _ HL.out Tryz.underlying107 rfl (by rw [hll]; exact tabSize) ?_)
   refine hIO.mono ?_;rintro e w3 ⟨v3, rfl, hown3, hb3⟩;rw [HOL.out] at hown3;obtain ⟨a3, c3, rfl⟩ := own_slice hown3;have HSz : Hid ((tabR (inO (decS ws).t)).size = 48) := tabR_size _;have hF3 := HF2.out.below hb3;have hB3 : Below w.heap.size w w3 := HB2.out.trans (hb3.mono HB2.out.size);have hF4 := hF3.below (below_alloc w3 (.cells (tabR (inO (decS ws).t)) 107));have HF4 := hid hF4;have HB4 : Hid (Below w.heap.size w (w3.alloc (.cells (tabR (inO (decS ws).t)) 107))) := hB3.alloc hB3.size _
   have HR4 : Hid ((w3.alloc (.cells (tabR (inO (decS ws).t)) 107)).rangeAt w3.heap.size 0 (ivs (tabL (inO (decS ws).t)))) := by
    intro j u hu;rw [Nat.zero_add, cell_of_heap (heap_alloc_new _ _)]
    show (ivs (tabL (inO (decS ws).t))).toArray[j]? = some u
    simpa using hu
   have HL4 : Hid ((w3.alloc (.cells (tabR (inO (decS ws).t)) 107)).rangeAt w.heap.size 160 (ivs (tabL (decS ws).t))) := hF4.trange
   have hne2 := fun V => tabs_ne (inO (decS ws).t) (decS ws).t V
   have hl5 : (ivs (tabL (inO (decS ws).t))).length = 48 := by rw [ivs_len, tabL_len]
   clear hIO HL hown3 hb3 HF2 HB2 hF3 hB3 hF4;generalize hnl : (ord (decS ws).t).length = nl at *;clear hnl
   go_wp2_with (refine wpList_store_row rfl 107 _ _ rfl w3.heap.size (tabR (inO (decS ws).t)) rfl rfl 107 _ (heap_alloc_new _ _) (by rw [HSz.out]; exact tabSize) (by rw [HSz.out]; rfl) (tabOne _) ?_; rw [setRow_alloc_new])
   generalize w3.alloc (.cells (tabR (inO (decS ws).t)) 107) = V at *;generalize w3.heap.size = G at *
   cases hsame : (List.range 48).all (fun i => inO (decS ws).t i == (decS ws).t i) with
   | false =>
    have HN : Hid (okW ws = false) := by show _ = _; rw [HOk.out, HOo.out, hsame]; simp
    have hne3 : ∀ V, (binOp .neq 107 (.agg (ivs (tabL (inO (decS ws).t))).toArray) (.agg (ivs (tabL (decS ws).t)).toArray)).run Tryz.prog V = .ok (.bool true) V := fun V => by
     have := hne2 V;rw [hsame] at this;exact this
    clear hne2 hsame HOo HOk;refine wp_region_held_drew (S := fun w' => w'.rangeAt G 0 (ivs (tabL (inO (decS ws).t))) ∧ w'.rangeAt w.heap.size 160 (ivs (tabL (decS ws).t))) (by kernel_rfl) ⟨(World.rangeAt_drew _ _ _ _).2 HR4.out, (World.rangeAt_drew _ _ _ _).2 HL4.out⟩ (fun hHeld => ?_);refine tkv 0 (.agg (ivs (tabL (inO (decS ws).t))).toArray) rfl (yieldsIf_load_mid (by kernel_rfl) 107 _ rfl G 0 rfl (ivs (tabL (inO (decS ws).t))) _ (fun w hw => hw.1) Tryz.underlying107 rfl (by rw [hl5]; exact tabSize)) ?_
    (try simp only [Act.put, lq])
    refine tkz [1, 2, 3] ?_
    iterate 3
     refine tkq (v := ?_) rfl (Or.inl ⟨by kernel_rfl, ?_⟩) ?_
     rotate_left
     ·(intro w hSw; (try dsimp only at hSw); go_simp) <;> with_reducible rfl
     (try simp only [Act.put, lq])
    refine tkw ?_;refine tkv 4 (.agg (ivs (tabL (decS ws).t)).toArray) rfl (yieldsIf_load_mid (by kernel_rfl) 107 _ rfl w.heap.size 160 rfl (ivs (tabL (decS ws).t)) _ (fun w hw => hw.2) Tryz.underlying107 rfl (by rw [hll]; exact tabSize)) ?_
    (try simp only [Act.put, lq])
    refine tkz [5, 6] ?_
    iterate 2
     refine tkq (v := ?_) rfl (Or.inl ⟨by kernel_rfl, ?_⟩) ?_
     rotate_left
     ·(intro w hSw; (try dsimp only at hSw); go_simp) <;> with_reducible rfl
     (try simp only [Act.put, lq])
    refine tkw ?_;refine tkz [7, 8, 9, 10] ?_
    iterate 4
     refine tkq (v := undef) rfl (Or.inr ⟨by kernel_rfl, rfl⟩) ?_
     (try simp only [Act.put, lq])
    refine tkw ?_;refine tkz [11] ?_
    iterate 1
     refine tkq (v := ?_) rfl (Or.inl ⟨by kernel_rfl, ?_⟩) ?_
     rotate_left
     ·(intro w hSw; (try dsimp only at hSw); go_simp) <;> with_reducible rfl
     (try simp only [Act.put, lq])
    refine tkw ?_;refine wpAnyH_done (by kernel_rfl) ?_ _;clear hHeld;go_wp2
    go_ret2
    exact DecP.no HN.out HB4.out.drew
   | true =>
    have hne3 : ∀ V, (binOp .neq 107 (.agg (ivs (tabL (inO (decS ws).t))).toArray) (.agg (ivs (tabL (decS ws).t)).toArray)).run Tryz.prog V = .ok (.bool false) V := fun V => by
     have := hne2 V;rw [hsame] at this;exact this
    rw [hsame] at HOo
    by_cases hnl : nl = n
    ·have HY : Hid (okW ws = true) := by show _ = _; rw [HOk.out, HF.out, HNs2.out, HOo.out, decide_eq_true hnl]; rfl
     have gnl : ((nl : Int) != (n : Int)) = false := by simp [hnl]
     clear hne2 hsame HOo HOk hnl;refine wp_region_held_drew (S := fun w' => w'.rangeAt G 0 (ivs (tabL (inO (decS ws).t))) ∧ w'.rangeAt w.heap.size 160 (ivs (tabL (decS ws).t))) (by kernel_rfl) ⟨(World.rangeAt_drew _ _ _ _).2 HR4.out, (World.rangeAt_drew _ _ _ _).2 HL4.out⟩ (fun hHeld => ?_);refine tkv 0 (.agg (ivs (tabL (inO (decS ws).t))).toArray) rfl (yieldsIf_load_mid (by kernel_rfl) 107 _ rfl G 0 rfl (ivs (tabL (inO (decS ws).t))) _ (fun w hw => hw.1) Tryz.underlying107 rfl (by rw [hl5]; exact tabSize)) ?_
     (try simp only [Act.put, lq])
     refine tkz [1, 2, 3] ?_
     iterate 3
      refine tkq (v := ?_) rfl (Or.inl ⟨by kernel_rfl, ?_⟩) ?_
      rotate_left
      ·(intro w hSw; (try dsimp only at hSw); go_simp) <;> with_reducible rfl
      (try simp only [Act.put, lq])
     refine tkw ?_;refine tkv 4 (.agg (ivs (tabL (decS ws).t)).toArray) rfl (yieldsIf_load_mid (by kernel_rfl) 107 _ rfl w.heap.size 160 rfl (ivs (tabL (decS ws).t)) _ (fun w hw => hw.2) Tryz.underlying107 rfl (by rw [hll]; exact tabSize)) ?_
     (try simp only [Act.put, lq])
     refine tkz [5, 6, 7, 8, 9, 10, 11] ?_
     iterate 7
      refine tkq (v := ?_) rfl (Or.inl ⟨by kernel_rfl, ?_⟩) ?_
      rotate_left
      ·(intro w hSw; (try dsimp only at hSw); go_simp) <;> with_reducible rfl
      (try simp only [Act.put, lq])
     refine tkw ?_;refine wpAnyH_done (by kernel_rfl) ?_ _;clear hHeld;go_wp2
     go_ret2
     exact ⟨fun _ => ⟨w.heap.size, rfl, Nat.le_refl _, HF4.out.drew⟩, (fun e => by rw [HY.out] at e; cases e), HB4.out.drew⟩
    ·have HN : Hid (okW ws = false) := by show _ = _; rw [HOk.out, HOo.out, decide_eq_false hnl]; simp
     have gnl : ((nl : Int) != (n : Int)) = true := by simp; omega
     clear hne2 hsame HOo HOk hnl;refine wp_region_held_drew (S := fun w' => w'.rangeAt G 0 (ivs (tabL (inO (decS ws).t))) ∧ w'.rangeAt w.heap.size 160 (ivs (tabL (decS ws).t))) (by kernel_rfl) ⟨(World.rangeAt_drew _ _ _ _).2 HR4.out, (World.rangeAt_drew _ _ _ _).2 HL4.out⟩ (fun hHeld => ?_);refine tkv 0 (.agg (ivs (tabL (inO (decS ws).t))).toArray) rfl (yieldsIf_load_mid (by kernel_rfl) 107 _ rfl G 0 rfl (ivs (tabL (inO (decS ws).t))) _ (fun w hw => hw.1) Tryz.underlying107 rfl (by rw [hl5]; exact tabSize)) ?_
     (try simp only [Act.put, lq])
     refine tkz [1, 2, 3] ?_
     iterate 3
      refine tkq (v := ?_) rfl (Or.inl ⟨by kernel_rfl, ?_⟩) ?_
      rotate_left
      ·(intro w hSw; (try dsimp only at hSw); go_simp) <;> with_reducible rfl
      (try simp only [Act.put, lq])
     refine tkw ?_;refine tkv 4 (.agg (ivs (tabL (decS ws).t)).toArray) rfl (yieldsIf_load_mid (by kernel_rfl) 107 _ rfl w.heap.size 160 rfl (ivs (tabL (decS ws).t)) _ (fun w hw => hw.2) Tryz.underlying107 rfl (by rw [hll]; exact tabSize)) ?_
     (try simp only [Act.put, lq])
     refine tkz [5, 6, 7, 8, 9, 10, 11] ?_
     iterate 7
      refine tkq (v := ?_) rfl (Or.inl ⟨by kernel_rfl, ?_⟩) ?_
      rotate_left
      ·(intro w hSw; (try dsimp only at hSw); go_simp) <;> with_reducible rfl
      (try simp only [Act.put, lq])
     refine tkw ?_;refine wpAnyH_done (by kernel_rfl) ?_ _;clear hHeld;go_wp2
     go_ret2
     exact DecP.no HN.out HB4.out.drew
theorem decode_at (a : Option Addr) (cap : Nat) (ws : List Int) (w : World) (hr : Rd w a ws) (hu : U64 ws) (hcap : ws.length ≤ cap) (hlen : ws.length ≤ 1000000) :
  Calls Tryz.prog 15 #[.slice a ws.length cap] w (DecP ws w) := by
 cases h : okL ws with
 | true => exact decode_long a cap ws w hr hu hcap h
 | false => exact decode_short a cap ws w hr hu h hlen
end Fd
end Go.Proofs.YtinaeifpoljfoaaGreatDoor
