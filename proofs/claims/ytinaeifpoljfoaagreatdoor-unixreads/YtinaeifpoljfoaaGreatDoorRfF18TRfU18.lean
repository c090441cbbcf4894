import Derived.Test.YtinaeifpoljfoaaGreatDoorRfE18
import Derived.Test.YtinaeifpoljfoaaGreatDoorFdHTFdP
import Derived.Laws.AppendOwnNone
import Derived.Lib.SmallJoins
set_option linter.all false
set_option maxRecDepth 100000
set_option maxHeartbeats 16000000
namespace Go.Proofs.YtinaeifpoljfoaaGreatDoor
open Go.RowKit
namespace Ow
end Ow
namespace Fd
open Ow
theorem RL.mem {L : List En} {S : FS} (h : RL L S) {e : En} (he : e ∈ L) : ∃ q, q ∈ ord S.t ∧ e.x = S.f (q - 1) ∧ e.d = ks S.t q := by
 have h1 : e.ab ∈ refL S := by rw [← h]; exact List.mem_map_of_mem he
 obtain ⟨q, hq, e1⟩ := (mem_refL S _).1 h1;exact ⟨q, hq, (congrArg Prod.fst e1).symm, (congrArg Prod.snd e1).symm⟩
theorem RL.dl {L : List En} {S : FS} (h : RL L S) : ∀ e ∈ L, e.d.length ≤ 48 := fun e he => by
 obtain ⟨q, _, _, e2⟩ := h.mem he;rw [e2];exact ks_len _ _
theorem RL.ll {L : List En} {S : FS} (h : RL L S) : L.length ≤ 48 := by rw [h.len]; exact ord_len48 _
theorem atR_no {S : FS} {pid fd : Int} (h : nm S pid fd = 0) : atR S pid fd = -1 := by unfold atR; rw [if_pos h]
theorem atR_yes {S : FS} {pid fd : Int} (h : nm S pid fd ≠ 0) : ∃ i : Nat, atR S pid fd = (i : Int) ∧ (ord S.t)[i]? = some (nm S pid fd) ∧ i < 48 := by
 have hm := mem_nm h;have hlt := List.idxOf_lt_length_of_mem hm;have hl := ord_len48 S.t;refine ⟨(ord S.t).idxOf (nm S pid fd), by unfold atR; rw [if_neg h], ?_, by omega⟩;rw [List.getElem?_eq_getElem hlt];simp
theorem ra_at (B c : Nat) (v : Value) (L : List En) (S : FS) (pid fd : Int) (w : World) (h : RIs w B c v L) (hL : RL L S) :
  Calls Tryz.prog 104 #[.pointer (some ⟨c, 0, none⟩), .int .i64 pid, .int .i64 fd] w fun e w' => e = .returned (.int .i64 (atR S pid fd)) ∧ w' = w := by
 have h1 := rat_at B c v L pid fd w h (by have := hL.ll; omega) (fun e he => by have := hL.dl e he; omega)
 rwa [hL.at] at h1
theorem rfree_at (B c : Nat) (v : Value) (L : List En) (S : FS) (m : Nat) (w : World) (h : RIs w B c v L) (hL : RL L S) (hm : m < 8) :
  Calls Tryz.prog 135 #[.pointer (some ⟨c, 0, none⟩), .int .i64 ((m : Int) + 1)] w fun e w' => e = .returned (.int .i64 (fdOf S m)) ∧ w' = w := by
 have hA := fun fd => ra_at B c v L S ((m : Int) + 1) fd w h hL
 clear h hL
 have HNm : Hid (∀ k : Nat, k < 6 → nm S ((m : Int) + 1) k = S.t (m * 6 + k)) := fun k hk => nm_of hm hk
 generalize hpp : (m : Int) + 1 = pp at *
 go_enter Tryz.func135, Tryz.ntmps135
 go_wp2
 go_loopw [5] (fun s wr => ∃ (k : Nat), k ≤ 6 ∧ s = .int .i64 k ∧ Hid (∀ i, i < k → S.t (m * 6 + i) ≠ 0) ∧ wr = w) (fun s _ => 6 - (intOf s).toNat)
 case atStart => exact ⟨0, by omega, rfl, (show Hid _ from fun i hi => absurd hi (Nat.not_lt_zero _)), rfl⟩
 case round =>
  obtain ⟨k, hk, rfl, HN, hw⟩ := hrel;subst hw
  by_cases hlt : k < 6
  ·have hki : (k : Int) < 6 := by omega
   have hAk := hA k
   by_cases h0 : S.t (m * 6 + k) = 0
   ·have HF : Hid (fdOf S m = (k : Int)) := low_yes hlt (by simpa using h0) (fun j hj => by simpa using HN.out j hj)
    rw [atR_no (by rw [HNm.out k hlt]; exact h0)] at hAk;clear h0 hA
    go_wp2_with (go_at_call 104; refine hAk.mono ?_; rintro e w1 ⟨rfl, hw⟩; rw [hw]; clear hw w1)
    go_ret;exact ⟨by rw [HF.out]; rfl, rfl⟩
   ·obtain ⟨i, hi, -, hi2⟩ := atR_yes (S := S) (pid := pp) (fd := k) (by rw [HNm.out k hlt]; exact h0)
    rw [hi] at hAk
    have HN2 : Hid (∀ i, i < k + 1 → S.t (m * 6 + i) ≠ 0) := fun j hj => by
     rcases Nat.lt_or_ge j k with q1 | q1
     ·exact HN.out j q1
     ·have : j = k := by omega
      rw [this];exact h0
    have hin : decide ((i : Int) < 0) = false := decide_eq_false (by omega);clear h0 hi HN
    go_wp2_with (go_at_call 104; refine hAk.mono ?_; rintro e w1 ⟨rfl, hw⟩; rw [hw]; clear hw w1)
    go_roundw
    case rel => exact ⟨k + 1, by omega, by go_num, HN2, by first | rfl | trivial⟩
    case measure => simp [intOf]; omega
  ·have HF : Hid (fdOf S m = -1) := low_no (fun j hj => by simpa using HN.out j (by omega))
   obtain rfl : k = 6 := by omega
   clear HN;go_wp2;go_ret;exact ⟨by rw [HF.out]; rfl, rfl⟩
end Fd
namespace Ow
end Ow
namespace Fd
open Ow
theorem pInfo : (Tryz.prog.info? 36).map (fun i => (i.zero, i.size, i.bytes)) = some (some (.agg #[.int .i64 0, .int .i64 0]), 2, 16) := by kernel_rfl
def PX (w : World) (a : Option Addr) (N : List Nat) : Prop := ∀ i u, (prs N)[i]? = some u → ∃ g off, a = some ⟨g, off, none⟩ ∧ w.cell? ⟨g, off + i, none⟩ = some u
theorem PX.one {w : World} (x : Nat) (a b : Int) (ha : ((x / 6 + 1 : Nat) : Int) = a) (hb : ((x % 6 : Nat) : Int) = b) : PX (w.alloc (.cells #[.int .i64 a, .int .i64 b] 36)) (some ⟨w.heap.size, 0, none⟩) [x] := by
 intro i u hu;subst ha hb;refine ⟨w.heap.size, 0, rfl, ?_⟩;have hi := (List.getElem?_eq_some_iff.1 hu).1;rw [prs_len] at hi;simp only [List.length_cons, List.length_nil] at hi;rw [Nat.zero_add, cell_of_heap (heap_alloc_new _ _), ← hu]
 obtain rfl | rfl : i = 0 ∨ i = 1 := by omega
 all_goals rfl
theorem own_PRd {w : World} {B : Nat} {a : Option Addr} {n cap : Nat} {d : List Nat} (h : w.ownsRow B 36 2 (.slice a n cap) d.length (prs d)) : PRd w a d ∧ d.length ≤ cap ∧ n = d.length := by
 refine ⟨PRd.of_own h, ?_⟩
 rcases h.2 with ⟨e, e2⟩ | ⟨g, cap', cur, e, _, hh, q1, _⟩
 ·simp only [Value.slice.injEq] at e
  exact ⟨by omega, by omega⟩
 ·simp only [Value.slice.injEq] at e
  exact ⟨by omega, by omega⟩
end Fd
namespace Ow
end Ow
namespace Fd
open Ow
theorem rbit_at (b : Bool) (w : World) :
  Calls Tryz.prog 103 #[.bool b] w fun e w' => e = .returned (.int .u64 (if b then 1 else 0)) ∧ w' = w := by
 cases b with
 | true =>
  go_enter Tryz.func103, Tryz.ntmps103
  go_wp2;go_ret;exact ⟨rfl, rfl⟩
 | false =>
  go_enter Tryz.func103, Tryz.ntmps103
  go_wp2;go_ret;exact ⟨rfl, rfl⟩
end Fd
namespace Ow
end Ow
namespace Fd
open Ow
theorem app4 {w : World} {B n c : Nat} {a : Option Addr} {D : List Int} (ho : w.ownsRow B 45 1 (.slice a n c) D.length (uvs D)) (hn : D.length = n) (hB : B ≤ w.heap.size) (hl : n ≤ 900) (x0 x1 x2 x3 : Int) (d : Bool) :
  ∃ a' c' w', (∀ ty, (Builtin.append_ #[22, 22] ty #[.slice a n c, .slice (some ⟨w.heap.size, 0, none⟩) 4 4]).run Tryz.prog (if d then (w.alloc (.cells #[.int .u64 x0, .int .u64 x1, .int .u64 x2, .int .u64 x3] 45)).drew else (w.alloc (.cells #[.int .u64 x0, .int .u64 x1, .int .u64 x2, .int .u64 x3] 45))) = .ok (.slice a' (n + 4) c') w') ∧ w'.ownsRow B 45 1 (.slice a' (n + 4) c') (D ++ [x0, x1, x2, x3]).length (uvs (D ++ [x0, x1, x2, x3])) ∧ Below B w w' ∧ w.grownBy w' (Value.slice a n c).ownBlock := by
 obtain ⟨i0, hi0, hzz⟩ := Option.map_eq_some_iff.1 wordInfo;simp only [Prod.mk.injEq] at hzz;obtain ⟨hz0, hz1, hz2⟩ := hzz;obtain ⟨W, hW⟩ : ∃ W, W = (if d then (w.alloc (.cells #[.int .u64 x0, .int .u64 x1, .int .u64 x2, .int .u64 x3] 45)).drew else (w.alloc (.cells #[.int .u64 x0, .int .u64 x1, .int .u64 x2, .int .u64 x3] 45))) := ⟨_, rfl⟩;rw [← hW]
 have hbe : Below w.heap.size w W := by
  rw [hW]
  cases d
  ·exact below_alloc _ _
  ·exact (below_alloc _ _).drew
 have hnew : W.heap[w.heap.size]? = some (.cells #[.int .u64 x0, .int .u64 x1, .int .u64 x2, .int .u64 x3] 45) := by
  rw [hW]
  cases d
  ·exact heap_alloc_new _ _
  ·exact heap_alloc_new _ _
 clear hW;have ho1 := ownsRow_below ho hbe
 obtain ⟨g', cap', w', hr', hown, hgrow, _, _⟩ := run_append_lies (P := Tryz.prog) W 22 0 B 45 i0 _ 1 8 Tryz.underlying22 hi0 hz0 hz1 hz2 rfl (by omega) _ D.length (uvs D) ho1
  ⟨w.heap.size, 0, none⟩ 4 4 (uvs [x0, x1, x2, x3]) rfl (fun j x hx => by
    rw [add0, Nat.zero_add, cell_of_heap hnew, ← hx]
    simp [uvs]) (uvs_one _) (by omega) (by unfold maxLen; omega) (by omega) (Nat.le_trans hB hbe.size) _ rfl
 rw [hn] at hr' hown;refine ⟨some ⟨g', 0, none⟩, cap', w', fun ty => hr', ?_, (hbe.mono hB).trans (below_grown hgrow (Nat.le_trans hB hbe.size) (ownsRow_low ho1)), grown_trans (grown_below _ hbe) hgrow⟩;rw [List.length_append, uvs_app, hn];exact hown
theorem app1 {w : World} {B n c : Nat} {a : Option Addr} {D : List Int} (ho : w.ownsRow B 45 1 (.slice a n c) D.length (uvs D)) (hn : D.length = n) (hB : B ≤ w.heap.size) (hl : n ≤ 900) (x0 : Int) :
  ∃ a' c' w', (∀ ty, (Builtin.append_ #[22, 22] ty #[.slice a n c, .slice (some ⟨w.heap.size, 0, none⟩) 1 1]).run Tryz.prog (w.alloc (.cells #[.int .u64 x0] 45)) = .ok (.slice a' (n + 1) c') w') ∧ w'.ownsRow B 45 1 (.slice a' (n + 1) c') (D ++ [x0]).length (uvs (D ++ [x0])) ∧ Below B w w' := by
 obtain ⟨i0, hi0, hzz⟩ := Option.map_eq_some_iff.1 wordInfo;simp only [Prod.mk.injEq] at hzz;obtain ⟨hz0, hz1, hz2⟩ := hzz;have hbe : Below w.heap.size w (w.alloc (.cells #[.int .u64 x0] 45)) := below_alloc _ _;have hnew : (w.alloc (.cells #[.int .u64 x0] 45)).heap[w.heap.size]? = some (.cells #[.int .u64 x0] 45) := heap_alloc_new _ _;have ho1 := ownsRow_below ho hbe
 obtain ⟨g', cap', w', hr', hown, hgrow, _, _⟩ := run_append_lies (P := Tryz.prog) _ 22 0 B 45 i0 _ 1 8 Tryz.underlying22 hi0 hz0 hz1 hz2 rfl (by omega) _ D.length (uvs D) ho1
  ⟨w.heap.size, 0, none⟩ 1 1 (uvs [x0]) rfl (fun j x hx => by
    rw [add0, Nat.zero_add, cell_of_heap hnew, ← hx]
    simp [uvs]) (uvs_one _) (by omega) (by unfold maxLen; omega) (by omega) (Nat.le_trans hB hbe.size) _ rfl
 rw [hn] at hr' hown;refine ⟨some ⟨g', 0, none⟩, cap', w', fun ty => hr', ?_, (hbe.mono hB).trans (below_grown hgrow (Nat.le_trans hB hbe.size) (ownsRow_low ho1))⟩;rw [List.length_append, uvs_app, hn];exact hown
end Fd
namespace Ow
end Ow
namespace Fd
open Ow
theorem at_cn (S : FS) (m j : Nat) (hm : m < 8) (hj : j < 6) : atR S ((m : Int) + 1) j + 1 = (inO S.t (m * 6 + j) : Nat) := by
 unfold atR inO cn;rw [nm_of hm hj]
 by_cases h : S.t (m * 6 + j) = 0
 ·rw [if_pos h, if_pos h]
  rfl
 ·rw [if_neg h, if_neg h, if_pos ((mem_ord _ _).2 ⟨h, m * 6 + j, by omega, rfl⟩)]
  rfl
theorem inO_le (t : Nat → Nat) (k : Nat) : inO t k ≤ 48 := by
 unfold inO cn
 split
 ·omega
 ·split
  ·rename_i hm
   have := List.idxOf_lt_length_of_mem hm;have := ord_len48 t;omega
  ·omega
theorem rencode_at (B c : Nat) (v : Value) (L : List En) (S : FS) (w : World) (h : RIs w B c v L) (hL : RL L S) (hI : Inv S) (hF : FitS S) :
  Calls Tryz.prog 49 #[.pointer (some ⟨c, 0, none⟩)] w fun e w' => ∃ u, e = .returned u ∧ w'.ownsRow w.heap.size 45 1 u (encW S).length (uvs (encW S)) ∧ Below w.heap.size w w' := by
 obtain ⟨av, cv, rfl, hcv⟩ := h.form;have hll := hL.ll;have hlo := hL.len;have c0 := h.c0;generalize hlg : L.length = ll at *;have HLl := hid hlg;have HLo := hid hlo;have HH := hid h;have HL := hid hL;have HI := hid hI;have HF := hid hF
 have hwn : IntKind.u64.wrap (ll : Int) = ll := by
  simp [IntKind.wrap, IntKind.bits, IntKind.signed];omega
 have HE0 : Hid ((w.alloc (.cells #[.int .u64 ll] 45)).ownsRow w.heap.size 45 1 (.slice (some ⟨w.heap.size, 0, none⟩) 1 1) (encHk S 0).length (uvs (encHk S 0))) := by
  have : encHk S 0 = [(ll : Int)] := by unfold encHk; rw [HLo.out]; rfl
  rw [this];exact own_one w.heap.size ll (Nat.le_refl _)
 clear h hL hI hF hlg hlo
 go_enter Tryz.func49, Tryz.ntmps49
 go_wp2;clear c0
 go_loopw [3, 4] (fun s i wr => ∃ (k n cp : Nat) (a : Option Addr), k ≤ ll ∧ i = .int .i64 k ∧ s = .slice a n cp ∧ Hid ((encHk S k).length = n) ∧ wr.ownsRow w.heap.size 45 1 (.slice a n cp) (encHk S k).length (uvs (encHk S k)) ∧ Below w.heap.size w wr) (fun _ i _ => ll - (intOf i).toNat)
 case atStart => exact ⟨0, 1, 1, _, by omega, rfl, rfl, (show Hid _ from rfl), HE0.out, below_alloc _ _⟩
 case round =>
  clear HE0;obtain ⟨k, n, cp, a, hk, rfl, rfl, HN, hown, hb⟩ := hrel;have hR := HH.out.below hb;have c0 := hR.c0
  have hnl : n ≤ 200 := by have := encHk_len S k; have := HN.out; omega
  have HB := hid hb;have HO := hid hown
  by_cases hlt : k < ll
  ·obtain ⟨q, hq⟩ : ∃ q, (ord S.t)[k]? = some q := ⟨(ord S.t)[k]'(by rw [← HLo.out]; exact hlt), List.getElem?_eq_getElem _⟩
   obtain ⟨e, he⟩ := HL.out.some hq;obtain ⟨e1, -⟩ := HL.out.get he hq;obtain ⟨-, -, hfit⟩ := fit_ord HI.out HF.out hq;rw [← e1] at hfit;obtain ⟨g, cap, e2, _, _, hc⟩ := hR.at he;simp only [Value.slice.injEq] at e2;obtain ⟨rfl, -, rfl⟩ := e2
   have HS : Hid (encHk S (k + 1) = encHk S k ++ flW e.x) := by show _ = _; rw [encHk_succ S k q hq, e1]
   have d0 : wr.cell? ⟨g, k * 6, none⟩ = some (.int .i64 e.x.kind) := hc 0 (by omega);have d1 : wr.cell? ⟨g, k * 6 + 1, none⟩ = some (.int .i64 e.x.id) := hc 1 (by omega);have d2 : wr.cell? ⟨g, k * 6 + 2, none⟩ = some (.int .i64 e.x.off) := hc 2 (by omega);have d3 : wr.cell? ⟨g, k * 6 + 3, none⟩ = some (.bool e.x.app) := hc 3 (by omega);have d4 : wr.cell? ⟨g, k * 6 + 4, none⟩ = some (.int .i64 e.x.refs) := hc 4 (by omega)
   have hki : (k : Int) < (ll : Int) := by omega
   have i1 : decide ((k : Int) < (ll : Int)) = true := decide_eq_true hki;generalize e.x = x at *;obtain ⟨xk, xi, xo, xa, xr⟩ := x;obtain ⟨k1, k2, i1', i2, o1, o2⟩ := hfit;dsimp only at *
   have wk : IntKind.u64.wrap xk = xk := by simp [IntKind.wrap, IntKind.bits, IntKind.signed]; omega
   have wi : IntKind.u64.wrap xi = xi := by simp [IntKind.wrap, IntKind.bits, IntKind.signed]; omega
   have wo : IntKind.u64.wrap xo = xo := by simp [IntKind.wrap, IntKind.bits, IntKind.signed]; omega
   clear hR hc he hq e1 hown hb k1 k2 i1' i2 o1 o2
   go_wp2_with fail
   have hnewV : (wr.alloc (.cells #[.int .i64 xk, .int .i64 xi, .int .i64 xo, .bool xa, .int .i64 xr] 102)).heap[wr.heap.size]? = some (.cells #[.int .i64 xk, .int .i64 xi, .int .i64 xo, .bool xa, .int .i64 xr] 102) := heap_alloc_new _ _;have HOV : Hid ((wr.alloc (.cells #[.int .i64 xk, .int .i64 xi, .int .i64 xo, .bool xa, .int .i64 xr] 102)).ownsRow w.heap.size 45 1 (.slice a n cp) (encHk S k).length (uvs (encHk S k))) := ownsRow_below HO.out (below_alloc _ _);have HBV : Hid (Below w.heap.size w (wr.alloc (.cells #[.int .i64 xk, .int .i64 xi, .int .i64 xo, .bool xa, .int .i64 xr] 102))) := HB.out.trans ((below_alloc _ _).mono HB.out.size);generalize hV : wr.alloc (.cells #[.int .i64 xk, .int .i64 xi, .int .i64 xo, .bool xa, .int .i64 xr] 102) = V at *;generalize wr.heap.size = X at *;obtain ⟨bi, hbi⟩ : ∃ bi : Int, (if xa then (1 : Int) else 0) = bi := ⟨_, rfl⟩
   have hbt := fun W => rbit_at xa W
   simp only [hbi] at hbt;obtain ⟨a', c', w', hrun, hown', hbel', hgr⟩ := app4 HOV.out HN.out HBV.out.size (by omega) xk xi xo bi true;have hbv : Below w.heap.size V w' := hbel';have HRun : Hid _ := hrun
   have HO' : Hid (w'.ownsRow w.heap.size 45 1 (.slice a' (n + 4) c') (encHk S (k + 1)).length (uvs (encHk S (k + 1)))) := by rw [HS.out]; rw [← hbi] at hown'; exact hown'
   have HB' : Hid (Below w.heap.size w w') := HBV.out.trans hbel'
   have z0 : V.cell? ⟨X, 0, none⟩ = some (.int .i64 xk) := by rw [cell_of_heap hnewV]; rfl
   have z1 : V.cell? ⟨X, 1, none⟩ = some (.int .i64 xi) := by rw [cell_of_heap hnewV]; rfl
   have z2 : V.cell? ⟨X, 2, none⟩ = some (.int .i64 xo) := by rw [cell_of_heap hnewV]; rfl
   have z3 : V.cell? ⟨X, 3, none⟩ = some (.bool xa) := by rw [cell_of_heap hnewV]; rfl
   have hnw : w'.heap[X]? = some (.cells #[.int .i64 xk, .int .i64 xi, .int .i64 xo, .bool xa, .int .i64 xr] 102) := by
    refine (hgr.block X (lt_of_heap hnewV) (fun e => ?_)).trans hnewV;obtain ⟨cs, hcs⟩ := own_type HOV.out (g := X) e.symm;rw [hcs] at hnewV;simp only [Option.some.injEq, Obj.cells.injEq] at hnewV;exact absurd hnewV.2.1 (by decide)
   have y0 : w'.cell? ⟨X, 0, none⟩ = some (.int .i64 xk) := by rw [cell_of_heap hnw]; rfl
   have y1 : w'.cell? ⟨X, 1, none⟩ = some (.int .i64 xi) := by rw [cell_of_heap hnw]; rfl
   have y2 : w'.cell? ⟨X, 2, none⟩ = some (.int .i64 xo) := by rw [cell_of_heap hnw]; rfl
   have y3 : w'.cell? ⟨X, 3, none⟩ = some (.bool xa) := by rw [cell_of_heap hnw]; rfl
   have HN' : Hid ((encHk S (k + 1)).length = n + 4) := by show _ = _; rw [HS.out, List.length_append, HN.out]; rfl
   clear hbi hV hnewV hnw hgr c0 d0 d1 d2 d3 d4 hrun hown' hbel' HO HB HOV HBV hbv
   go_region_held3 (fun w' => w'.cell? ⟨X, 0, none⟩ = some (.int .i64 xk) ∧ w'.cell? ⟨X, 1, none⟩ = some (.int .i64 xi) ∧ w'.cell? ⟨X, 2, none⟩ = some (.int .i64 xo) ∧ w'.cell? ⟨X, 3, none⟩ = some (.bool xa))
    (first | go_keep | (exact ⟨z0, z1, z2, z3⟩) | (exact ⟨y0, y1, y2, y3⟩))
    (first
      | (go_at_call 103; refine (hbt _).mono ?_; rintro e wq ⟨rfl, rfl⟩)
      | (refine step_append_eq rfl (.tmp 32) (.tmp 45) 22 rfl (.slice a n cp) (.slice (some ⟨V.heap.size, 0, none⟩) 4 4) (.slice a' (n + 4) c') (by rfl) (by rfl) HRun.out ?_))
   all_goals
    go_wp2;go_roundw
    case rel => exact ⟨k + 1, n + 4, c', a', by omega, by go_num, rfl, HN', HO'.out, HB'.out⟩
    case measure => simp [intOf]; omega
  ·obtain rfl : k = ll := by omega
   have hal : encHk S k = encH S ++ encN S (0 * 6) := by
    have : encN S (0 * 6) = [] := rfl;rw [this, List.append_nil, HLo.out];exact encHk_all S
   have hEl : (encH S).length ≤ 1 + 48 * 4 := by rw [encH_len]; have := ord_len48 S.t; omega
   rw [hal] at HO HN;have HEl := hid hEl;clear hR hown hb hal hEl;go_wp2
   go_loopw [3, 6] (fun s i wr => ∃ (m n cp : Nat) (a : Option Addr), m ≤ 8 ∧ i = .int .i64 ((m : Int) + 1) ∧ s = .slice a n cp ∧ Hid ((encH S ++ encN S (m * 6)).length = n) ∧ wr.ownsRow w.heap.size 45 1 (.slice a n cp) (encH S ++ encN S (m * 6)).length (uvs (encH S ++ encN S (m * 6))) ∧ Below w.heap.size w wr) (fun _ i _ => 9 - (intOf i).toNat)
   case atStart => exact ⟨0, n, cp, a, by omega, rfl, rfl, HN, HO.out, HB.out⟩
   case round =>
    clear HO HB HN hnl;obtain ⟨m, n, cp, a, hm, rfl, rfl, HN, hown, hb⟩ := hrel;have HB := hid hb;have HO := hid hown;clear hown hb
    by_cases hlm : m < 8
    ·have i1 : decide ((m : Int) + 1 ≤ 8) = true := decide_eq_true (by omega)
     go_wp2
     go_loopw [3, 7] (fun s i wr => ∃ (j n cp : Nat) (a : Option Addr), j ≤ 6 ∧ i = .int .i64 j ∧ s = .slice a n cp ∧ Hid ((encH S ++ encN S (m * 6 + j)).length = n) ∧ wr.ownsRow w.heap.size 45 1 (.slice a n cp) (encH S ++ encN S (m * 6 + j)).length (uvs (encH S ++ encN S (m * 6 + j))) ∧ Below w.heap.size w wr) (fun _ i _ => 6 - (intOf i).toNat)
     case atStart => exact ⟨0, n, cp, a, by omega, rfl, rfl, HN, HO.out, HB.out⟩
     case round =>
      clear HO HB HN;obtain ⟨j, n, cp, a, hj, rfl, rfl, HN, hown, hb⟩ := hrel;have HB := hid hb;have HO := hid hown
      by_cases hlj : j < 6
      ·have i2 : decide ((j : Int) < 6) = true := decide_eq_true (by omega)
       have hA := ra_at B c _ L S ((m : Int) + 1) j wr (HH.out.below hb) HL.out;have hcn := at_cn S m j hlm hlj;have hle := inO_le S.t (m * 6 + j);have HEn : Hid (encN S (m * 6 + (j + 1)) = encN S (m * 6 + j) ++ [(inO S.t (m * 6 + j) : Int)]) := encN_succ S (m * 6 + j)
       have hnl : n ≤ 300 := by have h8 := HN.out; have h9 := HEl.out; rw [List.length_append, encN_len] at h8; omega
       obtain ⟨a', c', w', hrun, hown', hbel'⟩ := app1 hown HN.out hb.size (by omega) (inO S.t (m * 6 + j) : Int)
       have HO' : Hid (w'.ownsRow w.heap.size 45 1 (.slice a' (n + 1) c') (encH S ++ encN S (m * 6 + (j + 1))).length (uvs (encH S ++ encN S (m * 6 + (j + 1))))) := by rw [HEn.out, ← List.append_assoc]; exact hown'
       have HN' : Hid ((encH S ++ encN S (m * 6 + (j + 1))).length = n + 1) := by show _ = _; rw [HEn.out, ← List.append_assoc, List.length_append, HN.out]; rfl
       have HB' : Hid (Below w.heap.size w w') := hb.trans hbel';have HRun : Hid _ := hrun;generalize atR S ((m : Int) + 1) j = at0 at *;generalize inO S.t (m * 6 + j) = x at *
       obtain rfl : at0 = (x : Int) - 1 := by omega
       have hx1 : IntKind.i64.wrap ((x : Int) - 1 + 1) = x := by
        simp [IntKind.wrap, IntKind.bits, IntKind.signed];omega
       have hwx : IntKind.u64.wrap (x : Int) = x := by
        simp [IntKind.wrap, IntKind.bits, IntKind.signed];omega
       clear hown hb hcn hrun hown' hbel' HEn HO HB HN
       go_wp2_with fail
       refine hA.mono ?_;rintro e w1 ⟨rfl, hw⟩;rw [hw];clear hw w1 hA
       go_wp2_with (at_builtin; refine wpList_append_eq rfl _ _ _ rfl _ _ _ rfl rfl HRun.out ?_)
       go_roundw
       case rel => exact ⟨j + 1, n + 1, c', a', by omega, by go_num, rfl, HN', HO'.out, HB'.out⟩
       case measure => simp [intOf]; omega
      ·obtain rfl : j = 6 := by omega
       clear hown hb;go_wp2;go_roundw
       case rel => exact ⟨m + 1, n, cp, a, by omega, by go_num, rfl, by rw [show (m + 1) * 6 = m * 6 + 6 by omega]; exact HN, by rw [show (m + 1) * 6 = m * 6 + 6 by omega]; exact HO.out, HB.out⟩
       case measure => simp [intOf]; omega
    ·obtain rfl : m = 8 := by omega
     go_wp2;go_ret;exact ⟨_, rfl, HO.out, HB.out⟩
end Fd
namespace Ow
end Ow
namespace Fd
open Ow
theorem taken_iff {S : FS} (hI : Inv S) {p : Nat} (hp : p < 32) : 0 < (S.f p).refs ↔ p + 1 ∈ ord S.t := by
 rw [mem_ord, hI.refs p hp];constructor
 ·intro h
  obtain ⟨k, hk⟩ := List.exists_mem_of_length_pos (l := ks S.t (p + 1)) (by omega);rw [mem_ks] at hk;exact ⟨by omega, k, hk.1, hk.2⟩
 ·rintro ⟨_, k, hk, e⟩
  have := List.length_pos_of_mem ((mem_ks S.t (p + 1) k).2 ⟨hk, e⟩);omega
theorem nodup_le : ∀ (l m : List Nat), l.Nodup → (∀ x ∈ l, x ∈ m) → l.length ≤ m.length
 | [], m, _, _ => Nat.zero_le _
 | a :: l, m, hn, hs => by
  rw [List.nodup_cons] at hn;have ha := hs a List.mem_cons_self;have ih := nodup_le l (m.erase a) hn.2 (fun x hx => (List.mem_erase_of_ne (show x ≠ a from fun e => hn.1 (by rw [← e]; exact hx))).2 (hs x (List.mem_cons_of_mem _ hx)));rw [List.length_erase_of_mem ha] at ih;have := List.length_pos_of_mem ha;simp;omega
theorem full_iff {S : FS} (hI : Inv S) : 32 ≤ (ord S.t).length ↔ plOf S = -1 := by
 have hone : ∀ q ∈ ord S.t, q ≠ 0 ∧ q ≤ 32 := fun q hq => by
  obtain ⟨h0, k, hk, e⟩ := (mem_ord _ _).1 hq;have := hI.name k hk;exact ⟨h0, by omega⟩
 rcases low_spec (fun p => (S.f p).refs == 0) 32 with ⟨p, hp, h1, _, h3⟩ | ⟨h1, h3⟩
 ·have hpl : plOf S = (p : Int) := h3
  rw [hpl];constructor
  ·intro h
   have hno : p + 1 ∉ ord S.t := fun hm => by
    have h4 := (taken_iff hI hp).2 hm
    have h5 : (S.f p).refs = 0 := by simpa using h1
    omega
   have := nodup_le (ord S.t) ((List.range' 1 32).erase (p + 1)) (ord_nodup _) (fun x hx => by
     have := hone x hx;refine (List.mem_erase_of_ne (show x ≠ p + 1 from fun e => hno (by rw [← e]; exact hx))).2 ?_;rw [List.mem_range'_1]
     omega)
   rw [List.length_erase_of_mem (by rw [List.mem_range'_1]; omega)] at this;simp at this;omega
  ·intro h
   omega
 ·have hpl : plOf S = -1 := h3
  rw [hpl];refine ⟨fun _ => rfl, fun _ => ?_⟩
  have := nodup_le (List.range' 1 32) (ord S.t) List.nodup_range' (fun x hx => by
    rw [List.mem_range'_1] at hx;have h4 := h1 (x - 1) (by omega);have h5 := (hI.bound (p := x - 1) (by omega)).1
    have h6 := (taken_iff hI (p := x - 1) (by omega)).1 (by
      have : (S.f (x - 1)).refs ≠ 0 := by simpa using h4
      omega)
    rwa [show x - 1 + 1 = x by omega] at h6)
  simpa using this
end Fd
namespace Ow
end Ow
namespace Fd
open Ow
theorem grown_ru {B : Nat} {w w' : World} {u : Value} {n : Nat} {xs : List Value} (ho : w.ownsRow B 133 6 u n xs) (hg : w.grownBy w' u.ownBlock) (hB : B ≤ w.heap.size) : RU B w w' := by
 refine ⟨hg.os, hg.tape, hg.output, hg.size, fun k hk => hg.block k (by omega) (fun e => by have := ownsRow_low ho k e.symm; omega), fun k cs t fr hk h1 h2 => (hg.block k (lt_of_heap hk) (fun e => ?_)).trans hk, fun k es cl hk => (hg.block k (lt_of_heap hk) (fun e => ?_)).trans hk⟩
 ·obtain ⟨c2, k2⟩ := own_type ho e.symm
  rw [hk] at k2;simp only [Option.some.injEq, Obj.cells.injEq] at k2;exact h2 k2.2.1
 ·obtain ⟨c2, k2⟩ := own_type ho e.symm
  rw [hk] at k2
  cases k2
abbrev newE (x : Fl) (gP k : Nat) : En := ⟨x, some ⟨gP, 0, none⟩, 1, [k]⟩
theorem open_fin {W : World} {B c ll c1 gP gF k : Nat} {v : Value} {a1 : Option Addr} {L : List En} (x : Fl) (hR : RIs W B c v L) (ho : W.ownsRow B 133 6 (.slice a1 ll c1) L.length (ecs L)) (hll : L.length = ll) (hlen : ll ≤ 400)
  (hP : W.heap[gP]? = some (.cells #[.int .i64 ((k / 6 + 1 : Nat) : Int), .int .i64 ((k % 6 : Nat) : Int)] 36)) (hF : W.heap[gF]? = some (.cells (ec (newE x gP k)).toArray 133)) (hB : B ≤ W.heap.size) :
  ∃ a2 c2 w2, (∀ ty, (Builtin.append_ #[128, 128] ty #[.slice a1 ll c1, .slice (some ⟨gF, 0, none⟩) 1 1]).run Tryz.prog W = .ok (.slice a2 (ll + 1) c2) w2) ∧ w2.cell? ⟨c, 0, none⟩ = some v ∧ w2.frozen? ⟨c, 0, none⟩ = false ∧ RIs (w2.setCell ⟨c, 0, none⟩ (.slice a2 (ll + 1) c2)) B c (.slice a2 (ll + 1) c2) (L ++ [newE x gP k]) ∧ RU B W (w2.setCell ⟨c, 0, none⟩ (.slice a2 (ll + 1) c2)) := by
 have hfr : FRd W (some ⟨gF, 0, none⟩) [newE x gP k] := by
  intro i u hu;refine ⟨gF, 0, rfl, ?_⟩;rw [Nat.zero_add, cell_of_heap hF, ← hu];simp [ecs]
 obtain ⟨a, c', w', hrun, hown, hgrow⟩ := appF ho hB (a2 := some ⟨gF, 0, none⟩) (n2 := 1) (c2 := 1) (N := [newE x gP k]) rfl hfr (by rw [hll]; simp; omega)
 have hl2 : (L ++ [newE x gP k]).length = ll + 1 := by rw [List.length_append, hll]; rfl
 have hru := grown_ru ho hgrow hB
 have hcne : ∀ g, (Value.slice a1 ll c1).ownBlock = some g → g ≠ c := by
  rintro g hg rfl;obtain ⟨cs, hcs⟩ := own_type ho hg;rw [hR.head] at hcs;simp only [Option.some.injEq, Obj.cells.injEq] at hcs;exact absurd hcs.2.1 (by decide)
 have hhead : w'.heap[c]? = some (.cells #[v] 130) := (hgrow.block c hR.lt (fun e => hcne c e.symm rfl)).trans hR.head
 have hkeepP : ∀ (g : Nat) (cs : Array Value) (fr : Nat × Nat), W.heap[g]? = some (.cells cs 36 fr) → (w'.setCell ⟨c, 0, none⟩ (.slice a (ll + 1) c')).heap[g]? = some (.cells cs 36 fr) := fun g cs fr hg => by
  have h1 := hru.other g cs _ fr hg (by decide) (by decide);rw [Below.heap_setCell _ _ _ _ ?_]
  ·exact h1
  ·show g ≠ c
   rintro rfl;rw [hR.head] at hg;simp only [Option.some.injEq, Obj.cells.injEq] at hg;exact absurd hg.2.1 (by decide)
 rw [hl2] at hrun hown;refine ⟨a, c', w', hrun, by rw [cell_of_heap hhead]; rfl, frozen_of_heap hhead, ⟨?_, ?_, ?_, hR.cB⟩, hru.trans (RU.cell hhead (Or.inl rfl) hR.cB _)⟩
 ·rw [setCell_eq_setRow w' c 0 _ _ _ _ hhead, setRow_heap w' c _ _ _ _ hhead]
  rfl
 ·rw [hl2]
  refine ownsRow_at hown (fun g hg => Below.heap_setCell _ _ _ _ ?_)
  show g ≠ c
  rintro rfl;obtain ⟨cs, hcs⟩ := own_type hown hg;rw [hhead] at hcs;simp only [Option.some.injEq, Obj.cells.injEq] at hcs;exact absurd hcs.2.1 (by decide)
 ·intro e he
  rcases List.mem_append.1 he with he | he
  ·exact ⟨(hR.rd e he).1.keep hkeepP, (hR.rd e he).2⟩
  ·rw [List.mem_singleton] at he
   subst he;refine ⟨PRd.keep ?_ hkeepP, Nat.le_refl _⟩;intro j q hj
   have hj0 : j = 0 := by have := (List.getElem?_eq_some_iff.1 hj).1; simp at this; omega
   subst hj0
   have hq : k = q := by simpa using hj
   subst hq;exact ⟨gP, rfl, ⟨_, _, hP⟩, by rw [cell_of_heap hP]; rfl, by rw [cell_of_heap hP]; rfl⟩
theorem app_nil {W : World} {B ll cv : Nat} {av : Option Addr} {L : List En} (hB : B ≤ W.heap.size) (hr : FRd W av L) (hll : L.length = ll) (hlen : ll ≤ 400) :
  ∃ a1 c1 w1, (∀ ty, (Builtin.append_ #[128, 128] ty #[.slice none 0 0, .slice av ll cv]).run Tryz.prog W = .ok (.slice a1 ll c1) w1) ∧ w1.ownsRow B 133 6 (.slice a1 ll c1) L.length (ecs L) ∧ Below W.heap.size W w1 := by
 obtain ⟨a, c', w', hrun, hown, hgrow⟩ := appF (M := []) (u := .slice none 0 0) (World.ownsRow_nil W B 133 6) hB (a2 := av) (n2 := ll) (c2 := cv) (N := L) hll.symm hr (by rw [List.length_nil]; omega);rw [List.nil_append] at hrun hown;rw [hll] at hrun
 refine ⟨a, c', w', hrun, ?_, ⟨hgrow.os, hgrow.tape, hgrow.output, hgrow.size, fun k hk => hgrow.block k hk (by simp [Value.ownBlock])⟩⟩
 rw [hll] at hown ⊢;exact hown
end Fd
namespace Ow
end Ow
namespace Fd
open Ow
theorem cn_zero (l : List Nat) : cn l 0 = 0 := by unfold cn; rw [if_pos rfl]
theorem cn_mem {l : List Nat} {q : Nat} (h0 : q ≠ 0) (h : q ∈ l) : cn l q = l.idxOf q + 1 := by
 unfold cn;rw [if_neg h0, if_pos h]
theorem idx_inj {l : List Nat} {p q : Nat} (hp : p ∈ l) (hq : q ∈ l) (h : l.idxOf p = l.idxOf q) : p = q := by
 have h1 := List.idxOf_lt_length_of_mem hp;have h2 := List.idxOf_lt_length_of_mem hq
 have e1 : l[l.idxOf p]? = some p := by rw [List.getElem?_eq_getElem h1]; simp
 have e2 : l[l.idxOf q]? = some q := by rw [List.getElem?_eq_getElem h2]; simp
 rw [h, e2] at e1;exact (Option.some.inj e1).symm
theorem mem_ordT {t : Nat → Nat} {k : Nat} (hk : k < 48) (h : t k ≠ 0) : t k ∈ ord t := (mem_ord _ _).2 ⟨h, k, hk, rfl⟩
theorem inO_zero {t : Nat → Nat} {k : Nat} (hk : k < 48) : inO t k = 0 ↔ t k = 0 := by
 unfold inO;constructor
 ·intro h
  rcases Classical.em (t k = 0) with e | e
  ·exact e
  ·rw [cn_mem e (mem_ordT hk e)] at h
   omega
 ·intro h
  rw [h, cn_zero]
theorem inO_eq {t : Nat → Nat} {i j : Nat} (hi : i < 48) (hj : j < 48) : inO t i = inO t j ↔ t i = t j := by
 constructor
 ·intro h
  rcases Classical.em (t i = 0) with e | e
  ·have := (inO_zero hi).2 e
   rw [h, inO_zero hj] at this;rw [e, this]
  ·rcases Classical.em (t j = 0) with e2 | e2
   ·have := (inO_zero hj).2 e2
    rw [← h, inO_zero hi] at this;exact absurd this e
   ·unfold inO at h
    rw [cn_mem e (mem_ordT hi e), cn_mem e2 (mem_ordT hj e2)] at h;exact idx_inj (mem_ordT hi e) (mem_ordT hj e2) (by omega)
 ·intro h
  unfold inO;rw [h]
theorem ordTo_inO (t : Nat → Nat) : ∀ k, k ≤ 48 → ordTo (inO t) k = (ordTo t k).map (cn (ord t))
 | 0, _ => rfl
 | k + 1, hk => by
  have ih := ordTo_inO t k (by omega);rw [ordTo_succ, ordTo_succ, ih];have hz := inO_zero (t := t) (k := k) (by omega)
  have hm : inO t k ∈ (ordTo t k).map (cn (ord t)) ↔ t k = 0 ∧ False ∨ t k ∈ ordTo t k := by
   rw [← ih, mem_ordTo, mem_ordTo];constructor
   ·rintro ⟨h0, i, hi, e⟩
    refine Or.inr ⟨fun e0 => h0 (hz.2 e0), i, hi, ?_⟩;exact (inO_eq (by omega) (by omega)).1 e
   ·rintro (⟨_, h⟩ | ⟨h0, i, hi, e⟩)
    ·exact absurd h (by simp)
    ·exact ⟨fun e0 => h0 (hz.1 e0), i, hi, (inO_eq (by omega) (by omega)).2 e⟩
  by_cases h : t k ≠ 0 ∧ t k ∉ ordTo t k
  ·rw [if_pos h, if_pos ⟨fun e => h.1 (hz.1 e), fun e => by
     rcases hm.1 e with ⟨_, q⟩ | q
     · exact q
     · exact h.2 q⟩, List.map_append]
   rfl
  ·rw [if_neg h, if_neg]
   rintro ⟨h1, h2⟩;exact h ⟨fun e => h1 (hz.2 e), fun e => h2 (hm.2 (Or.inr e))⟩
theorem ord_inO (t : Nat → Nat) : ord (inO t) = (ord t).map (cn (ord t)) := ordTo_inO t 48 (Nat.le_refl _)
theorem ord_inO_get {t : Nat → Nat} {i q : Nat} (h : (ord t)[i]? = some q) : (ord (inO t))[i]? = some (i + 1) ∧ cn (ord t) q = i + 1 := by
 obtain ⟨hl, he⟩ := List.getElem?_eq_some_iff.1 h;have hq0 := ((mem_ord _ _).1 (List.mem_of_getElem? h)).1
 have hc : cn (ord t) q = i + 1 := by
  rw [cn_mem hq0 (List.mem_of_getElem? h), ← he, List.Nodup.idxOf_getElem (ord_nodup t) i hl]
 refine ⟨?_, hc⟩;rw [ord_inO, List.getElem?_map, h];exact congrArg some hc
theorem inO_inO (t : Nat → Nat) {k : Nat} (hk : k < 48) : inO (inO t) k = inO t k := by
 rcases Classical.em (t k = 0) with e | e
 ·have h1 := (inO_zero hk).2 e
  rw [h1];exact (inO_zero hk).2 h1
 ·have hm := mem_ordT hk e
  have hl := List.idxOf_lt_length_of_mem hm
  have hg : (ord t)[(ord t).idxOf (t k)]? = some (t k) := by rw [List.getElem?_eq_getElem hl]; simp
  obtain ⟨h1, h2⟩ := ord_inO_get hg;have h3 : inO t k = (ord t).idxOf (t k) + 1 := h2;have hl2 := (List.getElem?_eq_some_iff.1 h1).1;have he2 := (List.getElem?_eq_some_iff.1 h1).2
  show cn (ord (inO t)) (inO t k) = inO t k
  rw [h3, cn_mem (by omega) (List.mem_of_getElem? h1)];have h4 := List.Nodup.idxOf_getElem (ord_nodup (inO t)) _ hl2;rw [he2] at h4;rw [h4]
end Fd
namespace Ow
end Ow
namespace Fd
open Ow
theorem ordTo_congr {t u : Nat → Nat} : ∀ k, (∀ i, i < k → t i = u i) → ordTo t k = ordTo u k
 | 0, _ => rfl
 | k + 1, h => by
  rw [ordTo_succ, ordTo_succ, ordTo_congr k (fun i hi => h i (by omega)), h k (by omega)]
theorem ord_congr {t u : Nat → Nat} (h : ∀ i, i < 48 → t i = u i) : ord t = ord u := ordTo_congr 48 h
theorem inO_congr {t u : Nat → Nat} (h : ∀ i, i < 48 → t i = u i) {k : Nat} (hk : k < 48) : inO t k = inO u k := by
 unfold inO;rw [ord_congr h, h k hk]
theorem flat_get (g : Nat → Fl) : ∀ (l : List Nat) (i q m : Nat), l[i]? = some q → m < 4 → (l.flatMap (fun q => flW (g q))).getD (i * 4 + m) 0 = (flW (g q)).getD m 0
 | [], i, q, m, h, _ => by simp at h
 | c :: l, 0, q, m, h, hm => by
  simp at h;subst h;rw [List.flatMap_cons, List.getD_eq_getElem?_getD, List.getElem?_append_left (by rw [flW_len]; omega), List.getD_eq_getElem?_getD, Nat.zero_mul, Nat.zero_add]
 | c :: l, i + 1, q, m, h, hm => by
  have ih := flat_get g l i q m (by simpa using h) hm;rw [← ih, List.flatMap_cons, List.getD_eq_getElem?_getD, List.getElem?_append_right (by rw [flW_len]; omega), flW_len, List.getD_eq_getElem?_getD]
  congr 2
  omega
theorem ord_le32 {S : FS} (hI : Inv S) : (ord S.t).length ≤ 32 := by
 have := nodup_le (ord S.t) (List.range' 1 32) (ord_nodup _) (fun x hx => by
   obtain ⟨h0, k, hk, e⟩ := (mem_ord _ _).1 hx;have := hI.name k hk;rw [List.mem_range'_1]
   omega)
 simpa using this
theorem wN_enc (S : FS) : wN (encW S) = (ord S.t).length := by simp [wN, encW, encH]
theorem wF_enc (S : FS) : wF (encW S) = (ord S.t).flatMap (fun q => flW (S.f (q - 1))) := by
 unfold wF;rw [wN_enc];unfold encW;have hl := encH_len S;rw [← hl, List.take_left]
 rfl
theorem wT_enc (S : FS) : wT (encW S) = encN S 48 := by
 unfold wT;rw [wN_enc];unfold encW;rw [← encH_len S, List.drop_left]
theorem encN_get (S : FS) {k : Nat} (hk : k < 48) : (encN S 48).getD k 0 = (inO S.t k : Int) := by
 simp [encN, List.getD_eq_getElem?_getD, hk]
theorem dec_t (S : FS) : ∀ k, k < 48 → (decS (encW S)).t k = inO S.t k := by
 intro k hk;unfold decS;rw [namesTo_t (filesTo_t _ _), if_pos hk, wT_enc, encN_get S hk]
 rfl
theorem inO_len (t : Nat → Nat) (k : Nat) : inO t k ≤ (ord t).length := by
 unfold inO cn
 split
 ·omega
 ·split
  ·rename_i hm
   exact List.idxOf_lt_length_of_mem hm
  ·omega
theorem re_re {x y : Fl} (h : x.re 0 = y.re 0) (hr : x.refs = y.refs) : x = y := by
 obtain ⟨a, b, c, d, e⟩ := x;obtain ⟨a', b', c', d', e'⟩ := y;simp only [Fl.re, Fl.mk.injEq] at h hr ⊢;exact ⟨h.1, h.2.1, h.2.2.1, h.2.2.2.1, hr⟩
theorem dec_ord (S : FS) : ord (decS (encW S)).t = ord (inO S.t) := ord_congr (dec_t S)
theorem dec_ok {S : FS} (hI : Inv S) (hF : FitS S) : okW (encW S) = true := by
 have h32 := ord_le32 hI;unfold okW;simp only [Bool.and_eq_true];refine ⟨⟨⟨?_, ?_⟩, ?_⟩, ?_⟩
 ·unfold okL
  have h0 : (encW S).getD 0 0 = ((ord S.t).length : Int) := by simp [encW, encH]
  rw [wN_enc, encW_len, h0];simp only [Bool.and_eq_true, decide_eq_true_eq];omega
 ·unfold okFs okFm
  rw [wN_enc, List.all_eq_true];intro i hi;rw [List.mem_range] at hi;have hq : (ord S.t)[i]? = some ((ord S.t)[i]) := List.getElem?_eq_getElem hi;obtain ⟨-, -, hf⟩ := fit_ord hI hF hq
  have hg := fun m hm => flat_get (fun q => S.f (q - 1)) (ord S.t) i _ m hq hm
  unfold okAt;rw [wF_enc];have h0 := hg 0 (by omega);rw [Nat.add_zero] at h0;rw [h0, hg 1 (by omega), hg 2 (by omega), hg 3 (by omega)];generalize S.f ((ord S.t)[i] - 1) = x at *;obtain ⟨a, b, c, d, e⟩ := x;obtain ⟨k1, k2, i1, i2, o1, o2⟩ := hf;dsimp only at *
  show okF a b c (if d then 1 else 0) = true
  unfold okF
  cases d <;> simp <;> omega
 ·unfold okNs okNm
  rw [wN_enc, wT_enc, List.all_eq_true];intro i hi;rw [List.mem_range] at hi;rw [encN_get S hi];have := inO_len S.t i;simp;omega
 ·unfold okO
  rw [wN_enc, dec_ord, ord_inO, List.length_map];simp only [Bool.and_eq_true, decide_true, and_true];rw [List.all_eq_true];intro i hi;rw [List.mem_range] at hi;rw [inO_congr (dec_t S) hi, dec_t S i hi, inO_inO S.t hi];simp
end Fd
end Go.Proofs.YtinaeifpoljfoaaGreatDoor
