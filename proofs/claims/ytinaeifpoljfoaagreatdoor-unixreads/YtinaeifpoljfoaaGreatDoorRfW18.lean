import Derived.Test.YtinaeifpoljfoaaGreatDoorRfF18TRfU18
import Derived.Deep.DeepCutAuto
import Derived.Deep.CutBlock
set_option linter.all false
set_option maxRecDepth 100000
set_option maxHeartbeats 16000000
namespace Go.Proofs.YtinaeifpoljfoaaGreatDoor
open Go.RowKit
namespace Ow
end Ow
namespace Fd
open Ow
theorem box_cells {w : World} {X : Nat} {x : Fl} (h : w.heap[X]? = some (.cells x.row 102)) : w.cell? ⟨X, 0, none⟩ = some (.int .i64 x.kind) ∧ w.cell? ⟨X, 1, none⟩ = some (.int .i64 x.id) ∧ w.cell? ⟨X, 2, none⟩ = some (.int .i64 x.off) ∧ w.cell? ⟨X, 3, none⟩ = some (.bool x.app) ∧ w.cell? ⟨X, 4, none⟩ = some (.int .i64 x.refs) := by
 refine ⟨?_, ?_, ?_, ?_, ?_⟩ <;> (rw [cell_of_heap h]; rfl)
theorem ropen_at (B c : Nat) (v : Value) (L : List En) (S : FS) (n : Int) (x : Fl) (w : World) (h : RIs w B c v L) (hL : RL L S) (hI : Inv S) (hBw : B ≤ w.heap.size) :
  Calls Tryz.prog 74 #[.pointer (some ⟨c, 0, none⟩), .int .i64 n, .agg x.row] w fun e w' => e = .returned (.tuple #[.int .i64 (openA S n), .int .i64 (openE S n)]) ∧ (∃ v' L', RIs w' B c v' L' ∧ RL L' (openT S n x)) ∧ RU B w w' := by
 obtain ⟨V, hV⟩ : ∃ V, V = w.alloc (.cells x.row 102) := ⟨_, rfl⟩;obtain ⟨X, hX⟩ : ∃ X, X = w.heap.size := ⟨_, rfl⟩
 have hbV : Below w.heap.size w V := by rw [hV]; exact below_alloc _ _
 have hXV : V.heap[X]? = some (.cells x.row 102) := by rw [hV, hX]; exact heap_alloc_new _ _
 have HUV : Hid (RU B w V) := RU.of_below hbV hBw;have hRV := h.below hbV;have HBV : Hid (B ≤ V.heap.size) := Nat.le_trans hBw hbV.size;have HV := hid hV;have HX := hid hX;have HL := hid hL;have HRV := hid hRV
 have hP := fun U => rpid_at n U
 cases hp : isP n with
 | false =>
  have HE : Hid (openE S n = 9) := by show _ = _; unfold openE; rw [hp]; rfl
  have HO : openOk S n = false := by unfold openOk; rw [hp]; rfl
  have HA : Hid (openA S n = 0) := by show _ = _; unfold openA; rw [HO]; rfl
  have HT : Hid (openT S n x = S) := by show _ = _; unfold openT; rw [HO]; rfl
  rw [hp] at hP;obtain ⟨xk, xi, xo, xa, xr⟩ := x;dsimp only [Fl.row] at *;clear h hL hI hV hX hbV hXV hRV hp HO
  go_enter Tryz.func74, Tryz.ntmps74
  go_wp2_with fail
  rw [← HV.out];clear HV;refine (hP _).mono ?_;rintro e w1 ⟨rfl, hw⟩;rw [hw];clear hw w1 hP;go_wp2
  go_ret2
  exact ⟨by rw [HE.out, HA.out]; rfl, ⟨_, _, HRV.out, by rw [HT.out]; exact HL.out⟩, HUV.out⟩
 | true =>
  obtain ⟨m, rfl, hm⟩ := isP_nat hp;rw [hp] at hP
  have hpm : ((m : Int) + 1 - 1).toNat = m := by omega
  have hFr := rfree_at B c v L S m V hRV hL hm
  rcases low_spec (fun i => S.t (m * 6 + i) == 0) 6 with ⟨f, hf, g1, _, g3⟩ | ⟨_, g3⟩
  ·have hfd : fdOf S m = (f : Int) := g3
   have hf0 : S.t (m * 6 + f) = 0 := by simpa using g1
   rw [hfd] at hFr;have gf : decide ((f : Int) < 0) = false := decide_eq_false (by omega);obtain ⟨av, cv, rfl, hcv⟩ := hRV.form;have hLo : L.length = (ord S.t).length := hL.len;have c0 := hRV.c0;generalize hll : L.length = ll at *;have HLl := hid hll
   by_cases h32 : 32 ≤ ll
   ·have g32 : decide (32 ≤ (ll : Int)) = true := decide_eq_true (by omega)
    have hpl : plOf S = -1 := (full_iff hI).1 (by omega)
    have HO : openOk S ((m : Int) + 1) = false := by unfold openOk; rw [hpl]; simp
    have HE : Hid (openE S ((m : Int) + 1) = 24) := by show _ = _; unfold openE; rw [hp, HO]; rfl
    have HA : Hid (openA S ((m : Int) + 1) = 0) := by show _ = _; unfold openA; rw [HO]; rfl
    have HT : Hid (openT S ((m : Int) + 1) x = S) := by show _ = _; unfold openT; rw [HO]; rfl
    generalize (m : Int) + 1 = pp at *;obtain ⟨xk, xi, xo, xa, xr⟩ := x;dsimp only [Fl.row] at *;clear h hL hI hV hX hbV hXV hRV hp HO hpl g1 g3 hfd hf0 hLo hll hpm
    go_enter Tryz.func74, Tryz.ntmps74
    go_wp2_with fail
    rw [← HV.out];clear HV;refine (hP _).mono ?_;rintro e w1 ⟨rfl, hw⟩;rw [hw];clear hw w1 hP
    go_wp2_with fail
    refine hFr.mono ?_;rintro e w1 ⟨rfl, hw⟩;rw [hw];clear hw w1 hFr;go_wp2
    go_ret2
    exact ⟨by rw [HE.out, HA.out]; rfl, ⟨_, _, HRV.out, by rw [HT.out]; exact HL.out⟩, HUV.out⟩
   ·have g32 : decide (32 ≤ (ll : Int)) = false := decide_eq_false (by omega)
    have hpl0 : plOf S ≠ -1 := fun e => h32 (by have := (full_iff hI).2 e; omega)
    rcases low_spec (fun p => (S.f p).refs == 0) 32 with ⟨p, hp32, q1, _, q3⟩ | ⟨_, q3⟩
    ·have hpl : plOf S = (p : Int) := q3
     have hr0 : (S.f p).refs = 0 := by simpa using q1
     have HO : openOk S ((m : Int) + 1) = true := by unfold openOk; rw [hp, hpm, hfd, hpl]; simp
     have HE : Hid (openE S ((m : Int) + 1) = 0) := by show _ = _; unfold openE; rw [hp, HO]; rfl
     have HA : Hid (openA S ((m : Int) + 1) = f) := by show _ = _; unfold openA; rw [HO, if_pos rfl, hpm, hfd]
     have HT : Hid (openT S ((m : Int) + 1) x = (S.setF p (x.re 1)).setT (m * 6 + f) (p + 1)) := by show _ = _; unfold openT; rw [HO, if_pos rfl, hpm, hfd, hpl, key_of, Int.toNat_natCast]
     have HRef : Hid (∀ a cap, RL (sortE (L ++ [⟨x, a, cap, [m * 6 + f]⟩])) ((S.setF p (x.re 1)).setT (m * 6 + f) (p + 1))) := fun a cap => open_ref hL hI (by omega) hf0 hp32 hr0 a cap
     have HP0 : Hid (((((m * 6 + f) / 6 + 1 : Nat)) : Int) = (m : Int) + 1) := by show _ = _; rw [show (m * 6 + f) / 6 = m by omega]; omega
     have HP1 : Hid ((((m * 6 + f) % 6 : Nat) : Int) = (f : Int)) := by show _ = _; rw [show (m * 6 + f) % 6 = f by omega]
     have HDl : Hid (∀ e ∈ L, e.d.length ≤ 1000) := fun e he => by
      obtain ⟨i, hi⟩ := List.mem_iff_getElem?.1 he;have hil := (List.getElem?_eq_some_iff.1 hi).1;obtain ⟨q, hq⟩ : ∃ q, (ord S.t)[i]? = some q := ⟨(ord S.t)[i]'(by omega), List.getElem?_eq_getElem _⟩;rw [(hL.get hi hq).2];have := ks_len S.t q;omega
     generalize hk0 : m * 6 + f = k0 at *;generalize hpp : (m : Int) + 1 = pp at *;generalize hff : (f : Int) = ff at *;have hFr0 : FRd V av L := FRd.of_own hRV.own;obtain ⟨xk, xi, xo, xa, xr⟩ := x;dsimp only [Fl.row] at *
     have HW1 : Hid (∀ W : World, Below V.heap.size V W → W.cell? ⟨c, 0, none⟩ = some (.slice av ll cv) ∧ W.frozen? ⟨c, 0, none⟩ = false ∧ W.cell? ⟨X, 0, none⟩ = some (.int .i64 xk) ∧ W.cell? ⟨X, 1, none⟩ = some (.int .i64 xi) ∧ W.cell? ⟨X, 2, none⟩ = some (.int .i64 xo) ∧ W.cell? ⟨X, 3, none⟩ = some (.bool xa) ∧ W.cell? ⟨X, 4, none⟩ = some (.int .i64 xr)) := fun W hb => by
      have h1 := hRV.below hb;have h2 : W.heap[X]? = some (.cells (Fl.row ⟨xk, xi, xo, xa, xr⟩) 102) := (hb.block X (lt_of_heap hXV)).trans hXV;obtain ⟨b0, b1, b2, b3, b4⟩ := box_cells h2;exact ⟨h1.c0, h1.free, b0, b1, b2, b3, b4⟩
     have hA := fun (W : World) (hb : Below V.heap.size V W) => app_nil (W := W) (B := B) (cv := cv) (Nat.le_trans HBV.out hb.size) (hFr0.below hb) HLl.out (by omega)
     have hE := fun (W : World) (a1 : Option Addr) (c1 gP gF : Nat) (hb : Below V.heap.size V W) (ho : W.ownsRow B 133 6 (.slice a1 ll c1) L.length (ecs L)) (hP : W.heap[gP]? = some (.cells #[.int .i64 pp, .int .i64 ff] 36)) (hF : W.heap[gF]? = some (.cells #[.int .i64 xk, .int .i64 xi, .int .i64 xo, .bool xa, .int .i64 xr, .slice (some ⟨gP, 0, none⟩) 1 1] 133)) => open_fin (k := k0) ⟨xk, xi, xo, xa, xr⟩ (hRV.below hb) ho HLl.out (by omega) (by rw [HP0.out, HP1.out]; exact hP) hF (Nat.le_trans HBV.out hb.size)
     -- first the append
     have hbd : Below V.heap.size V V.drew := (Below.refl _ _).drew;obtain ⟨a1, c1, w1, hrun1, hown1, hb1⟩ := hA V.drew hbd;have hb1' : Below V.heap.size V w1 := hbd.trans hb1
     obtain ⟨A1, C1, u1, hfin1, k1, l1, hRf1, hUf1⟩ := hE ((w1.alloc (.cells #[.int .i64 pp, .int .i64 ff] 36)).alloc (.cells #[.int .i64 xk, .int .i64 xi, .int .i64 xo, .bool xa, .int .i64 xr, .slice (some ⟨w1.heap.size, 0, none⟩) 1 1] 133)) a1 c1 w1.heap.size (w1.heap.size + 1) (hb1'.trans ((below_alloc2 w1 _ _).mono hb1'.size)) (World.ownsRow.alloc (World.ownsRow.alloc hown1 _) _)
      (by rw [Below.heap_alloc _ _ _ (by simp)]; exact heap_alloc_new _ _) (by have := heap_alloc_new (w1.alloc (.cells #[.int .i64 pp, .int .i64 ff] 36)) (.cells #[.int .i64 xk, .int .i64 xi, .int .i64 xo, .bool xa, .int .i64 xr, .slice (some ⟨w1.heap.size, 0, none⟩) 1 1] 133); simpa using this)
     -- the descriptor, the append, the file
     have hbp : Below V.heap.size V (V.alloc (.cells #[.int .i64 pp, .int .i64 ff] 36)).drew := (below_alloc V _).drew;have hPn : (V.alloc (.cells #[.int .i64 pp, .int .i64 ff] 36)).drew.heap[V.heap.size]? = some (.cells #[.int .i64 pp, .int .i64 ff] 36) := heap_alloc_new V _;obtain ⟨a2, c2, w2, hrun2, hown2, hb2⟩ := hA _ hbp;have hb2' : Below V.heap.size V w2 := hbp.trans (hb2.mono hbp.size);have hP2 : w2.heap[V.heap.size]? = some (.cells #[.int .i64 pp, .int .i64 ff] 36) := (hb2.block _ (lt_of_heap hPn)).trans hPn
     obtain ⟨A2, C2, u2, hfin2, k2, l2, hRf2, hUf2⟩ := hE (w2.alloc (.cells #[.int .i64 xk, .int .i64 xi, .int .i64 xo, .bool xa, .int .i64 xr, .slice (some ⟨V.heap.size, 0, none⟩) 1 1] 133)) a2 c2 V.heap.size w2.heap.size (hb2'.trans ((below_alloc w2 _).mono hb2'.size)) (World.ownsRow.alloc hown2 _)
      (by rw [Below.heap_alloc _ _ _ (lt_of_heap hP2)]; exact hP2) (heap_alloc_new _ _)
     -- the descriptor, the file, the append
     have hbq : Below V.heap.size V ((V.alloc (.cells #[.int .i64 pp, .int .i64 ff] 36)).alloc (.cells #[.int .i64 xk, .int .i64 xi, .int .i64 xo, .bool xa, .int .i64 xr, .slice (some ⟨V.heap.size, 0, none⟩) 1 1] 133)).drew := (below_alloc2 V _ _).drew;have hPq : ((V.alloc (.cells #[.int .i64 pp, .int .i64 ff] 36)).alloc (.cells #[.int .i64 xk, .int .i64 xi, .int .i64 xo, .bool xa, .int .i64 xr, .slice (some ⟨V.heap.size, 0, none⟩) 1 1] 133)).drew.heap[V.heap.size]? = some (.cells #[.int .i64 pp, .int .i64 ff] 36) := (Below.heap_alloc _ _ _ (by simp)).trans (heap_alloc_new V _)
     have hFq : ((V.alloc (.cells #[.int .i64 pp, .int .i64 ff] 36)).alloc (.cells #[.int .i64 xk, .int .i64 xi, .int .i64 xo, .bool xa, .int .i64 xr, .slice (some ⟨V.heap.size, 0, none⟩) 1 1] 133)).drew.heap[V.heap.size + 1]? = some (.cells #[.int .i64 xk, .int .i64 xi, .int .i64 xo, .bool xa, .int .i64 xr, .slice (some ⟨V.heap.size, 0, none⟩) 1 1] 133) := by
      have := heap_alloc_new (V.alloc (.cells #[.int .i64 pp, .int .i64 ff] 36)) (.cells #[.int .i64 xk, .int .i64 xi, .int .i64 xo, .bool xa, .int .i64 xr, .slice (some ⟨V.heap.size, 0, none⟩) 1 1] 133);rw [World.size_alloc] at this;exact this
     obtain ⟨a3, c3, w3, hrun3, hown3, hb3⟩ := hA _ hbq;have hb3' : Below V.heap.size V w3 := hbq.trans (hb3.mono hbq.size);obtain ⟨A3, C3, u3, hfin3, k3, l3, hRf3, hUf3⟩ := hE w3 a3 c3 V.heap.size (V.heap.size + 1) hb3' hown3 ((hb3.block _ (lt_of_heap hPq)).trans hPq) ((hb3.block _ (lt_of_heap hFq)).trans hFq);have HRun1 : Hid _ := hrun1;have HRun2 : Hid _ := hrun2;have HRun3 : Hid _ := hrun3;have HFin1 : Hid _ := hfin1;have HFin2 : Hid _ := hfin2;have HFin3 : Hid _ := hfin3;have HRf1 : Hid _ := And.intro hRf1 ((RU.of_below (hb1'.trans ((below_alloc2 w1 _ _).mono hb1'.size)) HBV.out).trans hUf1);have HRf2 : Hid _ := And.intro hRf2 ((RU.of_below (hb2'.trans ((below_alloc w2 _).mono hb2'.size)) HBV.out).trans hUf2);have HRf3 : Hid _ := And.intro hRf3 ((RU.of_below hb3' HBV.out).trans hUf3);obtain ⟨v0, v1, v2, v3, v4, v5, v6⟩ := HW1.out V (Below.refl _ _);obtain ⟨y0, y1, y2, y3, y4, y5, y6⟩ := HW1.out w1 hb1';obtain ⟨z0, z1, z2, z3, z4, z5, z6⟩ := HW1.out w2 hb2';obtain ⟨t0, t1, t2, t3, t4, t5, t6⟩ := HW1.out w3 hb3';obtain ⟨o0, o1, o2, o3, o4, o5, o6⟩ := HW1.out V.drew hbd;obtain ⟨m0, m1, m2, m3, m4, m5, m6⟩ := HW1.out (w1.alloc (.cells #[.int .i64 pp, .int .i64 ff] 36)) (hb1'.trans ((below_alloc w1 _).mono hb1'.size))
     obtain ⟨n0, n1, n2, n3, n4, n5, n6⟩ := HW1.out (V.alloc (.cells #[.int .i64 pp, .int .i64 ff] 36)) (below_alloc V _);obtain ⟨r0, r1, r2, r3, r4, r5, r6⟩ := HW1.out (V.alloc (.cells #[.int .i64 pp, .int .i64 ff] 36)).drew hbp;obtain ⟨s0, s1, s2, s3, s4, s5, s6⟩ := HW1.out ((V.alloc (.cells #[.int .i64 pp, .int .i64 ff] 36)).alloc (.cells #[.int .i64 xk, .int .i64 xi, .int .i64 xo, .bool xa, .int .i64 xr, .slice (some ⟨V.heap.size, 0, none⟩) 1 1] 133)) (below_alloc2 V _ _);obtain ⟨j0, j1, j2, j3, j4, j5, j6⟩ := HW1.out ((V.alloc (.cells #[.int .i64 pp, .int .i64 ff] 36)).alloc (.cells #[.int .i64 xk, .int .i64 xi, .int .i64 xo, .bool xa, .int .i64 xr, .slice (some ⟨V.heap.size, 0, none⟩) 1 1] 133)).drew hbq;have hcl : c < V.heap.size := hRV.lt;have hXl : X < V.heap.size := lt_of_heap hXV;clear h hL hI hV hX hbV hXV hRV hp HO hpl g1 g3 hfd hf0 hLo hll hpm hFr0 HW1 hA hE hbd hown1 hb1 hb1' hbp hPn hown2 hb2 hb2' hP2 hbq hPq hFq hown3 hb3 hb3' hrun1 hrun2 hrun3 hfin1 hfin2 hfin3 hRf1 hUf1 hRf2 hUf2 hRf3 hUf3 q1 q3 hr0 hpl0 hk0 hpp hff c0
     go_enter Tryz.func74, Tryz.ntmps74
     go_wp2_with fail
     rw [← HV.out, ← HX.out];clear HV HX;refine (hP _).mono ?_;rintro e w4 ⟨rfl, hw⟩;rw [hw];clear hw w4 hP
     go_wp2_with fail
     refine hFr.mono ?_;rintro e w4 ⟨rfl, hw⟩;rw [hw];clear hw w4 hFr
     go_upto_region 6 with fail
     go_cut [] (fun wc => ∃ (v' : Value) (gP : Nat), RIs wc B c v' (L ++ [newE ⟨xk, xi, xo, xa, xr⟩ gP k0]) ∧ RU B V wc)
     case first =>
      go_region_law (first
        | (refine step_append_eq rfl (.const (.slice none 0 0)) (.tmp 29) 128 rfl (.slice none 0 0) (.slice av ll cv) (.slice a1 ll c1) rfl (by rfl) HRun1.out ?_)
        | (refine step_append_eq rfl (.const (.slice none 0 0)) (.tmp 29) 128 rfl (.slice none 0 0) (.slice av ll cv) (.slice a2 ll c2) rfl (by rfl) HRun2.out ?_)
        | (refine step_append_eq rfl (.const (.slice none 0 0)) (.tmp 29) 128 rfl (.slice none 0 0) (.slice av ll cv) (.slice a3 ll c3) rfl (by rfl) HRun3.out ?_)
        | (refine step_append_eq rfl (.tmp 30) (.tmp 37) 128 rfl (.slice a1 ll c1) (.slice (some ⟨w1.heap.size + 1, 0, none⟩) 1 1) (.slice A1 (ll + 1) C1) (by rfl) (by rfl) HFin1.out ?_)
        | (refine step_append_eq rfl (.tmp 30) (.tmp 37) 128 rfl (.slice a2 ll c2) (.slice (some ⟨w2.heap.size, 0, none⟩) 1 1) (.slice A2 (ll + 1) C2) (by rfl) (by rfl) HFin2.out ?_)
        | (refine step_append_eq rfl (.tmp 30) (.tmp 37) 128 rfl (.slice a3 ll c3) (.slice (some ⟨V.heap.size + 1, 0, none⟩) 1 1) (.slice A3 (ll + 1) C3) (by rfl) (by rfl) HFin3.out ?_))
      all_goals
       go_wp2_with fail
       go_meet
       case rel => first | exact ⟨_, _, HRf1.out⟩ | exact ⟨_, _, HRf2.out⟩ | exact ⟨_, _, HRf3.out⟩
     case rest =>
      obtain ⟨v', gP, hR', hU'⟩ := hcut
      have hlen : (L ++ [newE ⟨xk, xi, xo, xa, xr⟩ gP k0]).length ≤ 400 := by rw [List.length_append, HLl.out]; simp; omega
      have hSo := rsort_at B c v' _ wc hR' (Nat.le_trans HBV.out hU'.size) hlen (fun e he => by
        rcases List.mem_append.1 he with he | he
        · exact HDl.out e he
        · rw [List.mem_singleton] at he
          subst he
          simp)
      have HR' : Hid _ := hR';have HU' : Hid (RU B w wc) := HUV.out.trans hU';have HWc : Hid (B ≤ wc.heap.size) := Nat.le_trans HBV.out hU'.size;clear hR' hU' hlen HRun1 HRun2 HRun3 HFin1 HFin2 HFin3 HRf1 HRf2 HRf3
      go_wp2_with fail
      refine hSo.mono ?_;rintro e w4 ⟨rfl, ⟨v2, hR2⟩, hu2⟩;have HR2 : Hid _ := hR2;have HU2 : Hid (RU B w w4) := HU'.out.trans (RU.upd hu2 HR'.out.head HR'.out.cB HWc.out);clear hSo hR2 hu2;go_wp2
      go_ret2
      exact ⟨by rw [HE.out, HA.out]; rfl, ⟨_, _, HR2.out, by rw [HT.out]; exact HRef.out _ _⟩, HU2.out⟩
    ·exact absurd q3 hpl0
  ·have hfd : fdOf S m = -1 := g3
   rw [hfd] at hFr
   have HO : openOk S ((m : Int) + 1) = false := by unfold openOk; rw [hpm, hfd]; simp
   have HE : Hid (openE S ((m : Int) + 1) = 24) := by show _ = _; unfold openE; rw [hp, HO]; rfl
   have HA : Hid (openA S ((m : Int) + 1) = 0) := by show _ = _; unfold openA; rw [HO]; rfl
   have HT : Hid (openT S ((m : Int) + 1) x = S) := by show _ = _; unfold openT; rw [HO]; rfl
   generalize (m : Int) + 1 = pp at *;obtain ⟨xk, xi, xo, xa, xr⟩ := x;dsimp only [Fl.row] at *;clear h hL hI hV hX hbV hXV hRV hp HO g3 hfd hpm
   go_enter Tryz.func74, Tryz.ntmps74
   go_wp2_with fail
   rw [← HV.out];clear HV;refine (hP _).mono ?_;rintro e w1 ⟨rfl, hw⟩;rw [hw];clear hw w1 hP
   go_wp2_with fail
   refine hFr.mono ?_;rintro e w1 ⟨rfl, hw⟩;rw [hw];clear hw w1 hFr;go_wp2
   go_ret2
   exact ⟨by rw [HE.out, HA.out]; rfl, ⟨_, _, HRV.out, by rw [HT.out]; exact HL.out⟩, HUV.out⟩
end Fd
end Go.Proofs.YtinaeifpoljfoaaGreatDoor
