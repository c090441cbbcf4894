import Derived.Test.YtinaeifpoljfoaaGreatDoorRfD18
set_option linter.all false
set_option maxRecDepth 100000
set_option maxHeartbeats 16000000
namespace Go.Proofs.YtinaeifpoljfoaaGreatDoor
open Go.RowKit
namespace Ow
end Ow
namespace Fd
open Ow
theorem rsort_at (B c : Nat) (v : Value) (L : List En) (w : World) (h : RIs w B c v L) (hB : B ≤ w.heap.size) (hl : L.length ≤ 400) (hd : ∀ e ∈ L, e.d.length ≤ 1000) :
  Calls Tryz.prog 48 #[.pointer (some ⟨c, 0, none⟩)] w fun e w' => e = .returned (.tuple #[]) ∧ (∃ v', RIs w' B c v' (sortE L)) ∧ Upd c w w' := by
 obtain ⟨av, cv, rfl, hcv⟩ := h.form;generalize hll : L.length = ll at *;have HLL := hid hll;have HR := hid h;have HD := hid hd;have hcl := h.lt;clear h hll hd
 go_enter Tryz.func48, Tryz.ntmps48
 go_wp2
 go_loopw [2, 3] (fun s t wr => ∃ (i : Nat) (u : Value), i ≤ ll ∧ t = .int .i64 i ∧ u = s ∧ wr.ownsRow w.heap.size 133 6 u (sortF (L.take i)).length (ecs (sortF (L.take i))) ∧ Below w.heap.size w wr) (fun _ t _ => ll - (intOf t).toNat)
 case atStart => exact ⟨0, _, by omega, rfl, rfl, World.ownsRow_nil _ _ _ _, Below.refl _ _⟩
 case round =>
  obtain ⟨i, u, hi, rfl, rfl, hown, hb⟩ := hrel;have HO := hid hown;have HB := hid hb;have hR := HR.out.below hb;have c0 := hR.c0
  by_cases hlt : i < ll
  ·obtain ⟨e, he⟩ : ∃ e, L[i]? = some e := ⟨L[i]'(by rw [HLL.out]; exact hlt), List.getElem?_eq_getElem _⟩
   obtain ⟨g, cap, e1, _, _, hc⟩ := hR.at he;simp only [Value.slice.injEq] at e1;obtain ⟨rfl, -, rfl⟩ := e1;have d5 : wr.cell? ⟨g, i * 6 + 5, none⟩ = some (.slice e.a e.d.length e.cap) := hc 5 (by omega);have hem := List.mem_of_getElem? he
   have hii : (i : Int) < (ll : Int) := by omega
   have i1 : decide ((i : Int) < (ll : Int)) = true := decide_eq_true hii;have hdl := HD.out e hem
   by_cases hde : e.d = []
   ·have HS : Hid (sortF (L.take (i + 1)) = sortF (L.take i)) := by show _ = _; rw [take_snocE he, sortF_snoc, if_pos hde]
    have hd0 : e.d.length = 0 := by rw [hde]; rfl
    rw [hd0] at d5;clear hown hb hR he hc hde hd0 hdl;go_wp2;go_roundw
    case rel => exact ⟨i + 1, u, by omega, by go_num, rfl, by rw [HS.out]; exact HO.out, HB.out⟩
    case measure => simp [intOf]; omega
   ·have HS : Hid (sortF (L.take (i + 1)) = insE e (sortF (L.take i))) := by show _ = _; rw [take_snocE he, sortF_snoc, if_neg hde]
    have HM : Hid (∀ x ∈ sortF (L.take i), x ∈ L ∧ x.d ≠ []) := fun x hx => sortF_sub hx
    have hMl : (sortF (L.take i)).length ≤ i := Nat.le_trans (sortF_len _) (by rw [List.length_take]; omega);generalize sortF (L.take i) = M at *;have HHd : Hid (e.d[0]? = some (e.d.headD 0)) := hd_get hde
    have hdn : e.d.length ≠ 0 := fun q => hde (List.eq_nil_of_length_eq_zero q)
    have HEm := hid hem;have HLe := hid he;have g0 : ((e.d.length : Int) == 0) = false := beq_false_of_ne (by omega);obtain ⟨au, cu, rfl⟩ := own_slice hown;have hcu := own_cap hown;generalize hml : M.length = ml at *;have HMl := hid hml;have HE : Hid (e.d.headD 0 = e.d.headD 0) := rfl;generalize hhh : e.d.headD 0 = hh at *;have HHH := hid hhh
    have hdp : (0 : Int) < (e.d.length : Int) := by omega
    obtain ⟨ge, hea, -, -, -⟩ := (hR.rd e hem).1 0 hh HHd.out;obtain ⟨ex, ea, ecp, ed⟩ := e;dsimp only at *;subst hea;clear hown hb hR he hc hde hem hml hhh HE;go_wp2
    go_loopw [4] (fun s wr => ∃ (k : Nat), k ≤ ml ∧ s = .int .i64 k ∧ Hid (∀ j x, j < k → M[j]? = some x → x.d.headD 0 < hh) ∧ wr.ownsRow w.heap.size 133 6 (.slice au ml cu) M.length (ecs M) ∧ Below w.heap.size w wr) (fun s _ => ml - (intOf s).toNat)
    case atStart => exact ⟨0, by omega, rfl, (show Hid _ from fun j x hj => absurd hj (Nat.not_lt_zero _)), by rw [HMl.out]; exact HO.out, HB.out⟩
    case round =>
     clear HO HB c0 d5;obtain ⟨k, hk, rfl, HLo, hown, hb⟩ := hrel;have hR := HR.out.below hb;have c0 := hR.c0;obtain ⟨g', cap', e1, _, _, hc⟩ := hR.at HLe.out;simp only [Value.slice.injEq, Option.some.injEq, Addr.mk.injEq] at e1;obtain ⟨⟨rfl, -⟩, -, rfl⟩ := e1;have d5 : wr.cell? ⟨g, i * 6 + 5, none⟩ = some (.slice (some ⟨ge, 0, none⟩) ed.length ecp) := hc 5 (by omega);obtain ⟨ge', hea, -, y0, y1⟩ := (hR.rd _ HEm.out).1 0 hh HHd.out;simp only [Option.some.injEq, Addr.mk.injEq, and_true] at hea;subst hea;have HO := hid hown;have HB := hid hb;have hwz := hb.size;have z0 : wr.cell? ⟨g, i * 6, none⟩ = some (.int .i64 ex.kind) := hc 0 (by omega);have z1 : wr.cell? ⟨g, i * 6 + 1, none⟩ = some (.int .i64 ex.id) := hc 1 (by omega);have z2 : wr.cell? ⟨g, i * 6 + 2, none⟩ = some (.int .i64 ex.off) := hc 2 (by omega);have z3 : wr.cell? ⟨g, i * 6 + 3, none⟩ = some (.bool ex.app) := hc 3 (by omega);have z4 : wr.cell? ⟨g, i * 6 + 4, none⟩ = some (.int .i64 ex.refs) := hc 4 (by omega);have z5 : wr.cell? ⟨g, i * 6 + 5, none⟩ = some (.slice (some ⟨ge, 0, none⟩) ed.length ecp) := hc 5 (by omega)
     by_cases hkm : k < ml
     ·obtain ⟨x, hx⟩ : ∃ x, M[k]? = some x := ⟨M[k]'(by rw [HMl.out]; exact hkm), List.getElem?_eq_getElem _⟩
      obtain ⟨go, hgo, hco⟩ := own_cellF hown hx;obtain ⟨hxL, hxd⟩ := HM.out x (List.mem_of_getElem? hx);obtain ⟨gx, hxa, -, t0, t1⟩ := (hR.rd x hxL).1 0 (x.d.headD 0) (hd_get hxd);have o5 : wr.cell? ⟨go, k * 6 + 5, none⟩ = some (.slice x.a x.d.length x.cap) := hco 5 (by omega)
      have hxn : x.d.length ≠ 0 := fun q => hxd (List.eq_nil_of_length_eq_zero q)
      rw [hxa] at o5;have HXk := hid hx;have HXh : Hid (x.d.headD 0 = x.d.headD 0) := rfl;have hLs := less_at (x.d.headD 0) hh;generalize hxh : x.d.headD 0 = xh at *;have HXH := hid hxh;generalize x.d.length = xn at *;generalize x.cap = xc at *
      have hxq : 0 < xn := by omega
      have hdq : 0 < ed.length := by omega
      have hkq : k < ml := hkm;have g1 : decide ((k : Int) < (ml : Int)) = true := decide_eq_true (by omega)
      have hki : (k : Int) < (ml : Int) := by omega
      subst hgo;generalize ((xh / 6 + 1 : Nat) : Int) = xa at *;generalize ((xh % 6 : Nat) : Int) = xb at *;generalize ((hh / 6 + 1 : Nat) : Int) = ya at *;generalize ((hh % 6 : Nat) : Int) = yb at *;have t0' : wr.drew.cell? ⟨gx, 0, none⟩ = some (.int .i64 xa) := t0;have t1' : wr.drew.cell? ⟨gx, 1, none⟩ = some (.int .i64 xb) := t1;have y0' : wr.drew.cell? ⟨ge, 0, none⟩ = some (.int .i64 ya) := y0;have y1' : wr.drew.cell? ⟨ge, 1, none⟩ = some (.int .i64 yb) := y1;have o5' : wr.drew.cell? ⟨go, k * 6 + 5, none⟩ = some (.slice (some ⟨gx, 0, none⟩) xn xc) := o5;have c0' : wr.drew.cell? ⟨c, 0, none⟩ = some (.slice (some ⟨g, 0, none⟩) ll cv) := c0;have d5' : wr.drew.cell? ⟨g, i * 6 + 5, none⟩ = some (.slice (some ⟨ge, 0, none⟩) ed.length ecp) := d5;have HZ : Hid (wr.cell? ⟨g, i * 6, none⟩ = some (.int .i64 ex.kind) ∧ wr.cell? ⟨g, i * 6 + 1, none⟩ = some (.int .i64 ex.id) ∧ wr.cell? ⟨g, i * 6 + 2, none⟩ = some (.int .i64 ex.off) ∧ wr.cell? ⟨g, i * 6 + 3, none⟩ = some (.bool ex.app) ∧ wr.cell? ⟨g, i * 6 + 4, none⟩ = some (.int .i64 ex.refs) ∧ wr.cell? ⟨g, i * 6 + 5, none⟩ = some (.slice (some ⟨ge, 0, none⟩) ed.length ecp)) := ⟨z0, z1, z2, z3, z4, z5⟩
      have HC0 := hid c0;clear hR hc hown hb hx hxa hxh hxL hxd hxn hco HXh t0 t1 y0 y1 o5 c0 d5 z0 z1 z2 z3 z4 z5
      go_wp2_with fail
      refine wp_region_held_drew (S := fun w' => w'.cell? ⟨c, 0, none⟩ = some (.slice (some ⟨g, 0, none⟩) ll cv) ∧ w'.cell? ⟨go, k * 6 + 5, none⟩ = some (.slice (some ⟨gx, 0, none⟩) xn xc) ∧ w'.cell? ⟨gx, 0, none⟩ = some (.int .i64 xa) ∧ w'.cell? ⟨gx, 1, none⟩ = some (.int .i64 xb) ∧ w'.cell? ⟨g, i * 6 + 5, none⟩ = some (.slice (some ⟨ge, 0, none⟩) ed.length ecp) ∧ w'.cell? ⟨ge, 0, none⟩ = some (.int .i64 ya) ∧ w'.cell? ⟨ge, 1, none⟩ = some (.int .i64 yb)) (by kernel_rfl) ⟨c0', o5', t0', t1', d5', y0', y1'⟩ (fun hHeld => ?_);refine tkz [0, 1, 2, 3, 4, 5, 6, 7, 8, 9, 10, 11, 12, 13, 14, 15, 16, 17, 18, 19, 20, 21] ?_
      iterate 22
       refine tkq (v := ?_) rfl (Or.inl ⟨by kernel_rfl, ?_⟩) ?_
       rotate_left
       ·(intro w hSw; (try dsimp only at hSw); go_simp) <;> with_reducible rfl
       (try simp only [Act.put, lq])
      refine tkw ?_
      refine rdy 22 rfl fun K hK => ?_
      go_simp;refine (hLs wr.drew).mono ?_;rintro e1 w1 ⟨rfl, hb1⟩;have hS1 : w1.cell? ⟨c, 0, none⟩ = some (.slice (some ⟨g, 0, none⟩) ll cv) ∧ w1.cell? ⟨go, k * 6 + 5, none⟩ = some (.slice (some ⟨gx, 0, none⟩) xn xc) ∧ w1.cell? ⟨gx, 0, none⟩ = some (.int .i64 xa) ∧ w1.cell? ⟨gx, 1, none⟩ = some (.int .i64 xb) ∧ w1.cell? ⟨g, i * 6 + 5, none⟩ = some (.slice (some ⟨ge, 0, none⟩) ed.length ecp) ∧ w1.cell? ⟨ge, 0, none⟩ = some (.int .i64 ya) ∧ w1.cell? ⟨ge, 1, none⟩ = some (.int .i64 yb) := ⟨(hb1.cell (cell_lt c0')).trans c0', (hb1.cell (cell_lt o5')).trans o5', (hb1.cell (cell_lt t0')).trans t0', (hb1.cell (cell_lt t1')).trans t1', (hb1.cell (cell_lt d5')).trans d5', (hb1.cell (cell_lt y0')).trans y0', (hb1.cell (cell_lt y1')).trans y1'⟩;have hb1' : Below wr.heap.size wr w1 := ((Below.refl _ _).drew (w := wr)).trans hb1;have HOV : Hid (w1.ownsRow w.heap.size 133 6 (.slice (some ⟨go, 0, none⟩) ml cu) M.length (ecs M)) := ownsRow_below HO.out hb1';have HBV : Hid (Below w.heap.size w w1) := HB.out.trans (hb1'.mono HB.out.size);have HZ1 := hid hb1';clear hb1 hb1' hLs c0' o5' t0' t1' d5' y0' y1' HO HB;refine hK.out _ _ hS1 (fun hHeld => ?_)
      clear hK K
      (try simp only [Act.put, lq])
      clear hS1
      by_cases hlx : xh < hh
      ·have gl : decide (xh < hh) = true := decide_eq_true hlx
       have HLo2 : Hid (∀ j x, j < k + 1 → M[j]? = some x → x.d.headD 0 < hh) := fun j y hj hy => by
        rcases Nat.lt_or_ge j k with q | q
        ·exact HLo.out j y q hy
        ·have : j = k := by omega
         rw [this, HXk.out] at hy;have := Option.some.inj hy;rw [← this, HXH.out];exact hlx
       refine tkz [23] ?_
       iterate 1
        refine tkq (v := ?_) rfl (Or.inl ⟨by kernel_rfl, ?_⟩) ?_
        rotate_left
        ·(intro w hSw; (try dsimp only at hSw); go_simp) <;> with_reducible rfl
        (try simp only [Act.put, lq])
       refine tkw ?_;refine wpAnyH_done (by kernel_rfl) ?_ _;clear hHeld HZ HC0 HZ1;go_wp2;go_roundw
       case rel => exact ⟨k + 1, by omega, by go_num, HLo2, HOV.out, HBV.out⟩
       case measure => simp [intOf]; omega
      ·have gl : decide (xh < hh) = false := decide_eq_false hlx
       have HPos : Hid (insE ⟨ex, some ⟨ge, 0, none⟩, ecp, ed⟩ M = M.take k ++ ⟨ex, some ⟨ge, 0, none⟩, ecp, ed⟩ :: M.drop k) := by
        show _ = _
        unfold insE;rw [HHH.out, posE_more (k := k) (by rw [HMl.out]; omega) HLo.out (fun y hy => by rw [HXk.out] at hy; have := Option.some.inj hy; rw [← this, HXH.out]; exact hlx)]
       refine tkz [23] ?_
       iterate 1
        refine tkq (v := ?_) rfl (Or.inl ⟨by kernel_rfl, ?_⟩) ?_
        rotate_left
        ·(intro w hSw; (try dsimp only at hSw); go_simp) <;> with_reducible rfl
        (try simp only [Act.put, lq])
       refine tkw ?_;refine wpAnyH_done (by kernel_rfl) ?_ _;clear hHeld;obtain ⟨z0, z1, z2, z3, z4, z5⟩ := HZ.out;have c0' : w1.cell? ⟨c, 0, none⟩ = some (.slice (some ⟨g, 0, none⟩) ll cv) := (HZ1.out.cell (cell_lt HC0.out)).trans HC0.out;have z0' : w1.cell? ⟨g, i * 6, none⟩ = some (.int .i64 ex.kind) := (HZ1.out.cell (cell_lt z0)).trans z0;have z1' : w1.cell? ⟨g, i * 6 + 1, none⟩ = some (.int .i64 ex.id) := (HZ1.out.cell (cell_lt z1)).trans z1;have z2' : w1.cell? ⟨g, i * 6 + 2, none⟩ = some (.int .i64 ex.off) := (HZ1.out.cell (cell_lt z2)).trans z2;have z3' : w1.cell? ⟨g, i * 6 + 3, none⟩ = some (.bool ex.app) := (HZ1.out.cell (cell_lt z3)).trans z3;have z4' : w1.cell? ⟨g, i * 6 + 4, none⟩ = some (.int .i64 ex.refs) := (HZ1.out.cell (cell_lt z4)).trans z4;have z5' : w1.cell? ⟨g, i * 6 + 5, none⟩ = some (.slice (some ⟨ge, 0, none⟩) ed.length ecp) := (HZ1.out.cell (cell_lt z5)).trans z5;clear z0 z1 z2 z3 z4 z5 HZ HC0 HZ1 HXk HXH HLo;generalize w1 = V at *;obtain ⟨a2, c2, a4, c4, a3, c3, n3, w3, a5, c5, w5, a6, c6, w6, hs2, hs4, hrun1, hrun2, hrun3, hown6, hb6⟩ := sort_tail (V := V) ⟨ex, some ⟨ge, 0, none⟩, ecp, ed⟩ (HBV.out.size) HOV.out HMl.out hk hcu (by omega)
       have HRun1 : Hid _ := hrun1;have HRun2 : Hid _ := hrun2;have HRun3 : Hid _ := hrun3;have HO6 := hid hown6;have HB6 : Hid (Below w.heap.size w w6) := HBV.out.trans hb6;clear hrun1 hrun2 hrun3 hown6 hb6 HOV HBV
       go_wp2_with fail
       go_region_law (first
         | (refine step_append_eq rfl (.tmp 59) (.tmp 62) 128 rfl (.slice (some ⟨V.heap.size, 0, none⟩) 1 1) (.slice a2 (ml - k) c2) (.slice a3 n3 c3) (by rfl) (by rfl) HRun1.out ?_))
       all_goals
        go_wp2_with (first
          | (at_builtin; refine wpList_append_eq rfl _ _ _ rfl _ _ _ rfl rfl HRun2.out ?_)
          | (at_builtin; refine wpList_append_eq rfl _ _ _ rfl _ _ _ rfl rfl HRun3.out ?_))
        go_roundw
        case rel =>
         refine ⟨i + 1, _, by omega, by go_num, rfl, ?_, HB6.out⟩;rw [HS.out, HPos.out];exact HO6.out
        case measure => simp [intOf]; omega
     ·have g1 : decide ((k : Int) < (ml : Int)) = false := decide_eq_false (by omega)
      have HPos : Hid (insE ⟨ex, some ⟨ge, 0, none⟩, ecp, ed⟩ M = M.take k ++ ⟨ex, some ⟨ge, 0, none⟩, ecp, ed⟩ :: M.drop k) := by
       show _ = _
       unfold insE;rw [HHH.out, posE_more (k := k) (by rw [HMl.out]; omega) HLo.out (fun x hx => by have := (List.getElem?_eq_some_iff.1 hx).1; have := HMl.out; omega)]
      clear hR hc hown hb d5 y0 y1
      go_wp2_with fail
      refine wp_region_held_drew (S := fun w' => w'.cell? ⟨c, 0, none⟩ = some (.slice (some ⟨g, 0, none⟩) ll cv)) (by kernel_rfl) c0 (fun hHeld => ?_);refine tkz [0, 1, 2, 3, 4] ?_
      iterate 5
       refine tkq (v := ?_) rfl (Or.inl ⟨by kernel_rfl, ?_⟩) ?_
       rotate_left
       ·(intro w hSw; (try dsimp only at hSw); go_simp) <;> with_reducible rfl
       (try simp only [Act.put, lq])
      refine tkw ?_;refine tkz [5, 6, 7, 8, 9, 10, 11, 12, 13, 14, 15, 16, 17, 18, 19, 20, 21, 22] ?_
      iterate 18
       refine tkq (v := undef) rfl (Or.inr ⟨by kernel_rfl, rfl⟩) ?_
       (try simp only [Act.put, lq])
      refine tkw ?_;refine tkz [23] ?_
      iterate 1
       refine tkq (v := ?_) rfl (Or.inl ⟨by kernel_rfl, ?_⟩) ?_
       rotate_left
       ·(intro w hSw; (try dsimp only at hSw); go_simp) <;> with_reducible rfl
       (try simp only [Act.put, lq])
      refine tkw ?_;refine wpAnyH_done (by kernel_rfl) ?_ _;clear hHeld;have HOV : Hid (wr.drew.ownsRow w.heap.size 133 6 (.slice au ml cu) M.length (ecs M)) := ownsRow_at HO.out (fun _ _ => rfl);have HBV : Hid (Below w.heap.size w wr.drew) := HB.out.drew;have c0' : wr.drew.cell? ⟨c, 0, none⟩ = some (.slice (some ⟨g, 0, none⟩) ll cv) := c0;have z0' : wr.drew.cell? ⟨g, i * 6, none⟩ = some (.int .i64 ex.kind) := z0;have z1' : wr.drew.cell? ⟨g, i * 6 + 1, none⟩ = some (.int .i64 ex.id) := z1;have z2' : wr.drew.cell? ⟨g, i * 6 + 2, none⟩ = some (.int .i64 ex.off) := z2;have z3' : wr.drew.cell? ⟨g, i * 6 + 3, none⟩ = some (.bool ex.app) := z3;have z4' : wr.drew.cell? ⟨g, i * 6 + 4, none⟩ = some (.int .i64 ex.refs) := z4;have z5' : wr.drew.cell? ⟨g, i * 6 + 5, none⟩ = some (.slice (some ⟨ge, 0, none⟩) ed.length ecp) := z5;clear HO HB z0 z1 z2 z3 z4 z5 c0;generalize wr.drew = V at *;obtain ⟨a2, c2, a4, c4, a3, c3, n3, w3, a5, c5, w5, a6, c6, w6, hs2, hs4, hrun1, hrun2, hrun3, hown6, hb6⟩ := sort_tail (V := V) ⟨ex, some ⟨ge, 0, none⟩, ecp, ed⟩ (HBV.out.size) HOV.out HMl.out hk hcu (by omega);have HRun1 : Hid _ := hrun1;have HRun2 : Hid _ := hrun2
      have HRun3 : Hid _ := hrun3;have HO6 := hid hown6;have HB6 : Hid (Below w.heap.size w w6) := HBV.out.trans hb6;clear hrun1 hrun2 hrun3 hown6 hb6 HOV HBV
      go_wp2_with fail
      go_region_law (first
        | (refine step_append_eq rfl (.tmp 59) (.tmp 62) 128 rfl (.slice (some ⟨V.heap.size, 0, none⟩) 1 1) (.slice a2 (ml - k) c2) (.slice a3 n3 c3) (by rfl) (by rfl) HRun1.out ?_))
      all_goals
       go_wp2_with (first
         | (at_builtin; refine wpList_append_eq rfl _ _ _ rfl _ _ _ rfl rfl HRun2.out ?_)
         | (at_builtin; refine wpList_append_eq rfl _ _ _ rfl _ _ _ rfl rfl HRun3.out ?_))
       go_roundw
       case rel =>
        refine ⟨i + 1, _, by omega, by go_num, rfl, ?_, HB6.out⟩;rw [HS.out, HPos.out];exact HO6.out
       case measure => simp [intOf]; omega
  ·obtain rfl : i = ll := by omega
   have HT : Hid (sortF (L.take i) = sortF L) := by show _ = _; rw [List.take_of_length_le (by rw [HLL.out]; omega)]
   have hMl : (sortF (L.take i)).length ≤ i := Nat.le_trans (sortF_len _) (by rw [List.length_take]; omega)
   have HM : Hid (∀ x ∈ sortF (L.take i), x ∈ L) := fun x hx => (sortF_sub hx).1
   rw [HT.out] at hown HO hMl HM;have HSE : Hid (sortE L = (sortF L).map En.fix) := rfl;obtain ⟨au, cu, rfl⟩ := own_slice hown;generalize sortF L = M at *;generalize hml : M.length = ml at *;have HMl := hid hml;clear hown hb hR HT hml;go_wp2
   go_loopw [6] (fun s wr => ∃ (k : Nat), k ≤ ml ∧ s = .int .i64 k ∧ wr.ownsRow w.heap.size 133 6 (.slice au ml cu) (fixTo M k).length (ecs (fixTo M k)) ∧ Below w.heap.size w wr) (fun s _ => ml - (intOf s).toNat)
   case atStart => exact ⟨0, by omega, rfl, by rw [fixTo_zero, HMl.out]; exact HO.out, HB.out⟩
   case round =>
    clear HO HB c0;obtain ⟨k, hk, rfl, hown, hb⟩ := hrel;have HO := hid hown;have HB := hid hb
    by_cases hkm : k < ml
    ·obtain ⟨x, hx⟩ : ∃ x, M[k]? = some x := ⟨M[k]'(by rw [HMl.out]; exact hkm), List.getElem?_eq_getElem _⟩
     have hx2 := fixTo_get M k x hx;obtain ⟨go, hgo, hco⟩ := own_cellF hown hx2;have o4 : wr.cell? ⟨go, k * 6 + 4, none⟩ = some (.int .i64 x.x.refs) := hco 4 (by omega);have o5 : wr.cell? ⟨go, k * 6 + 5, none⟩ = some (.slice x.a x.d.length x.cap) := hco 5 (by omega);subst hgo;have hgb := ownsRow_low hown go rfl;obtain ⟨cs, hcs⟩ := own_type hown (g := go) rfl;have f4 : wr.frozen? ⟨go, k * 6 + 4, none⟩ = false := frozen_of_heap hcs
     have hki : (k : Int) < (ml : Int) := by omega
     have hdl := HD.out x (HM.out x (List.mem_of_getElem? hx))
     have HNx : Hid ((wr.setCell ⟨go, k * 6 + 4, none⟩ (.int .i64 (x.d.length : Nat))).ownsRow w.heap.size 133 6 (.slice (some ⟨go, 0, none⟩) ml cu) (fixTo M (k + 1)).length (ecs (fixTo M (k + 1)))) := by
      rw [fixTo_succ M k x hx];refine own_set hown hx2 (k * 6 + 4) 4 (by omega) rfl _ x.fix rfl (fun i hi hne => ?_)
      obtain rfl | rfl | rfl | rfl | rfl : i = 0 ∨ i = 1 ∨ i = 2 ∨ i = 3 ∨ i = 5 := by omega
      all_goals rfl
     generalize x.d.length = xn at *;generalize x.a = xa at *;generalize x.cap = xc at *;generalize x.x.refs = xr at *;clear hown hb hx hx2 hco hcs HO;go_wp2;go_roundw
     case rel => exact ⟨k + 1, by omega, by go_num, HNx.out, HB.out.setCell (p := ⟨go, k * 6 + 4, none⟩) hgb _⟩
     case measure => simp [intOf]; omega
    ·obtain rfl : k = ml := by omega
     have hfa : fixTo M k = M.map En.fix := by rw [← HMl.out]; exact fixTo_all M
     rw [hfa] at HO;have hR := HR.out.below HB.out;have f0 := hR.free;have c0 := hR.c0;have HHd : Hid (wr.heap[c]? = some (.cells #[.slice av i cv] 130)) := hR.head
     have HRd : Hid (∀ e ∈ M.map En.fix, PRd wr e.a e.d ∧ e.d.length ≤ e.cap) := fun e he => by
      rw [List.mem_map] at he;obtain ⟨x, hx, rfl⟩ := he;exact hR.rd x (HM.out x hx)
     have HcB := HR.out.cB;clear hown hb hR hfa;go_wp2
     go_end0
     refine ⟨rfl, ⟨.slice au k cu, ?_⟩, (Upd.of_below HB.out).trans (Upd.setCell c 0 wr _)⟩;rw [HSE.out]
     have hne : ∀ g, (Value.slice au k cu).ownBlock = some g → g ≠ c := fun g hg => by have := ownsRow_low HO.out g hg; omega
     refine ⟨?_, ?_, fun e he => ⟨(HRd.out e he).1.keep (fun g cs fr hg => ?_), (HRd.out e he).2⟩, HcB⟩
     ·rw [setCell_eq_setRow wr c _ _ _ _ _ HHd.out, setRow_heap wr c _ _ _ _ HHd.out]
      rfl
     ·refine ownsRow_at (w := wr) ?_ (fun g hg => Below.heap_setCell _ _ _ _ (hne g hg))
      have ho := HO.out;refine ⟨ho.1, ?_⟩
      rcases ho.2 with h2 | ⟨g, cap, cur, h2, h3, r⟩
      ·exact Or.inl h2
      ·exact Or.inr ⟨g, cap, cur, h2, by omega, r⟩
     ·rw [Below.heap_setCell _ _ _ _ ?_]
      ·exact hg
      ·show g ≠ c
       rintro rfl;rw [HHd.out] at hg;simp only [Option.some.injEq, Obj.cells.injEq] at hg;exact absurd hg.2.1 (by decide)
end Fd
end Go.Proofs.YtinaeifpoljfoaaGreatDoor
