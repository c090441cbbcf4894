import Derived.Test.YtinaeifpoljfoaaGreatDoorPcETRqE
set_option linter.all false
set_option maxRecDepth 100000
set_option maxHeartbeats 16000000
namespace Go.Proofs.YtinaeifpoljfoaaGreatDoor
open Go.RowKit Go.Lib
namespace Ow
end Ow
namespace Pc
open Ow
theorem rlit24 : (#[.int .i64 0, .int .i64 0, .int .i64 0, .int .i64 0, .int .i64 0, .int .i64 0, .int .i64 0, .int .i64 0, .int .i64 0, .int .i64 0, .int .i64 0, .int .i64 0, .int .i64 0, .int .i64 0, .int .i64 0, .int .i64 0, .int .i64 0, .int .i64 0, .int .i64 0, .int .i64 0, .int .i64 0, .int .i64 0, .int .i64 0, .int .i64 0] : Array Value) = irow (rqL (trS St0)) := by kernel_rfl
theorem cut_lh (D : List Int) (a : Option Addr) (len cap j k : Nat) (hl : len = D.length) (hj : j ≤ k) (hk : k ≤ len) (hcap : len ≤ cap) : ∃ a2 c2, (∀ V, (Instr.slice 22 (.slice a len cap) (some (.int .i64 (j : Int))) (some (.int .i64 (k : Int))) none).run Tryz.prog V = .ok (.slice a2 (k - j) c2) V) ∧ (∀ W, Rd W a D → Rd W a2 (D.drop j)) := by
 obtain ⟨i0, hi0, hzz⟩ := Option.map_eq_some_iff.1 wordInfo;simp only [Prod.mk.injEq] at hzz;refine ⟨if cap = j then a else a.map (·.add (j * 1)), cap - j, fun V => ?_, fun W ha => ?_⟩
 ·rw [run_slice_lh V 22 _ _ _ Tryz.underlying22 _ _ _ _ (by omega) (by omega) (by omega)]
  simp [sizeOf, typeInfo, elemW, hi0, sliced, hzz.2.1]
 ·intro i x hx
  rw [List.getElem?_drop] at hx;have hlt := (List.getElem?_eq_some_iff.1 hx).1;obtain ⟨g, off, e, hc⟩ := ha (j + i) x hx;refine ⟨g, off + j, ?_, ?_⟩
  ·rw [if_neg (by omega), e]
   simp [Addr.add]
  ·rw [Nat.add_assoc]
   exact hc
theorem encT_ext {T U : TS} : ∀ k, (∀ i, i < k → T i = U i) → encT T k = encT U k
 | 0, _ => rfl
 | k + 1, h => by
  unfold encT;rw [encT_ext k (fun i hi => h i (by omega)), h k (by omega)]
theorem enc_row {ws : List Int} (hw : Words ws) (hl : ws.length = 24) (h : okW ws = true) : encT (twTo ws 8) 8 = ws := by
 unfold okW at h;rw [Bool.and_eq_true, Bool.and_eq_true] at h;rw [encT_ext 8 (fun i hi => tw_S hw h.2.1 hi), encT_S];exact enc_dec hw hl h.2.1
theorem rd0_is {ws : List Int} (hw : Words ws) {i : Nat} (h : rd0 ws i = true) : (wd ws (3 * i) = 0 ∨ wd ws (3 * i) = 1 ∨ wd ws (3 * i) = 2) ∧ 0 ≤ wd ws (3 * i + 1) ∧ wd ws (3 * i + 1) ≤ 8 := by
 unfold rd0 at h;rw [Bool.and_eq_true, decide_eq_true_eq, decide_eq_true_eq] at h;have h1 := wd_word hw (3 * i);have h2 := wd_word hw (3 * i + 1);omega
def RecR (ws : List Int) (e : Ending) : Prop := (okW ws = true ∧ ∃ c, e = .returned (.tuple #[ptr c, .int .i64 0])) ∨ (okW ws = false ∧ e = .returned (.tuple #[.pointer none, .int .i64 101]))
theorem rdecode_at (a : Option Addr) (n cap : Nat) (ws : List Int) (w : World) (hr : Rd w a ws) (hn : n = ws.length) (hcap : n ≤ cap) (hw : Words ws) (hn9 : n ≤ 1000000) :
  Calls Tryz.prog 22 #[.slice a n cap] w fun e w' => RecR ws e ∧ Below w.heap.size w w' := by
 by_cases h24 : n = 24
 ·subst h24
  have HRd := hid hr;have HWo := hid hw;have HN : Hid (ws.length = 24) := hn.symm;obtain ⟨W0, hW0⟩ : ∃ W, W = w.alloc (.cells (irow (rqL (trS St0))) 151) := ⟨_, rfl⟩;obtain ⟨c, hc⟩ : ∃ c, c = w.heap.size := ⟨_, rfl⟩
  have HR0 : Hid (RT W0 c (twTo ws 0)) := by
   show RT W0 c (twTo ws 0)
   rw [twTo_0, hW0, hc];exact heap_alloc_new _ _
  have HB0 : Hid (Below w.heap.size w W0) := by rw [hW0]; exact below_alloc _ _
  have HW0 : Hid _ := hW0;have HCc := hid hc;clear hr hw hn hW0 hc
  go_enter Tryz.func22, Tryz.ntmps22
  go_upto_region 4 with fail
  rw [rlit24, ← HW0.out, ← HCc.out];generalize irow (rqL (trS St0)) = R0;clear HW0;go_wp2
  go_loopw [5] (fun s wr => ∃ i : Nat, i ≤ 8 ∧ s = .int .i64 i ∧ RT wr c (twTo ws i) ∧ rd0K ws i = true ∧ Below w.heap.size w wr) (fun s _ => 8 - (intOf s).toNat)
  case atStart => exact ⟨0, by omega, rfl, HR0.out, rfl, HB0.out⟩
  case round =>
   clear HR0 HB0;obtain ⟨i, hi, rfl, hR, hrd, hB⟩ := hrel;have HR := hid hR;have HK := hid hrd;have HB := hid hB
   by_cases hlt : i < 8
   ·as_aux_lemma =>
    have i1 : decide ((i : Int) < 8) = true := decide_eq_true (by omega)
    have n1 : (i : Int) < 8 := by omega
    have n0 : (0 : Int) ≤ (i : Int) := by omega
    obtain ⟨a2, c2, hcut, hrd2⟩ := cut_lh ws a 24 cap (3 * i) (3 * i + 3) HN.out.symm (by omega) (by omega) hcap;rw [show 3 * i + 3 - 3 * i = 3 by omega, show ((3 * i : Nat) : Int) = 3 * (i : Int) by omega, show ((3 * i + 3 : Nat) : Int) = 3 * (i : Int) + 3 by omega] at hcut;have hR2 : Rd wr a2 (ws.drop (3 * i)) := (hrd2 w HRd.out).below hB
    have gt : ∀ j, j < 3 → (ws.drop (3 * i))[j]? = some (wd ws (3 * i + j)) := fun j hj => by
     rw [List.getElem?_drop, List.getElem?_eq_getElem (by have := HN.out; omega)];unfold wd;rw [List.getD_eq_getElem?_getD, List.getElem?_eq_getElem (by have := HN.out; omega)]
     rfl
    obtain ⟨g, off, ea, k0⟩ := hrd2 w HRd.out 0 _ (gt 0 (by omega))
    have HG : Hid (g < c) := by show g < c; rw [HCc.out]; exact cell_lt k0
    subst ea;obtain ⟨_, _, q0, c0⟩ := hR2 0 _ (gt 0 (by omega));obtain ⟨_, _, q1, c1⟩ := hR2 1 _ (gt 1 (by omega));obtain ⟨_, _, q2, c2'⟩ := hR2 2 _ (gt 2 (by omega));simp only [Option.some.injEq, Addr.mk.injEq, and_true] at q0 q1 q2;obtain ⟨rfl, rfl⟩ := q0;obtain ⟨rfl, rfl⟩ := q1;obtain ⟨rfl, rfl⟩ := q2;rw [Nat.add_zero, Nat.add_zero] at c0
    have hw1 : IntKind.i64.wrap (3 * (i : Int)) = 3 * (i : Int) := by simp [IntKind.wrap, IntKind.bits, IntKind.signed]; omega
    have hw2 : IntKind.i64.wrap (3 * (i : Int) + 3) = 3 * (i : Int) + 3 := by simp [IntKind.wrap, IntKind.bits, IntKind.signed]; omega
    have hTh := hR.there hlt;have HTw : Hid (twS ws i = ⟨wd ws (3 * i), wd ws (3 * i + 1), IntKind.i64.wrap (wd ws (3 * i + 2))⟩) := rfl
    cases h0 : rd0 ws i with
    | false =>
     have HE : Hid (okW ws = false) := rd0_no hlt h0
     have hcase : decide (2 < wd ws (3 * i)) = true ∨ (decide (2 < wd ws (3 * i)) = false ∧ decide (8 < wd ws (3 * i + 1)) = true) := by
      unfold rd0 at h0;simp only [decide_eq_true_eq, decide_eq_false_iff_not];simp only [Bool.and_eq_false_iff, decide_eq_false_iff_not] at h0;omega
     clear hR hrd hB hrd2 hR2 gt k0 h0 hTh HTw HRd HR HK;generalize wd ws (3 * i) = m at *;generalize wd ws (3 * i + 1) = p at *
     rcases hcase with g0 | ⟨g0, g1⟩
     all_goals
      go_wp2
      go_ret2
      exact ⟨Or.inr ⟨HE.out, rfl⟩, HB.out⟩
    | true =>
     obtain ⟨h1, h2, h3⟩ := rd0_is HWo.out h0
     have HK2 : Hid (rd0K ws (i + 1) = true) := by show (rd0K ws i && rd0 ws i) = true; rw [HK.out, h0]; rfl
     have g0 : decide (2 < wd ws (3 * i)) = false := decide_eq_false (by omega);have g1 : decide (8 < wd ws (3 * i + 1)) = false := decide_eq_false (by omega)
     have hwm : IntKind.i64.wrap (wd ws (3 * i)) = wd ws (3 * i) := by simp [IntKind.wrap, IntKind.bits, IntKind.signed]; omega
     have hwp : IntKind.i64.wrap (wd ws (3 * i + 1)) = wd ws (3 * i + 1) := by simp [IntKind.wrap, IntKind.bits, IntKind.signed]; omega
     obtain ⟨sw, hsw⟩ : ∃ sw, IntKind.i64.wrap (wd ws (3 * i + 2)) = sw := ⟨_, rfl⟩;rw [hsw] at HTw;have hdr := hR.drew.put3 (i := i) (wd ws (3 * i)) (wd ws (3 * i + 1)) sw;rw [← HTw.out, twTo_next] at hdr;have d0 : wr.drew.cell? ⟨g, off, none⟩ = some (.int .u64 (wd ws (3 * i))) := c0;have d1 : wr.drew.cell? ⟨g, off + 1, none⟩ = some (.int .u64 (wd ws (3 * i + 1))) := c1;have d2 : wr.drew.cell? ⟨g, off + 2, none⟩ = some (.int .u64 (wd ws (3 * i + 2))) := c2';have hTd : wr.drew.there c (i * 3) 3 := hR.drew.there hlt;obtain ⟨V, hV⟩ : ∃ V, V = wr.drew.setCells c (i * 3) [.int .i64 (wd ws (3 * i)), .int .i64 (wd ws (3 * i + 1)), .int .i64 sw] := ⟨_, rfl⟩
     have hu : Upd c wr.drew V := by rw [hV]; exact upd_sets _ _ _ _
     have hgV : V.heap[g]? = wr.heap[g]? := hu.block g (by have := HG.out; have := hR.lt; show g < wr.heap.size; omega) (by have := HG.out; omega);have v0 : V.cell? ⟨g, off, none⟩ = some (.int .u64 (wd ws (3 * i))) := cell_same c0 hgV;have v1 : V.cell? ⟨g, off + 1, none⟩ = some (.int .u64 (wd ws (3 * i + 1))) := cell_same c1 hgV;have v2 : V.cell? ⟨g, off + 2, none⟩ = some (.int .u64 (wd ws (3 * i + 2))) := cell_same c2' hgV;rw [← hV] at hdr;have HRV := hid hdr;have HBV : Hid (Below w.heap.size w V) := hB.drew.trans (hu.below (by rw [HCc.out]; exact Nat.le_refl _) hB.size);have HV : Hid _ := hV;have HTd := hid hTd;clear hR hrd hB hrd2 hR2 gt k0 h0 hTh HTw HR HK h1 h2 h3 hdr hV hu hgV hTd;generalize wd ws (3 * i) = m at *;generalize wd ws (3 * i + 1) = p at *;generalize wd ws (3 * i + 2) = s at *
     go_upto_region 10 with fail
     refine wp_region_held_drew (S := fun w' => w'.cell? ⟨g, off, none⟩ = some (.int .u64 m) ∧ w'.cell? ⟨g, off + 1, none⟩ = some (.int .u64 p) ∧ w'.cell? ⟨g, off + 2, none⟩ = some (.int .u64 s)) (by kernel_rfl) ⟨d0, d1, d2⟩ (fun hHeld => ?_);refine tkz [0, 1, 2, 3, 4, 5, 6, 7, 8, 9, 10, 11, 12, 13, 14, 15, 16, 17] ?_
     iterate 18
      refine tkq (v := ?_) rfl (Or.inl ⟨by kernel_rfl, ?_⟩) ?_
      rotate_left
      ·(intro w hSw; (try dsimp only at hSw); go_simp) <;> with_reducible rfl
      (try simp only [Act.put, lq])
     refine tkw ?_
     refine rdy 18 rfl fun K hK => ?_
     refine wp_store_mid 148 _ _ rfl c (i * 3) #[.int .i64 m, .int .i64 p, .int .i64 sw] rfl rfl HTd.out trSize (by simp [Value.oneCell']) ?_
     (try dsimp only)
     rw [← HV.out];refine hK.out _ _ ⟨v0, v1, v2⟩ (fun hHeld => ?_);clear hK K;refine wpAnyH_done (by kernel_rfl) ?_ _;clear hHeld;go_wp2;go_roundw
     case rel => exact ⟨i + 1, by omega, by go_num, HRV.out, HK2.out, HBV.out⟩
     case measure => simp [intOf]; omega
   ·as_aux_lemma =>
    have i1 : decide ((i : Int) < 8) = false := decide_eq_false (by omega)
    have hi8 : i = 8 := by omega
    rw [hi8] at hR hrd;clear hi8;obtain ⟨T, hT⟩ : ∃ T, T = twTo ws 8 := ⟨_, rfl⟩
    have HPa : Hid (Pars T) := by rw [hT]; exact tw_pars HWo.out hrd
    have HOk : Hid (okW ws = true ↔ ∀ i, i < 8 → okR T i = true) := by rw [hT]; exact ok_rows HWo.out HN.out hrd
    have HZ : Hid (∀ i, i < 8 → (T i).is = 0 ∨ (T i).is = 1 ∨ (T i).is = 2) := fun i hi => by
     rw [hT, twTo_8 ws hi];exact (rd0_is HWo.out (rd0K_at hrd hi)).1
    have HEn : Hid (okW ws = true → encT T 8 = ws) := fun h => by rw [hT]; exact enc_row HWo.out HN.out h
    rw [← hT] at hR;have HRT := hid hR;clear hR hrd hB hT HR HK;go_wp2
    go_loopw [7] (fun s wr => ∃ i : Nat, i ≤ 8 ∧ s = .int .i64 i ∧ RT wr c T ∧ (∀ j, j < i → okR T j = true) ∧ Below w.heap.size w wr) (fun s _ => 8 - (intOf s).toNat)
    case atStart => exact ⟨0, by omega, rfl, HRT.out, fun j hj => by omega, HB.out⟩
    case round =>
     clear HRT HB;obtain ⟨i, hi, rfl, hR, hall, hB⟩ := hrel;have HAll := hid hall;have HBr := hid hB
     by_cases hlt : i < 8
     ·have j1 : decide ((i : Int) < 8) = true := decide_eq_true (by omega)
      have n1 : (i : Int) < 8 := by omega
      have n0 : (0 : Int) ≤ (i : Int) := by omega
      have hwi : IntKind.i64.wrap ((i : Int) + 1) = (i : Int) + 1 := by simp [IntKind.wrap, IntKind.bits, IntKind.signed]; omega
      have e0 := hR.is hlt;have e1 := hR.par hlt;have e2 := hR.st hlt;obtain ⟨W, hW⟩ : ∃ W, W = wr.alloc (.cells #[.int .i64 (T i).is, .int .i64 (T i).par, .int .i64 (T i).st] 148) := ⟨_, rfl⟩;obtain ⟨D, hD⟩ : ∃ D, D = wr.heap.size := ⟨_, rfl⟩
      have hbW : Below wr.heap.size wr W := by rw [hW]; exact below_alloc _ _
      have hXW : W.heap[D]? = some (.cells #[.int .i64 (T i).is, .int .i64 (T i).par, .int .i64 (T i).st] 148) := by rw [hW, hD]; exact heap_alloc_new _ _
      have hRW : RT W c T := hR.below hbW;have hBW : Below w.heap.size w W := hB.trans (hbW.mono hB.size);have HXW : Hid _ := hXW;have HRWw := hid hRW;have HBWw := hid hBW;have HW : Hid _ := hW;have HD : Hid _ := hD;have hzc := HZ.out i hlt;have hpc := HPa.out i hlt
      have x0 : W.cell? ⟨D, 0, none⟩ = some (.int .i64 (T i).is) := by rw [cell_of_heap hXW]; rfl
      have x1 : W.cell? ⟨D, 1, none⟩ = some (.int .i64 (T i).par) := by rw [cell_of_heap hXW]; rfl
      have x2 : W.cell? ⟨D, 2, none⟩ = some (.int .i64 (T i).st) := by rw [cell_of_heap hXW]; rfl
      clear hW hD hbW hXW hB hall hR hBW
      go_upto_region 15 with fail
      rw [← HW.out, ← HD.out];clear HW HD e0 e1 e2
      by_cases hy : (T i).par = 0
      ·have hy0 : ((T i).par == 0) = true := by simp [hy]
       have hba : baI T i = true := by unfold baI; rw [hy0]; rfl
       clear hy hRW
       go_quiet (fail)
       have HRW : Hid (RT (W.drewN nq) c T) := HRWw.out.below (drewN_bel W nq);have HBW : Hid (Below w.heap.size w (W.drewN nq)) := HBWw.out.trans ((drewN_bel W nq).mono HBWw.out.size);have k0 : (W.drewN nq).cell? ⟨D, 0, none⟩ = some (.int .i64 (T i).is) := x0;have k1 : (W.drewN nq).cell? ⟨D, 1, none⟩ = some (.int .i64 (T i).par) := x1;have k2 : (W.drewN nq).cell? ⟨D, 2, none⟩ = some (.int .i64 (T i).st) := x2;have hLv := rlive_at c T (T i).par (W.drewN nq) HRW.out;have hRo := rroot_at c T ((i : Int) + 1) (W.drewN nq) HRW.out HPa.out (by omega) (by omega);have hteq := tr_eq
       rcases hzc with hz | hz | hz
       ·rw [hz] at x0 k0
        cases ht : ((T i).st == 0) with
        | true =>
         have HV : Hid (okI T i = true) := by
          show okI T i = true
          unfold okI;rw [hz];rw [if_pos rfl]
          show ((0 : Int) == 0 && ((T i).par == 0 && (T i).st == 0)) = true
          rw [hy0, ht]
          rfl
         clear hba hz
         cases hro : rootR T 9 ((i : Int) + 1) with
         | false =>
          have HE : Hid (okW ws = false) := by
           show okW ws = false
           cases e : okW ws with
           | false => rfl
           | true =>
            have := HOk.out.1 e i hlt;unfold okR at this;rw [hro, Bool.and_false] at this
            cases this
          rw [hro] at hRo;clear hro
          go_wp2_with fail
          refine hRo.mono ?_;rintro e w5 ⟨rfl, hw⟩;rw [hw];clear hw w5 hRo;go_wp2
          go_ret2
          exact ⟨Or.inr ⟨HE.out, rfl⟩, HBW.out⟩
         | true =>
          have HA2 : Hid (∀ j, j < i + 1 → okR T j = true) := fun j hj => by
           by_cases e : j = i
           ·rw [e]; unfold okR; rw [HV.out, hro]; rfl
           ·exact HAll.out j (by omega)
          rw [hro] at hRo;clear hro
          go_wp2_with fail
          refine hRo.mono ?_;rintro e w5 ⟨rfl, hw⟩;rw [hw];clear hw w5 hRo;go_wp2;go_roundw
          case rel => exact ⟨i + 1, by omega, by go_num, HRW.out, HA2.out, HBW.out⟩
          case measure => simp [intOf]; omega
        | false =>
         have HV : Hid (okI T i = false) := by
          show okI T i = false
          unfold okI;rw [hz];rw [if_pos rfl]
          show ((0 : Int) == 0 && ((T i).par == 0 && (T i).st == 0)) = false
          rw [hy0, ht]
          rfl
         clear hba hz
         have HE : Hid (okW ws = false) := by
          show okW ws = false
          cases e : okW ws with
          | false => rfl
          | true =>
           have := HOk.out.1 e i hlt;unfold okR at this;rw [HV.out] at this
           cases this
         go_wp2
         go_ret2
         exact ⟨Or.inr ⟨HE.out, rfl⟩, HBW.out⟩
       ·rw [hz] at x0 k0
        cases ht : ((T i).st == 0) with
        | true =>
         have HV : Hid (okI T i = true) := by
          show okI T i = true
          unfold okI;rw [hz];rw [if_neg (by omega), if_pos rfl, hba, ht]
          rfl
         clear hba hz
         cases hro : rootR T 9 ((i : Int) + 1) with
         | false =>
          have HE : Hid (okW ws = false) := by
           show okW ws = false
           cases e : okW ws with
           | false => rfl
           | true =>
            have := HOk.out.1 e i hlt;unfold okR at this;rw [hro, Bool.and_false] at this
            cases this
          rw [hro] at hRo;clear hro
          go_wp2_with fail
          refine hRo.mono ?_;rintro e w5 ⟨rfl, hw⟩;rw [hw];clear hw w5 hRo;go_wp2
          go_ret2
          exact ⟨Or.inr ⟨HE.out, rfl⟩, HBW.out⟩
         | true =>
          have HA2 : Hid (∀ j, j < i + 1 → okR T j = true) := fun j hj => by
           by_cases e : j = i
           ·rw [e]; unfold okR; rw [HV.out, hro]; rfl
           ·exact HAll.out j (by omega)
          rw [hro] at hRo;clear hro
          go_wp2_with fail
          refine hRo.mono ?_;rintro e w5 ⟨rfl, hw⟩;rw [hw];clear hw w5 hRo;go_wp2;go_roundw
          case rel => exact ⟨i + 1, by omega, by go_num, HRW.out, HA2.out, HBW.out⟩
          case measure => simp [intOf]; omega
        | false =>
         have HV : Hid (okI T i = false) := by
          show okI T i = false
          unfold okI;rw [hz];rw [if_neg (by omega), if_pos rfl, hba, ht]
          rfl
         clear hba hz
         have HE : Hid (okW ws = false) := by
          show okW ws = false
          cases e : okW ws with
          | false => rfl
          | true =>
           have := HOk.out.1 e i hlt;unfold okR at this;rw [HV.out] at this
           cases this
         go_wp2
         go_ret2
         exact ⟨Or.inr ⟨HE.out, rfl⟩, HBW.out⟩
       ·rw [hz] at x0 k0
        cases hl : livT T (T i).par with
        | true =>
         rw [hl] at hLv
         have HV : Hid (okI T i = true) := by
          show okI T i = true
          unfold okI;rw [hz];rw [if_neg (by omega), if_neg (by omega), hba, hl]
          rfl
         clear hba hz
         go_wp2_with fail
         refine hLv.mono ?_;rintro e w5 ⟨rfl, hw⟩;rw [hw];clear hw w5 hLv
         cases hro : rootR T 9 ((i : Int) + 1) with
         | false =>
          have HE : Hid (okW ws = false) := by
           show okW ws = false
           cases e : okW ws with
           | false => rfl
           | true =>
            have := HOk.out.1 e i hlt;unfold okR at this;rw [hro, Bool.and_false] at this
            cases this
          rw [hro] at hRo;clear hro
          go_wp2_with fail
          refine hRo.mono ?_;rintro e w5 ⟨rfl, hw⟩;rw [hw];clear hw w5 hRo;go_wp2
          go_ret2
          exact ⟨Or.inr ⟨HE.out, rfl⟩, HBW.out⟩
         | true =>
          have HA2 : Hid (∀ j, j < i + 1 → okR T j = true) := fun j hj => by
           by_cases e : j = i
           ·rw [e]; unfold okR; rw [HV.out, hro]; rfl
           ·exact HAll.out j (by omega)
          rw [hro] at hRo;clear hro
          go_wp2_with fail
          refine hRo.mono ?_;rintro e w5 ⟨rfl, hw⟩;rw [hw];clear hw w5 hRo;go_wp2;go_roundw
          case rel => exact ⟨i + 1, by omega, by go_num, HRW.out, HA2.out, HBW.out⟩
          case measure => simp [intOf]; omega
        | false =>
         rw [hl] at hLv
         have HV : Hid (okI T i = false) := by
          show okI T i = false
          unfold okI;rw [hz];rw [if_neg (by omega), if_neg (by omega), hba, hl]
          rfl
         clear hba hz
         have HE : Hid (okW ws = false) := by
          show okW ws = false
          cases e : okW ws with
          | false => rfl
          | true =>
           have := HOk.out.1 e i hlt;unfold okR at this;rw [HV.out] at this
           cases this
         go_wp2_with fail
         refine hLv.mono ?_;rintro e w5 ⟨rfl, hw⟩;rw [hw];clear hw w5 hLv;go_wp2
         go_ret2
         exact ⟨Or.inr ⟨HE.out, rfl⟩, HBW.out⟩
      ·have hy0 : ((T i).par == 0) = false := beq_false_of_ne hy
       obtain ⟨j, hj⟩ : ∃ j : Nat, (j : Int) = (T i).par - 1 := ⟨((T i).par - 1).toNat, by omega⟩
       have hj8 : j < 8 := by omega
       have hw1 : IntKind.i64.wrap ((T i).par - 1) = (j : Int) := by rw [← hj]; simp [IntKind.wrap, IntKind.bits, IntKind.signed]; omega
       have m0 : (0 : Int) ≤ (j : Int) := by omega
       have m1 : (j : Int) < 8 := by omega
       have cj := fun q => (hRW.below (drewN_bel W q)).is hj8
       cases hu : ((T j).is != 0) with
       | true =>
        have hba : baI T i = true := by unfold baI; rw [hy0, show ((T i).par - 1).toNat = j by omega, hu]; rfl
        clear hy hRW hj
        go_quiet (fail)
        have HRW : Hid (RT (W.drewN nq) c T) := HRWw.out.below (drewN_bel W nq);have HBW : Hid (Below w.heap.size w (W.drewN nq)) := HBWw.out.trans ((drewN_bel W nq).mono HBWw.out.size);have k0 : (W.drewN nq).cell? ⟨D, 0, none⟩ = some (.int .i64 (T i).is) := x0;have k1 : (W.drewN nq).cell? ⟨D, 1, none⟩ = some (.int .i64 (T i).par) := x1;have k2 : (W.drewN nq).cell? ⟨D, 2, none⟩ = some (.int .i64 (T i).st) := x2;have hLv := rlive_at c T (T i).par (W.drewN nq) HRW.out;have hRo := rroot_at c T ((i : Int) + 1) (W.drewN nq) HRW.out HPa.out (by omega) (by omega);have hteq := tr_eq
        rcases hzc with hz | hz | hz
        ·rw [hz] at x0 k0
         have HV : Hid (okI T i = false) := by
          show okI T i = false
          unfold okI;rw [hz];rw [if_pos rfl]
          show ((0 : Int) == 0 && ((T i).par == 0 && (T i).st == 0)) = false
          rw [hy0]
          rfl
         clear hba hz
         have HE : Hid (okW ws = false) := by
          show okW ws = false
          cases e : okW ws with
          | false => rfl
          | true =>
           have := HOk.out.1 e i hlt;unfold okR at this;rw [HV.out] at this
           cases this
         go_wp2
         go_ret2
         exact ⟨Or.inr ⟨HE.out, rfl⟩, HBW.out⟩
        ·rw [hz] at x0 k0
         cases ht : ((T i).st == 0) with
         | true =>
          have HV : Hid (okI T i = true) := by
           show okI T i = true
           unfold okI;rw [hz];rw [if_neg (by omega), if_pos rfl, hba, ht]
           rfl
          clear hba hz
          cases hro : rootR T 9 ((i : Int) + 1) with
          | false =>
           have HE : Hid (okW ws = false) := by
            show okW ws = false
            cases e : okW ws with
            | false => rfl
            | true =>
             have := HOk.out.1 e i hlt;unfold okR at this;rw [hro, Bool.and_false] at this
             cases this
           rw [hro] at hRo;clear hro
           go_wp2_with fail
           refine hRo.mono ?_;rintro e w5 ⟨rfl, hw⟩;rw [hw];clear hw w5 hRo;go_wp2
           go_ret2
           exact ⟨Or.inr ⟨HE.out, rfl⟩, HBW.out⟩
          | true =>
           have HA2 : Hid (∀ j, j < i + 1 → okR T j = true) := fun j hj => by
            by_cases e : j = i
            ·rw [e]; unfold okR; rw [HV.out, hro]; rfl
            ·exact HAll.out j (by omega)
           rw [hro] at hRo;clear hro
           go_wp2_with fail
           refine hRo.mono ?_;rintro e w5 ⟨rfl, hw⟩;rw [hw];clear hw w5 hRo;go_wp2;go_roundw
           case rel => exact ⟨i + 1, by omega, by go_num, HRW.out, HA2.out, HBW.out⟩
           case measure => simp [intOf]; omega
         | false =>
          have HV : Hid (okI T i = false) := by
           show okI T i = false
           unfold okI;rw [hz];rw [if_neg (by omega), if_pos rfl, hba, ht]
           rfl
          clear hba hz
          have HE : Hid (okW ws = false) := by
           show okW ws = false
           cases e : okW ws with
           | false => rfl
           | true =>
            have := HOk.out.1 e i hlt;unfold okR at this;rw [HV.out] at this
            cases this
          go_wp2
          go_ret2
          exact ⟨Or.inr ⟨HE.out, rfl⟩, HBW.out⟩
        ·rw [hz] at x0 k0
         cases hl : livT T (T i).par with
         | true =>
          rw [hl] at hLv
          have HV : Hid (okI T i = true) := by
           show okI T i = true
           unfold okI;rw [hz];rw [if_neg (by omega), if_neg (by omega), hba, hl]
           rfl
          clear hba hz
          go_wp2_with fail
          refine hLv.mono ?_;rintro e w5 ⟨rfl, hw⟩;rw [hw];clear hw w5 hLv
          cases hro : rootR T 9 ((i : Int) + 1) with
          | false =>
           have HE : Hid (okW ws = false) := by
            show okW ws = false
            cases e : okW ws with
            | false => rfl
            | true =>
             have := HOk.out.1 e i hlt;unfold okR at this;rw [hro, Bool.and_false] at this
             cases this
           rw [hro] at hRo;clear hro
           go_wp2_with fail
           refine hRo.mono ?_;rintro e w5 ⟨rfl, hw⟩;rw [hw];clear hw w5 hRo;go_wp2
           go_ret2
           exact ⟨Or.inr ⟨HE.out, rfl⟩, HBW.out⟩
          | true =>
           have HA2 : Hid (∀ j, j < i + 1 → okR T j = true) := fun j hj => by
            by_cases e : j = i
            ·rw [e]; unfold okR; rw [HV.out, hro]; rfl
            ·exact HAll.out j (by omega)
           rw [hro] at hRo;clear hro
           go_wp2_with fail
           refine hRo.mono ?_;rintro e w5 ⟨rfl, hw⟩;rw [hw];clear hw w5 hRo;go_wp2;go_roundw
           case rel => exact ⟨i + 1, by omega, by go_num, HRW.out, HA2.out, HBW.out⟩
           case measure => simp [intOf]; omega
         | false =>
          rw [hl] at hLv
          have HV : Hid (okI T i = false) := by
           show okI T i = false
           unfold okI;rw [hz];rw [if_neg (by omega), if_neg (by omega), hba, hl]
           rfl
          clear hba hz
          have HE : Hid (okW ws = false) := by
           show okW ws = false
           cases e : okW ws with
           | false => rfl
           | true =>
            have := HOk.out.1 e i hlt;unfold okR at this;rw [HV.out] at this
            cases this
          go_wp2_with fail
          refine hLv.mono ?_;rintro e w5 ⟨rfl, hw⟩;rw [hw];clear hw w5 hLv;go_wp2
          go_ret2
          exact ⟨Or.inr ⟨HE.out, rfl⟩, HBW.out⟩
       | false =>
        have hba : baI T i = false := by unfold baI; rw [hy0, show ((T i).par - 1).toNat = j by omega, hu]; rfl
        clear hy hRW hj
        go_quiet (fail)
        have HRW : Hid (RT (W.drewN nq) c T) := HRWw.out.below (drewN_bel W nq);have HBW : Hid (Below w.heap.size w (W.drewN nq)) := HBWw.out.trans ((drewN_bel W nq).mono HBWw.out.size);have k0 : (W.drewN nq).cell? ⟨D, 0, none⟩ = some (.int .i64 (T i).is) := x0;have k1 : (W.drewN nq).cell? ⟨D, 1, none⟩ = some (.int .i64 (T i).par) := x1;have k2 : (W.drewN nq).cell? ⟨D, 2, none⟩ = some (.int .i64 (T i).st) := x2;have hLv := rlive_at c T (T i).par (W.drewN nq) HRW.out;have hRo := rroot_at c T ((i : Int) + 1) (W.drewN nq) HRW.out HPa.out (by omega) (by omega);have hteq := tr_eq
        rcases hzc with hz | hz | hz
        ·rw [hz] at x0 k0
         have HV : Hid (okI T i = false) := by
          show okI T i = false
          unfold okI;rw [hz];rw [if_pos rfl]
          show ((0 : Int) == 0 && ((T i).par == 0 && (T i).st == 0)) = false
          rw [hy0]
          rfl
         clear hba hz
         have HE : Hid (okW ws = false) := by
          show okW ws = false
          cases e : okW ws with
          | false => rfl
          | true =>
           have := HOk.out.1 e i hlt;unfold okR at this;rw [HV.out] at this
           cases this
         go_wp2
         go_ret2
         exact ⟨Or.inr ⟨HE.out, rfl⟩, HBW.out⟩
        ·rw [hz] at x0 k0
         have HV : Hid (okI T i = false) := by
          show okI T i = false
          unfold okI;rw [hz];rw [if_neg (by omega), if_pos rfl, hba]
          rfl
         clear hba hz
         have HE : Hid (okW ws = false) := by
          show okW ws = false
          cases e : okW ws with
          | false => rfl
          | true =>
           have := HOk.out.1 e i hlt;unfold okR at this;rw [HV.out] at this
           cases this
         go_wp2
         go_ret2
         exact ⟨Or.inr ⟨HE.out, rfl⟩, HBW.out⟩
        ·rw [hz] at x0 k0
         have HV : Hid (okI T i = false) := by
          show okI T i = false
          unfold okI;rw [hz];rw [if_neg (by omega), if_neg (by omega), hba]
          rfl
         clear hba hz
         have HE : Hid (okW ws = false) := by
          show okW ws = false
          cases e : okW ws with
          | false => rfl
          | true =>
           have := HOk.out.1 e i hlt;unfold okR at this;rw [HV.out] at this
           cases this
         go_wp2
         go_ret2
         exact ⟨Or.inr ⟨HE.out, rfl⟩, HBW.out⟩
     ·have j1 : decide ((i : Int) < 8) = false := decide_eq_false (by omega)
      have hi8 : i = 8 := by omega
      subst hi8;have HOkT : Hid (okW ws = true) := HOk.out.2 HAll.out;have hEn := rencode_at c T wr hR;rw [HEn.out HOkT.out, HN.out] at hEn;clear hall hB hR
      go_wp2_with fail
      refine hEn.mono ?_;rintro e w5 ⟨v5, rfl, ho5, hb5⟩;rw [← HN.out] at ho5;obtain ⟨a5, c5, rfl, _, hr5⟩ := own_rd ho5;have HB5 : Hid (Below w.heap.size w w5) := HBr.out.trans (hb5.mono HBr.out.size);have hWo := words_same ws a5 a c5 cap w5 hr5 (HRd.out.below HB5.out) (by have := HN.out; omega);rw [HN.out] at hWo ⊢;clear ho5 hb5 hr5 hEn
      go_wp2_with fail
      refine hWo.mono ?_;rintro e w6 ⟨rfl, hb6⟩;have HB6 : Hid (Below w.heap.size w w6) := HB5.out.trans (hb6.mono HB5.out.size);clear hb6 hWo;go_wp2
      go_ret2
      exact ⟨Or.inl ⟨HOkT.out, c, rfl⟩, HB6.out⟩
 ·have g0 : ((n : Int) != 24) = true := by simp; omega
  have HE : Hid (okW ws = false) := by
   show okW ws = false
   unfold okW;rw [decide_eq_false (by omega)]
   rfl
  clear hr hn hw h24
  go_enter Tryz.func22, Tryz.ntmps22
  go_wp2
  go_ret2
  exact ⟨Or.inr ⟨HE.out, rfl⟩, Below.refl _ _⟩
end Pc
end Go.Proofs.YtinaeifpoljfoaaGreatDoor
