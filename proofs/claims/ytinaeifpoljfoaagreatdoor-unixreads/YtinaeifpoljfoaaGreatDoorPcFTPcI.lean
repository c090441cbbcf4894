import Derived.Test.YtinaeifpoljfoaaGreatDoorPcUTPcD
set_option linter.all false
set_option maxRecDepth 100000
set_option maxHeartbeats 16000000
namespace Go.Proofs.YtinaeifpoljfoaaGreatDoor
open Go.RowKit Go.Lib
namespace Ow
end Ow
namespace Pc
open Ow
def rdS (S : St) (k m a s : Int) : St := if rdB m a s = true then (match decP m a s with | none => S | some p => stPut S k p) else S
theorem read_at (B b g off n cap : Nat) (S : St) (k m a s : Int) (w : World) (h : PrAt w B b S) (h1 : 1 ≤ k) (h8 : k ≤ 8) (hk : S k = none) (hn : 3 ≤ n)
  (c0 : w.cell? ⟨g, off, none⟩ = some (.int .u64 m)) (c1 : w.cell? ⟨g, off + 1, none⟩ = some (.int .u64 a)) (c2 : w.cell? ⟨g, off + 2, none⟩ = some (.int .u64 s)) (hm0 : 0 ≤ m) (ha0 : 0 ≤ a) :
  Calls Tryz.prog 46 #[ptr b, .int .i64 k, .slice (some ⟨g, off, none⟩) n cap] w fun e w' => e = .returned (.bool (rdB m a s)) ∧ PrAt w' B b (rdS S k m a s) ∧ Tch B w w' := by
 have d0 : w.drew.cell? ⟨g, off, none⟩ = some (.int .u64 m) := c0;have d1 : w.drew.cell? ⟨g, off + 1, none⟩ = some (.int .u64 a) := c1;have d2 : w.drew.cell? ⟨g, off + 2, none⟩ = some (.int .u64 s) := c2
 have n0 : (0 : Int) < (n : Int) := by omega
 have n1 : (1 : Int) < (n : Int) := by omega
 have n2 : (2 : Int) < (n : Int) := by omega
 have m0 : 0 < n := by omega
 have m1 : 1 < n := by omega
 have m2 : 2 < n := by omega
 have hA : PrAt w.drew B b S := h.below (Below.refl _ _).drew;have HT : Hid (Tch B w w.drew) := Tch.of_below (Below.refl _ _).drew;have HA := hid hA
 by_cases hm : 2 < m
 ·have g0 : decide (2 < m) = true := decide_eq_true hm
  have HR : Hid (rdB m a s = false ∧ rdS S k m a s = S) := by
   have e : rdB m a s = false := by unfold rdB; rw [decide_eq_false (show ¬ m ≤ 2 by omega)]; rfl
   exact ⟨e, by unfold rdS; rw [e, if_neg (by simp)]⟩
  clear h hk hA hn
  go_enter Tryz.func46, Tryz.ntmps46
  go_wp2_with fail
  go_region
  all_goals
   go_wp2;go_ret;obtain ⟨e1, e2⟩ := HR.out;exact ⟨by rw [e1]; rfl, by rw [e2]; exact HA.out, HT.out⟩
 ·have g0 : decide (2 < m) = false := decide_eq_false hm
  by_cases ha : 8 < a
  ·have g1 : decide (8 < a) = true := decide_eq_true ha
   have HR : Hid (rdB m a s = false ∧ rdS S k m a s = S) := by
    have e : rdB m a s = false := by unfold rdB; rw [decide_eq_false (show ¬ a ≤ 8 by omega), Bool.and_false]; rfl
    exact ⟨e, by unfold rdS; rw [e, if_neg (by simp)]⟩
   clear h hk hA hn
   go_enter Tryz.func46, Tryz.ntmps46
   go_wp2_with fail
   go_region
   all_goals
    go_wp2;go_ret;obtain ⟨e1, e2⟩ := HR.out;exact ⟨by rw [e1]; rfl, by rw [e2]; exact HA.out, HT.out⟩
  ·have g1 : decide (8 < a) = false := decide_eq_false ha
   by_cases hs : m ≠ 2 ∧ s ≠ 0
   ·have g2 : (m != 2) = true := bne_iff_ne.2 hs.1
    have g3 : (s != 0) = true := bne_iff_ne.2 hs.2
    have HR : Hid (rdB m a s = false ∧ rdS S k m a s = S) := by
     have e : rdB m a s = false := by
      cases e : rdB m a s with
      | false => rfl
      | true =>
       have := (rdB_is e).2.2.1;exact absurd this (fun q => q.elim hs.1 hs.2)
     exact ⟨e, by unfold rdS; rw [e, if_neg (by simp)]⟩
    clear h hk hA hn hs
    go_enter Tryz.func46, Tryz.ntmps46
    go_wp2_with fail
    go_region
    all_goals
     go_wp2;go_ret;obtain ⟨e1, e2⟩ := HR.out;exact ⟨by rw [e1]; rfl, by rw [e2]; exact HA.out, HT.out⟩
   ·have hms : m = 2 ∨ s = 0 := by
     by_cases e : m = 2
     ·exact Or.inl e
     ·exact Or.inr (Classical.byContradiction fun q => hs ⟨e, q⟩)
    by_cases hmz : m = 0
    ·subst hmz
     have hsz : s = 0 := hms.resolve_left (by omega);subst hsz
     have HR : Hid (rdB 0 a 0 = (a == 0) ∧ rdS S k 0 a 0 = S) := by
      refine ⟨?_, ?_⟩
      ·unfold rdB
       rw [decide_eq_true (show a ≤ 8 by omega)];simp
       rfl
      ·unfold rdS decP
       rw [if_pos rfl]
       split <;> rfl
     clear h hk hA hn hs hms
     go_enter Tryz.func46, Tryz.ntmps46
     go_wp2_with fail
     go_region
     all_goals
      go_wp2;go_ret;obtain ⟨e1, e2⟩ := HR.out;exact ⟨by rw [e1]; rfl, by rw [e2]; exact HA.out, HT.out⟩
    ·have HR : Hid (rdB m a s = true ∧ rdS S k m a s = stPut S k ⟨a, m == 2, IntKind.i64.wrap s⟩) := by
      have e : rdB m a s = true := by
       unfold rdB;rw [decide_eq_true (show m ≤ 2 by omega), decide_eq_true (show a ≤ 8 by omega), decide_eq_false hmz]
       rcases hms with q | q
       ·rw [decide_eq_true q]; rfl
       ·rw [decide_eq_true q, Bool.or_true]; rfl
      refine ⟨e, ?_⟩;unfold rdS decP;rw [if_pos e, if_neg hmz]
      show stPut S k ⟨a, decide (m = 2), IntKind.i64.wrap s⟩ = _
      have : decide (m = 2) = (m == 2) := by
       cases q : (m == 2) with
       | true => exact decide_eq_true (by simpa using q)
       | false => exact decide_eq_false (by simpa using q)
      rw [this]
     have hp := put_at B b S k ⟨a, m == 2, IntKind.i64.wrap s⟩ w.drew hA h1 h8 hk
     have hwa : IntKind.i64.wrap a = a := by simp [IntKind.wrap, IntKind.bits, IntKind.signed]; omega
     have g4 : (m == 0) = false := beq_false_of_ne hmz
     have g5 : ∀ z, (m == 2) = z → (m != 2) = !z := fun z hz => by rw [← hz]; rfl
     cases hz2 : (m == 2) with
     | true =>
      have g2 : (m != 2) = false := g5 true hz2;rw [hz2] at hp HR;obtain ⟨sw, hsw⟩ : ∃ sw, IntKind.i64.wrap s = sw := ⟨_, rfl⟩;rw [hsw] at hp HR;clear h hk hA hn hs hms hm ha g5
      go_enter Tryz.func46, Tryz.ntmps46
      go_wp2_with fail
      go_region
      all_goals
       go_wp2_with fail
       refine hp.mono ?_;rintro e w1 ⟨rfl, hA1, hT1⟩;have HA1 := hid hA1;have HT1 : Hid (Tch B w w1) := HT.out.trans hT1;clear hA1 hT1 hp;go_wp2;go_ret;obtain ⟨e1, e2⟩ := HR.out;exact ⟨by rw [e1]; rfl, by rw [e2]; exact HA1.out, HT1.out⟩
     | false =>
      have g2 : (m != 2) = true := g5 false hz2;have hs0 : s = 0 := hms.resolve_left (fun q => by rw [q] at hz2; simp at hz2);subst hs0;rw [hz2, show IntKind.i64.wrap 0 = 0 from rfl] at hp HR;clear h hk hA hn hs hms hm ha g5
      go_enter Tryz.func46, Tryz.ntmps46
      go_wp2_with fail
      go_region
      all_goals
       go_wp2_with fail
       refine hp.mono ?_;rintro e w1 ⟨rfl, hA1, hT1⟩;have HA1 := hid hA1;have HT1 : Hid (Tch B w w1) := HT.out.trans hT1;clear hA1 hT1 hp;go_wp2;go_ret;obtain ⟨e1, e2⟩ := HR.out;exact ⟨by rw [e1]; rfl, by rw [e2]; exact HA1.out, HT1.out⟩
end Pc
namespace Ow
end Ow
namespace Pc
open Ow
theorem may_at (B b cc : Nat) (S : St) (p : Pr) (w : World) (h : PrAt w B b S) (hc : w.heap[cc]? = some (.cells (prow p) 211)) :
  Calls Tryz.prog 100 #[ptr b, ptr cc] w fun e w' => e = .returned (.bool (mayB S p)) ∧ ∃ q, w' = w.drewN q := by
 have c0 : w.cell? ⟨cc, 0, none⟩ = some (.int .i64 p.par) := by rw [cell_of_heap hc]; rfl
 have c1 : w.cell? ⟨cc, 1, none⟩ = some (.bool p.zom) := by rw [cell_of_heap hc]; rfl
 have d0 : w.drew.cell? ⟨cc, 0, none⟩ = some (.int .i64 p.par) := c0;have hv := live_at B b S p.par w h;obtain ⟨mo, c, hP⟩ := h;have e0 := hP.cell;have hPd := hP.below (Below.refl w.heap.size w).drew;have f0 := hPd.cell
 cases hz : p.zom with
 | true =>
  have HR : Hid (mayB S p = liv S p.par) := by show _ = _; unfold mayB; rw [hz, if_pos rfl]
  rw [hz] at c1;clear hP hPd hc hz
  go_enter Tryz.func100, Tryz.ntmps100
  go_wp2_with fail
  refine hv.mono ?_;rintro e w1 ⟨rfl, hw⟩;rw [hw];clear hw w1 hv;go_wp2;go_ret;exact ⟨by rw [HR.out]; rfl, 0, rfl⟩
 | false =>
  rw [hz] at c1
  by_cases hp0 : p.par = 0
  ·have HR : Hid (mayB S p = true) := by show _ = _; unfold mayB; rw [hz, if_neg (by simp), decide_eq_true hp0]; rfl
   have g0 : (p.par == 0) = true := by simp [hp0]
   have hl : ∃ v, (Instr.lookup 165 (.map mo) (.int .i64 p.par) false).run Tryz.prog w.drew = .ok v w.drew := ⟨_, hPd.look p.par⟩;obtain ⟨v, hl⟩ := hl;clear hP hPd hc hz hp0 hv
   go_enter Tryz.func100, Tryz.ntmps100
   go_wp2_with fail
   go_quiet (fail)
   go_wp2;go_ret;exact ⟨by rw [HR.out]; rfl, _, rfl⟩
  ·have g0 : (p.par == 0) = false := beq_false_of_ne hp0
   cases hS : S p.par with
   | none =>
    have HR : Hid (mayB S p = false) := by show _ = _; unfold mayB; rw [hz, if_neg (by simp), decide_eq_false hp0, hS]; rfl
    have hl := fun q => (hP.below (drewN_bel w q)).look_none hS
    have q0 := fun q => (hP.below (drewN_bel w q)).cell
    have r0 : ∀ q, (w.drewN q).cell? ⟨cc, 0, none⟩ = some (.int .i64 p.par) := fun q => c0
    clear hP hPd hc hz hp0 hv hS
    go_enter Tryz.func100, Tryz.ntmps100
    go_wp2_with fail
    go_quiet (fail)
    go_wp2;go_ret;exact ⟨by rw [HR.out]; rfl, _, rfl⟩
   | some x =>
    have HR : Hid (mayB S p = true) := by show _ = _; unfold mayB; rw [hz, if_neg (by simp), decide_eq_false hp0, hS]; rfl
    have hl := fun q => (hP.below (drewN_bel w q)).look_some hS
    have q0 := fun q => (hP.below (drewN_bel w q)).cell
    have r0 : ∀ q, (w.drewN q).cell? ⟨cc, 0, none⟩ = some (.int .i64 p.par) := fun q => c0
    have hq := ne_proc (c p.par);clear hP hPd hc hz hp0 hv hS;generalize c p.par = cp at *
    go_enter Tryz.func100, Tryz.ntmps100
    go_wp2_with fail
    go_quiet (fail)
    go_wp2;go_ret;exact ⟨by rw [HR.out]; rfl, _, rfl⟩
end Pc
end Go.Proofs.YtinaeifpoljfoaaGreatDoor
namespace Go.Proofs.YtinaeifpoljfoaaGreatDoor
open Go.RowKit Go.Lib Go.Maps
namespace Ow
end Ow
namespace Pc
open Ow
theorem root_at (B b : Nat) (mo : Option Nat) (c : Int → Nat) (S : St) (k0 : Int) (p0 : Pr) (w : World) (h : PrIs w B b mo c S) (h0 : S k0 = some p0) (hup : ∀ k p, S k = some p → p.par ≠ 0 → (S p.par).isSome = true) :
  Calls Tryz.prog 101 #[ptr b, ptr (c k0)] w fun e w' => e = .returned (.bool (rootB S 8 p0)) ∧ ∃ q, w' = w.drewN q := by
 have HH := hid h;have HU := hid hup;have H0 := hid h0;clear h hup h0
 go_enter Tryz.func101, Tryz.ntmps101
 go_wp2
 go_loopw [1, 5] (fun x i wr => ∃ (k : Nat) (kx : Int) (p : Pr) (q : Nat), k ≤ 8 ∧ i = .int .i64 k ∧ ptr (c kx) = x ∧ S kx = some p ∧ rootB S 8 p0 = rootB S (8 - k) p ∧ wr = w.drewN q) (fun _ i _ => 8 - (intOf i).toNat)
 case atStart => exact ⟨0, k0, p0, 0, by omega, rfl, rfl, H0.out, rfl, rfl⟩
 case round =>
  obtain ⟨k, kx, p, q, hk, rfl, rfl, hp, hr, hw⟩ := hrel;have HW := hid hw;have HP := hid hp;have HR := hid hr
  have hP : PrIs wr B b mo c S := by rw [hw]; exact HH.out.below (drewN_bel w q)
  obtain ⟨c0, -, -⟩ := hP.cells hp;have e0 := hP.cell;clear hw
  by_cases hlt : k < 8
  ·have i1 : decide ((k : Int) < 8) = true := decide_eq_true (by omega)
   have hki : (k : Int) < 8 := by omega
   rw [show 8 - k = (8 - (k + 1)) + 1 by omega] at HR
   by_cases hz : p.par = 0
   ·have g0 : (p.par == 0) = true := by simp [hz]
    have HT : Hid (rootB S 8 p0 = true) := by show _ = _; rw [HR.out]; unfold rootB; rw [decide_eq_true hz]; rfl
    clear hp hr hP hz;generalize c kx = cx at *;go_wp2;go_ret;exact ⟨by rw [HT.out]; rfl, q, HW.out⟩
   ·have g0 : (p.par == 0) = false := beq_false_of_ne hz
    obtain ⟨x, hx⟩ := Option.isSome_iff_exists.1 (HU.out kx p hp hz);have HX := hid hx
    have HT : Hid (rootB S 8 p0 = rootB S (8 - (k + 1)) x) := by
     show _ = _
     rw [HR.out]
     show (decide (p.par = 0) || hits S (rootB S (8 - (k + 1))) p.par) = _
     unfold hits;rw [decide_eq_false hz, hx]
     rfl
    have hP2 := hP.below (Below.refl wr.heap.size wr).drew;have hl := hP2.look_some hx;have d0 : wr.drew.cell? ⟨c kx, 0, none⟩ = some (.int .i64 p.par) := c0;have f0 : wr.drew.cell? ⟨b, 0, none⟩ = some (.map mo) := e0;clear hp hr hP hz hx hP2;obtain ⟨cx, hcx⟩ : ∃ cx, c kx = cx := ⟨_, rfl⟩;obtain ⟨cp, hcp⟩ : ∃ cp, c p.par = cp := ⟨_, rfl⟩;have HC := hid hcp;rw [hcx] at c0 d0;rw [hcp] at hl;rw [hcx];clear hcx hcp
    go_wp2_with fail
    go_region
    all_goals
     go_wp2;go_roundw
     case rel => exact ⟨k + 1, p.par, x, q + 1, by omega, by go_num, by rw [HC.out], HX.out, HT.out, by rw [HW.out]; rfl⟩
     case measure => simp [intOf]; omega
  ·have i1 : decide ((k : Int) < 8) = false := decide_eq_false (by omega)
   have HT : Hid (rootB S 8 p0 = false) := by show _ = _; rw [HR.out, show 8 - k = 0 by omega]; rfl
   clear hp hr hP;generalize c kx = cx at *;go_wp2;go_ret;exact ⟨by rw [HT.out]; rfl, q, HW.out⟩
theorem hit_of {S : St} {c : Int → Nat} {x : Int} (hdx : (pf S c x).isSome = true) : ∃ p, S x = some p := by
 unfold pf at hdx
 cases e : S x with
 | none => rw [e] at hdx; cases hdx
 | some p => exact ⟨p, rfl⟩
theorem may_up {S : St} (hd : Dom S) (h : allB S (mayB S) = true) : ∀ k p, S k = some p → p.par ≠ 0 → (S p.par).isSome = true := by
 intro k p hk hne;have := (allB_true hd).1 h k p hk;unfold mayB at this
 split at this
 ·obtain ⟨x, hx, _⟩ := liv_is.1 this
  rw [hx]; rfl
 ·rw [decide_eq_false hne, Bool.false_or] at this
  exact this
theorem isForest_at (B b : Nat) (S : St) (w : World) (h : PrAt w B b S) :
  Calls Tryz.prog 47 #[ptr b] w fun e w' => e = .returned (.bool (frB S)) ∧ Below w.heap.size w w' := by
 obtain ⟨mo, c, h⟩ := h;have HH := hid h;have HM : Hid (MapO w .i64 mo (pf S c)) := h.map;have HD : Hid (Dom S) := h.dom;have c0 := h.cell;clear h
 go_enter Tryz.func47, Tryz.ntmps47
 go_wp2_with (first | (at_range; refine wpList_range_o rfl _ _ _ _ rfl Tryz.underlying165 .i64 mo (pf S c) rfl HM.out ?_; intro w0 n0 hrg0 hb0 hs0) | go_in)
 go_frame
 have HR0 := hid hrg0;have HB0 := hid hb0;obtain ⟨r, hr⟩ : ∃ r, r = w.heap.size := ⟨_, rfl⟩;rw [← hr] at HR0 ⊢;have Hr := hid hr;clear hrg0 hb0 hs0 c0 hr
 go_loopw [] (fun wr => ∃ (left : Int → Bool) (n : Nat), RngO wr .i64 mo r (pf S c) left n ∧ Below w.heap.size w wr ∧ ∀ k p, S k = some p → left k = false → mayB S p = true) (fun wr => mleft mo r wr)
 case atStart => exact ⟨_, n0, HR0.out, HB0.out, fun k p hk hl => (by rw [pf_some, hk] at hl; cases hl)⟩
 case round =>
  clear HR0 HB0;obtain ⟨left, n, hrg, hB, hM⟩ := hrel;have HRg := hid hrg;have HB := hid hB;have HMa := hid hM;clear hrg hB hM
  go_wp2_with (first | (at_next; refine wpList_next_o rfl _ rfl .i64 mo r (pf S c) (fun x => ptr (c x)) pf_ptr left n rfl HRg.out ?_ ?_) | go_in)
  ·intro hl0
   have HA : Hid (allB S (mayB S) = true) := (allB_true HD.out).2 (fun k p hk => HMa.out k p hk (hl0 k));have hP := HH.out.below HB.out;have HP := hid hP;have HM2 : Hid (MapO wr .i64 mo (pf S c)) := hP.map;have c0 := hP.cell;clear hl0 HMa HRg hP
   go_wp2_with (first | (at_range; refine wpList_range_o rfl _ _ _ _ rfl Tryz.underlying165 .i64 mo (pf S c) rfl HM2.out ?_; intro w3 n3 hrg3 hb3 hs3) | go_in)
   go_frame
   have HR3 := hid hrg3;have HB3 : Hid (Below w.heap.size w w3) := HB.out.trans (hb3.mono HB.out.size);obtain ⟨r2, hr2⟩ : ∃ r2, r2 = wr.heap.size := ⟨_, rfl⟩;rw [← hr2] at HR3 ⊢
   have Hr2 : Hid (w.heap.size ≤ r2) := by show w.heap.size ≤ r2; rw [hr2]; exact HB.out.size
   clear hrg3 hb3 hs3 c0 hr2 HP HM2 HB
   go_loopw [] (fun wr => ∃ (left : Int → Bool) (n : Nat), RngO wr .i64 mo r2 (pf S c) left n ∧ Below w.heap.size w wr ∧ ∀ k p, S k = some p → left k = false → rootB S 8 p = true) (fun wr => mleft mo r2 wr)
   case atStart => exact ⟨_, n3, HR3.out, HB3.out, fun k p hk hl => (by rw [pf_some, hk] at hl; cases hl)⟩
   case round =>
    clear HR3 HB3;obtain ⟨left2, n2, hrg, hB, hM⟩ := hrel;have HRg := hid hrg;have HB := hid hB;have HMa := hid hM;clear hrg hB hM
    go_wp2_with (first | (at_next; refine wpList_next_o rfl _ rfl .i64 mo r2 (pf S c) (fun x => ptr (c x)) pf_ptr left2 n2 rfl HRg.out ?_ ?_) | go_in)
    ·intro hl0
     have HE : Hid (frB S = true) := by
      show frB S = true
      unfold frB;rw [HA.out, (allB_true HD.out).2 (fun k p hk => HMa.out k p hk (hl0 k))]
      rfl
     clear hl0;go_wp2;go_ret;exact ⟨by rw [HE.out]; rfl, HB.out⟩
    ·intro x w1 n1 hlx hdx hrg1 hlt1 hu1 hs1 hen
     have HRg1 := hid hrg1;have HLt := hid hlt1;have HB1 : Hid (Below w.heap.size w w1) := below_upd HB.out hu1 Hr2.out HB.out.size;obtain ⟨p, hp⟩ := hit_of hdx;have hRo := root_at B b mo c S x p w1 (HH.out.below HB1.out) hp (may_up HD.out HA.out);have HPx := hid hp;clear hrg1 hlt1 hu1 hs1 hdx hp hlx;generalize hcx : c x = cx at *;clear hcx
     go_wp2_with fail
     refine hRo.mono ?_;rintro e w2 ⟨rfl, q, hw⟩;rw [hw];clear hw w2 hRo hen;have HRg2 : Hid (RngO (w1.drewN q) .i64 mo r2 (pf S c) (fun z => left2 z && z != x) n1) := HRg1.out.of_blocks (fun _ _ => rfl) rfl;have HB2 : Hid (Below w.heap.size w (w1.drewN q)) := HB1.out.trans ((drewN_bel w1 q).mono HB1.out.size);generalize w1.drewN q = W at *
     cases hm : rootB S 8 p with
     | true =>
      have HMa2 : Hid (∀ k p, S k = some p → (left2 k && k != x) = false → rootB S 8 p = true) := by
       intro k q hk hl
       by_cases e : k = x
       ·rw [e, HPx.out] at hk; cases hk; exact hm
       ·rw [bne_iff_ne.2 e, Bool.and_true] at hl
        exact HMa.out k q hk hl
      clear hm HB1 HRg1;go_wp2;go_roundw
      case rel => exact ⟨_, n1, HRg2.out, HB2.out, HMa2.out⟩
      case measure => rw [HRg2.out.left_eq, HRg.out.left_eq]; exact HLt.out
     | false =>
      have HE : Hid (frB S = false) := by
       show frB S = false
       unfold frB;rw [allB_false HD.out HPx.out hm, Bool.and_false]
      clear hm HB1 HRg1;go_wp2;go_ret;exact ⟨by rw [HE.out]; rfl, HB2.out⟩
  ·intro x w1 n1 hlx hdx hrg1 hlt1 hu1 hs1 hen
   have HRg1 := hid hrg1;have HLt := hid hlt1;have HB1 : Hid (Below w.heap.size w w1) := below_upd HB.out hu1 (by have := Hr.out; omega) HB.out.size;obtain ⟨p, hp⟩ := hit_of hdx;have hP1 := HH.out.below HB1.out;have hRo := may_at B b (c x) S p w1 ⟨mo, c, hP1⟩ (hP1.pr x p hp);have HPx := hid hp;clear hrg1 hlt1 hu1 hs1 hdx hp hlx hP1;generalize hcx : c x = cx at *;clear hcx
   go_wp2_with fail
   refine hRo.mono ?_;rintro e w2 ⟨rfl, q, hw⟩;rw [hw];clear hw w2 hRo hen;have HRg2 : Hid (RngO (w1.drewN q) .i64 mo r (pf S c) (fun z => left z && z != x) n1) := HRg1.out.of_blocks (fun _ _ => rfl) rfl;have HB2 : Hid (Below w.heap.size w (w1.drewN q)) := HB1.out.trans ((drewN_bel w1 q).mono HB1.out.size);generalize w1.drewN q = W at *
   cases hm : mayB S p with
   | true =>
    have HMa2 : Hid (∀ k p, S k = some p → (left k && k != x) = false → mayB S p = true) := by
     intro k q hk hl
     by_cases e : k = x
     ·rw [e, HPx.out] at hk; cases hk; exact hm
     ·rw [bne_iff_ne.2 e, Bool.and_true] at hl
      exact HMa.out k q hk hl
    clear hm HB1 HRg1;go_wp2;go_roundw
    case rel => exact ⟨_, n1, HRg2.out, HB2.out, HMa2.out⟩
    case measure => rw [HRg2.out.left_eq, HRg.out.left_eq]; exact HLt.out
   | false =>
    have HE : Hid (frB S = false) := by
     show frB S = false
     unfold frB;rw [allB_false HD.out HPx.out hm, Bool.false_and]
    clear hm HB1 HRg1;go_wp2;go_ret;exact ⟨by rw [HE.out]; rfl, HB2.out⟩
end Pc
namespace Ow
end Ow
namespace Pc
open Ow
theorem rd_next (ws : List Int) {k : Nat} (hk : k < 8) (h : rdAt ws k = true) : rdS (decTo ws k) ((k : Int) + 1) (wd ws (3 * k)) (wd ws (3 * k + 1)) (wd ws (3 * k + 2)) = decTo ws (k + 1) := by
 unfold rdS;rw [show rdB (wd ws (3 * k)) (wd ws (3 * k + 1)) (wd ws (3 * k + 2)) = true from h, if_pos rfl, ← decS_at ws hk]
 cases e : decS ws ((k : Int) + 1) with
 | none => exact (decTo_none ws hk e).symm
 | some p => exact (decTo_some ws hk e).symm
def DecR (ws : List Int) (B : Nat) (e : Ending) (w' : World) : Prop :=
 (okW ws = true ∧ e = .returned (.tuple #[ptr B, .int .i64 0]) ∧ PrAt w' B B (decS ws)) ∨ (okW ws = false ∧ e = .returned (.tuple #[.pointer none, .int .i64 101]))
theorem decode_at (a : Option Addr) (n cap : Nat) (ws : List Int) (w : World) (hr : Rd w a ws) (hn : n = ws.length) (hcap : n ≤ cap) (hw : Words ws) (hn9 : n ≤ 1000000) :
  Calls Tryz.prog 18 #[.slice a n cap] w fun e w' => DecR ws w.heap.size e w' ∧ Below w.heap.size w w' := by
 by_cases h24 : n = 24
 ·subst h24
  have HRd := hid hr;have HWo := hid hw;have HN : Hid (ws.length = 24) := hn.symm;have hNew := new_at w;obtain ⟨B, hB⟩ : ∃ B, B = w.heap.size := ⟨_, rfl⟩;have HBs := hid hB;rw [← hB] at hNew;clear hr hw hn hB
  go_enter Tryz.func18, Tryz.ntmps18
  go_wp2_with fail
  refine hNew.mono ?_;rintro e w1 ⟨rfl, hA, hb⟩
  have HA : Hid (PrAt w1 B B (decTo ws 0)) := by
   show PrAt w1 B B (decTo ws 0)
   rw [decTo_0]; exact hA
  have HB1 : Hid (Below w.heap.size w w1) := by rw [← HBs.out]; exact hb
  clear hA hb hNew;go_wp2
  go_loopw [5] (fun i wr => ∃ k : Nat, k ≤ 8 ∧ i = .int .i64 ((k : Int) + 1) ∧ PrAt wr B B (decTo ws k) ∧ rdK ws k = true ∧ Below w.heap.size w wr) (fun i _ => 9 - (intOf i).toNat)
  case atStart => exact ⟨0, by omega, rfl, HA.out, rfl, HB1.out⟩
  case round =>
   clear HA HB1;obtain ⟨k, hk, rfl, hA, hrd, hB⟩ := hrel;have HA := hid hA;have HK := hid hrd;have HB := hid hB
   by_cases hlt : k < 8
   ·have i1 : decide ((k : Int) + 1 ≤ 8) = true := decide_eq_true (by omega)
    have hki : (k : Int) + 1 ≤ 8 := by omega
    obtain ⟨a2, c2, hcut, hc2, hrd2⟩ := cut_wl ws a 24 cap (3 * k) HN.out.symm (by omega) hcap
    have hcut' : ∀ V, (Instr.slice 22 (.slice a 24 cap) (some (.int .i64 ((k : Int) * 3))) none none).run Tryz.prog V = .ok (.slice a2 (24 - 3 * k) c2) V := by
     intro V;have := hcut V;rw [show ((3 * k : Nat) : Int) = (k : Int) * 3 by omega] at this;exact this
    have hR2 : Rd wr a2 (ws.drop (3 * k)) := (hrd2 w HRd.out).below hB
    have gt : ∀ j, j < 3 → (ws.drop (3 * k))[j]? = some (wd ws (3 * k + j)) := fun j hj => by
     rw [List.getElem?_drop, List.getElem?_eq_getElem (by have := HN.out; omega)];unfold wd;rw [List.getD_eq_getElem?_getD, List.getElem?_eq_getElem (by have := HN.out; omega)]
     rfl
    obtain ⟨g, off, rfl, c0⟩ := hR2 0 _ (gt 0 (by omega));obtain ⟨_, _, q1, c1⟩ := hR2 1 _ (gt 1 (by omega));obtain ⟨_, _, q2, c2'⟩ := hR2 2 _ (gt 2 (by omega));simp only [Option.some.injEq, Addr.mk.injEq, and_true] at q1 q2;obtain ⟨rfl, rfl⟩ := q1;obtain ⟨rfl, rfl⟩ := q2;rw [Nat.add_zero, Nat.add_zero] at c0;have hRe := read_at B B g off (24 - 3 * k) c2 (decTo ws k) ((k : Int) + 1) _ _ _ wr hA (by omega) (by omega) (decTo_new ws k) (by omega) c0 c1 c2' (wd_word HWo.out _).1 (wd_word HWo.out _).1
    have hw1 : IntKind.i64.wrap (k : Int) = (k : Int) := by simp [IntKind.wrap, IntKind.bits, IntKind.signed]; omega
    have hw2 : IntKind.i64.wrap ((k : Int) * 3) = (k : Int) * 3 := by simp [IntKind.wrap, IntKind.bits, IntKind.signed]; omega
    cases hat : rdAt ws k with
    | true =>
     rw [rd_next ws hlt hat, show rdB (wd ws (3 * k)) (wd ws (3 * k + 1)) (wd ws (3 * k + 2)) = true from hat] at hRe
     have HK2 : Hid (rdK ws (k + 1) = true) := by show (rdK ws k && rdAt ws k) = true; rw [HK.out, hat]; rfl
     clear hA hrd hB hcut hrd2 hR2 gt c0 c1 c2' hat hc2 HA HK;generalize 24 - 3 * k = nn at *
     go_wp2_with fail
     refine hRe.mono ?_;rintro e w2 ⟨rfl, hA2, hT2⟩;have HA2 := hid hA2;have HB2 : Hid (Below w.heap.size w w2) := HB.out.trans (hT2.below (by have := HB.out.size; have := HBs.out; omega) |>.mono (by have := HBs.out; omega));clear hA2 hT2 hRe;go_wp2;go_roundw
     case rel => exact ⟨k + 1, by omega, by go_num, HA2.out, HK2.out, HB2.out⟩
     case measure => simp [intOf]; omega
    | false =>
     rw [show rdB (wd ws (3 * k)) (wd ws (3 * k + 1)) (wd ws (3 * k + 2)) = false from hat] at hRe
     have HE : Hid (okW ws = false) := by
      show okW ws = false
      cases e : okW ws with
      | false => rfl
      | true =>
       unfold okW at e;rw [Bool.and_eq_true, Bool.and_eq_true] at e;have := rdK_at e.2.1 hlt;rw [hat] at this
       cases this
     clear hA hrd hB hcut hrd2 hR2 gt c0 c1 c2' hat hc2 HA HK;generalize 24 - 3 * k = nn at *
     go_wp2_with fail
     refine hRe.mono ?_;rintro e w2 ⟨rfl, hA2, hT2⟩;have HB2 : Hid (Below w.heap.size w w2) := HB.out.trans (hT2.below (by have := HB.out.size; have := HBs.out; omega) |>.mono (by have := HBs.out; omega));clear hA2 hT2 hRe;go_wp2
     go_ret2
     exact ⟨Or.inr ⟨HE.out, rfl⟩, HB2.out⟩
   ·have i1 : decide ((k : Int) + 1 ≤ 8) = false := decide_eq_false (by omega)
    have hk8 : k = 8 := by omega
    rw [hk8, decTo_8] at hA;rw [hk8] at hrd;have hF := isForest_at B B (decS ws) wr hA;have HA8 := hid hA;have HK8 := hid hrd;clear hA hrd hB hk8 HA HK
    cases hf : frB (decS ws) with
    | true =>
     have HE : Hid (okW ws = true) := by
      show okW ws = true
      unfold okW;rw [decide_eq_true HN.out, HK8.out, hf]
      rfl
     rw [hf] at hF;clear hf
     go_wp2_with fail
     refine hF.mono ?_;rintro e w2 ⟨rfl, hb2⟩;have HA2 : Hid (PrAt w2 B B (decS ws)) := HA8.out.below hb2;have HB2 : Hid (Below w.heap.size w w2) := HB.out.trans (hb2.mono HB.out.size);clear hb2 hF;go_wp2
     go_ret2
     refine ⟨Or.inl ⟨HE.out, ?_, ?_⟩, HB2.out⟩
     ·rw [← HBs.out]; rfl
     ·rw [← HBs.out]; exact HA2.out
    | false =>
     have HE : Hid (okW ws = false) := by
      show okW ws = false
      unfold okW;rw [hf, Bool.and_false, Bool.and_false]
     rw [hf] at hF;clear hf
     go_wp2_with fail
     refine hF.mono ?_;rintro e w2 ⟨rfl, hb2⟩;have HB2 : Hid (Below w.heap.size w w2) := HB.out.trans (hb2.mono HB.out.size);clear hb2 hF;go_wp2
     go_ret2
     exact ⟨Or.inr ⟨HE.out, rfl⟩, HB2.out⟩
 ·have g0 : ((n : Int) != 24) = true := by simp; omega
  have HE : Hid (okW ws = false) := by
   show okW ws = false
   unfold okW;rw [decide_eq_false (by omega)]
   rfl
  clear hr hn hw h24
  go_enter Tryz.func18, Tryz.ntmps18
  go_wp2
  go_ret2
  exact ⟨Or.inr ⟨HE.out, rfl⟩, Below.refl _ _⟩
end Pc
end Go.Proofs.YtinaeifpoljfoaaGreatDoor
