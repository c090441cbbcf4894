import Derived.Test.YtinaeifpoljfoaaGreatDoorRdM18TRdA18
import Derived.Great.BuildSlice
set_option linter.all false
set_option maxRecDepth 100000
set_option maxHeartbeats 16000000
namespace Go.Proofs.YtinaeifpoljfoaaGreatDoor
open Go.RowKit
namespace Ow
end Ow
namespace Fd
open Ow
def deE (ws : List Int) : Int := if okW ws then 0 else 101
theorem deE_L {ws : List Int} (h : okL ws = false) : deE ws = 101 := by unfold deE okW; rw [h]; rfl
theorem deE_F {ws : List Int} {i : Nat} (hi : i < wN ws) (h : okAt (wF ws) i = false) : deE ws = 101 := by
 have : okFs ws = false := by
  cases hb : okFs ws with
  | false => rfl
  | true => rw [okFs_get hb hi] at h; cases h
 unfold deE okW;rw [this, Bool.and_false]
 rfl
theorem deE_N {ws : List Int} {k : Nat} (hk : k < 48) (h : (wN ws : Int) < (wT ws).getD k 0) : deE ws = 101 := by
 have : okNs ws = false := by
  cases hb : okNs ws with
  | false => rfl
  | true => have := okNs_get hb hk; omega
 unfold deE okW;rw [this, Bool.and_false]
 rfl
theorem deE_end {ws : List Int} (hu : U64 ws) (h1 : okL ws = true) (h2 : okFs ws = true) (h3 : okNs ws = true) : deE ws = if decide (encW (decS ws) = ws) then 0 else 101 := by
 unfold deE
 by_cases h : okW ws = true
 ·rw [if_pos h, decide_eq_true (enc_dec hu h)]
  rfl
 ·rw [if_neg h]
  have : ¬ encW (decS ws) = ws := fun e => h (by
    have := dec_ok (decS_iv h1 h3) (decS_fit hu h1 h3 h2);rw [e] at this
    exact this)
  rw [decide_eq_false this]
  rfl
theorem getD_some {ws : List Int} {j : Nat} (h : j < ws.length) : ws[j]? = some (ws.getD j 0) := by rw [List.getD_eq_getElem?_getD, List.getElem?_eq_getElem h]; rfl
theorem step_bs {P : Program} {ops : Array Oper} {o : Oper} {a : Act} {w w' : World} {K : Act → World → Prop} {Q : Exit → Act → World → Prop} {E : Prop} (hgd : o.guard = none) (t : TypeId) (len : Nat) (x : Operand)
  (ho : o.op = .buildSlice t len #[(0, x)]) (v : Value) (hx : a.eval x = v) (r : Value) (hr : (Instr.buildSlice t len #[(0, v)]).run P w = .ok r w') (hK : K (a.put o.dst r) w') :
  if Region.wanted o (yielded ops a.tmps) = true then Oper.wp P o a w K Q else E := by
 have hw : Region.wanted o (yielded ops a.tmps) = true := by simp [Region.wanted, hgd]
 rw [if_pos hw];unfold Oper.wp execOp;simp only [ho, Sem.run_bind, List.map_toArray, List.map_cons, List.map_nil, hx, hr, Result.andThen_ok];exact hK
theorem build_F (u0 u1 u2 : Int) (ap : Bool) (w : World) : (Instr.buildSlice 128 1 #[(0, .agg #[.int .i64 u0, .int .i64 u1, .int .i64 u2, .bool ap, .int .i64 0, .slice none 0 0])]).run Tryz.prog w.drew = .ok (.slice (some ⟨w.heap.size, 0, none⟩) 1 1) (w.alloc (.cells #[.int .i64 u0, .int .i64 u1, .int .i64 u2, .bool ap, .int .i64 0, .slice none 0 0] 133)).drew := by
 obtain ⟨ie, hie, e⟩ := Option.map_eq_some_iff.1 fInfo;have hz : ie.zero = _ := congrArg (fun r => r.1) e;have hs : ie.size = 6 := congrArg (fun r => r.2.1) e;exact run_buildSlice w.drew 128 133 1 _ #[.int .i64 u0, .int .i64 u1, .int .i64 u2, .bool ap, .int .i64 0, .slice none 0 0] ie _ (by kernel_rfl) hie hz (by rw [hs]; decide) (by rw [hs]; decide) (by rw [hs]; kernel_rfl)
structure FX (ws : List Int) (L : List En) (i : Nat) : Prop where
 len : L.length = i
 each : ∀ (j : Nat) (e : En), L[j]? = some e → e.x = flAt (wF ws) j ∧ e.d = []
theorem FX.snoc {ws : List Int} {L : List En} {i : Nat} (h : FX ws L i) : FX ws (L ++ [⟨flAt (wF ws) i, none, 0, []⟩]) (i + 1) := by
 refine ⟨by rw [List.length_append, h.len]; rfl, fun j e he => ?_⟩
 by_cases hj : j < i
 ·rw [List.getElem?_append_left (by rw [h.len]; exact hj)] at he
  exact h.each j e he
 ·rw [List.getElem?_append_right (by rw [h.len]; omega), h.len] at he
  have hz := (List.getElem?_eq_some_iff.1 he).1;simp at hz
  have : j - i = 0 := by omega
  rw [this] at he
  have e1 : e = ⟨flAt (wF ws) i, none, 0, []⟩ := by simpa using he.symm
  subst e1
  have : j = i := by omega
  subst this;exact ⟨rfl, rfl⟩
theorem FX.fk {ws : List Int} {L : List En} {n : Nat} (h : FX ws L n) : FK ws L n 0 := ⟨h.len, fun i e he => ⟨(h.each i e he).1, (h.each i e he).2⟩⟩
theorem FK.name {ws : List Int} {L : List En} {n k i : Nat} {e : En} (h : FK ws L n k) (he : L[i]? = some e) (ht : tT ws k = i + 1) (a : Option Addr) (c : Nat) : FK ws (L.set i ⟨e.x, a, c, e.d ++ [k]⟩) n (k + 1) := by
 have hil := (List.getElem?_eq_some_iff.1 he).1;refine ⟨by rw [List.length_set]; exact h.len, fun j f hf => ?_⟩;rw [List.getElem?_set] at hf
 by_cases hji : i = j
 ·subst hji
  rw [if_pos rfl, if_pos hil] at hf;have := Option.some.inj hf;subst this;obtain ⟨e1, e2⟩ := h.each i e he;exact ⟨e1, by rw [dK_succ, if_pos ht, e2]⟩
 ·rw [if_neg hji] at hf
  obtain ⟨e1, e2⟩ := h.each j f hf;exact ⟨e1, by rw [dK_succ, if_neg (by omega)]; exact e2⟩
theorem FK.zero {ws : List Int} {L : List En} {n k : Nat} (h : FK ws L n k) (ht : tT ws k = 0) : FK ws L n (k + 1) :=
 ⟨h.len, fun j f hf => ⟨(h.each j f hf).1, by rw [dK_succ, if_neg (by omega)]; exact (h.each j f hf).2⟩⟩
theorem rdecode_at (a : Option Addr) (n cap : Nat) (ws : List Int) (w : World) (hr : Rd w a ws) (hn : n = ws.length) (hcap : n ≤ cap) (hu : U64 ws) (hn9 : n ≤ 3000) :
  Calls Tryz.prog 19 #[.slice a n cap] w fun x w' => (∃ p, x = .returned (.tuple #[.pointer p, .int .i64 (deE ws)])) ∧ Below w.heap.size w w' := by
 have HU := hid hu;have HR := hid hr;have HN := hid hn
 by_cases h0 : n = 0
 ·have HE : Hid (deE ws = 101) := deE_L (by unfold okL; rw [← hn, h0]; rfl)
  have g0 : decide ((n : Int) < 1) = true := decide_eq_true (by omega);clear hr hn hu h0
  go_enter Tryz.func19, Tryz.ntmps19
  go_wp2
  go_ret2
  exact ⟨⟨none, by rw [HE.out]; rfl⟩, Below.refl _ _⟩
 have hw0 := getD_some (ws := ws) (j := 0) (by omega);obtain ⟨g, off, rfl, c0⟩ := hr 0 _ hw0;rw [Nat.add_zero] at c0;have hu0 := u64_getD hu 0;have g0 : decide ((n : Int) < 1) = false := decide_eq_false (by omega)
 have n0 : (0 : Int) < (n : Int) := by omega
 have n0' : 0 < n := by omega
 by_cases h32 : 32 < ws.getD 0 0
 ·have HE : Hid (deE ws = 101) := deE_L (by unfold okL; rw [decide_eq_false (show ¬ ws.getD 0 0 ≤ 32 by omega)]; simp)
  have g1 : decide (32 < ws.getD 0 0) = true := decide_eq_true h32;generalize ws.getD 0 0 = u at *;clear hr hn hu h0 hw0 hu0 h32
  go_enter Tryz.func19, Tryz.ntmps19
  go_wp2
  go_ret2
  exact ⟨⟨none, by rw [HE.out]; rfl⟩, Below.refl _ _⟩
 have g1 : decide (32 < ws.getD 0 0) = false := decide_eq_false h32;obtain ⟨m, hm⟩ : ∃ m : Nat, ws.getD 0 0 = (m : Int) := ⟨(ws.getD 0 0).toNat, by omega⟩
 have hwm : wN ws = m := by unfold wN; omega
 have hm32 : m ≤ 32 := by omega
 have HM := hid hwm
 have hL0 : okL ws = decide (n = 1 + m * 4 + 48) := by
  unfold okL;rw [hwm, ← hn, decide_eq_true (show 1 ≤ n by omega), decide_eq_true (show ws.getD 0 0 ≤ 32 by omega)]
  rfl
 have HL0 := hid hL0;rw [hm] at c0 g1
 have hcv : IntKind.i64.wrap (m : Int) = (m : Int) := by simp [IntKind.wrap, IntKind.bits, IntKind.signed]; omega
 obtain ⟨q4, hq4⟩ : ∃ q4 : Nat, q4 = 4 * m := ⟨_, rfl⟩;obtain ⟨q5, hq5⟩ : ∃ q5 : Nat, q5 = 1 + q4 := ⟨_, rfl⟩;obtain ⟨q6, hq6⟩ : ∃ q6 : Nat, q6 = q5 + 48 := ⟨_, rfl⟩
 have hs4 : IntKind.i64.wrap (4 * (m : Int)) = (q4 : Int) := by rw [hq4]; simp [IntKind.wrap, IntKind.bits, IntKind.signed]; omega
 have hs5 : IntKind.i64.wrap (1 + (q4 : Int)) = (q5 : Int) := by rw [hq5]; simp [IntKind.wrap, IntKind.bits, IntKind.signed]; omega
 have hs6 : IntKind.i64.wrap ((q5 : Int) + 48) = (q6 : Int) := by rw [hq6]; simp [IntKind.wrap, IntKind.bits, IntKind.signed]; omega
 have HQ4 := hid hq4;have HQ5 := hid hq5;have HQ6 := hid hq6
 by_cases h6 : n = q6
 case neg =>
  have HE : Hid (deE ws = 101) := deE_L (by rw [hL0]; exact decide_eq_false (by omega));have g2 : ((n : Int) == (q6 : Int)) = false := beq_false_of_ne (by omega);clear hr hn hu h0 hw0 hu0 h32 hm hwm hL0 hq4 hq5 hq6 h6
  go_enter Tryz.func19, Tryz.ntmps19
  go_wp2
  go_ret2
  exact ⟨⟨none, by rw [HE.out]; rfl⟩, Below.refl _ _⟩
 case pos =>
 have g2 : ((n : Int) == (q6 : Int)) = true := by rw [h6]; simp
 have g2b : ((n : Int) != (q6 : Int)) = false := by rw [h6]; simp
 have g2c : (n == q6) = true := by rw [h6]; simp
 have g2d : (n != q6) = false := by rw [h6]; simp
 have HOkL : Hid (okL ws = true) := by show _ = _; rw [hL0]; exact decide_eq_true (by omega)
 have HN6 := hid h6
 have hq5n : q5 ≤ n := by omega
 obtain ⟨a3, c3, hcut3, hc3, hrd3⟩ := cut_wl ws (some ⟨g, off, none⟩) n cap q5 hn hq5n hcap
 have HD3 : Hid (Rd w a3 (wT ws)) := by
  have := hrd3 w hr;unfold wT;rw [hwm, show 1 + m * 4 = q5 by omega];exact this
 obtain ⟨n48, hn48⟩ : ∃ n48, n48 = n - q5 := ⟨_, rfl⟩;rw [← hn48] at hcut3
 have h48 : n48 = 48 := by omega
 have HN48 := hid h48
 have HWF : Hid (∀ j, j < m * 4 → (wF ws).getD j 0 = ws.getD (1 + j) 0) := fun j hj => wF_get HOkL.out (by rw [hwm]; exact hj)
 have HC := hid hcap;obtain ⟨B, hBe⟩ : ∃ B, B = w.heap.size := ⟨_, rfl⟩;have HBe := hid hBe;have hgw : g < w.heap.size := cell_lt c0;clear hr hn hu h0 hw0 hu0 h32 hm hwm hL0 hq4 hq5 hq6 h6 hrd3 hn48 h48 hBe hc3
 go_enter Tryz.func19, Tryz.ntmps19
 go_wp2;have HD0 : Hid (DIs (w.alloc (.cells #[.slice none 0 0] 130)) w.heap.size w.heap.size (.slice none 0 0) []) := ⟨⟨heap_alloc_new _ _, World.ownsRow_nil _ _ _ _, fun e he => (by simp at he), Nat.le_refl _⟩, fun i e he => (by simp at he), fun i j e f q _ he => (by simp at he)⟩;have HB0 : Hid (Below w.heap.size w (w.alloc (.cells #[.slice none 0 0] 130))) := below_alloc _ _
 have HD0' : Hid (DIs (w.alloc (.cells #[.slice none 0 0] 130)) B B (.slice none 0 0) []) := by rw [HBe.out]; exact HD0.out
 rw [← HBe.out];generalize w.alloc (.cells #[.slice none 0 0] 130) = W0 at *;clear HD0 c0
 go_loopw [6] (fun s wr => ∃ (i : Nat) (v : Value) (L : List En), i ≤ m ∧ s = .int .i64 i ∧ DIs wr B B v L ∧ FX ws L i ∧ (∀ j, j < i → okAt (wF ws) j = true) ∧ Below w.heap.size w wr) (fun s _ => m - (intOf s).toNat)
 case atStart => exact ⟨0, _, [], by omega, rfl, HD0'.out, ⟨rfl, fun j e he => (by simp at he)⟩, fun j hj => (by omega), HB0.out⟩
 case round =>
  clear HD0' HB0;obtain ⟨i, v, L, hi, rfl, hD, hX, hall, hB⟩ := hrel;have HD := hid hD;have HX := hid hX;have HAll := hid hall;have HB := hid hB
  by_cases hlt : i < m
  ·as_aux_lemma =>
   have i1 : decide ((i : Int) < (m : Int)) = true := decide_eq_true (by omega);obtain ⟨p4, hp4⟩ : ∃ p4 : Nat, p4 = 4 * i := ⟨_, rfl⟩;obtain ⟨p1, hp1⟩ : ∃ p1 : Nat, p1 = 1 + p4 := ⟨_, rfl⟩;obtain ⟨p5, hp5⟩ : ∃ p5 : Nat, p5 = 5 + p4 := ⟨_, rfl⟩
   have ht4 : IntKind.i64.wrap (4 * (i : Int)) = (p4 : Int) := by rw [hp4]; simp [IntKind.wrap, IntKind.bits, IntKind.signed]; omega
   have ht1 : IntKind.i64.wrap (1 + (p4 : Int)) = (p1 : Int) := by rw [hp1]; simp [IntKind.wrap, IntKind.bits, IntKind.signed]; omega
   have ht5 : IntKind.i64.wrap (5 + (p4 : Int)) = (p5 : Int) := by rw [hp5]; simp [IntKind.wrap, IntKind.bits, IntKind.signed]; omega
   have hq4 := HQ4.out;have hq5 := HQ5.out;have hq6 := HQ6.out;have hn6 := HN6.out;obtain ⟨a2, c2, hcut2, hc2, hrd2⟩ := cut_wlh ws (some ⟨g, off, none⟩) n cap p1 p5 HN.out (by omega) (by omega) HC.out;have hRd2 := hrd2 w HR.out;obtain ⟨n4, hn4⟩ : ∃ n4, n4 = p5 - p1 := ⟨_, rfl⟩;rw [← hn4] at hcut2
   have e4 : n4 = 4 := by omega
   have hgx : ∀ t, t < 4 → ((ws.take p5).drop p1)[t]? = some ((wF ws).getD (i * 4 + t) 0) := fun t ht => by
    rw [List.getElem?_drop, List.getElem?_take_of_lt (by omega), getD_some (by rw [← HN.out]; omega), HWF.out _ (by omega)]
    congr 2
    omega
   obtain ⟨gx, ox, rfl, x0⟩ := hRd2 0 _ (hgx 0 (by omega));obtain ⟨_, _, z1, x1⟩ := hRd2 1 _ (hgx 1 (by omega));obtain ⟨_, _, z2, x2⟩ := hRd2 2 _ (hgx 2 (by omega));obtain ⟨_, _, z3, x3⟩ := hRd2 3 _ (hgx 3 (by omega));simp only [Option.some.injEq, Addr.mk.injEq, and_true] at z1 z2 z3;obtain ⟨rfl, rfl⟩ := z1;obtain ⟨rfl, rfl⟩ := z2;obtain ⟨rfl, rfl⟩ := z3;rw [Nat.add_zero] at x0;have y0 := (hB.cell (cell_lt x0)).trans x0;have y1 := (hB.cell (cell_lt x1)).trans x1;have y2 := (hB.cell (cell_lt x2)).trans x2;have y3 := (hB.cell (cell_lt x3)).trans x3;rw [Nat.add_zero] at y0
   have hgl : gx < B := by have h1 := cell_lt x0; have h2 := HBe.out; dsimp only at h1; omega
   have HFl : Hid (flAt (wF ws) i = flOf ((wF ws).getD (i * 4) 0) ((wF ws).getD (i * 4 + 1) 0) ((wF ws).getD (i * 4 + 2) 0) ((wF ws).getD (i * 4 + 3) 0)) := rfl;have HOk : Hid (okAt (wF ws) i = okF ((wF ws).getD (i * 4) 0) ((wF ws).getD (i * 4 + 1) 0) ((wF ws).getD (i * 4 + 2) 0) ((wF ws).getD (i * 4 + 3) 0)) := rfl;have hU : ∀ j, 0 ≤ (wF ws).getD j 0 := wF_pos HU.out;have b0 := hU (i * 4);have b1 := hU (i * 4 + 1);have b2 := hU (i * 4 + 2);have b3 := hU (i * 4 + 3)
   have HBad : Hid (okAt (wF ws) i = false → deE ws = 101) := fun h => deE_F (by rw [HM.out]; exact hlt) h
   generalize (wF ws).getD (i * 4) 0 = u0 at *;generalize (wF ws).getD (i * 4 + 1) 0 = u1 at *;generalize (wF ws).getD (i * 4 + 2) 0 = u2 at *;generalize (wF ws).getD (i * 4 + 3) 0 = u3 at *
   have k0 : (0 : Int) < (n4 : Int) := by omega
   have k1 : (1 : Int) < (n4 : Int) := by omega
   have k2 : (2 : Int) < (n4 : Int) := by omega
   have k3 : (3 : Int) < (n4 : Int) := by omega
   have k0' : 0 < n4 := by omega
   have k1' : 1 < n4 := by omega
   have k2' : 2 < n4 := by omega
   have k3' : 3 < n4 := by omega
   clear hp4 hp1 hp5 hq4 hq5 hq6 hn6 hrd2 hRd2 hn4 e4 hgx x0 x1 x2 x3 hD hX hall hB hU hc2
   by_cases s0 : u0 < 1
   ·have d0 : decide (u0 < 1) = true := decide_eq_true s0
    have HE : Hid (deE ws = 101) := HBad.out (by rw [HOk.out]; unfold okF; rw [decide_eq_false (show ¬ 1 ≤ u0 by omega)]; rfl);clear b0 b1 b2 b3;go_wp2
    go_ret2
    exact ⟨⟨none, by rw [HE.out]; rfl⟩, HB.out⟩
   have d0 : decide (u0 < 1) = false := decide_eq_false s0
   by_cases s1 : 4 < u0
   ·have d1 : decide (4 < u0) = true := decide_eq_true s1
    have HE : Hid (deE ws = 101) := HBad.out (by rw [HOk.out]; unfold okF; rw [decide_eq_false (show ¬ u0 ≤ 4 by omega)]; simp);clear b0 b1 b2 b3;go_wp2
    go_ret2
    exact ⟨⟨none, by rw [HE.out]; rfl⟩, HB.out⟩
   have d1 : decide (4 < u0) = false := decide_eq_false s1
   by_cases s2 : 1048576 < u1
   ·have d2 : decide (1048576 < u1) = true := decide_eq_true s2
    have HE : Hid (deE ws = 101) := HBad.out (by rw [HOk.out]; unfold okF; rw [decide_eq_false (show ¬ u1 ≤ 1048576 by omega)]; simp);clear b0 b1 b2 b3;go_wp2
    go_ret2
    exact ⟨⟨none, by rw [HE.out]; rfl⟩, HB.out⟩
   have d2 : decide (1048576 < u1) = false := decide_eq_false s2
   by_cases s3 : 1048576 < u2
   ·have d3 : decide (1048576 < u2) = true := decide_eq_true s3
    have HE : Hid (deE ws = 101) := HBad.out (by rw [HOk.out]; unfold okF; rw [decide_eq_false (show ¬ u2 ≤ 1048576 by omega)]; simp);clear b0 b1 b2 b3;go_wp2
    go_ret2
    exact ⟨⟨none, by rw [HE.out]; rfl⟩, HB.out⟩
   have d3 : decide (1048576 < u2) = false := decide_eq_false s3
   by_cases s4 : 1 < u3
   ·have d4 : decide (1 < u3) = true := decide_eq_true s4
    have HE : Hid (deE ws = 101) := HBad.out (by rw [HOk.out]; unfold okF; rw [decide_eq_false (show ¬ u3 ≤ 1 by omega)]; simp);clear b0 b1 b2 b3;go_wp2
    go_ret2
    exact ⟨⟨none, by rw [HE.out]; rfl⟩, HB.out⟩
   have d4 : decide (1 < u3) = false := decide_eq_false s4
   have HOkT : Hid (okAt (wF ws) i = true) := by
    show _ = _
    rw [HOk.out];unfold okF;rw [decide_eq_true (show 1 ≤ u0 by omega), decide_eq_true (show u0 ≤ 4 by omega), decide_eq_true (show u1 ≤ 1048576 by omega), decide_eq_true (show u2 ≤ 1048576 by omega), decide_eq_true (show u3 ≤ 1 by omega)]
    rfl
   have w0' : IntKind.i64.wrap u0 = u0 := by simp [IntKind.wrap, IntKind.bits, IntKind.signed]; omega
   have w1' : IntKind.i64.wrap u1 = u1 := by simp [IntKind.wrap, IntKind.bits, IntKind.signed]; omega
   have w2' : IntKind.i64.wrap u2 = u2 := by simp [IntKind.wrap, IntKind.bits, IntKind.signed]; omega
   obtain ⟨ap, hap⟩ : ∃ ap : Bool, ap = (u3 == 1) := ⟨_, rfl⟩;have hap2 : (u3 == 1) = ap := hap.symm;obtain ⟨av, cv, rfl, hcvv⟩ := HD.out.is.form;have HLl := HX.out.len;rw [HLl] at HD
   have HFl2 : Hid (flAt (wF ws) i = ⟨u0, u1, u2, ap, 0⟩) := by show _ = _; rw [HFl.out, hap]; rfl
   obtain ⟨W1, hW1⟩ : ∃ W1, W1 = (wr.alloc (.cells #[.int .i64 u0, .int .i64 u1, .int .i64 u2, .bool ap, .int .i64 0, .slice none 0 0] 133)).drew := ⟨_, rfl⟩
   have hbW1 : Below wr.heap.size wr W1 := by rw [hW1]; exact (below_alloc _ _).drew
   have hF1 : W1.heap[wr.heap.size]? = some (.cells #[.int .i64 u0, .int .i64 u1, .int .i64 u2, .bool ap, .int .i64 0, .slice none 0 0] 133) := by rw [hW1]; exact heap_alloc_new _ _
   have hBW : B ≤ wr.heap.size := by rw [HBe.out]; exact HB.out.size
   obtain ⟨a5, c5, w5, hrun, r5, l5, hD5, hb5, hb5'⟩ := DIs.file ⟨u0, u1, u2, ap, 0⟩ (HD.out.below hbW1) HLl (by omega) hF1 (Nat.le_trans hBW hbW1.size);have HRun : Hid _ := hrun;have HD5 : Hid _ := hD5;have HW1 := hid hW1
   have HBS : Hid ((Instr.buildSlice 128 1 #[(0, .agg #[.int .i64 u0, .int .i64 u1, .int .i64 u2, .bool ap, .int .i64 0, .slice none 0 0])]).run Tryz.prog wr.drew = .ok (.slice (some ⟨wr.heap.size, 0, none⟩) 1 1) W1) := by show _ = _; rw [hW1]; exact build_F u0 u1 u2 ap wr
   have HBf : Hid (Below w.heap.size w (w5.setCell ⟨B, 0, none⟩ (.slice a5 (i + 1) c5))) := by
    have h1 : Below B wr (w5.setCell ⟨B, 0, none⟩ (.slice a5 (i + 1) c5)) := (hbW1.mono hBW).trans hb5;exact HB.out.trans (h1.mono (by have := HBe.out; omega))
   have cb0 : wr.cell? ⟨B, 0, none⟩ = some (.slice av i cv) := HD.out.is.c0;have cb1 : wr.drew.cell? ⟨B, 0, none⟩ = some (.slice av i cv) := cb0;have cb2 : W1.cell? ⟨B, 0, none⟩ = some (.slice av i cv) := (HD.out.below hbW1).is.c0
   have hcx : ∀ V : World, Below B wr V → V.cell? ⟨gx, ox, none⟩ = some (.int .u64 u0) ∧ V.cell? ⟨gx, ox + 1, none⟩ = some (.int .u64 u1) ∧ V.cell? ⟨gx, ox + 2, none⟩ = some (.int .u64 u2) ∧ V.cell? ⟨gx, ox + 3, none⟩ = some (.int .u64 u3) := fun V hV => ⟨(hV.cell (p := ⟨gx, ox, none⟩) hgl).trans y0, (hV.cell (p := ⟨gx, ox + 1, none⟩) hgl).trans y1, (hV.cell (p := ⟨gx, ox + 2, none⟩) hgl).trans y2, (hV.cell (p := ⟨gx, ox + 3, none⟩) hgl).trans y3⟩
   have hS0 := hcx wr.drew (Below.refl _ _).drew;have hS1 := hcx W1 (hbW1.mono hBW);have hS5 := hcx w5 ((hbW1.mono hBW).trans hb5');have hS6 := hcx _ ((hbW1.mono hBW).trans hb5)
   have HX2 : Hid (FX ws (L ++ [⟨⟨u0, u1, u2, ap, 0⟩, none, 0, []⟩]) (i + 1)) := by have := HX.out.snoc; rw [HFl2.out] at this; exact this
   have HAll2 : Hid (∀ j, j < i + 1 → okAt (wF ws) j = true) := fun j hj => by
    rcases Nat.lt_or_ge j i with q | q
    ·exact HAll.out j q
    ·have : j = i := by omega
     rw [this];exact HOkT.out
   clear b0 b1 b2 b3 s0 s1 s2 s3 s4 hap hcvv hW1 hbW1 hF1 hrun hD5 hb5 hb5' hcx HD HX HAll HLl
   go_wp2_with fail
   refine wp_region_held_drew (S := fun w' => w'.cell? ⟨gx, ox, none⟩ = some (.int .u64 u0) ∧ w'.cell? ⟨gx, ox + 1, none⟩ = some (.int .u64 u1) ∧ w'.cell? ⟨gx, ox + 2, none⟩ = some (.int .u64 u2) ∧ w'.cell? ⟨gx, ox + 3, none⟩ = some (.int .u64 u3)) (by kernel_rfl) hS0 (fun hHeld => ?_);refine tkz [0, 1, 2, 3, 5, 6, 7, 8, 9, 10, 11, 12, 13, 14, 15, 16, 17, 18, 19, 20] ?_
   iterate 20
    refine tkq (v := ?_) rfl (Or.inl ⟨by kernel_rfl, ?_⟩) ?_
    rotate_left
    ·(intro w hSw; (try dsimp only at hSw); go_simp) <;> with_reducible rfl
    (try simp only [Act.put, lq])
   refine tkw ?_;refine tkv 21 (.agg #[.int .i64 u0, .int .i64 u1, .int .i64 u2, .bool ap, .int .i64 0]) rfl (Or.inl ⟨by kernel_rfl, ?_⟩) ?_
   ·intro w hSw
    go_simp
   (try simp only [Act.put, lq])
   refine tkv 22 (.agg #[.int .i64 u0, .int .i64 u1, .int .i64 u2, .bool ap, .int .i64 0, .slice none 0 0]) rfl (Or.inl ⟨by kernel_rfl, ?_⟩) ?_
   ·intro w hSw
    go_simp
   (try simp only [Act.put, lq])
   refine wpAnyH_ready (rs := [4, 23]) (by kernel_rfl) (by simp) ?_;refine AllReadyH.cons rfl (fun K hK => ?_) (AllReadyH.cons rfl (fun K hK => ?_) AllReadyH.nil)
   ·go_simp
    refine hK.out _ _ hS0 (fun hHeld => ?_);clear hK K
    (try simp only [Act.put, lq])
    refine rdy 23 rfl fun K hK => ?_
    refine step_bs rfl 128 1 (.tmp 101) rfl (.agg #[.int .i64 u0, .int .i64 u1, .int .i64 u2, .bool ap, .int .i64 0, .slice none 0 0]) (by rfl) (.slice (some ⟨wr.heap.size, 0, none⟩) 1 1) HBS.out ?_;refine hK.out _ _ hS1 (fun hHeld => ?_);clear hK K
    (try simp only [Act.put, lq])
    refine rdy 24 rfl fun K hK => ?_
    refine step_append_eq rfl (.tmp 83) (.tmp 102) 128 rfl (.slice av i cv) (.slice (some ⟨wr.heap.size, 0, none⟩) 1 1) (.slice a5 (i + 1) c5) (by rfl) (by rfl) HRun.out ?_;refine hK.out _ _ hS5 (fun hHeld => ?_);clear hK K
    (try simp only [Act.put, lq])
    refine tkz [25, 26] ?_
    iterate 2
     refine tkq (v := ?_) rfl (Or.inl ⟨by kernel_rfl, ?_⟩) ?_
     rotate_left
     ·(intro w hSw; (try dsimp only at hSw); go_simp) <;> with_reducible rfl
     (try simp only [Act.put, lq])
    refine tkw ?_
    refine rdy 27 rfl fun K hK => ?_
    go_simp;refine hK.out _ _ hS6 (fun hHeld => ?_);clear hK K
    (try simp only [Act.put, lq])
    refine wpAnyH_done (by kernel_rfl) ?_ _;go_wp2;go_roundw
    case rel => exact ⟨i + 1, _, _, by omega, by go_num, HD5.out, HX2.out, HAll2.out, HBf.out⟩
    case measure => simp [intOf]; omega
   ·refine step_bs rfl 128 1 (.tmp 101) rfl (.agg #[.int .i64 u0, .int .i64 u1, .int .i64 u2, .bool ap, .int .i64 0, .slice none 0 0]) (by rfl) (.slice (some ⟨wr.heap.size, 0, none⟩) 1 1) HBS.out ?_
    refine hK.out _ _ hS1 (fun hHeld => ?_);clear hK K
    (try simp only [Act.put, lq])
    refine rdy 4 rfl fun K hK => ?_
    go_simp;refine hK.out _ _ hS1 (fun hHeld => ?_);clear hK K
    (try simp only [Act.put, lq])
    refine rdy 24 rfl fun K hK => ?_
    refine step_append_eq rfl (.tmp 83) (.tmp 102) 128 rfl (.slice av i cv) (.slice (some ⟨wr.heap.size, 0, none⟩) 1 1) (.slice a5 (i + 1) c5) (by rfl) (by rfl) HRun.out ?_;refine hK.out _ _ hS5 (fun hHeld => ?_);clear hK K
    (try simp only [Act.put, lq])
    refine tkz [25, 26] ?_
    iterate 2
     refine tkq (v := ?_) rfl (Or.inl ⟨by kernel_rfl, ?_⟩) ?_
     rotate_left
     ·(intro w hSw; (try dsimp only at hSw); go_simp) <;> with_reducible rfl
     (try simp only [Act.put, lq])
    refine tkw ?_
    refine rdy 27 rfl fun K hK => ?_
    go_simp;refine hK.out _ _ hS6 (fun hHeld => ?_);clear hK K
    (try simp only [Act.put, lq])
    refine wpAnyH_done (by kernel_rfl) ?_ _;go_wp2;go_roundw
    case rel => exact ⟨i + 1, _, _, by omega, by go_num, HD5.out, HX2.out, HAll2.out, HBf.out⟩
    case measure => simp [intOf]; omega
  ·as_aux_lemma =>
   have i1 : decide ((i : Int) < (m : Int)) = false := decide_eq_false (by omega)
   have hFK : FK ws L m 0 := by
    have : i = m := by omega
    rw [← this];exact hX.fk
   have HFs : Hid (okFs ws = true) := by
    show okFm (wF ws) (wN ws) = true
    unfold okFm;rw [HM.out, List.all_eq_true];intro j hj;exact hall j (by have := List.mem_range.1 hj; omega)
   have HFK := hid hFK
   have hcm : IntKind.u64.wrap (m : Int) = (m : Int) := by simp [IntKind.wrap, IntKind.bits, IntKind.signed]; omega
   have HTl : Hid ((wT ws).length = 48) := by
    show _ = _
    unfold wT;rw [List.length_drop, HM.out, ← HN.out];have := HQ4.out;have := HQ5.out;have := HQ6.out;have := HN6.out;omega
   clear hD hX hall hB hFK HX HAll;go_wp2;generalize hwq : wr = wq at *;clear hwq
   go_loopw [9] (fun s wr => ∃ (k : Nat) (v : Value) (L : List En), k ≤ 48 ∧ s = .int .i64 k ∧ DIs wr B B v L ∧ FK ws L m k ∧ (∀ j, j < k → (wT ws).getD j 0 ≤ (m : Int)) ∧ Below w.heap.size w wr) (fun s _ => 48 - (intOf s).toNat)
   case atStart => exact ⟨0, v, L, by omega, rfl, HD.out, HFK.out, fun j hj => (by omega), HB.out⟩
   case round =>
    clear HD HFK HB;obtain ⟨k, v, L, hk, rfl, hD, hK, hall, hB⟩ := hrel;have HD := hid hD;have HK := hid hK;have HAll := hid hall;have HB := hid hB;have hn48 := HN48.out
    by_cases hlk : k < 48
    ·have j1 : decide ((k : Int) < (n48 : Int)) = true := decide_eq_true (by omega)
     have hki : (k : Int) < (n48 : Int) := by omega
     have hkn : k < n48 := by omega
     have hy := getD_some (ws := wT ws) (j := k) (by rw [HTl.out]; exact hlk);obtain ⟨gd, od, rfl, d0⟩ := HD3.out k _ hy;have e0 := (hB.cell (cell_lt d0)).trans d0;have hpos := wT_pos HU.out k;have HTT : Hid (tT ws k = ((wT ws).getD k 0).toNat) := rfl
     have HBad : Hid ((m : Int) < (wT ws).getD k 0 → deE ws = 101) := fun h => deE_N hlk (by rw [HM.out]; exact h)
     have HAll2 : Hid ((wT ws).getD k 0 ≤ (m : Int) → ∀ j, j < k + 1 → (wT ws).getD j 0 ≤ (m : Int)) := fun h j hj => by
      rcases Nat.lt_or_ge j k with q | q
      ·exact HAll.out j q
      ·have : j = k := by omega
       rw [this];exact h
     generalize (wT ws).getD k 0 = y at *
     by_cases hym : (m : Int) < y
     ·have j2 : decide ((m : Int) < y) = true := decide_eq_true hym
      have HE : Hid (deE ws = 101) := HBad.out hym;clear hD hK hall hB hy d0 hn48 hpos;go_wp2
      go_ret2
      exact ⟨⟨none, by rw [HE.out]; rfl⟩, HB.out⟩
     have j2 : decide ((m : Int) < y) = false := decide_eq_false hym;have HA2 : Hid (∀ j, j < k + 1 → (wT ws).getD j 0 ≤ (m : Int)) := HAll2.out (by omega)
     by_cases hy0 : y = 0
     ·have HK2 : Hid (FK ws L m (k + 1)) := HK.out.zero (by rw [HTT.out, hy0]; rfl)
      rw [hy0] at e0 j2;clear hD hK hall hB hy d0 hn48 hpos hy0 hym HAll2 HBad HTT;go_wp2;go_roundw
      case rel => exact ⟨k + 1, v, L, by omega, by go_num, HD.out, HK2.out, HA2.out, HB.out⟩
      case measure => simp [intOf]; omega
     have j3 : decide (0 < y) = true := decide_eq_true (by omega);obtain ⟨i', hi'⟩ : ∃ i' : Nat, y = ((i' + 1 : Nat) : Int) := ⟨(y - 1).toNat, by omega⟩
     have hwy : IntKind.i64.wrap y = y := by simp [IntKind.wrap, IntKind.bits, IntKind.signed]; omega
     have hwy1 : IntKind.i64.wrap (y - 1) = (i' : Int) := by rw [hi']; simp [IntKind.wrap, IntKind.bits, IntKind.signed]; omega
     have hLl := hK.len
     have him : i' < m := by omega
     obtain ⟨e, he⟩ : ∃ e, L[i']? = some e := ⟨L[i']'(by omega), List.getElem?_eq_getElem _⟩;obtain ⟨g2, cv2, ev, hBg, -, hc5⟩ := hD.is.at he;have d5 : wr.cell? ⟨g2, i' * 6 + 5, none⟩ = some (dsl e) := hc5 5 (by omega)
     have HKe : Hid (∀ a c, FK ws (L.set i' ⟨e.x, a, c, e.d ++ [k]⟩) m (k + 1)) := fun a c => hK.name he (by rw [HTT.out, hi']; omega) a c
     have hel : e.d.length ≤ 900 := by rw [(hK.each i' e he).2]; have := dK_len (tT ws) (i' + 1) k; omega
     obtain ⟨t6, ht6⟩ : ∃ t6 : Int, (k : Int).tdiv 6 = t6 := ⟨_, rfl⟩;obtain ⟨pa, hpa⟩ : ∃ pa : Int, pa = ((k / 6 + 1 : Nat) : Int) := ⟨_, rfl⟩;obtain ⟨pb, hpb⟩ : ∃ pb : Int, pb = ((k % 6 : Nat) : Int) := ⟨_, rfl⟩
     have ht6' : t6 = ((k / 6 : Nat) : Int) := by rw [← ht6, Int.tdiv_eq_ediv_of_nonneg (by omega)]; omega
     have ht7 : (k : Int) / 6 = t6 := by rw [ht6']; omega
     have ht8 : IntKind.i64.wrap t6 = t6 := by rw [ht6']; simp [IntKind.wrap, IntKind.bits, IntKind.signed]; omega
     have hpa1 : IntKind.i64.wrap (1 + t6) = pa := by rw [hpa, ht6']; simp [IntKind.wrap, IntKind.bits, IntKind.signed]; omega
     have hpb1 : (k : Int).tmod 6 = pb := by rw [hpb, Int.tmod_eq_emod_of_nonneg (by omega)]; omega
     have hpb2 : (k : Int) % 6 = pb := by rw [hpb]; omega
     obtain ⟨W1, hW1⟩ : ∃ W1, W1 = (wr.alloc (.cells #[.int .i64 pa, .int .i64 pb] 36)).drew := ⟨_, rfl⟩
     have hbW1 : Below wr.heap.size wr W1 := by rw [hW1]; exact (below_alloc _ _).drew
     have hP1 : W1.heap[wr.heap.size]? = some (.cells #[.int .i64 ((k / 6 + 1 : Nat) : Int), .int .i64 ((k % 6 : Nat) : Int)] 36) := by rw [hW1, hpa, hpb]; exact heap_alloc_new _ _
     have hBW : B ≤ wr.heap.size := by rw [HBe.out]; exact HB.out.size
     rw [ev] at hD HD;obtain ⟨a5, c5, w5, hrun, r5, q5', l5, hD5, hb5⟩ := DIs.name (hD.below hbW1) he hel hP1 (Nat.le_trans hBW hbW1.size);have HRun : Hid _ := hrun;have HD5 : Hid _ := hD5;have HW1 := hid hW1
     have HBf : Hid (Below w.heap.size w (w5.setCell ⟨g2, i' * 6 + 5, none⟩ (.slice a5 (e.d.length + 1) c5))) := by
      have h1 : Below B wr (w5.setCell ⟨g2, i' * 6 + 5, none⟩ (.slice a5 (e.d.length + 1) c5)) := (hbW1.mono hBW).trans hb5;exact HB.out.trans (h1.mono (by have := HBe.out; omega))
     have cb0 : wr.cell? ⟨B, 0, none⟩ = some (.slice (some ⟨g2, 0, none⟩) L.length cv2) := hD.is.c0;have hS0 : wr.drew.cell? ⟨B, 0, none⟩ = some (.slice (some ⟨g2, 0, none⟩) L.length cv2) := cb0;have hS1 : W1.cell? ⟨B, 0, none⟩ = some (.slice (some ⟨g2, 0, none⟩) L.length cv2) := (hD.below hbW1).is.c0;have d5' : wr.drew.cell? ⟨g2, i' * 6 + 5, none⟩ = some (dsl e) := d5;have d51 : W1.cell? ⟨g2, i' * 6 + 5, none⟩ = some (dsl e) := (hbW1.cell (cell_lt d5)).trans d5;have hS6 : (w5.setCell ⟨g2, i' * 6 + 5, none⟩ (.slice a5 (e.d.length + 1) c5)).cell? ⟨B, 0, none⟩ = some (.slice (some ⟨g2, 0, none⟩) L.length cv2) := HD5.out.is.c0;rw [hLl] at hS0 hS1 hS6 r5 cb0
     have hii : (i' : Int) < (m : Int) := by omega
     obtain ⟨ex, ea, ec', ed⟩ := e;dsimp only [dsl] at d5 d5' d51 hrun HRun HD5 HBf HKe hS6 q5' hel;generalize ed.length = dn at *;clear hD hK hall hy d0 hn48 hpos hy0 hym HAll2 HBad HTT hi' hLl he ev hBg hc5 ht6 hpa hpb ht6' hW1 hbW1 hP1 hrun hD5 hb5 hB HD HK
     go_wp2_with fail
     refine wp_region_held_drew (S := fun w' => w'.cell? ⟨B, 0, none⟩ = some (.slice (some ⟨g2, 0, none⟩) m cv2)) (by kernel_rfl) hS0 (fun hHeld => ?_);refine tkz [0, 1, 2, 3, 4, 5, 6, 7, 8, 9, 10, 11, 13, 14, 15, 16, 17, 18] ?_
     iterate 18
      refine tkq (v := ?_) rfl (Or.inl ⟨by kernel_rfl, ?_⟩) ?_
      rotate_left
      ·(intro w hSw; (try dsimp only at hSw); go_simp) <;> with_reducible rfl
      (try simp only [Act.put, lq])
     refine tkw ?_;refine wpAnyH_ready (rs := [12, 19]) (by kernel_rfl) (by simp) ?_;refine AllReadyH.cons rfl (fun K hK => ?_) (AllReadyH.cons rfl (fun K hK => ?_) AllReadyH.nil)
     ·go_simp
      refine hK.out _ _ hS0 (fun hHeld => ?_);clear hK K
      (try simp only [Act.put, lq])
      refine rdy 19 rfl fun K hK => ?_
      go_simp;rw [← HW1.out];refine hK.out _ _ hS1 (fun hHeld => ?_);clear hK K
      (try simp only [Act.put, lq])
      refine rdy 20 rfl fun K hK => ?_
      refine step_append_eq rfl (.tmp 147) (.tmp 154) 131 rfl (.slice ea dn ec') (.slice (some ⟨wr.heap.size, 0, none⟩) 1 1) (.slice a5 (dn + 1) c5) (by rfl) (by rfl) HRun.out ?_;refine hK.out _ _ r5 (fun hHeld => ?_);clear hK K
      (try simp only [Act.put, lq])
      refine tkz [21, 22] ?_
      iterate 2
       refine tkq (v := ?_) rfl (Or.inl ⟨by kernel_rfl, ?_⟩) ?_
       rotate_left
       ·(intro w hSw; (try dsimp only at hSw); go_simp) <;> with_reducible rfl
       (try simp only [Act.put, lq])
      refine tkw ?_
      refine rdy 23 rfl fun K hK => ?_
      go_simp;refine hK.out _ _ hS6 (fun hHeld => ?_);clear hK K
      (try simp only [Act.put, lq])
      refine wpAnyH_done (by kernel_rfl) ?_ _;go_wp2;go_roundw
      case rel => exact ⟨k + 1, _, _, by omega, by go_num, HD5.out, HKe.out _ _, HA2.out, HBf.out⟩
      case measure => simp [intOf]; omega
     ·go_simp
      rw [← HW1.out];refine hK.out _ _ hS1 (fun hHeld => ?_);clear hK K
      (try simp only [Act.put, lq])
      refine rdy 12 rfl fun K hK => ?_
      go_simp;refine hK.out _ _ hS1 (fun hHeld => ?_);clear hK K
      (try simp only [Act.put, lq])
      refine rdy 20 rfl fun K hK => ?_
      refine step_append_eq rfl (.tmp 147) (.tmp 154) 131 rfl (.slice ea dn ec') (.slice (some ⟨wr.heap.size, 0, none⟩) 1 1) (.slice a5 (dn + 1) c5) (by rfl) (by rfl) HRun.out ?_;refine hK.out _ _ r5 (fun hHeld => ?_);clear hK K
      (try simp only [Act.put, lq])
      refine tkz [21, 22] ?_
      iterate 2
       refine tkq (v := ?_) rfl (Or.inl ⟨by kernel_rfl, ?_⟩) ?_
       rotate_left
       ·(intro w hSw; (try dsimp only at hSw); go_simp) <;> with_reducible rfl
       (try simp only [Act.put, lq])
      refine tkw ?_
      refine rdy 23 rfl fun K hK => ?_
      go_simp;refine hK.out _ _ hS6 (fun hHeld => ?_);clear hK K
      (try simp only [Act.put, lq])
      refine wpAnyH_done (by kernel_rfl) ?_ _;go_wp2;go_roundw
      case rel => exact ⟨k + 1, _, _, by omega, by go_num, HD5.out, HKe.out _ _, HA2.out, HBf.out⟩
      case measure => simp [intOf]; omega
    ·have j1 : decide ((k : Int) < (n48 : Int)) = false := decide_eq_false (by omega)
     have j1n : decide (k < n48) = false := decide_eq_false (by omega)
     have j1m : n48 ≤ k := by omega
     have hk48 : k = 48 := by omega
     have hNs : okNs ws = true := by
      show okNm (wT ws) (wN ws) = true
      unfold okNm;rw [HM.out, List.all_eq_true];intro j hj;exact decide_eq_true (hall j (by have := List.mem_range.1 hj; omega))
     have HLay : Hid (RL (sortE L) (decS ws)) := by
      rw [hk48] at hK
      have hK2 : FK ws L (wN ws) 48 := by rw [HM.out]; exact hK
      exact (hK2.lay HOkL.out hNs).sort
     have HIv : Hid (Inv (decS ws)) := decS_iv HOkL.out hNs;have HFt : Hid (FitS (decS ws)) := decS_fit HU.out HOkL.out hNs HFs.out;have HE : Hid (deE ws = if decide (encW (decS ws) = ws) then 0 else 101) := deE_end HU.out HOkL.out HFs.out hNs
     have hBW : B ≤ wr.heap.size := by rw [HBe.out]; exact hB.size
     have hSo := rsort_at B B v L wr hD.is hBW (by rw [hK.len]; omega) (fun e he => by
       obtain ⟨j, hj⟩ := List.mem_iff_getElem?.1 he;rw [(hK.each j e hj).2];have := dK_len (tT ws) (j + 1) k
       omega)
     clear hD hK hall hB hk48 hNs hn48
     go_wp2_with fail
     refine hSo.mono ?_;rintro e w2 ⟨rfl, ⟨v2, hR2⟩, hu2⟩;have HB2 : Hid (Below w.heap.size w w2) := HB.out.trans (hu2.below (by have := HBe.out; omega) HB.out.size);have hEn := rencode_at B B v2 _ (decS ws) w2 hR2 HLay.out HIv.out HFt.out;clear hSo hR2 hu2 hBW
     go_wp2_with fail
     refine hEn.mono ?_;rintro e w3 ⟨u, rfl, hown, hb3⟩;obtain ⟨av, cv, rfl, _, hrd⟩ := own_rd hown;have hb3' := HB2.out.trans (hb3.mono HB2.out.size)
     have hel : (encW (decS ws)).length ≤ 1000 := by rw [encW_len]; have := ord_len48 (decS ws).t; omega
     have hWo := words_any (encW (decS ws)) ws av (some ⟨g, off, none⟩) cv cap w3 hrd (HR.out.below hb3') (by omega) (by rw [← HN.out]; omega);rw [← HN.out] at hWo;have HB3 := hid hb3';generalize hel2 : (encW (decS ws)).length = el at *;clear hEn hown hrd hb3 hb3' hel2 hel
     go_wp2_with fail
     refine hWo.mono ?_;rintro x w4 ⟨rfl, hb4⟩;have HB4 : Hid (Below w.heap.size w w4) := HB3.out.trans (hb4.mono HB3.out.size)
     cases hd : decide (encW (decS ws) = ws) with
     | true =>
      rw [hd] at HE;clear hWo hb4 hd;go_wp2
      go_ret2
      exact ⟨⟨_, by rw [HE.out]; rfl⟩, HB4.out⟩
     | false =>
      rw [hd] at HE;clear hWo hb4 hd;go_wp2
      go_ret2
      exact ⟨⟨_, by rw [HE.out]; rfl⟩, HB4.out⟩
end Fd
end Go.Proofs.YtinaeifpoljfoaaGreatDoor
