import Derived.Test.YtinaeifpoljfoaaGreatDoorRfF18TRfU18
import Derived.Test.YtinaeifpoljfoaaGreatDoorFdN
set_option linter.all false
set_option maxRecDepth 100000
set_option maxHeartbeats 16000000
namespace Go.Proofs.YtinaeifpoljfoaaGreatDoor
open Go.RowKit
namespace Ow
end Ow
namespace Fd
open Ow
section
variable {ws : List Int}
theorem okL_facts (h : okL ws = true) : 1 ≤ ws.length ∧ ws.getD 0 0 ≤ 32 ∧ ws.length = 1 + wN ws * 4 + 48 := by
 unfold okL at h;simp only [Bool.and_eq_true, decide_eq_true_eq] at h;exact ⟨h.1.1, h.1.2, h.2⟩
theorem wN_le (h : okL ws = true) : wN ws ≤ 32 := by
 have := (okL_facts h).2.1;unfold wN;omega
theorem wF_get (h : okL ws = true) {j : Nat} (hj : j < wN ws * 4) : (wF ws).getD j 0 = ws.getD (1 + j) 0 := by
 unfold wF;rw [List.getD_eq_getElem?_getD, List.getElem?_drop, List.getElem?_take_of_lt (by omega), List.getD_eq_getElem?_getD]
theorem wT_get (h : okL ws = true) (j : Nat) : (wT ws).getD j 0 = ws.getD (1 + wN ws * 4 + j) 0 := by
 unfold wT;rw [List.getD_eq_getElem?_getD, List.getElem?_drop, List.getD_eq_getElem?_getD]
theorem okNs_get (h : okNs ws = true) {k : Nat} (hk : k < 48) : (wT ws).getD k 0 ≤ (wN ws : Int) := by
 unfold okNs okNm at h;rw [List.all_eq_true] at h;have := h k (List.mem_range.2 hk)
 simpa using this
theorem okFs_get (h : okFs ws = true) {i : Nat} (hi : i < wN ws) : okAt (wF ws) i = true := by
 unfold okFs okFm at h;rw [List.all_eq_true] at h;exact h i (List.mem_range.2 hi)
theorem decS_t (k : Nat) (hk : k < 48) : (decS ws).t k = ((wT ws).getD k 0).toNat := by
 unfold decS;rw [namesTo_t (filesTo_t _ _), if_pos hk]
theorem decS_iv (h1 : okL ws = true) (h2 : okNs ws = true) : Inv (decS ws) := by
 unfold decS;refine namesTo_inv (filesTo_inv _ _) (filesTo_t _ _) _ 48 (Nat.le_refl _) (fun j hj => ?_);have := okNs_get h2 hj;have := wN_le h1;omega
theorem decS_re {i : Nat} (hi : i < wN ws) : ((decS ws).f i).re 0 = flAt (wF ws) i := by
 unfold decS;rw [namesTo_f, filesTo_f, if_pos hi]
 rfl
theorem okAt_fit {xs : List Int} {i : Nat} (h : okAt xs i = true) (hu : ∀ j, 0 ≤ xs.getD j 0) : Fit (flAt xs i) := by
 unfold okAt okF at h;simp only [Bool.and_eq_true, decide_eq_true_eq] at h;obtain ⟨⟨⟨⟨h1, h2⟩, h3⟩, h4⟩, h5⟩ := h;exact ⟨h1, h2, hu _, h3, hu _, h4⟩
theorem re_fit {x : Fl} {n : Int} (h : Fit (x.re n)) : Fit x := ⟨h.k1, h.k2, h.i1, h.i2, h.o1, h.o2⟩
theorem u64_getD (hu : U64 ws) (j : Nat) : 0 ≤ ws.getD j 0 ∧ ws.getD j 0 < 18446744073709551616 := by
 rw [List.getD_eq_getElem?_getD]
 cases h : ws[j]? with
 | none => simp
 | some x => exact u64_get hu h
theorem wF_pos (hu : U64 ws) (j : Nat) : 0 ≤ (wF ws).getD j 0 := by
 have : U64 (wF ws) := fun x hx => by
  unfold wF at hx;exact hu x (List.mem_of_mem_take (List.mem_of_mem_drop hx))
 exact (u64_getD this j).1
theorem wT_pos (hu : U64 ws) (j : Nat) : 0 ≤ (wT ws).getD j 0 := by
 have : U64 (wT ws) := fun x hx => by
  unfold wT at hx;exact hu x (List.mem_of_mem_drop hx)
 exact (u64_getD this j).1
theorem decS_mem (h1 : okL ws = true) (h2 : okNs ws = true) {p : Nat} (hp : p < 32) (hr : ((decS ws).f p).refs ≠ 0) : p < wN ws := by
 have hb := (decS_iv h1 h2).bound hp;have hm := (taken_iff (decS_iv h1 h2) hp).1 (by omega);obtain ⟨h0, k, hk, e⟩ := (mem_ord _ _).1 hm;rw [decS_t k hk] at e;have := okNs_get h2 hk;omega
theorem decS_fit (hu : U64 ws) (h1 : okL ws = true) (h2 : okNs ws = true) (h3 : okFs ws = true) : FitS (decS ws) := by
 intro p hp hr;have hpn := decS_mem h1 h2 hp hr;refine re_fit (n := 0) ?_;rw [decS_re hpn];exact okAt_fit (okFs_get h3 hpn) (wF_pos hu)
theorem okO_ord (h : okO ws = true) : (ord (decS ws).t).length = wN ws ∧ ∀ i, i < wN ws → (ord (decS ws).t)[i]? = some (i + 1) := by
 unfold okO at h;simp only [Bool.and_eq_true, decide_eq_true_eq] at h;obtain ⟨h1, h2⟩ := h;rw [List.all_eq_true] at h1;refine ⟨h2, fun i hi => ?_⟩;obtain ⟨q, hq⟩ : ∃ q, (ord (decS ws).t)[i]? = some q := ⟨(ord (decS ws).t)[i]'(by omega), List.getElem?_eq_getElem _⟩;have hm := List.mem_of_getElem? hq;obtain ⟨h0, k, hk, e⟩ := (mem_ord _ _).1 hm;have h3 := h1 k (List.mem_range.2 hk)
 have h4 : inO (decS ws).t k = (decS ws).t k := by simpa using h3
 have h5 : inO (decS ws).t k = i + 1 := by
  unfold inO cn;rw [e, if_neg h0, if_pos hm]
  congr 1
  obtain ⟨hl, he⟩ := List.getElem?_eq_some_iff.1 hq;have h6 := List.idxOf_lt_length_of_mem hm;have h7 : (ord (decS ws).t)[(ord (decS ws).t).idxOf q] = q := List.getElem_idxOf h6;exact nd_inj (ord_nodup _) (h7.trans he.symm)
 rw [hq]
 congr 1
 omega
theorem flW_re {x : Fl} {a b c d : Int} (h : okF a b c d = true) (hd : 0 ≤ d) (hx : x.re 0 = flOf a b c d) : flW x = [a, b, c, d] := by
 obtain ⟨k, i, o, p, r⟩ := x;simp only [Fl.re, flOf, Fl.mk.injEq] at hx;obtain ⟨rfl, rfl, rfl, rfl, -⟩ := hx;unfold okF at h;simp only [Bool.and_eq_true, decide_eq_true_eq] at h
 have hd1 : d = 0 ∨ d = 1 := by omega
 rcases hd1 with rfl | rfl <;> rfl
theorem enc_dec (hu : U64 ws) (h : okW ws = true) : encW (decS ws) = ws := by
 unfold okW at h;simp only [Bool.and_eq_true] at h;obtain ⟨⟨⟨h1, h2⟩, h3⟩, h4⟩ := h;obtain ⟨ho, hg⟩ := okO_ord h4;obtain ⟨l1, l2, l3⟩ := okL_facts h1;have hO := h4;unfold okO at hO;simp only [Bool.and_eq_true, decide_eq_true_eq] at hO;have hin := hO.1;rw [List.all_eq_true] at hin
 apply List.ext_getElem?
 intro i
 by_cases hi : i < ws.length
 ·have hw : ws[i]? = some (ws.getD i 0) := by rw [List.getD_eq_getElem?_getD, List.getElem?_eq_getElem hi]; rfl
  rw [hw]
  have hHl : (encH (decS ws)).length = 1 + wN ws * 4 := by rw [encH_len, ho]
  unfold encW
  by_cases hi1 : i < 1 + wN ws * 4
  ·rw [List.getElem?_append_left (by omega)]
   unfold encH
   cases i with
   | zero =>
    rw [List.getElem?_cons_zero, ho];have := (u64_getD hu 0).1;unfold wN
    congr 1
    omega
   | succ i =>
    rw [List.getElem?_cons_succ];have hq := hg (i / 4) (by omega);have hf := flat_get (fun q => (decS ws).f (q - 1)) (ord (decS ws).t) (i / 4) (i / 4 + 1) (i % 4) hq (by omega);rw [show i / 4 * 4 + i % 4 = i by omega, show i / 4 + 1 - 1 = i / 4 by omega] at hf
    have hlen : i < ((ord (decS ws).t).flatMap (fun q => flW ((decS ws).f (q - 1)))).length := by rw [flat_len, ho]; omega
    rw [List.getElem?_eq_getElem hlen];rw [List.getD_eq_getElem?_getD, List.getElem?_eq_getElem hlen] at hf;have hf2 : ((ord (decS ws).t).flatMap (fun q => flW ((decS ws).f (q - 1))))[i] = (flW ((decS ws).f (i / 4))).getD (i % 4) 0 := hf;rw [hf2, flW_re (okFs_get h2 (i := i / 4) (by omega)) (wF_pos hu _) (decS_re (by omega))]
    congr 1
    have hgw : ∀ m, m < 4 → (wF ws).getD (i / 4 * 4 + m) 0 = ws.getD (1 + (i / 4 * 4 + m)) 0 := fun m hm => wF_get h1 (by omega)
    have hm4 : i % 4 = 0 ∨ i % 4 = 1 ∨ i % 4 = 2 ∨ i % 4 = 3 := by omega
    rcases hm4 with q | q | q | q
    ·rw [q]
     have := hgw 0 (by omega);rw [Nat.add_zero] at this
     show (wF ws).getD (i / 4 * 4) 0 = _
     rw [this]
     congr 1
     omega
    ·rw [q]
     show (wF ws).getD (i / 4 * 4 + 1) 0 = _
     rw [hgw 1 (by omega)]
     congr 1
     omega
    ·rw [q]
     show (wF ws).getD (i / 4 * 4 + 2) 0 = _
     rw [hgw 2 (by omega)]
     congr 1
     omega
    ·rw [q]
     show (wF ws).getD (i / 4 * 4 + 3) 0 = _
     rw [hgw 3 (by omega)]
     congr 1
     omega
  ·rw [List.getElem?_append_right (by omega), hHl]
   have hk : i - (1 + wN ws * 4) < 48 := by omega
   have h5 : inO (decS ws).t (i - (1 + wN ws * 4)) = (decS ws).t (i - (1 + wN ws * 4)) := by
    have := hin _ (List.mem_range.2 hk)
    simpa using this
   unfold encN;rw [List.getElem?_map, List.getElem?_range hk]
   show some ((inO (decS ws).t (i - (1 + wN ws * 4)) : Nat) : Int) = _
   rw [h5, decS_t _ hk];have h6 := wT_pos hu (i - (1 + wN ws * 4));have h7 := wT_get h1 (i - (1 + wN ws * 4));rw [show 1 + wN ws * 4 + (i - (1 + wN ws * 4)) = i by omega] at h7;rw [← h7]
   congr 1
   omega
 ·rw [List.getElem?_eq_none (by rw [encW_len, ho]; omega), List.getElem?_eq_none (by omega)]
def dK (T : Nat → Nat) (q k : Nat) : List Nat := (List.range k).filter (fun j => T j == q)
theorem dK_succ (T : Nat → Nat) (q k : Nat) : dK T q (k + 1) = if T k = q then dK T q k ++ [k] else dK T q k := by
 unfold dK;rw [List.range_succ, List.filter_append]
 by_cases h : T k = q
 ·rw [if_pos h]; simp [h]
 ·rw [if_neg h]; simp [h]
theorem dK_len (T : Nat → Nat) (q k : Nat) : (dK T q k).length ≤ k := by
 unfold dK;exact Nat.le_trans (List.length_filter_le _ _) (by simp)
def tT (ws : List Int) : Nat → Nat := fun k => ((wT ws).getD k 0).toNat
structure FK (ws : List Int) (L : List En) (n k : Nat) : Prop where
 len : L.length = n
 each : ∀ i e, L[i]? = some e → e.x = flAt (wF ws) i ∧ e.d = dK (tT ws) (i + 1) k
theorem FK.lay {L : List En} (h1 : okL ws = true) (h2 : okNs ws = true) (h : FK ws L (wN ws) 48) : Lay L (List.range' 1 (wN ws)) (decS ws) := by
 have hks : ∀ q, ks (decS ws).t q = dK (tT ws) q 48 := fun q => by
  refine nat_eq (ks_up _ _) ?_ (fun k => ?_)
  ·unfold dK
   exact List.Pairwise.filter _ List.pairwise_lt_range
  ·rw [mem_ks]
   unfold dK tT;rw [List.mem_filter, List.mem_range];constructor
   ·rintro ⟨hk, e⟩
    rw [decS_t k hk] at e;exact ⟨hk, by simpa using e⟩
   ·rintro ⟨hk, e⟩
    rw [decS_t k hk];exact ⟨hk, by simpa using e⟩
 refine ⟨List.nodup_range', by rw [h.len, List.length_range'], fun q hq => ?_, fun i q e hq he => ?_, fun k hk hn => ?_⟩
 ·rw [List.mem_range'_1] at hq
  omega
 ·have hil := (List.getElem?_eq_some_iff.1 hq).1
  rw [List.length_range'] at hil
  have hqi : q = i + 1 := by
   rw [List.getElem?_range' hil] at hq;have := Option.some.inj hq;omega
  subst hqi;obtain ⟨e1, e2⟩ := h.each i e he;refine ⟨by rw [e2, hks], fun hne => ?_⟩;rw [show i + 1 - 1 = i by omega];refine re_re ?_ ?_
  ·rw [decS_re hil, e1]
   unfold flAt flOf Fl.re
   rfl
  ·rw [(decS_iv h1 h2).refs i (by have := wN_le h1; omega), hks, ← e2]
   rfl
 ·rw [List.mem_range'_1]
  rw [decS_t k hk] at hn ⊢;have := okNs_get h2 hk;omega
end
end Fd
namespace Ow
end Ow
namespace Fd
open Ow
theorem appQ {w : World} {B : Nat} {u : Value} {M N : List Nat} (ho : w.ownsRow B 36 2 u M.length (prs M)) (hB : B ≤ w.heap.size) {a2 : Option Addr} {n2 c2 : Nat} (hn : n2 = N.length) (h0 : N.length ≠ 0) (hr : PX w a2 N) (hl : M.length + N.length ≤ 1000) :
  ∃ a c w', (∀ ty, (Builtin.append_ #[131, 131] ty #[u, .slice a2 n2 c2]).run Tryz.prog w = .ok (.slice a (M ++ N).length c) w') ∧ w'.ownsRow B 36 2 (.slice a (M ++ N).length c) (M ++ N).length (prs (M ++ N)) ∧ w.grownBy w' u.ownBlock ∧ (∀ g, (Value.slice a (M ++ N).length c).ownBlock = some g → u.ownBlock = some g ∨ w.heap.size ≤ g) := by
 obtain ⟨i0, hi0, hzz⟩ := Option.map_eq_some_iff.1 pInfo;simp only [Prod.mk.injEq] at hzz;obtain ⟨hz0, hz1, hz2⟩ := hzz;subst hn;have hx : ∃ u0, (prs N)[0]? = some u0 := ⟨_, List.getElem?_eq_getElem (by rw [prs_len]; omega)⟩;obtain ⟨u0, hu0⟩ := hx;obtain ⟨g2, off2, rfl, _⟩ := hr 0 u0 hu0
 obtain ⟨g', cap', w', hr', hown, hgrow, hat, _⟩ := run_append_lies (P := Tryz.prog) w 131 0 B 36 i0 _ 2 16 Tryz.underlying131 hi0 hz0 hz1 hz2 rfl (by omega) u M.length (prs M) ho
  ⟨g2, off2, none⟩ N.length c2 (prs N) (by rw [prs_len]) (fun j x hx => by
    obtain ⟨g3, off3, e3, hc⟩ := hr j x hx;simp only [Option.some.injEq, Addr.mk.injEq, and_true] at e3;obtain ⟨rfl, rfl⟩ := e3;rw [add0]
    exact hc) (prs_one N) (by omega) (by unfold maxLen; omega) (by omega) hB _ rfl
 refine ⟨some ⟨g', 0, none⟩, cap', w', fun ty => ?_, ?_, hgrow, fun g hg => ?_⟩
 ·rw [List.length_append]
  exact hr'
 ·rw [List.length_append, prs_app]
  exact hown
 ·simp [Value.ownBlock] at hg
  subst hg
  rcases hat with q | q
  ·exact Or.inl q
  ·exact Or.inr (by omega)
abbrev dsl (e : En) : Value := .slice e.a e.d.length e.cap
structure DIs (w : World) (B c : Nat) (v : Value) (L : List En) : Prop where
 is : RIs w B c v L
 own : ∀ (i : Nat) (e : En), L[i]? = some e → w.ownsRow B 36 2 (dsl e) e.d.length (prs e.d)
 apart : ∀ (i j : Nat) (e f : En) (g : Nat), i ≠ j → L[i]? = some e → L[j]? = some f → (dsl e).ownBlock = some g → (dsl f).ownBlock ≠ some g
theorem DIs.below {w w' : World} {B c : Nat} {v : Value} {L : List En} (h : DIs w B c v L) (hb : Below w.heap.size w w') : DIs w' B c v L :=
 ⟨h.is.below hb, fun i e he => ownsRow_below (h.own i e he) hb, h.apart⟩
theorem DIs.file {W : World} {B c ll gF : Nat} {av : Option Addr} {cv : Nat} {L : List En} (x : Fl) (h : DIs W B c (.slice av ll cv) L) (hll : L.length = ll) (hlen : ll ≤ 400)
  (hF : W.heap[gF]? = some (.cells (ec ⟨x, none, 0, []⟩).toArray 133)) (hB : B ≤ W.heap.size) :
  ∃ a2 c2 w2, (∀ ty, (Builtin.append_ #[128, 128] ty #[.slice av ll cv, .slice (some ⟨gF, 0, none⟩) 1 1]).run Tryz.prog W = .ok (.slice a2 (ll + 1) c2) w2) ∧ w2.cell? ⟨c, 0, none⟩ = some (.slice av ll cv) ∧ w2.frozen? ⟨c, 0, none⟩ = false ∧ DIs (w2.setCell ⟨c, 0, none⟩ (.slice a2 (ll + 1) c2)) B c (.slice a2 (ll + 1) c2) (L ++ [⟨x, none, 0, []⟩]) ∧ Below B W (w2.setCell ⟨c, 0, none⟩ (.slice a2 (ll + 1) c2)) ∧ Below B W w2 := by
 have hR := h.is;have ho := hR.own
 have hfr : FRd W (some ⟨gF, 0, none⟩) [(⟨x, none, 0, []⟩ : En)] := by
  intro i u hu;refine ⟨gF, 0, rfl, ?_⟩;rw [Nat.zero_add, cell_of_heap hF, ← hu];simp [ecs]
 obtain ⟨a, c', w', hrun, hown, hgrow⟩ := appF ho hB (a2 := some ⟨gF, 0, none⟩) (n2 := 1) (c2 := 1) (N := [(⟨x, none, 0, []⟩ : En)]) rfl hfr (by rw [hll]; simp; omega)
 have hl2 : (L ++ [(⟨x, none, 0, []⟩ : En)]).length = ll + 1 := by rw [List.length_append, hll]; rfl
 have hru := grown_ru ho hgrow hB
 have hcne : ∀ g, (Value.slice av ll cv).ownBlock = some g → g ≠ c := by
  rintro g hg rfl;obtain ⟨cs, hcs⟩ := own_type ho hg;rw [hR.head] at hcs;simp only [Option.some.injEq, Obj.cells.injEq] at hcs;exact absurd hcs.2.1 (by decide)
 have hhead : w'.heap[c]? = some (.cells #[.slice av ll cv] 130) := (hgrow.block c hR.lt (fun e => hcne c e.symm rfl)).trans hR.head
 have hkeepP : ∀ (g : Nat) (cs : Array Value) (fr : Nat × Nat), W.heap[g]? = some (.cells cs 36 fr) → (w'.setCell ⟨c, 0, none⟩ (.slice a (ll + 1) c')).heap[g]? = some (.cells cs 36 fr) := fun g cs fr hg => by
  have h1 := hru.other g cs _ fr hg (by decide) (by decide);rw [Below.heap_setCell _ _ _ _ ?_]
  ·exact h1
  ·show g ≠ c
   rintro rfl;rw [hR.head] at hg;simp only [Option.some.injEq, Obj.cells.injEq] at hg;exact absurd hg.2.1 (by decide)
 rw [hl2] at hrun hown;have hbw : Below B W w' := ⟨hru.os, hru.tape, hru.output, hru.size, hru.low⟩
 have hget : ∀ i e, (L ++ [(⟨x, none, 0, []⟩ : En)])[i]? = some e → L[i]? = some e ∨ (i = ll ∧ e = ⟨x, none, 0, []⟩) := fun i e he => by
  by_cases hi : i < ll
  ·rw [List.getElem?_append_left (by omega)] at he
   exact Or.inl he
  ·rw [List.getElem?_append_right (by omega), hll] at he
   have hz := (List.getElem?_eq_some_iff.1 he).1;simp at hz
   have : i - ll = 0 := by omega
   rw [this] at he;exact Or.inr ⟨by omega, by simpa using he.symm⟩
 refine ⟨a, c', w', hrun, by rw [cell_of_heap hhead]; rfl, frozen_of_heap hhead, ⟨⟨?_, ?_, ?_, hR.cB⟩, fun i e he => ?_, fun i j e f g hij he hf hg => ?_⟩, hbw.trans ((Upd.setCell c 0 _ _).below hR.cB (Nat.le_trans hB hru.size)), hbw⟩
 ·rw [setCell_eq_setRow w' c 0 _ _ _ _ hhead, setRow_heap w' c _ _ _ _ hhead]
  rfl
 ·rw [hl2]
  refine ownsRow_at hown (fun g hg => Below.heap_setCell _ _ _ _ ?_)
  show g ≠ c
  rintro rfl;obtain ⟨cs, hcs⟩ := own_type hown hg;rw [hhead] at hcs;simp only [Option.some.injEq, Obj.cells.injEq] at hcs;exact absurd hcs.2.1 (by decide)
 ·intro e he
  rcases List.mem_append.1 he with he | he
  ·exact ⟨(hR.rd e he).1.keep hkeepP, (hR.rd e he).2⟩
  ·rw [List.mem_singleton] at he
   subst he;exact ⟨fun j q hj => by simp at hj, Nat.le_refl _⟩
 ·rcases hget i e he with he | ⟨-, rfl⟩
  ·refine ownsRow_at (h.own i e he) (fun g hg => ?_)
   obtain ⟨cs, hcs⟩ := own_type (h.own i e he) hg;rw [hcs];exact hkeepP g cs _ hcs
  ·exact World.ownsRow_nil _ _ _ _
 ·rcases hget i e he with he | ⟨-, rfl⟩
  ·rcases hget j f hf with hf | ⟨-, rfl⟩
   ·exact h.apart i j e f g hij he hf hg
   ·simp [Value.ownBlock]
  ·simp [Value.ownBlock] at hg
theorem DIs.name {W : World} {B c i k g ll cv gP : Nat} {L : List En} {e : En} (h : DIs W B c (.slice (some ⟨g, 0, none⟩) ll cv) L) (he : L[i]? = some e) (hk : e.d.length ≤ 900)
  (hP : W.heap[gP]? = some (.cells #[.int .i64 ((k / 6 + 1 : Nat) : Int), .int .i64 ((k % 6 : Nat) : Int)] 36)) (hB : B ≤ W.heap.size) :
  ∃ a2 c2 w2, (∀ ty, (Builtin.append_ #[131, 131] ty #[dsl e, .slice (some ⟨gP, 0, none⟩) 1 1]).run Tryz.prog W = .ok (.slice a2 (e.d.length + 1) c2) w2) ∧ w2.cell? ⟨c, 0, none⟩ = some (.slice (some ⟨g, 0, none⟩) ll cv) ∧ w2.cell? ⟨g, i * 6 + 5, none⟩ = some (dsl e) ∧ w2.frozen? ⟨g, i * 6 + 5, none⟩ = false ∧ DIs (w2.setCell ⟨g, i * 6 + 5, none⟩ (.slice a2 (e.d.length + 1) c2)) B c (.slice (some ⟨g, 0, none⟩) ll cv) (L.set i ⟨e.x, a2, c2, e.d ++ [k]⟩) ∧ Below B W (w2.setCell ⟨g, i * 6 + 5, none⟩ (.slice a2 (e.d.length + 1) c2)) := by
 have hil := (List.getElem?_eq_some_iff.1 he).1
 have hpx : PX W (some ⟨gP, 0, none⟩) [k] := by
  intro j u hu;refine ⟨gP, 0, rfl, ?_⟩;have hj := (List.getElem?_eq_some_iff.1 hu).1;rw [prs_len] at hj;simp only [List.length_cons, List.length_nil] at hj;rw [Nat.zero_add, cell_of_heap hP, ← hu]
  obtain rfl | rfl : j = 0 ∨ j = 1 := by omega
  all_goals rfl
 have hoe := h.own i e he;obtain ⟨a, c', w', hrun, hown, hgrow, hat⟩ := appQ hoe hB (a2 := some ⟨gP, 0, none⟩) (n2 := 1) (c2 := 1) (N := [k]) rfl (by simp) hpx (by simp; omega)
 have hl2 : (e.d ++ [k]).length = e.d.length + 1 := by simp
 rw [hl2] at hrun hat
 have hty : ∀ (q : Nat) (cs : Array Value) (t : TypeId) (fr : Nat × Nat), W.heap[q]? = some (.cells cs t fr) → t ≠ 36 → w'.heap[q]? = some (.cells cs t fr) := fun q cs t fr hq ht => by
  refine (hgrow.block q (lt_of_heap hq) (fun z => ?_)).trans hq;obtain ⟨cs2, h2⟩ := own_type hoe z.symm;rw [hq] at h2;simp only [Option.some.injEq, Obj.cells.injEq] at h2;exact ht h2.2.1
 have hbw : Below B W w' := below_grown hgrow hB (ownsRow_low hoe)
 have hoj : ∀ j f, j ≠ i → L[j]? = some f → w'.ownsRow B 36 2 (dsl f) f.d.length (prs f.d) := fun j f hj hf => by
  refine ownsRow_at (h.own j f hf) (fun q hq => hgrow.block q ((h.own j f hf).lt q hq).2 (fun z => ?_));exact h.apart i j e f q (fun x => hj x.symm) he hf z.symm hq
 have hhead : w'.heap[c]? = some (.cells #[.slice (some ⟨g, 0, none⟩) ll cv] 130) := hty _ _ _ _ h.is.head (by decide)
 have hrow : w'.ownsRow B 133 6 (.slice (some ⟨g, 0, none⟩) ll cv) L.length (ecs L) := ownsRow_at h.is.own (fun q hq => by
   obtain ⟨cs, hcs⟩ := own_type h.is.own hq;rw [hcs]
   exact hty _ _ _ _ hcs (by decide))
 obtain ⟨g0, cap0, e0, hBg, ⟨cs0, hcs0⟩, hc0⟩ := h.is.at he;simp only [Value.slice.injEq, Option.some.injEq, Addr.mk.injEq, and_true] at e0;obtain ⟨rfl, -, -⟩ := e0;have hg1 : w'.heap[g]? = some (.cells cs0 133 (0, 0)) := hty _ _ _ _ hcs0 (by decide)
 have hc5 : w'.cell? ⟨g, i * 6 + 5, none⟩ = some (dsl e) := by
  have := hc0 5 (by omega);rw [cell_of_heap hcs0] at this;rw [cell_of_heap hg1];exact this
 have hne : g ≠ c := by
  rintro rfl;rw [h.is.head] at hcs0;simp only [Option.some.injEq, Obj.cells.injEq] at hcs0;exact absurd hcs0.2.1 (by decide)
 have hkp : ∀ (q : Nat) (cs : Array Value) (fr : Nat × Nat), w'.heap[q]? = some (.cells cs 36 fr) → (w'.setCell ⟨g, i * 6 + 5, none⟩ (.slice a (e.d.length + 1) c')).heap[q]? = some (.cells cs 36 fr) := fun q cs fr hq => by
  rw [Below.heap_setCell _ _ _ _ ?_]
  ·exact hq
  ·show q ≠ g
   rintro rfl;rw [hg1] at hq;simp only [Option.some.injEq, Obj.cells.injEq] at hq;exact absurd hq.2.1 (by decide)
 have hkr : ∀ {u : Value} {d : List Nat}, w'.ownsRow B 36 2 u d.length (prs d) → (w'.setCell ⟨g, i * 6 + 5, none⟩ (.slice a (e.d.length + 1) c')).ownsRow B 36 2 u d.length (prs d) := fun {u d} hu => ownsRow_at hu (fun q hq => by
   obtain ⟨cs, hcs⟩ := own_type hu hq;rw [hcs]
   exact hkp q cs _ hcs)
 have hown' : w'.ownsRow B 36 2 (.slice a (e.d ++ [k]).length c') (e.d ++ [k]).length (prs (e.d ++ [k])) := hown
 have hget : ∀ j f, (L.set i ⟨e.x, a, c', e.d ++ [k]⟩)[j]? = some f → (j = i ∧ f = ⟨e.x, a, c', e.d ++ [k]⟩) ∨ (j ≠ i ∧ L[j]? = some f) := fun j f hf => by
  rw [List.getElem?_set] at hf
  by_cases hji : i = j
  ·subst hji
   rw [if_pos rfl, if_pos hil] at hf;exact Or.inl ⟨rfl, (Option.some.inj hf).symm⟩
  ·rw [if_neg hji] at hf
   exact Or.inr ⟨fun z => hji z.symm, hf⟩
 refine ⟨a, c', w', hrun, by rw [cell_of_heap hhead]; rfl, hc5, frozen_of_heap hg1, ⟨⟨?_, ?_, fun f hf => ?_, h.is.cB⟩, fun j f hf => ?_, fun j m f f' q hjm hf hf' hq => ?_⟩, hbw.trans ((Upd.setCell g _ _ _).below hBg (Nat.le_trans hB hbw.size))⟩
 ·rw [Below.heap_setCell _ _ _ _ (by show c ≠ g; exact fun z => hne z.symm)]
  exact hhead
 ·exact own_set hrow he _ 5 (by omega) rfl _ ⟨e.x, a, c', e.d ++ [k]⟩ (by show Value.slice _ _ _ = _; rw [hl2]) (fun j hj hne => by
    obtain rfl | rfl | rfl | rfl | rfl : j = 0 ∨ j = 1 ∨ j = 2 ∨ j = 3 ∨ j = 4 := by omega
    all_goals rfl)
 ·obtain ⟨j, hj⟩ := List.mem_iff_getElem?.1 hf
  rcases hget j f hj with ⟨-, rfl⟩ | ⟨hji, hj2⟩
  ·exact ⟨(PRd.of_own hown').keep hkp, (own_PRd hown').2.1⟩
  ·exact ⟨(PRd.of_own (hoj j f hji hj2)).keep hkp, (h.is.rd f (List.mem_of_getElem? hj2)).2⟩
 ·rcases hget j f hf with ⟨-, rfl⟩ | ⟨hji, hj2⟩
  ·exact hkr hown'
  ·exact hkr (hoj j f hji hj2)
 ·have hcross : ∀ j f q, j ≠ i → L[j]? = some f → (Value.slice a (e.d.length + 1) c').ownBlock = some q → (dsl f).ownBlock ≠ some q := fun j f q hji hj2 hq hq2 => by
   rcases hat q hq with z | z
   ·exact h.apart i j e f q (fun x => hji x.symm) he hj2 z hq2
   ·have := ((h.own j f hj2).lt q hq2).2
    omega
  rcases hget j f hf with ⟨hji, rfl⟩ | ⟨hji, hj2⟩
  ·rcases hget m f' hf' with ⟨hmi, rfl⟩ | ⟨hmi, hm2⟩
   ·omega
   ·refine hcross m f' q hmi hm2 ?_
    have : (dsl ⟨e.x, a, c', e.d ++ [k]⟩) = .slice a (e.d.length + 1) c' := by show Value.slice _ _ _ = _; rw [hl2]
    rw [← this];exact hq
  ·rcases hget m f' hf' with ⟨hmi, rfl⟩ | ⟨hmi, hm2⟩
   ·intro hq2
    have : (dsl ⟨e.x, a, c', e.d ++ [k]⟩) = .slice a (e.d.length + 1) c' := by show Value.slice _ _ _ = _; rw [hl2]
    rw [this] at hq2;exact hcross j f q hji hj2 hq2 hq
   ·exact h.apart j m f f' q hjm hj2 hm2 hq
theorem words_any (D E : List Int) (a b : Option Addr) (ca cb : Nat) (w : World) (ha : Rd w a D) (hb : Rd w b E) (hl : D.length ≤ 1000000) (hl2 : E.length ≤ 1000000) :
  Calls Tryz.prog 7 #[.slice a D.length ca, .slice b E.length cb] w fun e w' => e = .returned (.bool (decide (D = E))) ∧ Below w.heap.size w w' := by
 by_cases hle : D.length = E.length
 ·have HLE := hid hle
  rw [← hle];have HA : Hid _ := ha;have HB : Hid _ := hb;clear ha hb hle hl2
  go_enter Tryz.func7, Tryz.ntmps7
  go_wp2
  go_loopw [5] (fun s wr => ∃ (k : Nat), k ≤ D.length ∧ s = .int .i64 k ∧ D.take k = E.take k ∧ Below w.heap.size w wr) (fun s _ => D.length - (intOf s).toNat)
  case atStart => exact ⟨0, by omega, rfl, rfl, Below.refl _ _⟩
  case round =>
   obtain ⟨k, hk, rfl, htk, hbw⟩ := hrel;have HT := hid htk;clear htk
   by_cases hlt : k < D.length
   ·obtain ⟨x, hx⟩ : ∃ x, D[k]? = some x := ⟨D[k], List.getElem?_eq_getElem hlt⟩
    obtain ⟨y, hy⟩ : ∃ y, E[k]? = some y := ⟨E[k]'(by rw [← HLE.out]; exact hlt), List.getElem?_eq_getElem _⟩;obtain ⟨ga, oa, rfl, a0⟩ := (Rd.below HA.out hbw) k x hx;obtain ⟨gb, ob, rfl, b0⟩ := (Rd.below HB.out hbw) k y hy;have HX := hid hx;have HY := hid hy;clear hx hy
    by_cases hxy : x = y
    ·have HT2 : Hid (D.take (k + 1) = E.take (k + 1)) := by
      show _ = _
      rw [List.take_add_one, List.take_add_one, HT.out, HX.out, HY.out, hxy]
     subst hxy
     go_wp2_with fail
     go_region
     all_goals
      go_wp2;go_roundw
      case rel => exact ⟨k + 1, by omega, by go_num, HT2.out, hbw.drew⟩
      case measure => simp [intOf]; omega
    ·have HN : Hid (decide (D = E) = false) := by
      refine decide_eq_false (fun e => ?_);have h1 := HX.out;rw [e, HY.out] at h1;exact hxy (Option.some.inj h1).symm
     have g0 : (x == y) = false := beq_false_of_ne hxy;clear hxy
     go_wp2_with fail
     go_region
     all_goals
      go_wp2;go_ret;exact ⟨by rw [HN.out]; rfl, hbw.drew⟩
   ·have hkd : k = D.length := by omega
    have HN : Hid (decide (D = E) = true) := by
     refine decide_eq_true ?_;have h1 := HT.out;rw [hkd, List.take_length, HLE.out, List.take_length] at h1;exact h1
    have g0 : decide ((k : Int) < (D.length : Int)) = false := decide_eq_false (by omega);clear hkd;go_wp2;go_ret;exact ⟨by rw [HN.out]; rfl, hbw⟩
 ·have HN : Hid (decide (D = E) = false) := decide_eq_false (fun e => hle (by rw [e]))
  have g0 : ((D.length : Int) == (E.length : Int)) = false := beq_false_of_ne (by omega);clear ha hb hle
  go_enter Tryz.func7, Tryz.ntmps7
  go_wp2;go_ret;exact ⟨by rw [HN.out]; rfl, Below.refl _ _⟩
end Fd
end Go.Proofs.YtinaeifpoljfoaaGreatDoor
