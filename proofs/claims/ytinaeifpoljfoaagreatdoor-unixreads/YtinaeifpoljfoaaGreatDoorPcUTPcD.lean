import Derived.Test.YtinaeifpoljfoaaGreatDoorPcMTPcA
import Derived.Test.YtinaeifpoljfoaaGreatDoorSrt
set_option linter.all false
set_option maxRecDepth 100000
set_option maxHeartbeats 16000000
namespace Go.Proofs.YtinaeifpoljfoaaGreatDoor
open Go.RowKit Go.Lib
namespace Ow
end Ow
namespace Pc
open Ow
structure UW (B : Nat) (w w' : World) : Prop where
 bel : Below B w w'
 oth : ∀ (k : Nat) (cs : Array Value) (t : TypeId) (fz : Nat × Nat), w.heap[k]? = some (.cells cs t fz) → t ≠ 45 → w'.heap[k]? = w.heap[k]?
theorem UW.refl (B : Nat) (w : World) : UW B w w := ⟨Below.refl _ _, fun _ _ _ _ _ _ => rfl⟩
theorem UW.trans {B : Nat} {a b c : World} (h : UW B a b) (k : UW B b c) : UW B a c :=
 ⟨h.bel.trans k.bel, fun i cs t fz hi ht => by
   have h1 := h.oth i cs t fz hi ht
   exact (k.oth i cs t fz (h1.trans hi) ht).trans h1⟩
theorem UW.of_below {B : Nat} {w w' : World} (hB : B ≤ w.heap.size) (h : Below w.heap.size w w') : UW B w w' := ⟨h.mono hB, fun i cs t fz hi ht => h.block i (lt_of_heap hi)⟩
theorem UW.own {w w' : World} {B : Nat} {v : Value} {n : Nat} {xs : List Value} (h : w.ownsRow B 45 1 v n xs) (hs : B ≤ w.heap.size) (hg : w.grownBy w' v.ownBlock) : UW B w w' := by
 refine ⟨below_grown hg hs (ownsRow_low h), fun i cs t fz hi ht => hg.block i (lt_of_heap hi) (fun e => ?_)⟩;obtain ⟨c2, k2⟩ := own_type h e.symm;rw [hi] at k2;simp only [Option.some.injEq, Obj.cells.injEq] at k2;exact ht k2.2.1
theorem app3 {w : World} {B n c : Nat} {a : Option Addr} {D : List Int} (ho : w.ownsRow B 45 1 (.slice a n c) D.length (uvs D)) (hn : D.length = n) (hB : B ≤ w.heap.size) (hl : n ≤ 2000) (x0 x1 x2 : Int) :
  ∃ a' c' w', (∀ ty, (Builtin.append_ #[22, 22] ty #[.slice a n c, .slice (some ⟨w.heap.size, 0, none⟩) 3 3]).run Tryz.prog (w.alloc (.cells #[.int .u64 x0, .int .u64 x1, .int .u64 x2] 45)) = .ok (.slice a' (n + 3) c') w') ∧ w'.ownsRow B 45 1 (.slice a' (n + 3) c') (D ++ [x0, x1, x2]).length (uvs (D ++ [x0, x1, x2])) ∧ UW B w w' := by
 obtain ⟨i0, hi0, hzz⟩ := Option.map_eq_some_iff.1 wordInfo;simp only [Prod.mk.injEq] at hzz;obtain ⟨hz0, hz1, hz2⟩ := hzz;have hbe : Below w.heap.size w (w.alloc (.cells #[.int .u64 x0, .int .u64 x1, .int .u64 x2] 45)) := below_alloc _ _;have hnew : (w.alloc (.cells #[.int .u64 x0, .int .u64 x1, .int .u64 x2] 45)).heap[w.heap.size]? = some (.cells #[.int .u64 x0, .int .u64 x1, .int .u64 x2] 45) := heap_alloc_new _ _;have ho1 := ownsRow_below ho hbe
 obtain ⟨g', cap', w', hr', hown, hgrow, _, _⟩ := run_append_lies (P := Tryz.prog) _ 22 0 B 45 i0 _ 1 8 Tryz.underlying22 hi0 hz0 hz1 hz2 rfl (by omega) _ D.length (uvs D) ho1
  ⟨w.heap.size, 0, none⟩ 3 3 (uvs [x0, x1, x2]) rfl (fun j x hx => by
    rw [add0, Nat.zero_add, cell_of_heap hnew, ← hx]
    simp [uvs]) (uvs_one _) (by omega) (by unfold maxLen; omega) (by omega) (Nat.le_trans hB hbe.size) _ rfl
 rw [hn] at hr' hown;refine ⟨some ⟨g', 0, none⟩, cap', w', fun ty => hr', ?_, (UW.of_below hB hbe).trans (UW.own ho1 (Nat.le_trans hB hbe.size) hgrow)⟩;rw [List.length_append, uvs_app, hn];exact hown
theorem wp_append_eq {P : Program} {w w' : World} {o : Oper} {a : Act} {K : Act → World → Prop} {Q : Exit → Act → World → Prop} (s x : Operand) (t : TypeId)
  (ho : o.op = .call { callee := .builtin .append, args := #[s, x], argTypes := #[t, t] }) (sv xv r : Value) (hs : a.eval s = sv) (hx : a.eval x = xv) (hr : ∀ ty, (Builtin.append_ #[t, t] ty #[sv, xv]).run P w = .ok r w')
  (h : K (a.put o.dst r) w') : o.wp P a w K Q := by
 unfold Oper.wp;simp [execOp, ho, resolve, invoke, builtin, hs, hx, hr, Result.andThen];exact h
theorem app1i {w : World} {B n c : Nat} {a : Option Addr} {D : List Int} (ho : w.ownsRow B 3 1 (.slice a n c) D.length (ivs D)) (hn : D.length = n) (hB : B ≤ w.heap.size) (hl : n ≤ 2000) (x0 : Int) :
  ∃ a' c' w', (∀ ty, (Builtin.append_ #[50, 50] ty #[.slice a n c, .slice (some ⟨w.heap.size, 0, none⟩) 1 1]).run Tryz.prog (w.alloc (.cells #[.int .i64 x0] 3)) = .ok (.slice a' (n + 1) c') w') ∧ w'.ownsRow B 3 1 (.slice a' (n + 1) c') (D ++ [x0]).length (ivs (D ++ [x0])) ∧ w.grownBy w' (Value.slice a n c).ownBlock := by
 obtain ⟨i0, hi0, hzz⟩ := Option.map_eq_some_iff.1 intInfo;simp only [Prod.mk.injEq] at hzz;obtain ⟨hz0, hz1, hz2⟩ := hzz;have hbe : Below w.heap.size w (w.alloc (.cells #[.int .i64 x0] 3)) := below_alloc _ _;have hnew : (w.alloc (.cells #[.int .i64 x0] 3)).heap[w.heap.size]? = some (.cells #[.int .i64 x0] 3) := heap_alloc_new _ _;have ho1 := ownsRow_below ho hbe
 obtain ⟨g', cap', w', hr', hown, hgrow, _, _⟩ := run_append_lies (P := Tryz.prog) _ 50 0 B 3 i0 _ 1 8 Tryz.underlying50 hi0 hz0 hz1 hz2 rfl (by omega) _ D.length (ivs D) ho1
  ⟨w.heap.size, 0, none⟩ 1 1 (ivs [x0]) rfl (fun j x hx => by
    rw [add0, Nat.zero_add, cell_of_heap hnew, ← hx]
    simp [ivs]) (ivs_one _) (by omega) (by unfold maxLen; omega) (by omega) (Nat.le_trans hB hbe.size) _ rfl
 rw [hn] at hr' hown;refine ⟨some ⟨g', 0, none⟩, cap', w', fun ty => hr', ?_, grown_trans (grown_below _ hbe) hgrow⟩;rw [List.length_append, ivs_app, hn];exact hown
theorem holds_own {w : World} {base g n cap : Nat} {e : TypeId} {D : List Int} (h : w.ownsRow base e 1 (.slice (some ⟨g, 0, none⟩) n cap) D.length (ivs D)) : Go.Sort.Holds (Value.int .i64) w g 0 D.toArray := by
 rcases h.2 with ⟨e2, _⟩ | ⟨g', cap', cur, e2, _, hh, q1, _, _, ht⟩
 ·cases e2
 ·simp only [Value.slice.injEq, Option.some.injEq, Addr.mk.injEq] at e2
  obtain ⟨⟨rfl, _⟩, rfl, rfl⟩ := e2;intro j hj
  have hj' : j < D.length := by simpa using hj
  refine ⟨?_, frozen_of_heap hh⟩
  have hq : (ivs D)[j]? = some (.int .i64 D[j]) := by simp [ivs, hj']
  rw [← ht, Nat.mul_one, List.getElem?_take_of_lt hj'] at hq;rw [Nat.zero_add, cell_of_heap hh]
  have e3 : D.toArray[j]! = D[j] := by simp [hj']
  rw [e3]
  simpa using hq
theorem irow_holds {w : World} {g : Nat} {D E : List Int} (h : Go.Sort.Holds (Value.int .i64) w g 0 (D ++ E).toArray) : IRow w (some ⟨g, 0, none⟩) D := by
 intro j x hx;obtain ⟨hj, he⟩ := List.getElem?_eq_some_iff.1 hx;refine ⟨g, 0, rfl, ?_⟩;have := (h j (by simp; omega)).1;rw [this]
 have e3 : (D ++ E).toArray[j]! = x := by
  rw [← he];simp only [List.getElem!_toArray];rw [List.getElem!_eq_getElem?_getD, List.getElem?_append_left hj, List.getElem?_eq_getElem hj]
  rfl
 rw [e3]
theorem below_putRow {B g off n : Nat} {w0 w : World} (h : Below B w0 w) (hg : B ≤ g) (D : Array Int) : Below B w0 (Go.Sort.putRow (Value.int .i64) (Go.Sort.ahead w n) g off D) := by
 refine h.trans ⟨rfl, rfl, rfl, by simp, fun k hk => ?_⟩
 show (w.heap.modify g _)[k]? = w.heap[k]?
 rw [Array.getElem?_modify, if_neg (by omega)]
theorem below_growR {B : Nat} {w0 w : World} (h : Below B w0 w) (hB : B ≤ w.heap.size) (os : Array Obj) : Below B w0 (Go.Sort.grow w os) :=
 ⟨h.os, h.tape, h.output, by rw [Go.Sort.size_grow]; have := h.size; omega, fun k hk => by
   rw [Go.Sort.heap_grow_old w os (by omega)]
   exact h.block k hk⟩
theorem elemW : Tryz.prog.elem 22 = 45 := by kernel_rfl
theorem cut_wl (D : List Int) (a : Option Addr) (len cap j : Nat) (hl : len = D.length) (hj : j ≤ len) (hcap : len ≤ cap) : ∃ a2 c2, (∀ V, (Instr.slice 22 (.slice a len cap) (some (.int .i64 (j : Int))) none none).run Tryz.prog V = .ok (.slice a2 (len - j) c2) V) ∧ len - j ≤ c2 ∧ (∀ W, Rd W a D → Rd W a2 (D.drop j)) := by
 obtain ⟨i0, hi0, hzz⟩ := Option.map_eq_some_iff.1 wordInfo;simp only [Prod.mk.injEq] at hzz;refine ⟨if cap = j then a else a.map (·.add (j * 1)), cap - j, fun V => ?_, by omega, fun W ha => ?_⟩
 ·have hk0 : (j : Int) ≤ (len : Int) := by omega
  rw [run_slice_l V 22 _ _ _ Tryz.underlying22 _ _ (by omega) hk0];simp [sizeOf, typeInfo, elemW, hi0, sliced, hzz.2.1]
 ·intro i x hx
  rw [List.getElem?_drop] at hx;have hlt := (List.getElem?_eq_some_iff.1 hx).1;obtain ⟨g, off, e, hc⟩ := ha (j + i) x hx;refine ⟨g, off + j, ?_, ?_⟩
  ·rw [if_neg (by omega), e]
   simp [Addr.add]
  ·rw [Nat.add_assoc]
   exact hc
end Pc
end Go.Proofs.YtinaeifpoljfoaaGreatDoor
namespace Go.Proofs.YtinaeifpoljfoaaGreatDoor
open Go.RowKit Go.Maps
namespace Ow
end Ow
namespace Pc
open Ow
theorem MapO.len {P : Program} {w : World} {q : IntKind} {mo : Option Nat} {f : Int → Option Value} (h : MapO w q mo f) {t k e : TypeId} (ht : P.underlying t = some (.map k e)) :
  ∃ n : Nat, (∀ ty, (Builtin.len_ #[t] ty #[.map mo]).run P w = .ok (.int .i64 n) w) ∧ ((∃ a, (f a).isSome = true) → 0 < n) ∧ ((∀ a, f a = none) → n = 0) := by
 rcases h with ⟨rfl, hf⟩ | ⟨b, rfl, es, clock, hb, he, hst⟩
 ·refine ⟨0, fun ty => by simp [Builtin.len_, run_underlying ht, goInt, Result.andThen], fun ⟨a, ha⟩ => ?_, fun _ => rfl⟩
  rw [hf a] at ha
  cases ha
 ·refine ⟨es.size, fun ty => by simp [Builtin.len_, run_underlying ht, MapKept.run_getObj_map hb, goInt, Result.andThen], fun ⟨a, ha⟩ => ?_, fun hn => ?_⟩
  ·obtain ⟨v, hv⟩ := Option.isSome_iff_exists.1 ha
   obtain ⟨i, x, hx, _⟩ := he.all a v hv;have := (Array.getElem?_eq_some_iff.1 hx).1;omega
  ·rcases Nat.eq_zero_or_pos es.size with h0 | h0
   ·exact h0
   ·obtain ⟨a, _, ha⟩ := he.key 0 es[0] (by simp [h0])
    rw [hn a] at ha
    cases ha
theorem all_nil {S : St} (hd : Dom S) (h : lstF S (fun _ => true) = []) (k : Int) : S k = none := by
 cases e : S k with
 | none => rfl
 | some p =>
  have : k ∈ lstF S (fun _ => true) := (mem_lst hd).2 (by unfold hits; rw [e]);rw [h] at this;simp at this
theorem begin_at (B b : Nat) (S : St) (w : World) (h : PrAt w B b S) :
  Calls Tryz.prog 71 #[ptr b] w fun e w' => e = .returned (.int .i64 (beN S)) ∧ PrAt w' B b (beS S) ∧ Tch B w w' := by
 have hA := h;obtain ⟨mo, c, h⟩ := h;have c0 := h.cell;have hne := eq_procs b;obtain ⟨n, hlen, hn1, hn2⟩ := h.map.len (P := Tryz.prog) (t := 165) Tryz.underlying165
 by_cases hk : lstF S (fun _ => true) = []
 ·have hn0 : n = 0 := hn2 (fun a => by unfold pf; rw [all_nil h.dom hk a]; rfl)
  subst hn0;have hp := put_at B b S 1 ⟨0, false, 0⟩ w hA (by omega) (by omega) (all_nil h.dom hk 1)
  have HR : Hid (beN S = 1 ∧ beS S = stPut S 1 ⟨0, false, 0⟩) := by
   unfold beN beS;exact ⟨if_pos hk, if_pos hk⟩
  clear h hk hn1 hn2 hA
  go_enter Tryz.func71, Tryz.ntmps71
  go_wp2_with fail
  refine hp.mono ?_;rintro e w1 ⟨rfl, hA, hT⟩;have HA := hid hA;have HT := hid hT;clear hA hT hp;go_wp2;go_ret;obtain ⟨e1, e2⟩ := HR.out;exact ⟨by rw [e1]; rfl, by rw [e2]; exact HA.out, HT.out⟩
 ·have hn0 : 0 < n := by
   refine hn1 ?_;obtain ⟨k, hkm⟩ := List.exists_mem_of_ne_nil _ hk;have := (mem_lst h.dom).1 hkm;unfold hits at this;refine ⟨k, ?_⟩;unfold pf
   cases e : S k with
   | none => rw [e] at this; cases this
   | some p => rfl
  have g0 : decide (0 < (n : Int)) = true := decide_eq_true (by omega)
  have HR : Hid (beN S = 0 ∧ beS S = S) := by
   unfold beN beS;exact ⟨if_neg hk, if_neg hk⟩
  have HA := hid hA
  have hn3 : (0 : Int) < (n : Int) := by omega
  clear h hk hn1 hn2 hA hn0
  go_enter Tryz.func71, Tryz.ntmps71
  go_wp2;go_ret;obtain ⟨e1, e2⟩ := HR.out;exact ⟨by rw [e1]; rfl, by rw [e2]; exact HA.out, Tch.refl _ _⟩
structure Coll (S : St) (t : Pr → Bool) (left : Int → Bool) (xs : List Int) : Prop where
 nd : xs.Nodup
 mem : ∀ k, k ∈ xs ↔ hits S t k = true ∧ left k = false
theorem Coll.len {S : St} {t : Pr → Bool} {left : Int → Bool} {xs : List Int} (h : Coll S t left xs) (hd : Dom S) : xs.length ≤ 8 := by
 refine len_bound 8 xs h.nd (fun k hk => ?_);have := ((h.mem k).1 hk).1;unfold hits at this
 cases e : S k with
 | none => rw [e] at this; cases this
 | some p => exact hd k p e
theorem Coll.start {S : St} {t : Pr → Bool} {c : Int → Nat} : Coll S t (fun a => (pf S c a).isSome) [] := by
 refine ⟨by simp, fun k => ⟨fun h => by simp at h, fun ⟨h1, h2⟩ => ?_⟩⟩;unfold hits at h1;unfold pf at h2
 cases e : S k with
 | none => rw [e] at h1; cases h1
 | some p => rw [e] at h2; cases h2
theorem Coll.yes {S : St} {t : Pr → Bool} {left : Int → Bool} {xs : List Int} (h : Coll S t left xs) {x : Int} {p : Pr} (hl : left x = true) (hx : S x = some p) (ht : t p = true) : Coll S t (fun z => left z && z != x) (xs ++ [x]) := by
 have hxm : x ∉ xs := fun q => by rw [((h.mem x).1 q).2] at hl; cases hl
 refine ⟨?_, fun k => ?_⟩
 ·rw [List.nodup_append]
  exact ⟨h.nd, by simp, fun a ha b hb e => by simp at hb; rw [e, hb] at ha; exact hxm ha⟩
 ·rw [List.mem_append, List.mem_singleton, h.mem]
  by_cases e : k = x
  ·subst e
   have : hits S t k = true := by unfold hits; rw [hx]; exact ht
   simp [this]
  ·simp [e]
theorem Coll.no {S : St} {t : Pr → Bool} {left : Int → Bool} {xs : List Int} (h : Coll S t left xs) {x : Int} {p : Pr} (hx : S x = some p) (ht : t p = false) : Coll S t (fun z => left z && z != x) xs := by
 refine ⟨h.nd, fun k => ?_⟩;rw [h.mem]
 by_cases e : k = x
 ·subst e
  have : hits S t k = false := by unfold hits; rw [hx]; exact ht
  simp [this]
 ·simp [e]
theorem Coll.all {S : St} {t : Pr → Bool} {left : Int → Bool} {xs : List Int} (h : Coll S t left xs) (hd : Dom S) (hl : ∀ k, left k = false) : xs.mergeSort (fun x y => decide (x ≤ y)) = lstF S t :=
 sorted_lst hd h.nd (fun k => by rw [h.mem]; simp [hl k])
theorem pf_ptr {S : St} {c : Int → Nat} (x : Int) (v : Value) (h : pf S c x = some v) : v = ptr (c x) := by
 unfold pf at h;obtain ⟨p, _, e⟩ := Option.map_eq_some_iff.1 h;exact e.symm
theorem pf_some (S : St) (c : Int → Nat) (k : Int) : (pf S c k).isSome = (S k).isSome := by unfold pf; cases S k <;> rfl
theorem below_upd {B r : Nat} {a b c : World} (h : Below B a b) (hu : Upd r b c) (hr : B ≤ r) (hs : B ≤ b.heap.size) : Below B a c := h.trans (hu.below hr hs)
theorem drewN_bel (w : World) (q : Nat) : Below w.heap.size w (w.drewN q) := ⟨rfl, rfl, rfl, Nat.le_refl _, fun _ _ => rfl⟩
theorem those_at (B b : Nat) (S : St) (N : Nat) (caps : Array Value) (t : Pr → Bool) (w : World) (h : PrAt w B b S)
  (hcf : ∀ (args : Array Value) (W : World), (callFunc N args).run Tryz.prog W = .ok (.enter N args) W)
  (hdo : ∀ (W : World) (c : Nat) (p : Pr), Below w.heap.size w W → W.heap[c]? = some (.cells (prow p) 211) → Calls Tryz.prog N (#[ptr c] ++ caps) W fun e W' => e = .returned (.bool (t p)) ∧ ∃ q, W' = W.drewN q) :
  Calls Tryz.prog 93 #[ptr b, .func (.func N) #[] caps] w fun e w' => ∃ a cap, e = .returned (.slice a (lstF S t).length cap) ∧ IRow w' a (lstF S t) ∧ Below w.heap.size w w' := by
 obtain ⟨mo, c, h⟩ := h;have HH := hid h;have HM : Hid (MapO w .i64 mo (pf S c)) := h.map;have HD : Hid (Dom S) := h.dom;have HDo := hid hdo;have c0 := h.cell;clear h hdo
 go_enter Tryz.func93, Tryz.ntmps93
 go_wp2_with (first | (at_range; refine wpList_range_o rfl _ _ _ _ rfl Tryz.underlying165 .i64 mo (pf S c) rfl HM.out ?_; intro w0 n0 hrg0 hb0 hs0) | go_in)
 go_frame
 have HR0 := hid hrg0;have HB0 := hid hb0;obtain ⟨r, hr⟩ : ∃ r, r = w.heap.size := ⟨_, rfl⟩;rw [← hr] at HR0 ⊢;have Hr := hid hr;clear hrg0 hb0 hs0 c0 hr
 go_loopw [5] (fun s wr => ∃ (left : Int → Bool) (n : Nat) (xs : List Int) (ak : Option Addr) (nk ck : Nat), .slice ak nk ck = s ∧ nk = xs.length ∧ Coll S t left xs ∧ RngO wr .i64 mo r (pf S c) left n ∧ wr.ownsRow (r + 1) 3 1 (.slice ak nk ck) xs.length (ivs xs) ∧ Below w.heap.size w wr) (fun _ wr => mleft mo r wr)
 case atStart => exact ⟨_, n0, [], none, 0, 0, rfl, rfl, Coll.start, HR0.out, World.ownsRow_nil _ _ _ 1, HB0.out⟩
 case round =>
  clear HR0 HB0;obtain ⟨left, n, xs, ak, nk, ck, rfl, hnk, hC, hrg, hown, hB⟩ := hrel;have HC := hid hC;have HRg := hid hrg;have HO := hid hown;have HB := hid hB;have HN := hid hnk;clear hC hrg hown hB hnk
  go_wp2_with (first | (at_next; refine wpList_next_o rfl _ rfl .i64 mo r (pf S c) (fun x => ptr (c x)) pf_ptr left n rfl HRg.out ?_ ?_) | go_in)
  ·intro hl0
   have HS : Hid (xs.mergeSort (fun x y => decide (x ≤ y)) = lstF S t) := HC.out.all HD.out hl0
   have hxl : nk ≤ 8 := by rw [HN.out]; exact HC.out.len HD.out
   clear hl0
   by_cases hn : nk = 0
   ·have hD : xs = [] := List.eq_nil_of_length_eq_zero (by rw [← HN.out]; exact hn)
    have HL : Hid (lstF S t = []) := by show lstF S t = []; rw [← HS.out, hD]; simp
    subst hn;have hS := slices_Sort_int_none ak ck wr;clear hD hxl
    go_wp2_with fail
    refine hS.mono ?_;rintro e w1 ⟨rfl, hw⟩;rw [hw];clear hw w1 hS;go_wp2;go_ret;refine ⟨ak, ck, by rw [HL.out]; rfl, ?_, HB.out⟩;rw [HL.out];intro j x hx;simp at hx
   ·obtain ⟨g, cap, e2, hgl, hgu⟩ := HO.out.form (by rw [← HN.out]; omega)
    rw [← HN.out] at e2
    cases e2
    have hO2 := HO.out;have hH := holds_own (by rw [HN.out] at hO2; exact hO2);have hlow := ownsRow_low HO.out g rfl;have hS := slices_Sort_int g 0 ck xs wr hH hgu (by rw [← HN.out]; omega);obtain ⟨M, hMq⟩ : ∃ M, M = lstF S t := ⟨_, rfl⟩;rw [HS.out, ← hMq, ← HN.out] at hS;have HHo := hid hH
    have HLn : Hid (M.length = nk) := by show _ = nk; rw [hMq, ← HS.out, List.length_mergeSort]; exact HN.out.symm
    have HMq := hid hMq;have HLow := hid hlow;clear hH hlow hgu hgl hO2 hMq
    go_wp2_with fail
    refine hS.mono ?_;rintro e w1 ⟨rfl, nn, os, hw⟩
    have hB1 : Below w.heap.size w w1 := by
     rw [hw];exact below_growR (below_putRow HB.out (by have := HLow.out; have := Hr.out; omega) _) (by have := HB.out.size; simp; omega) _
    have hH1 : Go.Sort.Holds (Value.int .i64) w1 g 0 M.toArray := by
     rw [hw];refine Go.Sort.holds_grow _ _ _ _ _ _ ?_ ?_
     ·have := HO.out.lt g rfl; simp; omega
     ·exact Go.Sort.holds_putRow _ _ _ _ xs.toArray _ (Go.Sort.holds_ahead _ _ _ _ _ _ HHo.out) (by have := HLn.out; have := HN.out; simp; omega)
    have HB1 := hid hB1;have HI : Hid (IRow w1 (some ⟨g, 0, none⟩) M) := irow_holds (E := []) (by rw [List.append_nil]; exact hH1);clear hS hw hB1 hH1;go_wp2;go_ret;rw [← HMq.out];exact ⟨some ⟨g, 0, none⟩, ck, by rw [HLn.out]; rfl, HI.out, HB1.out⟩
  ·intro x w1 n1 hlx hdx hrg1 hlt1 hu1 hs1 hen
   have HRg1 := hid hrg1;have HLt := hid hlt1;have HB1 : Hid (Below w.heap.size w w1) := below_upd HB.out hu1 (by have := Hr.out; omega) HB.out.size
   have HO1 : Hid (w1.ownsRow (r + 1) 3 1 (.slice ak nk ck) xs.length (ivs xs)) := ownsRow_at HO.out (fun g hg => by
     have hgl := HO.out.lt g hg
     exact hu1.block g hgl.2 (by omega))
   obtain ⟨p, hp⟩ : ∃ p, S x = some p := by
    unfold pf at hdx
    cases e : S x with
    | none => rw [e] at hdx; cases hdx
    | some p => exact ⟨p, rfl⟩
   have hcell := ((HH.out.below HB1.out).pr x p hp);have hD := HDo.out w1 (c x) p HB1.out hcell;have HP := hid hp;have HLx := hid hlx
   have hxl : nk ≤ 8 := by rw [HN.out]; exact HC.out.len HD.out
   clear hrg1 hlt1 hu1 hs1 hdx hcell hp hlx HB HO;generalize hcx : c x = cx at *;clear hcx
   go_wp2_with fail
   refine hD.mono ?_;rintro e w2 ⟨rfl, q, hw⟩;rw [hw];clear hw w2 hD hen;have HRg2 : Hid (RngO (w1.drewN q) .i64 mo r (pf S c) (fun z => left z && z != x) n1) := HRg1.out.of_blocks (fun _ _ => rfl) rfl;have HB2 : Hid (Below w.heap.size w (w1.drewN q)) := HB1.out.trans ((drewN_bel w1 q).mono HB1.out.size);have HO2 : Hid ((w1.drewN q).ownsRow (r + 1) 3 1 (.slice ak nk ck) xs.length (ivs xs)) := ownsRow_at HO1.out (fun _ _ => rfl);clear HRg1 HB1 HO1;generalize w1.drewN q = W at *
   cases htp : t p with
   | false =>
    have HC2 : Hid (Coll S t (fun z => left z && z != x) xs) := HC.out.no HP.out htp;clear htp;go_wp2;go_roundw
    case rel => exact ⟨_, n1, xs, ak, nk, ck, rfl, HN.out, HC2.out, HRg2.out, HO2.out, HB2.out⟩
    case measure => rw [HRg2.out.left_eq, HRg.out.left_eq]; exact HLt.out
   | true =>
    have HC2 : Hid (Coll S t (fun z => left z && z != x) (xs ++ [x])) := HC.out.yes HLx.out HP.out htp;obtain ⟨a', c', w3, hrun, hown3, hgr3⟩ := app1i HO2.out HN.out.symm HRg2.out.lt (by omega) x
    have HN3 : Hid (nk + 1 = (xs ++ [x]).length) := by show _ = _; rw [List.length_append, ← HN.out]; rfl
    have HRg3 : Hid (RngO w3 .i64 mo r (pf S c) (fun z => left z && z != x) n1) := by
     refine HRg2.out.of_blocks (fun m e => hgr3.block m (HRg2.out.mlt m e) (fun e2 => ?_)) (hgr3.block r HRg2.out.lt (fun e2 => ?_))
     ·have := ownsRow_low HO2.out m e2.symm
      have := HH.out.mlt m e;have := Hr.out;omega
     ·have := ownsRow_low HO2.out r e2.symm
      omega
    have HB3 : Hid (Below w.heap.size w w3) := HB2.out.trans (below_grown hgr3 HB2.out.size (fun g hg => by have := ownsRow_low HO2.out g hg; have := Hr.out; omega));have HO3 := hid hown3;have HRun : Hid _ := hrun;clear htp hrun hown3 hgr3
    go_wp2_with (at_builtin; refine wpList_append_eq rfl _ _ _ rfl _ _ _ rfl rfl HRun.out ?_)
    go_roundw
    case rel => exact ⟨_, n1, xs ++ [x], a', nk + 1, c', rfl, HN3.out, HC2.out, HRg3.out, HO3.out, HB3.out⟩
    case measure => rw [HRg3.out.left_eq, HRg.out.left_eq]; exact HLt.out
theorem lives_cf (args : Array Value) (W : World) : (callFunc 92 args).run Tryz.prog W = .ok (.enter 92 args) W := by kernel_rfl
theorem all_at (B b : Nat) (S : St) (w : World) (h : PrAt w B b S) :
  Calls Tryz.prog 38 #[ptr b] w fun e w' => ∃ a cap, e = .returned (.slice a (lstF S (fun p => !p.zom)).length cap) ∧ IRow w' a (lstF S (fun p => !p.zom)) ∧ Below w.heap.size w w' := by
 have hT := those_at B b S 92 #[] (fun p => !p.zom) w h lives_cf (fun W c p hb hc => by
   refine (lives_at c p.zom W (by rw [cell_of_heap hc]; rfl)).mono ?_;rintro e w' ⟨rfl, rfl⟩
   exact ⟨rfl, 0, rfl⟩)
 have hne := eq_procs b;clear h
 go_enter Tryz.func38, Tryz.ntmps38
 go_wp2_with fail
 refine hT.mono ?_;rintro e w1 ⟨a, cap, rfl, hI, hB⟩;have HE : Hid (IRow w1 a (lstF S (fun p => !p.zom)) ∧ Below w.heap.size w w1) := ⟨hI, hB⟩;clear hT hI hB;obtain ⟨L, hL⟩ : ∃ L, L = lstF S (fun p => !p.zom) := ⟨_, rfl⟩;rw [← hL] at HE ⊢;have HL := hid hL;clear hL;go_wp2;go_ret;rw [← HL.out];exact ⟨a, cap, rfl, HE.out⟩
end Pc
namespace Ow
end Ow
namespace Pc
open Ow
theorem setCell_eq {w : World} {g i : Nat} {cs : Array Value} {t : TypeId} {v : Value} (h : w.heap[g]? = some (.cells cs t)) : (w.setCell ⟨g, i, none⟩ v).heap[g]? = some (.cells (cs.setIfInBounds i v) t) := by
 rw [setCell_eq_setRow w g i _ _ _ _ h, setRow_heap w g _ _ _ _ h]
theorem pf_dom {S T : St} {c : Int → Nat} (h : ∀ k, (T k).isSome = (S k).isSome) : pf T c = pf S c := by
 funext k
 have := h k;unfold pf
 cases e : S k <;> cases e2 : T k <;> rw [e, e2] at this <;> first | rfl | cases this
theorem PrIs.set {w : World} {B b : Nat} {mo : Option Nat} {c : Int → Nat} {S : St} (h : PrIs w B b mo c S) {k : Int} {p p' : Pr} (hk : S k = some p) {i : Nat} {v : Value} (hr : (prow p).setIfInBounds i v = prow p') :
  PrIs (w.setCell ⟨c k, i, none⟩ v) B b mo c (stPut S k p') ∧ Tch B w (w.setCell ⟨c k, i, none⟩ v) := by
 have hu : Upd (c k) w (w.setCell ⟨c k, i, none⟩ v) := Upd.setCell _ _ _ _
 have hs : ∀ j, (stPut S k p' j).isSome = (S j).isSome := by
  intro j
  by_cases e : j = k
  ·subst e; rw [stPut_same, hk]; rfl
  ·rw [stPut_other _ e]
 refine ⟨⟨(hu.block b h.lt (fun e => h.cb hk e.symm)).trans h.head, ?_, fun j q hj => ?_, fun i j hi hj => h.inj i j (by rw [← hs i]; exact hi) (by rw [← hs j]; exact hj), ?_, h.bB, h.mB, fun j q hj => ?_⟩, Tch.of_upd hu (h.cB k p hk) (h.pbc hk)⟩
 ·rw [pf_dom hs]
  rcases h.map with ⟨rfl, hf⟩ | ⟨m, rfl, hm⟩
  ·exact Or.inl ⟨rfl, hf⟩
  ·exact Or.inr ⟨m, rfl, hm.of_block (hu.block m hm.lt (fun e => h.cm hk m rfl e.symm))⟩
 ·by_cases e : j = k
  ·subst e
   rw [stPut_same] at hj
   cases hj
   rw [setCell_eq (h.pr j p hk), hr]
  ·rw [stPut_other _ e] at hj
   rw [hu.block _ (h.clt hj) (fun e2 => e (h.inj j k (by rw [hj]; rfl) (by rw [hk]; rfl) e2))];exact h.pr j q hj
 ·exact h.dom.put p' (h.dom k p hk).1 (h.dom k p hk).2
 ·by_cases e : j = k
  ·subst e; exact h.cB j p hk
  ·rw [stPut_other _ e] at hj; exact h.cB j q hj
end Pc
end Go.Proofs.YtinaeifpoljfoaaGreatDoor
