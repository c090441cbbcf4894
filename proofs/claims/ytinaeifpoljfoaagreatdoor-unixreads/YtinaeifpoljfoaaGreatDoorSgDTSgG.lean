import Derived.Test.YtinaeifpoljfoaaGreatDoorSgMTSgC
import Derived.Maps.AppendAt
import Derived.Laws.ResultCell
import Derived.Deep.CutBlock
set_option linter.all false
set_option maxRecDepth 100000
set_option maxHeartbeats 16000000
namespace Go.Proofs.YtinaeifpoljfoaaGreatDoor
open Go.RowKit
namespace Ow
end Ow
namespace Sg
open Ow
def srow : Array Value := ((List.replicate 8 (frow tailS 0).toList).flatten).toArray
theorem srow_size : srow.size = 152 := by kernel_rfl
theorem srow_zero : (Tryz.prog.info? 124).map (·.zero) = some (some (.agg srow)) := by kernel_rfl
theorem zero_sig (W : World) : (zeroValue 124).run Tryz.prog W = .ok (.agg srow) W := by
 obtain ⟨i, hi, hz⟩ := Option.map_eq_some_iff.1 srow_zero;simp [zeroValue, typeInfo, hi, hz]
structure FirstK (w : World) (row : Array Value) (k : Nat) : Prop where
 size : row.size = 152
 at' : ∀ i, i < k → SgR w row (i * 19) Sg.first
theorem FirstK.next {w w' : World} {row : Array Value} {k : Nat} (h : FirstK w row k) (hk : k < 8) (hw : KeepW w w') : FirstK w' (putA row (k * 19) (frow tailS 15).toList) (k + 1) := by
 have hs := h.size;have hl : (frow tailS 15).toList.length = 19 := rfl;have hsm := putA_same (k * 19) row hl;refine ⟨hsm.1.trans hs, fun i hi => ?_⟩
 by_cases e : i = k
 ·subst e
  refine first_R (by rw [hsm.1]; omega) (fun j hj => ?_);rw [putA_in _ _ _ j (by omega) (by omega), Array.getElem?_toList]
 ·exact (h.at' i (by omega)).keep hsm.1 (fun q h1 h2 => hsm.2 q (by omega)) hw
theorem new_at (w : World) :
  Calls Tryz.prog 62 #[] w fun x w' => x = .returned (.pointer (some ⟨w.heap.size, 0, none⟩)) ∧ SgAt w' w.heap.size SS.first ∧ Below w.heap.size w w' := by
 have HR := hid srow_size;have hz := zero_sig;generalize srow = R at *;obtain ⟨b, hb⟩ : ∃ b, b = w.heap.size := ⟨_, rfl⟩;have HBb := hid hb
 go_enter Tryz.func62, Tryz.ntmps62
 go_wp2
 have HN : Hid (SB (w.alloc (.cells R 124)) b R) := by rw [hb]; exact heap_alloc_new _ _
 have HB : Hid (Below w.heap.size w (w.alloc (.cells R 124))) := below_alloc _ _;rw [← hb];generalize w.alloc (.cells R 124) = W at *;clear hz hb
 go_loopw [5] (fun s wr => ∃ (k : Nat) (row : Array Value), k ≤ 8 ∧ s = .int .i64 k ∧ SB wr b row ∧ FirstK wr row k ∧ Below w.heap.size w wr) (fun s _ => 8 - (intOf s).toNat)
 case atStart => exact ⟨0, R, by omega, rfl, HN.out, ⟨HR.out, fun i hi => by omega⟩, HB.out⟩
 case round =>
  clear HN HB;obtain ⟨k, row, hk, rfl, hS, hF, hB⟩ := hrel;have HS := hid hS;have HF := hid hF;have HB := hid hB
  by_cases hlt : k < 8
  ·have i1 : decide ((k : Int) < 8) = true := decide_eq_true (by omega)
   have hki : (k : Int) < 8 := by omega
   have hAF := atFirst_at wr.drew;have HFs : Hid ((frow tailS 15).size = 19) := rfl;have HFo : Hid ((frow tailS 15).all (·.oneCell') = true) := frow_one (fun v hv => by simp [tailS] at hv; rcases hv with rfl | rfl | rfl | rfl <;> rfl)
   have HNx : Hid (∀ w', KeepW wr w' → FirstK w' (putA row (k * 19) (frow tailS 15).toList) (k + 1)) := fun w' hw => hF.next hlt hw
   generalize frow tailS 15 = F at *;clear hS hF hB
   go_wp2_with fail
   refine wp_region_held_drew (S := fun w' => True) (by kernel_rfl) trivial (fun hHeld => ?_);refine tkz [0, 1, 3, 4] ?_
   iterate 4
    refine tkq (v := ?_) rfl (Or.inl ⟨by kernel_rfl, ?_⟩) ?_
    rotate_left
    ·(intro w hSw; (try dsimp only at hSw); go_simp) <;> with_reducible rfl
    (try simp only [Act.put, lq])
   refine tkw ?_
   refine rdy 2 rfl fun K hK => ?_
   go_simp;refine hAF.mono ?_;rintro e w1 ⟨rfl, hb1⟩;have HS1 : Hid (SB w1 b row) := (SB.drew HS.out).below hb1;have HK1 : Hid (KeepW wr w1) := (KeepW.below (Below.refl wr.heap.size wr).drew).trans (KeepW.below hb1);have HB1 : Hid (Below w.heap.size w w1) := HB.out.drew.trans (hb1.mono (by have := HB.out.size; simpa using this));clear hb1 hAF;refine hK.out _ _ trivial (fun hHeld => ?_);clear hK K
   (try simp only [Act.put, lq])
   refine tkz [5] ?_
   iterate 1
    refine tkq (v := ?_) rfl (Or.inl ⟨by kernel_rfl, ?_⟩) ?_
    rotate_left
    ·(intro w hSw; (try dsimp only at hSw); go_simp) <;> with_reducible rfl
    (try simp only [Act.put, lq])
   refine tkw ?_
   refine rdy 6 rfl fun K hK => ?_
   refine wp_store_mid 121 _ _ rfl b (k * 19) F rfl rfl (HS1.out.there _ _ (by have := HF.out.size; rw [HFs.out]; omega)) (by rw [HFs.out]; exact procSize) HFo.out ?_;have HS2 : Hid (SB (w1.setCells b (k * 19) F.toList) b (putA row (k * 19) F.toList)) := SB.sets _ _ _ _ HS1.out;have HU2 : Hid (Upd b w1 (w1.setCells b (k * 19) F.toList)) := upd_sets _ _ _ _;generalize w1.setCells b (k * 19) F.toList = w2 at *;have HF2 : Hid (FirstK w2 (putA row (k * 19) F.toList) (k + 1)) := HNx.out _ (HK1.out.trans (HS1.out.kw HU2.out));have HB2 : Hid (Below w.heap.size w w2) := HB1.out.trans (HU2.out.below (by have := HBb.out; omega) HB1.out.size);refine hK.out _ _ trivial (fun hHeld => ?_);clear hK K;simp only [Act.put, List.getElem_toArray, List.getElem_cons_zero, List.getElem_cons_succ];refine wpAnyH_done (by kernel_rfl) ?_ _;clear hHeld;go_wp2;go_roundw
   case rel => exact ⟨k + 1, _, by omega, by go_num, HS2.out, HF2.out, HB2.out⟩
   case measure => simp [intOf]; omega
  ·obtain rfl : k = 8 := by omega
   have i1 : decide (((8 : Nat) : Int) < 8) = false := rfl;clear hS hF hB;go_wp2;go_ret;exact ⟨by rw [HBb.out]; rfl, ⟨row, by rw [← HBb.out]; exact HS.out, HF.out.size, HF.out.at'⟩, HB.out⟩
theorem SgR.handler {w w' : World} {row : Array Value} {o m : Nat} {p : Sg} (h : SgR w row o p) (x : Int) (hm : m < 15) (hl : p.h.length = 15) (hw : KeepW w w') : SgR w' (row.setIfInBounds (o + m) (.int .u64 x)) o ⟨p.h.set m x, p.q, p.k⟩ := by
 have hs := h.size;obtain ⟨a, c, h1, h2, h3⟩ := h.stk;refine ⟨by simpa using hs, fun j hj => ?_, ?_, ?_, ?_, ⟨a, c, ?_, h2, h3.kept hw⟩⟩
 ·rw [Array.getElem?_setIfInBounds]
  show _ = some (Value.int .u64 ((p.h.set m x).getD j 0))
  by_cases e : m = j
  ·subst e
   rw [if_pos rfl, if_pos (by omega), List.getD_eq_getElem?_getD, List.getElem?_set_self (by omega)]
   rfl
  ·rw [if_neg (by omega), h.hnd j hj, List.getD_eq_getElem?_getD, List.getD_eq_getElem?_getD, List.getElem?_set_ne e]
 ·rw [Array.getElem?_setIfInBounds, if_neg (by omega)]; exact h.pen
 ·rw [Array.getElem?_setIfInBounds, if_neg (by omega)]; exact h.inh
 ·rw [Array.getElem?_setIfInBounds, if_neg (by omega)]; exact h.pc
 ·rw [Array.getElem?_setIfInBounds, if_neg (by omega)]; exact h1
end Sg
namespace Ow
end Ow
namespace Sg
open Ow
theorem nil_none (n c : Nat) (w : World) : (binOp BinOp.eql 22 (.slice none n c) (.slice none 0 0)).run Tryz.prog w = .ok (.bool true) w := by kernel_rfl
theorem nil_some (ad : Addr) (n c : Nat) (w : World) : (binOp BinOp.eql 22 (.slice (some ad) n c) (.slice none 0 0)).run Tryz.prog w = .ok (.bool false) w := by kernel_rfl
theorem clone_at (a : Option Addr) (n c : Nat) (xs : List Int) (w : World) (h : Rd w a xs) (hn : n = xs.length) (hl : n ≤ 1000000) :
  Calls Tryz.prog 226 #[.slice a n c] w fun e w' => ∃ u, e = .returned u ∧ w'.ownsRow w.heap.size 45 1 u xs.length (uvs xs) ∧ Below w.heap.size w w' := by
 cases a with
 | none =>
  have heq := nil_none n c
  have HX : Hid (xs = []) := by
   show xs = []
   cases xs with
   | nil => rfl
   | cons x r => obtain ⟨g, off, e, _⟩ := h 0 x rfl; cases e
  clear h hn
  go_enter Tryz.func226, Tryz.ntmps226
  go_wp2;go_ret;exact ⟨_, rfl, by rw [HX.out]; exact World.ownsRow_nil _ _ _ _, Below.refl _ _⟩
 | some ad =>
  obtain ⟨i0, hi0, hzz⟩ := Option.map_eq_some_iff.1 wordInfo;simp only [Prod.mk.injEq] at hzz;obtain ⟨hz0, hz1, hz2⟩ := hzz
  have hown : (w.alloc (.cells #[] 45)).ownsRow w.heap.size 45 1 (.slice (some ⟨w.heap.size, 0, none⟩) 0 0) 0 [] :=
   ⟨rfl, Or.inr ⟨w.heap.size, 0, #[], rfl, Nat.le_refl _, heap_alloc_new _ _, Nat.le_refl _, by unfold maxLen; omega, rfl, rfl⟩⟩
  have heq := nil_some ad n c
  have HX : Hid (∀ (j : Nat) (x : Int), xs[j]? = some x → w.cell? (ad.add j) = some (.int .u64 x)) := fun j x hx => by
   obtain ⟨g, off, e, hc⟩ := h j x hx;obtain rfl := Option.some.inj e
   have : (⟨g, off, none⟩ : Addr).add j = ⟨g, off + j, none⟩ := by simp [Addr.add]
   rw [this];exact hc
  have HL := hid hn;clear h hn
  go_enter Tryz.func226, Tryz.ntmps226
  go_wp2_with (first
    | (at_builtin; refine wpList_append_own_at _ rfl _ _ _ rfl w.heap.size 45 i0 _ 1 8 Tryz.underlying22 hi0 hz0 hz1 hz2 rfl (by omega) _ _ _ rfl hown ad n c (uvs xs) rfl (by rw [uvs_len, ← HL.out]; omega)
        (fun j u hu => by obtain ⟨x, hx, rfl⟩ := uvs_get hu; exact (((Below.refl w.heap.size w).alloc (Nat.le_refl _) _).cell (cell_lt (HX.out j x hx))).trans (HX.out j x hx)) (uvs_one xs) (by unfold maxLen; omega) (by omega) (by simp) ?_; intro u w2 hown2 hgrow hnil hat)
    | go_in)
  go_ret;refine ⟨u, by simp, by rw [← HL.out]; simpa using hown2, (below_alloc _ _).trans (below_grown hgrow (by simp) (ownsRow_low hown))⟩
theorem heap_set {w : World} {b : Nat} {row : Array Value} {t : TypeId} (h : w.heap[b]? = some (.cells row t (0, 0))) (i : Nat) (v : Value) : (w.setCell ⟨b, i, none⟩ v).heap[b]? = some (.cells (row.setIfInBounds i v) t (0, 0)) := by
 rw [setCell_eq_setRow w b i _ _ _ _ h, setRow_heap w b _ _ _ _ h]
theorem kw_set {w : World} {b : Nat} {row : Array Value} {t : TypeId} (h : w.heap[b]? = some (.cells row t (0, 0))) (ht : t ≠ 45) (i : Nat) (v : Value) : KeepW w (w.setCell ⟨b, i, none⟩ v) := KeepW.upd h ht (Upd.setCell _ _ _ _)
theorem vmSize : (Tryz.prog.info? 119).map (·.size) = some 2 := by kernel_rfl
abbrev vmV (pc : Int) (a : Option Addr) (n c : Nat) : Value := .agg #[.int .i64 pc, .slice a n c]
theorem copyOf_at (pc : Int) (a : Option Addr) (n c : Nat) (xs : List Int) (w : World) (h : Rd w a xs) (hn : n = xs.length) (hl : n ≤ 1000000) :
  Calls Tryz.prog 168 #[vmV pc a n c] w fun e w' => ∃ a' c', e = .returned (vmV pc a' n c') ∧ n ≤ c' ∧ TRd w' a' xs ∧ Below w.heap.size w w' := by
 obtain ⟨W, hW⟩ : ∃ W, W = (w.alloc (.cells #[.int .i64 pc, .slice a n c] 119)).alloc (.cells #[.int .i64 0, .slice none 0 0] 119) := ⟨_, rfl⟩
 have hb : Below w.heap.size w W := by rw [hW]; exact below_alloc2 _ _ _
 have hC := clone_at a n c xs W (h.below hb) hn hl;have HB := hid hb;have HN := hid hn
 have hs : W.heap.size = w.heap.size + 1 + 1 := by rw [hW]; simp
 have HS := hid hs
 have H0 : Hid (W.heap[w.heap.size]? = some (.cells #[.int .i64 pc, .slice a n c] 119 (0, 0))) := by
  show _ = _
  rw [hW, Below.heap_alloc _ _ _ (by simp)];exact heap_alloc_new _ _
 have H1 : Hid (W.heap[w.heap.size + 1]? = some (.cells #[.int .i64 0, .slice none 0 0] 119 (0, 0))) := by
  show _ = _
  rw [hW];have := heap_alloc_new (w.alloc (.cells #[.int .i64 pc, .slice a n c] 119)) (.cells #[.int .i64 0, .slice none 0 0] 119)
  simpa using this
 have HW : Hid _ := hW;clear h hb hW hn hs
 go_enter Tryz.func168, Tryz.ntmps168
 go_wp2_with fail
 rw [← HW.out];refine hC.mono ?_;rintro e w1 ⟨u, rfl, hown, hb1⟩;obtain ⟨a', c', rfl, hc', hrd⟩ := own_trd hown;obtain ⟨q, hq⟩ : ∃ q, q = w.heap.size := ⟨_, rfl⟩;have k0 := (hb1.block w.heap.size (by have := HS.out; omega)).trans H0.out;have k1 := (hb1.block (w.heap.size + 1) (by have := HS.out; omega)).trans H1.out
 have hsz : q + 1 < w1.heap.size := by have := HS.out; have := hb1.size; omega
 rw [← hq] at k0 k1 ⊢
 have c0 : w1.cell? ⟨q, 0, none⟩ = some (.int .i64 pc) := by rw [cell_of_heap k0]; rfl
 have c1 : w1.cell? ⟨q, 1, none⟩ = some (.slice a n c) := by rw [cell_of_heap k0]; rfl
 have f1 : w1.frozen? ⟨q, 1, none⟩ = false := frozen_of_heap k0
 have d0 : w1.cell? ⟨q + 1, 0, none⟩ = some (.int .i64 0) := by rw [cell_of_heap k1]; rfl
 have d1 : w1.cell? ⟨q + 1, 1, none⟩ = some (.slice none 0 0) := by rw [cell_of_heap k1]; rfl
 have e0 : w1.frozen? ⟨q + 1, 0, none⟩ = false := frozen_of_heap k1;have e1 : w1.frozen? ⟨q + 1, 1, none⟩ = false := frozen_of_heap k1;have HB1 : Hid (Below w.heap.size w w1) := HB.out.trans (hb1.mono HB.out.size);have HT := hid hrd;have HQ := hid hq;have HCc := hid hc';have HK0 := hid k0;have HK1 := hid k1;rw [← HN.out];clear hown hb1 k0 k1 hrd hq hC hc' HS H0 H1 HW HB;go_wp2;have k0 := heap_set HK0.out 1 (.slice a' n c');have k1 : (w1.setCell ⟨q, 1, none⟩ (.slice a' n c')).heap[q + 1]? = _ := (Below.heap_setCell _ _ _ _ (by show q + 1 ≠ q; omega)).trans HK1.out;have k2 := heap_set k1 0 (.int .i64 pc);have k3 := heap_set k2 1 (.slice a' n c');refine bodyPost_ret (v := vmV pc a' n c') (results_cell_row rfl _ _ (q + 1) 119 _ (0, 0) _ rfl k3 Tryz.underlying119 rfl vmSize) rfl ⟨a', c', rfl, by rw [HN.out]; exact HCc.out, ?_, ?_⟩
 ·exact ((HT.out.kept (kw_set HK0.out (by decide) _ _)).kept (kw_set k1 (by decide) _ _)).kept (kw_set k2 (by decide) _ _)
 ·have hq := HQ.out
  exact ((HB1.out.trans ((Upd.setCell q 1 w1 _).below (by omega) HB1.out.size)).trans ((Upd.setCell (q + 1) 0 _ _).below (by omega) (by have := HB1.out.size; simpa [World.setCell] using this))).trans ((Upd.setCell (q + 1) 1 _ _).below (by omega) (by have := HB1.out.size; simpa [World.setCell] using this))
end Sg
namespace Ow
end Ow
namespace Sg
open Ow
theorem SgR.vm {w w' : World} {row row' : Array Value} {o : Nat} {p : Sg} {k : Option (Int × List Int)} (h : SgR w row o p) (hs : Same o row row') (hk : ∀ j, j < 16 → row'[o + j]? = row[o + j]?)
  (h1 : row'[o + 16]? = some (.bool k.isSome)) (h2 : row'[o + 17]? = some (.int .i64 (k.getD (0, [])).1)) (a : Option Addr) (c : Nat) (h3 : row'[o + 18]? = some (.slice a (k.getD (0, [])).2.length c)) (h4 : (k.getD (0, [])).2.length ≤ c) (h5 : TRd w' a (k.getD (0, [])).2) : SgR w' row' o ⟨p.h, p.q, k⟩ := by
 refine ⟨by rw [hs.1]; exact h.size, fun j hj => ?_, ?_, h1, h2, a, c, h3, h4, h5⟩
 ·rw [hk j (by omega)]; exact h.hnd j hj
 ·rw [hk 15 (by omega)]; exact h.pen
theorem SB.three {w : World} {b o : Nat} {row : Array Value} (h : SB w b row) (x y z : Value) : SB (((w.setCell ⟨b, o + 16, none⟩ x).setCell ⟨b, o + 17, none⟩ y).setCell ⟨b, o + 18, none⟩ z) b (((row.setIfInBounds (o + 16) x).setIfInBounds (o + 17) y).setIfInBounds (o + 18) z) := ((h.set _ _).set _ _).set _ _
theorem upd_three (b o : Nat) (w : World) (x y z : Value) : Upd b w (((w.setCell ⟨b, o + 16, none⟩ x).setCell ⟨b, o + 17, none⟩ y).setCell ⟨b, o + 18, none⟩ z) := ((Upd.setCell _ _ _ _).trans (Upd.setCell _ _ _ _)).trans (Upd.setCell _ _ _ _)
theorem same_three (o : Nat) (row : Array Value) (x y z : Value) : Same o row (((row.setIfInBounds (o + 16) x).setIfInBounds (o + 17) y).setIfInBounds (o + 18) z) := ((Same.set row _ (by omega)).trans (Same.set _ _ (by omega))).trans (Same.set _ _ (by omega))
theorem SgR.three {w w' : World} {row : Array Value} {o : Nat} {p : Sg} {k : Option (Int × List Int)} (h : SgR w row o p) (a : Option Addr) (c : Nat) (h4 : (k.getD (0, [])).2.length ≤ c) (h5 : TRd w' a (k.getD (0, [])).2) :
  SgR w' (((row.setIfInBounds (o + 16) (.bool k.isSome)).setIfInBounds (o + 17) (.int .i64 (k.getD (0, [])).1)).setIfInBounds (o + 18) (.slice a (k.getD (0, [])).2.length c)) o ⟨p.h, p.q, k⟩ := by
 have hs := h.size;refine h.vm (same_three o row _ _ _) (fun j hj => ?_) ?_ ?_ a c ?_ h4 h5
 ·rw [Array.getElem?_setIfInBounds, if_neg (by omega), Array.getElem?_setIfInBounds, if_neg (by omega), Array.getElem?_setIfInBounds, if_neg (by omega)]
 ·rw [Array.getElem?_setIfInBounds, if_neg (by omega), Array.getElem?_setIfInBounds, if_neg (by omega), Array.getElem?_setIfInBounds, if_pos rfl, if_pos (by omega)]
 ·rw [Array.getElem?_setIfInBounds, if_neg (by omega), Array.getElem?_setIfInBounds, if_pos rfl, if_pos (by rw [Array.size_setIfInBounds]; omega)]
 ·rw [Array.getElem?_setIfInBounds, if_pos rfl, if_pos (by rw [Array.size_setIfInBounds, Array.size_setIfInBounds]; omega)]
end Sg
namespace Ow
end Ow
namespace Sg
open Ow
def hvs (p : Sg) : List Value := (List.range 15).map (fun j => Value.int .u64 (p.h.getD j 0))
theorem hvs_len (p : Sg) : (hvs p).length = 15 := by simp [hvs]
theorem hvs_get (p : Sg) (j : Nat) (hj : j < 15) : (hvs p)[j]? = some (.int .u64 (p.h.getD j 0)) := by
 unfold hvs;rw [List.getElem?_map, List.getElem?_range hj]
 rfl
end Sg
end Go.Proofs.YtinaeifpoljfoaaGreatDoor
