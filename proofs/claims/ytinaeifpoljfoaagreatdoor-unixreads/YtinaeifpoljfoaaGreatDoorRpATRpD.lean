import Derived.Test.YtinaeifpoljfoaaGreatDoorPpFTPpJ
import Derived.Test.YtinaeifpoljfoaaGreatDoorKinds
set_option linter.all false
set_option maxRecDepth 100000
set_option maxHeartbeats 16000000
namespace Go.Proofs.YtinaeifpoljfoaaGreatDoor
open Go.RowKit Go.Lib
namespace Ow
end Ow
namespace Pp
open Ow
structure RpR (row : Array Value) (S : PS) : Prop where
 size : row.size = 32
 made : ∀ i, i < 16 → row[i]? = some (.bool (S i).isSome)
 txt : ∀ i, i < 16 → row[16 + i]? = some (tx ((S i).getD []))
theorem RpR.put {row : Array Value} {S : PS} (h : RpR row S) {i : Nat} {l' : List UInt8} (hi : i < 16) (hm : (S i).isSome = true) : RpR (row.setIfInBounds (16 + i) (tx l')) (S.set i (some l')) := by
 have hs := h.size;refine ⟨by rw [Array.size_setIfInBounds]; exact hs, fun j hj => ?_, fun j hj => ?_⟩
 ·rw [Array.getElem?_setIfInBounds, if_neg (by omega), h.made j hj]
  by_cases e : j = i
  ·subst e; rw [PS.set_same, hm]; rfl
  ·rw [PS.set_other _ _ _ _ e]
 ·rw [Array.getElem?_setIfInBounds]
  by_cases e : i = j
  ·subst e; rw [if_pos rfl, if_pos (by omega), PS.set_same]; rfl
  ·rw [if_neg (by omega), PS.set_other _ _ _ _ (fun q => e q.symm)]; exact h.txt j hj
theorem RpR.both {row : Array Value} {S : PS} (h : RpR row S) {i : Nat} {o : Option (List UInt8)} (hi : i < 16) : RpR ((row.setIfInBounds i (.bool o.isSome)).setIfInBounds (16 + i) (tx (o.getD []))) (S.set i o) := by
 have hs := h.size;refine ⟨by rw [Array.size_setIfInBounds, Array.size_setIfInBounds]; exact hs, fun j hj => ?_, fun j hj => ?_⟩
 ·rw [Array.getElem?_setIfInBounds, if_neg (by omega), Array.getElem?_setIfInBounds]
  by_cases e : i = j
  ·subst e; rw [if_pos rfl, if_pos (by omega), PS.set_same]
  ·rw [if_neg e, PS.set_other _ _ _ _ (fun q => e q.symm)]; exact h.made j hj
 ·rw [Array.getElem?_setIfInBounds]
  by_cases e : i = j
  ·subst e; rw [if_pos rfl, if_pos (by rw [Array.size_setIfInBounds]; omega), PS.set_same]
  ·rw [if_neg (by omega), Array.getElem?_setIfInBounds, if_neg (by omega), PS.set_other _ _ _ _ (fun q => e q.symm)]; exact h.txt j hj
def RB (w : World) (b : Nat) (row : Array Value) : Prop := w.heap[b]? = some (.cells row 136)
section
variable {w w' : World} {b : Nat} {row : Array Value}
theorem RB.lt (h : RB w b row) : b < w.heap.size := lt_of_heap h
theorem RB.keep (h : RB w b row) (hb : w'.heap[b]? = w.heap[b]?) : RB w' b row := hb.trans h
theorem RB.drew (h : RB w b row) : RB w.drew b row := h
theorem RB.cell (h : RB w b row) (i : Nat) : w.cell? ⟨b, i, none⟩ = row[i]? := cell_of_heap h
theorem RB.free (h : RB w b row) (i : Nat) : w.frozen? ⟨b, i, none⟩ = false := frozen_of_heap h
theorem RB.set (h : RB w b row) (i : Nat) (v : Value) : RB (w.setCell ⟨b, i, none⟩ v) b (row.setIfInBounds i v) := by
 unfold RB at *;rw [setCell_eq_setRow w b i _ _ _ _ h, setRow_heap w b _ _ _ _ h]
end
def RpAt (w : World) (b : Nat) (S : PS) : Prop := ∃ row, RB w b row ∧ RpR row S
section
variable {w w' : World} {b : Nat} {S : PS}
theorem RpAt.lt (h : RpAt w b S) : b < w.heap.size := by
 obtain ⟨row, hr, _⟩ := h;exact hr.lt
theorem RpAt.keep (h : RpAt w b S) (hb : w'.heap[b]? = w.heap[b]?) : RpAt w' b S := by
 obtain ⟨row, hr, h1⟩ := h;exact ⟨row, hr.keep hb, h1⟩
theorem RpAt.ne {c : Nat} {T : PS} (h : RpAt w b S) (hc : PpAt w c T) : b ≠ c := by
 obtain ⟨row, hr, _⟩ := h;obtain ⟨row2, hp, _⟩ := hc;intro e;unfold RB at hr;unfold PB at hp;rw [e, hp] at hr;simp only [Option.some.injEq, Obj.cells.injEq] at hr;exact absurd hr.2.1 (by decide)
end
end Pp
namespace Ow
end Ow
namespace Pp
open Ow
theorem UW.rb {B : Nat} {w w' : World} (h : UW B w w') {b : Nat} {row : Array Value} (hb : RB w b row) : RB w' b row := hb.keep (h.oth b _ _ _ hb (by decide))
theorem xencode_at (b : Nat) (S : PS) (w : World) (h : RpAt w b S) (hF : Fit8 S) :
  Calls Tryz.prog 50 #[.pointer (some ⟨b, 0, none⟩)] w fun x w' => ∃ v, x = .returned v ∧ w'.ownsRow w.heap.size 45 1 v (encS S).length (uvs (encS S)) ∧ Below w.heap.size w w' := by
 have HF := hid hF;obtain ⟨row, hP, hR⟩ := h;have HP := hid hP;have HR := hid hR;clear hP hR hF
 go_enter Tryz.func50, Tryz.ntmps50
 go_wp2
 go_loopw [3, 4] (fun s i wr => ∃ (k : Nat) (ak : Option Addr) (nk ck : Nat), k ≤ 16 ∧ i = .int .i64 k ∧ .slice ak nk ck = s ∧ nk = (encK S k).length ∧ wr.ownsRow w.heap.size 45 1 (.slice ak nk ck) (encK S k).length (uvs (encK S k)) ∧ UW w.heap.size w wr) (fun _ i _ => 16 - (intOf i).toNat)
 case atStart => exact ⟨0, none, 0, 0, by omega, rfl, rfl, rfl, World.ownsRow_nil w _ _ 1, UW.refl _ _⟩
 case round =>
  obtain ⟨k, ak, nk, ck, hk, rfl, rfl, hnk, hown, hU⟩ := hrel;have HU := hid hU
  by_cases hlt : k < 16
  ·have i1 : decide ((k : Int) < 16) = true := decide_eq_true (by omega)
   have hki : (k : Int) < 16 := by omega
   have hel := encK_len HF.out k (by omega);have hPr := HU.out.rb HP.out;have c0 := (hPr.cell k).trans (HR.out.made k hlt);have c1 := (hPr.cell (16 + k)).trans (HR.out.txt k hlt)
   cases hs : S k with
   | none =>
    rw [hs] at c0;dsimp only [Option.isSome] at c0
    have HE : Hid (encK S (k + 1) = encK S k ++ [0]) := by show _ = _; simp only [encK]; rw [hs]; rfl
    obtain ⟨a2, c2, w2, hrun, hown2, hU2⟩ := app1 hown hnk.symm hU.bel.size (by omega) 0;rw [← HE.out] at hown2;have HRun : Hid _ := hrun;have HO2 := hid hown2;have HU2 : Hid (UW w.heap.size w w2) := hU.trans hU2
    have HN : Hid (nk + 1 = (encK S (k + 1)).length) := by show _ = _; rw [HE.out, List.length_append, ← hnk]; rfl
    clear hrun hown2 hU2 hs hown hU hnk hel HE hPr c1
    go_wp2_with (at_builtin; refine wpList_append_eq rfl _ _ _ rfl _ _ _ rfl rfl HRun.out ?_)
    go_roundw
    case rel => exact ⟨k + 1, a2, nk + 1, c2, by omega, by go_num, rfl, HN.out, HO2.out, HU2.out⟩
    case measure => simp [intOf]; omega
   | some l =>
    rw [hs] at c0 c1;dsimp only [Option.isSome, Option.getD] at c0 c1;have hl8 := HF.out k l hlt hs;have HSk := hid hs
    have HE : Hid (encK S (k + 1) = (encK S k ++ [1, (l.length : Int)]) ++ nums l) := by show _ = _; simp only [encK]; rw [hs]; simp [encO]
    obtain ⟨a2, c2, w2, hrun, hown2, hU2⟩ := app2 hown hnk.symm hU.bel.size (by omega) 1 (l.length : Int)
    have hn2 : (encK S k ++ [1, (l.length : Int)]).length = nk + 2 := by rw [List.length_append, ← hnk]; rfl
    have HRun : Hid _ := hrun
    have HO2 : Hid (w2.ownsRow w.heap.size 45 1 (.slice a2 (nk + 2) c2) ((encK S k ++ [1, (l.length : Int)]) ++ nums (l.take 0)).length (uvs ((encK S k ++ [1, (l.length : Int)]) ++ nums (l.take 0)))) := by
     have : nums (l.take 0) = [] := rfl;rw [this, List.append_nil];exact hown2
    have HU2 : Hid (UW w.heap.size w w2) := hU.trans hU2;have HN2 := hid hn2
    have hszl : (ByteArray.mk l.toArray).size = l.length := by simp [ByteArray.size]
    have hwl : IntKind.u64.wrap (l.length : Int) = (l.length : Int) := by simp [IntKind.wrap, IntKind.bits, IntKind.signed]; omega
    have hnk9 : nk ≤ 160 := by omega
    generalize hV : encK S k ++ [1, (l.length : Int)] = V at *;clear hrun hown2 hU2 hs hown hU hnk hn2 hel hPr hV
    go_wp2_with (at_builtin; refine wpList_append_eq rfl _ _ _ rfl _ _ _ rfl rfl HRun.out ?_)
    clear HRun c0 c1;generalize hwx : wr = wq at *;clear hwx
    go_loopw [3, 5] (fun s i wr => ∃ (j : Nat) (aj : Option Addr) (nj cj : Nat), j ≤ l.length ∧ i = .int .i64 j ∧ .slice aj nj cj = s ∧ nj = nk + 2 + j ∧ wr.ownsRow w.heap.size 45 1 (.slice aj nj cj) (V ++ nums (l.take j)).length (uvs (V ++ nums (l.take j))) ∧ UW w.heap.size w wr) (fun _ i _ => l.length - (intOf i).toNat)
    case atStart => exact ⟨0, a2, nk + 2, c2, by omega, rfl, rfl, rfl, HO2.out, HU2.out⟩
    case round =>
     clear HO2 HU2;obtain ⟨j, aj, nj, cj, hj, rfl, rfl, hnj, hown, hU⟩ := hrel;have HU := hid hU;have HNj := hid hnj;have hPr := hU.rb HP.out;have c1 := (hPr.cell (16 + k)).trans (HR.out.txt k hlt);rw [HSk.out] at c1;dsimp only [Option.getD] at c1
     by_cases hlj : j < l.length
     ·have j1 : decide ((j : Int) < (l.length : Int)) = true := decide_eq_true (by omega)
      have hix := tx_index l j hlj;have hb := byt_le l j
      have hwb : IntKind.u64.wrap (byt l j) = byt l j := by
       obtain ⟨h1, h2⟩ := hb;simp [IntKind.wrap, IntKind.bits, IntKind.signed];omega
      have hlen : (V ++ nums (l.take j)).length = nj := by
       rw [List.length_append, HN2.out, nums_len, List.length_take, hnj];omega
      obtain ⟨a3, c3, w3, hrun, hown3, hU3⟩ := app1 hown hlen hU.bel.size (by omega) (byt l j)
      have hT : (V ++ nums (l.take j)) ++ [byt l j] = V ++ nums (l.take (j + 1)) := by rw [nums_take hlj, List.append_assoc]
      rw [hT] at hown3;have HRun : Hid _ := hrun;have HO3 := hid hown3;have HU3 : Hid (UW w.heap.size w w3) := hU.trans hU3;generalize byt l j = z at *;clear hrun hown3 hU3 hT hlen hown hU hb hnj hPr
      go_wp2_with (at_builtin; refine wpList_append_eq rfl _ _ _ rfl _ _ _ rfl rfl HRun.out ?_)
      go_roundw
      case rel => exact ⟨j + 1, a3, nj + 1, c3, by omega, by go_num, rfl, by have := HNj.out; omega, HO3.out, HU3.out⟩
      case measure => simp [intOf]; omega
     ·have hjl : j = l.length := by omega
      have j1 : decide ((j : Int) < (l.length : Int)) = false := decide_eq_false (by omega)
      have hTk : l.take j = l := by rw [hjl, List.take_length]
      rw [hTk, ← HE.out] at hown;have HO := hid hown
      have HN : Hid (nj = (encK S (k + 1)).length) := by show _ = _; rw [HE.out, List.length_append, HN2.out, nums_len, hnj, hjl]
      clear hown hU hnj hTk hPr hjl;go_wp2;go_roundw
      case rel => exact ⟨k + 1, aj, nj, cj, by omega, by go_num, rfl, HN.out, HO.out, HU.out⟩
      case measure => simp [intOf]; omega
  ·have i1 : decide ((k : Int) < 16) = false := decide_eq_false (by omega)
   have hk16 : k = 16 := by omega
   rw [hk16] at hown;have HO := hid hown;clear hown hU hnk hk16;go_wp2;go_ret;exact ⟨_, rfl, HO.out, HU.out.bel⟩
theorem words_any (D E : List Int) (a b : Option Addr) (ca cb : Nat) (w : World) (ha : Rd w a D) (hb : Rd w b E) (hl : D.length ≤ 1000000) (hl2 : E.length ≤ 1000000) :
  Calls Tryz.prog 7 #[.slice a D.length ca, .slice b E.length cb] w fun e w' => e = .returned (.bool (decide (D = E))) ∧ Below w.heap.size w w' := by
 by_cases hle : D.length = E.length
 ·have HLE := hid hle
  rw [← hle];have HA : Hid _ := ha;have HB : Hid _ := hb;clear ha hb hle hl2
  go_enter Tryz.func7, Tryz.ntmps7
  go_wp2
  go_loopw [5] (fun s wr => ∃ (k : Nat), k ≤ D.length ∧ s = .int .i64 k ∧ D.take k = E.take k ∧ Below w.heap.size w wr) (fun s _ => D.length - (intOf s).toNat)
  case atStart => exact ⟨0, by omega, rfl, rfl, Below.refl _ _⟩
  case round =>
   obtain ⟨k, hk, rfl, htk, hbw⟩ := hrel;have HT := hid htk;clear htk
   by_cases hlt : k < D.length
   ·obtain ⟨x, hx⟩ : ∃ x, D[k]? = some x := ⟨D[k], List.getElem?_eq_getElem hlt⟩
    obtain ⟨y, hy⟩ : ∃ y, E[k]? = some y := ⟨E[k]'(by rw [← HLE.out]; exact hlt), List.getElem?_eq_getElem _⟩;obtain ⟨ga, oa, rfl, a0⟩ := (Rd.below HA.out hbw) k x hx;obtain ⟨gb, ob, rfl, b0⟩ := (Rd.below HB.out hbw) k y hy;have HX := hid hx;have HY := hid hy;clear hx hy
    by_cases hxy : x = y
    ·have HT2 : Hid (D.take (k + 1) = E.take (k + 1)) := by
      show _ = _
      rw [List.take_add_one, List.take_add_one, HT.out, HX.out, HY.out, hxy]
     subst hxy
     go_wp2_with fail
     go_region
     all_goals
      go_wp2;go_roundw
      case rel => exact ⟨k + 1, by omega, by go_num, HT2.out, hbw.drew⟩
      case measure => simp [intOf]; omega
    ·have HN : Hid (decide (D = E) = false) := by
      refine decide_eq_false (fun e => ?_);have h1 := HX.out;rw [e, HY.out] at h1;exact hxy (Option.some.inj h1).symm
     have g0 : (x == y) = false := beq_false_of_ne hxy;clear hxy
     go_wp2_with fail
     go_region
     all_goals
      go_wp2;go_ret;exact ⟨by rw [HN.out]; rfl, hbw.drew⟩
   ·have hkd : k = D.length := by omega
    have HN : Hid (decide (D = E) = true) := by
     refine decide_eq_true ?_;have h1 := HT.out;rw [hkd, List.take_length, HLE.out, List.take_length] at h1;exact h1
    have g0 : decide ((k : Int) < (D.length : Int)) = false := decide_eq_false (by omega);clear hkd;go_wp2;go_ret;exact ⟨by rw [HN.out]; rfl, hbw⟩
 ·have HN : Hid (decide (D = E) = false) := decide_eq_false (fun e => hle (by rw [e]))
  have g0 : ((D.length : Int) == (E.length : Int)) = false := beq_false_of_ne (by omega);clear ha hb hle
  go_enter Tryz.func7, Tryz.ntmps7
  go_wp2;go_ret;exact ⟨by rw [HN.out]; rfl, Below.refl _ _⟩
end Pp
namespace Ow
end Ow
namespace Pp
open Ow
def rrow : Array Value := (List.replicate 16 (Value.bool false) ++ List.replicate 16 (tx [])).toArray
theorem rrow_R : RpR rrow PS.none := by
 refine ⟨by simp [rrow], fun i hi => ?_, fun i hi => ?_⟩
 ·unfold rrow
  rw [List.getElem?_toArray, List.getElem?_append_left (by simpa using hi), List.getElem?_replicate, if_pos hi]
  rfl
 ·unfold rrow
  rw [List.getElem?_toArray, List.getElem?_append_right (by simp), List.length_replicate, List.getElem?_replicate, if_pos (by omega)]
  rfl
theorem rrow_zero : (Tryz.prog.info? 136).map (·.zero) = some (some (.agg rrow)) := by kernel_rfl
theorem zero_ref (W : World) : (zeroValue 136).run Tryz.prog W = .ok (.agg rrow) W := by
 obtain ⟨i, hi, hz⟩ := Option.map_eq_some_iff.1 rrow_zero;simp [zeroValue, typeInfo, hi, hz]
def bvs (l : List UInt8) : List Value := (nums l).map (Value.int .u8)
theorem bvs_app (l m : List UInt8) : bvs (l ++ m) = bvs l ++ bvs m := by simp [bvs, nums]
theorem bvs_one (l : List UInt8) : ∀ u ∈ bvs l, u.oneCell' = true := by
 intro u hu;simp only [bvs, List.mem_map] at hu;obtain ⟨x, _, rfl⟩ := hu
 rfl
structure UY (B : Nat) (w w' : World) : Prop where
 bel : Below B w w'
 oth : ∀ (k : Nat) (cs : Array Value) (t : TypeId) (fz : Nat × Nat), w.heap[k]? = some (.cells cs t fz) → t ≠ 5 → w'.heap[k]? = w.heap[k]?
theorem UY.refl (B : Nat) (w : World) : UY B w w := ⟨Below.refl _ _, fun _ _ _ _ _ _ => rfl⟩
theorem UY.trans {B : Nat} {a b c : World} (h : UY B a b) (k : UY B b c) : UY B a c :=
 ⟨h.bel.trans k.bel, fun i cs t fz hi ht => by
   have h1 := h.oth i cs t fz hi ht
   exact (k.oth i cs t fz (h1.trans hi) ht).trans h1⟩
theorem UY.rb {B : Nat} {w w' : World} (h : UY B w w') {b : Nat} {row : Array Value} (hb : RB w b row) : RB w' b row := hb.keep (h.oth b _ _ _ hb (by decide))
theorem appB {w : World} {B n c : Nat} {a : Option Addr} {l : List UInt8} (ho : w.ownsRow B 5 1 (.slice a n c) l.length (bvs l)) (hn : l.length = n) (hB : B ≤ w.heap.size) (hl : n ≤ 2000) (y : UInt8) (x0 : Int) (hx : x0 = (y.toNat : Int)) :
  ∃ a' c' w', (∀ ty, (Builtin.append_ #[137, 137] ty #[.slice a n c, .slice (some ⟨w.heap.size, 0, none⟩) 1 1]).run Tryz.prog (w.alloc (.cells #[.int .u8 x0] 5)) = .ok (.slice a' (n + 1) c') w') ∧ w'.ownsRow B 5 1 (.slice a' (n + 1) c') (l ++ [y]).length (bvs (l ++ [y])) ∧ UY B w w' := by
 obtain ⟨i0, hi0, hzz⟩ := Option.map_eq_some_iff.1 byteInfo;simp only [Prod.mk.injEq] at hzz;obtain ⟨hz0, hz1, hz2⟩ := hzz;subst hx;have hbe : Below w.heap.size w (w.alloc (.cells #[.int .u8 (y.toNat : Int)] 5)) := below_alloc _ _;have hnew : (w.alloc (.cells #[.int .u8 (y.toNat : Int)] 5)).heap[w.heap.size]? = some (.cells #[.int .u8 (y.toNat : Int)] 5) := heap_alloc_new _ _;have ho1 := ownsRow_below ho hbe
 obtain ⟨g', cap', w', hr', hown, hgrow, _, _⟩ := run_append_lies (P := Tryz.prog) _ 137 0 B 5 i0 _ 1 1 Tryz.underlying137 hi0 hz0 hz1 hz2 rfl (by omega) _ l.length (bvs l) ho1
  ⟨w.heap.size, 0, none⟩ 1 1 (bvs [y]) rfl (fun j x hx => by
    rw [add0, Nat.zero_add, cell_of_heap hnew, ← hx]
    simp [bvs, nums]) (bvs_one _) (by omega) (by unfold maxLen; omega) (by omega) (Nat.le_trans hB hbe.size) _ rfl
 rw [hn] at hr' hown;refine ⟨some ⟨g', 0, none⟩, cap', w', fun ty => hr', ?_, ⟨(hbe.mono hB).trans (below_grown hgrow (Nat.le_trans hB hbe.size) (ownsRow_low ho1)), fun i cs t fz hi ht => ?_⟩⟩
 ·rw [List.length_append, bvs_app, hn]
  exact hown
 ·have h1 := hbe.block i (lt_of_heap hi)
  refine (hgrow.block i (lt_of_heap (h1.trans hi)) (fun e => ?_)).trans h1;obtain ⟨c2, k2⟩ := own_type ho1 e.symm;rw [h1, hi] at k2;simp only [Option.some.injEq, Obj.cells.injEq] at k2;exact ht k2.2.1
theorem own_string {w : World} {B n c : Nat} {a : Option Addr} {l : List UInt8} (ho : w.ownsRow B 5 1 (.slice a n c) l.length (bvs l)) (hn : n = l.length) (W : World) (hW : W.heap = w.heap) : (convert 137 9 (.slice a n c)).run Tryz.prog W = .ok (tx l) W := by
 subst hn
 rcases ho.2 with ⟨e, e2⟩ | ⟨g, cap, cur, e, _, hh, _, _, _, ht⟩
 ·have : l = [] := List.eq_nil_of_length_eq_zero e2
  subst this;simp only [Value.slice.injEq] at e;obtain ⟨rfl, -, rfl⟩ := e;exact run_convert_bytes_string W _ _ 5 none 0 0 Tryz.underlying137 Tryz.underlying5 Tryz.underlying9
 ·simp only [Value.slice.injEq] at e
  obtain ⟨rfl, -, rfl⟩ := e;refine run_convert_bytes_back W _ _ 5 ⟨g, 0, none⟩ _ l Tryz.underlying137 Tryz.underlying5 Tryz.underlying9 (fun j hj => ?_)
  have hh2 : W.heap[g]? = some (.cells cur 5 (0, 0)) := by rw [hW]; exact hh
  rw [add0, Nat.zero_add, cell_of_heap hh2]
  have hq : (bvs l)[j]? = some (.int .u8 ((l[j]).toNat : Int)) := by simp [bvs, nums, hj]
  rw [← ht, Nat.mul_one, List.getElem?_take_of_lt hj] at hq
  simpa using hq
theorem drop_cons {D : List Int} {k : Nat} {x : Int} (h : D[k]? = some x) : D.drop k = x :: D.drop (k + 1) := by
 obtain ⟨hl, he⟩ := List.getElem?_eq_some_iff.1 h;rw [List.drop_eq_getElem_cons hl, he]
theorem unB_snoc {ws : List Int} {j : Nat} {x : Int} (h : ws[j]? = some x) : unB (ws.take (j + 1)) = unB (ws.take j) ++ [UInt8.ofNat (x % 256).toNat] := by
 rw [List.take_add_one, h];simp [unB]
theorem wrap_u8 {x : Int} (h : 0 ≤ x) : IntKind.u8.wrap x = ((UInt8.ofNat (x % 256).toNat).toNat : Int) := by
 simp [IntKind.wrap, IntKind.bits, IntKind.signed];omega
def Step (D : List Int) (S : PS) (k at' : Nat) : Prop := decS D = rdK S (16 - k) (D.drop at') k ∨ decS D = none
theorem Step.skip {D : List Int} {S : PS} {k at' : Nat} (h : Step D S k at') (hk : k < 16) (hx : D[at']? = some 0) (hs : S k = none) : Step D S (k + 1) (at' + 1) := by
 rcases h with h | h
 ·left
  have h1 : rd1 (D.drop at') = some (1, none) := by rw [drop_cons hx, rd1, if_neg (by omega), if_pos rfl]
  rw [h, show 16 - k = (16 - (k + 1)) + 1 by omega, rdK_some h1, ps_set_none hs, List.drop_drop]
 ·exact Or.inr h
theorem Step.bad {D : List Int} {S : PS} {k at' : Nat} (h : Step D S k at') (hk : k < 16) (h1 : rd1 (D.drop at') = none) : decS D = none := by
 rcases h with h | h
 ·rw [h, show 16 - k = (16 - (k + 1)) + 1 by omega, rdK_none h1]
 ·exact h
theorem bad_end {D : List Int} {at' : Nat} (h : D.length ≤ at') : rd1 (D.drop at') = none := by
 rw [List.drop_eq_nil_of_le h]
 rfl
theorem bad_one {D : List Int} {at' : Nat} {x : Int} (hx : D[at']? = some x) (h0 : x ≠ 0) (h : rdB (D.drop (at' + 1)) = none) : rd1 (D.drop at') = none := by
 rw [drop_cons hx, rd1]
 by_cases h1 : 1 < x
 ·rw [if_pos h1]
 ·rw [if_neg h1, if_neg h0, h]
  rfl
theorem Step.got {D : List Int} {S : PS} {k at' m : Nat} {x : Int} (h : Step D S k at') (hk : k < 16) (hx : D[at']? = some x) (h0 : x ≠ 0) (hc : D[at' + 1]? = some (m : Int)) (hm : m ≤ 8) (hl : at' + 2 + m ≤ D.length) : Step D (S.set k (some (unB ((D.drop (at' + 2)).take m)))) (k + 1) (at' + (2 + m)) := by
 rcases h with h | h
 ·have hB : rdB (D.drop (at' + 1)) = if okB ((D.drop (at' + 2)).take m) then some (unB ((D.drop (at' + 2)).take m)) else none := by
   rw [drop_cons hc, rdB, if_neg (by rw [List.length_drop]; omega), Int.toNat_natCast]
  by_cases hb : okB ((D.drop (at' + 2)).take m) = true
  ·rw [if_pos hb] at hB
   by_cases h1 : 1 < x
   ·exact Or.inr (Step.bad (Or.inl h) hk (by rw [drop_cons hx, rd1, if_pos h1]))
   ·left
    have hlen : (unB ((D.drop (at' + 2)).take m)).length = m := by rw [unB_len, List.length_take, List.length_drop]; omega
    have h2 : rd1 (D.drop at') = some (2 + m, some (unB ((D.drop (at' + 2)).take m))) := by
     rw [drop_cons hx, rd1, if_neg h1, if_neg h0, hB]
     show some (2 + (unB ((D.drop (at' + 2)).take m)).length, _) = _
     rw [hlen]
    rw [h, show 16 - k = (16 - (k + 1)) + 1 by omega, rdK_some h2, List.drop_drop]
  ·rw [if_neg hb] at hB
   exact Or.inr (Step.bad (Or.inl h) hk (bad_one hx h0 hB))
 ·exact Or.inr h
def deE (D : List Int) : Int := if (decS D).isSome then 0 else 101
theorem deE_no {D : List Int} (h : decS D = none) : deE D = 101 := by unfold deE; rw [h]; rfl
theorem deE_end {D : List Int} {S : PS} {at' k : Nat} (h : Step D S k at') (hk : k = 16) (hp : ∀ x ∈ D, 0 ≤ x) (hF : Fit8 S) (h0 : ∀ j, k ≤ j → S j = none) : deE D = if decide (encS S = D) then 0 else 101 := by
 subst hk
 by_cases e : encS S = D
 ·have : decS D = some S := by rw [← e]; exact dec_enc hF h0
  unfold deE;rw [this, decide_eq_true e]
  rfl
 ·rw [decide_eq_false e]
  refine deE_no ?_
  rcases h with h | h
  ·cases hd : decS D with
   | none => rfl
   | some T =>
    exfalso
    rw [hd] at h
    have h2 : T = S := by
     by_cases q : D.drop at' = []
     ·rw [show 16 - 16 = 0 from rfl, rdK, if_pos q] at h
      exact (Option.some.inj h)
     ·rw [show 16 - 16 = 0 from rfl, rdK, if_neg q] at h
      cases h
    subst h2;exact e (dec_back hp hd).1
  ·exact h
end Pp
namespace Ow
end Ow
namespace Pp
open Ow
theorem xdecode_at (a : Option Addr) (n cap : Nat) (D : List Int) (w : World) (hr : Rd w a D) (hn : n = D.length) (hu : U64 D) (hn9 : n ≤ 3000) :
  Calls Tryz.prog 20 #[.slice a n cap] w fun x w' => (∃ p, x = .returned (.tuple #[.pointer p, .int .i64 (deE D)])) ∧ Below w.heap.size w w' := by
 have hz := zero_ref;have HRr := hid rrow_R;generalize rrow = R at *;have HRd := hid hr;have HU := hid hu;have HN := hid hn;clear hr hu hn
 go_enter Tryz.func20, Tryz.ntmps20
 go_wp2;have HA : Hid (RpAt (w.alloc (.cells R 136)) w.heap.size PS.none) := ⟨R, heap_alloc_new _ _, HRr.out⟩;have HB1 : Hid (Below w.heap.size w (w.alloc (.cells R 136))) := below_alloc _ _;generalize w.alloc (.cells R 136) = W0 at *;obtain ⟨b, hb⟩ : ∃ b, b = w.heap.size := ⟨_, rfl⟩;rw [← hb] at HA ⊢;have HBb := hid hb;clear hb hz
 go_loopw [5, 6] (fun s i wr => ∃ (k at' : Nat) (S : PS), k ≤ 16 ∧ at' ≤ n ∧ i = .int .i64 k ∧ s = .int .i64 at' ∧ Step D S k at' ∧ Fit8 S ∧ (∀ j, k ≤ j → S j = none) ∧ RpAt wr b S ∧ Below w.heap.size w wr) (fun _ i _ => 16 - (intOf i).toNat)
 case atStart => exact ⟨0, 0, PS.none, by omega, by omega, rfl, rfl, Or.inl rfl, fits_none, fun _ _ => rfl, HA.out, HB1.out⟩
 case round =>
  clear HA HB1;obtain ⟨k, p, S, hk, hp, rfl, rfl, hSt, hF, hno, hA, hB⟩ := hrel;have HSt := hid hSt;have HF := hid hF;have HNo := hid hno;have HA := hid hA;have HB := hid hB
  by_cases hlt : k < 16
  ·have i1 : decide ((k : Int) < 16) = true := decide_eq_true (by omega)
   have hki : (k : Int) < 16 := by omega
   by_cases hpn : p < n
   ·have i2 : decide ((n : Int) ≤ (p : Int)) = false := decide_eq_false (by omega)
    have i2n : decide (n ≤ p) = false := decide_eq_false (by omega)
    have hpi : (p : Int) < (n : Int) := by omega
    obtain ⟨x, hx⟩ : ∃ x, D[p]? = some x := ⟨D[p]'(by rw [← HN.out]; exact hpn), List.getElem?_eq_getElem _⟩;obtain ⟨g, off, rfl, d0⟩ := HRd.out p x hx;have c0 := (hB.cell (cell_lt d0)).trans d0
    have hs1 : IntKind.i64.wrap ((p : Int) + 1) = (p : Int) + 1 := by simp [IntKind.wrap, IntKind.bits, IntKind.signed]; omega
    by_cases h0 : x = 0
    ·rw [h0] at c0
     have HS2 : Hid (Step D S (k + 1) (p + 1)) := hSt.skip hlt (by rw [hx, h0]) (hno k (Nat.le_refl _));clear hSt hF hno hA hB hx h0 d0;go_wp2;go_roundw
     case rel => exact ⟨k + 1, p + 1, S, by omega, by omega, by go_num, by go_num, HS2.out, HF.out, fun j hj => HNo.out j (by omega), HA.out, HB.out⟩
     case measure => simp [intOf]; omega
    ·have g0 : (x == 0) = false := beq_false_of_ne h0
     by_cases hp1 : p + 1 < n
     ·have i3 : decide ((n : Int) ≤ (p : Int) + 1) = false := decide_eq_false (by omega)
      have hpi1 : (p : Int) + 1 < (n : Int) := by omega
      obtain ⟨c, hc⟩ : ∃ c, D[p + 1]? = some c := ⟨D[p + 1]'(by rw [← HN.out]; exact hp1), List.getElem?_eq_getElem _⟩;obtain ⟨_, _, e1, d1⟩ := HRd.out (p + 1) c hc;simp only [Option.some.injEq, Addr.mk.injEq, and_true] at e1;obtain ⟨rfl, rfl⟩ := e1;have c1 := (hB.cell (cell_lt d1)).trans d1;have hcu := u64_get HU.out hc;obtain ⟨hc0, hc1⟩ := hcu
      by_cases h8 : 8 < c
      ·have i4 : decide (8 < c) = true := decide_eq_true h8
       have HE : Hid (deE D = 101) := deE_no (hSt.bad hlt (bad_one hx h0 (by rw [drop_cons hc, rdB, if_pos (Or.inl h8)])));clear hSt hF hno hA hB hx hc d0 d1;go_wp2
       go_ret2
       exact ⟨⟨none, by rw [HE.out]; rfl⟩, HB.out⟩
      ·have i4 : decide (8 < c) = false := decide_eq_false h8
       obtain ⟨m, rfl⟩ : ∃ m : Nat, c = (m : Int) := ⟨c.toNat, by omega⟩
       have hw3 : IntKind.i64.wrap (m : Int) = (m : Int) := by simp [IntKind.wrap, IntKind.bits, IntKind.signed]; omega
       obtain ⟨r, hre⟩ : ∃ r : Int, r = (n : Int) - (p : Int) := ⟨_, rfl⟩;obtain ⟨q, hqe⟩ : ∃ q : Int, q = r - 2 := ⟨_, rfl⟩
       have hs2 : IntKind.i64.wrap ((n : Int) - (p : Int)) = r := by rw [hre]; simp [IntKind.wrap, IntKind.bits, IntKind.signed]; omega
       have hs3 : IntKind.i64.wrap (r - 2) = q := by rw [hqe, hre]; simp [IntKind.wrap, IntKind.bits, IntKind.signed]; omega
       by_cases hl : q < (m : Int)
       ·have i5 : decide (q < (m : Int)) = true := decide_eq_true hl
        have HE : Hid (deE D = 101) := deE_no (hSt.bad hlt (bad_one hx h0 (by rw [drop_cons hc, rdB, if_pos (Or.inr (by rw [List.length_drop, ← HN.out]; omega))])));clear hSt hF hno hA hB hx hc d0 d1 hre hqe hl hc0 hc1 h8 h0;go_wp2
        go_ret2
        exact ⟨⟨none, by rw [HE.out]; rfl⟩, HB.out⟩
       ·have i5 : decide (q < (m : Int)) = false := decide_eq_false hl
        have hmn : p + 2 + m ≤ n := by omega
        have HSt2 : Hid (Step D (S.set k (some (unB ((D.drop (p + 2)).take m)))) (k + 1) (p + (2 + m))) := hSt.got hlt hx h0 hc (by omega) (by rw [← HN.out]; exact hmn)
        have hm8 : m ≤ 8 := by omega
        obtain ⟨row, hRB, hRR⟩ := hA;have c2 := (hRB.cell k).trans (hRR.made k hlt);have f2 := hRB.free k;rw [hno k (Nat.le_refl _)] at c2;dsimp only [Option.isSome] at c2
        have hgb : g ≠ b := by have h1 := cell_lt d0; have h2 := HBb.out; dsimp only at h1; omega
        have c0'' : (wr.setCell ⟨b, k, none⟩ (.bool true)).cell? ⟨g, off + (p + 1), none⟩ = some (.int .u64 (m : Int)) := by
         rw [← c1];exact cell_same (w := wr) (w' := wr.setCell ⟨b, k, none⟩ (.bool true)) c1 (Below.heap_setCell _ _ _ _ hgb) |>.trans c1.symm
        have HRB2 : Hid (RB (wr.setCell ⟨b, k, none⟩ (.bool true)) b (row.setIfInBounds k (.bool true))) := hRB.set k _;have HRR := hid hRR;have HB2 : Hid (Below w.heap.size w (wr.setCell ⟨b, k, none⟩ (.bool true))) := HB.out.trans ((Upd.setCell b k _ _).below (by have := HBb.out; omega) HB.out.size);clear hSt hF hno hB hx hc d0 d1 hRB hRR HA HB HSt hre hqe hl hc0 hc1 h8 h0;go_wp2
        have HC3 : Hid ((row.setIfInBounds k (.bool true))[16 + k]? = some (tx [])) := by
         show _ = _
         rw [Array.getElem?_setIfInBounds, if_neg (by omega), HRR.out.txt k hlt, HNo.out k (Nat.le_refl _)]
         rfl
        generalize wr.setCell ⟨b, k, none⟩ (.bool true) = W1 at *;clear c0 c1 c2 f2 c0'' i4 i5 hs2 hs3
        go_loopw [8, 9] (fun s i wr => ∃ (j : Nat) (aj : Option Addr) (cj : Nat), j ≤ m ∧ i = .int .i64 j ∧ .slice aj j cj = s ∧ wr.ownsRow w.heap.size 5 1 (.slice aj j cj) (unB ((D.drop (p + 2)).take j)).length (bvs (unB ((D.drop (p + 2)).take j))) ∧ UY w.heap.size W1 wr) (fun _ i _ => m - (intOf i).toNat)
        case atStart => exact ⟨0, none, 0, by omega, rfl, rfl, World.ownsRow_nil _ _ _ 1, UY.refl _ _⟩
        case round =>
         obtain ⟨j, aj, cj, hj, rfl, rfl, hown, hY⟩ := hrel;have HY := hid hY;have HB3 : Hid (Below w.heap.size w wr) := HB2.out.trans hY.bel
         have hlj : (unB ((D.drop (p + 2)).take j)).length = j := by rw [unB_len, List.length_take, List.length_drop, ← HN.out]; omega
         by_cases hjm : j < m
         ·have j1 : decide ((j : Int) < (m : Int)) = true := decide_eq_true (by omega)
          obtain ⟨y, hy⟩ : ∃ y, D[p + 2 + j]? = some y := ⟨D[p + 2 + j]'(by rw [← HN.out]; omega), List.getElem?_eq_getElem _⟩;obtain ⟨_, _, e1, d0⟩ := HRd.out (p + 2 + j) y hy;simp only [Option.some.injEq, Addr.mk.injEq, and_true] at e1;obtain ⟨rfl, rfl⟩ := e1;have c0 := (HB3.out.cell (cell_lt d0)).trans d0;have hyu := u64_get HU.out hy;have hwy := wrap_u8 hyu.1;obtain ⟨yb, hyb⟩ : ∃ yb, yb = UInt8.ofNat (y % 256).toNat := ⟨_, rfl⟩;rw [← hyb] at hwy;have hsn := unB_snoc (ws := D.drop (p + 2)) (j := j) (x := y) (by rw [List.getElem?_drop]; exact hy);rw [← hyb] at hsn;obtain ⟨a3, c3, w3, hrun, hown3, hY3⟩ := appB hown hlj HB3.out.size (by omega) yb (yb.toNat : Int) rfl;rw [← hsn] at hown3;have HRun : Hid _ := hrun;have HO3 := hid hown3;have HY3 : Hid (UY w.heap.size W1 w3) := hY.trans hY3
          have hs4 : IntKind.i64.wrap ((p : Int) + 2) = (p : Int) + 2 := by simp [IntKind.wrap, IntKind.bits, IntKind.signed]; omega
          have hs5 : IntKind.i64.wrap ((p : Int) + 2 + (j : Int)) = (p : Int) + 2 + (j : Int) := by simp [IntKind.wrap, IntKind.bits, IntKind.signed]; omega
          have hin : (p : Int) + 2 + (j : Int) < (n : Int) := by omega
          have hin2 : p + 2 + j < n := by omega
          generalize (yb.toNat : Int) = z at *;clear hrun hown3 hY3 hsn hyb hyu hy d0 hown hY hlj HB3
          go_wp2_with (at_builtin; refine wpList_append_eq rfl _ _ _ rfl _ _ _ rfl rfl HRun.out ?_)
          go_roundw
          case rel => exact ⟨j + 1, a3, c3, by omega, by go_num, rfl, HO3.out, HY3.out⟩
          case measure => simp [intOf]; omega
         ·obtain rfl : j = m := by omega
          have j1 : decide ((j : Int) < (j : Int)) = false := decide_eq_false (by omega);have hRB3 := hY.rb HRB2.out;have c3 := (hRB3.cell (16 + k)).trans HC3.out;have f3 := hRB3.free (16 + k);have c3' : wr.drew.cell? ⟨b, 16 + k, none⟩ = some (tx []) := c3;have f3' : wr.drew.frozen? ⟨b, 16 + k, none⟩ = false := f3;have hst := own_string hown hlj.symm wr rfl;have hst2 := own_string hown hlj.symm wr.drew rfl;have HRR2 : Hid (RpR ((row.setIfInBounds k (.bool true)).setIfInBounds (16 + k) (tx (unB ((D.drop (p + 2)).take j)))) (S.set k (some (unB ((D.drop (p + 2)).take j))))) := HRR.out.both (o := some _) hlt;have HRB3 := hid hRB3;have HF2 : Hid (Fit8 (S.set k (some (unB ((D.drop (p + 2)).take j))))) := fits_set HF.out (fun l e => by cases e; rw [hlj]; exact hm8)
          have hs6 : IntKind.i64.wrap (2 + (j : Int)) = 2 + (j : Int) := by simp [IntKind.wrap, IntKind.bits, IntKind.signed]; omega
          have hs7 : IntKind.i64.wrap ((p : Int) + (2 + (j : Int))) = (p : Int) + (2 + (j : Int)) := by simp [IntKind.wrap, IntKind.bits, IntKind.signed]; omega
          generalize unB ((D.drop (p + 2)).take j) = T at *;clear hown hY hlj hRB3
          go_wp2_with fail
          go_region
          all_goals
           go_wp2;go_roundw
           case rel => exact ⟨k + 1, p + (2 + j), S.set k (some T), by omega, by omega, by go_num, by first | go_num | (simp), HSt2.out, HF2.out, fun i hi => (by rw [PS.set_other _ _ _ _ (by omega)]; exact HNo.out i (by omega)), ⟨_, RB.set (RB.drew HRB3.out) _ _, HRR2.out⟩, HB3.out.drew.trans ((Upd.setCell b _ _ _).below (by have := HBb.out; omega) (by have := HB3.out.size; simpa using this))⟩
           case measure => simp [intOf]; omega
     ·have i3 : decide ((n : Int) ≤ (p : Int) + 1) = true := decide_eq_true (by omega)
      have HE : Hid (deE D = 101) := deE_no (hSt.bad hlt (bad_one hx h0 (by rw [List.drop_eq_nil_of_le (by rw [← HN.out]; omega)]; rfl)));clear hSt hF hno hA hB hx d0;go_wp2
      go_ret2
      exact ⟨⟨none, by rw [HE.out]; rfl⟩, HB.out⟩
   ·have i2 : decide ((n : Int) ≤ (p : Int)) = true := decide_eq_true (by omega)
    have HE : Hid (deE D = 101) := deE_no (hSt.bad hlt (bad_end (by rw [← HN.out]; omega)));clear hSt hF hno hA hB;go_wp2
    go_ret2
    exact ⟨⟨none, by rw [HE.out]; rfl⟩, HB.out⟩
  ·have i1 : decide ((k : Int) < 16) = false := decide_eq_false (by omega)
   have hEn := xencode_at b S wr hA hF;have HE : Hid (deE D = if decide (encS S = D) then 0 else 101) := deE_end hSt (by omega) (fun x hx => (HU.out x hx).1) hF hno;have hel := encS_len hF;clear hSt hF hno hA hB
   go_wp2_with fail
   refine hEn.mono ?_;rintro x w2 ⟨v, rfl, hown, hb2⟩;obtain ⟨av, cv, rfl, _, hrd⟩ := own_rd hown;have hb2' := HB.out.trans (hb2.mono HB.out.size);have hWo := words_any (encS S) D av a cv cap w2 hrd (HRd.out.below hb2') (by omega) (by rw [← HN.out]; omega);rw [← HN.out] at hWo;have HB2 := hid hb2';generalize hel2 : (encS S).length = el at *;clear hEn hown hrd hb2 hb2' hel2
   go_wp2_with fail
   refine hWo.mono ?_;rintro x w3 ⟨rfl, hb3⟩;have HB3 : Hid (Below w.heap.size w w3) := HB2.out.trans (hb3.mono HB2.out.size)
   cases hd : decide (encS S = D) with
   | true =>
    rw [hd] at HE;clear hWo hb3 hd;go_wp2
    go_ret2
    exact ⟨⟨_, by rw [HE.out]; rfl⟩, HB3.out⟩
   | false =>
    rw [hd] at HE;clear hWo hb3 hd;go_wp2
    go_ret2
    exact ⟨⟨_, by rw [HE.out]; rfl⟩, HB3.out⟩
end Pp
end Go.Proofs.YtinaeifpoljfoaaGreatDoor
