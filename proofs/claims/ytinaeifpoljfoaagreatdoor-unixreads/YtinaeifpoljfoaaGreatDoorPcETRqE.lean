import Derived.Test.YtinaeifpoljfoaaGreatDoorPcFTPcI
import Derived.Test.YtinaeifpoljfoaaGreatDoorKinds
import Derived.ChangeOld
import Derived.ChangeSlices
import Derived.Below
import Derived.Laws.StructEq
set_option linter.all false
set_option maxRecDepth 100000
set_option maxHeartbeats 16000000
namespace Go.Proofs.YtinaeifpoljfoaaGreatDoor
open Go.RowKit Go.Lib
namespace Ow
end Ow
namespace Pc
open Ow
theorem eq_nil (W : World) : (binOp .eql 164 (.pointer none) (.pointer none)).run Tryz.prog W = .ok (.bool true) W := by kernel_rfl
theorem appendTo_none (n c : Nat) (a : Option Addr) (D : List Int) (w0 w : World) (ho : w.ownsRow w0.heap.size 45 1 (.slice a n c) D.length (uvs D)) (hn : D.length = n) (h0 : UW w0.heap.size w0 w) (hD : n ≤ 1000) :
  Calls Tryz.prog 60 #[.pointer none, .slice a n c] w fun x w' => ∃ a' n' c', x = .returned (.slice a' n' c') ∧ n' = (D ++ encP none).length ∧ w'.ownsRow w0.heap.size 45 1 (.slice a' n' c') (D ++ encP none).length (uvs (D ++ encP none)) ∧ UW w0.heap.size w0 w' := by
 obtain ⟨a1, c1, w1, hrun1, hown1, hU1⟩ := app3 ho hn h0.bel.size (by omega) 0 0 0;have HRun1 : Hid _ := hrun1;have HE : Hid (n + 3 = (D ++ encP none).length ∧ w1.ownsRow w0.heap.size 45 1 (.slice a1 (n + 3) c1) (D ++ encP none).length (uvs (D ++ encP none)) ∧ UW w0.heap.size w0 w1) := ⟨by rw [List.length_append, hn]; rfl, hown1, h0.trans hU1⟩;have hq := eq_nil;clear ho hn h0 hrun1 hown1 hU1
 go_enter Tryz.func60, Tryz.ntmps60
 go_wp2_with (at_builtin; refine wpList_append_eq rfl _ _ _ rfl _ _ _ rfl rfl HRun1.out ?_)
 go_ret;exact ⟨_, _, _, rfl, HE.out⟩
theorem appendTo_some (n c cc : Nat) (a : Option Addr) (D : List Int) (p : Pr) (w0 w : World) (ho : w.ownsRow w0.heap.size 45 1 (.slice a n c) D.length (uvs D)) (hn : D.length = n) (h0 : UW w0.heap.size w0 w) (hD : n ≤ 1000) (hc : w0.heap[cc]? = some (.cells (prow p) 211)) :
  Calls Tryz.prog 60 #[ptr cc, .slice a n c] w fun x w' => ∃ a' n' c', x = .returned (.slice a' n' c') ∧ n' = (D ++ encP (some p)).length ∧ w'.ownsRow w0.heap.size 45 1 (.slice a' n' c') (D ++ encP (some p)).length (uvs (D ++ encP (some p))) ∧ UW w0.heap.size w0 w' := by
 obtain ⟨zz, hzz⟩ : ∃ zz : Int, (if p.zom = true then 2 else 1) = zz := ⟨_, rfl⟩;have hwd : w.drew.ownsRow w0.heap.size 45 1 (.slice a n c) D.length (uvs D) := ho;have hUd : UW w0.heap.size w0 w.drew := h0.trans (UW.of_below h0.bel.size (Below.refl w.heap.size w).drew);obtain ⟨a1, c1, w1, hrun1, hown1, hU1⟩ := app3 hwd hn hUd.bel.size (by omega) zz (IntKind.u64.wrap p.par) (IntKind.u64.wrap p.st)
 have hcw : ∀ V, Below w0.heap.size w0 V → V.cell? ⟨cc, 0, none⟩ = some (.int .i64 p.par) ∧ V.cell? ⟨cc, 1, none⟩ = some (.bool p.zom) ∧ V.cell? ⟨cc, 2, none⟩ = some (.int .i64 p.st) := fun V hb => by
  have := (hb.block cc (lt_of_heap hc)).trans hc
  refine ⟨?_, ?_, ?_⟩ <;> rw [cell_of_heap this] <;> rfl
 obtain ⟨e0, e1, e2⟩ := hcw w h0.bel;obtain ⟨d0, d1, d2⟩ := hcw w.drew hUd.bel;have hbA : Below w0.heap.size w0 (w.drew.alloc (.cells #[.int .u64 zz, .int .u64 (IntKind.u64.wrap p.par), .int .u64 (IntKind.u64.wrap p.st)] 45)) := hUd.bel.alloc hUd.bel.size _;have hs1 : (w.drew.alloc (.cells #[.int .u64 zz, .int .u64 (IntKind.u64.wrap p.par), .int .u64 (IntKind.u64.wrap p.st)] 45)).cell? ⟨cc, 0, none⟩ = some (.int .i64 p.par) ∧ (w.drew.alloc (.cells #[.int .u64 zz, .int .u64 (IntKind.u64.wrap p.par), .int .u64 (IntKind.u64.wrap p.st)] 45)).cell? ⟨cc, 2, none⟩ = some (.int .i64 p.st) := ⟨(hcw _ hbA).1, (hcw _ hbA).2.2⟩;have hs2 : w1.cell? ⟨cc, 0, none⟩ = some (.int .i64 p.par) ∧ w1.cell? ⟨cc, 2, none⟩ = some (.int .i64 p.st) := ⟨(hcw w1 (hUd.bel.trans hU1.bel)).1, (hcw w1 (hUd.bel.trans hU1.bel)).2.2⟩;have HRun1 : ∀ ty, (Builtin.append_ #[22, 22] ty #[.slice a n c, .slice (some ⟨w.heap.size, 0, none⟩) 3 3]).run Tryz.prog (w.drew.alloc (.cells #[.int .u64 zz, .int .u64 (IntKind.u64.wrap p.par), .int .u64 (IntKind.u64.wrap p.st)] 45)) = .ok (.slice a1 (n + 3) c1) w1 := hrun1
 have HE0 : (n + 3 = (D ++ encP (some p)).length ∧ w1.ownsRow w0.heap.size 45 1 (.slice a1 (n + 3) c1) (D ++ encP (some p)).length (uvs (D ++ encP (some p))) ∧ UW w0.heap.size w0 w1) := by
  have e : encP (some p) = [zz, IntKind.u64.wrap p.par, IntKind.u64.wrap p.st] := by
   show [(if p.zom = true then (2 : Int) else 1), IntKind.u64.wrap p.par, IntKind.u64.wrap p.st] = _
   rw [hzz]
  rw [e];exact ⟨by rw [List.length_append, hn]; rfl, hown1, hUd.trans hU1⟩
 have HE : Hid _ := HE0;clear HE0;have hq := eq_proc cc;clear ho hn h0 hrun1 hown1 hU1 hwd hUd hc hcw hbA;obtain ⟨pa, z, s⟩ := p;dsimp only at *
 go_enter Tryz.func60, Tryz.ntmps60
 cases z with
 | false =>
  obtain rfl : (1 : Int) = zz := hzz
  go_upto_region 6 with fail
  refine wp_region_held_drew (S := fun w' => w'.cell? ⟨cc, 0, none⟩ = some (.int .i64 pa) ∧ w'.cell? ⟨cc, 2, none⟩ = some (.int .i64 s)) (by kernel_rfl) ⟨d0, d2⟩ (fun hHeld => ?_);refine tkz [0, 1, 2, 3, 4, 5, 6, 7, 8, 9, 10, 11] ?_
  iterate 12
   refine tkq (v := ?_) rfl (Or.inl ⟨by kernel_rfl, ?_⟩) ?_
   rotate_left
   ·(intro w hSw; (try dsimp only at hSw); go_simp) <;> with_reducible rfl
   (try simp only [Act.put, lq])
  refine tkw ?_
  refine rdy 12 rfl fun K hK => ?_
  go_simp;refine hK.out _ _ hs1 (fun hHeld => ?_);clear hK K
  (try simp only [Act.put, lq])
  refine rdy 13 rfl fun K hK => ?_
  refine wp_append_eq _ _ _ rfl _ _ _ rfl rfl HRun1 ?_;refine hK.out _ _ hs2 (fun hHeld => ?_);clear hK K
  (try simp only [Act.put, lq])
  refine tkz [14] ?_
  iterate 1
   refine tkq (v := ?_) rfl (Or.inl ⟨by kernel_rfl, ?_⟩) ?_
   rotate_left
   ·(intro w hSw; (try dsimp only at hSw); go_simp) <;> with_reducible rfl
   (try simp only [Act.put, lq])
  refine tkw ?_;refine wpAnyH_done (by kernel_rfl) ?_ _;go_wp2;go_ret;exact ⟨a1, n + 3, c1, rfl, HE.out⟩
 | true =>
  obtain rfl : (2 : Int) = zz := hzz
  go_upto_region 6 with fail
  refine wp_region_held_drew (S := fun w' => w'.cell? ⟨cc, 0, none⟩ = some (.int .i64 pa) ∧ w'.cell? ⟨cc, 2, none⟩ = some (.int .i64 s)) (by kernel_rfl) ⟨d0, d2⟩ (fun hHeld => ?_);refine tkz [0, 1, 2, 3, 4, 5, 6, 7, 8, 9, 10, 11] ?_
  iterate 12
   refine tkq (v := ?_) rfl (Or.inl ⟨by kernel_rfl, ?_⟩) ?_
   rotate_left
   ·(intro w hSw; (try dsimp only at hSw); go_simp) <;> with_reducible rfl
   (try simp only [Act.put, lq])
  refine tkw ?_
  refine rdy 12 rfl fun K hK => ?_
  go_simp;refine hK.out _ _ hs1 (fun hHeld => ?_);clear hK K
  (try simp only [Act.put, lq])
  refine rdy 13 rfl fun K hK => ?_
  refine wp_append_eq _ _ _ rfl _ _ _ rfl rfl HRun1 ?_;refine hK.out _ _ hs2 (fun hHeld => ?_);clear hK K
  (try simp only [Act.put, lq])
  refine tkz [14] ?_
  iterate 1
   refine tkq (v := ?_) rfl (Or.inl ⟨by kernel_rfl, ?_⟩) ?_
   rotate_left
   ·(intro w hSw; (try dsimp only at hSw); go_simp) <;> with_reducible rfl
   (try simp only [Act.put, lq])
  refine tkw ?_;refine wpAnyH_done (by kernel_rfl) ?_ _;go_wp2;go_ret;exact ⟨a1, n + 3, c1, rfl, HE.out⟩
theorem encode_at (B b : Nat) (S : St) (w : World) (h : PrAt w B b S) :
  Calls Tryz.prog 26 #[ptr b] w fun x w' => ∃ v, x = .returned v ∧ w'.ownsRow w.heap.size 45 1 v (encW S).length (uvs (encW S)) ∧ Below w.heap.size w w' := by
 obtain ⟨mo, c, h⟩ := h;have HH := hid h;have hq := eq_procs b;clear h
 go_enter Tryz.func26, Tryz.ntmps26
 go_wp2
 go_loopw [3, 4] (fun s i wr => ∃ (k : Nat) (ak : Option Addr) (nk ck : Nat), k ≤ 8 ∧ i = .int .i64 ((k : Int) + 1) ∧ .slice ak nk ck = s ∧ nk = (encK S k).length ∧ wr.ownsRow w.heap.size 45 1 (.slice ak nk ck) (encK S k).length (uvs (encK S k)) ∧ UW w.heap.size w wr) (fun _ i _ => 9 - (intOf i).toNat)
 case atStart => exact ⟨0, none, 0, 0, by omega, rfl, rfl, rfl, World.ownsRow_nil w _ _ 1, UW.refl _ _⟩
 case round =>
  obtain ⟨k, ak, nk, ck, hk, rfl, rfl, hnk, hown, hU⟩ := hrel;have HU := hid hU;have hPr := HH.out.below hU.bel;have c0 := hPr.cell
  by_cases hlt : k < 8
  ·have i1 : decide ((k : Int) + 1 ≤ 8) = true := decide_eq_true (by omega)
   have hki : (k : Int) + 1 ≤ 8 := by omega
   have hel := encK_len S k;have HE : Hid (encK S k ++ encP (S ((k : Int) + 1)) = encK S (k + 1)) := rfl
   have hAp : ∃ pv, (Instr.lookup 165 (.map mo) (.int .i64 ((k : Int) + 1)) false).run Tryz.prog wr = .ok pv wr ∧ Calls Tryz.prog 60 #[pv, .slice ak nk ck] wr fun x w' => ∃ a' n' c', x = .returned (.slice a' n' c') ∧ n' = (encK S (k + 1)).length ∧ w'.ownsRow w.heap.size 45 1 (.slice a' n' c') (encK S (k + 1)).length (uvs (encK S (k + 1))) ∧ UW w.heap.size w w' := by
    rw [← HE.out]
    cases hS : S ((k : Int) + 1) with
    | none => exact ⟨_, hPr.look_none hS, appendTo_none nk ck ak (encK S k) w wr hown hnk.symm hU (by omega)⟩
    | some p => exact ⟨_, hPr.look_some hS, appendTo_some nk ck _ ak (encK S k) p w wr hown hnk.symm hU (by omega) (HH.out.pr _ p hS)⟩
   obtain ⟨pv, hl, hAp⟩ := hAp;clear hown hU hnk hel HE hPr
   go_wp2_with fail
   refine hAp.mono ?_;rintro x w4 ⟨a4, n4, c4, rfl, hn4, hown4, hU4⟩;have HN4 := hid hn4;have HO4 := hid hown4;have HU4 := hid hU4;clear hn4 hown4 hU4 hAp;go_wp2;go_roundw
   case rel => exact ⟨k + 1, a4, n4, c4, by omega, by go_num, rfl, HN4.out, HO4.out, HU4.out⟩
   case measure => simp [intOf]; omega
  ·have i1 : decide ((k : Int) + 1 ≤ 8) = false := decide_eq_false (by omega)
   have hk8 : k = 8 := by omega
   rw [hk8] at hown;have HO := hid hown;clear hown hU hnk hk8;go_wp2;go_ret;exact ⟨_, rfl, HO.out, HU.out.bel⟩
end Pc
namespace Ow
end Ow
namespace Pc
open Ow
structure Tr where
 is : Int
 par : Int
 st : Int
abbrev TS := Nat → Tr
def TS.cell (T : TS) (j : Nat) : Int := if j % 3 = 0 then (T (j / 3)).is else if j % 3 = 1 then (T (j / 3)).par else (T (j / 3)).st
def rqL (T : TS) : List Int := (List.range 24).map T.cell
def TS.set (T : TS) (i : Nat) (t : Tr) : TS := fun j => if j = i then t else T j
theorem rq_get (T : TS) {j : Nat} (hj : j < 24) : (rqL T)[j]? = some (T.cell j) := by simp [rqL, hj]
theorem cell_0 (T : TS) (i : Nat) : T.cell (i * 3) = (T i).is := by
 unfold TS.cell;rw [if_pos (by omega), show i * 3 / 3 = i by omega]
theorem cell_1 (T : TS) (i : Nat) : T.cell (i * 3 + 1) = (T i).par := by
 unfold TS.cell;rw [if_neg (by omega), if_pos (by omega), show (i * 3 + 1) / 3 = i by omega]
theorem cell_2 (T : TS) (i : Nat) : T.cell (i * 3 + 2) = (T i).st := by
 unfold TS.cell;rw [if_neg (by omega), if_neg (by omega), show (i * 3 + 2) / 3 = i by omega]
theorem rq_set {T U : TS} {j : Nat} {x : Int} (h : ∀ k, k < 24 → U.cell k = if k = j then x else T.cell k) : (rqL T).set j x = rqL U := by
 apply List.ext_getElem?
 intro k;rw [List.getElem?_set]
 by_cases hk : k < 24
 ·rw [rq_get U hk, rq_get T hk, h k hk]
  by_cases e : j = k
  ·rw [if_pos e, if_pos e.symm, if_pos (by simp [rqL]; omega)]
  ·rw [if_neg e, if_neg (fun q => e q.symm)]
 ·have h1 : (rqL T)[k]? = none := List.getElem?_eq_none (by simp [rqL]; omega)
  have h2 : (rqL U)[k]? = none := List.getElem?_eq_none (by simp [rqL]; omega);rw [h1, h2]
  by_cases e : j = k
  ·rw [if_pos e, if_neg (by simp [rqL]; omega)]
  ·rw [if_neg e]
theorem TS.set_same (T : TS) (i : Nat) (t : Tr) : T.set i t i = t := by unfold TS.set; rw [if_pos rfl]
theorem TS.set_other {T : TS} {i j : Nat} (t : Tr) (h : j ≠ i) : T.set i t j = T j := by unfold TS.set; rw [if_neg h]
theorem set_cell (T : TS) (i j : Nat) (t : Tr) (hj : j / 3 ≠ i) : (T.set i t).cell j = T.cell j := by
 unfold TS.cell;rw [TS.set_other t hj]
def RT (w : World) (b : Nat) (T : TS) : Prop := w.heap[b]? = some (.cells (irow (rqL T)) 151)
section
variable {w w' : World} {b : Nat} {T : TS}
theorem RT.lt (h : RT w b T) : b < w.heap.size := lt_of_heap h
theorem RT.keep (h : RT w b T) (hb : w'.heap[b]? = w.heap[b]?) : RT w' b T := hb.trans h
theorem RT.below (h : RT w b T) (hb : Below w.heap.size w w') : RT w' b T := h.keep (hb.block _ h.lt)
theorem RT.drew (h : RT w b T) : RT w.drew b T := h
theorem RT.is (h : RT w b T) {i : Nat} (hi : i < 8) : w.cell? ⟨b, i * 3, none⟩ = some (.int .i64 (T i).is) := by rw [irow_cell h (rq_get T (show i * 3 < 24 by omega)), cell_0]
theorem RT.par (h : RT w b T) {i : Nat} (hi : i < 8) : w.cell? ⟨b, i * 3 + 1, none⟩ = some (.int .i64 (T i).par) := by rw [irow_cell h (rq_get T (show i * 3 + 1 < 24 by omega)), cell_1]
theorem RT.st (h : RT w b T) {i : Nat} (hi : i < 8) : w.cell? ⟨b, i * 3 + 2, none⟩ = some (.int .i64 (T i).st) := by rw [irow_cell h (rq_get T (show i * 3 + 2 < 24 by omega)), cell_2]
theorem RT.free (h : RT w b T) (j : Nat) : w.frozen? ⟨b, j, none⟩ = false := frozen_of_heap h
theorem RT.setj (h : RT w b T) {U : TS} {j : Nat} {x : Int} (hu : ∀ k, k < 24 → U.cell k = if k = j then x else T.cell k) : RT (w.setCell ⟨b, j, none⟩ (.int .i64 x)) b U := by
 unfold RT;rw [setCell_eq h, irow_set, rq_set hu]
theorem RT.set0 (h : RT w b T) {i : Nat} (x : Int) : RT (w.setCell ⟨b, i * 3, none⟩ (.int .i64 x)) b (T.set i ⟨x, (T i).par, (T i).st⟩) := by
 refine h.setj (fun k hk => ?_)
 by_cases e : k = i * 3
 ·rw [e, if_pos rfl, cell_0, TS.set_same]
 ·rw [if_neg e]
  by_cases e2 : k / 3 = i
  ·rcases (by omega : k = i * 3 + 1 ∨ k = i * 3 + 2) with e3 | e3
   ·rw [e3, cell_1, cell_1, TS.set_same]
   ·rw [e3, cell_2, cell_2, TS.set_same]
  ·exact set_cell T i k _ e2
theorem RT.set1 (h : RT w b T) {i : Nat} (x : Int) : RT (w.setCell ⟨b, i * 3 + 1, none⟩ (.int .i64 x)) b (T.set i ⟨(T i).is, x, (T i).st⟩) := by
 refine h.setj (fun k hk => ?_)
 by_cases e : k = i * 3 + 1
 ·rw [e, if_pos rfl, cell_1, TS.set_same]
 ·rw [if_neg e]
  by_cases e2 : k / 3 = i
  ·rcases (by omega : k = i * 3 ∨ k = i * 3 + 2) with e3 | e3
   ·rw [e3, cell_0, cell_0, TS.set_same]
   ·rw [e3, cell_2, cell_2, TS.set_same]
  ·exact set_cell T i k _ e2
theorem RT.set2 (h : RT w b T) {i : Nat} (x : Int) : RT (w.setCell ⟨b, i * 3 + 2, none⟩ (.int .i64 x)) b (T.set i ⟨(T i).is, (T i).par, x⟩) := by
 refine h.setj (fun k hk => ?_)
 by_cases e : k = i * 3 + 2
 ·rw [e, if_pos rfl, cell_2, TS.set_same]
 ·rw [if_neg e]
  by_cases e2 : k / 3 = i
  ·rcases (by omega : k = i * 3 ∨ k = i * 3 + 1) with e3 | e3
   ·rw [e3, cell_0, cell_0, TS.set_same]
   ·rw [e3, cell_1, cell_1, TS.set_same]
  ·exact set_cell T i k _ e2
theorem TS.set_set (T : TS) (i : Nat) (s t : Tr) : (T.set i s).set i t = T.set i t := by
 funext j
 unfold TS.set
 by_cases e : j = i
 ·rw [if_pos e, if_pos e]
 ·rw [if_neg e, if_neg e, if_neg e]
theorem RT.put3 (h : RT w b T) {i : Nat} (x y z : Int) : RT (w.setCells b (i * 3) [.int .i64 x, .int .i64 y, .int .i64 z]) b (T.set i ⟨x, y, z⟩) := by
 have h1 := h.set0 (i := i) x;have h2 := h1.set1 (i := i) y;have h3 := h2.set2 (i := i) z;rw [TS.set_set, TS.set_set, TS.set_same, TS.set_same] at h3;exact h3
theorem RT.there (h : RT w b T) {i : Nat} (hi : i < 8) : w.there b (i * 3) 3 := fun j hj => by
 refine ⟨?_, h.free _⟩;rw [irow_cell h (rq_get T (show i * 3 + j < 24 by omega))]
 rfl
end
theorem upd_sets (b : Nat) : ∀ (vs : List Value) (o : Nat) (w : World), Upd b w (w.setCells b o vs)
 | [], _, w => Upd.refl b w
 | v :: r, o, w => (Upd.setCell b o w v).trans (upd_sets b r (o + 1) _)
theorem trSize : (Tryz.prog.info? 148).map (·.size) = some 3 := by kernel_rfl
def trO : Option Pr → Tr
 | none => ⟨0, 0, 0⟩
 | some p => ⟨if p.zom = true then 2 else 1, p.par, p.st⟩
def trS (S : St) : TS := fun i => trO (S ((i : Int) + 1))
def isP (n : Int) : Bool := decide (1 ≤ n) && decide (n ≤ 8)
theorem isP_yes {n : Int} (h : isP n = true) : 1 ≤ n ∧ n ≤ 8 := by
 unfold isP at h
 simpa using h
theorem isP_no {n : Int} (h : isP n = false) : n < 1 ∨ 8 < n := by
 unfold isP at h;simp at h;omega
theorem rpid_at (n : Int) (w : World) :
  Calls Tryz.prog 106 #[.int .i64 n] w fun e w' => e = .returned (.bool (isP n)) ∧ w' = w := by
 by_cases h0 : 1 ≤ n
 ·have g0 : decide (1 ≤ n) = true := decide_eq_true h0
  have HB : Hid (isP n = decide (n ≤ 8)) := by show _ = _; simp [isP, h0]
  go_enter Tryz.func106, Tryz.ntmps106
  go_wp2
  all_goals
   go_ret;exact ⟨by rw [HB.out]; simp_all, rfl⟩
 ·have g0 : decide (1 ≤ n) = false := decide_eq_false h0
  have HB : Hid (isP n = false) := by show _ = _; simp [isP, h0]
  go_enter Tryz.func106, Tryz.ntmps106
  go_wp2
  all_goals
   go_ret;exact ⟨by rw [HB.out]; rfl, rfl⟩
def livT (T : TS) (k : Int) : Bool := isP k && ((T (k - 1).toNat).is == 1)
theorem livT_S {S : St} (hd : Dom S) (k : Int) : livT (trS S) k = liv S k := by
 unfold livT
 cases hp : isP k with
 | false =>
  have hn : S k = none := hd.none (isP_no hp);unfold liv hits;rw [hn]
  rfl
 | true =>
  obtain ⟨h1, h8⟩ := isP_yes hp;unfold trS;rw [show (((k - 1).toNat : Nat) : Int) + 1 = k by omega];unfold liv hits
  cases e : S k with
  | none => rfl
  | some p => cases hz : p.zom <;> simp [trO, hz]
theorem rlive_at (b : Nat) (T : TS) (k : Int) (w : World) (h : RT w b T) :
  Calls Tryz.prog 53 #[ptr b, .int .i64 k] w fun e w' => e = .returned (.bool (livT T k)) ∧ w' = w := by
 have hp := rpid_at k w
 cases hP : isP k with
 | false =>
  have HR : Hid (livT T k = false) := by show _ = _; unfold livT; rw [hP]; rfl
  rw [hP] at hp;clear h hP
  go_enter Tryz.func53, Tryz.ntmps53
  go_wp2_with fail
  refine hp.mono ?_;rintro e w1 ⟨rfl, hw⟩;rw [hw];clear hw w1 hp;go_wp2;go_ret;exact ⟨by rw [HR.out]; rfl, rfl⟩
 | true =>
  obtain ⟨h1, h8⟩ := isP_yes hP;obtain ⟨i, hi⟩ : ∃ i : Nat, (i : Int) = k - 1 := ⟨(k - 1).toNat, by omega⟩
  have hi8 : i < 8 := by omega
  have c0 := h.is hi8
  have HR : Hid (livT T k = ((T i).is == 1)) := by show _ = _; unfold livT; rw [hP, show (k - 1).toNat = i by omega]; rfl
  have hw1 : IntKind.i64.wrap (k - 1) = (i : Int) := by rw [← hi]; simp [IntKind.wrap, IntKind.bits, IntKind.signed]; omega
  have n0 : (0 : Int) ≤ (i : Int) := by omega
  have n1 : (i : Int) < 8 := by omega
  rw [hP] at hp;clear h hP hi
  go_enter Tryz.func53, Tryz.ntmps53
  go_wp2_with fail
  refine hp.mono ?_;rintro e w1 ⟨rfl, hw⟩;rw [hw];clear hw w1 hp;go_wp2;go_ret;exact ⟨by rw [HR.out]; rfl, rfl⟩
end Pc
namespace Ow
end Ow
namespace Pc
open Ow
def twS (ws : List Int) : TS := fun i => ⟨wd ws (3 * i), wd ws (3 * i + 1), IntKind.i64.wrap (wd ws (3 * i + 2))⟩
def twTo (ws : List Int) (k : Nat) : TS := fun i => if i < k then twS ws i else ⟨0, 0, 0⟩
theorem twTo_0 (ws : List Int) : twTo ws 0 = trS St0 := by
 funext i
 unfold twTo;rw [if_neg (by omega)]
 rfl
theorem twTo_next (ws : List Int) (k : Nat) : (twTo ws k).set k (twS ws k) = twTo ws (k + 1) := by
 funext i
 unfold TS.set twTo
 by_cases e : i = k
 ·rw [if_pos e, if_pos (by omega), e]
 ·rw [if_neg e]
  by_cases h : i < k
  ·rw [if_pos h, if_pos (by omega)]
  ·rw [if_neg h, if_neg (by omega)]
theorem twTo_8 (ws : List Int) {i : Nat} (hi : i < 8) : twTo ws 8 i = twS ws i := by unfold twTo; rw [if_pos hi]
def rd0 (ws : List Int) (i : Nat) : Bool := decide (wd ws (3 * i) ≤ 2) && decide (wd ws (3 * i + 1) ≤ 8)
def rd0K (ws : List Int) : Nat → Bool
 | 0 => true
 | k + 1 => rd0K ws k && rd0 ws k
theorem rd0K_at {ws : List Int} : ∀ {n i : Nat}, rd0K ws n = true → i < n → rd0 ws i = true
 | 0, i, _, hi => by omega
 | n + 1, i, h, hi => by
  unfold rd0K at h;rw [Bool.and_eq_true] at h
  by_cases e : i = n
  ·rw [e]; exact h.2
  ·exact rd0K_at h.1 (by omega)
theorem rd0_of {ws : List Int} {i : Nat} (h : rdAt ws i = true) : rd0 ws i = true := by
 obtain ⟨h1, h2, _, _⟩ := rdB_is h;unfold rd0;rw [decide_eq_true h1, decide_eq_true h2]
 rfl
theorem rd0_no {ws : List Int} {i : Nat} (hi : i < 8) (h : rd0 ws i = false) : okW ws = false := by
 cases e : okW ws with
 | false => rfl
 | true =>
  unfold okW at e;rw [Bool.and_eq_true, Bool.and_eq_true] at e;rw [rd0_of (rdK_at e.2.1 hi)] at h
  cases h
def baI (T : TS) (i : Nat) : Bool := ((T i).par == 0) || ((T ((T i).par - 1).toNat).is != 0)
def okI (T : TS) (i : Nat) : Bool :=
 if (T i).is = 0 then ((T i).is == 0 && ((T i).par == 0 && (T i).st == 0))
 else if (T i).is = 1 then (baI T i && ((T i).st == 0))
 else (baI T i && livT T (T i).par)
def rootR (T : TS) : Nat → Int → Bool
 | 0, _ => false
 | n + 1, k => decide (k = 0) || rootR T n (T (k - 1).toNat).par
def okR (T : TS) (i : Nat) : Bool := okI T i && rootR T 9 ((i : Int) + 1)
def Pars (T : TS) : Prop := ∀ i, i < 8 → 0 ≤ (T i).par ∧ (T i).par ≤ 8
theorem wrap0 {x : Int} (h0 : 0 ≤ x) (h1 : x < 18446744073709551616) : (IntKind.i64.wrap x == 0) = (x == 0) := by
 by_cases e : x = 0
 ·rw [e]; rfl
 ·have : IntKind.i64.wrap x ≠ 0 := by simp [IntKind.wrap, IntKind.bits, IntKind.signed]; omega
  rw [beq_false_of_ne this, beq_false_of_ne e]
theorem tw_pars {ws : List Int} (hw : Words ws) (h : rd0K ws 8 = true) : Pars (twTo ws 8) := by
 intro i hi;rw [twTo_8 ws hi];have := rd0K_at h hi;unfold rd0 at this;rw [Bool.and_eq_true] at this;refine ⟨(wd_word hw _).1, by simpa [twS] using this.2⟩
theorem okI_rd {ws : List Int} (hw : Words ws) {i : Nat} (hi : i < 8) (h0 : rd0 ws i = true) (h : okI (twTo ws 8) i = true) : rdAt ws i = true := by
 unfold rd0 at h0;rw [Bool.and_eq_true, decide_eq_true_eq, decide_eq_true_eq] at h0;have hm := wd_word hw (3 * i);have hs := wd_word hw (3 * i + 2);unfold okI at h;rw [twTo_8 ws hi] at h;unfold rdAt rdB;rw [decide_eq_true h0.1, decide_eq_true h0.2];have e1 : (twS ws i).is = wd ws (3 * i) := rfl;have e2 : (twS ws i).par = wd ws (3 * i + 1) := rfl;have e3 : (twS ws i).st = IntKind.i64.wrap (wd ws (3 * i + 2)) := rfl;rw [e1, e2, e3, wrap0 hs.1 hs.2] at h
 by_cases q0 : wd ws (3 * i) = 0
 ·rw [if_pos q0] at h
  simp only [Bool.and_eq_true, beq_iff_eq] at h;simp [h.2.1, h.2.2]
 ·rw [if_neg q0] at h
  by_cases q1 : wd ws (3 * i) = 1
  ·rw [if_pos q1] at h
   simp only [Bool.and_eq_true, beq_iff_eq] at h;rw [h.2, decide_eq_false q0];simp
  ·have q2 : wd ws (3 * i) = 2 := by omega
   rw [decide_eq_true q2, decide_eq_false q0]
   rfl
theorem tw_S {ws : List Int} (hw : Words ws) (h : rdK ws 8 = true) {i : Nat} (hi : i < 8) : twTo ws 8 i = trS (decS ws) i := by
 rw [twTo_8 ws hi];unfold trS;rw [decS_at ws hi];obtain ⟨h1, h2, h3, h4⟩ := rdB_is (rdK_at h hi);have hm := wd_word hw (3 * i);unfold decP twS
 by_cases q0 : wd ws (3 * i) = 0
 ·have hs : wd ws (3 * i + 2) = 0 := h3.resolve_left (by omega)
  rw [if_pos q0, h4 q0, q0, hs]
  rfl
 ·rw [if_neg q0]
  show _ = (⟨if decide (wd ws (3 * i) = 2) = true then 2 else 1, _, _⟩ : Tr)
  by_cases q2 : wd ws (3 * i) = 2
  ·rw [if_pos (decide_eq_true q2), q2]
  ·rw [if_neg (by simpa using q2), show wd ws (3 * i) = 1 by omega]
theorem root_S {T : TS} {S : St} (hT : ∀ i, i < 8 → T i = trS S i) (hd : Dom S) (hup : ∀ k p, S k = some p → p.par ≠ 0 → (S p.par).isSome = true) : ∀ n k p, S k = some p → rootR T (n + 1) k = rootB S n p
 | 0, k, p, hk => by
  have := hd k p hk;unfold rootR rootR rootB;rw [decide_eq_false (show ¬ k = 0 by omega)]
  rfl
 | n + 1, k, p, hk => by
  have hr := hd k p hk
  have hTk : (T (k - 1).toNat).par = p.par := by
   rw [hT _ (by omega)];unfold trS;rw [show (((k - 1).toNat : Nat) : Int) + 1 = k by omega, hk]
   rfl
  show (decide (k = 0) || rootR T (n + 1) (T (k - 1).toNat).par) = (decide (p.par = 0) || hits S (rootB S n) p.par)
  rw [decide_eq_false (show ¬ k = 0 by omega), hTk, Bool.false_or]
  by_cases e : p.par = 0
  ·rw [decide_eq_true e, e]
   rfl
  ·rw [decide_eq_false e, Bool.false_or]
   obtain ⟨q, hq⟩ := Option.isSome_iff_exists.1 (hup k p hk e);rw [root_S hT hd hup n p.par q hq];unfold hits;rw [hq]
theorem liv_T {T : TS} {S : St} (hT : ∀ i, i < 8 → T i = trS S i) (hd : Dom S) (k : Int) : livT T k = liv S k := by
 rw [← livT_S hd k];unfold livT
 cases hp : isP k with
 | false => rfl
 | true =>
  obtain ⟨h1, h8⟩ := isP_yes hp;rw [hT _ (by omega)]
theorem okI_S {T : TS} {S : St} (hT : ∀ i, i < 8 → T i = trS S i) (hd : Dom S) (hpar : ∀ k p, S k = some p → 0 ≤ p.par ∧ p.par ≤ 8) (hst : ∀ k p, S k = some p → p.zom = false → p.st = 0) {i : Nat} (hi : i < 8) :
  okI T i = !hits S (fun p => !mayB S p) ((i : Int) + 1) := by
 have e0 : T i = trO (S ((i : Int) + 1)) := hT i hi;unfold okI hits;rw [e0]
 cases hS : S ((i : Int) + 1) with
 | none => rfl
 | some p =>
  have hp := hpar _ p hS
  have hba : baI T i = ((p.par == 0) || (S p.par).isSome) := by
   unfold baI;rw [e0, hS]
   show ((p.par == 0) || ((T (p.par - 1).toNat).is != 0)) = _
   by_cases q : p.par = 0
   ·rw [q]; rfl
   ·rw [beq_false_of_ne q, Bool.false_or, Bool.false_or, hT _ (by omega)]
    unfold trS;rw [show (((p.par - 1).toNat : Nat) : Int) + 1 = p.par by omega]
    cases S p.par with
    | none => rfl
    | some x => cases hx : x.zom <;> simp [trO, hx]
  have epar : (trO (some p)).par = p.par := rfl;have est : (trO (some p)).st = p.st := rfl
  show _ = !(!mayB S p)
  rw [Bool.not_not];unfold mayB
  cases hz : p.zom with
  | false =>
   have eis : (trO (some p)).is = 1 := by show (if p.zom = true then (2 : Int) else 1) = 1; rw [hz]; rfl
   rw [eis, est, hst _ p hS hz, hba, if_neg (by omega), if_pos rfl, if_neg (by simp), show ((0 : Int) == 0) = true from rfl, Bool.and_true]
   rfl
  | true =>
   have eis : (trO (some p)).is = 2 := by show (if p.zom = true then (2 : Int) else 1) = 2; rw [hz]; rfl
   rw [eis, epar, hba, if_neg (by omega), if_neg (by omega), if_pos rfl, liv_T hT hd]
   cases hl : liv S p.par with
   | false => rw [Bool.and_false]
   | true =>
    obtain ⟨x, hx, _⟩ := liv_is.1 hl;rw [hx];simp
theorem dec_par {ws : List Int} (hw : Words ws) (h : rdK ws 8 = true) : (∀ k p, decS ws k = some p → 0 ≤ p.par ∧ p.par ≤ 8) ∧ ∀ k p, decS ws k = some p → p.zom = false → p.st = 0 := by
 have key : ∀ k p, decS ws k = some p → (0 ≤ p.par ∧ p.par ≤ 8) ∧ (p.zom = false → p.st = 0) := by
  intro k p hk;have hd := dec_dom ws k p hk;obtain ⟨i, rfl⟩ : ∃ i : Nat, k = (i : Int) + 1 := ⟨(k - 1).toNat, by omega⟩;rw [decS_at ws (by omega)] at hk;obtain ⟨h1, h2, h3, h4⟩ := rdB_is (rdK_at h (show i < 8 by omega));unfold decP at hk
  split at hk
  ·cases hk
  ·cases hk
   refine ⟨⟨(wd_word hw _).1, h2⟩, fun hz => ?_⟩
   have : ¬ wd ws (3 * i) = 2 := by simpa using hz
   rw [show IntKind.i64.wrap (wd ws (3 * i + 2)) = IntKind.i64.wrap 0 by rw [h3.resolve_left this]]
   rfl
 exact ⟨fun k p hk => (key k p hk).1, fun k p hk => (key k p hk).2⟩
theorem ok_rows {ws : List Int} (hw : Words ws) (hl : ws.length = 24) (h0 : rd0K ws 8 = true) : okW ws = true ↔ ∀ i, i < 8 → okR (twTo ws 8) i = true := by
 constructor
 ·intro h i hi
  unfold okW at h;rw [Bool.and_eq_true, Bool.and_eq_true] at h;obtain ⟨_, hk, hf⟩ := h;unfold frB at hf;rw [Bool.and_eq_true] at hf;have hd := dec_dom ws
  have hT : ∀ i, i < 8 → twTo ws 8 i = trS (decS ws) i := fun i hi => tw_S hw hk hi
  obtain ⟨hp, hst⟩ := dec_par hw hk;have hup := may_up hd hf.1;unfold okR;rw [okI_S hT hd hp hst hi];unfold hits
  cases hS : decS ws ((i : Int) + 1) with
  | none =>
   have : (twTo ws 8 i).par = 0 := by rw [hT i hi]; unfold trS; rw [hS]; rfl
   show (true && (decide ((i : Int) + 1 = 0) || (decide ((twTo ws 8 ((i : Int) + 1 - 1).toNat).par = 0) || _))) = true
   rw [show ((i : Int) + 1 - 1).toNat = i by omega, decide_eq_true this];simp
  | some p =>
   rw [root_S hT hd hup 8 _ p hS, (allB_true hd).1 hf.2 _ p hS]
   show (!(!mayB (decS ws) p) && true) = true
   rw [(allB_true hd).1 hf.1 _ p hS]
   rfl
 ·intro h
  have hk : rdK ws 8 = true := by
   have key : ∀ n, n ≤ 8 → rdK ws n = true := by
    intro n
    induction n with
    | zero => intro _; rfl
    | succ n ih =>
     intro hn;have hr := h n (by omega);unfold okR at hr;rw [Bool.and_eq_true] at hr;unfold rdK;rw [ih (by omega), okI_rd hw (by omega) (rd0K_at h0 (by omega)) hr.1]
     rfl
   exact key 8 (Nat.le_refl _)
  have hd := dec_dom ws
  have hT : ∀ i, i < 8 → twTo ws 8 i = trS (decS ws) i := fun i hi => tw_S hw hk hi
  obtain ⟨hp, hst⟩ := dec_par hw hk
  have hmay : allB (decS ws) (mayB (decS ws)) = true := (allB_true hd).2 (fun k p hk2 => by
    have hdk := hd k p hk2;have hr := h (k - 1).toNat (by omega);unfold okR at hr;rw [Bool.and_eq_true, okI_S hT hd hp hst (by omega), show (((k - 1).toNat : Nat) : Int) + 1 = k by omega] at hr;unfold hits at hr;rw [hk2] at hr
    simpa using hr.1)
  have hup := may_up hd hmay;unfold okW frB;rw [decide_eq_true hl, hk, hmay, Bool.true_and, Bool.true_and, Bool.true_and];refine (allB_true hd).2 (fun k p hk2 => ?_);have hdk := hd k p hk2;have hr := h (k - 1).toNat (by omega);unfold okR at hr;rw [Bool.and_eq_true, show (((k - 1).toNat : Nat) : Int) + 1 = k by omega] at hr;rw [← root_S hT hd hup 8 k p hk2];exact hr.2
end Pc
namespace Ow
end Ow
namespace Pc
open Ow
def encT (T : TS) : Nat → List Int
 | 0 => []
 | k + 1 => encT T k ++ [IntKind.u64.wrap (T k).is, IntKind.u64.wrap (T k).par, IntKind.u64.wrap (T k).st]
theorem encT_len (T : TS) : ∀ k, (encT T k).length = 3 * k
 | 0 => rfl
 | k + 1 => by unfold encT; rw [List.length_append, encT_len T k]; simp; omega
theorem encT_S (S : St) : ∀ k, encT (trS S) k = encK S k
 | 0 => rfl
 | k + 1 => by
  unfold encT encK;rw [encT_S S k]
  congr 1
  unfold trS
  cases e : S ((k : Int) + 1) with
  | none => rfl
  | some p => cases hz : p.zom <;> simp [trO, encP, hz] <;> rfl
theorem rencode_at (b : Nat) (T : TS) (w : World) (h : RT w b T) :
  Calls Tryz.prog 55 #[ptr b] w fun x w' => ∃ v, x = .returned v ∧ w'.ownsRow w.heap.size 45 1 v (encT T 8).length (uvs (encT T 8)) ∧ Below w.heap.size w w' := by
 have HH := hid h;clear h
 go_enter Tryz.func55, Tryz.ntmps55
 go_wp2
 go_loopw [3, 4] (fun t s wr => ∃ (i : Nat) (ak : Option Addr) (nk ck : Nat), i ≤ 8 ∧ s = .int .i64 i ∧ .slice ak nk ck = t ∧ nk = (encT T i).length ∧ wr.ownsRow w.heap.size 45 1 (.slice ak nk ck) (encT T i).length (uvs (encT T i)) ∧ UW w.heap.size w wr) (fun _ s _ => 8 - (intOf s).toNat)
 case atStart => exact ⟨0, none, 0, 0, by omega, rfl, rfl, rfl, World.ownsRow_nil w _ _ 1, UW.refl _ _⟩
 case round =>
  obtain ⟨i, ak, nk, ck, hi, rfl, rfl, hnk, hown, hU⟩ := hrel;have HU := hid hU
  by_cases hlt : i < 8
  ·have i1 : decide ((i : Int) < 8) = true := decide_eq_true (by omega)
   have n1 : (i : Int) < 8 := by omega
   have n0 : (0 : Int) ≤ (i : Int) := by omega
   have hel := encT_len T i;have hwd : wr.drew.ownsRow w.heap.size 45 1 (.slice ak nk ck) (encT T i).length (uvs (encT T i)) := hown;have hUd : UW w.heap.size w wr.drew := hU.trans (UW.of_below hU.bel.size (Below.refl wr.heap.size wr).drew);have HE : Hid (encT T (i + 1) = encT T i ++ [IntKind.u64.wrap (T i).is, IntKind.u64.wrap (T i).par, IntKind.u64.wrap (T i).st]) := rfl;obtain ⟨a1, c1, w1, hrun1, hown1, hU1⟩ := app3 hwd hnk.symm hUd.bel.size (by omega) (IntKind.u64.wrap (T i).is) (IntKind.u64.wrap (T i).par) (IntKind.u64.wrap (T i).st);rw [← HE.out] at hown1
   have hcw : ∀ V, Below w.heap.size w V → V.cell? ⟨b, i * 3, none⟩ = some (.int .i64 (T i).is) ∧ V.cell? ⟨b, i * 3 + 1, none⟩ = some (.int .i64 (T i).par) ∧ V.cell? ⟨b, i * 3 + 2, none⟩ = some (.int .i64 (T i).st) := fun V hb => ⟨(HH.out.below hb).is hlt, (HH.out.below hb).par hlt, (HH.out.below hb).st hlt⟩
   obtain ⟨d0, d1, d2⟩ := hcw wr.drew hUd.bel;have hs1 := hcw (wr.drew.alloc (.cells #[.int .u64 (IntKind.u64.wrap (T i).is), .int .u64 (IntKind.u64.wrap (T i).par), .int .u64 (IntKind.u64.wrap (T i).st)] 45)) (hUd.bel.alloc hUd.bel.size _);have hs2 := hcw w1 (hUd.bel.trans hU1.bel);have HRun1 : ∀ ty, (Builtin.append_ #[22, 22] ty #[.slice ak nk ck, .slice (some ⟨wr.heap.size, 0, none⟩) 3 3]).run Tryz.prog (wr.drew.alloc (.cells #[.int .u64 (IntKind.u64.wrap (T i).is), .int .u64 (IntKind.u64.wrap (T i).par), .int .u64 (IntKind.u64.wrap (T i).st)] 45)) = .ok (.slice a1 (nk + 3) c1) w1 := hrun1;have HO := hid hown1
   have HN : Hid (nk + 3 = (encT T (i + 1)).length) := by show _ = _; rw [HE.out, List.length_append, ← hnk]; rfl
   have HU1 : Hid (UW w.heap.size w w1) := hUd.trans hU1;clear hown hU hnk hel hwd hUd hrun1 hown1 hU1 hcw;clear HE;generalize (T i).is = x at *;generalize (T i).par = y at *;generalize (T i).st = z at *
   go_upto_region 5 with fail
   refine wp_region_held_drew (S := fun w' => w'.cell? ⟨b, i * 3, none⟩ = some (.int .i64 x) ∧ w'.cell? ⟨b, i * 3 + 1, none⟩ = some (.int .i64 y) ∧ w'.cell? ⟨b, i * 3 + 2, none⟩ = some (.int .i64 z)) (by kernel_rfl) ⟨d0, d1, d2⟩ (fun hHeld => ?_);refine tkz [0, 1, 2, 3, 4, 5, 6, 7, 8, 9, 10, 11, 12, 13, 14, 15, 16, 17, 18, 19, 20, 21, 22, 23, 24] ?_
   iterate 25
    refine tkq (v := ?_) rfl (Or.inl ⟨by kernel_rfl, ?_⟩) ?_
    rotate_left
    ·(intro w hSw; (try dsimp only at hSw); go_simp) <;> with_reducible rfl
    (try simp only [Act.put, lq])
   refine tkw ?_
   refine rdy 25 rfl fun K hK => ?_
   go_simp;refine hK.out _ _ hs1 (fun hHeld => ?_);clear hK K
   (try simp only [Act.put, lq])
   refine rdy 26 rfl fun K hK => ?_
   refine wp_append_eq _ _ _ rfl _ _ _ rfl rfl HRun1 ?_;refine hK.out _ _ hs2 (fun hHeld => ?_);clear hK K
   (try simp only [Act.put, lq])
   refine tkz [27] ?_
   iterate 1
    refine tkq (v := ?_) rfl (Or.inl ⟨by kernel_rfl, ?_⟩) ?_
    rotate_left
    ·(intro w hSw; (try dsimp only at hSw); go_simp) <;> with_reducible rfl
    (try simp only [Act.put, lq])
   refine tkw ?_;refine wpAnyH_done (by kernel_rfl) ?_ _;clear hHeld HRun1 d0 d1 d2 hs1 hs2;go_wp2;go_roundw
   case rel => exact ⟨i + 1, a1, nk + 3, c1, by omega, by go_num, rfl, HN.out, HO.out, HU1.out⟩
   case measure => simp [intOf]; omega
  ·have i1 : decide ((i : Int) < 8) = false := decide_eq_false (by omega)
   have hi8 : i = 8 := by omega
   rw [hi8] at hown;have HO := hid hown;clear hown hU hnk hi8;go_wp2;go_ret;exact ⟨_, rfl, HO.out, HU.out.bel⟩
end Pc
namespace Ow
end Ow
namespace Pc
open Ow
theorem tr_eq (a b c : Int) (W : World) : (binOp .eql 148 (.agg #[.int .i64 a, .int .i64 b, .int .i64 c]) (.agg #[.int .i64 0, .int .i64 0, .int .i64 0])).run Tryz.prog W = .ok (.bool (a == 0 && (b == 0 && c == 0))) W := by
 go_simp
 by_cases ha : a = 0 <;> by_cases hb : b = 0 <;> by_cases hc : c = 0 <;> simp [ha, hb, hc]
theorem rroot_at (b : Nat) (T : TS) (k0 : Int) (w : World) (h : RT w b T) (hp : Pars T) (h0 : 0 ≤ k0) (h8 : k0 ≤ 8) :
  Calls Tryz.prog 54 #[ptr b, .int .i64 k0] w fun e w' => e = .returned (.bool (rootR T 9 k0)) ∧ w' = w := by
 have HH := hid h;have HP := hid hp;have H0 : Hid (0 ≤ k0 ∧ k0 ≤ 8) := ⟨h0, h8⟩;clear h hp h0 h8
 go_enter Tryz.func54, Tryz.ntmps54
 go_wp2
 go_loopw [1, 5] (fun t s wr => ∃ (n : Nat) (k : Int), n ≤ 9 ∧ s = .int .i64 n ∧ t = .int .i64 k ∧ (0 ≤ k ∧ k ≤ 8) ∧ rootR T 9 k0 = rootR T (9 - n) k ∧ wr = w) (fun _ s _ => 9 - (intOf s).toNat)
 case atStart => exact ⟨0, k0, by omega, rfl, rfl, H0.out, rfl, rfl⟩
 case round =>
  obtain ⟨n, k, hn, rfl, rfl, ⟨k1, k8⟩, hr, hw⟩ := hrel;subst hw;have HR := hid hr;clear hr
  by_cases hlt : n ≤ 8
  ·have i1 : decide ((n : Int) ≤ 8) = true := decide_eq_true (by omega)
   have ni : (n : Int) ≤ 8 := by omega
   rw [show 9 - n = (9 - (n + 1)) + 1 by omega] at HR
   by_cases hz : k = 0
   ·have g0 : (k == 0) = true := by simp [hz]
    have HT : Hid (rootR T 9 k0 = true) := by show _ = _; rw [HR.out]; unfold rootR; rw [decide_eq_true hz]; rfl
    clear hz;go_wp2;go_ret;exact ⟨by rw [HT.out]; rfl, rfl⟩
   ·have g0 : (k == 0) = false := beq_false_of_ne hz
    obtain ⟨i, hi⟩ : ∃ i : Nat, (i : Int) = k - 1 := ⟨(k - 1).toNat, by omega⟩
    have hi8 : i < 8 := by omega
    have c1 := HH.out.par hi8
    have HT : Hid (rootR T 9 k0 = rootR T (9 - (n + 1)) (T i).par) := by
     show _ = _
     rw [HR.out]
     show (decide (k = 0) || rootR T (9 - (n + 1)) (T (k - 1).toNat).par) = _
     rw [decide_eq_false hz, show (k - 1).toNat = i by omega]
     rfl
    have HPi : Hid (0 ≤ (T i).par ∧ (T i).par ≤ 8) := HP.out i hi8
    have hw1 : IntKind.i64.wrap (k - 1) = (i : Int) := by rw [← hi]; simp [IntKind.wrap, IntKind.bits, IntKind.signed]; omega
    have n0 : (0 : Int) ≤ (i : Int) := by omega
    have n1 : (i : Int) < 8 := by omega
    generalize (T i).par = y at *;clear hi hz;go_wp2;go_roundw
    case rel => exact ⟨n + 1, y, by omega, by go_num, rfl, HPi.out, HT.out, by first | rfl | trivial⟩
    case measure => simp [intOf]; omega
  ·have i1 : decide ((n : Int) ≤ 8) = false := decide_eq_false (by omega)
   have HT : Hid (rootR T 9 k0 = false) := by show _ = _; rw [HR.out, show 9 - n = 0 by omega]; rfl
   go_wp2;go_ret;exact ⟨by rw [HT.out]; rfl, rfl⟩
end Pc
end Go.Proofs.YtinaeifpoljfoaaGreatDoor
