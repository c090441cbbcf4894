import Derived.Test.YtinaeifpoljfoaaGreatDoorSgITSgL
import Derived.Test.YtinaeifpoljfoaaGreatDoorKinds
import Derived.ChangeOld
import Derived.ChangeSlices
import Derived.Below
set_option linter.all false
set_option maxRecDepth 100000
set_option maxHeartbeats 16000000
namespace Go.Proofs.YtinaeifpoljfoaaGreatDoor
open Go.RowKit Go.Lib
namespace Ow
end Ow
namespace Sg
open Ow
structure RgR (w : World) (row : Array Value) (o : Nat) (p : Sg) : Prop where
 size : o + 33 ≤ row.size
 hnd : ∀ j, j < 15 → row[o + j]? = some (.int .u64 (p.h.getD j 0))
 pen : ∀ j, j < 15 → row[o + 15 + j]? = some (.bool (p.q.testBit (j + 1)))
 inh : row[o + 30]? = some (.bool p.k.isSome)
 pc : row[o + 31]? = some (.int .i64 p.pc)
 stk : ∃ a c, row[o + 32]? = some (.slice a p.st.length c) ∧ p.st.length ≤ c ∧ TRd w a p.st
theorem RgR.keep {w w' : World} {row row' : Array Value} {o : Nat} {p : Sg} (h : RgR w row o p) (hs : row'.size = row.size) (hk : ∀ k, o ≤ k → k < o + 33 → row'[k]? = row[k]?) (hw : KeepW w w') : RgR w' row' o p := by
 obtain ⟨a, c, h1, h2, h3⟩ := h.stk;refine ⟨by rw [hs]; exact h.size, fun j hj => ?_, fun j hj => ?_, ?_, ?_, ⟨a, c, ?_, h2, h3.kept hw⟩⟩
 ·rw [hk _ (by omega) (by omega)]; exact h.hnd j hj
 ·rw [hk _ (by omega) (by omega)]; exact h.pen j hj
 ·rw [hk _ (by omega) (by omega)]; exact h.inh
 ·rw [hk _ (by omega) (by omega)]; exact h.pc
 ·rw [hk _ (by omega) (by omega)]; exact h1
theorem RgR.kept {w w' : World} {row : Array Value} {o : Nat} {p : Sg} (h : RgR w row o p) (hw : KeepW w w') : RgR w' row o p := h.keep rfl (fun _ _ _ => rfl) hw
def SameR (o : Nat) (row row' : Array Value) : Prop := row'.size = row.size ∧ ∀ k, k < o ∨ o + 33 ≤ k → row'[k]? = row[k]?
theorem SameR.refl (o : Nat) (row : Array Value) : SameR o row row := ⟨rfl, fun _ _ => rfl⟩
theorem SameR.trans {o : Nat} {r1 r2 r3 : Array Value} (h : SameR o r1 r2) (k : SameR o r2 r3) : SameR o r1 r3 := ⟨k.1.trans h.1, fun i hi => (k.2 i hi).trans (h.2 i hi)⟩
theorem SameR.set {o i : Nat} (row : Array Value) (v : Value) (h : i < 33) : SameR o row (row.setIfInBounds (o + i) v) := ⟨by simp, fun k hk => by rw [Array.getElem?_setIfInBounds, if_neg (by omega)]⟩
def RB (w : World) (b : Nat) (row : Array Value) : Prop := w.heap[b]? = some (.cells row 145)
section
variable {w w' : World} {b : Nat} {row : Array Value}
theorem RB.lt (h : RB w b row) : b < w.heap.size := lt_of_heap h
theorem RB.keep (h : RB w b row) (hb : w'.heap[b]? = w.heap[b]?) : RB w' b row := hb.trans h
theorem RB.below (h : RB w b row) (hb : Below w.heap.size w w') : RB w' b row := h.keep (hb.block _ h.lt)
theorem RB.drew (h : RB w b row) : RB w.drew b row := h
theorem RB.cell (h : RB w b row) (i : Nat) : w.cell? ⟨b, i, none⟩ = row[i]? := cell_of_heap h
theorem RB.free (h : RB w b row) (i : Nat) : w.frozen? ⟨b, i, none⟩ = false := frozen_of_heap h
theorem RB.set (h : RB w b row) (i : Nat) (v : Value) : RB (w.setCell ⟨b, i, none⟩ v) b (row.setIfInBounds i v) := by
 unfold RB at *;rw [setCell_eq_setRow w b i _ _ _ _ h, setRow_heap w b _ _ _ _ h]
theorem RB.kw (h : RB w b row) (hu : Upd b w w') : KeepW w w' := KeepW.upd h (by decide) hu
end
theorem RB.sets {b : Nat} : ∀ (vs : List Value) (o : Nat) (w : World) (row : Array Value), RB w b row → RB (w.setCells b o vs) b (putA row o vs)
 | [], _, _, _, h => h
 | v :: r, o, w, row, h => RB.sets r (o + 1) _ _ (h.set o v)
theorem RB.there {w : World} {b : Nat} {row : Array Value} (h : RB w b row) (o n : Nat) (hn : o + n ≤ row.size) : w.there b o n := fun j hj => by
 refine ⟨?_, h.free _⟩;rw [h.cell, Array.getElem?_eq_getElem (by omega)]
 rfl
theorem putA_sameR {vs : List Value} (o : Nat) (row : Array Value) (h : vs.length = 33) : SameR o row (putA row o vs) := ⟨putA_size _ _ _, fun k hk => putA_out vs o row k (by omega)⟩
structure RgRow (w : World) (row : Array Value) (S : SS) : Prop where
 size : row.size = 264
 at' : ∀ i, i < 8 → RgR w row (i * 33) (S i)
theorem RgRow.put {w w' : World} {row row' : Array Value} {S : SS} {i : Nat} {p : Sg} (h : RgRow w row S) (hs : SameR (i * 33) row row') (hr : RgR w' row' (i * 33) p) (hw : KeepW w w') : RgRow w' row' (S.set i p) := by
 refine ⟨hs.1.trans h.size, fun j hj => ?_⟩
 by_cases e : j = i
 ·rw [e, SS.set_same]; exact hr
 ·rw [SS.set_other _ _ _ _ e]
  exact (h.at' j hj).keep hs.1 (fun k h1 h2 => hs.2 k (by omega)) hw
theorem RgRow.kept {w w' : World} {row : Array Value} {S : SS} (h : RgRow w row S) (hw : KeepW w w') : RgRow w' row S := ⟨h.size, fun i hi => (h.at' i hi).kept hw⟩
def RgAt (w : World) (b : Nat) (S : SS) : Prop := ∃ row, RB w b row ∧ RgRow w row S
section
variable {w w' : World} {b : Nat} {S : SS}
theorem RgAt.lt (h : RgAt w b S) : b < w.heap.size := by
 obtain ⟨row, hr, _⟩ := h;exact hr.lt
theorem RgAt.keep (h : RgAt w b S) (hb : w'.heap[b]? = w.heap[b]?) (hw : KeepW w w') : RgAt w' b S := by
 obtain ⟨row, hr, h1⟩ := h;exact ⟨row, hr.keep hb, h1.kept hw⟩
theorem RgAt.ne {c : Nat} {T : SS} (h : RgAt w b S) (hc : SgAt w c T) : b ≠ c := by
 obtain ⟨row, hr, _⟩ := h;obtain ⟨row2, hp, _⟩ := hc;intro e;unfold RB at hr;unfold SB at hp;rw [e, hp] at hr;simp only [Option.some.injEq, Obj.cells.injEq] at hr;exact absurd hr.2.1 (by decide)
end
end Sg
namespace Ow
end Ow
namespace Sg
open Ow
def tailR : List Value := List.replicate 15 (.bool false) ++ [.bool false, .int .i64 0, .slice none 0 0]
theorem lit_fresh : (#[.int .u64 0, .int .u64 0, .int .u64 0, .int .u64 0, .int .u64 0, .int .u64 0, .int .u64 0, .int .u64 0, .int .u64 0, .int .u64 0, .int .u64 0, .int .u64 0, .int .u64 0, .int .u64 0, .int .u64 0, .bool false, .bool false, .bool false, .bool false, .bool false, .bool false, .bool false, .bool false, .bool false, .bool false, .bool false, .bool false, .bool false, .bool false, .bool false, .bool false, .int .i64 0, .slice none 0 0] : Array Value) = frow tailR 0 := rfl
theorem refSize : (Tryz.prog.info? 142).map (·.size) = some 33 := by kernel_rfl
theorem tailR_one : ∀ v ∈ tailR, v.oneCell' = true := fun v hv => by
 simp only [tailR, List.mem_append, List.mem_cons, List.not_mem_nil, or_false] at hv
 rcases hv with hv | rfl | rfl | rfl
 ·rw [List.eq_of_mem_replicate hv]; rfl
 ·rfl
 ·rfl
 ·rfl
theorem freshO : (frow tailR 15).all (·.oneCell') = true := frow_one tailR_one
theorem fresh_R {w : World} {row : Array Value} {o : Nat} (h : o + 33 ≤ row.size) (h1 : ∀ j, j < 33 → row[o + j]? = (frow tailR 15)[j]?) : RgR w row o Sg.first := by
 refine ⟨h, fun j hj => ?_, fun j hj => ?_, ?_, ?_, none, 0, ?_, Nat.le_refl _, TRd.nil _ _⟩
 ·rw [h1 j (by omega), frow_hnd hj]
  show _ = some (Value.int .u64 ((List.replicate 15 dfl).getD j 0))
  rw [List.getD_eq_getElem?_getD, List.getElem?_replicate, if_pos hj]
  rfl
 ·rw [Nat.add_assoc, h1 (15 + j) (by omega), frow_tail j]
  unfold tailR;rw [List.getElem?_append_left (by simpa using hj), List.getElem?_replicate, if_pos hj]
  show _ = some (Value.bool ((0 : Nat).testBit (j + 1)))
  simp
 ·rw [h1 30 (by omega)]; exact frow_tail 15
 ·rw [h1 31 (by omega)]; exact frow_tail 16
 ·rw [h1 32 (by omega)]; exact frow_tail 17
theorem xfresh_at (w : World) :
  Calls Tryz.prog 105 #[] w fun x w' => x = .returned (.agg (frow tailR 15)) ∧ Below w.heap.size w w' := by
 have hz := lit_fresh
 have HSz : Hid (∀ k, k ≤ 15 → (frow tailR k).size = 33) := fun k hk => frow_size hk
 have HSet : Hid (∀ k, k < 15 → (frow tailR k).setIfInBounds k (.int .u64 18446744073709551615) = frow tailR (k + 1)) := fun k hk => frow_set hk
 have HGet : Hid (∀ k, k < 15 → (frow tailR k)[k]? = some (.int .u64 0)) := fun k hk => frow_get hk
 have HOne := hid freshO;generalize hF : frow tailR = F at *;clear hF
 go_enter Tryz.func105, Tryz.ntmps105
 go_wp2;clear hz;obtain ⟨W, hW⟩ : ∃ W, W = (w.alloc (.cells (F 0) 142)).alloc (.cells (F 0) 142) := ⟨_, rfl⟩;obtain ⟨r, hr⟩ : ∃ r, r = w.heap.size := ⟨_, rfl⟩;obtain ⟨g, hg⟩ : ∃ g, g = w.heap.size + 1 := ⟨_, rfl⟩
 have HN : Hid (W.heap[g]? = some (.cells (F 0) 142 (0, 0))) := by
  show _ = _
  have := heap_alloc_new (w.alloc (.cells (F 0) 142)) (.cells (F 0) 142);rw [hW, hg]
  simpa using this
 have HM : Hid (W.heap[r]? = some (.cells (F 0) 142 (0, 0))) := by
  rw [hW, hr, Below.heap_alloc _ _ _ (by simp)];exact heap_alloc_new _ _
 have HB : Hid (Below w.heap.size w W) := by rw [hW]; exact below_alloc2 _ _ _
 have HG : Hid (g = r + 1) := by show _ = _; rw [hg, hr]
 have HRw := hid hr;rw [← hW, ← hg, ← hr];clear hW hg hr
 go_loopw [2] (fun s wr => ∃ (k : Nat), k ≤ 15 ∧ s = .int .i64 k ∧ wr.heap[g]? = some (.cells (F k) 142 (0, 0)) ∧ wr.heap[r]? = some (.cells (F 0) 142 (0, 0)) ∧ Below w.heap.size w wr) (fun s _ => 15 - (intOf s).toNat)
 case atStart => exact ⟨0, by omega, rfl, HN.out, HM.out, HB.out⟩
 case round =>
  clear HN HM HB;obtain ⟨k, hk, rfl, hN, hM, hB⟩ := hrel;have HN := hid hN;have HM := hid hM;have HB := hid hB
  by_cases hlt : k < 15
  ·have i1 : decide ((k : Int) < 15) = true := decide_eq_true (by omega)
   have hki : (k : Int) < 15 := by omega
   have c0 : wr.cell? ⟨g, k, none⟩ = some (.int .u64 0) := (cell_of_heap hN).trans (HGet.out k hlt);have f0 : wr.frozen? ⟨g, k, none⟩ = false := frozen_of_heap hN
   have HN2 : Hid ((wr.setCell ⟨g, k, none⟩ (.int .u64 18446744073709551615)).heap[g]? = some (.cells (F (k + 1)) 142 (0, 0))) := by
    show _ = _
    rw [setCell_eq_setRow wr g k _ _ _ _ hN, setRow_heap wr g _ _ _ _ hN, HSet.out k hlt]
   have HM2 : Hid ((wr.setCell ⟨g, k, none⟩ (.int .u64 18446744073709551615)).heap[r]? = some (.cells (F 0) 142 (0, 0))) :=
    (Below.heap_setCell _ _ _ _ (by have := HG.out; show r ≠ g; omega)).trans hM
   have HB2 : Hid (Below w.heap.size w (wr.setCell ⟨g, k, none⟩ (.int .u64 18446744073709551615))) := hB.trans ((Upd.setCell g k _ _).below (by have := HG.out; have := HRw.out; omega) hB.size);clear hN hM hB;go_wp2;go_roundw
   case rel => exact ⟨k + 1, by omega, by go_num, HN2.out, HM2.out, HB2.out⟩
   case measure => simp [intOf]; omega
  ·obtain rfl : k = 15 := by omega
   have i1 : decide (((15 : Nat) : Int) < 15) = false := rfl;have HQ : Hid ((wr.setRow r (F 15)).heap[r]? = some (.cells (F 15) 142 (0, 0))) := setRow_heap _ r _ _ _ _ hM;have HB2 : Hid (Below w.heap.size w (wr.setRow r (F 15))) := hB.trans ((Upd.setRow r _ _).below (by have := HRw.out; omega) hB.size);clear hN hM hB;generalize hR : F 15 = R at *
   have HRs : Hid (R.size = 33) := by show _ = _; rw [← hR]; exact HSz.out 15 (by omega)
   have HR15 := hid hR;clear hR
   go_wp2_with (first
     | (refine wpList_load_row rfl 142 _ rfl g rfl 142 R (0, 0) _ HN.out Tryz.underlying142 rfl (by rw [HRs.out]; exact refSize) ?_)
     | (refine wpList_store_row rfl 142 _ _ rfl r R rfl rfl 142 (F 0) HM.out (by rw [HRs.out]; exact refSize) (by rw [HRs.out, HSz.out 0 (by omega)]) HOne.out ?_)
     | go_in)
   refine bodyPost_ret (v := .agg R) ?_ rfl ⟨by rw [HR15.out], HB2.out⟩;exact results_cell_row rfl _ _ r 142 R (0, 0) _ rfl HQ.out Tryz.underlying142 rfl (by rw [HRs.out]; exact refSize)
def rrow : Array Value := ((List.replicate 8 (frow tailR 0).toList).flatten).toArray
theorem rrow_size : rrow.size = 264 := by kernel_rfl
theorem rrow_zero : (Tryz.prog.info? 145).map (·.zero) = some (some (.agg rrow)) := by kernel_rfl
theorem zero_ref (W : World) : (zeroValue 145).run Tryz.prog W = .ok (.agg rrow) W := by
 obtain ⟨i, hi, hz⟩ := Option.map_eq_some_iff.1 rrow_zero;simp [zeroValue, typeInfo, hi, hz]
structure FreshK (w : World) (row : Array Value) (k : Nat) : Prop where
 size : row.size = 264
 at' : ∀ i, i < k → RgR w row (i * 33) Sg.first
theorem FreshK.next {w w' : World} {row : Array Value} {k : Nat} (h : FreshK w row k) (hk : k < 8) (hw : KeepW w w') : FreshK w' (putA row (k * 33) (frow tailR 15).toList) (k + 1) := by
 have hs := h.size;have hl : (frow tailR 15).toList.length = 33 := rfl;have hsm := putA_sameR (k * 33) row hl;refine ⟨hsm.1.trans hs, fun i hi => ?_⟩
 by_cases e : i = k
 ·subst e
  refine fresh_R (by rw [hsm.1]; omega) (fun j hj => ?_);rw [putA_in _ _ _ j (by omega) (by omega), Array.getElem?_toList]
 ·exact (h.at' i (by omega)).keep hsm.1 (fun q h1 h2 => hsm.2 q (by omega)) hw
theorem xnew_at (w : World) :
  Calls Tryz.prog 51 #[] w fun x w' => x = .returned (.pointer (some ⟨w.heap.size, 0, none⟩)) ∧ RgAt w' w.heap.size SS.first ∧ Below w.heap.size w w' := by
 have HR := hid rrow_size;have hz := zero_ref;generalize rrow = R at *;obtain ⟨b, hb⟩ : ∃ b, b = w.heap.size := ⟨_, rfl⟩;have HBb := hid hb
 go_enter Tryz.func51, Tryz.ntmps51
 go_wp2
 have HN : Hid (RB (w.alloc (.cells R 145)) b R) := by rw [hb]; exact heap_alloc_new _ _
 have HB : Hid (Below w.heap.size w (w.alloc (.cells R 145))) := below_alloc _ _;rw [← hb];generalize w.alloc (.cells R 145) = W at *;clear hz hb
 go_loopw [2] (fun s wr => ∃ (k : Nat) (row : Array Value), k ≤ 8 ∧ s = .int .i64 k ∧ RB wr b row ∧ FreshK wr row k ∧ Below w.heap.size w wr) (fun s _ => 8 - (intOf s).toNat)
 case atStart => exact ⟨0, R, by omega, rfl, HN.out, ⟨HR.out, fun i hi => by omega⟩, HB.out⟩
 case round =>
  clear HN HB;obtain ⟨k, row, hk, rfl, hS, hF, hB⟩ := hrel;have HS := hid hS;have HF := hid hF;have HB := hid hB
  by_cases hlt : k < 8
  ·have i1 : decide ((k : Int) < 8) = true := decide_eq_true (by omega)
   have hki : (k : Int) < 8 := by omega
   have hAF := xfresh_at wr.drew;have HFs : Hid ((frow tailR 15).size = 33) := rfl;have HFo := hid freshO
   have HNx : Hid (∀ w', KeepW wr w' → FreshK w' (putA row (k * 33) (frow tailR 15).toList) (k + 1)) := fun w' hw => hF.next hlt hw
   generalize frow tailR 15 = F at *;clear hS hF hB
   go_wp2_with fail
   refine wp_region_held_drew (S := fun w' => True) (by kernel_rfl) trivial (fun hHeld => ?_);refine tkz [0, 1, 3, 4] ?_
   iterate 4
    refine tkq (v := ?_) rfl (Or.inl ⟨by kernel_rfl, ?_⟩) ?_
    rotate_left
    ·(intro w hSw; (try dsimp only at hSw); go_simp) <;> with_reducible rfl
    (try simp only [Act.put, lq])
   refine tkw ?_
   refine rdy 2 rfl fun K hK => ?_
   go_simp;refine hAF.mono ?_;rintro e w1 ⟨rfl, hb1⟩;have HS1 : Hid (RB w1 b row) := (RB.drew HS.out).below hb1;have HK1 : Hid (KeepW wr w1) := (KeepW.below (Below.refl wr.heap.size wr).drew).trans (KeepW.below hb1);have HB1 : Hid (Below w.heap.size w w1) := HB.out.drew.trans (hb1.mono (by have := HB.out.size; simpa using this));clear hb1 hAF;refine hK.out _ _ trivial (fun hHeld => ?_);clear hK K
   (try simp only [Act.put, lq])
   refine tkz [5] ?_
   iterate 1
    refine tkq (v := ?_) rfl (Or.inl ⟨by kernel_rfl, ?_⟩) ?_
    rotate_left
    ·(intro w hSw; (try dsimp only at hSw); go_simp) <;> with_reducible rfl
    (try simp only [Act.put, lq])
   refine tkw ?_
   refine rdy 6 rfl fun K hK => ?_
   refine wp_store_mid 142 _ _ rfl b (k * 33) F rfl rfl (HS1.out.there _ _ (by have := HF.out.size; rw [HFs.out]; omega)) (by rw [HFs.out]; exact refSize) HFo.out ?_;have HS2 : Hid (RB (w1.setCells b (k * 33) F.toList) b (putA row (k * 33) F.toList)) := RB.sets _ _ _ _ HS1.out;have HU2 : Hid (Upd b w1 (w1.setCells b (k * 33) F.toList)) := upd_sets _ _ _ _;generalize w1.setCells b (k * 33) F.toList = w2 at *;have HF2 : Hid (FreshK w2 (putA row (k * 33) F.toList) (k + 1)) := HNx.out _ (HK1.out.trans (HS1.out.kw HU2.out));have HB2 : Hid (Below w.heap.size w w2) := HB1.out.trans (HU2.out.below (by have := HBb.out; omega) HB1.out.size);refine hK.out _ _ trivial (fun hHeld => ?_);clear hK K;simp only [Act.put, List.getElem_toArray, List.getElem_cons_zero, List.getElem_cons_succ];refine wpAnyH_done (by kernel_rfl) ?_ _;clear hHeld;go_wp2;go_roundw
   case rel => exact ⟨k + 1, _, by omega, by go_num, HS2.out, HF2.out, HB2.out⟩
   case measure => simp [intOf]; omega
  ·obtain rfl : k = 8 := by omega
   have i1 : decide (((8 : Nat) : Int) < 8) = false := rfl;clear hS hF hB;go_wp2;go_ret;exact ⟨by rw [HBb.out]; rfl, ⟨row, by rw [← HBb.out]; exact HS.out, HF.out.size, HF.out.at'⟩, HB.out⟩
theorem RgR.handler {w w' : World} {row : Array Value} {o m : Nat} {p : Sg} (h : RgR w row o p) (x : Int) (hm : m < 15) (hl : p.h.length = 15) (hw : KeepW w w') : RgR w' (row.setIfInBounds (o + m) (.int .u64 x)) o ⟨p.h.set m x, p.q, p.k⟩ := by
 have hs := h.size;obtain ⟨a, c, h1, h2, h3⟩ := h.stk;refine ⟨by simpa using hs, fun j hj => ?_, fun j hj => ?_, ?_, ?_, ⟨a, c, ?_, h2, h3.kept hw⟩⟩
 ·rw [Array.getElem?_setIfInBounds]
  show _ = some (Value.int .u64 ((p.h.set m x).getD j 0))
  by_cases e : m = j
  ·subst e
   rw [if_pos rfl, if_pos (by omega), List.getD_eq_getElem?_getD, List.getElem?_set_self (by omega)]
   rfl
  ·rw [if_neg (by omega), h.hnd j hj, List.getD_eq_getElem?_getD, List.getD_eq_getElem?_getD, List.getElem?_set_ne e]
 ·rw [Array.getElem?_setIfInBounds, if_neg (by omega)]; exact h.pen j hj
 ·rw [Array.getElem?_setIfInBounds, if_neg (by omega)]; exact h.inh
 ·rw [Array.getElem?_setIfInBounds, if_neg (by omega)]; exact h.pc
 ·rw [Array.getElem?_setIfInBounds, if_neg (by omega)]; exact h1
theorem RgR.bit {w w' : World} {row : Array Value} {o m q : Nat} {p : Sg} (h : RgR w row o p) (on : Bool) (hm : m < 15) (hq : ∀ j, j < 15 → q.testBit (j + 1) = if j = m then on else p.q.testBit (j + 1)) (hw : KeepW w w') : RgR w' (row.setIfInBounds (o + 15 + m) (.bool on)) o (p.q' q) := by
 have hs := h.size;obtain ⟨a, c, h1, h2, h3⟩ := h.stk;refine ⟨by simpa using hs, fun j hj => ?_, fun j hj => ?_, ?_, ?_, ⟨a, c, ?_, h2, h3.kept hw⟩⟩
 ·rw [Array.getElem?_setIfInBounds, if_neg (by omega)]; exact h.hnd j hj
 ·rw [Array.getElem?_setIfInBounds]
  show _ = some (Value.bool (q.testBit (j + 1)))
  rw [hq j hj]
  by_cases e : m = j
  ·subst e
   rw [if_pos rfl, if_pos (by omega), if_pos rfl]
  ·rw [if_neg (by omega), if_neg (fun x => e x.symm)]; exact h.pen j hj
 ·rw [Array.getElem?_setIfInBounds, if_neg (by omega)]; exact h.inh
 ·rw [Array.getElem?_setIfInBounds, if_neg (by omega)]; exact h.pc
 ·rw [Array.getElem?_setIfInBounds, if_neg (by omega)]; exact h1
theorem SameR.bit {o m : Nat} (row : Array Value) (v : Value) (h : m < 15) : SameR o row (row.setIfInBounds (o + 15 + m) v) := ⟨by simp, fun k hk => by rw [Array.getElem?_setIfInBounds, if_neg (by omega)]⟩
end Sg
namespace Ow
end Ow
namespace Sg
open Ow
theorem RgR.vm {w w' : World} {row row' : Array Value} {o : Nat} {p : Sg} {k : Option (Int × List Int)} (h : RgR w row o p) (hs : SameR o row row') (hk : ∀ j, j < 30 → row'[o + j]? = row[o + j]?)
  (h1 : row'[o + 30]? = some (.bool k.isSome)) (h2 : row'[o + 31]? = some (.int .i64 (k.getD (0, [])).1)) (a : Option Addr) (c : Nat) (h3 : row'[o + 32]? = some (.slice a (k.getD (0, [])).2.length c)) (h4 : (k.getD (0, [])).2.length ≤ c) (h5 : TRd w' a (k.getD (0, [])).2) : RgR w' row' o ⟨p.h, p.q, k⟩ := by
 refine ⟨by rw [hs.1]; exact h.size, fun j hj => ?_, fun j hj => ?_, h1, h2, a, c, h3, h4, h5⟩
 ·rw [hk j (by omega)]; exact h.hnd j hj
 ·rw [Nat.add_assoc, hk (15 + j) (by omega), ← Nat.add_assoc]; exact h.pen j hj
end Sg
namespace Ow
end Ow
namespace Sg
open Ow
def pvs (p : Sg) (q : Nat) (sl : Value) : List Value := hvs p ++ ((List.range 15).map (fun j => Value.bool (q.testBit (j + 1))) ++ [.bool p.k.isSome, .int .i64 p.pc, sl])
theorem pvs_len (p : Sg) (q : Nat) (sl : Value) : (pvs p q sl).length = 33 := by simp [pvs, hvs_len]
theorem pvs_one (p : Sg) (q : Nat) (a : Option Addr) (n c : Nat) : ((pvs p q (.slice a n c)).toArray).all (·.oneCell') = true := by
 refine all_oneCell_toArray (fun v hv => ?_);simp only [pvs, hvs, List.mem_append, List.mem_map, List.mem_cons, List.not_mem_nil, or_false] at hv
 rcases hv with ⟨j, _, rfl⟩ | ⟨j, _, rfl⟩ | rfl | rfl | rfl <;> rfl
theorem pvs_hnd (p : Sg) (q : Nat) (sl : Value) (j : Nat) (hj : j < 15) : (pvs p q sl)[j]? = some (.int .u64 (p.h.getD j 0)) := by
 unfold pvs;rw [List.getElem?_append_left (by rw [hvs_len]; omega), hvs_get p j hj]
theorem pvs_pen (p : Sg) (q : Nat) (sl : Value) (j : Nat) (hj : j < 15) : (pvs p q sl)[15 + j]? = some (.bool (q.testBit (j + 1))) := by
 unfold pvs;rw [List.getElem?_append_right (by rw [hvs_len]; omega), hvs_len, List.getElem?_append_left (by simp; omega), List.getElem?_map, show 15 + j - 15 = j by omega, List.getElem?_range hj]
 rfl
theorem pvs_tail (p : Sg) (q : Nat) (sl : Value) (j : Nat) : (pvs p q sl)[30 + j]? = [Value.bool p.k.isSome, .int .i64 p.pc, sl][j]? := by
 unfold pvs;rw [List.getElem?_append_right (by rw [hvs_len]; omega), hvs_len, List.getElem?_append_right (by simp; omega), List.length_map, List.length_range]
 congr 1
 omega
theorem pvs_range {w : World} {b o : Nat} {row : Array Value} {p : Sg} {a : Option Addr} {c : Nat} (hB : RB w b row) (hR : RgR w row o p) (h18 : row[o + 32]? = some (.slice a p.st.length c)) : w.rangeAt b o (pvs p p.q (.slice a p.st.length c)) := by
 intro j v hv
 have hj : j < 33 := by have := (List.getElem?_eq_some_iff.1 hv).1; rwa [pvs_len] at this
 rw [hB.cell]
 rcases (by omega : j < 15 ∨ (15 ≤ j ∧ j < 30) ∨ j = 30 ∨ j = 31 ∨ j = 32) with q | q | q | q | q
 ·rw [pvs_hnd _ _ _ j q] at hv; rw [hR.hnd j q]; exact hv
 ·obtain ⟨i, rfl⟩ : ∃ i, j = 15 + i := ⟨j - 15, by omega⟩
  rw [pvs_pen _ _ _ i (by omega)] at hv;rw [← Nat.add_assoc, hR.pen i (by omega)]; exact hv
 ·subst q; have := pvs_tail p p.q (.slice a p.st.length c) 0; rw [this] at hv; rw [hR.inh]; exact hv
 ·subst q; have := pvs_tail p p.q (.slice a p.st.length c) 1; rw [this] at hv; rw [hR.pc]; exact hv
 ·subst q; have := pvs_tail p p.q (.slice a p.st.length c) 2; rw [this] at hv; rw [h18]; exact hv
end Sg
namespace Ow
end Ow
namespace Sg
open Ow
theorem UW.rb {B : Nat} {w w' : World} (h : UW B w w') {b : Nat} {row : Array Value} (hb : RB w b row) : RB w' b row := hb.keep (h.oth b _ _ _ hb (by decide))
def qlo (q k : Nat) : Nat := q % 2 ^ (k + 1)
theorem qlo_bit (q k j : Nat) : (qlo q k).testBit j = (decide (j < k + 1) && q.testBit j) := Nat.testBit_mod_two_pow q (k + 1) j
theorem qlo_zero {q : Nat} (h : QOk q) : qlo q 0 = 0 := by
 apply Nat.eq_of_testBit_eq
 intro j;rw [qlo_bit, Nat.zero_testBit]
 by_cases e : j = 0
 ·rw [e, h.2, Bool.and_false]
 ·rw [decide_eq_false (show ¬ j < 0 + 1 by omega), Bool.false_and]
theorem qlo_all {q : Nat} (h : QOk q) : qlo q 15 = q := Nat.mod_eq_of_lt h.1
theorem qlo_on {q k : Nat} (hb : q.testBit (k + 1) = true) : qlo q k ||| 2 ^ (k + 1) = qlo q (k + 1) := by
 apply Nat.eq_of_testBit_eq
 intro j;rw [Nat.testBit_or, Nat.testBit_two_pow, qlo_bit, qlo_bit]
 by_cases e : j = k + 1
 ·subst e
  rw [hb];simp
 ·rw [decide_eq_false (show ¬ k + 1 = j by omega), Bool.or_false]
  congr 1
  rw [decide_eq_decide];omega
theorem qlo_off {q k : Nat} (hb : q.testBit (k + 1) = false) : qlo q k = qlo q (k + 1) := by
 apply Nat.eq_of_testBit_eq
 intro j;rw [qlo_bit, qlo_bit]
 by_cases e : j = k + 1
 ·subst e
  rw [hb, Bool.and_false, Bool.and_false]
 ·congr 1
  rw [decide_eq_decide];omega
theorem qlo_lt {q k : Nat} (h : QOk q) : qlo q k < 18446744073709551616 := by
 have : qlo q k ≤ q := Nat.mod_le _ _;have := h.1;omega
theorem take_snoc {α : Type} {l : List α} {k : Nat} {x : α} (h : l[k]? = some x) : l.take (k + 1) = l.take k ++ [x] := by
 rw [List.take_add_one, h]
 rfl
theorem xencode_at (b : Nat) (S : SS) (w : World) (h : RgAt w b S) (hok : SOk S) :
  Calls Tryz.prog 52 #[.pointer (some ⟨b, 0, none⟩)] w fun x w' => ∃ v, x = .returned v ∧ w'.ownsRow w.heap.size 45 1 v (encS S).length (uvs (encS S)) ∧ Below w.heap.size w w' := by
 have HF := hid hok;obtain ⟨row, hP, hR⟩ := h;have HP := hid hP;have HR := hid hR;have hzl := lit_fresh;generalize hZ0 : frow tailR 0 = Z0 at *
 have HZs : Hid (Z0.size = 33) := by show _ = _; rw [← hZ0]; rfl
 clear hP hR hok hZ0
 go_enter Tryz.func52, Tryz.ntmps52
 go_wp2
 go_loopw [3, 4] (fun s i wr => ∃ (k : Nat) (ak : Option Addr) (nk ck : Nat), k ≤ 8 ∧ i = .int .i64 k ∧ .slice ak nk ck = s ∧ nk = (encK S k).length ∧ wr.ownsRow w.heap.size 45 1 (.slice ak nk ck) (encK S k).length (uvs (encK S k)) ∧ UW w.heap.size w wr) (fun _ i _ => 8 - (intOf i).toNat)
 case atStart => exact ⟨0, none, 0, 0, by omega, rfl, rfl, rfl, World.ownsRow_nil w _ _ 1, UW.refl _ _⟩
 case round =>
  obtain ⟨k, ak, nk, ck, hk, rfl, rfl, hnk, hown, hU⟩ := hrel;have HU := hid hU
  by_cases hlt : k < 8
  ·have i1 : decide ((k : Int) < 8) = true := decide_eq_true (by omega)
   have hki : (k : Int) < 8 := by omega
   have hel := encK_len HF.out k (by omega);have hok := HF.out k hlt;have hPr := HU.out.rb HP.out;have hRi := HR.out.at' k hlt;obtain ⟨sa, sc, e18, hcc, hT⟩ := hRi.stk;obtain ⟨X0, hX0⟩ : ∃ X, X = (pvs (S k) (S k).q (.slice sa (S k).st.length sc)).toArray := ⟨_, rfl⟩
   have hrg : wr.rangeAt b (k * 33) X0.toList := by
    rw [hX0];intro j v hv;rw [hPr.cell, ← HP.out.cell];exact pvs_range HP.out hRi e18 j v hv
   have hXs : X0.size = 33 := by rw [hX0, List.size_toArray]; exact pvs_len _ _ _
   have hXo : X0.all (·.oneCell') = true := by rw [hX0]; exact pvs_one _ _ _ _ _
   obtain ⟨W, hW⟩ : ∃ W, W = wr.alloc (.cells X0 142) := ⟨_, rfl⟩;obtain ⟨q, hq⟩ : ∃ q, q = wr.heap.size := ⟨_, rfl⟩
   have hbW : Below wr.heap.size wr W := by rw [hW]; exact below_alloc _ _
   have hkq : W.heap[q]? = some (.cells X0 142 (0, 0)) := by rw [hW, hq]; exact heap_alloc_new _ _
   have HUW : Hid (UW w.heap.size w W) := hU.trans (UW.of_below hU.bel.size hbW)
   have HOw : Hid (W.ownsRow w.heap.size 45 1 (.slice ak nk ck) (encK S k ++ (S k).h.take 0).length (uvs (encK S k ++ (S k).h.take 0))) := by
    rw [List.take_zero, List.append_nil];exact ownsRow_below hown hbW
   have HKq := hid hkq
   have HCell : Hid (∀ w' : World, w'.heap[q]? = some (.cells X0 142 (0, 0)) → (∀ j, j < 15 → w'.cell? ⟨q, j, none⟩ = some (.int .u64 ((S k).h.getD j 0)) ∧ w'.cell? ⟨q, 15 + j, none⟩ = some (.bool ((S k).q.testBit (j + 1)))) ∧ w'.cell? ⟨q, 30, none⟩ = some (.bool (S k).k.isSome) ∧ w'.cell? ⟨q, 31, none⟩ = some (.int .i64 (S k).pc) ∧ w'.cell? ⟨q, 32, none⟩ = some (.slice sa (S k).st.length sc)) := fun w' h' => by
    refine ⟨fun j hj => ⟨?_, ?_⟩, ?_, ?_, ?_⟩
    ·rw [cell_of_heap h', hX0, List.getElem?_toArray]; exact pvs_hnd _ _ _ j hj
    ·rw [cell_of_heap h', hX0, List.getElem?_toArray]; exact pvs_pen _ _ _ j hj
    ·rw [cell_of_heap h', hX0, List.getElem?_toArray]; exact pvs_tail _ _ _ 0
    ·rw [cell_of_heap h', hX0, List.getElem?_toArray]; exact pvs_tail _ _ _ 1
    ·rw [cell_of_heap h', hX0, List.getElem?_toArray]; exact pvs_tail _ _ _ 2
   have HRg := hid hrg;have HXs := hid hXs;have HXo := hid hXo;have HOk : Hid (S k).Ok := hok;have HNk := hid hnk;have HSt := hid hT;have HW := hid hW;have HQ := hid hq
   have hnk9 : nk ≤ 408 := by omega
   clear hown hU hnk hel hok hPr hRi e18 hcc hT hX0 hrg hXs hXo hW hq hbW hkq
   go_upto_region 6 with (first
     | (refine wpList_load_mid rfl 142 _ rfl b (k * 33) rfl X0.toList _ HRg.out Tryz.underlying142 rfl (by rw [Array.length_toList, HXs.out]; exact refSize) ?_)
     | (refine wpList_store_row rfl 142 _ _ rfl wr.heap.size X0 rfl rfl 142 Z0 (heap_alloc_new _ _) (by rw [HXs.out]; exact refSize) (by rw [HXs.out, HZs.out]) HXo.out ?_; rw [setRow_alloc_new])
     | go_in)
   rw [← HW.out, ← HQ.out];clear HW HRg;go_wp2;generalize hwx : wr = wq at *;clear hwx
   go_loopw [3, 6, 7] (fun s bt i wr => ∃ (j : Nat) (aj : Option Addr) (nj cj : Nat), j ≤ 15 ∧ i = .int .i64 j ∧ bt = .int .u64 (qlo (S k).q j : Nat) ∧ .slice aj nj cj = s ∧ nj = nk + j ∧ wr.ownsRow w.heap.size 45 1 (.slice aj nj cj) (encK S k ++ (S k).h.take j).length (uvs (encK S k ++ (S k).h.take j)) ∧ UW w.heap.size W wr) (fun _ _ i _ => 15 - (intOf i).toNat)
   case atStart => exact ⟨0, ak, nk, ck, by omega, rfl, by rw [qlo_zero HOk.out.pend]; rfl, rfl, rfl, HOw.out, UW.refl _ _⟩
   case round =>
    clear HOw;obtain ⟨j, aj, nj, cj, hj, rfl, rfl, rfl, hnj, hown, hU⟩ := hrel;have HU2 := hid hU;have HNj := hid hnj
    have hlen : (encK S k ++ (S k).h.take j).length = nj := by
     rw [List.length_append, List.length_take, HOk.out.len, ← HNk.out, hnj];omega
    have hBs : w.heap.size ≤ wr.heap.size := Nat.le_trans HUW.out.bel.size hU.bel.size
    by_cases hjl : j < 15
    ·have j1 : decide ((j : Int) < 15) = true := decide_eq_true (by omega)
     have hji : (j : Int) < 15 := by omega
     obtain ⟨hc, -, -, -⟩ := HCell.out wr ((hU.oth q _ _ _ HKq.out (by decide)).trans HKq.out);obtain ⟨c0, c1⟩ := hc j hjl;obtain ⟨a3, c3, w3, hrun, hown3, hU3⟩ := app1 hown hlen hBs (by omega) ((S k).h.getD j 0)
     have hT : (encK S k ++ (S k).h.take j) ++ [(S k).h.getD j 0] = encK S k ++ (S k).h.take (j + 1) := by
      rw [take_snoc (l := (S k).h) (k := j) (x := (S k).h.getD j 0) (by rw [List.getD_eq_getElem?_getD, List.getElem?_eq_getElem (by rw [HOk.out.len]; exact hjl)]; rfl), List.append_assoc]
     rw [hT] at hown3;have HRun : Hid _ := hrun;have HO3 := hid hown3;have HU3 : Hid (UW w.heap.size W w3) := hU.trans hU3;obtain ⟨hc3, -, -, -⟩ := HCell.out w3 ((HU3.out.oth q _ _ _ HKq.out (by decide)).trans HKq.out);obtain ⟨-, d1⟩ := hc3 j hjl
     have hs1 : IntKind.i64.wrap ((j : Int) + 1) = ((j + 1 : Nat) : Int) := by simp [IntKind.wrap, IntKind.bits, IntKind.signed]; omega
     cases hb : (S k).q.testBit (j + 1) with
     | false =>
      rw [hb] at d1;have HQl : Hid (qlo (S k).q j = qlo (S k).q (j + 1)) := qlo_off hb;generalize (S k).h.getD j 0 = hx at *;generalize hql : qlo (S k).q j = ql at *;clear hrun hown3 hU3 hT hlen hown hU hnj hBs hc hc3 hb hql c1
      go_upto_region 11 with (at_builtin; refine wpList_append_eq rfl _ _ _ rfl _ _ _ rfl rfl HRun.out ?_)
      clear HRun c0;go_wp2;go_roundw
      case rel => exact ⟨j + 1, a3, nj + 1, c3, by omega, by go_num, by rw [← HQl.out], rfl, by have := HNj.out; omega, HO3.out, HU3.out⟩
      case measure => simp [intOf]; omega
     | true =>
      rw [hb] at d1;have hlq := qlo_lt (k := j) HOk.out.pend
      have hor : bits .or .u64 (qlo (S k).q j : Int) ((2 : Int) ^ (j + 1)) = ((qlo (S k).q (j + 1) : Nat) : Int) := by
       rw [show ((2 : Int) ^ (j + 1)) = ((2 ^ (j + 1) : Nat) : Int) by simp, u64_or_nat _ _ hlq (bit_lt (by omega)), qlo_on hb]
      have hsh := shl_one (i := j + 1) (by omega);generalize (S k).h.getD j 0 = hx at *;generalize hql : qlo (S k).q j = ql at *;have HQl : Hid (qlo (S k).q (j + 1) = qlo (S k).q (j + 1)) := rfl;generalize hql2 : qlo (S k).q (j + 1) = ql2 at hor;have HQ2 := hid hql2;clear hrun hown3 hU3 hT hlen hown hU hnj hBs hc hc3 hb hql c1 hql2 hlq HQl
      go_upto_region 11 with (at_builtin; refine wpList_append_eq rfl _ _ _ rfl _ _ _ rfl rfl HRun.out ?_)
      clear HRun c0;go_wp2;go_roundw
      case rel => exact ⟨j + 1, a3, nj + 1, c3, by omega, by go_num, by rw [HQ2.out], rfl, by have := HNj.out; omega, HO3.out, HU3.out⟩
      case measure => simp [intOf]; omega
    ·obtain rfl : j = 15 := by omega
     have j1 : decide (((15 : Nat) : Int) < 15) = false := rfl;rw [List.take_of_length_le (by rw [HOk.out.len]; omega)] at hown hlen;rw [qlo_all HOk.out.pend];obtain ⟨a2, c2, w2, hrun2, hown2, hU2⟩ := app1 hown hlen hBs (by omega) ((S k).q : Int)
     have hn2 : ((encK S k ++ (S k).h) ++ [((S k).q : Int)]).length = nj + 1 := by rw [List.length_append, hlen]; rfl
     have hU12 := hU.trans hU2;have hB2 : w.heap.size ≤ w2.heap.size := Nat.le_trans hBs hU2.bel.size;have HRun2 : Hid _ := hrun2;obtain ⟨-, d30, d31, d32⟩ := HCell.out w2 ((hU12.oth q _ _ _ HKq.out (by decide)).trans HKq.out)
     cases hk : (S k).k with
     | none =>
      rw [hk] at d30;obtain ⟨a3, c3, w3, hrun3, hown3, hU3⟩ := app1 hown2 hn2 hB2 (by omega) 0;have HRun3 : Hid _ := hrun3
      have HE : Hid (encK S (k + 1) = ((encK S k ++ (S k).h) ++ [((S k).q : Int)]) ++ [0]) := by show encK S k ++ encP (S k) = _; unfold encP; rw [hk]; simp [encV]
      have HO := hid hown3;have HU : Hid (UW w.heap.size w w3) := HUW.out.trans (hU12.trans hU3)
      have HN : Hid (nj + 1 + 1 = (((encK S k ++ (S k).h) ++ [((S k).q : Int)]) ++ [0]).length) := by show _ = _; rw [List.length_append, hn2]; rfl
      dsimp only [Option.isSome] at d30;generalize ((S k).q : Int) = q0 at *;generalize (S k).pc = kpc at *;generalize (S k).st.length = kl at *;clear hrun2 hown2 hU2 hU12 hB2 hk hrun3 hown3 hU3 hn2 hlen hown hU hnj hBs d31 d32 HU2 HNj
      go_upto_region 14 with (at_builtin; refine wpList_append_eq rfl _ _ _ rfl _ _ _ rfl rfl HRun2.out ?_)
      clear HRun2
      go_wp2_with (at_builtin; refine wpList_append_eq rfl _ _ _ rfl _ _ _ rfl rfl HRun3.out ?_)
      go_roundw
      case rel => exact ⟨k + 1, a3, nj + 1 + 1, c3, by omega, by go_num, rfl, by rw [HE.out]; exact HN.out, by rw [HE.out]; exact HO.out, HU.out⟩
      case measure => simp [intOf]; omega
     | some z =>
      obtain ⟨pc, st⟩ := z;rw [hk] at d30;dsimp only [Option.isSome] at d30;obtain ⟨v1, v2, v3, v4⟩ := HOk.out.vm pc st hk
      have hpc : (S k).pc = pc := by unfold Sg.pc; rw [hk]; rfl
      have hst : (S k).st = st := by unfold Sg.st; rw [hk]; rfl
      have hT := HSt.out;rw [hst] at hT d32;rw [hpc] at d31;obtain ⟨a3, c3, w3, hrun3, hown3, hU3⟩ := app3 hown2 hn2 hB2 (by omega) 1 pc (st.length : Int)
      have hn3 : (((encK S k ++ (S k).h) ++ [((S k).q : Int)]) ++ [1, pc, (st.length : Int)]).length = nj + 1 + 3 := by rw [List.length_append, hn2]; rfl
      have hU13 := hU12.trans hU3;have hUw3 := HUW.out.trans hU13;obtain ⟨-, -, -, e32⟩ := HCell.out w3 ((hU13.oth q _ _ _ HKq.out (by decide)).trans HKq.out);rw [hst] at e32;obtain ⟨a4, c4, w4, hrun4, hown4, hU4⟩ := appS (cap := sc) hown3 hn3 hUw3.bel.size (by omega) (E := st) rfl (by omega) (hT.rd.below hUw3.bel);have HRun3 : Hid _ := hrun3;have HRun4 : Hid _ := hrun4
      have HE : Hid (encK S (k + 1) = (((encK S k ++ (S k).h) ++ [((S k).q : Int)]) ++ [1, pc, (st.length : Int)]) ++ st) := by show encK S k ++ encP (S k) = _; unfold encP; rw [hk]; simp [encV]
      have HO := hid hown4;have HU : Hid (UW w.heap.size w w4) := hUw3.trans hU4
      have HN : Hid (nj + 1 + 3 + st.length = ((((encK S k ++ (S k).h) ++ [((S k).q : Int)]) ++ [1, pc, (st.length : Int)]) ++ st).length) := by show _ = _; rw [List.length_append, hn3]
      have hwp : IntKind.u64.wrap pc = pc := by simp [IntKind.wrap, IntKind.bits, IntKind.signed]; omega
      have hwl : IntKind.u64.wrap (st.length : Int) = (st.length : Int) := by simp [IntKind.wrap, IntKind.bits, IntKind.signed]; omega
      generalize ((S k).q : Int) = q0 at *;generalize hkl : st.length = kl at *;clear hrun2 hown2 hU2 hU12 hB2 hk hrun3 hown3 hU3 hn2 hlen hown hU hnj hBs HU2 HNj hrun4 hown4 hU4 hT hpc hst hn3 hU13 hUw3 v1 v2 v3 v4 hkl
      go_upto_region 14 with (at_builtin; refine wpList_append_eq rfl _ _ _ rfl _ _ _ rfl rfl HRun2.out ?_)
      clear HRun2
      go_upto_region 17 with (at_builtin; refine wpList_append_eq rfl _ _ _ rfl _ _ _ rfl rfl HRun3.out ?_)
      clear HRun3 d30 d31 d32
      go_wp2_with (at_builtin; refine wpList_append_eq rfl _ _ _ rfl _ _ _ rfl rfl HRun4.out ?_)
      go_roundw
      case rel => exact ⟨k + 1, a4, nj + 1 + 3 + kl, c4, by omega, by go_num, rfl, by rw [HE.out]; exact HN.out, by rw [HE.out]; exact HO.out, HU.out⟩
      case measure => simp [intOf]; omega
  ·have i1 : decide ((k : Int) < 8) = false := decide_eq_false (by omega)
   have hk8 : k = 8 := by omega
   rw [hk8] at hown;have HO := hid hown;clear hown hU hnk hk8;go_wp2;go_ret;exact ⟨_, rfl, HO.out, HU.out.bel⟩
end Sg
namespace Ow
end Ow
namespace Sg
open Ow
def mq (x : Nat) : Nat := clr (x % 65536) 0
theorem mq_bit (x j : Nat) (h : j < 15) : (mq x).testBit (j + 1) = x.testBit (j + 1) := by
 unfold mq;rw [clr_bit (Nat.mod_lt _ (by omega)) (by omega), if_neg (by omega)];have := Nat.testBit_mod_two_pow x 16 (j + 1);rw [decide_eq_true (by omega), Bool.true_and] at this;exact this
theorem mq_ok (x : Nat) : QOk (mq x) := ⟨clr_lt (Nat.mod_lt _ (by omega)), by unfold mq; rw [clr_bit (Nat.mod_lt _ (by omega)) (by omega), if_pos rfl]⟩
theorem mq_same {x : Nat} (h : QOk x) : mq x = x := QOk.ext (mq_ok x) h (fun j h1 h2 => by
  obtain ⟨i, rfl⟩ : ∃ i, j = i + 1 := ⟨j - 1, by omega⟩
  exact mq_bit x i (by omega))
theorem shr_bit {x : Int} (h0 : 0 ≤ x) (h1 : x < 18446744073709551616) (i : Nat) : (bits .and .u64 (x / 2 ^ i) 1 == 1) = x.toNat.testBit i := by
 obtain ⟨X, rfl⟩ : ∃ X : Nat, x = (X : Int) := ⟨x.toNat, by omega⟩
 have e : ((X : Int) / 2 ^ i) = ((X / 2 ^ i : Nat) : Int) := by simp
 have hl : X / 2 ^ i < 18446744073709551616 := Nat.lt_of_le_of_lt (Nat.div_le_self _ _) (by omega);have h2 := u64_and_nat (X / 2 ^ i) 1 hl (by omega);rw [Int.toNat_natCast, e];have h3 : bits .and .u64 ((X / 2 ^ i : Nat) : Int) 1 = ((X / 2 ^ i &&& 1 : Nat) : Int) := h2;rw [h3, Nat.and_one_is_mod, Nat.testBit_eq_decide_div_mod_eq]
 by_cases q : X / 2 ^ i % 2 = 1
 ·rw [q, decide_eq_true rfl]
  rfl
 ·rw [decide_eq_false q]
  exact beq_false_of_ne (by omega)
def part (E : List Int) (x j : Nat) : Sg := ⟨E.take j ++ List.replicate (15 - j) dfl, qlo (mq x) j, none⟩
theorem part_zero (E : List Int) (x : Nat) : part E x 0 = Sg.first := by
 unfold part;rw [qlo_zero (mq_ok x)]
 rfl
theorem part_all (E : List Int) (x : Nat) : part E x 15 = ⟨E.take 15, mq x, none⟩ := by
 unfold part;rw [qlo_all (mq_ok x)]
 show (⟨E.take 15 ++ [], _, none⟩ : Sg) = _
 rw [List.append_nil]
theorem part_set {E : List Int} {x j : Nat} {y : Int} (hj : j < 15) (hy : E[j]? = some y) : (part E x j).h.set j y = (part E x (j + 1)).h := by
 have hl : (E.take j).length = j := by rw [List.length_take]; have := (List.getElem?_eq_some_iff.1 hy).1; omega
 show (E.take j ++ List.replicate (15 - j) dfl).set j y = E.take (j + 1) ++ List.replicate (15 - (j + 1)) dfl
 rw [List.set_append_right _ _ (by omega), hl, Nat.sub_self, show 15 - j = (15 - (j + 1)) + 1 by omega, List.replicate_succ, take_snoc hy, List.append_assoc]
 rfl
theorem part_bit (E : List Int) (x j : Nat) (hj : j < 15) : ∀ i, i < 15 → (qlo (mq x) (j + 1)).testBit (i + 1) = if i = j then x.testBit (j + 1) else (part E x j).q.testBit (i + 1) := fun i hi => by
 show _ = if i = j then _ else (qlo (mq x) j).testBit (i + 1)
 rw [qlo_bit, qlo_bit]
 by_cases e : i = j
 ·subst e
  rw [if_pos rfl, mq_bit x i hi, decide_eq_true (by omega), Bool.true_and]
 ·rw [if_neg e]
  congr 1
  rw [decide_eq_decide];omega
theorem part_step {w w1 w2 : World} {row : Array Value} {o x j : Nat} {E : List Int} {y : Int} (h : RgR w row o (part E x j)) (hj : j < 15) (hy : E[j]? = some y) (h1 : KeepW w w1) (h2 : KeepW w1 w2) :
  RgR w2 ((row.setIfInBounds (o + j) (.int .u64 y)).setIfInBounds (o + 15 + j) (.bool (x.testBit (j + 1)))) o (part E x (j + 1)) := by
 have hl : (part E x j).h.length = 15 := by
  show (E.take j ++ List.replicate (15 - j) dfl).length = 15
  rw [List.length_append, List.length_take, List.length_replicate];have := (List.getElem?_eq_some_iff.1 hy).1;omega
 have k1 := h.handler y hj hl h1;have k2 := k1.bit (q := qlo (mq x) (j + 1)) (x.testBit (j + 1)) hj (part_bit E x j hj) h2;rw [part_set hj hy] at k2;exact k2
def Step (D E : List Int) (S : SS) (k : Nat) : Prop := decS D = rdK S (8 - k) E k ∨ decS D = none
theorem Step.bad {D E : List Int} {S : SS} {k : Nat} (h : Step D E S k) (hk : k < 8) (h1 : rd1 E = none) : decS D = none := by
 rcases h with h | h
 ·rw [h, show 8 - k = (8 - (k + 1)) + 1 by omega, rdK_none h1]
 ·exact h
theorem Step.got {D E : List Int} {S : SS} {k m : Nat} {p : Sg} (h : Step D E S k) (hk : k < 8) (h1 : rd1 E = some (m, p)) : Step D (E.drop m) (S.set k p) (k + 1) := by
 rcases h with h | h
 ·left
  rw [h, show 8 - k = (8 - (k + 1)) + 1 by omega, rdK_some h1]
 ·exact Or.inr h
theorem Step.skip {D E F : List Int} {S T : SS} {k i : Nat} (h : Step D E S k) (hk : k < 8) (h1 : rd1 E = none) : Step D F T i := Or.inr (h.bad hk h1)
theorem short_none {E : List Int} (h : E.length < 17) : rd1 E = none := by unfold rd1; rw [if_pos h]
theorem eight_none {E : List Int} (h : E.getD 8 0 ≠ dfl) : rd1 E = none := by
 unfold rd1
 by_cases h1 : E.length < 17
 ·rw [if_pos h1]
 ·rw [if_neg h1, if_pos (Or.inl h)]
theorem vm_none {E : List Int} (h : E.getD 16 0 = 1) (hz : rdV (E.drop 17) = none) : rd1 E = none := by
 unfold rd1
 by_cases h1 : E.length < 17
 ·rw [if_pos h1]
 ·rw [if_neg h1, h, hz]
  split
  ·rfl
  ·rw [if_neg (by omega)]; rfl
theorem Step.plain {D E : List Int} {S : SS} {k : Nat} {x15 x16 : Int} (h : Step D E S k) (hk : k < 8) (hl : 17 ≤ E.length) (h8 : E.getD 8 0 = dfl) (h15 : E.getD 15 0 = x15) (h16 : E.getD 16 0 = x16) (p0 : 0 ≤ x15) (p1 : 0 ≤ x16) (hx : x16 ≠ 1) :
  Step D (E.drop 17) (S.set k ⟨E.take 15, mq x15.toNat, none⟩) (k + 1) := by
 cases hq : okQ x15 with
 | true =>
  by_cases h0 : x16 = 0
  ·have h1 : rd1 E = some (17, ⟨E.take 15, x15.toNat, none⟩) := by
    unfold rd1
    rw [if_neg (by omega), h15, h16, if_neg (by
      rintro (e | e | e)
      · exact e h8
      · rw [hq] at e; cases e
      · omega), if_pos h0]
   have := h.got hk h1;rw [mq_same (okQ_nat p0 hq)];exact this
  ·refine h.skip hk ?_
   unfold rd1;rw [if_neg (by omega), h15, h16, if_pos (Or.inr (Or.inr (by omega)))]
 | false =>
  refine h.skip hk ?_;unfold rd1;rw [if_neg (by omega), h15, h16, if_pos (Or.inr (Or.inl hq))]
theorem Step.full {D E : List Int} {S : SS} {k : Nat} {x15 pc : Int} {st : List Int} (h : Step D E S k) (hk : k < 8) (hl : 17 ≤ E.length) (h8 : E.getD 8 0 = dfl) (h15 : E.getD 15 0 = x15) (h16 : E.getD 16 0 = 1) (p0 : 0 ≤ x15) (hz : rdV (E.drop 17) = some (pc, st)) :
  Step D ((E.drop 17).drop (2 + st.length)) (S.set k ⟨E.take 15, mq x15.toNat, some (pc, st)⟩) (k + 1) := by
 cases hq : okQ x15 with
 | true =>
  have h1 : rd1 E = some (19 + st.length, ⟨E.take 15, x15.toNat, some (pc, st)⟩) := by
   unfold rd1
   rw [if_neg (by omega), h15, h16, if_neg (by
     rintro (e | e | e)
     · exact e h8
     · rw [hq] at e; cases e
     · omega), if_neg (by omega), hz]
   rfl
  have := h.got hk h1;rw [mq_same (okQ_nat p0 hq), List.drop_drop, show 17 + (2 + st.length) = 19 + st.length by omega];exact this
 | false =>
  refine h.skip hk ?_;unfold rd1;rw [if_neg (by omega), h15, h16, if_pos (Or.inr (Or.inl hq))]
theorem read_ok {E : List Int} {x15 : Nat} (hu : U64 E) (hl : 17 ≤ E.length) (h8 : E.getD 8 0 = dfl) : (⟨E.take 15, mq x15, none⟩ : Sg).Ok :=
 ⟨by show (E.take 15).length = 15; rw [List.length_take]; omega, by show (E.take 15)[8]? = some dfl; rw [List.getElem?_take_of_lt (by omega), getD_of (w := E) (i := 8) (by omega), h8], fun x hx => hu x (List.mem_of_mem_take hx), mq_ok _, fun pc st e => by cases e⟩
theorem read_okV {E : List Int} {x15 : Nat} {pc : Int} {st : List Int} (hu : U64 E) (hl : 17 ≤ E.length) (h8 : E.getD 8 0 = dfl) (hz : rdV (E.drop 17) = some (pc, st)) : (⟨E.take 15, mq x15, some (pc, st)⟩ : Sg).Ok := by
 have h := read_ok (x15 := x15) hu hl h8;obtain ⟨e1, e2, e3, e4, e5, e6⟩ := rdV_back (fun x hx => hu x (List.mem_of_mem_drop hx)) hz;exact ⟨h.len, h.nine, h.u64, h.pend, fun pc' st' e => by cases e; exact ⟨e3, e4, e5, e6⟩⟩
def deE (D : List Int) : Int := if (decS D).isSome then 0 else 101
theorem deE_no {D : List Int} (h : decS D = none) : deE D = 101 := by unfold deE; rw [h]; rfl
theorem deE_end {D E : List Int} {S : SS} {k : Nat} (h : Step D E S k) (hk : k = 8) (hp : U64 D) (hF : SOk S) (h0 : ∀ j, k ≤ j → S j = Sg.first) : deE D = if decide (encS S = D) then 0 else 101 := by
 subst hk
 by_cases e : encS S = D
 ·have : decS D = some S := by rw [← e]; exact dec_enc hF h0
  unfold deE;rw [this, decide_eq_true e]
  rfl
 ·rw [decide_eq_false e]
  refine deE_no ?_
  rcases h with h | h
  ·cases hd : decS D with
   | none => rfl
   | some T =>
    exfalso
    rw [hd] at h
    have h2 : T = S := by
     by_cases q : E = []
     ·rw [show 8 - 8 = 0 from rfl, rdK, if_pos q] at h
      exact (Option.some.inj h)
     ·rw [show 8 - 8 = 0 from rfl, rdK, if_neg q] at h
      cases h
    subst h2;exact e (dec_back hp hd).1
  ·exact h
theorem cut_wb (D : List Int) (a : Option Addr) (len cap i j : Nat) (hl : len = D.length) (hi : i ≤ j) (hj : j ≤ len) (hcap : len ≤ cap) : ∃ a2 c2, (∀ V, (Instr.slice 22 (.slice a len cap) (some (.int .i64 (i : Int))) (some (.int .i64 (j : Int))) none).run Tryz.prog V = .ok (.slice a2 (j - i) c2) V) ∧ (∀ W, Rd W a D → Rd W a2 ((D.drop i).take (j - i))) := by
 obtain ⟨i0, hi0, hzz⟩ := Option.map_eq_some_iff.1 wordInfo;simp only [Prod.mk.injEq] at hzz;refine ⟨if cap = i then a else a.map (·.add (i * 1)), cap - i, fun V => ?_, fun W ha => ?_⟩
 ·have hk0 : (i : Int) ≤ (j : Int) := by omega
  have hk1 : (j : Int) ≤ (cap : Int) := by omega
  rw [run_slice_lh V 22 _ _ _ Tryz.underlying22 _ _ _ _ (by omega) hk0 hk1];simp [sizeOf, typeInfo, elemW, hi0, sliced, hzz.2.1]
 ·intro m x hx
  have hm := (List.getElem?_eq_some_iff.1 hx).1;rw [List.length_take, List.length_drop] at hm;rw [List.getElem?_take_of_lt (by omega), List.getElem?_drop] at hx;obtain ⟨g, off, e, hc⟩ := ha (i + m) x hx;refine ⟨g, off + i, ?_, ?_⟩
  ·rw [if_neg (by omega), e]
   simp [Addr.add]
  ·rw [Nat.add_assoc]
   exact hc
theorem words_any (D E : List Int) (a b : Option Addr) (ca cb : Nat) (w : World) (ha : Rd w a D) (hb : Rd w b E) (hl : D.length ≤ 1000000) (hl2 : E.length ≤ 1000000) :
  Calls Tryz.prog 7 #[.slice a D.length ca, .slice b E.length cb] w fun e w' => e = .returned (.bool (decide (D = E))) ∧ Below w.heap.size w w' := by
 by_cases hle : D.length = E.length
 ·have HLE := hid hle
  rw [← hle];have HA : Hid _ := ha;have HB : Hid _ := hb;clear ha hb hle hl2
  go_enter Tryz.func7, Tryz.ntmps7
  go_wp2
  go_loopw [5] (fun s wr => ∃ (k : Nat), k ≤ D.length ∧ s = .int .i64 k ∧ D.take k = E.take k ∧ Below w.heap.size w wr) (fun s _ => D.length - (intOf s).toNat)
  case atStart => exact ⟨0, by omega, rfl, rfl, Below.refl _ _⟩
  case round =>
   obtain ⟨k, hk, rfl, htk, hbw⟩ := hrel;have HT := hid htk;clear htk
   by_cases hlt : k < D.length
   ·obtain ⟨x, hx⟩ : ∃ x, D[k]? = some x := ⟨D[k], List.getElem?_eq_getElem hlt⟩
    obtain ⟨y, hy⟩ : ∃ y, E[k]? = some y := ⟨E[k]'(by rw [← HLE.out]; exact hlt), List.getElem?_eq_getElem _⟩;obtain ⟨ga, oa, rfl, a0⟩ := (Rd.below HA.out hbw) k x hx;obtain ⟨gb, ob, rfl, b0⟩ := (Rd.below HB.out hbw) k y hy;have HX := hid hx;have HY := hid hy;clear hx hy
    by_cases hxy : x = y
    ·have HT2 : Hid (D.take (k + 1) = E.take (k + 1)) := by
      show _ = _
      rw [List.take_add_one, List.take_add_one, HT.out, HX.out, HY.out, hxy]
     subst hxy
     go_wp2_with fail
     go_region
     all_goals
      go_wp2;go_roundw
      case rel => exact ⟨k + 1, by omega, by go_num, HT2.out, hbw.drew⟩
      case measure => simp [intOf]; omega
    ·have HN : Hid (decide (D = E) = false) := by
      refine decide_eq_false (fun e => ?_);have h1 := HX.out;rw [e, HY.out] at h1;exact hxy (Option.some.inj h1).symm
     have g0 : (x == y) = false := beq_false_of_ne hxy;clear hxy
     go_wp2_with fail
     go_region
     all_goals
      go_wp2;go_ret;exact ⟨by rw [HN.out]; rfl, hbw.drew⟩
   ·have hkd : k = D.length := by omega
    have HN : Hid (decide (D = E) = true) := by
     refine decide_eq_true ?_;have h1 := HT.out;rw [hkd, List.take_length, HLE.out, List.take_length] at h1;exact h1
    have g0 : decide ((k : Int) < (D.length : Int)) = false := decide_eq_false (by omega);clear hkd;go_wp2;go_ret;exact ⟨by rw [HN.out]; rfl, hbw⟩
 ·have HN : Hid (decide (D = E) = false) := decide_eq_false (fun e => hle (by rw [e]))
  have g0 : ((D.length : Int) == (E.length : Int)) = false := beq_false_of_ne (by omega);clear ha hb hle
  go_enter Tryz.func7, Tryz.ntmps7
  go_wp2;go_ret;exact ⟨by rw [HN.out]; rfl, Below.refl _ _⟩
end Sg
end Go.Proofs.YtinaeifpoljfoaaGreatDoor
