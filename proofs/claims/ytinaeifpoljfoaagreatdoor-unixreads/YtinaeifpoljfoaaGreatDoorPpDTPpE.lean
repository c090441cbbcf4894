import Derived.Test.YtinaeifpoljfoaaGreatDoorPpMTPpC
set_option linter.all false
set_option maxRecDepth 100000
set_option maxHeartbeats 16000000
namespace Go.Proofs.YtinaeifpoljfoaaGreatDoor
open Go.RowKit Go.Lib
namespace Ow
end Ow
namespace Pp
open Ow
structure PpR (row : Array Value) (S : PS) : Prop where
 size : row.size = 288
 made : ∀ i, i < 16 → row[i]? = some (.bool (S i).isSome)
 ring : ∀ i, i < 16 → ∃ e, Ring row (16 + i * 17) e ((S i).getD [])
theorem PpR.fits {row : Array Value} {S : PS} (h : PpR row S) : Fit8 S := by
 intro i l hi hl;obtain ⟨e, hr⟩ := h.ring i hi;rw [hl] at hr;exact hr.len
theorem PpR.put {row row' : Array Value} {S : PS} (h : PpR row S) {i e' : Nat} {l' : List UInt8} (hi : i < 16) (hs : Same (16 + i * 17) row row') (hr : Ring row' (16 + i * 17) e' l') (hm : (S i).isSome = true) : PpR row' (S.set i (some l')) := by
 refine ⟨hs.1.trans h.size, fun j hj => ?_, fun j hj => ?_⟩
 ·rw [hs.2 j (by omega), h.made j hj]
  by_cases e : j = i
  ·subst e; rw [PS.set_same, hm]; rfl
  ·rw [PS.set_other _ _ _ _ e]
 ·by_cases e : j = i
  ·subst e; rw [PS.set_same]; exact ⟨e', hr⟩
  ·rw [PS.set_other _ _ _ _ e]
   obtain ⟨e2, h2⟩ := h.ring j hj;exact ⟨e2, h2.keep hs.1 (fun k h3 h4 => hs.2 k (by omega))⟩
theorem PpR.mk' {row : Array Value} {S : PS} (h : PpR row S) {i : Nat} (hi : i < 16) (hm : S i = none) : PpR (row.setIfInBounds i (.bool true)) (S.set i (some [])) := by
 have hs := h.size;refine ⟨by rw [Array.size_setIfInBounds]; exact hs, fun j hj => ?_, fun j hj => ?_⟩
 ·rw [Array.getElem?_setIfInBounds]
  by_cases e : i = j
  ·subst e; rw [if_pos rfl, if_pos (by omega), PS.set_same]; rfl
  ·rw [if_neg e, PS.set_other _ _ _ _ (fun q => e q.symm)]; exact h.made j hj
 ·obtain ⟨e2, h2⟩ := h.ring j hj
  refine ⟨e2, ?_⟩
  have h3 : ((S.set i (some [])) j).getD [] = (S j).getD [] := by
   by_cases e : j = i
   ·subst e; rw [PS.set_same, hm]; rfl
   ·rw [PS.set_other _ _ _ _ e]
  rw [h3];exact h2.keep (by simp) (fun k h3 h4 => by rw [Array.getElem?_setIfInBounds, if_neg (by omega)])
def PpAt (w : World) (b : Nat) (S : PS) : Prop := ∃ row, PB w b row ∧ PpR row S
section
variable {w w' : World} {b : Nat} {S : PS}
theorem PpAt.lt (h : PpAt w b S) : b < w.heap.size := by
 obtain ⟨row, hr, _⟩ := h;exact hr.lt
theorem PpAt.keep (h : PpAt w b S) (hb : w'.heap[b]? = w.heap[b]?) : PpAt w' b S := by
 obtain ⟨row, hr, h1⟩ := h;exact ⟨row, hr.keep hb, h1⟩
theorem PpAt.below (h : PpAt w b S) (hb : Below w.heap.size w w') : PpAt w' b S := h.keep (hb.block _ h.lt)
theorem PpAt.fits (h : PpAt w b S) : Fit8 S := by
 obtain ⟨row, _, h1⟩ := h;exact h1.fits
theorem PpAt.ext {T : PS} (h : PpAt w b S) (he : ∀ i, i < 16 → T i = S i) : PpAt w b T := by
 obtain ⟨row, h0, h1⟩ := h;exact ⟨row, h0, h1.size, fun i hi => by rw [he i hi]; exact h1.made i hi, fun i hi => by rw [he i hi]; exact h1.ring i hi⟩
end
theorem ptr_eq (b : Nat) (W : World) : (binOp .eql 56 (.pointer (some ⟨b, 0, none⟩)) (.pointer none)).run Tryz.prog W = .ok (.bool false) W := by go_simp
theorem rptr_eq (b o : Nat) (W : World) : (binOp .eql 216 (.pointer (some ⟨b, o, none⟩)) (.pointer none)).run Tryz.prog W = .ok (.bool false) W := by go_simp
def nrow : Array Value := (List.replicate 16 (Value.bool false) ++ (List.replicate 16 (nop ++ [Value.int .i64 0])).flatten).toArray
theorem ring_of {row : Array Value} {o : Nat} (h : o + 17 ≤ row.size) (h1 : ∀ i, i < 17 → row[o + i]? = (nop ++ [Value.int .i64 0])[i]?) : Ring row o 0 [] := by
 refine ⟨h, by omega, by simp, (h1 16 (by omega)).trans rfl, fun j hj => ?_, fun j hj => ?_⟩
 ·rw [Nat.zero_add, Nat.mod_eq_of_lt hj, h1 _ (by omega), List.getElem?_append_left (by show j * 2 < 16; omega), (nop_get j hj).1]
  rfl
 ·rw [Nat.zero_add, Nat.mod_eq_of_lt hj, Nat.add_assoc, h1 _ (by omega), List.getElem?_append_left (by show j * 2 + 1 < 16; omega), (nop_get j hj).2, byt_no (by simp)]
theorem flat_get (z : List Value) (m : Nat) (hz : z.length = 17) : ∀ i j, i < m → j < 17 → ((List.replicate m z).flatten)[i * 17 + j]? = z[j]? := by
 induction m with
 | zero => intro i j hi; omega
 | succ m ih =>
  intro i j hi hj;rw [List.replicate_succ, List.flatten_cons]
  cases i with
  | zero => rw [List.getElem?_append_left (by omega)]; congr 1; omega
  | succ i =>
   rw [List.getElem?_append_right (by omega), hz, show (i + 1) * 17 + j - 17 = i * 17 + j by omega];exact ih i j (by omega) hj
theorem flat_len (z : List Value) (hz : z.length = 17) : ∀ m, ((List.replicate m z).flatten).length = m * 17
 | 0 => rfl
 | m + 1 => by rw [List.replicate_succ, List.flatten_cons, List.length_append, flat_len z hz m, hz]; omega
theorem nrow_R : PpR nrow PS.none := by
 have hz : (nop ++ [Value.int .i64 0]).length = 17 := rfl
 have h1 : nrow.size = 288 := by
  unfold nrow;rw [List.size_toArray, List.length_append, flat_len _ hz, List.length_replicate]
 refine ⟨h1, fun i hi => ?_, fun i hi => ⟨0, ring_of (by omega) (fun j hj => ?_)⟩⟩
 ·unfold nrow
  rw [List.getElem?_toArray, List.getElem?_append_left (by simpa using hi), List.getElem?_replicate, if_pos hi]
  rfl
 ·unfold nrow
  rw [List.getElem?_toArray, List.getElem?_append_right (by simp; omega), List.length_replicate, show 16 + i * 17 + j - 16 = i * 17 + j by omega];exact flat_get _ 16 hz i j hi hj
theorem nrow_zero : (Tryz.prog.info? 160).map (·.zero) = some (some (.agg nrow)) := by kernel_rfl
theorem zero_pipes (W : World) : (zeroValue 160).run Tryz.prog W = .ok (.agg nrow) W := by
 obtain ⟨i, hi, hz⟩ := Option.map_eq_some_iff.1 nrow_zero;simp [zeroValue, typeInfo, hi, hz]
theorem new_at (w : World) :
  Calls Tryz.prog 42 #[] w fun x w' => x = .returned (.pointer (some ⟨w.heap.size, 0, none⟩)) ∧ PpAt w' w.heap.size PS.none ∧ Below w.heap.size w w' ∧ w'.heap.size = w.heap.size + 1 := by
 have HR : Hid (PpR nrow PS.none) := nrow_R;have hz := zero_pipes;generalize nrow = R at *
 go_enter Tryz.func42, Tryz.ntmps42
 go_wp2;go_ret;exact ⟨rfl, ⟨R, heap_alloc_new _ _, HR.out⟩, below_alloc _ _, by simp⟩
theorem ring_no (b : Nat) (S : PS) (n : Int) (w : World) (h : PpAt w b S) (hn : has S n = false) :
  Calls Tryz.prog 260 #[.pointer (some ⟨b, 0, none⟩), .int .i64 n] w fun x w' => x = .returned (.pointer none) ∧ w' = w := by
 have hne := ptr_eq b;obtain ⟨row, hP, hR⟩ := h
 rcases has_no hn with hc | hc | ⟨i, rfl, hi, hs⟩
 ·have g0 : decide (n < 0) = true := decide_eq_true hc
  clear hn hP hR
  go_enter Tryz.func260, Tryz.ntmps260
  go_wp2;go_ret;exact ⟨rfl, rfl⟩
 ·have g0 : decide (n < 0) = false := decide_eq_false (by omega)
  have g1 : decide (16 ≤ n) = true := decide_eq_true hc;clear hn hP hR
  go_enter Tryz.func260, Tryz.ntmps260
  go_wp2;go_ret;exact ⟨rfl, rfl⟩
 ·have g0 : decide ((i : Int) < 0) = false := decide_eq_false (by omega)
  have g1 : decide (16 ≤ (i : Int)) = false := decide_eq_false (by omega)
  have hii : (i : Int) < 16 := by omega
  have c0 := (hP.cell i).trans (hR.made i hi);rw [hs] at c0;dsimp only [Option.isSome] at c0;clear hn hP hR hs
  go_enter Tryz.func260, Tryz.ntmps260
  go_wp2;go_ret;exact ⟨rfl, rfl⟩
theorem ring_yes (b i : Nat) (l : List UInt8) (S : PS) (w : World) (h : PpAt w b S) (hi : i < 16) (hs : S i = some l) :
  Calls Tryz.prog 260 #[.pointer (some ⟨b, 0, none⟩), .int .i64 i] w fun x w' => x = .returned (.pointer (some ⟨b, 16 + i * 17, none⟩)) ∧ w' = w := by
 have hne := ptr_eq b;obtain ⟨row, hP, hR⟩ := h;have g0 : decide ((i : Int) < 0) = false := decide_eq_false (by omega);have g1 : decide (16 ≤ (i : Int)) = false := decide_eq_false (by omega)
 have hii : (i : Int) < 16 := by omega
 have c0 := (hP.cell i).trans (hR.made i hi);rw [hs] at c0;dsimp only [Option.isSome] at c0;clear hP hR hs
 go_enter Tryz.func260, Tryz.ntmps260
 go_wp2;go_ret;exact ⟨rfl, rfl⟩
theorem put_at (b : Nat) (S : PS) (n : Int) (s : List UInt8) (w : World) (h : PpAt w b S) :
  Calls Tryz.prog 211 #[.pointer (some ⟨b, 0, none⟩), .int .i64 n, tx s] w fun x w' => x = .returned (.int .i64 (puI S n s)) ∧ PpAt w' b (puS S n s) ∧ Upd b w w' := by
 cases hh : has S n with
 | false =>
  have hR := ring_no b S n w h hh;have HH : Hid (PpAt w b S) := h
  have HI : Hid (puI S n s = 0) := by show _ = _; unfold puI; rw [hh]; rfl
  have HS : Hid (puS S n s = S) := by show _ = _; unfold puS; rw [hh]; rfl
  clear h hh
  go_enter Tryz.func211, Tryz.ntmps211
  go_wp2_with fail
  refine hR.mono ?_;rintro x w1 ⟨rfl, hw⟩;rw [hw];clear hw w1 hR;go_wp2;go_ret;exact ⟨by rw [HI.out]; rfl, by rw [HS.out]; exact HH.out, Upd.refl _ _⟩
 | true =>
  obtain ⟨i, l, rfl, hi, hl⟩ := has_nat hh;have hR := ring_yes b i l S w h hi hl;obtain ⟨row, hP, hQ⟩ := h;obtain ⟨e, hr⟩ := hQ.ring i hi;rw [hl] at hr;have hPu := rput_at b (16 + i * 17) e l s row w hP hr;have hne := rptr_eq b (16 + i * 17)
  have HI : Hid (puI S i s = (putN l s : Int)) := by show _ = _; unfold puI; rw [if_pos hh, inn_of hi hl]
  have HS : Hid (puS S i s = S.set i (some (putL l s))) := by show _ = _; unfold puS; rw [if_pos hh, inn_of hi hl, Int.toNat_natCast]
  have HQ : Hid (PpR row S) := hQ
  have HM : Hid ((S i).isSome = true) := by show _ = _; rw [hl]; rfl
  clear hP hQ hr hh hl
  go_enter Tryz.func211, Tryz.ntmps211
  go_wp2_with fail
  refine hR.mono ?_;rintro x w1 ⟨rfl, hw⟩;rw [hw];clear hw w1 hR
  go_wp2_with fail
  refine hPu.mono ?_;rintro x w1 ⟨rfl, row', hP', hr', hsm, hu⟩;have HF : Hid (PpAt w1 b (S.set i (some (putL l s)))) := ⟨row', hP', HQ.out.put hi hsm hr' HM.out⟩;have HU : Hid (Upd b w w1) := hu;clear hPu hP' hr' hsm hu;go_wp2;go_ret;exact ⟨by rw [HI.out]; rfl, by rw [HS.out]; exact HF.out, HU.out⟩
theorem take_at (b : Nat) (S : PS) (n k : Int) (w : World) (h : PpAt w b S) :
  Calls Tryz.prog 208 #[.pointer (some ⟨b, 0, none⟩), .int .i64 n, .int .i64 k] w fun x w' => x = .returned (tx (taT S n k)) ∧ PpAt w' b (taS S n k) ∧ Upd b w w' := by
 cases hh : has S n with
 | false =>
  have hR := ring_no b S n w h hh;have HH : Hid (PpAt w b S) := h
  have HI : Hid (taT S n k = []) := by show _ = _; unfold taT; rw [inn_no hh]; exact List.take_nil
  have HS : Hid (taS S n k = S) := by show _ = _; unfold taS; rw [hh]; rfl
  clear h hh
  go_enter Tryz.func208, Tryz.ntmps208
  go_wp2_with fail
  refine hR.mono ?_;rintro x w1 ⟨rfl, hw⟩;rw [hw];clear hw w1 hR;go_wp2;go_ret;exact ⟨by rw [HI.out]; rfl, by rw [HS.out]; exact HH.out, Upd.refl _ _⟩
 | true =>
  obtain ⟨i, l, rfl, hi, hl⟩ := has_nat hh;have hR := ring_yes b i l S w h hi hl;obtain ⟨row, hP, hQ⟩ := h;obtain ⟨e, hr⟩ := hQ.ring i hi;rw [hl] at hr;have hTa := rtake_at b (16 + i * 17) e l k row w hP hr;have hne := rptr_eq b (16 + i * 17)
  have HI : Hid (taT S i k = l.take (tk l k)) := by show _ = _; unfold taT; rw [inn_of hi hl]
  have HS : Hid (taS S i k = S.set i (some (l.drop (tk l k)))) := by show _ = _; unfold taS; rw [if_pos hh, inn_of hi hl, Int.toNat_natCast]
  have HQ : Hid (PpR row S) := hQ
  have HM : Hid ((S i).isSome = true) := by show _ = _; rw [hl]; rfl
  clear hP hQ hr hh hl;generalize l.take (tk l k) = T1 at *;generalize l.drop (tk l k) = T2 at *
  go_enter Tryz.func208, Tryz.ntmps208
  go_wp2_with fail
  refine hR.mono ?_;rintro x w1 ⟨rfl, hw⟩;rw [hw];clear hw w1 hR
  go_wp2_with fail
  refine hTa.mono ?_;rintro x w1 ⟨rfl, row', e', hP', hr', hsm, hu⟩;have HF : Hid (PpAt w1 b (S.set i (some T2))) := ⟨row', hP', HQ.out.put hi hsm hr' HM.out⟩;have HU : Hid (Upd b w w1) := hu;clear hTa hP' hr' hsm hu;go_wp2;go_ret;exact ⟨by rw [HI.out]; rfl, by rw [HS.out]; exact HF.out, HU.out⟩
end Pp
namespace Ow
end Ow
namespace Pp
open Ow
def mvs (S : PS) : List Value := (List.range 16).map (fun i => Value.bool (S i).isSome)
theorem mvs_len (S : PS) : (mvs S).length = 16 := by simp [mvs]
theorem mvs_get (S : PS) (i : Nat) (hi : i < 16) : (mvs S)[i]? = some (.bool (S i).isSome) := by
 unfold mvs;rw [List.getElem?_map, List.getElem?_range hi]
 rfl
theorem mvs_range {w : World} {b : Nat} {row : Array Value} {S : PS} (hP : PB w b row) (hR : PpR row S) : w.rangeAt b 0 (mvs S) := by
 intro j v hv
 have hj : j < 16 := by have := (List.getElem?_eq_some_iff.1 hv).1; rwa [mvs_len] at this
 rw [mvs_get S j hj] at hv;rw [Nat.zero_add, hP.cell, hR.made j hj];exact hv
theorem bools16 : (Tryz.prog.info? 114).map (·.size) = some 16 := by kernel_rfl
theorem made_index (S : PS) (p : Nat) (hp : p < 16) (W : World) : (Instr.index 114 (.agg (mvs S).toArray) (.int .i64 p)).run Tryz.prog W = .ok (.bool (S p).isSome) W := by
 have h1 : (mvs S).toArray[p * 1]? = some (.bool (S p).isSome) := by
  rw [Nat.mul_one, List.getElem?_toArray, mvs_get S p hp]
 have hs : (sizeOf 4).run Tryz.prog W = .ok 1 W := by kernel_rfl
 have ha : (isAgg 4).run Tryz.prog W = .ok false W := by kernel_rfl
 have hi : 0 ≤ (p : Int) ∧ (p : Int) < (16 : Nat) := by omega
 simp only [Instr.index, Sem.run_bind, asIntOf, Sem.run_pure, Result.andThen_ok, run_underlying Tryz.underlying114, if_pos hi, hs, part, ha, Int.toNat_natCast, h1, Bool.false_eq_true, if_false]
theorem make_at (b : Nat) (S : PS) (w : World) (h : PpAt w b S) :
  Calls Tryz.prog 156 #[.pointer (some ⟨b, 0, none⟩)] w fun x w' => x = .returned (.tuple #[.int .i64 (mkI S), .int .i64 (mkE S)]) ∧ PpAt w' b (mkS S) ∧ Upd b w w' := by
 obtain ⟨row, hP, hR⟩ := h;have hne := ptr_eq b;have HL : Hid (w.rangeAt b 0 (mvs S)) := mvs_range hP hR;have HP : Hid (PB w b row) := hP;have HR : Hid (PpR row S) := hR;have hll : (mvs S).length = 16 := mvs_len S;clear hP hR
 go_enter Tryz.func156, Tryz.ntmps156
 go_wp2_with (first | (refine wpList_load_mid rfl 114 _ rfl b 0 rfl (mvs S) _ HL.out Tryz.underlying114 rfl (by rw [hll]; exact bools16) ?_) | go_in)
 clear HL hll
 go_loopw [12] (fun s wr => ∃ (k : Nat), k ≤ 16 ∧ s = .int .i64 k ∧ free S = lowF S k (16 - k) ∧ wr = w) (fun s _ => 16 - (intOf s).toNat)
 case atStart => exact ⟨0, by omega, rfl, rfl, rfl⟩
 case round =>
  obtain ⟨k, hk, rfl, hf, hw⟩ := hrel;subst hw;have HF : Hid (free S = lowF S k (16 - k)) := hf;clear hf
  by_cases hlt : k < 16
  ·have i1 : decide ((k : Int) < 16) = true := decide_eq_true (by omega)
   have hki : (k : Int) < 16 := by omega
   have hix := made_index S k hlt;have c0 := (HP.out.cell k).trans (HR.out.made k hlt);have f0 := HP.out.free k
   have h16 : 16 - k = (16 - (k + 1)) + 1 := by omega
   rw [h16] at HF;clear h16
   cases hs : S k with
   | none =>
    rw [hs] at hix c0;dsimp only [Option.isSome] at hix c0;have HFk : Hid (free S = k) := HF.out.trans (lowF_here hs);have HR2 : Hid (PpR (row.setIfInBounds k (.bool true)) (S.set k (some []))) := HR.out.mk' hlt hs;clear hs HF;go_wp2
    go_ret2
    refine ⟨?_, ⟨_, HP.out.set _ _, ?_⟩, Upd.setCell _ _ _ _⟩
    ·unfold mkI mkE
     rw [HFk.out, if_pos hlt, if_pos hlt]
     rfl
    ·unfold mkS
     rw [HFk.out, if_pos hlt];exact HR2.out
   | some l =>
    rw [hs] at hix c0;dsimp only [Option.isSome] at hix c0;have HF2 : Hid (free S = lowF S (k + 1) (16 - (k + 1))) := HF.out.trans (lowF_next hs);clear hs HF;go_wp2;go_roundw
    case rel => exact ⟨k + 1, by omega, by go_num, HF2.out, by first | rfl | trivial⟩
    case measure => simp [intOf]; omega
  ·have i1 : decide ((k : Int) < 16) = false := decide_eq_false (by omega)
   have HFk : Hid (¬ free S < 16) := by
    show ¬ _
    rw [HF.out, show 16 - k = 0 by omega];unfold lowF;omega
   clear HF;go_wp2
   go_ret2
   refine ⟨?_, ?_, Upd.refl _ _⟩
   ·unfold mkI mkE
    rw [if_neg HFk.out, if_neg HFk.out]
    rfl
   ·unfold mkS
    rw [if_neg HFk.out];exact ⟨row, HP.out, HR.out⟩
structure UW (B : Nat) (w w' : World) : Prop where
 bel : Below B w w'
 oth : ∀ (k : Nat) (cs : Array Value) (t : TypeId) (fz : Nat × Nat), w.heap[k]? = some (.cells cs t fz) → t ≠ 45 → w'.heap[k]? = w.heap[k]?
theorem UW.refl (B : Nat) (w : World) : UW B w w := ⟨Below.refl _ _, fun _ _ _ _ _ _ => rfl⟩
theorem UW.trans {B : Nat} {a b c : World} (h : UW B a b) (k : UW B b c) : UW B a c :=
 ⟨h.bel.trans k.bel, fun i cs t fz hi ht => by
   have h1 := h.oth i cs t fz hi ht
   exact (k.oth i cs t fz (h1.trans hi) ht).trans h1⟩
theorem UW.of_below {B : Nat} {w w' : World} (hB : B ≤ w.heap.size) (h : Below w.heap.size w w') : UW B w w' := ⟨h.mono hB, fun i cs t fz hi ht => h.block i (lt_of_heap hi)⟩
theorem UW.pb {B : Nat} {w w' : World} (h : UW B w w') {b : Nat} {row : Array Value} (hb : PB w b row) : PB w' b row := hb.keep (h.oth b _ _ _ hb (by decide))
theorem UW.bt {B : Nat} {w w' : World} (h : UW B w w') {g : Nat} {l : List UInt8} (hb : Bt w g l) : Bt w' g l := by
 obtain ⟨cur, h1, h2⟩ := hb;exact ⟨cur, (h.oth g _ _ _ h1 (by decide)).trans h1, h2⟩
theorem UW.own {w w' : World} {B : Nat} {v : Value} {n : Nat} {xs : List Value} (h : w.ownsRow B 45 1 v n xs) (hs : B ≤ w.heap.size) (hg : w.grownBy w' v.ownBlock) : UW B w w' := by
 refine ⟨below_grown hg hs (ownsRow_low h), fun i cs t fz hi ht => hg.block i (lt_of_heap hi) (fun e => ?_)⟩;obtain ⟨c2, k2⟩ := own_type h e.symm;rw [hi] at k2;simp only [Option.some.injEq, Obj.cells.injEq] at k2;exact ht k2.2.1
theorem app1 {w : World} {B n c : Nat} {a : Option Addr} {D : List Int} (ho : w.ownsRow B 45 1 (.slice a n c) D.length (uvs D)) (hn : D.length = n) (hB : B ≤ w.heap.size) (hl : n ≤ 2000) (x0 : Int) :
  ∃ a' c' w', (∀ ty, (Builtin.append_ #[22, 22] ty #[.slice a n c, .slice (some ⟨w.heap.size, 0, none⟩) 1 1]).run Tryz.prog (w.alloc (.cells #[.int .u64 x0] 45)) = .ok (.slice a' (n + 1) c') w') ∧ w'.ownsRow B 45 1 (.slice a' (n + 1) c') (D ++ [x0]).length (uvs (D ++ [x0])) ∧ UW B w w' := by
 obtain ⟨i0, hi0, hzz⟩ := Option.map_eq_some_iff.1 wordInfo;simp only [Prod.mk.injEq] at hzz;obtain ⟨hz0, hz1, hz2⟩ := hzz;have hbe : Below w.heap.size w (w.alloc (.cells #[.int .u64 x0] 45)) := below_alloc _ _;have hnew : (w.alloc (.cells #[.int .u64 x0] 45)).heap[w.heap.size]? = some (.cells #[.int .u64 x0] 45) := heap_alloc_new _ _;have ho1 := ownsRow_below ho hbe
 obtain ⟨g', cap', w', hr', hown, hgrow, _, _⟩ := run_append_lies (P := Tryz.prog) _ 22 0 B 45 i0 _ 1 8 Tryz.underlying22 hi0 hz0 hz1 hz2 rfl (by omega) _ D.length (uvs D) ho1
  ⟨w.heap.size, 0, none⟩ 1 1 (uvs [x0]) rfl (fun j x hx => by
    rw [add0, Nat.zero_add, cell_of_heap hnew, ← hx]
    simp [uvs]) (uvs_one _) (by omega) (by unfold maxLen; omega) (by omega) (Nat.le_trans hB hbe.size) _ rfl
 rw [hn] at hr' hown;refine ⟨some ⟨g', 0, none⟩, cap', w', fun ty => hr', ?_, (UW.of_below hB hbe).trans (UW.own ho1 (Nat.le_trans hB hbe.size) hgrow)⟩;rw [List.length_append, uvs_app, hn];exact hown
theorem app2 {w : World} {B n c : Nat} {a : Option Addr} {D : List Int} (ho : w.ownsRow B 45 1 (.slice a n c) D.length (uvs D)) (hn : D.length = n) (hB : B ≤ w.heap.size) (hl : n ≤ 2000) (x0 x1 : Int) :
  ∃ a' c' w', (∀ ty, (Builtin.append_ #[22, 22] ty #[.slice a n c, .slice (some ⟨w.heap.size, 0, none⟩) 2 2]).run Tryz.prog (w.alloc (.cells #[.int .u64 x0, .int .u64 x1] 45)) = .ok (.slice a' (n + 2) c') w') ∧ w'.ownsRow B 45 1 (.slice a' (n + 2) c') (D ++ [x0, x1]).length (uvs (D ++ [x0, x1])) ∧ UW B w w' := by
 obtain ⟨i0, hi0, hzz⟩ := Option.map_eq_some_iff.1 wordInfo;simp only [Prod.mk.injEq] at hzz;obtain ⟨hz0, hz1, hz2⟩ := hzz;have hbe : Below w.heap.size w (w.alloc (.cells #[.int .u64 x0, .int .u64 x1] 45)) := below_alloc _ _;have hnew : (w.alloc (.cells #[.int .u64 x0, .int .u64 x1] 45)).heap[w.heap.size]? = some (.cells #[.int .u64 x0, .int .u64 x1] 45) := heap_alloc_new _ _;have ho1 := ownsRow_below ho hbe
 obtain ⟨g', cap', w', hr', hown, hgrow, _, _⟩ := run_append_lies (P := Tryz.prog) _ 22 0 B 45 i0 _ 1 8 Tryz.underlying22 hi0 hz0 hz1 hz2 rfl (by omega) _ D.length (uvs D) ho1
  ⟨w.heap.size, 0, none⟩ 2 2 (uvs [x0, x1]) rfl (fun j x hx => by
    rw [add0, Nat.zero_add, cell_of_heap hnew, ← hx]
    simp [uvs]) (uvs_one _) (by omega) (by unfold maxLen; omega) (by omega) (Nat.le_trans hB hbe.size) _ rfl
 rw [hn] at hr' hown;refine ⟨some ⟨g', 0, none⟩, cap', w', fun ty => hr', ?_, (UW.of_below hB hbe).trans (UW.own ho1 (Nat.le_trans hB hbe.size) hgrow)⟩;rw [List.length_append, uvs_app, hn];exact hown
end Pp
end Go.Proofs.YtinaeifpoljfoaaGreatDoor
