import Derived.Test.YtbhpafgoofkkmaaGreatDoorMemAll
import Derived.BigRegion
import Derived.Deep.RegionHeld3
import Derived.Deep.RegionLaw
import Derived.Deep.AppendLies
import Derived.KernelRfl
set_option linter.all false
namespace Go.Proofs.YtbhpafgoofkkmaaGreatDoor
open Go.RowKit
namespace Me
theorem splice_getD (vs : List Int) (o : Nat) (ws : List Int) (h : o + ws.length ≤ vs.length) (i : Nat) :
  (splice vs o ws).getD i 0 = if o ≤ i ∧ i < o + ws.length then ws.getD (i - o) 0 else vs.getD i 0 := by
 simp only [splice, List.getD_eq_getElem?_getD]
 grind (splits := 30)
theorem frameOf_getD (vs : List Int) (f j : Nat) (h : j < 32) : (frameOf vs f).getD j 0 = vs.getD (f * 32 + j) 0 := by
 simp [frameOf, h]
theorem set_getD (vs : List Int) (o i : Nat) (v : Int) (h : o < vs.length) : (vs.set o v).getD i 0 = if i = o then v else vs.getD i 0 := by
 simp only [List.getD_eq_getElem?_getD, List.getElem?_set]
 by_cases e : i = o
 ·subst e; simp [h]
 ·rw [if_neg (fun x => e x.symm), if_neg e]
theorem list_ext_getD (xs ys : List Int) (h : xs.length = ys.length) (hg : ∀ i, i < xs.length → xs.getD i 0 = ys.getD i 0) : xs = ys := by
 apply List.ext_getElem h
 intro i h1 h2
 have := hg i h1
 simpa [h1, h2] using this
structure RefAt (w : World) (bx gx cap n : Nat) (rs : List Nat) (vs : List Int) : Prop where
 head : w.heap[bx]? = some (.cells #[.slice (some ⟨gx, 0, none⟩) n cap] 178)
 tab : ∀ i, i < n → w.cell? ⟨gx, i, none⟩ = some (.slice (some ⟨rs.getD i 0, 0, none⟩) 32 32)
 row : ∀ i, i < n → w.heap[rs.getD i 0]? = some (.cells (urow (frameOf vs i)) 42)
 len : vs.length = n * 32
 inj : ∀ i j, i < n → j < n → rs.getD i 0 = rs.getD j 0 → i = j
 far : ∀ i, i < n → rs.getD i 0 ≠ bx ∧ rs.getD i 0 ≠ gx
 pos : 0 < n
 ty : ∃ cs fr, w.heap[gx]? = some (.cells cs 27 fr)
theorem RefAt.cell {w : World} {bx gx cap n : Nat} {rs : List Nat} {vs : List Int} (h : RefAt w bx gx cap n rs vs) : w.cell? ⟨bx, 0, none⟩ = some (.slice (some ⟨gx, 0, none⟩) n cap) := by
 rw [cell_of_heap h.head]; rfl
theorem RefAt.word {w : World} {bx gx cap n : Nat} {rs : List Nat} {vs : List Int} (h : RefAt w bx gx cap n rs vs) (f k : Nat) (hf : f < n) (hk : k < 32) : w.cell? ⟨rs.getD f 0, k, none⟩ = some (.int .u64 (vs.getD (f * 32 + k) 0)) := by
 rw [cell_of_heap (h.row f hf), ← frameOf_getD vs f k hk]
 have hl := frameOf_length vs f n h.len hf
 simp [urow, hl, hk]
theorem RefAt.free {w : World} {bx gx cap n : Nat} {rs : List Nat} {vs : List Int} (h : RefAt w bx gx cap n rs vs) (f k : Nat) (hf : f < n) : w.frozen? ⟨rs.getD f 0, k, none⟩ = false := frozen_of_heap (h.row f hf)
theorem RefAt.tablt {w : World} {bx gx cap n : Nat} {rs : List Nat} {vs : List Int} (h : RefAt w bx gx cap n rs vs) : gx < w.heap.size := cell_lt (h.tab 0 h.pos)
def Rows? (n : Nat) (rs : List Nat) (k : Nat) : Prop := ∃ i, i < n ∧ k = rs.getD i 0
theorem RefAt.keep {w w' : World} {bx gx cap n : Nat} {rs : List Nat} {vs : List Int} (h : RefAt w bx gx cap n rs vs) (hb : w'.heap[bx]? = w.heap[bx]?) (hg : w'.heap[gx]? = w.heap[gx]?)
  (hr : ∀ i, i < n → w'.heap[rs.getD i 0]? = w.heap[rs.getD i 0]?) : RefAt w' bx gx cap n rs vs :=
 ⟨hb.trans h.head, fun i hi => by rw [World.cell?_of_block (w := w) (a := ⟨gx, i, none⟩) hg]; exact h.tab i hi, fun i hi => (hr i hi).trans (h.row i hi), h.len, h.inj, h.far, h.pos, by obtain ⟨cs, fr, e⟩ := h.ty; exact ⟨cs, fr, hg.trans e⟩⟩
theorem RefAt.below {w w' : World} {bx gx cap n : Nat} {rs : List Nat} {vs : List Int} (h : RefAt w bx gx cap n rs vs) (k : Below w.heap.size w w') : RefAt w' bx gx cap n rs vs :=
 h.keep (k.block _ (lt_of_heap h.head)) (k.block _ h.tablt) (fun i hi => k.block _ (lt_of_heap (h.row i hi)))
theorem frameOf_set (vs : List Int) (f i k : Nat) (v : Int) (hk : k < 32) : frameOf (vs.set (f * 32 + k) v) i = if i = f then (frameOf vs f).set k v else frameOf vs i := by
 apply List.ext_getElem?
 intro j
 by_cases e : i = f
 ·subst e
  rw [if_pos rfl]
  simp only [frameOf, List.getElem?_take, List.getElem?_drop, List.getElem?_set, List.length_take, List.length_drop]
  by_cases hj : j < 32
  ·rw [if_pos hj, if_pos hj]
   by_cases e2 : k = j
   ·subst e2
    rw [if_pos rfl, if_pos rfl]
    by_cases hl : i * 32 + k < vs.length
    ·rw [if_pos hl, if_pos (by omega)]
    ·rw [if_neg hl, if_neg (by omega)]
   ·rw [if_neg (by omega), if_neg e2]
  ·rw [if_neg hj, if_neg hj, if_neg (by omega)]
 ·rw [if_neg e]
  simp only [frameOf, List.getElem?_take, List.getElem?_drop, List.getElem?_set]
  by_cases hj : j < 32
  ·rw [if_pos hj, if_pos hj, if_neg (by omega)]
  ·rw [if_neg hj, if_neg hj]
theorem RefAt.set {w : World} {bx gx cap n : Nat} {rs : List Nat} {vs : List Int} (h : RefAt w bx gx cap n rs vs) (f k : Nat) (v : Int) (hf : f < n) (hk : k < 32) :
  RefAt (w.setCell ⟨rs.getD f 0, k, none⟩ (.int .u64 v)) bx gx cap n rs (vs.set (f * 32 + k) v) := by
 refine ⟨?_, fun i hi => ?_, fun i hi => ?_, by simp [h.len], h.inj, h.far, h.pos, by obtain ⟨cs, fr, e⟩ := h.ty; exact ⟨cs, fr, (Below.heap_setCell _ _ _ _ (Ne.symm (h.far f hf).2)).trans e⟩⟩
 ·rw [Below.heap_setCell _ _ _ _ (Ne.symm (h.far f hf).1)]; exact h.head
 ·rw [World.cell?_of_block (w := w) (a := ⟨gx, i, none⟩) (Below.heap_setCell _ _ _ _ (Ne.symm (h.far f hf).2))]; exact h.tab i hi
 ·rw [frameOf_set _ _ _ _ _ hk]
  by_cases e : i = f
  ·subst e
   rw [if_pos rfl, setCell_eq_setRow w _ k _ _ _ _ (h.row i hi), setRow_heap w _ _ _ _ _ (h.row i hi)]
   have e : (urow (frameOf vs i)).setIfInBounds k (Value.int .u64 v) = urow ((frameOf vs i).set k v) := by
    apply Array.ext'
    simp [urow, List.map_set]
   rw [e]
  ·rw [if_neg e, Below.heap_setCell _ _ _ _ (fun x => e (h.inj i f hi hf x))]
   exact h.row i hi
theorem _root_.Go.Proofs.YtbhpafgoofkkmaaGreatDoor.UpdP.row (n : Nat) (rs : List Nat) (f k : Nat) (hf : f < n) (w : World) (v : Value) : UpdP (Rows? n rs) w (w.setCell ⟨rs.getD f 0, k, none⟩ v) :=
 (Upd.setCell _ _ _ _).p _ ⟨f, hf, rfl⟩
set_option maxHeartbeats 400000 in
theorem rhas_at (bx gx cap n : Nat) (rs : List Nat) (vs : List Int) (f : Int) (w : World) (h : RefAt w bx gx cap n rs vs) :
  Calls Tryz.prog 107 #[.pointer (some ⟨bx, 0, none⟩), .int .i64 f] w fun e w' => e = .returned (.bool (inB f n)) ∧ w' = w := by
 have hc := h.cell
 by_cases h0 : 0 ≤ f
 all_goals
  go_enter Tryz.func107, Tryz.ntmps107
  go_wp2
  go_ret
  refine ⟨?_, rfl⟩
  first | (simp [inB, h0]; done) | (simp [inB]; omega)
theorem rhas_yes (bx gx cap n : Nat) (rs : List Nat) (vs : List Int) (f : Int) (w : World) (h : RefAt w bx gx cap n rs vs) (h0 : 0 ≤ f) (h1 : f < n) :
  Calls Tryz.prog 107 #[.pointer (some ⟨bx, 0, none⟩), .int .i64 f] w fun e w' => e = .returned (.bool true) ∧ w' = w := by
 have := rhas_at bx gx cap n rs vs f w h
 rwa [show inB f n = true from by simp [inB, h0, h1]] at this
theorem rhas_no (bx gx cap n : Nat) (rs : List Nat) (vs : List Int) (f : Int) (w : World) (h : RefAt w bx gx cap n rs vs) (h0 : ¬ (0 ≤ f ∧ f < n)) :
  Calls Tryz.prog 107 #[.pointer (some ⟨bx, 0, none⟩), .int .i64 f] w fun e w' => e = .returned (.bool false) ∧ w' = w := by
 have := rhas_at bx gx cap n rs vs f w h
 rwa [show inB f n = false from by simp only [inB, decide_eq_false_iff_not]; exact h0] at this
set_option maxHeartbeats 400000 in
theorem rread_at (bx gx cap n : Nat) (rs : List Nat) (vs : List Int) (f k : Int) (w : World) (h : RefAt w bx gx cap n rs vs) (h0 : 0 ≤ f) (h1 : f < n) (h2 : 0 ≤ k) (h3 : k < 32) :
  Calls Tryz.prog 156 #[.pointer (some ⟨bx, 0, none⟩), .int .i64 f, .int .i64 k] w fun e w' => e = .returned (.tuple #[.int .u64 (vs.getD (f.toNat * 32 + k.toNat) 0), .int .i64 0]) ∧ w' = w := by
 obtain ⟨f, rfl⟩ := nat_of f h0
 obtain ⟨k, rfl⟩ := nat_of k h2
 have hc := h.cell
 have ht := h.tab f (by omega)
 have hv := h.word f k (by omega) (by omega)
 generalize rs.getD f 0 = r at *
 simp only [Int.toNat_natCast]
 generalize vs.getD (f * 32 + k) 0 = x at *
 go_enter Tryz.func156, Tryz.ntmps156
 go_wp2_with (go_at_call 107; refine (rhas_yes bx gx cap n rs vs f _ h h0 h1).mono ?_; rintro e w' ⟨rfl, rfl⟩)
 go_ret2
 exact ⟨rfl, rfl⟩
set_option maxHeartbeats 400000 in
theorem rreadno_at (bx gx cap n : Nat) (rs : List Nat) (vs : List Int) (f k : Int) (w : World) (h : RefAt w bx gx cap n rs vs) (hno : ¬ (0 ≤ f ∧ f < n ∧ 0 ≤ k ∧ k < 32)) :
  Calls Tryz.prog 156 #[.pointer (some ⟨bx, 0, none⟩), .int .i64 f, .int .i64 k] w fun e w' => e = .returned (.tuple #[.int .u64 0, .int .i64 101]) ∧ w' = w := by
 by_cases hf : 0 ≤ f ∧ f < n
 ·obtain ⟨h0, h1⟩ := hf
  by_cases hk : k < 0
  all_goals
   have hk2 : k < 0 ∨ 32 ≤ k := by omega
   go_enter Tryz.func156, Tryz.ntmps156
   go_wp2_with (go_at_call 107; refine (rhas_yes bx gx cap n rs vs f _ h h0 h1).mono ?_; rintro e w' ⟨rfl, rfl⟩)
   go_ret2
   exact ⟨rfl, rfl⟩
 ·have HF : Hid _ := hf
  clear hf hno
  go_enter Tryz.func156, Tryz.ntmps156
  go_wp2_with (go_at_call 107; refine (rhas_no bx gx cap n rs vs f _ h HF).mono ?_; rintro e w' ⟨rfl, rfl⟩)
  go_ret2
  exact ⟨rfl, rfl⟩
set_option maxHeartbeats 400000 in
theorem rwrite_at (bx gx cap n : Nat) (rs : List Nat) (vs : List Int) (f k v : Int) (w : World) (h : RefAt w bx gx cap n rs vs) (h0 : 0 ≤ f) (h1 : f < n) (h2 : 0 ≤ k) (h3 : k < 32) :
  Calls Tryz.prog 157 #[.pointer (some ⟨bx, 0, none⟩), .int .i64 f, .int .i64 k, .int .u64 v] w fun e w' => e = .returned (.int .i64 0) ∧
   RefAt w' bx gx cap n rs (vs.set (f.toNat * 32 + k.toNat) v) ∧ UpdP (Rows? n rs) w w' := by
 obtain ⟨f, rfl⟩ := nat_of f h0
 obtain ⟨k, rfl⟩ := nat_of k h2
 have hs := h.set f k v (by omega) (by omega)
 have hu := UpdP.row n rs f k (by omega) w (.int .u64 v)
 have hc := h.cell
 have ht := h.tab f (by omega)
 have hv := h.word f k (by omega) (by omega)
 have hz := h.free f k (by omega)
 have HU : Hid _ := hs
 have HS : Hid _ := hu
 clear hs hu
 simp only [Int.toNat_natCast]
 generalize rs.getD f 0 = r at *
 go_enter Tryz.func157, Tryz.ntmps157
 go_wp2_with (go_at_call 107; refine (rhas_yes bx gx cap n rs vs f _ h h0 h1).mono ?_; rintro e w' ⟨rfl, rfl⟩)
 go_ret
 exact ⟨rfl, HU.out, HS.out⟩
set_option maxHeartbeats 400000 in
theorem rwriteno_at (bx gx cap n : Nat) (rs : List Nat) (vs : List Int) (f k v : Int) (w : World) (h : RefAt w bx gx cap n rs vs) (hno : ¬ (0 ≤ f ∧ f < n ∧ 0 ≤ k ∧ k < 32)) :
  Calls Tryz.prog 157 #[.pointer (some ⟨bx, 0, none⟩), .int .i64 f, .int .i64 k, .int .u64 v] w fun e w' => e = .returned (.int .i64 101) ∧ w' = w := by
 by_cases hf : 0 ≤ f ∧ f < n
 ·obtain ⟨h0, h1⟩ := hf
  by_cases hk : k < 0
  all_goals
   have hk2 : k < 0 ∨ 32 ≤ k := by omega
   go_enter Tryz.func157, Tryz.ntmps157
   go_wp2_with (go_at_call 107; refine (rhas_yes bx gx cap n rs vs f _ h h0 h1).mono ?_; rintro e w' ⟨rfl, rfl⟩)
   go_ret
   exact ⟨rfl, rfl⟩
 ·have HF : Hid _ := hf
  clear hf hno
  go_enter Tryz.func157, Tryz.ntmps157
  go_wp2_with (go_at_call 107; refine (rhas_no bx gx cap n rs vs f _ h HF).mono ?_; rintro e w' ⟨rfl, rfl⟩)
  go_ret
  exact ⟨rfl, rfl⟩
set_option maxHeartbeats 400000 in
theorem rpage_at (bx gx cap n : Nat) (rs : List Nat) (vs : List Int) (f : Int) (w : World) (h : RefAt w bx gx cap n rs vs) (h0 : 0 ≤ f) (h1 : f < n) :
  Calls Tryz.prog 43 #[.pointer (some ⟨bx, 0, none⟩), .int .i64 f] w fun e w' => e = .returned (.slice (some ⟨rs.getD f.toNat 0, 0, none⟩) 32 32) ∧ w' = w := by
 obtain ⟨f, rfl⟩ := nat_of f h0
 have hc := h.cell
 have ht := h.tab f (by omega)
 simp only [Int.toNat_natCast]
 generalize rs.getD f 0 = r at *
 go_enter Tryz.func43, Tryz.ntmps43
 go_wp2_with (go_at_call 107; refine (rhas_yes bx gx cap n rs vs f _ h h0 h1).mono ?_; rintro e w' ⟨rfl, rfl⟩)
 go_ret
 exact ⟨rfl, rfl⟩
theorem splice_nil (vs : List Int) (o : Nat) : splice vs o [] = vs := by simp [splice]
theorem splice_snoc (vs : List Int) (o : Nat) (ws : List Int) (v : Int) (h : o + ws.length < vs.length) : (splice vs o ws).set (o + ws.length) v = splice vs o (ws ++ [v]) := by
 apply list_ext_getD
 ·simp [splice]; omega
 ·intro i hi
  have hl := splice_length vs o ws (by omega)
  rw [set_getD _ _ _ _ (by rw [hl]; exact h), splice_getD _ _ _ (by omega), splice_getD _ _ _ (by simp; omega)]
  simp only [List.length_append, List.length_singleton, List.getD_eq_getElem?_getD]
  grind (splits := 30)
set_option maxHeartbeats 1000000 in
theorem rzero_at (bx gx cap n : Nat) (rs : List Nat) (vs : List Int) (f : Int) (w : World) (h : RefAt w bx gx cap n rs vs) (h0 : 0 ≤ f) (h1 : f < n) :
  Calls Tryz.prog 149 #[.pointer (some ⟨bx, 0, none⟩), .int .i64 f] w fun e w' => e = .returned (.int .i64 0) ∧
   RefAt w' bx gx cap n rs (splice vs (f.toNat * 32) (List.replicate 32 0)) ∧ UpdP (Rows? n rs) w w' := by
 obtain ⟨f, rfl⟩ := nat_of f h0
 simp only [Int.toNat_natCast]
 have HH : Hid _ := h
 go_enter Tryz.func149, Tryz.ntmps149
 go_wp2_with (go_at_call 107; refine (rhas_yes bx gx cap n rs vs f _ h h0 h1).mono ?_; rintro e w' ⟨rfl, rfl⟩)
 clear h
 go_loopw [5] (fun i wr => ∃ k : Nat, k ≤ 32 ∧ i = .int .i64 k ∧ RefAt wr bx gx cap n rs (splice vs (f * 32) (List.replicate k 0)) ∧ UpdP (Rows? n rs) w' wr) (fun i _ => 32 - (intOf i).toNat)
 case atStart => exact ⟨0, Nat.zero_le _, rfl, by rw [List.replicate_zero, splice_nil]; exact HH.out, UpdP.refl _ _⟩
 case round =>
  obtain ⟨k, hk, rfl, hm, hu⟩ := hrel
  by_cases hlt : k < 32
  ·have hc := hm.cell
   have ht := hm.tab f (by omega)
   have hv := hm.word f k (by omega) hlt
   have hz := hm.free f k (by omega)
   have hs := hm.set f k 0 (by omega) hlt
   have hl := (HH.out).len
   have es := splice_snoc vs (f * 32) (List.replicate k 0) 0 (by rw [List.length_replicate, hl]; omega)
   rw [List.length_replicate, ← List.replicate_succ'] at es
   rw [es] at hs
   have hu2 := hu.trans (UpdP.row n rs f k (by omega) wr (.int .u64 0))
   have HS : Hid _ := hs
   have HU : Hid _ := hu2
   clear hs hu2 es hm hu hl
   generalize rs.getD f 0 = r at *
   go_wp2
   go_roundw
   case rel => exact ⟨k + 1, by omega, by go_num, HS.out, HU.out⟩
   case measure => simp [intOf]; omega
  ·have : k = 32 := by omega
   subst this
   have HM : Hid _ := hm
   have HU : Hid _ := hu
   clear hm hu
   go_wp2
   go_ret
   exact ⟨rfl, HM.out, HU.out⟩
set_option maxHeartbeats 400000 in
theorem rzerono_at (bx gx cap n : Nat) (rs : List Nat) (vs : List Int) (f : Int) (w : World) (h : RefAt w bx gx cap n rs vs) (hno : ¬ (0 ≤ f ∧ f < n)) :
  Calls Tryz.prog 149 #[.pointer (some ⟨bx, 0, none⟩), .int .i64 f] w fun e w' => e = .returned (.int .i64 101) ∧ w' = w := by
 have HF : Hid _ := hno
 clear hno
 go_enter Tryz.func149, Tryz.ntmps149
 go_wp2_with (go_at_call 107; refine (rhas_no bx gx cap n rs vs f _ h HF).mono ?_; rintro e w' ⟨rfl, rfl⟩)
 go_ret
 exact ⟨rfl, rfl⟩
theorem copy_step (vs : List Int) (n t f k : Nat) (hl : vs.length = n * 32) (ht : t < n) (hf : f < n) (hk : k < 32) :
  (splice vs (t * 32) ((frameOf vs f).take k)).getD (f * 32 + k) 0 = (frameOf vs f).getD k 0 ∧
  (splice vs (t * 32) ((frameOf vs f).take k)).set (t * 32 + k) ((frameOf vs f).getD k 0) = splice vs (t * 32) ((frameOf vs f).take (k + 1)) := by
 have hfl := frameOf_length vs f n hl hf
 have htl : ((frameOf vs f).take k).length = k := by rw [List.length_take, hfl]; omega
 constructor
 ·rw [splice_getD _ _ _ (by rw [htl, hl]; omega), frameOf_getD _ _ _ hk]
  by_cases e : f = t
  ·subst e
   rw [if_neg (by rw [htl]; omega)]
  ·rw [if_neg (by rw [htl]; omega)]
 ·have es := splice_snoc vs (t * 32) ((frameOf vs f).take k) ((frameOf vs f).getD k 0) (by rw [htl, hl]; omega)
  rw [htl] at es
  rw [es]
  congr 1
  rw [List.take_succ_eq_append_getElem (by rw [hfl]; exact hk)]
  simp [hfl, hk]
set_option maxHeartbeats 2000000 in
theorem rcopy_at (bx gx cap n : Nat) (rs : List Nat) (vs : List Int) (t f : Int) (w : World) (h : RefAt w bx gx cap n rs vs) (h0 : 0 ≤ t) (h1 : t < n) (h2 : 0 ≤ f) (h3 : f < n) :
  Calls Tryz.prog 158 #[.pointer (some ⟨bx, 0, none⟩), .int .i64 t, .int .i64 f] w fun e w' => e = .returned (.int .i64 0) ∧
   RefAt w' bx gx cap n rs (splice vs (t.toNat * 32) (frameOf vs f.toNat)) ∧ UpdP (Rows? n rs) w w' := by
 obtain ⟨t, rfl⟩ := nat_of t h0
 obtain ⟨f, rfl⟩ := nat_of f h2
 simp only [Int.toNat_natCast]
 have HH : Hid _ := h
 go_enter Tryz.func158, Tryz.ntmps158
 go_wp2_with fail
 refine (rhas_yes bx gx cap n rs vs t _ h h0 h1).mono ?_
 rintro e w' ⟨rfl, rfl⟩
 go_wp2_with fail
 refine (rhas_yes bx gx cap n rs vs f _ h h2 h3).mono ?_
 rintro e w' ⟨rfl, rfl⟩
 go_wp2_with fail
 clear h
 go_loopw [7] (fun i wr => ∃ k : Nat, k ≤ 32 ∧ i = .int .i64 k ∧ RefAt wr bx gx cap n rs (splice vs (t * 32) ((frameOf vs f).take k)) ∧ UpdP (Rows? n rs) w' wr) (fun i _ => 32 - (intOf i).toNat)
 case atStart => exact ⟨0, Nat.zero_le _, rfl, by rw [List.take_zero, splice_nil]; exact HH.out, UpdP.refl _ _⟩
 case round =>
  obtain ⟨k, hk, rfl, hm, hu⟩ := hrel
  have hl := (HH.out).len
  by_cases hlt : k < 32
  ·obtain ⟨e1, e2⟩ := copy_step vs n t f k hl (by omega) (by omega) hlt
   have hc := hm.cell
   have ht := hm.tab t (by omega)
   have htf := hm.tab f (by omega)
   have hv := hm.word t k (by omega) hlt
   have hvf := hm.word f k (by omega) hlt
   rw [e1] at hvf
   have hz := hm.free t k (by omega)
   have hs := hm.set t k ((frameOf vs f).getD k 0) (by omega) hlt
   rw [e2] at hs
   have hu2 := hu.trans (UpdP.row n rs t k (by omega) wr (.int .u64 ((frameOf vs f).getD k 0)))
   have hs2 : RefAt (wr.setCell ⟨rs.getD t 0, k, none⟩ (.int .u64 ((frameOf vs f).getD k 0))).drew bx gx cap n rs (splice vs (t * 32) ((frameOf vs f).take (k + 1))) := hs.keep rfl rfl (fun _ _ => rfl)
   have hu3 : UpdP (Rows? n rs) w' (wr.setCell ⟨rs.getD t 0, k, none⟩ (.int .u64 ((frameOf vs f).getD k 0))).drew := ⟨hu2.os, hu2.tape, hu2.output, hu2.size, hu2.block⟩
   have HS : Hid _ := hs2
   have HU : Hid _ := hu3
   clear hs hs2 hu2 hu3 e1 e2 hm hu hl
   have b1 : (t : Int) < n := h1
   have b2 : (f : Int) < n := h3
   have b3 : (k : Int) < 32 := by omega
   generalize (frameOf vs f).getD k 0 = x at *
   generalize (splice vs (t * 32) ((frameOf vs f).take k)).getD (t * 32 + k) 0 = y at *
   generalize rs.getD f 0 = r at *
   generalize rs.getD t 0 = r2 at *
   go_wp2
   go_region
   go_wp2
   go_roundw
   case rel => exact ⟨k + 1, by omega, by go_num, HS.out, HU.out⟩
   case measure => simp [intOf]; omega
  ·have : k = 32 := by omega
   subst this
   rw [List.take_of_length_le (by rw [frameOf_length vs f n hl (by omega)]; omega)] at hm
   have HM : Hid _ := hm
   have HU : Hid _ := hu
   clear hm hu hl
   go_wp2
   go_ret
   exact ⟨rfl, HM.out, HU.out⟩
set_option maxHeartbeats 400000 in
theorem rcopyno_at (bx gx cap n : Nat) (rs : List Nat) (vs : List Int) (t f : Int) (w : World) (h : RefAt w bx gx cap n rs vs) (hno : ¬ (0 ≤ t ∧ t < n ∧ 0 ≤ f ∧ f < n)) :
  Calls Tryz.prog 158 #[.pointer (some ⟨bx, 0, none⟩), .int .i64 t, .int .i64 f] w fun e w' => e = .returned (.int .i64 101) ∧ w' = w := by
 by_cases ht : 0 ≤ t ∧ t < n
 ·obtain ⟨h0, h1⟩ := ht
  have HF : Hid (¬ (0 ≤ f ∧ f < n)) := fun h => hno ⟨h0, h1, h.1, h.2⟩
  clear hno
  go_enter Tryz.func158, Tryz.ntmps158
  go_wp2_with fail
  refine (rhas_yes bx gx cap n rs vs t _ h h0 h1).mono ?_
  rintro e w' ⟨rfl, rfl⟩
  go_wp2_with fail
  refine (rhas_no bx gx cap n rs vs f _ h HF).mono ?_
  rintro e w' ⟨rfl, rfl⟩
  go_wp2_with fail
  go_ret
  exact ⟨rfl, rfl⟩
 ·have HF : Hid _ := ht
  clear hno ht
  go_enter Tryz.func158, Tryz.ntmps158
  go_wp2_with fail
  refine (rhas_no bx gx cap n rs vs t _ h HF).mono ?_
  rintro e w' ⟨rfl, rfl⟩
  go_wp2_with fail
  go_ret
  exact ⟨rfl, rfl⟩
theorem info46 : (Tryz.prog.info? 27).map (fun i => (i.zero, i.size, i.bytes)) = some (some (.slice none 0 0), 1, 24) := by kernel_rfl
def rsl (r : Nat) : Value := .slice (some ⟨r, 0, none⟩) 32 32
structure Making (w : World) (bx k : Nat) (v : Value) (rs : List Nat) : Prop where
 head : w.heap[bx]? = some (.cells #[v] 178)
 own : w.ownsRow (bx + 1) 27 1 v k (rs.map rsl)
 len : rs.length = k
 row : ∀ i, i < k → w.heap[rs.getD i 0]? = some (.cells (zrow 32) 42)
 inj : ∀ i j, i < k → j < k → rs.getD i 0 = rs.getD j 0 → i = j
 far : ∀ i, i < k → bx < rs.getD i 0 ∧ v.ownBlock ≠ some (rs.getD i 0)
 at_ : ∀ g, v.ownBlock = some g → g < w.heap.size
theorem Making.start (w : World) (t : TypeId) : Making (w.alloc (.cells #[.slice none 0 0] 178)) w.heap.size 0 (.slice none 0 0) [] :=
 ⟨heap_alloc_new _ _, World.ownsRow_nil _ _ _ _, rfl, fun _ h => by omega, fun _ _ h => by omega, fun _ h => by omega, fun g h => by simp [Value.ownBlock] at h⟩
theorem Making.step {wr w1 : World} {bx k gg cap : Nat} {v : Value} {rs : List Nat} (hm : Making wr bx k v rs) (sl : Array Value) (hsl : sl = #[rsl wr.heap.size])
  (hown1 : w1.ownsRow (bx + 1) 27 1 (.slice (some ⟨gg, 0, none⟩) (k + 1) cap) (k + 1) (rs.map rsl ++ [rsl wr.heap.size]))
  (hgrow : ((wr.alloc (.cells (zrow 32) 42)).alloc (.cells sl 27)).drew.grownBy w1 v.ownBlock)
  (hat : v.ownBlock = some gg ∨ gg = wr.heap.size + 1 + 1) (hlt : gg < w1.heap.size) (hne : v.ownBlock ≠ some bx) :
  Making (w1.setCell ⟨bx, 0, none⟩ (.slice (some ⟨gg, 0, none⟩) (k + 1) cap)) bx (k + 1) (.slice (some ⟨gg, 0, none⟩) (k + 1) cap) (rs ++ [wr.heap.size]) ∧
   Below bx wr (w1.setCell ⟨bx, 0, none⟩ (.slice (some ⟨gg, 0, none⟩) (k + 1) cap)) := by
 have hbx := lt_of_heap hm.head
 have hgsz : wr.heap.size + 1 + 1 ≤ w1.heap.size := by have := hgrow.size; simpa using this
 have hown0 := hm.own
 have hvlow : ∀ g, v.ownBlock = some g → bx < g := by
  intro g e
  rcases hown0.2 with ⟨e2, _⟩ | ⟨g', cap', cur, e2, hg, _⟩
  ·rw [e2] at e; simp [Value.ownBlock] at e
  ·rw [e2] at e; simp [Value.ownBlock] at e; omega
 have hgg : bx < gg := by
  rcases hat with e | e
  ·exact hvlow gg e
  ·omega
 have old : ∀ j, j < wr.heap.size → v.ownBlock ≠ some j → w1.heap[j]? = wr.heap[j]? := by
  intro j hj hn
  rw [hgrow.block j (by show j < ((wr.alloc _).alloc _).heap.size; simp; omega) (fun e => hn e.symm)]
  show ((wr.alloc _).alloc _).heap[j]? = _
  rw [Below.heap_alloc _ _ _ (by simp; omega), Below.heap_alloc _ _ _ hj]
 have hvnew : v.ownBlock ≠ some wr.heap.size := by
  intro e
  have := hm.at_ _ e
  omega
 have new : w1.heap[wr.heap.size]? = some (.cells (zrow 32) 42) := by
  rw [hgrow.block wr.heap.size (by show wr.heap.size < ((wr.alloc _).alloc _).heap.size; simp; omega) (fun e => hvnew e.symm)]
  show ((wr.alloc _).alloc _).heap[wr.heap.size]? = _
  rw [Below.heap_alloc _ _ _ (by simp), heap_alloc_new]
 have hrlt : ∀ i, i < k → rs.getD i 0 < wr.heap.size := fun i hi => lt_of_heap (hm.row i hi)
 have getl : ∀ i, i < k → (rs ++ [wr.heap.size]).getD i 0 = rs.getD i 0 := by
  intro i hi
  have : i < rs.length := by rw [hm.len]; exact hi
  simp [List.getElem?_append, this]
 have getk : (rs ++ [wr.heap.size]).getD k 0 = wr.heap.size := by
  simp [hm.len]
 have hrow : ∀ i, i < k + 1 → w1.heap[(rs ++ [wr.heap.size]).getD i 0]? = some (.cells (zrow 32) 42) ∧ bx < (rs ++ [wr.heap.size]).getD i 0 ∧ gg ≠ (rs ++ [wr.heap.size]).getD i 0 := by
  intro i hi
  by_cases hik : i < k
  ·rw [getl i hik]
   refine ⟨(old _ (hrlt i hik) (hm.far i hik).2).trans (hm.row i hik), (hm.far i hik).1, ?_⟩
   rcases hat with e | e
   ·intro x; exact (hm.far i hik).2 (by rw [e, x])
   ·have := hrlt i hik; omega
  ·have : i = k := by omega
   subst this
   rw [getk]
   refine ⟨new, hbx, ?_⟩
   rcases hat with e | e
   ·intro x; exact hvnew (by rw [e, x])
   ·omega
 constructor
 ·refine ⟨?_, ?_, by simp [hm.len], fun i hi => ?_, fun i j hi hj e => ?_, fun i hi => ⟨(hrow i hi).2.1, ?_⟩, fun g e => ?_⟩
  ·have hh : w1.heap[bx]? = some (.cells #[v] 178 (0, 0)) := (old bx hbx hne).trans hm.head
   rw [setCell_eq_setRow w1 bx 0 _ _ _ _ hh, setRow_heap w1 bx _ _ _ _ hh]
   rfl
  ·rw [List.map_append]
   exact ownsRow_setCell_below hown1 (by show bx < bx + 1; omega) _
  ·rw [Below.heap_setCell _ _ _ _ (by have := (hrow i hi).2.1; simp only; omega)]
   exact (hrow i hi).1
  ·by_cases hik : i < k
   ·by_cases hjk : j < k
    ·rw [getl i hik, getl j hjk] at e
     exact hm.inj i j hik hjk e
    ·have : j = k := by omega
     subst this
     rw [getl i hik, getk] at e
     have := hrlt i hik; omega
   ·have : i = k := by omega
    subst this
    by_cases hjk : j < i
    ·rw [getl j hjk, getk] at e
     have := hrlt j hjk; omega
    ·omega
  ·intro e
   simp only [Value.ownBlock, Option.some.injEq] at e
   exact (hrow i hi).2.2 e
  ·simp only [Value.ownBlock, Option.some.injEq] at e
   subst e
   simpa [World.setCell] using hlt
 ·have hb1 : Below bx wr w1 := by
   refine ⟨?_, ?_, ?_, by omega, fun j hj => ?_⟩
   ·have := hgrow.os; exact this
   ·have := hgrow.tape; exact this
   ·have := hgrow.output; exact this
   ·exact old j (by omega) (fun e => by have := hvlow j e; omega)
  exact hb1.setCell (p := ⟨bx, 0, none⟩) (Nat.le_refl _) _
set_option maxRecDepth 100000 in
set_option maxHeartbeats 3200000 in
theorem rnew_at (n : Int) (w : World) (h1 : 1 ≤ n) (h2 : n ≤ 1024) :
  Calls Tryz.prog 118 #[.int .i64 n] w fun e w' => e = .returned (.pointer (some ⟨w.heap.size, 0, none⟩)) ∧
   (∃ v rs, Making w' w.heap.size n.toNat v rs) ∧ Below w.heap.size w w' := by
 obtain ⟨N, rfl⟩ := nat_of n (by omega)
 simp only [Int.toNat_natCast]
 obtain ⟨i0, hi0, hz0, hz1, hz2⟩ := info_parts info46
 have hmk := make_page
 have t1 : decide ((N : Int) < 1) = false := by simp; omega
 have t2 : decide (1024 < (N : Int)) = false := by simp; omega
 go_enter Tryz.func118, Tryz.ntmps118
 go_wp2
 go_loopw [4] (fun i wr => ∃ (k : Nat) (v : Value) (rs : List Nat), k ≤ N ∧ i = .int .i64 k ∧ Making wr w.heap.size k v rs ∧ Below w.heap.size w wr) (fun i _ => N - (intOf i).toNat)
 case atStart => exact ⟨0, _, [], Nat.zero_le _, rfl, Making.start _ 0, (Below.refl _ _).alloc (Nat.le_refl _) _⟩
 case round =>
  obtain ⟨k, v, rs, hk, rfl, hm, hb⟩ := hrel
  by_cases hlt : k < N
  ·have hc : wr.cell? ⟨w.heap.size, 0, none⟩ = some v := by rw [cell_of_heap hm.head]; rfl
   have hz : wr.frozen? ⟨w.heap.size, 0, none⟩ = false := frozen_of_heap hm.head
   have hl := lt_of_heap hm.head
   have hown := hm.own
   have hne : v.ownBlock ≠ some w.heap.size := by
    intro e
    rcases hown.2 with ⟨e2, _⟩ | ⟨g, cap, cur, e2, hg, _⟩
    ·rw [e2] at e; simp [Value.ownBlock] at e
    ·rw [e2] at e; simp [Value.ownBlock] at e; omega
   have HM : Hid _ := hm
   have HB : Hid _ := hb
   have HZ : Hid _ := hz
   clear hm hb
   have hnb : ((wr.alloc (.cells (zrow 32) 42)).alloc (.cells #[.slice (some ⟨wr.heap.size, 0, none⟩) 32 32] 27)).drew.heap[wr.heap.size + 1]? = some (.cells #[.slice (some ⟨wr.heap.size, 0, none⟩) 32 32] 27 (0, 0)) := by
    have := heap_alloc_new (wr.alloc (.cells (zrow 32) 42)) (.cells #[.slice (some ⟨wr.heap.size, 0, none⟩) 32 32] 27)
    rw [World.size_alloc] at this
    exact this
   have HNB : Hid _ := hnb
   clear hnb
   have hfa := frozen?_alloc_cells
   go_wp2
   go_region_law
    ((refine step_append_lies _ (by rfl) _ _ _ (by rfl) (w.heap.size + 1) 27 i0 _ 1 24 Tryz.underlying41 hi0 hz0 hz1 hz2 rfl (by omega) v k (rs.map rsl) (by rfl) (((hown.alloc _).alloc _).drew)
        ⟨wr.heap.size + 1, 0, none⟩ 1 1 [.slice (some ⟨wr.heap.size, 0, none⟩) 32 32] (by rfl) (by rfl) (World.news_of_block (cs := #[.slice (some ⟨wr.heap.size, 0, none⟩) 32 32]) (t := 27) (fr := (0, 0)) HNB.out) (by simp [Value.oneCell'])
        (by omega) (by unfold maxLen; omega) (by omega) (by simp; omega) (wr.heap.size + 1 + 1) (by simp) ?_; intro gg cap w1 hown1 hgrow hat hlt1; have hcw := hgrow.cell_far ⟨w.heap.size, 0, none⟩ (by simp; omega) (Ne.symm hne); have hfw := hgrow.frozen_far ⟨w.heap.size, 0, none⟩ (by simp; omega) (Ne.symm hne)))
   all_goals
    go_wp2
    go_roundw
    case rel =>
     obtain ⟨q1, q2⟩ := (HM.out).step _ rfl hown1 hgrow hat hlt1 hne
     exact ⟨k + 1, _, _, by omega, by go_num, q1, (HB.out).trans q2⟩
    case measure => simp [intOf]; omega
  ·have : k = N := by omega
   subst this
   go_wp2
   go_ret
   exact ⟨rfl, ⟨v, rs, hm⟩, hb⟩
theorem frame_zeros (n i : Nat) (hi : i < n) : frameOf (List.replicate (n * 32) (0 : Int)) i = List.replicate 32 0 := by
 simp only [frameOf, List.drop_replicate, List.take_replicate]
 congr 1
 omega
theorem Making.done {w : World} {bx n : Nat} {v : Value} {rs : List Nat} (hm : Making w bx n v rs) (hn : 0 < n) :
  ∃ gx cap, RefAt w bx gx cap n rs (List.replicate (n * 32) 0) ∧ bx < gx ∧ ∀ i, i < n → bx < rs.getD i 0 := by
 have hown := hm.own
 rcases hown.2 with ⟨_, e⟩ | ⟨g, cap, cur, hv, hg, hh, hc, _, hcs, ht⟩
 ·omega
 ·refine ⟨g, cap, ⟨?_, fun i hi => ?_, fun i hi => ?_, by simp, hm.inj, fun i hi => ⟨by have := (hm.far i hi).1; omega, ?_⟩, hn, ⟨cur, _, hh⟩⟩, by omega, fun i hi => (hm.far i hi).1⟩
  ·rw [hm.head, hv]
  ·rw [cell_of_heap hh]
   have e1 : (cur.toList.take (n * 1))[i]? = (rs.map rsl)[i]? := by rw [ht]
   have hil : i < rs.length := by rw [hm.len]; exact hi
   rw [List.getElem?_take_of_lt (by omega), List.getElem?_map] at e1
   have e2 : rs[i]? = some (rs.getD i 0) := by simp [hil]
   rw [e2] at e1
   simpa [rsl] using e1
  ·rw [hm.row i hi, frame_zeros n i hi, zrow_urow]
  ·have := (hm.far i hi).2
   rw [hv] at this
   simp only [Value.ownBlock, ne_eq, Option.some.injEq] at this
   exact fun e => this e.symm
section
variable {W : World} {bx gx cap n : Nat} {rs : List Nat} {vs : List Int}
theorem rread_all (h : RefAt W bx gx cap n rs vs) (f d : Int) : Calls Tryz.prog 156 #[.pointer (some ⟨bx, 0, none⟩), .int .i64 f, .int .i64 d] W fun e w' => e = .returned (.tuple #[.int .u64 (valR n vs f d), .int .i64 (errW n f d)]) ∧ w' = W := by
 by_cases hc : 0 ≤ f ∧ f < n ∧ 0 ≤ d ∧ d < 32
 ·rw [valR, errW, if_pos hc, if_pos hc]
  exact rread_at _ _ _ _ _ _ f d W h hc.1 hc.2.1 hc.2.2.1 hc.2.2.2
 ·rw [valR, errW, if_neg hc, if_neg hc]
  exact rreadno_at _ _ _ _ _ _ f d W h hc
theorem rwrite_all (h : RefAt W bx gx cap n rs vs) (f d x : Int) : Calls Tryz.prog 157 #[.pointer (some ⟨bx, 0, none⟩), .int .i64 f, .int .i64 d, .int .u64 x] W fun e w' => e = .returned (.int .i64 (errW n f d)) ∧ RefAt w' bx gx cap n rs (putW n vs f d x) ∧ UpdP (Rows? n rs) W w' := by
 by_cases hc : 0 ≤ f ∧ f < n ∧ 0 ≤ d ∧ d < 32
 ·rw [putW, errW, if_pos hc, if_pos hc]
  exact rwrite_at _ _ _ _ _ _ f d x W h hc.1 hc.2.1 hc.2.2.1 hc.2.2.2
 ·rw [putW, errW, if_neg hc, if_neg hc]
  refine (rwriteno_at _ _ _ _ _ _ f d x W h hc).mono fun e w' ⟨he, hw⟩ => ⟨he, ?_⟩
  subst hw
  exact ⟨h, UpdP.refl _ _⟩
theorem rcopy_all (h : RefAt W bx gx cap n rs vs) (f d : Int) : Calls Tryz.prog 158 #[.pointer (some ⟨bx, 0, none⟩), .int .i64 f, .int .i64 d] W fun e w' => e = .returned (.int .i64 (errC n f d)) ∧ RefAt w' bx gx cap n rs (putC n vs f d) ∧ UpdP (Rows? n rs) W w' := by
 by_cases hc : 0 ≤ f ∧ f < n ∧ 0 ≤ d ∧ d < n
 ·rw [putC, errC, if_pos hc, if_pos hc]
  exact rcopy_at _ _ _ _ _ _ f d W h hc.1 hc.2.1 hc.2.2.1 hc.2.2.2
 ·rw [putC, errC, if_neg hc, if_neg hc]
  refine (rcopyno_at _ _ _ _ _ _ f d W h hc).mono fun e w' ⟨he, hw⟩ => ⟨he, ?_⟩
  subst hw
  exact ⟨h, UpdP.refl _ _⟩
theorem rzero_all (h : RefAt W bx gx cap n rs vs) (f : Int) : Calls Tryz.prog 149 #[.pointer (some ⟨bx, 0, none⟩), .int .i64 f] W fun e w' => e = .returned (.int .i64 (errZ n f)) ∧ RefAt w' bx gx cap n rs (putZ n vs f) ∧ UpdP (Rows? n rs) W w' := by
 by_cases hc : 0 ≤ f ∧ f < n
 ·rw [putZ, errZ, if_pos hc, if_pos hc]
  exact rzero_at _ _ _ _ _ _ f W h hc.1 hc.2
 ·rw [putZ, errZ, if_neg hc, if_neg hc]
  refine (rzerono_at _ _ _ _ _ _ f W h hc).mono fun e w' ⟨he, hw⟩ => ⟨he, ?_⟩
  subst hw
  exact ⟨h, UpdP.refl _ _⟩
end
end Me
end Go.Proofs.YtbhpafgoofkkmaaGreatDoor
