import Derived.Test.YtbhpafgoofkkmaaGreatDoorFrames
import Derived.Test.YtbhpafgoofkkmaaGreatDoorDiskAB
import Derived.Test.YtbhpafgoofkkmaaGreatDoorIpcAll
import Derived.Lib.AppendZerosOnto
import Derived.Lib.SliceRun
set_option linter.all false
namespace Go.Proofs.YtbhpafgoofkkmaaGreatDoor
open Go.RowKit
def OW (w : World) (B : Nat) (v : Value) (xs : List Int) : Prop := w.ownsRow B 42 1 v xs.length (uvs xs)
section
variable {w w' : World} {B : Nat} {v : Value} {xs ys : List Int}
theorem OW.urow (h : OW w B v xs) : URow B w v xs := urow_of_own h
theorem OW.nil (w : World) (B : Nat) : OW w B (.slice none 0 0) [] := World.ownsRow_nil w B _ _
theorem OW.below (h : OW w B v xs) (hb : Below w.heap.size w w') : OW w' B v xs := ownsRow_below h hb
theorem OW.form (h : OW w B v xs) : ∃ a c, v = .slice a xs.length c ∧ xs.length ≤ c := by
 rcases h.2 with ⟨rfl, e⟩ | ⟨g, cap, cur, rfl, _, _, h1, _⟩
 ·exact ⟨none, 0, by rw [e], by omega⟩
 ·exact ⟨_, cap, rfl, h1⟩
theorem OW.at (h : OW w B v xs) (hb : ∀ g, v.ownBlock = some g → w'.heap[g]? = w.heap[g]?) : OW w' B v xs := by
 refine ⟨h.1, ?_⟩
 rcases h.2 with h2 | ⟨g, cap, cur, e, h1, h3, r⟩
 ·exact Or.inl h2
 ·exact Or.inr ⟨g, cap, cur, e, h1, (hb g (by rw [e]; rfl)).trans h3, r⟩
theorem grow_wordsR (h : OW w B v xs) {a : Option Addr} {c : Nat} (hr : ∀ (j : Nat) (x : Int), ys[j]? = some x → ∃ g off, a = some ⟨g, off, none⟩ ∧ w.cell? ⟨g, off + j, none⟩ = some (.int .u64 x)) (hl : (xs.length + ys.length) * 8 ≤ 140737488355328) (hB : B ≤ w.heap.size) :
  ∃ a' c' w', (∀ ty, (Builtin.append_ #[27, 27] ty #[v, .slice a ys.length c]).run Tryz.prog w = .ok (.slice a' (xs.length + ys.length) c') w') ∧ OW w' B (.slice a' (xs.length + ys.length) c') (xs ++ ys) ∧ Below B w w' ∧ w.grownBy w' v.ownBlock := by
 obtain ⟨i0, hi0, hzz⟩ := Option.map_eq_some_iff.1 Di.wordInfo
 simp only [Prod.mk.injEq] at hzz
 obtain ⟨hz0, hz1, hz2⟩ := hzz
 by_cases hn : ys.length = 0
 ·have : ys = [] := List.length_eq_zero_iff.1 hn
  subst this
  obtain ⟨av, cv, rfl, hcv⟩ := h.form
  refine ⟨av, cv, w, fun ty => ?_, ?_, Below.refl _ _, ⟨rfl, rfl, rfl, Nat.le_refl _, fun _ _ _ => rfl⟩⟩
  ·have := Ip.run_append_zero (P := Tryz.prog) w 27 42 i0 Tryz.underlying27 hi0 av a xs.length cv c hcv ty
   simpa using this
  ·simpa using h
 ·obtain ⟨x, hx⟩ : ∃ x, ys[0]? = some x := ⟨ys[0], List.getElem?_eq_getElem (by omega)⟩
  obtain ⟨g, off, rfl, _⟩ := hr 0 x hx
  obtain ⟨g', cap', w', hrun, hown, hgrow, _, _⟩ := run_append_lies (P := Tryz.prog) w 27 0 B 42 i0 _ 1 8 Tryz.underlying27 hi0 hz0 hz1 hz2 rfl (by omega) v xs.length (uvs xs) h
   ⟨g, off, none⟩ ys.length c (uvs ys) (by rw [uvs_len]; omega) (fun j u hu => by
     obtain ⟨y, hy, rfl⟩ := uvs_get hu
     obtain ⟨g2, off2, e, hc⟩ := hr j y hy
     simp only [Option.some.injEq, Addr.mk.injEq] at e
     obtain ⟨rfl, rfl, _⟩ := e
     rw [add0]
     exact hc) (uvs_one ys) (by omega) (by unfold maxLen; omega) (by omega) hB _ rfl
  have e1 : (xs ++ ys).length = xs.length + ys.length := List.length_append
  have e2 : uvs (xs ++ ys) = uvs xs ++ uvs ys := by simp [uvs]
  refine ⟨some ⟨g', 0, none⟩, cap', w', fun ty => hrun, by unfold OW; rw [e1, e2]; exact hown, below_grown hgrow hB (ownsRow_low h), hgrow⟩
theorem grow_words (h : OW w B v xs) {u : Value} (hu : RdV w u ys) (hl : (xs.length + ys.length) * 8 ≤ 140737488355328) (hB : B ≤ w.heap.size) :
  ∃ a' c' w', (∀ ty, (Builtin.append_ #[27, 27] ty #[v, u]).run Tryz.prog w = .ok (.slice a' (xs.length + ys.length) c') w') ∧ OW w' B (.slice a' (xs.length + ys.length) c') (xs ++ ys) ∧ Below B w w' ∧ w.grownBy w' v.ownBlock := by
 obtain ⟨a, c, rfl, _, hr⟩ := hu
 exact grow_wordsR h hr hl hB
end
theorem make_words (n : Nat) (h : n ≤ 1000000) (w : World) :
  (Instr.makeSlice 27 (.int .i64 (n : Int)) (.int .i64 (n : Int))).run Tryz.prog w = .ok (.slice (some ⟨w.heap.size, 0, none⟩) n n) (w.alloc (.cells (zrow n) 42)) := by
 have := run_make_flat (P := Tryz.prog) 27 42 (.int .u64 0) (.int .u64 0) 1 8 Tryz.underlying27 Di.wordInfo rfl (by omega) .i64 .i64 n (by omega) (by omega) w
 rw [Nat.mul_one] at this
 exact this
theorem ow_block {w : World} {B g n : Nat} {xs : List Int} (h : w.heap[g]? = some (.cells (urow xs) 42)) (hB : B ≤ g) (hn : xs.length = n) (hl : n ≤ 1000000) : OW w B (.slice (some ⟨g, 0, none⟩) n n) xs := by
 subst hn
 refine ⟨by rw [uvs_len, Nat.mul_one], Or.inr ⟨g, xs.length, urow xs, rfl, hB, h, Nat.le_refl _, by unfold maxLen; omega, by rw [urow_size, Nat.mul_one], ?_⟩⟩
 have e : (urow xs).toList = uvs xs := by simp [urow, uvs]
 rw [e, Nat.mul_one, List.take_of_length_le (by rw [uvs_len]; exact Nat.le_refl _)]
def laidTo (xs : List Int) (k : Nat) : List Int := xs.take k ++ List.replicate (xs.length - k) 0
theorem laidTo_len (xs : List Int) (k : Nat) (h : k ≤ xs.length) : (laidTo xs k).length = xs.length := by simp [laidTo]; omega
theorem laidTo_all (xs : List Int) : laidTo xs xs.length = xs := by simp [laidTo]
theorem laidTo_zero (xs : List Int) : laidTo xs 0 = List.replicate xs.length 0 := by simp [laidTo]
theorem laidTo_set (xs : List Int) (k : Nat) (x : Int) (h : xs[k]? = some x) : (laidTo xs k).set k x = laidTo xs (k + 1) := by
 have hk : k < xs.length := (List.getElem?_eq_some_iff.1 h).1
 apply List.ext_getElem?
 intro i
 unfold laidTo
 rw [List.getElem?_set]
 by_cases e : k = i
 ·subst e
  rw [if_pos rfl, if_pos (by simp; omega), List.getElem?_append_left (by simp; omega), List.getElem?_take_of_lt (by omega), h]
 ·rw [if_neg e]
  by_cases hi : i < k
  ·rw [List.getElem?_append_left (by simp; omega), List.getElem?_append_left (by simp; omega), List.getElem?_take_of_lt hi, List.getElem?_take_of_lt (by omega)]
  ·rw [List.getElem?_append_right (by simp; omega), List.getElem?_append_right (by simp; omega)]
   simp only [List.getElem?_replicate, List.length_take]
   congr 1
   rw [Nat.min_eq_left (by omega), Nat.min_eq_left (by omega)]
   simp only [eq_iff_iff]
   omega
theorem urow_setIf (xs : List Int) (k : Nat) (x : Int) : (urow xs).setIfInBounds k (.int .u64 x) = urow (xs.set k x) := by
 simp [urow, List.map_set]
theorem u64_small {x : Int} (h0 : 0 ≤ x) (h1 : x < 9223372036854775808) : IntKind.u64.wrap x = x := by
 show x % 18446744073709551616 = x
 omega
set_option maxHeartbeats 1000000 in
theorem row_at (xs : List Int) (n g c : Nat) (w : World) (hn : xs.length = n) (hx : ∀ (j : Nat) (x : Int), xs[j]? = some x → w.cell? ⟨g, j, none⟩ = some (.int .i64 x) ∧ 0 ≤ x ∧ x < 9223372036854775808) (hl : n ≤ 1000) :
  Calls Tryz.prog 36 #[.slice (some ⟨g, 0, none⟩) n c] w fun e w' => ∃ cp, e = .returned (.slice (some ⟨w.heap.size, 0, none⟩) n cp) ∧ OW w' w.heap.size (.slice (some ⟨w.heap.size, 0, none⟩) n cp) xs ∧ Below w.heap.size w w' := by
 have hmk := make_words n (by omega) w
 have HX : Hid _ := hx
 have HN : Hid _ := hn
 have HLn : Hid (n ≤ 1000) := hl
 obtain ⟨W, hW⟩ : ∃ W, W = w.alloc (.cells (zrow n) 42) := ⟨_, rfl⟩
 have HB : Hid (Below w.heap.size w W) := by rw [hW]; exact ⟨rfl, rfl, rfl, by simp, fun k hk => Below.heap_alloc w _ k hk⟩
 have HI : Hid (W.heap[w.heap.size]? = some (.cells (urow (laidTo xs 0)) 42)) := by rw [hW, laidTo_zero, hn, ← zrow_urow]; exact heap_alloc_new _ _
 rw [← hW] at hmk
 clear hW hx hn
 go_enter Tryz.func36, Tryz.ntmps36
 go_wp2
 clear hmk
 go_loopw [11] (fun s wr => ∃ (k : Nat), k ≤ n ∧ s = .int .i64 k ∧ wr.heap[w.heap.size]? = some (.cells (urow (laidTo xs k)) 42) ∧ Below w.heap.size w wr) (fun s _ => n - (intOf s).toNat)
 case atStart => exact ⟨0, by omega, rfl, HI.out, HB.out⟩
 case round =>
  clear HB HI
  obtain ⟨k, hk, rfl, hR, hB⟩ := hrel
  by_cases hlt : k < n
  ·obtain ⟨x, hxk⟩ : ∃ x, xs[k]? = some x := ⟨xs[k]'(by rw [HN.out]; exact hlt), List.getElem?_eq_getElem _⟩
   obtain ⟨c0, x0, x1⟩ := HX.out k x hxk
   have c1 := (hB.cell (cell_lt c0)).trans c0
   have hw := u64_small x0 x1
   have HR : Hid _ := hR
   have HK : Hid _ := laidTo_set xs k x hxk
   have hl1 : k < (laidTo xs k).length := by rw [laidTo_len _ _ (by rw [HN.out]; omega), HN.out]; exact hlt
   obtain ⟨y, hy⟩ : ∃ y, (laidTo xs k)[k]? = some y := ⟨_, List.getElem?_eq_getElem hl1⟩
   have d0 : wr.cell? ⟨w.heap.size, k, none⟩ = some (.int .u64 y) := by rw [cell_of_heap hR]; simp [urow, hy]
   have d1 : wr.frozen? ⟨w.heap.size, k, none⟩ = false := frozen_of_heap hR
   clear hR hxk c0 x0 x1 hl1 hy
   go_wp2
   go_roundw
   case rel =>
    refine ⟨k + 1, by omega, by go_num, ?_, hB.setCell (Nat.le_refl _) _⟩
    rw [setCell_eq_setRow _ _ _ _ _ _ _ HR.out, setRow_heap _ _ _ _ _ _ HR.out, urow_setIf, HK.out]
   case measure => simp [intOf]; omega
  ·obtain rfl : k = n := by omega
   have e : laidTo xs k = xs := by rw [← HN.out]; exact laidTo_all xs
   rw [e] at hR
   have HR : Hid _ := hR
   clear hR e
   go_wp2
   go_ret
   exact ⟨k, rfl, ow_block HR.out (Nat.le_refl _) HN.out (by have := HLn.out; omega), hB⟩
set_option maxHeartbeats 1000000 in
theorem clone_words (k : Nat) (v : Value) (ws : List Int) (w : World) (hl : ws.length = k + 1) (hm : k < 1000) (hv : RdV w v ws) :
  Calls Tryz.prog 60 #[v] w fun e w' => ∃ gg cap, e = .returned (.slice (some ⟨gg, 0, none⟩) (k + 1) cap) ∧ OW w' w.heap.size (.slice (some ⟨gg, 0, none⟩) (k + 1) cap) ws ∧ Below w.heap.size w w' := by
 obtain ⟨g, o, cap, rfl, hx⟩ := hv.has k hl
 refine (Di.clone_at g o (k + 1) cap ws w hl (by omega) (by omega) hx).mono ?_
 rintro e w' ⟨gg, c', he, hown, hb⟩
 refine ⟨gg, c', he, ?_, hb⟩
 unfold OW
 rw [hl]
 exact hown
theorem clone_nil (w : World) :
  Calls Tryz.prog 60 #[.slice none 0 0] w fun e w' => e = .returned (.slice none 0 0) ∧ w' = w := by
 have hn : ∀ W : World, (binOp BinOp.eql 27 (.slice none 0 0) (.slice none 0 0)).run Tryz.prog W = .ok (.bool true) W := fun W => by kernel_rfl
 go_enter Tryz.func60, Tryz.ntmps60
 go_wp2
 go_ret
 exact ⟨rfl, rfl⟩
theorem answer_nil (e : Int) (w : World) :
  Calls Tryz.prog 25 #[.int .i64 e, .slice none 0 0] w fun x w' => x = .returned (.tuple #[.slice none 0 0, .int .i64 e]) ∧ w' = w := by
 by_cases he : e = 0
 ·subst he
  go_enter Tryz.func25, Tryz.ntmps25
  go_wp2_with (go_at_call 60; refine (clone_nil _).mono ?_; rintro x w1 ⟨rfl, hw⟩; rw [hw]; clear hw w1)
  go_ret2
  exact ⟨rfl, rfl⟩
 ·go_enter Tryz.func25, Tryz.ntmps25
  go_wp2
  go_ret2
  exact ⟨rfl, rfl⟩
theorem answer_err (e : Int) (v : Value) (w : World) (he : e ≠ 0) :
  Calls Tryz.prog 25 #[.int .i64 e, v] w fun x w' => x = .returned (.tuple #[.slice none 0 0, .int .i64 e]) ∧ w' = w := by
 go_enter Tryz.func25, Tryz.ntmps25
 go_wp2
 go_ret2
 exact ⟨rfl, rfl⟩
theorem answer_ok (k : Nat) (v : Value) (ws : List Int) (w : World) (hl : ws.length = k + 1) (hm : k < 1000) (hv : RdV w v ws) :
  Calls Tryz.prog 25 #[.int .i64 0, v] w fun x w' => ∃ gg cap, x = .returned (.tuple #[.slice (some ⟨gg, 0, none⟩) (k + 1) cap, .int .i64 0]) ∧ OW w' w.heap.size (.slice (some ⟨gg, 0, none⟩) (k + 1) cap) ws ∧ Below w.heap.size w w' := by
 have hC := clone_words k v ws w hl hm hv
 clear hv
 go_enter Tryz.func25, Tryz.ntmps25
 go_wp2_with fail
 refine hC.mono ?_
 rintro x w1 ⟨gg, cap, rfl, ho, hb⟩
 have HO : Hid (OW w1 w.heap.size (.slice (some ⟨gg, 0, none⟩) (k + 1) cap) ws) := ho
 have HB : Hid _ := hb
 clear ho hb
 go_wp2
 go_ret2
 exact ⟨gg, cap, rfl, HO.out, HB.out⟩
def ansW (e : Int) (ws : List Int) : List Int := if e = 0 then ws else []
theorem answer_one (e x : Int) (w : World) (g : Nat) (hg : w.cell? ⟨g, 0, none⟩ = some (.int .u64 x)) :
  Calls Tryz.prog 25 #[.int .i64 e, .slice (some ⟨g, 0, none⟩) 1 1] w fun r w' => ∃ v, r = .returned (.tuple #[v, .int .i64 e]) ∧ URow w.heap.size w' v (ansW e [x]) ∧ Below w.heap.size w w' := by
 by_cases he : e = 0
 ·subst he
  refine (answer_ok 0 (.slice (some ⟨g, 0, none⟩) 1 1) [x] w rfl (by omega) ⟨some ⟨g, 0, none⟩, 1, rfl, Nat.le_refl _, fun j y hj => ?_⟩).mono ?_
  ·have : j = 0 := by
    have := (List.getElem?_eq_some_iff.1 hj).1
    simp at this
    exact this
   subst this
   simp at hj
   subst hj
   exact ⟨g, 0, rfl, hg⟩
  ·rintro r w' ⟨gg, cap, rfl, ho, hb⟩
   exact ⟨_, rfl, ho.urow, hb⟩
 ·refine (answer_err e _ w he).mono ?_
  rintro r w' ⟨rfl, rfl⟩
  exact ⟨_, rfl, by unfold ansW; rw [if_neg he]; exact URow.nil _ _, Below.refl _ _⟩
end Go.Proofs.YtbhpafgoofkkmaaGreatDoor
