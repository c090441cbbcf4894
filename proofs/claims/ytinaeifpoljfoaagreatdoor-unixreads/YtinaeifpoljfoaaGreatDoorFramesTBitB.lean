import Derived.Test.YtinaeifpoljfoaaGreatDoorRows
import Derived.Test.YtinaeifpoljfoaaGreatDoorPlain
import Derived.Deep.AppendLies
import Derived.BigRegion
import Derived.Deep.QuietTactic
import Derived.BigQuiet
import Derived.Laws.BitsAllLaws
import Derived.Deep.RegionWith
set_option linter.all false
set_option maxRecDepth 100000
set_option maxHeartbeats 16000000
namespace Go.Proofs.YtinaeifpoljfoaaGreatDoor
open Go.RowKit
theorem nat_of (f : Int) (h : 0 ≤ f) : ∃ n : Nat, f = (n : Int) := ⟨f.toNat, by omega⟩
def splice (vs : List Int) (o : Nat) (ws : List Int) : List Int := vs.take o ++ ws ++ vs.drop (o + ws.length)
theorem splice_length (vs : List Int) (o : Nat) (ws : List Int) (h : o + ws.length ≤ vs.length) : (splice vs o ws).length = vs.length := by
 simp [splice]; omega
theorem urow_splice (vs : List Int) (o : Nat) (ws : List Int) (cs : List Value) (hc : cs = ws.map (Value.int .u64)) (h : o + ws.length ≤ vs.length) :
  ((urow vs).toList.take o ++ cs ++ (urow vs).toList.drop (o + cs.length)).toArray = urow (splice vs o ws) := by
 subst hc;simp [urow, splice, List.map_take, List.map_drop]
theorem splice_getD (vs : List Int) (o : Nat) (ws : List Int) (h : o + ws.length ≤ vs.length) (i : Nat) :
  (splice vs o ws).getD i 0 = if o ≤ i ∧ i < o + ws.length then ws.getD (i - o) 0 else vs.getD i 0 := by
 simp only [splice, List.getD_eq_getElem?_getD]
 grind (splits := 30)
def frameOf (vs : List Int) (f : Nat) : List Int := (vs.drop (f * 32)).take 32
theorem frameOf_length (vs : List Int) (f n : Nat) (hl : vs.length = n * 32) (hf : f < n) : (frameOf vs f).length = 32 := by
 simp [frameOf, hl]; omega
theorem frameOf_getD (vs : List Int) (f j : Nat) (h : j < 32) : (frameOf vs f).getD j 0 = vs.getD (f * 32 + j) 0 := by
 simp [frameOf, h]
theorem list_ext_getD (xs ys : List Int) (h : xs.length = ys.length) (hg : ∀ i, i < xs.length → xs.getD i 0 = ys.getD i 0) : xs = ys := by
 apply List.ext_getElem h
 intro i h1 h2;have := hg i h1
 simpa [h1, h2] using this
theorem getD_of_get? {xs : List Int} {j : Nat} {x : Int} (h : xs[j]? = some x) : x = xs.getD j 0 := by simp [h]
theorem frame_splice (vs ws : List Int) (n f i : Nat) (hl : vs.length = n * 32) (hf : f < n) (hi : i < n) (hw : ws.length = 32) :
  frameOf (splice vs (f * 32) ws) i = if i = f then ws else frameOf vs i := by
 have hs := splice_length vs (f * 32) ws (by rw [hl, hw]; omega);have h1 := frameOf_length (splice vs (f * 32) ws) i n (by rw [hs, hl]) hi;have h2 := frameOf_length vs i n hl hi
 by_cases e : i = f
 ·subst e
  rw [if_pos rfl]
  refine list_ext_getD _ _ (by rw [h1, hw]) fun j hj => ?_
  rw [h1] at hj;rw [frameOf_getD _ _ _ hj, splice_getD _ _ _ (by rw [hl, hw]; omega), if_pos (by rw [hw]; omega)]
  congr 1
  omega
 ·rw [if_neg e]
  refine list_ext_getD _ _ (by rw [h1, h2]) fun j hj => ?_
  rw [h1] at hj;rw [frameOf_getD _ _ _ hj, frameOf_getD _ _ _ hj, splice_getD _ _ _ (by rw [hl, hw]; omega), if_neg (by rw [hw]; omega)]
theorem frame_zeros (n i : Nat) (hi : i < n) : frameOf (List.replicate (n * 32) (0 : Int)) i = List.replicate 32 0 := by
 simp only [frameOf, List.drop_replicate, List.take_replicate]
 congr 1
 omega
def uvs (zs : List Int) : List Value := zs.map (Value.int .u64)
theorem uvs_len (zs : List Int) : (uvs zs).length = zs.length := by simp [uvs]
theorem uvs_one (zs : List Int) : ∀ u ∈ uvs zs, u.oneCell' = true := by
 intro u hu;simp only [uvs, List.mem_map] at hu;obtain ⟨x, _, rfl⟩ := hu
 rfl
theorem uvs_get {zs : List Int} {j : Nat} {u : Value} (h : (uvs zs)[j]? = some u) : ∃ x, zs[j]? = some x ∧ u = .int .u64 x := by
 simp only [uvs, List.getElem?_map, Option.map_eq_some_iff] at h;obtain ⟨a, ha, rfl⟩ := h;exact ⟨a, ha, rfl⟩
theorem add0 (g o j : Nat) : (⟨g, o, none⟩ : Addr).add j = ⟨g, o + j, none⟩ := by unfold Addr.add; split <;> simp_all
def Keeps (M : Nat) (w w' : World) : Prop := w.heap.size ≤ w'.heap.size ∧ ∀ k, M ≤ k → k < w.heap.size → w'.heap[k]? = w.heap[k]?
theorem Keeps.trans {M : Nat} {a b c : World} (h : Keeps M a b) (k : Keeps M b c) : Keeps M a c :=
 ⟨Nat.le_trans h.1 k.1, fun i hi hl => (k.2 i hi (Nat.lt_of_lt_of_le hl h.1)).trans (h.2 i hi hl)⟩
def URow (M : Nat) (w : World) (v : Value) (xs : List Int) : Prop :=
 ∃ a cap, v = .slice a xs.length cap ∧ xs.length ≤ cap ∧ cap ≤ maxLen ∧ (xs ≠ [] → ∃ g cur, a = some ⟨g, 0, none⟩ ∧ M ≤ g ∧ w.heap[g]? = some (.cells cur 45 (0, 0)) ∧ ∀ (j : Nat) (x : Int), xs[j]? = some x → cur[j]? = some (.int .u64 x))
theorem URow.keep {M : Nat} {w w' : World} {v : Value} {xs : List Int} (h : URow M w v xs) (hk : Keeps M w w') : URow M w' v xs := by
 obtain ⟨a, cap, e, h1, h2, hf⟩ := h;refine ⟨a, cap, e, h1, h2, fun hne => ?_⟩;obtain ⟨g, cur, ea, hm, hh, hc⟩ := hf hne;exact ⟨g, cur, ea, hm, (hk.2 g hm (lt_of_heap hh)).trans hh, hc⟩
theorem URow.mono {M M' : Nat} {w : World} {v : Value} {xs : List Int} (h : URow M w v xs) (hm : M' ≤ M) : URow M' w v xs := by
 obtain ⟨a, cap, e, h1, h2, hf⟩ := h;refine ⟨a, cap, e, h1, h2, fun hne => ?_⟩;obtain ⟨g, cur, ea, hg, r⟩ := hf hne;exact ⟨g, cur, ea, by omega, r⟩
def RdV (w : World) (v : Value) (ws : List Int) : Prop :=
 ∃ a cap, v = .slice a ws.length cap ∧ ws.length ≤ cap ∧ ∀ (j : Nat) (x : Int), ws[j]? = some x → ∃ g off, a = some ⟨g, off, none⟩ ∧ w.cell? ⟨g, off + j, none⟩ = some (.int .u64 x)
theorem RdV.nil (w : World) (a : Option Addr) (c : Nat) : RdV w (.slice a 0 c) [] := ⟨a, c, rfl, Nat.zero_le _, fun j x h => by simp at h⟩
theorem URow.nil (M : Nat) (w : World) : URow M w (.slice none 0 0) [] := ⟨none, 0, rfl, Nat.le_refl _, by unfold maxLen; omega, fun h => absurd rfl h⟩
theorem urow_of_own {w : World} {base : Nat} {v : Value} {zs : List Int} (h : w.ownsRow base 45 1 v zs.length (uvs zs)) : URow base w v zs := by
 rcases h.2 with ⟨e2, e3⟩ | ⟨g, cap, cur, e2, hb, hh, h1, h2, h3, h4⟩
 ·have : zs = [] := List.length_eq_zero_iff.1 e3
  subst this;rw [e2];exact URow.nil _ _
 ·refine ⟨_, cap, e2, by omega, by omega, fun _ => ⟨g, cur, rfl, hb, hh, fun j x hx => ?_⟩⟩
  have hi : j < zs.length := (List.getElem?_eq_some_iff.1 hx).1
  have : (uvs zs)[j]? = some (.int .u64 x) := by simp [uvs, hx]
  rw [← h4, List.getElem?_take_of_lt (by omega)] at this
  simpa using this
theorem ownsRow_below {w w' : World} {base : Nat} {e : TypeId} {size : Nat} {v : Value} {n : Nat} {xs : List Value} (h : w.ownsRow base e size v n xs) (hb : Below w.heap.size w w') : w'.ownsRow base e size v n xs := by
 obtain ⟨h1, h2⟩ := h;refine ⟨h1, ?_⟩
 rcases h2 with h2 | ⟨g, cap, cur, hv, hg, hh, r⟩
 ·exact Or.inl h2
 ·exact Or.inr ⟨g, cap, cur, hv, hg, (hb.block g (lt_of_heap hh)).trans hh, r⟩
theorem below_grown {B : Nat} {w w' : World} {v : Value} (h : w.grownBy w' v.ownBlock) (hs : B ≤ w.heap.size) (hv : ∀ g, v.ownBlock = some g → B ≤ g) : Below B w w' :=
 ⟨h.os, h.tape, h.output, h.size, fun k hk => h.block k (by omega) (fun e => by have := hv k e.symm; omega)⟩
theorem ownsRow_low {w : World} {base : Nat} {e : TypeId} {size : Nat} {v : Value} {n : Nat} {xs : List Value} (h : w.ownsRow base e size v n xs) : ∀ g, v.ownBlock = some g → base ≤ g := by
 intro g hg
 rcases h.2 with ⟨e2, _⟩ | ⟨g', cap, cur, e2, hb, _⟩
 ·rw [e2] at hg; simp [Value.ownBlock] at hg
 ·rw [e2] at hg; simp [Value.ownBlock] at hg; omega
namespace Di
theorem contentInfo : (Tryz.prog.info? 518).map (fun i => (i.zero, i.size, i.bytes)) = some (some (.agg (zrow 32)), 32, 256) := by kernel_rfl
theorem wordInfo : (Tryz.prog.info? 45).map (fun i => (i.zero, i.size, i.bytes)) = some (some (.int .u64 0), 1, 8) := by kernel_rfl
theorem make_blocks (n : Nat) (h : n ≤ 1024) (w : World) :
  (Instr.makeSlice 170 (.int .i64 (n : Int)) (.int .i64 (n : Int))).run Tryz.prog w = .ok (.slice (some ⟨w.heap.size, 0, none⟩) n n) (w.alloc (.cells (zrow (n * 32)) 518)) :=
 run_make_flat 170 518 (.agg (zrow 32)) (.int .u64 0) 32 256 Tryz.underlying170 contentInfo rfl (by omega) .i64 .i64 n (by omega) (by omega) w
structure DiskAt (w : World) (b g n : Nat) (vs : List Int) (gt pt : Nat) : Prop where
 head : w.heap[b]? = some (.cells #[.slice (some ⟨g, 0, none⟩) n n, .int .i64 gt, .int .i64 pt] 172)
 row : w.heap[g]? = some (.cells (urow vs) 518)
 len : vs.length = n * 32
 ne : b ≠ g
section
variable {w w' : World} {b g n : Nat} {vs : List Int} {gt pt : Nat}
theorem DiskAt.c0 (h : DiskAt w b g n vs gt pt) : w.cell? ⟨b, 0, none⟩ = some (.slice (some ⟨g, 0, none⟩) n n) := by rw [cell_of_heap h.head]; rfl
theorem DiskAt.c1 (h : DiskAt w b g n vs gt pt) : w.cell? ⟨b, 1, none⟩ = some (.int .i64 gt) := by rw [cell_of_heap h.head]; rfl
theorem DiskAt.c2 (h : DiskAt w b g n vs gt pt) : w.cell? ⟨b, 2, none⟩ = some (.int .i64 pt) := by rw [cell_of_heap h.head]; rfl
theorem DiskAt.free (h : DiskAt w b g n vs gt pt) (i : Nat) : w.frozen? ⟨b, i, none⟩ = false := frozen_of_heap h.head
theorem DiskAt.word (h : DiskAt w b g n vs gt pt) (i : Nat) (hi : i < n * 32) : w.cell? ⟨g, i, none⟩ = some (.int .u64 (vs.getD i 0)) := by
 rw [cell_of_heap h.row]
 have : i < vs.length := by rw [h.len]; exact hi
 simp [urow, this]
theorem DiskAt.keep (h : DiskAt w b g n vs gt pt) (hb : w'.heap[b]? = w.heap[b]?) (hg : w'.heap[g]? = w.heap[g]?) : DiskAt w' b g n vs gt pt :=
 ⟨hb.trans h.head, hg.trans h.row, h.len, h.ne⟩
theorem DiskAt.below (h : DiskAt w b g n vs gt pt) (k : Below w.heap.size w w') : DiskAt w' b g n vs gt pt :=
 h.keep (k.block _ (lt_of_heap h.head)) (k.block _ (lt_of_heap h.row))
theorem DiskAt.get1 (h : DiskAt w b g n vs gt pt) : DiskAt (w.setCell ⟨b, 1, none⟩ (.int .i64 ((gt : Int) + 1))) b g n vs (gt + 1) pt := by
 refine ⟨?_, (Below.heap_setCell _ _ _ _ (Ne.symm h.ne)).trans h.row, h.len, h.ne⟩;rw [setCell_eq_setRow w b 1 _ _ _ _ h.head, setRow_heap w b _ _ _ _ h.head]
 rfl
theorem DiskAt.put1 (h : DiskAt w b g n vs gt pt) : DiskAt (w.setCell ⟨b, 2, none⟩ (.int .i64 ((pt : Int) + 1))) b g n vs gt (pt + 1) := by
 refine ⟨?_, (Below.heap_setCell _ _ _ _ (Ne.symm h.ne)).trans h.row, h.len, h.ne⟩;rw [setCell_eq_setRow w b 2 _ _ _ _ h.head, setRow_heap w b _ _ _ _ h.head]
 rfl
theorem DiskAt.lay (h : DiskAt w b g n vs gt pt) (o : Nat) (ws : List Int) (hl : o + ws.length ≤ n * 32) : DiskAt (w.setRow g (urow (splice vs o ws))) b g n (splice vs o ws) gt pt :=
 ⟨(setRow_other w g b _ h.ne).trans h.head, setRow_heap w g _ _ _ _ h.row, by rw [splice_length _ _ _ (by rw [h.len]; exact hl), h.len], h.ne⟩
end
theorem len_at (b g n : Nat) (vs : List Int) (gt pt : Nat) (w : World) (h : DiskAt w b g n vs gt pt) :
  Calls Tryz.prog 397 #[.pointer (some ⟨b, 0, none⟩)] w fun e w' => e = .returned (.int .i64 n) ∧ w' = w := by
 have hc := h.c0
 go_enter Tryz.func397, Tryz.ntmps397
 go_wp2;go_ret;exact ⟨rfl, rfl⟩
def inB (f : Int) (n : Nat) : Bool := decide (0 ≤ f ∧ f < n)
theorem inB_yes {f : Int} {n : Nat} (h0 : 0 ≤ f) (h1 : f < n) : inB f n = true := by simp [inB, h0, h1]
theorem has_at (b g n : Nat) (vs : List Int) (gt pt : Nat) (f : Int) (w : World) (h : DiskAt w b g n vs gt pt) (x : Bool) (hx : inB f n = x) :
  Calls Tryz.prog 399 #[.pointer (some ⟨b, 0, none⟩), .int .i64 f] w fun e w' => e = .returned (.bool x) ∧ w' = w := by
 subst hx
 by_cases h0 : 0 ≤ f
 all_goals
  go_enter Tryz.func399, Tryz.ntmps399
  go_wp2_with (go_at_call 397; refine (len_at b g n vs gt pt _ h).mono ?_; rintro e w' ⟨rfl, rfl⟩)
  go_ret;refine ⟨?_, rfl⟩
  first | (simp [inB, h0]; done) | (simp [inB]; omega)
def newWorld (w : World) (n : Nat) : World := (w.alloc (.cells (zrow (n * 32)) 518)).alloc (.cells #[.slice (some ⟨w.heap.size, 0, none⟩) n n, .int .i64 ((0 : Nat) : Int), .int .i64 ((0 : Nat) : Int)] 172)
theorem new_yes (n : Nat) (w : World) (h : 1 ≤ n) (h2 : n ≤ 1024) :
  Calls Tryz.prog 28 #[.int .i64 n] w fun e w' => e = .returned (.pointer (some ⟨w.heap.size + 1, 0, none⟩)) ∧ w' = newWorld w n := by
 have hmk := fun w => make_blocks n h2 w
 go_enter Tryz.func28, Tryz.ntmps28
 go_wp2;go_ret;exact ⟨rfl, rfl⟩
theorem new_at (n : Int) (w : World) (h : 1 ≤ n) (h2 : n ≤ 1024) :
  Calls Tryz.prog 28 #[.int .i64 n] w fun e w' => e = .returned (.pointer (some ⟨w.heap.size + 1, 0, none⟩)) ∧
   DiskAt w' (w.heap.size + 1) w.heap.size n.toNat (List.replicate (n.toNat * 32) 0) 0 0 ∧ Below w.heap.size w w' ∧ w'.heap.size = w.heap.size + 2 := by
 obtain ⟨k, rfl⟩ := nat_of n (by omega)
 refine (new_yes k w (by omega) (by omega)).mono fun e w' ⟨he, hw⟩ => ?_
 subst hw;refine ⟨he, ⟨?_, ?_, by simp, by omega⟩, ((Below.refl _ _).alloc (Nat.le_refl _) _).alloc (by simp) _, by simp [newWorld]⟩
 ·have := heap_alloc_new (w.alloc (.cells (zrow (k * 32)) 518)) (.cells #[.slice (some ⟨w.heap.size, 0, none⟩) k k, .int .i64 ((0 : Nat) : Int), .int .i64 ((0 : Nat) : Int)] 172)
  simpa [newWorld] using this
 ·unfold newWorld
  rw [Below.heap_alloc _ _ _ (by simp), heap_alloc_new, zrow_urow];simp
theorem clone_at (g o m c : Nat) (xs : List Int) (w : World) (hl : xs.length = m) (hm : 0 < m) (hm2 : m ≤ 1000) (hx : ∀ (j : Nat) (x : Int), xs[j]? = some x → w.cell? ⟨g, o + j, none⟩ = some (.int .u64 x)) :
  Calls Tryz.prog 226 #[.slice (some ⟨g, o, none⟩) m c] w fun e w' => ∃ gg cap, e = .returned (.slice (some ⟨gg, 0, none⟩) m cap) ∧
   w'.ownsRow w.heap.size 45 1 (.slice (some ⟨gg, 0, none⟩) m cap) m (uvs xs) ∧ Below w.heap.size w w' := by
 obtain ⟨i0, hi0, hzz⟩ := Option.map_eq_some_iff.1 wordInfo;simp only [Prod.mk.injEq] at hzz;obtain ⟨hz0, hz1, hz2⟩ := hzz
 have hown : (w.alloc (.cells #[] 45)).ownsRow w.heap.size 45 1 (.slice (some ⟨w.heap.size, 0, none⟩) 0 0) 0 [] :=
  ⟨rfl, Or.inr ⟨w.heap.size, 0, #[], rfl, Nat.le_refl _, heap_alloc_new _ _, Nat.le_refl _, by unfold maxLen; omega, rfl, rfl⟩⟩
 have heq : ∀ w : World, (binOp BinOp.eql 22 (.slice (some ⟨g, o, none⟩) m c) (.slice none 0 0)).run Tryz.prog w = .ok (.bool false) w := fun w => by kernel_rfl
 have HX : Hid _ := hx;have HL : Hid _ := hl;clear hx hl
 go_enter Tryz.func226, Tryz.ntmps226
 go_wp2_with (first
   | (at_builtin; refine wpList_append_lies _ rfl _ _ _ rfl w.heap.size 45 i0 _ 1 8 Tryz.underlying22 hi0 hz0 hz1 hz2 rfl (by omega) _ _ _ rfl hown ⟨g, o, none⟩ m c (uvs xs) rfl (by rw [uvs_len, HL.out]; omega)
       (fun j u hu => by obtain ⟨x, hx, rfl⟩ := uvs_get hu; rw [add0]; exact (((Below.refl w.heap.size w).alloc (Nat.le_refl _) _).cell (cell_lt (HX.out j x hx))).trans (HX.out j x hx)) (uvs_one xs) hm (by unfold maxLen; omega) (by omega) (by simp) _ rfl ?_; intro gg cap w2 hown2 hgrow hat hlt2)
   | go_in)
 go_ret;refine ⟨gg, cap, by simp, by simpa using hown2, ((Below.refl _ _).alloc (Nat.le_refl _) _).trans (below_grown hgrow (by simp) (ownsRow_low hown))⟩
end Di
namespace Di
def blkV (v : Int) (i : Nat) : Int := IntKind.u64.wrap (v + i)
def blk (v : Int) (m : Nat) : List Int := (List.range m).map (blkV v)
theorem frame_get {vs : List Int} {n f : Nat} (hl : vs.length = n * 32) (hf : f < n) {j : Nat} {x : Int} (h : (frameOf vs f)[j]? = some x) : j < 32 ∧ x = vs.getD (f * 32 + j) 0 := by
 have hj : j < 32 := by
  have := (List.getElem?_eq_some_iff.1 h).1
  rwa [frameOf_length vs f n hl hf] at this
 exact ⟨hj, by rw [← frameOf_getD vs f j hj]; exact getD_of_get? h⟩
theorem get_at (b g n : Nat) (vs : List Int) (gt pt : Nat) (f : Int) (w : World) (h : DiskAt w b g n vs gt pt) (h0 : 0 ≤ f) (h1 : f < n) (hgt : gt ≤ 1000000000000) :
  Calls Tryz.prog 396 #[.pointer (some ⟨b, 0, none⟩), .int .i64 f] w fun e w' => ∃ gg, e = .returned (.tuple #[.slice (some ⟨gg, 0, none⟩) 32 32, .int .i64 0]) ∧
   URow w.heap.size w' (.slice (some ⟨gg, 0, none⟩) 32 32) (frameOf vs f.toNat) ∧ DiskAt w' b g n vs (gt + 1) pt ∧ Upd b w w' := by
 obtain ⟨f, rfl⟩ := nat_of f h0;simp only [Int.toNat_natCast]
 have hfn : f < n := by omega
 have hc0 := h.c0;have hc1 := h.c1;have hfz := h.free 1;have hl := lt_of_heap h.head;have H1 : Hid _ := h.get1
 have hsz : (w.setCell ⟨b, 1, none⟩ (.int .i64 ((gt : Int) + 1))).heap.size = w.heap.size := by simp [World.setCell]
 have HS : Hid _ := hsz;have hd0 := h.get1.c0;have hlen := frameOf_length vs f n h.len hfn;have HL : Hid _ := hlen;clear hsz hlen
 go_enter Tryz.func396, Tryz.ntmps396
 go_wp2_with fail
 refine (has_at b g n vs gt pt f _ h true (inB_yes h0 h1)).mono ?_;rintro e w' ⟨rfl, rfl⟩
 go_wp2_with fail
 refine (clone_at g (f * 32) 32 32 (frameOf vs f) _ HL.out (by omega) (by omega) (fun j x hx => by obtain ⟨hj, rfl⟩ := frame_get h.len hfn hx; exact (H1.out).word _ (by omega))).mono ?_;rintro e w2 ⟨gg, cap, rfl, hown, hb⟩
 have hcap : 32 ≤ cap := by
  rcases hown.2 with ⟨e2, _⟩ | ⟨g', cap', cur, e2, _, _, hcc, _⟩
  ·simp at e2
  ·simp at e2; omega
 go_wp2
 go_ret2
 refine ⟨gg, rfl, ?_, (H1.out).below hb, (Upd.setCell _ _ _ _).trans (Upd.of_below hb)⟩;have hur := urow_of_own (zs := frameOf vs f) (by rw [HL.out]; exact hown);rw [HS.out] at hur;obtain ⟨a, c, e, _, _, hf⟩ := hur;rw [HL.out] at e;simp only [Value.slice.injEq] at e;obtain ⟨rfl, _, rfl⟩ := e;exact ⟨_, 32, by rw [HL.out], by rw [HL.out]; omega, by unfold maxLen; omega, hf⟩
theorem copy_in {w : World} {b g n : Nat} {vs : List Int} {gt pt : Nat} (h : DiskAt w b g n vs gt pt) (f : Nat) (hf : f < n) (p : Nat) (ws : List Int) (hl : ws.length = 32)
  (hw : ∀ (j : Nat) (x : Int), ws[j]? = some x → w.cell? ⟨p, j, none⟩ = some (.int .u64 x)) (ty : TypeId) (c1 c2 : Nat) :
  (Builtin.copy_ #[22, 22] ty #[.slice (some ⟨g, f * 32, none⟩) 32 c1, .slice (some ⟨p, 0, none⟩) 32 c2]).run Tryz.prog w = .ok (goInt 32) (w.setRow g (urow (splice vs (f * 32) ws))) := by
 have hr := run_copy_row Tryz.prog w 22 22 ty 45 g (f * 32) 32 c1 ⟨p, 0, none⟩ 32 c2 (urow vs) 518 (uvs ws) Tryz.underlying22 (by kernel_rfl) h.row
  (by simp [uvs_len, hl])
  (fun j v hv => by
    obtain ⟨x, hx, rfl⟩ := uvs_get hv;rw [add0, Nat.zero_add]
    exact hw j x hx)
  (by simp [uvs_len, hl, urow_size, h.len]; omega) (uvs_one ws)
 rw [hr, urow_splice vs (f * 32) ws (uvs ws) rfl (by rw [h.len, hl]; omega)];simp [uvs_len, hl]
theorem put_any (M b g n : Nat) (vs ws : List Int) (gt pt : Nat) (f : Int) (u : Value) (w : World) (h : DiskAt w b g n vs gt pt) (h0 : 0 ≤ f) (h1 : f < n) (hpt : pt ≤ 1000000000000) (hu : URow M w u ws) (hl : ws.length = 32) :
  Calls Tryz.prog 398 #[.pointer (some ⟨b, 0, none⟩), .int .i64 f, u] w fun e w' => e = .returned (.int .i64 0) ∧
   DiskAt w' b g n (splice vs (f.toNat * 32) ws) gt (pt + 1) ∧ UpdP (fun k => k = b ∨ k = g) w w' := by
 obtain ⟨f, rfl⟩ := nat_of f h0;simp only [Int.toNat_natCast];obtain ⟨a, cap, rfl, _, _, hf⟩ := hu;obtain ⟨p, cur, rfl, hpM, hh, hcell⟩ := hf (by intro e; rw [e] at hl; simp at hl);rw [hl]
 have hfn : f < n := by omega
 have hc0 := h.c0;have hc2 := h.c2;have hfz := h.free 2;have H1 : Hid _ := h.put1;have hd0 := h.put1.c0
 have hr := copy_in h.put1 f hfn p ws hl (fun j x hx => by
   rw [World.cell?_of_block (w := w) (a := ⟨p, j, none⟩) (Below.heap_setCell _ _ _ _ (by show p ≠ b; intro e; subst e; have q := h.head; rw [hh] at q; injection q with q1; injection q1 with _ q2; exact absurd q2 (by decide))), cell_of_heap hh]
   exact hcell j x hx)
 have HL : Hid _ := hl;clear hl hcell hh
 go_enter Tryz.func398, Tryz.ntmps398
 go_wp2_with fail
 refine (has_at b g n vs gt pt f _ h true (inB_yes h0 h1)).mono ?_;rintro e w' ⟨rfl, rfl⟩;go_wp2;go_ret;refine ⟨rfl, (H1.out).lay _ _ (by rw [HL.out]; omega), ((Upd.setCell b 2 _ _).p _ (Or.inl rfl)).trans ((Upd.setRow g _ _).p _ (Or.inr rfl))⟩
theorem put_at (M b g n : Nat) (vs ws : List Int) (gt pt : Nat) (f : Int) (u : Value) (w : World) (h : DiskAt w b g n vs gt pt) (h0 : 0 ≤ f) (h1 : f < n) (hpt : pt ≤ 1000000000000) (hu : URow M w u ws) (hl : ws.length = 32) (hM : b < M) :
  Calls Tryz.prog 398 #[.pointer (some ⟨b, 0, none⟩), .int .i64 f, u] w fun e w' => e = .returned (.int .i64 0) ∧
   DiskAt w' b g n (splice vs (f.toNat * 32) ws) gt (pt + 1) ∧ UpdP (fun k => k = b ∨ k = g) w w' := put_any M b g n vs ws gt pt f u w h h0 h1 hpt hu hl
theorem drewN_below {w w' : World} (h : ∃ q, w' = w.drewN q) : Below w.heap.size w w' := by
 obtain ⟨q, rfl⟩ := h;exact ⟨rfl, rfl, rfl, Nat.le_refl _, fun _ _ => rfl⟩
end Di
namespace Bi
def mk (i : Nat) : Nat := 2 ^ (i % 64)
def bt (ws : List Nat) (i : Nat) : Bool := (ws.getD (i / 64) 0).testBit (i % 64)
def wd (x i : Nat) (on : Bool) : Nat := if on then x ||| mk i else x &&& (18446744073709551615 - mk i)
def mkW (ws : List Nat) (i : Nat) (on : Bool) : List Nat := ws.set (i / 64) (wd (ws.getD (i / 64) 0) i on)
theorem mk_lt (i : Nat) : mk i < 18446744073709551616 := by
 unfold mk;exact Nat.lt_of_lt_of_le (Nat.pow_lt_pow_right (by omega) (Nat.mod_lt i (by omega : 0 < 64))) (by decide)
theorem mk_bit (i j : Nat) : (mk i).testBit j = decide (i % 64 = j) := by
 unfold mk;exact Nat.testBit_two_pow
theorem not_bit (i j : Nat) : (18446744073709551615 - mk i).testBit j = (decide (j < 64) && !decide (i % 64 = j)) := by
 have h := Nat.testBit_two_pow_sub_succ (n := 64) (mk_lt i) j;rw [mk_bit] at h;rw [← h]
 congr 1
 omega
theorem wd_bit (x i j : Nat) (on : Bool) (hj : j < 64) : (wd x i on).testBit j = if i % 64 = j then on else x.testBit j := by
 unfold wd
 cases on
 ·rw [if_neg (by simp), Nat.testBit_and, not_bit]
  by_cases h : i % 64 = j <;> simp [h, hj]
 ·rw [if_pos rfl, Nat.testBit_or, mk_bit]
  by_cases h : i % 64 = j <;> simp [h]
theorem wd_lt (x i : Nat) (on : Bool) (hx : x < 18446744073709551616) : wd x i on < 18446744073709551616 := by
 unfold wd
 cases on
 ·rw [if_neg (by simp)]
  exact Nat.lt_of_le_of_lt Nat.and_le_left hx
 ·rw [if_pos rfl]
  exact Nat.or_lt_two_pow (n := 64) hx (mk_lt i)
theorem getD_set (ws : List Nat) (k j x : Nat) (hk : k < ws.length) : (ws.set k x).getD j 0 = if j = k then x else ws.getD j 0 := by
 simp only [List.getD_eq_getElem?_getD, List.getElem?_set]
 by_cases h : j = k
 ·subst h; simp [hk]
 ·rw [if_neg (fun e => h e.symm), if_neg h]
theorem bt_mkW (ws : List Nat) (i j : Nat) (on : Bool) (hi : i / 64 < ws.length) : bt (mkW ws i on) j = if j = i then on else bt ws j := by
 unfold bt mkW;rw [getD_set _ _ _ _ hi]
 by_cases h : j / 64 = i / 64
 ·rw [if_pos h, wd_bit _ _ _ _ (Nat.mod_lt _ (by omega)), h]
  by_cases e : j = i
  ·subst e; simp
  ·rw [if_neg e, if_neg (by omega)]
 ·rw [if_neg h, if_neg (by intro e; subst e; exact h rfl)]
structure Wf (n : Nat) (ws : List Nat) : Prop where
 len : ws.length = (n + 63) / 64
 lt : ∀ x ∈ ws, x < 18446744073709551616
 past : ∀ i, n ≤ i → bt ws i = false
theorem Wf.at {n : Nat} {ws : List Nat} (h : Wf n ws) {i : Nat} (hi : i < n) : i / 64 < ws.length := by rw [h.len]; omega
theorem Wf.word {n : Nat} {ws : List Nat} (h : Wf n ws) (k : Nat) : ws.getD k 0 < 18446744073709551616 := by
 rw [List.getD_eq_getElem?_getD]
 cases e : ws[k]? with
 | none => simp
 | some x => exact h.lt x (List.mem_of_getElem? e)
theorem Wf.mark {n : Nat} {ws : List Nat} (h : Wf n ws) {i : Nat} (hi : i < n) (on : Bool) : Wf n (mkW ws i on) := by
 refine ⟨by rw [← h.len]; simp [mkW], fun x hx => ?_, fun j hj => ?_⟩
 ·rcases List.mem_or_eq_of_mem_set hx with hx | hx
  ·exact h.lt x hx
  ·rw [hx]; exact wd_lt _ _ _ (h.word _)
 ·rw [bt_mkW _ _ _ _ (h.at hi), if_neg (by omega)]
  exact h.past j hj
theorem bt_far (ws : List Nat) (i : Nat) (h : ws.length ≤ i / 64) : bt ws i = false := by
 unfold bt;rw [List.getD_eq_getElem?_getD, List.getElem?_eq_none h];simp
theorem wf_zero (n : Nat) : Wf n (List.replicate ((n + 63) / 64) 0) := by
 have e : ∀ k, (List.replicate ((n + 63) / 64) 0).getD k 0 = 0 := fun k => by
  rw [List.getD_eq_getElem?_getD, List.getElem?_replicate]
  split <;> rfl
 refine ⟨by simp, fun x hx => by rw [List.eq_of_mem_replicate hx]; omega, fun i _ => ?_⟩;unfold bt;rw [e];simp
theorem lowest (f : Nat → Bool) (n : Nat) : (∃ k, k < n ∧ (∀ j, j < k → f j = true) ∧ f k = false) ∨ ∀ j, j < n → f j = true := by
 induction n with
 | zero => exact Or.inr (fun j hj => by omega)
 | succ n ih =>
  rcases ih with ⟨k, hk, h1, h2⟩ | ih
  ·exact Or.inl ⟨k, by omega, h1, h2⟩
  ·cases e : f n with
   | false => exact Or.inl ⟨n, by omega, ih, e⟩
   | true => exact Or.inr (fun j hj => by
       by_cases h : j = n
       · rw [h]; exact e
       · exact ih j (by omega))
theorem set_bit (x i : Nat) (hx : x < 18446744073709551616) : bits .or .u64 (x : Int) ((mk i : Nat) : Int) = ((wd x i true : Nat) : Int) := u64_or_nat x _ hx (mk_lt i)
theorem clear_bit (x i : Nat) (hx : x < 18446744073709551616) : bits .andNot .u64 (x : Int) ((mk i : Nat) : Int) = ((wd x i false : Nat) : Int) := u64_andNot_nat x _ hx (mk_lt i)
theorem shl_one (i : Nat) : IntKind.u64.wrap (2 ^ min (i % 64) 64) = ((mk i : Nat) : Int) := by
 have h : i % 64 < 64 := Nat.mod_lt _ (by omega);rw [Nat.min_eq_left (by omega)]
 have e : ((2 : Int) ^ (i % 64)) = ((mk i : Nat) : Int) := by unfold mk; simp
 have hl := mk_lt i;rw [e, IntKind.wrap_u64];omega
end Bi
namespace Bi
theorem below_alloc (w : World) (o : Obj) : Below w.heap.size w (w.alloc o) := (Below.refl _ _).alloc (Nat.le_refl _) _
theorem below_alloc2 (w : World) (o o' : Obj) : Below w.heap.size w ((w.alloc o).alloc o') := (below_alloc w o).trans ((below_alloc _ _).mono (by simp))
def nrow (ws : List Nat) : Array Value := (ws.map (fun x => Value.int .u64 ((x : Nat) : Int))).toArray
theorem nrow_zero (k : Nat) : Array.replicate (k * 1) (Value.int .u64 0) = nrow (List.replicate k 0) := by simp [nrow]
theorem nrow_size (ws : List Nat) : (nrow ws).size = ws.length := by simp [nrow]
theorem nrow_set (ws : List Nat) (i x : Nat) : (nrow ws).setIfInBounds i (.int .u64 ((x : Nat) : Int)) = nrow (ws.set i x) := by
 apply Array.ext'
 simp [nrow, List.map_set]
theorem nrow_get (ws : List Nat) (i : Nat) (h : i < ws.length) : (nrow ws)[i]? = some (.int .u64 ((ws.getD i 0 : Nat) : Int)) := by
 simp [nrow, h]
theorem wordInfo : (Tryz.prog.info? 45).map (fun i => (i.zero, i.size, i.bytes)) = some (some (.int .u64 0), 1, 8) := by kernel_rfl
theorem make_words (n : Nat) (h : n ≤ 1024) (w : World) :
  (Instr.makeSlice 22 (.int .i64 (n : Int)) (.int .i64 (n : Int))).run Tryz.prog w = .ok (.slice (some ⟨w.heap.size, 0, none⟩) n n) (w.alloc (.cells (nrow (List.replicate n 0)) 45)) := by
 have := run_make_flat 22 45 (.int .u64 0) (.int .u64 0) 1 8 Tryz.underlying22 wordInfo rfl (by omega) .i64 .i64 n (by omega) (by omega) w
 rwa [nrow_zero] at this
structure BmAt (w : World) (b g n : Nat) (ws : List Nat) : Prop where
 head : w.heap[b]? = some (.cells #[.int .i64 (n : Int), .slice (some ⟨g, 0, none⟩) ws.length ws.length] 408)
 row : w.heap[g]? = some (.cells (nrow ws) 45)
 wf : Wf n ws
 pos : 1 ≤ n
 le : n ≤ 1024
section
variable {w w' : World} {b g n : Nat} {ws : List Nat}
theorem BmAt.ne (h : BmAt w b g n ws) : b ≠ g := by
 intro e;subst e;have q := h.head;rw [h.row] at q
 injection q with q1
 injection q1 with _ q2
 exact absurd q2 (by decide)
theorem BmAt.ltb (h : BmAt w b g n ws) : b < w.heap.size := lt_of_heap h.head
theorem BmAt.ltg (h : BmAt w b g n ws) : g < w.heap.size := lt_of_heap h.row
theorem BmAt.c0 (h : BmAt w b g n ws) : w.cell? ⟨b, 0, none⟩ = some (.int .i64 (n : Int)) := by rw [cell_of_heap h.head]; rfl
theorem BmAt.c1 (h : BmAt w b g n ws) : w.cell? ⟨b, 1, none⟩ = some (.slice (some ⟨g, 0, none⟩) ws.length ws.length) := by rw [cell_of_heap h.head]; rfl
theorem BmAt.word (h : BmAt w b g n ws) {i : Nat} (hi : i < ws.length) : w.cell? ⟨g, i, none⟩ = some (.int .u64 ((ws.getD i 0 : Nat) : Int)) := by rw [cell_of_heap h.row]; exact nrow_get ws i hi
theorem BmAt.free (h : BmAt w b g n ws) (i : Nat) : w.frozen? ⟨g, i, none⟩ = false := frozen_of_heap h.row
theorem BmAt.keep (h : BmAt w b g n ws) (hb : w'.heap[b]? = w.heap[b]?) (hg : w'.heap[g]? = w.heap[g]?) : BmAt w' b g n ws := ⟨hb.trans h.head, hg.trans h.row, h.wf, h.pos, h.le⟩
theorem BmAt.below (h : BmAt w b g n ws) (k : Below w.heap.size w w') : BmAt w' b g n ws := h.keep (k.block _ h.ltb) (k.block _ h.ltg)
theorem BmAt.drew (h : BmAt w b g n ws) (q : Nat) : BmAt (w.drewN q) b g n ws := ⟨h.head, h.row, h.wf, h.pos, h.le⟩
theorem BmAt.mark (h : BmAt w b g n ws) {i : Nat} (hi : i < n) (on : Bool) : BmAt (w.setCell ⟨g, i / 64, none⟩ (.int .u64 ((wd (ws.getD (i / 64) 0) i on : Nat) : Int))) b g n (mkW ws i on) := by
 refine ⟨?_, ?_, h.wf.mark hi on, h.pos, h.le⟩
 ·rw [Below.heap_setCell _ _ _ _ h.ne, h.head]
  simp [mkW]
 ·rw [setCell_eq_setRow w g _ _ _ _ _ h.row, setRow_heap w g _ _ _ _ h.row, nrow_set]
  rfl
end
def inB (f : Int) (n : Nat) : Bool := decide (0 ≤ f ∧ f < n)
theorem inB_nat {i n : Nat} (h : i < n) : inB (i : Int) n = true := by simp [inB, h]
theorem len_at (b g n : Nat) (ws : List Nat) (w : World) (h : BmAt w b g n ws) :
  Calls Tryz.prog 282 #[.pointer (some ⟨b, 0, none⟩)] w fun e w' => e = .returned (.int .i64 (n : Int)) ∧ w' = w := by
 have hc := h.c0;clear h
 go_enter Tryz.func282, Tryz.ntmps282
 go_wp2;go_ret;exact ⟨rfl, rfl⟩
theorem is_at (b g n : Nat) (ws : List Nat) (f : Int) (w : World) (h : BmAt w b g n ws) :
  Calls Tryz.prog 284 #[.pointer (some ⟨b, 0, none⟩), .int .i64 f] w fun e w' => e = .returned (.bool (inB f n)) ∧ w' = w := by
 by_cases h0 : 0 ≤ f
 all_goals
  go_enter Tryz.func284, Tryz.ntmps284
  go_wp2_with (go_at_call 282; refine (len_at b g n ws _ h).mono ?_; rintro e w' ⟨rfl, rfl⟩)
  go_ret;refine ⟨?_, rfl⟩
  first | (simp [inB, h0]; done) | (simp [inB]; omega)
theorem tdiv64 (i : Nat) : ((i : Nat) : Int).tdiv 64 = ((i / 64 : Nat) : Int) := by
 rw [Int.tdiv_eq_ediv_of_nonneg (by omega)];omega
theorem tmod64 (i : Nat) : ((i : Nat) : Int).tmod 64 = ((i % 64 : Nat) : Int) := by
 rw [Int.tmod_eq_emod_of_nonneg (by omega)];omega
theorem wrap_small (p : Nat) (h : p < 2000) : IntKind.i64.wrap ((p : Nat) : Int) = (p : Int) := by
 simp [IntKind.wrap, IntKind.bits, IntKind.signed];omega
theorem mask_at (i : Nat) (hi : i < 1024) (w : World) :
  Calls Tryz.prog 285 #[.int .i64 (i : Int)] w fun e w' => e = .returned (.int .u64 ((mk i : Nat) : Int)) ∧ w' = w := by
 have ht := tmod64 i;have HS : Hid _ := shl_one i;obtain ⟨r, hr⟩ : ∃ r, r = i % 64 := ⟨_, rfl⟩
 have hr64 : r < 64 := by omega
 rw [← hr] at ht HS;clear hr
 go_enter Tryz.func285, Tryz.ntmps285
 go_wp2;go_ret;refine ⟨?_, rfl⟩;rw [← HS.out, Nat.min_eq_left (by omega)];simp
theorem new_at (n : Nat) (w : World) (h : 1 ≤ n) (h2 : n ≤ 1024) :
  Calls Tryz.prog 230 #[.int .i64 (n : Int)] w fun e w' => e = .returned (.pointer (some ⟨w.heap.size + 1, 0, none⟩)) ∧
   BmAt w' (w.heap.size + 1) w.heap.size n (List.replicate ((n + 63) / 64) 0) ∧ Below w.heap.size w w' ∧ w'.heap.size = w.heap.size + 2 := by
 obtain ⟨m, hm⟩ : ∃ m, m = (n + 63) / 64 := ⟨_, rfl⟩
 have hd : ((n : Int) + 64 - 1).tdiv 64 = ((m : Nat) : Int) := by
  rw [Int.tdiv_eq_ediv_of_nonneg (by omega)];omega
 have hm2 : m ≤ 1024 := by omega
 have HW : Hid _ := wf_zero n;rw [← hm] at HW ⊢;clear hm
 have hmk := fun w => make_words m hm2 w
 go_enter Tryz.func230, Tryz.ntmps230
 go_wp2;go_ret;refine ⟨rfl, ⟨?_, ?_, HW.out, h, h2⟩, below_alloc2 _ _ _, by simp⟩
 ·have := heap_alloc_new (w.alloc (.cells (nrow (List.replicate m 0)) 45)) (.cells #[.int .i64 (n : Int), .slice (some ⟨w.heap.size, 0, none⟩) m m] 408)
  simpa using this
 ·rw [Below.heap_alloc _ _ _ (by simp)]
  exact heap_alloc_new _ _
end Bi
namespace Bi
def Low (f : Nat → Bool) (n : Nat) (r : Int) : Prop := (∃ k : Nat, r = (k : Int) ∧ k < n ∧ (∀ j, j < k → f j = true) ∧ f k = false) ∨ (r = -1 ∧ ∀ j, j < n → f j = true)
theorem Low.one {f : Nat → Bool} {n : Nat} {r s : Int} (h : Low f n r) (h' : Low f n s) : r = s := by
 rcases h with ⟨k, rfl, hk, h1, h2⟩ | ⟨rfl, h1⟩
 ·rcases h' with ⟨k', rfl, hk', h1', h2'⟩ | ⟨rfl, h1'⟩
  ·rcases Nat.lt_trichotomy k k' with q | q | q
   ·rw [h1' k q] at h2; cases h2
   ·rw [q]
   ·rw [h1 k' q] at h2'; cases h2'
  ·rw [h1' k hk] at h2; cases h2
 ·rcases h' with ⟨k', rfl, hk', h1', h2'⟩ | ⟨rfl, h1'⟩
  ·rw [h1 k' hk'] at h2'; cases h2'
  ·rfl
theorem mark_yes (b g n : Nat) (ws : List Nat) (i : Nat) (on : Bool) (w : World) (h : BmAt w b g n ws) (hi : i < n) :
  Calls Tryz.prog 231 #[.pointer (some ⟨b, 0, none⟩), .int .i64 (i : Int), .bool on] w fun e w' => e = .returned (.int .i64 0) ∧ BmAt w' b g n (mkW ws i on) ∧ Upd g w w' := by
 have hle := h.le;have hI := is_at b g n ws i w h;rw [inB_nat hi] at hI
 have hK := fun q => mask_at i (by omega) (w.drewN q)
 have hd := tdiv64 i;have c1 := h.c1;have hk : i / 64 < ws.length := h.wf.at hi;have c2 := h.word hk;have f2 := h.free (i / 64)
 have H : Hid (∀ q, BmAt ((w.drewN q).setCell ⟨g, i / 64, none⟩ (.int .u64 ((wd (ws.getD (i / 64) 0) i on : Nat) : Int))) b g n (mkW ws i on)) := fun q => (h.drew q).mark hi on
 have ha := set_bit (ws.getD (i / 64) 0) i (h.wf.word _);have hb := clear_bit (ws.getD (i / 64) 0) i (h.wf.word _);clear h
 cases on
 all_goals
  generalize wd (ws.getD (i / 64) 0) i true = r1 at *;generalize wd (ws.getD (i / 64) 0) i false = r0 at *;generalize ws.getD (i / 64) 0 = x at *;generalize mk i = M at *;obtain ⟨p, hp⟩ : ∃ p, p = i / 64 := ⟨_, rfl⟩;have hwr := wrap_small p (by omega);rw [← hp] at hd hk c2 H f2;clear hp;generalize ws.length = L at *
  go_enter Tryz.func231, Tryz.ntmps231
  go_wp2_with fail
  refine hI.mono ?_;rintro e w1 ⟨rfl, hw⟩;rw [hw];clear hw w1 hI;go_wp2
  go_region_with (go_at_call 285; refine (hK 1).mono ?_; rintro e w2 ⟨rfl, hw⟩; rw [hw]; clear hw w2)
  all_goals
   go_wp2;go_ret;exact ⟨rfl, H.out 1, (Upd.drew g w).trans (Upd.setCell g p w.drew _)⟩
end Bi
end Go.Proofs.YtinaeifpoljfoaaGreatDoor
