/- The disk of package blocks: where it lies in the heap, and the contracts of New, Len, has, Moves, slices.Clone and of the law's own Block. -/
/- The contracts of the disk's Get and Put, of the law's own Block, and of janusref01.Words at two equal rows of words. -/
import Derived.Test.YtcjpahnlckfgoaaGreatDoorFrames
import Derived.BigRegion
import Derived.Deep.QuietTactic
import Derived.BigQuiet
namespace Go.Proofs.YtcjpahnlckfgoaaGreatDoor
open Go.RowKit
namespace Di
set_option linter.unusedVariables false

theorem contentInfo : (Tryz.prog.info? 144).map (fun i => (i.zero, i.size, i.bytes)) = some (some (.agg (zrow 32)), 32, 256) := by kernel_rfl
theorem wordInfo : (Tryz.prog.info? 103).map (fun i => (i.zero, i.size, i.bytes)) = some (some (.int .u64 0), 1, 8) := by kernel_rfl

theorem make_blocks (n : Nat) (h : n ≤ 1024) (w : World) :
    (Instr.makeSlice 94 (.int .i64 (n : Int)) (.int .i64 (n : Int))).run Tryz.prog w = .ok (.slice (some ⟨w.heap.size, 0, none⟩) n n) (w.alloc (.cells (zrow (n * 32)) 144)) :=
  run_make_flat 94 144 (.agg (zrow 32)) (.int .u64 0) 32 256 Tryz.underlying94 contentInfo rfl (by omega) .i64 .i64 n (by omega) (by omega) w

/-- A disk: its head is block b, its words are block g. -/
structure DiskAt (w : World) (b g n : Nat) (vs : List Int) (gt pt : Nat) : Prop where
  head : w.heap[b]? = some (.cells #[.slice (some ⟨g, 0, none⟩) n n, .int .i64 gt, .int .i64 pt] 96)
  row : w.heap[g]? = some (.cells (urow vs) 144)
  len : vs.length = n * 32
  ne : b ≠ g

section
variable {w w' : World} {b g n : Nat} {vs : List Int} {gt pt : Nat}
theorem DiskAt.c0 (h : DiskAt w b g n vs gt pt) : w.cell? ⟨b, 0, none⟩ = some (.slice (some ⟨g, 0, none⟩) n n) := by rw [cell_of_heap h.head]; rfl
theorem DiskAt.c1 (h : DiskAt w b g n vs gt pt) : w.cell? ⟨b, 1, none⟩ = some (.int .i64 gt) := by rw [cell_of_heap h.head]; rfl
theorem DiskAt.c2 (h : DiskAt w b g n vs gt pt) : w.cell? ⟨b, 2, none⟩ = some (.int .i64 pt) := by rw [cell_of_heap h.head]; rfl
theorem DiskAt.free (h : DiskAt w b g n vs gt pt) (i : Nat) : w.frozen? ⟨b, i, none⟩ = false := frozen_of_heap h.head
theorem DiskAt.word (h : DiskAt w b g n vs gt pt) (i : Nat) (hi : i < n * 32) : w.cell? ⟨g, i, none⟩ = some (.int .u64 (vs.getD i 0)) := by
  rw [cell_of_heap h.row]
  have : i < vs.length := by rw [h.len]; exact hi
  simp [urow, this]
theorem DiskAt.keep (h : DiskAt w b g n vs gt pt) (hb : w'.heap[b]? = w.heap[b]?) (hg : w'.heap[g]? = w.heap[g]?) : DiskAt w' b g n vs gt pt :=
  ⟨hb.trans h.head, hg.trans h.row, h.len, h.ne⟩
theorem DiskAt.below (h : DiskAt w b g n vs gt pt) (k : Below w.heap.size w w') : DiskAt w' b g n vs gt pt :=
  h.keep (k.block _ (lt_of_heap h.head)) (k.block _ (lt_of_heap h.row))
theorem DiskAt.get1 (h : DiskAt w b g n vs gt pt) : DiskAt (w.setCell ⟨b, 1, none⟩ (.int .i64 ((gt : Int) + 1))) b g n vs (gt + 1) pt := by
  refine ⟨?_, (Below.heap_setCell _ _ _ _ (Ne.symm h.ne)).trans h.row, h.len, h.ne⟩
  rw [setCell_eq_setRow w b 1 _ _ _ _ h.head, setRow_heap w b _ _ _ _ h.head]
  rfl
theorem DiskAt.put1 (h : DiskAt w b g n vs gt pt) : DiskAt (w.setCell ⟨b, 2, none⟩ (.int .i64 ((pt : Int) + 1))) b g n vs gt (pt + 1) := by
  refine ⟨?_, (Below.heap_setCell _ _ _ _ (Ne.symm h.ne)).trans h.row, h.len, h.ne⟩
  rw [setCell_eq_setRow w b 2 _ _ _ _ h.head, setRow_heap w b _ _ _ _ h.head]
  rfl
theorem DiskAt.lay (h : DiskAt w b g n vs gt pt) (o : Nat) (ws : List Int) (hl : o + ws.length ≤ n * 32) : DiskAt (w.setRow g (urow (splice vs o ws))) b g n (splice vs o ws) gt pt :=
  ⟨(setRow_other w g b _ h.ne).trans h.head, setRow_heap w g _ _ _ _ h.row, by rw [splice_length _ _ _ (by rw [h.len]; exact hl), h.len], h.ne⟩
end

theorem len_nil (w : World) :
    Calls Tryz.prog 149 #[.pointer none] w fun e w' => e = .returned (.int .i64 0) ∧ w' = w := by
  go_enter Tryz.func149, Tryz.ntmps149
  go_wp2
  go_ret
  exact ⟨rfl, rfl⟩
theorem len_at (b g n : Nat) (vs : List Int) (gt pt : Nat) (w : World) (h : DiskAt w b g n vs gt pt) :
    Calls Tryz.prog 149 #[.pointer (some ⟨b, 0, none⟩)] w fun e w' => e = .returned (.int .i64 n) ∧ w' = w := by
  have hc := h.c0
  go_enter Tryz.func149, Tryz.ntmps149
  go_wp2
  go_ret
  exact ⟨rfl, rfl⟩
/-- Whether there is such a block. -/
def inB (f : Int) (n : Nat) : Bool := decide (0 ≤ f ∧ f < n)
theorem inB_yes {f : Int} {n : Nat} (h0 : 0 ≤ f) (h1 : f < n) : inB f n = true := by simp [inB, h0, h1]
theorem inB_no {f : Int} {n : Nat} (h : ¬ (0 ≤ f ∧ f < n)) : inB f n = false := by simp only [inB, decide_eq_false_iff_not]; exact h

theorem has_nil (f : Int) (w : World) :
    Calls Tryz.prog 92 #[.pointer none, .int .i64 f] w fun e w' => e = .returned (.bool false) ∧ w' = w := by
  by_cases h : 0 ≤ f
  all_goals
    go_enter Tryz.func92, Tryz.ntmps92
    go_wp2_with (go_at_call 149; refine (len_nil _).mono ?_; rintro e w' ⟨rfl, rfl⟩)
    go_ret
    refine ⟨?_, rfl⟩
    simp <;> omega
theorem has_at (b g n : Nat) (vs : List Int) (gt pt : Nat) (f : Int) (w : World) (h : DiskAt w b g n vs gt pt) (x : Bool) (hx : inB f n = x) :
    Calls Tryz.prog 92 #[.pointer (some ⟨b, 0, none⟩), .int .i64 f] w fun e w' => e = .returned (.bool x) ∧ w' = w := by
  subst hx
  by_cases h0 : 0 ≤ f
  all_goals
    go_enter Tryz.func92, Tryz.ntmps92
    go_wp2_with (go_at_call 149; refine (len_at b g n vs gt pt _ h).mono ?_; rintro e w' ⟨rfl, rfl⟩)
    go_ret
    refine ⟨?_, rfl⟩
    first | (simp [inB, h0]; done) | (simp [inB]; omega)

theorem new_no (n : Int) (w : World) (h : n < 1 ∨ 1024 < n) :
    Calls Tryz.prog 16 #[.int .i64 n] w fun e w' => e = .returned (.pointer none) ∧ w' = w := by
  rcases h with h | h
  · go_enter Tryz.func16, Tryz.ntmps16
    go_wp2
    go_ret
    exact ⟨rfl, rfl⟩
  · have h' : ¬ n < 1 := by omega
    go_enter Tryz.func16, Tryz.ntmps16
    go_wp2
    go_ret
    exact ⟨rfl, rfl⟩

/-- What New leaves. -/
def newWorld (w : World) (n : Nat) : World := (w.alloc (.cells (zrow (n * 32)) 144)).alloc (.cells #[.slice (some ⟨w.heap.size, 0, none⟩) n n, .int .i64 ((0 : Nat) : Int), .int .i64 ((0 : Nat) : Int)] 96)
theorem new_yes (n : Nat) (w : World) (h : 1 ≤ n) (h2 : n ≤ 1024) :
    Calls Tryz.prog 16 #[.int .i64 n] w fun e w' => e = .returned (.pointer (some ⟨w.heap.size + 1, 0, none⟩)) ∧ w' = newWorld w n := by
  have hmk := fun w => make_blocks n h2 w
  go_enter Tryz.func16, Tryz.ntmps16
  go_wp2
  go_ret
  exact ⟨rfl, rfl⟩
theorem new_at (n : Int) (w : World) (h : 1 ≤ n) (h2 : n ≤ 1024) :
    Calls Tryz.prog 16 #[.int .i64 n] w fun e w' => e = .returned (.pointer (some ⟨w.heap.size + 1, 0, none⟩)) ∧
      DiskAt w' (w.heap.size + 1) w.heap.size n.toNat (List.replicate (n.toNat * 32) 0) 0 0 ∧ Below w.heap.size w w' ∧ w'.heap.size = w.heap.size + 2 := by
  obtain ⟨k, rfl⟩ := nat_of n (by omega)
  refine (new_yes k w (by omega) (by omega)).mono fun e w' ⟨he, hw⟩ => ?_
  subst hw
  refine ⟨he, ⟨?_, ?_, by simp, by omega⟩, ((Below.refl _ _).alloc (Nat.le_refl _) _).alloc (by simp) _, by simp [newWorld]⟩
  · have := heap_alloc_new (w.alloc (.cells (zrow (k * 32)) 144)) (.cells #[.slice (some ⟨w.heap.size, 0, none⟩) k k, .int .i64 ((0 : Nat) : Int), .int .i64 ((0 : Nat) : Int)] 96)
    simpa [newWorld] using this
  · unfold newWorld
    rw [Below.heap_alloc _ _ _ (by simp), heap_alloc_new, zrow_urow]
    simp

set_option maxHeartbeats 400000 in
theorem clone_at (g o m c : Nat) (xs : List Int) (w : World) (hl : xs.length = m) (hm : 0 < m) (hm2 : m ≤ 1000) (hx : ∀ (j : Nat) (x : Int), xs[j]? = some x → w.cell? ⟨g, o + j, none⟩ = some (.int .u64 x)) :
    Calls Tryz.prog 93 #[.slice (some ⟨g, o, none⟩) m c] w fun e w' => ∃ gg cap, e = .returned (.slice (some ⟨gg, 0, none⟩) m cap) ∧
      w'.ownsRow w.heap.size 103 1 (.slice (some ⟨gg, 0, none⟩) m cap) m (uvs xs) ∧ Below w.heap.size w w' := by
  obtain ⟨i0, hi0, hzz⟩ := Option.map_eq_some_iff.1 wordInfo
  simp only [Prod.mk.injEq] at hzz
  obtain ⟨hz0, hz1, hz2⟩ := hzz
  have hown : (w.alloc (.cells #[] 103)).ownsRow w.heap.size 103 1 (.slice (some ⟨w.heap.size, 0, none⟩) 0 0) 0 [] :=
    ⟨rfl, Or.inr ⟨w.heap.size, 0, #[], rfl, Nat.le_refl _, heap_alloc_new _ _, Nat.le_refl _, by unfold maxLen; omega, rfl, rfl⟩⟩
  have heq : ∀ w : World, (binOp BinOp.eql 81 (.slice (some ⟨g, o, none⟩) m c) (.slice none 0 0)).run Tryz.prog w = .ok (.bool false) w := fun w => by kernel_rfl
  have HX : Hid _ := hx
  have HL : Hid _ := hl
  clear hx hl
  go_enter Tryz.func93, Tryz.ntmps93
  go_wp2_with (first
    | (at_builtin; refine wpList_append_lies _ rfl _ _ _ rfl w.heap.size 103 i0 _ 1 8 Tryz.underlying81 hi0 hz0 hz1 hz2 rfl (by omega) _ _ _ rfl hown ⟨g, o, none⟩ m c (uvs xs) rfl (by rw [uvs_len, HL.out]; omega)
        (fun j u hu => by obtain ⟨x, hx, rfl⟩ := uvs_get hu; rw [add0]; exact (((Below.refl w.heap.size w).alloc (Nat.le_refl _) _).cell (cell_lt (HX.out j x hx))).trans (HX.out j x hx)) (uvs_one xs) hm (by unfold maxLen; omega) (by omega) (by simp) _ rfl ?_; intro gg cap w2 hown2 hgrow hat hlt2)
    | go_in)
  go_ret
  refine ⟨gg, cap, by simp, by simpa using hown2, ((Below.refl _ _).alloc (Nat.le_refl _) _).trans (below_grown hgrow (by simp) (ownsRow_low hown))⟩

end Di
end Go.Proofs.YtcjpahnlckfgoaaGreatDoor

namespace Go.Proofs.YtcjpahnlckfgoaaGreatDoor
open Go.RowKit
namespace Di
set_option linter.unusedVariables false

/-- The words that the law's Block makes. -/
def blkV (v : Int) (i : Nat) : Int := IntKind.u64.wrap (v + i)
def blk (v : Int) (m : Nat) : List Int := (List.range m).map (blkV v)
theorem blk_len (v : Int) (m : Nat) : (blk v m).length = m := by simp [blk]
theorem blk_succ (v : Int) (m : Nat) : blk v (m + 1) = blk v m ++ [blkV v m] := by simp [blk, List.range_succ]
/-- How many these are. -/
def cnt (n : Int) : Nat := min n.toNat 100

theorem get_nil (f : Int) (w : World) :
    Calls Tryz.prog 41 #[.pointer none, .int .i64 f] w fun e w' => e = .returned (.tuple #[.slice none 0 0, .int .i64 101]) ∧ w' = w := by
  go_enter Tryz.func41, Tryz.ntmps41
  go_wp2_with (go_at_call 92; refine (has_nil _ _).mono ?_; rintro e w' ⟨rfl, rfl⟩)
  go_ret2
  exact ⟨rfl, rfl⟩
theorem getno_at (b g n : Nat) (vs : List Int) (gt pt : Nat) (f : Int) (w : World) (h : DiskAt w b g n vs gt pt) (hno : ¬ (0 ≤ f ∧ f < n)) :
    Calls Tryz.prog 41 #[.pointer (some ⟨b, 0, none⟩), .int .i64 f] w fun e w' => e = .returned (.tuple #[.slice none 0 0, .int .i64 101]) ∧ w' = w := by
  have HN : Hid _ := hno
  clear hno
  go_enter Tryz.func41, Tryz.ntmps41
  go_wp2_with (go_at_call 92; refine (has_at b g n vs gt pt f _ h false (inB_no HN.out)).mono ?_; rintro e w' ⟨rfl, rfl⟩)
  go_ret2
  exact ⟨rfl, rfl⟩

theorem frame_get {vs : List Int} {n f : Nat} (hl : vs.length = n * 32) (hf : f < n) {j : Nat} {x : Int} (h : (frameOf vs f)[j]? = some x) : j < 32 ∧ x = vs.getD (f * 32 + j) 0 := by
  have hj : j < 32 := by
    have := (List.getElem?_eq_some_iff.1 h).1
    rwa [frameOf_length vs f n hl hf] at this
  exact ⟨hj, by rw [← frameOf_getD vs f j hj]; exact getD_of_get? h⟩

set_option maxHeartbeats 1000000 in
theorem get_at (b g n : Nat) (vs : List Int) (gt pt : Nat) (f : Int) (w : World) (h : DiskAt w b g n vs gt pt) (h0 : 0 ≤ f) (h1 : f < n) (hgt : gt ≤ 1000000000000) :
    Calls Tryz.prog 41 #[.pointer (some ⟨b, 0, none⟩), .int .i64 f] w fun e w' => ∃ gg, e = .returned (.tuple #[.slice (some ⟨gg, 0, none⟩) 32 32, .int .i64 0]) ∧
      URow w.heap.size w' (.slice (some ⟨gg, 0, none⟩) 32 32) (frameOf vs f.toNat) ∧ DiskAt w' b g n vs (gt + 1) pt ∧ Upd b w w' := by
  obtain ⟨f, rfl⟩ := nat_of f h0
  simp only [Int.toNat_natCast]
  have hfn : f < n := by omega
  have hc0 := h.c0
  have hc1 := h.c1
  have hfz := h.free 1
  have hl := lt_of_heap h.head
  have H1 : Hid _ := h.get1
  have hsz : (w.setCell ⟨b, 1, none⟩ (.int .i64 ((gt : Int) + 1))).heap.size = w.heap.size := by simp [World.setCell]
  have HS : Hid _ := hsz
  have hd0 := h.get1.c0
  have hlen := frameOf_length vs f n h.len hfn
  have HL : Hid _ := hlen
  clear hsz hlen
  go_enter Tryz.func41, Tryz.ntmps41
  go_wp2_with fail
  refine (has_at b g n vs gt pt f _ h true (inB_yes h0 h1)).mono ?_
  rintro e w' ⟨rfl, rfl⟩
  go_wp2_with fail
  refine (clone_at g (f * 32) 32 32 (frameOf vs f) _ HL.out (by omega) (by omega) (fun j x hx => by obtain ⟨hj, rfl⟩ := frame_get h.len hfn hx; exact (H1.out).word _ (by omega))).mono ?_
  rintro e w2 ⟨gg, cap, rfl, hown, hb⟩
  have hcap : 32 ≤ cap := by
    rcases hown.2 with ⟨e2, _⟩ | ⟨g', cap', cur, e2, _, _, hcc, _⟩
    · simp at e2
    · simp at e2; omega
  go_wp2
  go_ret2
  refine ⟨gg, rfl, ?_, (H1.out).below hb, (Upd.setCell _ _ _ _).trans (Upd.of_below hb)⟩
  have hur := urow_of_own (zs := frameOf vs f) (by rw [HL.out]; exact hown)
  rw [HS.out] at hur
  obtain ⟨a, c, e, _, _, hf⟩ := hur
  rw [HL.out] at e
  simp only [Value.slice.injEq] at e
  obtain ⟨rfl, _, rfl⟩ := e
  exact ⟨_, 32, by rw [HL.out], by rw [HL.out]; omega, by unfold maxLen; omega, hf⟩

theorem put_nil (f : Int) (a : Option Addr) (m c : Nat) (w : World) :
    Calls Tryz.prog 245 #[.pointer none, .int .i64 f, .slice a m c] w fun e w' => e = .returned (.int .i64 101) ∧ w' = w := by
  go_enter Tryz.func245, Tryz.ntmps245
  go_wp2_with (go_at_call 92; refine (has_nil _ _).mono ?_; rintro e w' ⟨rfl, rfl⟩)
  go_ret
  exact ⟨rfl, rfl⟩
theorem putno_at (b g n : Nat) (vs : List Int) (gt pt : Nat) (f : Int) (a : Option Addr) (m c : Nat) (w : World) (h : DiskAt w b g n vs gt pt) (hno : ¬ (0 ≤ f ∧ f < n ∧ m = 32)) :
    Calls Tryz.prog 245 #[.pointer (some ⟨b, 0, none⟩), .int .i64 f, .slice a m c] w fun e w' => e = .returned (.int .i64 101) ∧ w' = w := by
  by_cases hf : 0 ≤ f ∧ f < n
  · have hm : ((m : Int) != 32) = true := by simp; omega
    have HF : Hid _ := hf
    clear hno hf
    go_enter Tryz.func245, Tryz.ntmps245
    go_wp2_with (go_at_call 92; refine (has_at b g n vs gt pt f _ h true (inB_yes HF.1 HF.2)).mono ?_; rintro e w' ⟨rfl, rfl⟩)
    go_ret
    exact ⟨rfl, rfl⟩
  · have HF : Hid _ := hf
    clear hno hf
    go_enter Tryz.func245, Tryz.ntmps245
    go_wp2_with (go_at_call 92; refine (has_at b g n vs gt pt f _ h false (inB_no HF.out)).mono ?_; rintro e w' ⟨rfl, rfl⟩)
    go_ret
    exact ⟨rfl, rfl⟩

theorem copy_in {w : World} {b g n : Nat} {vs : List Int} {gt pt : Nat} (h : DiskAt w b g n vs gt pt) (f : Nat) (hf : f < n) (p : Nat) (ws : List Int) (hl : ws.length = 32)
    (hw : ∀ (j : Nat) (x : Int), ws[j]? = some x → w.cell? ⟨p, j, none⟩ = some (.int .u64 x)) (ty : TypeId) (c1 c2 : Nat) :
    (Builtin.copy_ #[81, 81] ty #[.slice (some ⟨g, f * 32, none⟩) 32 c1, .slice (some ⟨p, 0, none⟩) 32 c2]).run Tryz.prog w = .ok (goInt 32) (w.setRow g (urow (splice vs (f * 32) ws))) := by
  have hr := run_copy_row Tryz.prog w 81 81 ty 103 g (f * 32) 32 c1 ⟨p, 0, none⟩ 32 c2 (urow vs) 144 (uvs ws) Tryz.underlying81 (by kernel_rfl) h.row
    (by simp [uvs_len, hl])
    (fun j v hv => by
      obtain ⟨x, hx, rfl⟩ := uvs_get hv
      rw [add0, Nat.zero_add]
      exact hw j x hx)
    (by simp [uvs_len, hl, urow_size, h.len]; omega) (uvs_one ws)
  rw [hr, urow_splice vs (f * 32) ws (uvs ws) rfl (by rw [h.len, hl]; omega)]
  simp [uvs_len, hl]

set_option maxHeartbeats 1000000 in
theorem put_any (M b g n : Nat) (vs ws : List Int) (gt pt : Nat) (f : Int) (u : Value) (w : World) (h : DiskAt w b g n vs gt pt) (h0 : 0 ≤ f) (h1 : f < n) (hpt : pt ≤ 1000000000000) (hu : URow M w u ws) (hl : ws.length = 32) :
    Calls Tryz.prog 245 #[.pointer (some ⟨b, 0, none⟩), .int .i64 f, u] w fun e w' => e = .returned (.int .i64 0) ∧
      DiskAt w' b g n (splice vs (f.toNat * 32) ws) gt (pt + 1) ∧ UpdP (fun k => k = b ∨ k = g) w w' := by
  obtain ⟨f, rfl⟩ := nat_of f h0
  simp only [Int.toNat_natCast]
  obtain ⟨a, cap, rfl, _, _, hf⟩ := hu
  obtain ⟨p, cur, rfl, hpM, hh, hcell⟩ := hf (by intro e; rw [e] at hl; simp at hl)
  rw [hl]
  have hfn : f < n := by omega
  have hc0 := h.c0
  have hc2 := h.c2
  have hfz := h.free 2
  have H1 : Hid _ := h.put1
  have hd0 := h.put1.c0
  have hr := copy_in h.put1 f hfn p ws hl (fun j x hx => by
    rw [World.cell?_of_block (w := w) (a := ⟨p, j, none⟩) (Below.heap_setCell _ _ _ _ (by show p ≠ b; intro e; subst e; have q := h.head; rw [hh] at q; injection q with q1; injection q1 with _ q2; exact absurd q2 (by decide))), cell_of_heap hh]
    exact hcell j x hx)
  have HL : Hid _ := hl
  clear hl hcell hh
  go_enter Tryz.func245, Tryz.ntmps245
  go_wp2_with fail
  refine (has_at b g n vs gt pt f _ h true (inB_yes h0 h1)).mono ?_
  rintro e w' ⟨rfl, rfl⟩
  go_wp2
  go_ret
  refine ⟨rfl, (H1.out).lay _ _ (by rw [HL.out]; omega), ((Upd.setCell b 2 _ _).p _ (Or.inl rfl)).trans ((Upd.setRow g _ _).p _ (Or.inr rfl))⟩

theorem put_at (M b g n : Nat) (vs ws : List Int) (gt pt : Nat) (f : Int) (u : Value) (w : World) (h : DiskAt w b g n vs gt pt) (h0 : 0 ≤ f) (h1 : f < n) (hpt : pt ≤ 1000000000000) (hu : URow M w u ws) (hl : ws.length = 32) (hM : b < M) :
    Calls Tryz.prog 245 #[.pointer (some ⟨b, 0, none⟩), .int .i64 f, u] w fun e w' => e = .returned (.int .i64 0) ∧
      DiskAt w' b g n (splice vs (f.toNat * 32) ws) gt (pt + 1) ∧ UpdP (fun k => k = b ∨ k = g) w w' := put_any M b g n vs ws gt pt f u w h h0 h1 hpt hu hl

set_option maxHeartbeats 1000000 in
theorem words_same (M M' : Nat) (u v : Value) (zs : List Int) (w : World) (h1 : URow M w u zs) (h2 : URow M' w v zs) (hl : zs.length ≤ 1000) :
    Calls Tryz.prog 42 #[u, v] w fun e w' => e = .returned (.bool true) ∧ ∃ q, w' = w.drewN q := by
  obtain ⟨a, cap, rfl, _, _, f1⟩ := h1
  obtain ⟨b, cap2, rfl, _, _, f2⟩ := h2
  go_enter Tryz.func42, Tryz.ntmps42
  go_wp2
  go_loopw [5] (fun i wr => ∃ (k q : Nat), k ≤ zs.length ∧ i = .int .i64 k ∧ wr = w.drewN q) (fun i _ => zs.length - (intOf i).toNat)
  case atStart => exact ⟨0, 0, by omega, rfl, rfl⟩
  case round =>
    obtain ⟨k, q, hk, rfl, rfl⟩ := hrel
    by_cases hlk : k < zs.length
    · have hne : zs ≠ [] := by intro e; rw [e] at hlk; simp at hlk
      obtain ⟨g, cur, rfl, _, hh, hg⟩ := f1 hne
      obtain ⟨g', cur', rfl, _, hh', hg'⟩ := f2 hne
      have he := List.getElem?_eq_getElem hlk
      have c1 : w.cell? ⟨g, k, none⟩ = some (.int .u64 zs[k]) := by rw [cell_of_heap hh]; exact hg k _ he
      have c2 : w.cell? ⟨g', k, none⟩ = some (.int .u64 zs[k]) := by rw [cell_of_heap hh']; exact hg' k _ he
      generalize zs[k] = x at he c1 c2
      have hint : (k : Int) < (zs.length : Int) := by omega
      clear f1 f2 hg hg' he hh hh'
      go_wp2
      go_quiet (fail)
      go_wp2
      go_roundw
      case rel => exact ⟨k + 1, _, by omega, by go_num, rfl⟩
      case measure => simp [intOf]; omega
    · have : k = zs.length := by omega
      subst this
      clear f1 f2
      go_wp2
      go_ret
      exact ⟨rfl, q, rfl⟩

theorem drewN_below {w w' : World} (h : ∃ q, w' = w.drewN q) : Below w.heap.size w w' := by
  obtain ⟨q, rfl⟩ := h
  exact ⟨rfl, rfl, rfl, Nat.le_refl _, fun _ _ => rfl⟩

end Di
end Go.Proofs.YtcjpahnlckfgoaaGreatDoor
