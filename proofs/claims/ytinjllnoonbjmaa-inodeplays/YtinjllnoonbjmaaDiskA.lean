/- The disk of package blocks: where it lies in the heap, and the contracts of New, Len, has, Moves, slices.Clone and of the law's own Block. -/
import Derived.Test.YtinjllnoonbjmaaFrames
import Derived.BigRegion
namespace Go.Proofs.Ytinjllnoonbjmaa
open Go.RowKit
namespace Di
set_option linter.unusedVariables false

theorem contentInfo : (Try.prog.info? 146).map (fun i => (i.zero, i.size, i.bytes)) = some (some (.agg (zrow 32)), 32, 256) := by kernel_rfl
theorem wordInfo : (Try.prog.info? 99).map (fun i => (i.zero, i.size, i.bytes)) = some (some (.int .u64 0), 1, 8) := by kernel_rfl

theorem make_blocks (n : Nat) (h : n ≤ 1024) (w : World) :
    (Instr.makeSlice 113 (.int .i64 (n : Int)) (.int .i64 (n : Int))).run Try.prog w = .ok (.slice (some ⟨w.heap.size, 0, none⟩) n n) (w.alloc (.cells (zrow (n * 32)) 146)) :=
  run_make_flat 113 146 (.agg (zrow 32)) (.int .u64 0) 32 256 Try.underlying113 contentInfo rfl (by omega) .i64 .i64 n (by omega) (by omega) w

/-- A disk: its head is block b, its words are block g. -/
structure DiskAt (w : World) (b g n : Nat) (vs : List Int) (gt pt : Nat) : Prop where
  head : w.heap[b]? = some (.cells #[.slice (some ⟨g, 0, none⟩) n n, .int .i64 gt, .int .i64 pt] 115)
  row : w.heap[g]? = some (.cells (urow vs) 146)
  len : vs.length = n * 32
  ne : b ≠ g

section
variable {w w' : World} {b g n : Nat} {vs : List Int} {gt pt : Nat}
theorem DiskAt.c0 (h : DiskAt w b g n vs gt pt) : w.cell? ⟨b, 0, none⟩ = some (.slice (some ⟨g, 0, none⟩) n n) := by rw [cell_of_heap h.head]; rfl
theorem DiskAt.c1 (h : DiskAt w b g n vs gt pt) : w.cell? ⟨b, 1, none⟩ = some (.int .i64 gt) := by rw [cell_of_heap h.head]; rfl
theorem DiskAt.c2 (h : DiskAt w b g n vs gt pt) : w.cell? ⟨b, 2, none⟩ = some (.int .i64 pt) := by rw [cell_of_heap h.head]; rfl
theorem DiskAt.free (h : DiskAt w b g n vs gt pt) (i : Nat) : w.frozen? ⟨b, i, none⟩ = false := frozen_of_heap h.head
theorem DiskAt.word (h : DiskAt w b g n vs gt pt) (i : Nat) (hi : i < n * 32) : w.cell? ⟨g, i, none⟩ = some (.int .u64 (vs.getD i 0)) := by
  rw [cell_of_heap h.row]
  have : i < vs.length := by rw [h.len]; exact hi
  simp [urow, this]
theorem DiskAt.keep (h : DiskAt w b g n vs gt pt) (hb : w'.heap[b]? = w.heap[b]?) (hg : w'.heap[g]? = w.heap[g]?) : DiskAt w' b g n vs gt pt :=
  ⟨hb.trans h.head, hg.trans h.row, h.len, h.ne⟩
theorem DiskAt.below (h : DiskAt w b g n vs gt pt) (k : Below w.heap.size w w') : DiskAt w' b g n vs gt pt :=
  h.keep (k.block _ (lt_of_heap h.head)) (k.block _ (lt_of_heap h.row))
theorem DiskAt.get1 (h : DiskAt w b g n vs gt pt) : DiskAt (w.setCell ⟨b, 1, none⟩ (.int .i64 ((gt : Int) + 1))) b g n vs (gt + 1) pt := by
  refine ⟨?_, (Below.heap_setCell _ _ _ _ (Ne.symm h.ne)).trans h.row, h.len, h.ne⟩
  rw [setCell_eq_setRow w b 1 _ _ _ _ h.head, setRow_heap w b _ _ _ _ h.head]
  rfl
theorem DiskAt.put1 (h : DiskAt w b g n vs gt pt) : DiskAt (w.setCell ⟨b, 2, none⟩ (.int .i64 ((pt : Int) + 1))) b g n vs gt (pt + 1) := by
  refine ⟨?_, (Below.heap_setCell _ _ _ _ (Ne.symm h.ne)).trans h.row, h.len, h.ne⟩
  rw [setCell_eq_setRow w b 2 _ _ _ _ h.head, setRow_heap w b _ _ _ _ h.head]
  rfl
theorem DiskAt.lay (h : DiskAt w b g n vs gt pt) (o : Nat) (ws : List Int) (hl : o + ws.length ≤ n * 32) : DiskAt (w.setRow g (urow (splice vs o ws))) b g n (splice vs o ws) gt pt :=
  ⟨(setRow_other w g b _ h.ne).trans h.head, setRow_heap w g _ _ _ _ h.row, by rw [splice_length _ _ _ (by rw [h.len]; exact hl), h.len], h.ne⟩
end

theorem len_nil (w : World) :
    Calls Try.prog 92 #[.pointer none] w fun e w' => e = .returned (.int .i64 0) ∧ w' = w := by
  go_enter Try.func92, Try.ntmps92
  go_wp2
  go_ret
  exact ⟨rfl, rfl⟩
theorem len_at (b g n : Nat) (vs : List Int) (gt pt : Nat) (w : World) (h : DiskAt w b g n vs gt pt) :
    Calls Try.prog 92 #[.pointer (some ⟨b, 0, none⟩)] w fun e w' => e = .returned (.int .i64 n) ∧ w' = w := by
  have hc := h.c0
  go_enter Try.func92, Try.ntmps92
  go_wp2
  go_ret
  exact ⟨rfl, rfl⟩
/-- Whether there is such a block. -/
def inB (f : Int) (n : Nat) : Bool := decide (0 ≤ f ∧ f < n)
theorem inB_yes {f : Int} {n : Nat} (h0 : 0 ≤ f) (h1 : f < n) : inB f n = true := by simp [inB, h0, h1]
theorem inB_no {f : Int} {n : Nat} (h : ¬ (0 ≤ f ∧ f < n)) : inB f n = false := by simp only [inB, decide_eq_false_iff_not]; exact h

theorem has_nil (f : Int) (w : World) :
    Calls Try.prog 81 #[.pointer none, .int .i64 f] w fun e w' => e = .returned (.bool false) ∧ w' = w := by
  by_cases h : 0 ≤ f
  all_goals
    go_enter Try.func81, Try.ntmps81
    go_wp2_with (go_at_call 92; refine (len_nil _).mono ?_; rintro e w' ⟨rfl, rfl⟩)
    go_ret
    refine ⟨?_, rfl⟩
    simp <;> omega
theorem has_at (b g n : Nat) (vs : List Int) (gt pt : Nat) (f : Int) (w : World) (h : DiskAt w b g n vs gt pt) (x : Bool) (hx : inB f n = x) :
    Calls Try.prog 81 #[.pointer (some ⟨b, 0, none⟩), .int .i64 f] w fun e w' => e = .returned (.bool x) ∧ w' = w := by
  subst hx
  by_cases h0 : 0 ≤ f
  all_goals
    go_enter Try.func81, Try.ntmps81
    go_wp2_with (go_at_call 92; refine (len_at b g n vs gt pt _ h).mono ?_; rintro e w' ⟨rfl, rfl⟩)
    go_ret
    refine ⟨?_, rfl⟩
    first | (simp [inB, h0]; done) | (simp [inB]; omega)

theorem new_no (n : Int) (w : World) (h : n < 1 ∨ 1024 < n) :
    Calls Try.prog 28 #[.int .i64 n] w fun e w' => e = .returned (.pointer none) ∧ w' = w := by
  rcases h with h | h
  · go_enter Try.func28, Try.ntmps28
    go_wp2
    go_ret
    exact ⟨rfl, rfl⟩
  · have h' : ¬ n < 1 := by omega
    go_enter Try.func28, Try.ntmps28
    go_wp2
    go_ret
    exact ⟨rfl, rfl⟩

/-- What New leaves. -/
def newWorld (w : World) (n : Nat) : World := (w.alloc (.cells (zrow (n * 32)) 146)).alloc (.cells #[.slice (some ⟨w.heap.size, 0, none⟩) n n, .int .i64 ((0 : Nat) : Int), .int .i64 ((0 : Nat) : Int)] 115)
theorem new_yes (n : Nat) (w : World) (h : 1 ≤ n) (h2 : n ≤ 1024) :
    Calls Try.prog 28 #[.int .i64 n] w fun e w' => e = .returned (.pointer (some ⟨w.heap.size + 1, 0, none⟩)) ∧ w' = newWorld w n := by
  have hmk := fun w => make_blocks n h2 w
  go_enter Try.func28, Try.ntmps28
  go_wp2
  go_ret
  exact ⟨rfl, rfl⟩
theorem new_at (n : Int) (w : World) (h : 1 ≤ n) (h2 : n ≤ 1024) :
    Calls Try.prog 28 #[.int .i64 n] w fun e w' => e = .returned (.pointer (some ⟨w.heap.size + 1, 0, none⟩)) ∧
      DiskAt w' (w.heap.size + 1) w.heap.size n.toNat (List.replicate (n.toNat * 32) 0) 0 0 ∧ Below w.heap.size w w' ∧ w'.heap.size = w.heap.size + 2 := by
  obtain ⟨k, rfl⟩ := nat_of n (by omega)
  refine (new_yes k w (by omega) (by omega)).mono fun e w' ⟨he, hw⟩ => ?_
  subst hw
  refine ⟨he, ⟨?_, ?_, by simp, by omega⟩, ((Below.refl _ _).alloc (Nat.le_refl _) _).alloc (by simp) _, by simp [newWorld]⟩
  · have := heap_alloc_new (w.alloc (.cells (zrow (k * 32)) 146)) (.cells #[.slice (some ⟨w.heap.size, 0, none⟩) k k, .int .i64 ((0 : Nat) : Int), .int .i64 ((0 : Nat) : Int)] 115)
    simpa [newWorld] using this
  · unfold newWorld
    rw [Below.heap_alloc _ _ _ (by simp), heap_alloc_new, zrow_urow]
    simp

set_option maxHeartbeats 400000 in
theorem clone_at (g o m c : Nat) (xs : List Int) (w : World) (hl : xs.length = m) (hm : 0 < m) (hm2 : m ≤ 1000) (hx : ∀ (j : Nat) (x : Int), xs[j]? = some x → w.cell? ⟨g, o + j, none⟩ = some (.int .u64 x)) :
    Calls Try.prog 82 #[.slice (some ⟨g, o, none⟩) m c] w fun e w' => ∃ gg cap, e = .returned (.slice (some ⟨gg, 0, none⟩) m cap) ∧
      w'.ownsRow w.heap.size 99 1 (.slice (some ⟨gg, 0, none⟩) m cap) m (uvs xs) ∧ Below w.heap.size w w' := by
  obtain ⟨i0, hi0, hzz⟩ := Option.map_eq_some_iff.1 wordInfo
  simp only [Prod.mk.injEq] at hzz
  obtain ⟨hz0, hz1, hz2⟩ := hzz
  have hown : (w.alloc (.cells #[] 99)).ownsRow w.heap.size 99 1 (.slice (some ⟨w.heap.size, 0, none⟩) 0 0) 0 [] :=
    ⟨rfl, Or.inr ⟨w.heap.size, 0, #[], rfl, Nat.le_refl _, heap_alloc_new _ _, Nat.le_refl _, by unfold maxLen; omega, rfl, rfl⟩⟩
  have heq : ∀ w : World, (binOp BinOp.eql 100 (.slice (some ⟨g, o, none⟩) m c) (.slice none 0 0)).run Try.prog w = .ok (.bool false) w := fun w => by kernel_rfl
  have HX : Hid _ := hx
  have HL : Hid _ := hl
  clear hx hl
  go_enter Try.func82, Try.ntmps82
  go_wp2_with (first
    | (at_builtin; refine wpList_append_lies _ rfl _ _ _ rfl w.heap.size 99 i0 _ 1 8 Try.underlying100 hi0 hz0 hz1 hz2 rfl (by omega) _ _ _ rfl hown ⟨g, o, none⟩ m c (uvs xs) rfl (by rw [uvs_len, HL.out]; omega)
        (fun j u hu => by obtain ⟨x, hx, rfl⟩ := uvs_get hu; rw [add0]; exact (((Below.refl w.heap.size w).alloc (Nat.le_refl _) _).cell (cell_lt (HX.out j x hx))).trans (HX.out j x hx)) (uvs_one xs) hm (by unfold maxLen; omega) (by omega) (by simp) _ rfl ?_; intro gg cap w2 hown2 hgrow hat hlt2)
    | go_in)
  go_ret
  refine ⟨gg, cap, by simp, by simpa using hown2, ((Below.refl _ _).alloc (Nat.le_refl _) _).trans (below_grown hgrow (by simp) (ownsRow_low hown))⟩

end Di
end Go.Proofs.Ytinjllnoonbjmaa
