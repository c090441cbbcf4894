/- The contracts of New, Zero, Page and Copy of package mem where they do something, over a memory whose blocks are known. -/
import Derived.Test.YtimioliaefkpfaaMemB
import Derived.Test.YtimioliaefkpfaaPlain
import Derived.BigRegion
namespace Go.Proofs.Ytimioliaefkpfaa
open Go.RowKit
namespace Me
set_option linter.unusedVariables false

theorem info59 : (Try.prog.info? 97).map (fun i => (i.zero, i.size, i.bytes)) = some (some (.agg (zrow 32)), 32, 256) := by kernel_rfl
theorem info27 : (Try.prog.info? 22).map (fun i => (i.zero, i.size, i.bytes)) = some (some (.int .u64 0), 1, 8) := by kernel_rfl

theorem make_words (n : Nat) (h : n ≤ 1024) (w : World) :
    (Instr.makeSlice 79 (.int .i64 (n : Int)) (.int .i64 (n : Int))).run Try.prog w = .ok (.slice (some ⟨w.heap.size, 0, none⟩) n n) (w.alloc (.cells (zrow (n * 32)) 97)) :=
  run_make_flat 79 97 (.agg (zrow 32)) (.int .u64 0) 32 256 Try.underlying79 info59 rfl (by omega) .i64 .i64 n (by omega) (by omega) w

/-- What New leaves. -/
def newWorld (w : World) (n : Nat) : World := (w.alloc (.cells (zrow (n * 32)) 97)).alloc (.cells #[.slice (some ⟨w.heap.size, 0, none⟩) n n] 81)

set_option maxHeartbeats 400000 in
theorem new_yes (n : Nat) (w : World) (h : 1 ≤ n) (h2 : n ≤ 1024) :
    Calls Try.prog 23 #[.int .i64 n] w fun e w' => e = .returned (.pointer (some ⟨w.heap.size + 1, 0, none⟩)) ∧ w' = newWorld w n := by
  have hmk := fun w => make_words n h2 w
  go_enter Try.func23, Try.ntmps23
  go_wp2
  go_ret
  exact ⟨rfl, rfl⟩

theorem make_page (w : World) :
    (Instr.makeSlice 95 (.int .i64 32) (.int .i64 32)).run Try.prog w = .ok (.slice (some ⟨w.heap.size, 0, none⟩) 32 32) (w.alloc (.cells (zrow 32) 22)) :=
  run_make_flat 95 22 (.int .u64 0) (.int .u64 0) 1 8 Try.underlying95 info27 rfl (by omega) .i64 .i64 32 (by omega) (by omega) w

/-- A memory: its head is block b, its words are block g. -/
structure MemAt (w : World) (b g n : Nat) (vs : List Int) : Prop where
  head : w.heap[b]? = some (.cells #[.slice (some ⟨g, 0, none⟩) n n] 81)
  row : w.heap[g]? = some (.cells (urow vs) 97)
  len : vs.length = n * 32
  ne : b ≠ g

theorem MemAt.cell {w : World} {b g n : Nat} {vs : List Int} (h : MemAt w b g n vs) : w.cell? ⟨b, 0, none⟩ = some (.slice (some ⟨g, 0, none⟩) n n) := by
  rw [cell_of_heap h.head]; rfl
theorem MemAt.word {w : World} {b g n : Nat} {vs : List Int} (h : MemAt w b g n vs) (i : Nat) (hi : i < n * 32) : w.cell? ⟨g, i, none⟩ = some (.int .u64 (vs.getD i 0)) := by
  rw [cell_of_heap h.row]
  have : i < vs.length := by rw [h.len]; exact hi
  simp [urow, this]
theorem MemAt.free {w : World} {b g n : Nat} {vs : List Int} (h : MemAt w b g n vs) (i : Nat) : w.frozen? ⟨g, i, none⟩ = false := frozen_of_heap h.row

theorem MemAt.made (w : World) (n : Nat) : MemAt (newWorld w n) (w.heap.size + 1) w.heap.size n (List.replicate (n * 32) 0) := by
  refine ⟨?_, ?_, by simp, by omega⟩
  · have := heap_alloc_new (w.alloc (.cells (zrow (n * 32)) 97)) (.cells #[.slice (some ⟨w.heap.size, 0, none⟩) n n] 81)
    simpa [newWorld] using this
  · unfold newWorld
    rw [Below.heap_alloc _ _ _ (by simp), heap_alloc_new, zrow_urow]

theorem MemAt.keep {w w' : World} {b g n : Nat} {vs : List Int} (h : MemAt w b g n vs) (hb : w'.heap[b]? = w.heap[b]?) (hg : w'.heap[g]? = w.heap[g]?) : MemAt w' b g n vs :=
  ⟨hb.trans h.head, hg.trans h.row, h.len, h.ne⟩
theorem MemAt.below {w w' : World} {b g n : Nat} {vs : List Int} (h : MemAt w b g n vs) (k : Below w.heap.size w w') : MemAt w' b g n vs :=
  h.keep (k.block _ (lt_of_heap h.head)) (k.block _ (lt_of_heap h.row))
theorem MemAt.upd {w w' : World} {b g n : Nat} {vs vs' : List Int} (h : MemAt w b g n vs) (k : Upd g w w') (hr : w'.heap[g]? = some (.cells (urow vs') 97)) (hl : vs'.length = n * 32) : MemAt w' b g n vs' :=
  ⟨(k.block b (lt_of_heap h.head) h.ne).trans h.head, hr, hl, h.ne⟩

theorem MemAt.set {w : World} {b g n : Nat} {vs : List Int} (h : MemAt w b g n vs) (i : Nat) (v : Int) : MemAt (w.setCell ⟨g, i, none⟩ (.int .u64 v)) b g n (vs.set i v) := by
  refine h.upd (Upd.setCell g i w _) ?_ (by simp [h.len])
  rw [setCell_eq_setRow w g i _ _ _ _ h.row, setRow_heap w g _ _ _ _ h.row]
  have e : (urow vs).setIfInBounds i (Value.int .u64 v) = urow (vs.set i v) := by
    apply Array.ext'
    simp [urow, List.map_set]
  rw [e]

/-- The list with the words from o on set to others. -/
def splice (vs : List Int) (o : Nat) (ws : List Int) : List Int := vs.take o ++ ws ++ vs.drop (o + ws.length)
theorem splice_length (vs : List Int) (o : Nat) (ws : List Int) (h : o + ws.length ≤ vs.length) : (splice vs o ws).length = vs.length := by
  simp [splice]; omega
theorem urow_splice (vs : List Int) (o : Nat) (ws : List Int) (cs : List Value) (hc : cs = ws.map (Value.int .u64)) (h : o + ws.length ≤ vs.length) :
    ((urow vs).toList.take o ++ cs ++ (urow vs).toList.drop (o + cs.length)).toArray = urow (splice vs o ws) := by
  subst hc
  simp [urow, splice, List.map_take, List.map_drop]
theorem MemAt.put {w : World} {b g n : Nat} {vs : List Int} (h : MemAt w b g n vs) (o : Nat) (ws : List Int) (hl : o + ws.length ≤ n * 32) :
    MemAt (w.setRow g (urow (splice vs o ws))) b g n (splice vs o ws) :=
  h.upd (Upd.setRow g w _) (setRow_heap w g _ _ _ _ h.row) (by rw [splice_length _ _ _ (by rw [h.len]; exact hl), h.len])

theorem clear_run {w : World} {b g n : Nat} {vs : List Int} (h : MemAt w b g n vs) (f : Nat) (hf : f < n) (ty : TypeId) (cap : Nat) :
    (Builtin.clear_ #[95] ty #[.slice (some ⟨g, f * 32, none⟩) 32 cap]).run Try.prog w = .ok (.tuple #[]) (w.setRow g (urow (splice vs (f * 32) (List.replicate 32 0)))) := by
  rw [run_clear_row w 95 ty 22 g (f * 32) 32 cap (urow vs) 97 (.int .u64 0) Try.underlying95 (by kernel_rfl) rfl rfl h.row (by omega) (by rw [urow_size, h.len]; omega)]
  rw [← urow_splice vs (f * 32) (List.replicate 32 0) _ rfl (by rw [h.len]; simp; omega)]
  simp

set_option maxHeartbeats 400000 in
theorem zero_yes (b g n : Nat) (vs : List Int) (f : Nat) (w : World) (h : MemAt w b g n vs) (hf : f < n) :
    Calls Try.prog 30 #[.pointer (some ⟨b, 0, none⟩), .int .i64 f] w fun e w' => e = .returned (.int .i64 0) ∧ w' = w.setRow g (urow (splice vs (f * 32) (List.replicate 32 0))) := by
  have hc := h.cell
  have hr := clear_run h f hf
  go_enter Try.func30, Try.ntmps30
  go_wp2_with (go_at_call 51; refine (hasFrame_yes b _ n _ f _ hc hf).mono ?_; rintro e w' ⟨rfl, rfl⟩)
  go_ret
  exact ⟨rfl, rfl⟩

end Me
end Go.Proofs.Ytimioliaefkpfaa
