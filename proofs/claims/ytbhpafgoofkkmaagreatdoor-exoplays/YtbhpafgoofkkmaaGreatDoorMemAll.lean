import Derived.Test.YtbhpafgoofkkmaaGreatDoorRows
import Derived.WalkKit
import Derived.WalkSpells
import Derived.WalkLawsBesides
import Derived.BigRegion
import Derived.Test.YtbhpafgoofkkmaaGreatDoorPlain
set_option linter.all false
namespace Go.Proofs.YtbhpafgoofkkmaaGreatDoor
open Go.RowKit
namespace Me
set_option maxHeartbeats 400000 in
theorem frames_nil (w : World) :
  Calls Tryz.prog 163 #[.pointer none] w fun e w' => e = .returned (.int .i64 0) ∧ w' = w := by
 go_enter Tryz.func163, Tryz.ntmps163
 go_wp2
 go_ret
 exact ⟨rfl, rfl⟩
set_option maxHeartbeats 400000 in
theorem frames_at (b : Nat) (a : Option Addr) (n c : Nat) (w : World) (h : w.cell? ⟨b, 0, none⟩ = some (.slice a n c)) :
  Calls Tryz.prog 163 #[.pointer (some ⟨b, 0, none⟩)] w fun e w' => e = .returned (.int .i64 n) ∧ w' = w := by
 go_enter Tryz.func163, Tryz.ntmps163
 go_wp2
 go_ret
 exact ⟨rfl, rfl⟩
set_option maxHeartbeats 400000 in
theorem hasFrame_nil (f : Int) (w : World) :
  Calls Tryz.prog 161 #[.pointer none, .int .i64 f] w fun e w' => e = .returned (.bool false) ∧ w' = w := by
 by_cases h : 0 ≤ f
 all_goals
  go_enter Tryz.func161, Tryz.ntmps161
  go_wp2_with (go_at_call 163; refine (frames_nil _).mono ?_; rintro e w' ⟨rfl, rfl⟩)
  go_ret
  refine ⟨?_, rfl⟩
  simp <;> omega
def inB (f : Int) (n : Nat) : Bool := decide (0 ≤ f ∧ f < n)
set_option maxHeartbeats 400000 in
theorem hasFrame_at (b : Nat) (a : Option Addr) (n c : Nat) (f : Int) (w : World) (h : w.cell? ⟨b, 0, none⟩ = some (.slice a n c)) :
  Calls Tryz.prog 161 #[.pointer (some ⟨b, 0, none⟩), .int .i64 f] w fun e w' => e = .returned (.bool (inB f n)) ∧ w' = w := by
 by_cases h0 : 0 ≤ f
 all_goals
  go_enter Tryz.func161, Tryz.ntmps161
  go_wp2_with (go_at_call 163; refine (frames_at b a n c _ h).mono ?_; rintro e w' ⟨rfl, rfl⟩)
  go_ret
  refine ⟨?_, rfl⟩
  first | (simp [inB, h0]; done) | (simp [inB]; omega)
set_option maxHeartbeats 400000 in
theorem hasWord_at (b : Nat) (a : Option Addr) (n c : Nat) (f k : Int) (w : World) (h : w.cell? ⟨b, 0, none⟩ = some (.slice a n c)) :
  Calls Tryz.prog 177 #[.pointer (some ⟨b, 0, none⟩), .int .i64 f, .int .i64 k] w fun e w' => e = .returned (.bool (inB f n && inB k 32)) ∧ w' = w := by
 cases hf : inB f n
 all_goals
  by_cases h0 : 0 ≤ k
  all_goals
   have hc : ∀ w : World, w.cell? ⟨b, 0, none⟩ = some (.slice a n c) → Calls Tryz.prog 161 #[.pointer (some ⟨b, 0, none⟩), .int .i64 f] w fun e w' => e = .returned (.bool (inB f n)) ∧ w' = w := fun w h => hasFrame_at b a n c f w h
   rw [hf] at hc
   have HC : Hid _ := hc
   clear hc
   have HF : Hid _ := hf
   clear hf
   go_enter Tryz.func177, Tryz.ntmps177
   go_wp2_with (go_at_call 161; refine (HC.out _ h).mono ?_; rintro e w' ⟨rfl, rfl⟩)
   go_ret
   refine ⟨?_, rfl⟩
   first | rfl | (simp [inB, h0]; done) | (simp [inB]; omega)
theorem hasWord_no (b : Nat) (a : Option Addr) (n c : Nat) (f k : Int) (w : World) (h : w.cell? ⟨b, 0, none⟩ = some (.slice a n c)) (hno : (inB f n && inB k 32) = false) :
  Calls Tryz.prog 177 #[.pointer (some ⟨b, 0, none⟩), .int .i64 f, .int .i64 k] w fun e w' => e = .returned (.bool false) ∧ w' = w := by
 have := hasWord_at b a n c f k w h
 rwa [hno] at this
theorem hasWord_yes (b : Nat) (a : Option Addr) (n c : Nat) (f k : Int) (w : World) (h : w.cell? ⟨b, 0, none⟩ = some (.slice a n c)) (h0 : 0 ≤ f) (h1 : f < n) (h2 : 0 ≤ k) (h3 : k < 32) :
  Calls Tryz.prog 177 #[.pointer (some ⟨b, 0, none⟩), .int .i64 f, .int .i64 k] w fun e w' => e = .returned (.bool true) ∧ w' = w := by
 have := hasWord_at b a n c f k w h
 rwa [show (inB f n && inB k 32) = true from by simp [inB, h0, h1, h2, h3]] at this
set_option maxHeartbeats 400000 in
theorem read_no (b : Nat) (a : Option Addr) (n c : Nat) (f k : Int) (w : World) (h : w.cell? ⟨b, 0, none⟩ = some (.slice a n c)) (hno : Hid ((inB f n && inB k 32) = false)) :
  Calls Tryz.prog 136 #[.pointer (some ⟨b, 0, none⟩), .int .i64 f, .int .i64 k] w fun e w' => e = .returned (.tuple #[.int .u64 0, .int .i64 101]) ∧ w' = w := by
 go_enter Tryz.func136, Tryz.ntmps136
 go_wp2_with (go_at_call 177; refine (hasWord_no b a n c f k _ h hno).mono ?_; rintro e w' ⟨rfl, rfl⟩)
 go_ret2
 exact ⟨rfl, rfl⟩
set_option maxHeartbeats 400000 in
theorem read_yes (b g : Nat) (n c f k : Nat) (v : Int) (w : World) (h : w.cell? ⟨b, 0, none⟩ = some (.slice (some ⟨g, 0, none⟩) n c)) (h1 : f < n) (h3 : k < 32)
  (hv : w.cell? ⟨g, f * 32 + k, none⟩ = some (.int .u64 v)) :
  Calls Tryz.prog 136 #[.pointer (some ⟨b, 0, none⟩), .int .i64 f, .int .i64 k] w fun e w' => e = .returned (.tuple #[.int .u64 v, .int .i64 0]) ∧ w' = w := by
 go_enter Tryz.func136, Tryz.ntmps136
 go_wp2_with (go_at_call 177; refine (hasWord_yes b _ n c f k _ h (by omega) (by omega) (by omega) (by omega)).mono ?_; rintro e w' ⟨rfl, rfl⟩)
 go_ret2
 exact ⟨rfl, rfl⟩
theorem write_no (b : Nat) (a : Option Addr) (n c : Nat) (f k v : Int) (w : World) (h : w.cell? ⟨b, 0, none⟩ = some (.slice a n c)) (hno : Hid ((inB f n && inB k 32) = false)) :
  Calls Tryz.prog 137 #[.pointer (some ⟨b, 0, none⟩), .int .i64 f, .int .i64 k, .int .u64 v] w fun e w' => e = .returned (.int .i64 101) ∧ w' = w := by
 go_enter Tryz.func137, Tryz.ntmps137
 go_wp2_with (go_at_call 177; refine (hasWord_no b a n c f k _ h hno).mono ?_; rintro e w' ⟨rfl, rfl⟩)
 go_ret
 exact ⟨rfl, rfl⟩
theorem write_yes (b g : Nat) (n c f k : Nat) (v : Int) (u : Value) (w : World) (h : w.cell? ⟨b, 0, none⟩ = some (.slice (some ⟨g, 0, none⟩) n c)) (h1 : f < n) (h3 : k < 32)
  (hv : w.cell? ⟨g, f * 32 + k, none⟩ = some u) (hf : w.frozen? ⟨g, f * 32 + k, none⟩ = false) :
  Calls Tryz.prog 137 #[.pointer (some ⟨b, 0, none⟩), .int .i64 f, .int .i64 k, .int .u64 v] w fun e w' => e = .returned (.int .i64 0) ∧ w' = w.setCell ⟨g, f * 32 + k, none⟩ (.int .u64 v) := by
 go_enter Tryz.func137, Tryz.ntmps137
 go_wp2_with (go_at_call 177; refine (hasWord_yes b _ n c f k _ h (by omega) (by omega) (by omega) (by omega)).mono ?_; rintro e w' ⟨rfl, rfl⟩)
 go_ret
 exact ⟨rfl, rfl⟩
theorem hasFrame_no (b : Nat) (a : Option Addr) (n c : Nat) (f : Int) (w : World) (h : w.cell? ⟨b, 0, none⟩ = some (.slice a n c)) (hno : inB f n = false) :
  Calls Tryz.prog 161 #[.pointer (some ⟨b, 0, none⟩), .int .i64 f] w fun e w' => e = .returned (.bool false) ∧ w' = w := by
 have := hasFrame_at b a n c f w h
 rwa [hno] at this
theorem hasFrame_yes (b : Nat) (a : Option Addr) (n c : Nat) (f : Nat) (w : World) (h : w.cell? ⟨b, 0, none⟩ = some (.slice a n c)) (h1 : f < n) :
  Calls Tryz.prog 161 #[.pointer (some ⟨b, 0, none⟩), .int .i64 f] w fun e w' => e = .returned (.bool true) ∧ w' = w := by
 have := hasFrame_at b a n c f w h
 rwa [show inB f n = true from by simp [inB, h1]] at this
theorem zero_no (b : Nat) (a : Option Addr) (n c : Nat) (f : Int) (w : World) (h : w.cell? ⟨b, 0, none⟩ = some (.slice a n c)) (hno : Hid (inB f n = false)) :
  Calls Tryz.prog 124 #[.pointer (some ⟨b, 0, none⟩), .int .i64 f] w fun e w' => e = .returned (.int .i64 101) ∧ w' = w := by
 go_enter Tryz.func124, Tryz.ntmps124
 go_wp2_with (go_at_call 161; refine (hasFrame_no b a n c f _ h hno).mono ?_; rintro e w' ⟨rfl, rfl⟩)
 go_ret
 exact ⟨rfl, rfl⟩
theorem page_no (b : Nat) (a : Option Addr) (n c : Nat) (f : Int) (w : World) (h : w.cell? ⟨b, 0, none⟩ = some (.slice a n c)) (hno : Hid (inB f n = false)) :
  Calls Tryz.prog 110 #[.pointer (some ⟨b, 0, none⟩), .int .i64 f] w fun e w' => e = .returned (.slice none 0 0) ∧ w' = w := by
 go_enter Tryz.func110, Tryz.ntmps110
 go_wp2_with (go_at_call 161; refine (hasFrame_no b a n c f _ h hno).mono ?_; rintro e w' ⟨rfl, rfl⟩)
 go_ret
 exact ⟨rfl, rfl⟩
theorem copy_no1 (b : Nat) (a : Option Addr) (n c : Nat) (f g : Int) (w : World) (h : w.cell? ⟨b, 0, none⟩ = some (.slice a n c)) (hno : Hid (inB f n = false)) :
  Calls Tryz.prog 138 #[.pointer (some ⟨b, 0, none⟩), .int .i64 f, .int .i64 g] w fun e w' => e = .returned (.int .i64 101) ∧ w' = w := by
 go_enter Tryz.func138, Tryz.ntmps138
 go_wp2_with (go_at_call 161; refine (hasFrame_no b a n c f _ h hno).mono ?_; rintro e w' ⟨rfl, rfl⟩)
 go_ret
 exact ⟨rfl, rfl⟩
theorem copy_no2 (b : Nat) (a : Option Addr) (n c : Nat) (f : Nat) (g : Int) (w : World) (h : w.cell? ⟨b, 0, none⟩ = some (.slice a n c)) (hf : f < n) (hno : Hid (inB g n = false)) :
  Calls Tryz.prog 138 #[.pointer (some ⟨b, 0, none⟩), .int .i64 f, .int .i64 g] w fun e w' => e = .returned (.int .i64 101) ∧ w' = w := by
 go_enter Tryz.func138, Tryz.ntmps138
 go_wp2_with fail
 refine (hasFrame_yes b a n c f _ h hf).mono ?_
 rintro e w' ⟨rfl, rfl⟩
 go_wp2_with fail
 refine (hasFrame_no b a n c g _ h hno).mono ?_
 rintro e w' ⟨rfl, rfl⟩
 go_wp2_with fail
 go_ret
 exact ⟨rfl, rfl⟩
theorem info59 : (Tryz.prog.info? 236).map (fun i => (i.zero, i.size, i.bytes)) = some (some (.agg (zrow 32)), 32, 256) := by kernel_rfl
theorem info27 : (Tryz.prog.info? 42).map (fun i => (i.zero, i.size, i.bytes)) = some (some (.int .u64 0), 1, 8) := by kernel_rfl
theorem make_words (n : Nat) (h : n ≤ 1024) (w : World) :
  (Instr.makeSlice 237 (.int .i64 (n : Int)) (.int .i64 (n : Int))).run Tryz.prog w = .ok (.slice (some ⟨w.heap.size, 0, none⟩) n n) (w.alloc (.cells (zrow (n * 32)) 236)) :=
 run_make_flat 237 236 (.agg (zrow 32)) (.int .u64 0) 32 256 Tryz.underlying237 info59 rfl (by omega) .i64 .i64 n (by omega) (by omega) w
def newWorld (w : World) (n : Nat) : World := (w.alloc (.cells (zrow (n * 32)) 236)).alloc (.cells #[.slice (some ⟨w.heap.size, 0, none⟩) n n] 239)
set_option maxHeartbeats 400000 in
theorem new_yes (n : Nat) (w : World) (h : 1 ≤ n) (h2 : n ≤ 1024) :
  Calls Tryz.prog 113 #[.int .i64 n] w fun e w' => e = .returned (.pointer (some ⟨w.heap.size + 1, 0, none⟩)) ∧ w' = newWorld w n := by
 have hmk := fun w => make_words n h2 w
 go_enter Tryz.func113, Tryz.ntmps113
 go_wp2
 go_ret
 exact ⟨rfl, rfl⟩
theorem make_page (w : World) :
  (Instr.makeSlice 27 (.int .i64 32) (.int .i64 32)).run Tryz.prog w = .ok (.slice (some ⟨w.heap.size, 0, none⟩) 32 32) (w.alloc (.cells (zrow 32) 42)) :=
 run_make_flat 27 42 (.int .u64 0) (.int .u64 0) 1 8 Tryz.underlying27 info27 rfl (by omega) .i64 .i64 32 (by omega) (by omega) w
structure MemAt (w : World) (b g n : Nat) (vs : List Int) : Prop where
 head : w.heap[b]? = some (.cells #[.slice (some ⟨g, 0, none⟩) n n] 239)
 row : w.heap[g]? = some (.cells (urow vs) 236)
 len : vs.length = n * 32
 ne : b ≠ g
theorem MemAt.cell {w : World} {b g n : Nat} {vs : List Int} (h : MemAt w b g n vs) : w.cell? ⟨b, 0, none⟩ = some (.slice (some ⟨g, 0, none⟩) n n) := by
 rw [cell_of_heap h.head]; rfl
theorem MemAt.word {w : World} {b g n : Nat} {vs : List Int} (h : MemAt w b g n vs) (i : Nat) (hi : i < n * 32) : w.cell? ⟨g, i, none⟩ = some (.int .u64 (vs.getD i 0)) := by
 rw [cell_of_heap h.row]
 have : i < vs.length := by rw [h.len]; exact hi
 simp [urow, this]
theorem MemAt.free {w : World} {b g n : Nat} {vs : List Int} (h : MemAt w b g n vs) (i : Nat) : w.frozen? ⟨g, i, none⟩ = false := frozen_of_heap h.row
theorem MemAt.made (w : World) (n : Nat) : MemAt (newWorld w n) (w.heap.size + 1) w.heap.size n (List.replicate (n * 32) 0) := by
 refine ⟨?_, ?_, by simp, by omega⟩
 ·have := heap_alloc_new (w.alloc (.cells (zrow (n * 32)) 236)) (.cells #[.slice (some ⟨w.heap.size, 0, none⟩) n n] 239)
  simpa [newWorld] using this
 ·unfold newWorld
  rw [Below.heap_alloc _ _ _ (by simp), heap_alloc_new, zrow_urow]
theorem MemAt.keep {w w' : World} {b g n : Nat} {vs : List Int} (h : MemAt w b g n vs) (hb : w'.heap[b]? = w.heap[b]?) (hg : w'.heap[g]? = w.heap[g]?) : MemAt w' b g n vs :=
 ⟨hb.trans h.head, hg.trans h.row, h.len, h.ne⟩
theorem MemAt.below {w w' : World} {b g n : Nat} {vs : List Int} (h : MemAt w b g n vs) (k : Below w.heap.size w w') : MemAt w' b g n vs :=
 h.keep (k.block _ (lt_of_heap h.head)) (k.block _ (lt_of_heap h.row))
theorem MemAt.upd {w w' : World} {b g n : Nat} {vs vs' : List Int} (h : MemAt w b g n vs) (k : Upd g w w') (hr : w'.heap[g]? = some (.cells (urow vs') 236)) (hl : vs'.length = n * 32) : MemAt w' b g n vs' :=
 ⟨(k.block b (lt_of_heap h.head) h.ne).trans h.head, hr, hl, h.ne⟩
theorem MemAt.set {w : World} {b g n : Nat} {vs : List Int} (h : MemAt w b g n vs) (i : Nat) (v : Int) : MemAt (w.setCell ⟨g, i, none⟩ (.int .u64 v)) b g n (vs.set i v) := by
 refine h.upd (Upd.setCell g i w _) ?_ (by simp [h.len])
 rw [setCell_eq_setRow w g i _ _ _ _ h.row, setRow_heap w g _ _ _ _ h.row]
 have e : (urow vs).setIfInBounds i (Value.int .u64 v) = urow (vs.set i v) := by
  apply Array.ext'
  simp [urow, List.map_set]
 rw [e]
def splice (vs : List Int) (o : Nat) (ws : List Int) : List Int := vs.take o ++ ws ++ vs.drop (o + ws.length)
theorem splice_length (vs : List Int) (o : Nat) (ws : List Int) (h : o + ws.length ≤ vs.length) : (splice vs o ws).length = vs.length := by
 simp [splice]; omega
theorem urow_splice (vs : List Int) (o : Nat) (ws : List Int) (cs : List Value) (hc : cs = ws.map (Value.int .u64)) (h : o + ws.length ≤ vs.length) :
  ((urow vs).toList.take o ++ cs ++ (urow vs).toList.drop (o + cs.length)).toArray = urow (splice vs o ws) := by
 subst hc
 simp [urow, splice, List.map_take, List.map_drop]
theorem MemAt.put {w : World} {b g n : Nat} {vs : List Int} (h : MemAt w b g n vs) (o : Nat) (ws : List Int) (hl : o + ws.length ≤ n * 32) :
  MemAt (w.setRow g (urow (splice vs o ws))) b g n (splice vs o ws) :=
 h.upd (Upd.setRow g w _) (setRow_heap w g _ _ _ _ h.row) (by rw [splice_length _ _ _ (by rw [h.len]; exact hl), h.len])
theorem clear_run {w : World} {b g n : Nat} {vs : List Int} (h : MemAt w b g n vs) (f : Nat) (hf : f < n) (ty : TypeId) (cap : Nat) :
  (Builtin.clear_ #[27] ty #[.slice (some ⟨g, f * 32, none⟩) 32 cap]).run Tryz.prog w = .ok (.tuple #[]) (w.setRow g (urow (splice vs (f * 32) (List.replicate 32 0)))) := by
 rw [run_clear_row w 27 ty 42 g (f * 32) 32 cap (urow vs) 236 (.int .u64 0) Tryz.underlying27 (by kernel_rfl) rfl rfl h.row (by omega) (by rw [urow_size, h.len]; omega)]
 rw [← urow_splice vs (f * 32) (List.replicate 32 0) _ rfl (by rw [h.len]; simp; omega)]
 simp
set_option maxHeartbeats 400000 in
theorem zero_yes (b g n : Nat) (vs : List Int) (f : Nat) (w : World) (h : MemAt w b g n vs) (hf : f < n) :
  Calls Tryz.prog 124 #[.pointer (some ⟨b, 0, none⟩), .int .i64 f] w fun e w' => e = .returned (.int .i64 0) ∧ w' = w.setRow g (urow (splice vs (f * 32) (List.replicate 32 0))) := by
 have hc := h.cell
 have hr := clear_run h f hf
 go_enter Tryz.func124, Tryz.ntmps124
 go_wp2_with (go_at_call 161; refine (hasFrame_yes b _ n _ f _ hc hf).mono ?_; rintro e w' ⟨rfl, rfl⟩)
 go_ret
 exact ⟨rfl, rfl⟩
def frameOf (vs : List Int) (f : Nat) : List Int := (vs.drop (f * 32)).take 32
theorem frameOf_length (vs : List Int) (f n : Nat) (hl : vs.length = n * 32) (hf : f < n) : (frameOf vs f).length = 32 := by
 simp [frameOf, hl]; omega
theorem frameOf_get (vs : List Int) (f n : Nat) (hl : vs.length = n * 32) (hf : f < n) (j : Nat) (v : Value) (h : ((frameOf vs f).map (Value.int .u64))[j]? = some v) : j < 32 ∧ v = .int .u64 (vs.getD (f * 32 + j) 0) := by
 simp only [List.getElem?_map, Option.map_eq_some_iff] at h
 obtain ⟨a, ha, rfl⟩ := h
 have hj : j < 32 := by
  have := (List.getElem?_eq_some_iff.1 ha).1
  rwa [frameOf_length vs f n hl hf] at this
 refine ⟨hj, ?_⟩
 simp [frameOf, hj] at ha
 simp [ha]
theorem copy_run {w : World} {b g n : Nat} {vs : List Int} (h : MemAt w b g n vs) (f t : Nat) (hf : f < n) (ht : t < n) (ty : TypeId) (c1 c2 : Nat) :
  (Builtin.copy_ #[27, 27] ty #[.slice (some ⟨g, t * 32, none⟩) 32 c1, .slice (some ⟨g, f * 32, none⟩) 32 c2]).run Tryz.prog w = .ok (goInt 32) (w.setRow g (urow (splice vs (t * 32) (frameOf vs f)))) := by
 have hl := frameOf_length vs f n h.len hf
 have hr := run_copy_row Tryz.prog w 27 27 ty 42 g (t * 32) 32 c1 ⟨g, f * 32, none⟩ 32 c2 (urow vs) 236 ((frameOf vs f).map (Value.int .u64)) Tryz.underlying27 (by kernel_rfl) h.row
  (by simp [hl])
  (fun j v hv => by
    obtain ⟨hj, rfl⟩ := frameOf_get vs f n h.len hf j v hv
    have hadd : (⟨g, f * 32, none⟩ : Addr).add j = ⟨g, f * 32 + j, none⟩ := by unfold Addr.add; split <;> simp_all
    rw [hadd]
    exact h.word _ (by omega))
  (by simp [hl, urow_size, h.len]; omega) (fun v hv => by
    simp only [List.mem_map] at hv
    obtain ⟨x, _, rfl⟩ := hv
    rfl)
 rw [hr]
 rw [urow_splice vs (t * 32) (frameOf vs f) _ rfl (by rw [h.len, hl]; omega)]
 simp [hl]
def pageWorld (w : World) (ws : List Int) : World := w.alloc (.cells (urow ws) 42)
theorem page_run {w : World} {b g n : Nat} {vs : List Int} (h : MemAt w b g n vs) (f : Nat) (hf : f < n) (ty : TypeId) (c1 c2 : Nat) :
  (Builtin.copy_ #[27, 27] ty #[.slice (some ⟨w.heap.size, 0, none⟩) 32 c1, .slice (some ⟨g, f * 32, none⟩) 32 c2]).run Tryz.prog (w.alloc (.cells (zrow 32) 42)) = .ok (goInt 32) (pageWorld w (frameOf vs f)) := by
 have hl := frameOf_length vs f n h.len hf
 have h2 : MemAt (w.alloc (.cells (zrow 32) 42)) b g n vs := h.below ((Below.refl _ _).alloc (Nat.le_refl _) _)
 have hr := run_copy_row Tryz.prog (w.alloc (.cells (zrow 32) 42)) 27 27 ty 42 w.heap.size 0 32 c1 ⟨g, f * 32, none⟩ 32 c2 (zrow 32) 42 ((frameOf vs f).map (Value.int .u64)) Tryz.underlying27 (by kernel_rfl) (heap_alloc_new _ _)
  (by simp [hl])
  (fun j v hv => by
    obtain ⟨hj, rfl⟩ := frameOf_get vs f n h.len hf j v hv
    have hadd : (⟨g, f * 32, none⟩ : Addr).add j = ⟨g, f * 32 + j, none⟩ := by unfold Addr.add; split <;> simp_all
    rw [hadd]
    exact h2.word _ (by omega))
  (by simp [hl, zrow]) (fun v hv => by
    simp only [List.mem_map] at hv
    obtain ⟨x, _, rfl⟩ := hv
    rfl)
 rw [hr]
 have e : ((zrow 32).toList.take 0 ++ (frameOf vs f).map (Value.int .u64) ++ (zrow 32).toList.drop (0 + ((frameOf vs f).map (Value.int .u64)).length)).toArray = urow (frameOf vs f) := by
  simp [hl, zrow, urow]
 rw [e]
 simp only [List.length_map, hl]
 rw [setRow_alloc_new]
 rfl
set_option maxHeartbeats 400000 in
theorem page_yes (b g n : Nat) (vs : List Int) (f : Nat) (w : World) (h : MemAt w b g n vs) (hf : f < n) :
  Calls Tryz.prog 110 #[.pointer (some ⟨b, 0, none⟩), .int .i64 f] w fun e w' => e = .returned (.slice (some ⟨w.heap.size, 0, none⟩) 32 32) ∧ w' = pageWorld w (frameOf vs f) := by
 have hc := h.cell
 have hc2 : (w.alloc (.cells (zrow 32) 42)).cell? ⟨b, 0, none⟩ = _ := (h.below ((Below.refl _ _).alloc (Nat.le_refl _) _)).cell
 have hmk := make_page
 have hr := page_run h f hf
 go_enter Tryz.func110, Tryz.ntmps110
 go_wp2_with (go_at_call 161; refine (hasFrame_yes b _ n _ f _ hc hf).mono ?_; rintro e w' ⟨rfl, rfl⟩)
 go_ret
 exact ⟨rfl, rfl⟩
set_option maxHeartbeats 1000000 in
theorem copy_yes (b g n : Nat) (vs : List Int) (t f : Nat) (w : World) (h : MemAt w b g n vs) (ht : t < n) (hf : f < n) :
  Calls Tryz.prog 138 #[.pointer (some ⟨b, 0, none⟩), .int .i64 t, .int .i64 f] w fun e w' => e = .returned (.int .i64 0) ∧ ∃ q, w' = (w.setRow g (urow (splice vs (t * 32) (frameOf vs f)))).drewN q := by
 have hc := h.cell
 have hr := copy_run (w := w.drew) (h.keep rfl rfl) f t hf ht
 have h1 : (t : Int) < n := by omega
 have h2 : (f : Int) < n := by omega
 go_enter Tryz.func138, Tryz.ntmps138
 go_wp2_with fail
 refine (hasFrame_yes b _ n _ t _ hc ht).mono ?_
 rintro e w' ⟨rfl, rfl⟩
 go_wp2_with fail
 refine (hasFrame_yes b _ n _ f _ hc hf).mono ?_
 rintro e w' ⟨rfl, rfl⟩
 go_wp2_with fail
 go_region
 go_wp2
 go_ret
 exact ⟨rfl, 1, rfl⟩
theorem nat_of (f : Int) (h : 0 ≤ f) : ∃ n : Nat, f = (n : Int) := ⟨f.toNat, by omega⟩
theorem new_at (n : Int) (w : World) (h : 1 ≤ n) (h2 : n ≤ 1024) :
  Calls Tryz.prog 113 #[.int .i64 n] w fun e w' => e = .returned (.pointer (some ⟨w.heap.size + 1, 0, none⟩)) ∧
   MemAt w' (w.heap.size + 1) w.heap.size n.toNat (List.replicate (n.toNat * 32) 0) ∧ Below w.heap.size w w' ∧ w'.heap.size = w.heap.size + 2 := by
 obtain ⟨k, rfl⟩ := nat_of n (by omega)
 refine (new_yes k w (by omega) (by omega)).mono fun e w' ⟨he, hw⟩ => ?_
 subst hw
 exact ⟨he, MemAt.made w k, ((Below.refl _ _).alloc (Nat.le_refl _) _).alloc (by simp) _, by simp [newWorld]⟩
theorem read_at (b g n : Nat) (vs : List Int) (f k : Int) (w : World) (h : MemAt w b g n vs) (h0 : 0 ≤ f) (h1 : f < n) (h2 : 0 ≤ k) (h3 : k < 32) :
  Calls Tryz.prog 136 #[.pointer (some ⟨b, 0, none⟩), .int .i64 f, .int .i64 k] w fun e w' => e = .returned (.tuple #[.int .u64 (vs.getD (f.toNat * 32 + k.toNat) 0), .int .i64 0]) ∧ w' = w := by
 obtain ⟨f, rfl⟩ := nat_of f h0
 obtain ⟨k, rfl⟩ := nat_of k h2
 exact read_yes b g n n f k _ w h.cell (by omega) (by omega) (h.word _ (by omega))
theorem readno_at (b g n : Nat) (vs : List Int) (f k : Int) (w : World) (h : MemAt w b g n vs) (hno : ¬ (0 ≤ f ∧ f < n ∧ 0 ≤ k ∧ k < 32)) :
  Calls Tryz.prog 136 #[.pointer (some ⟨b, 0, none⟩), .int .i64 f, .int .i64 k] w fun e w' => e = .returned (.tuple #[.int .u64 0, .int .i64 101]) ∧ w' = w :=
 read_no b _ n n f k w h.cell (by simp only [inB, Hid, Bool.and_eq_false_iff, decide_eq_false_iff_not]; omega)
theorem write_at (b g n : Nat) (vs : List Int) (f k v : Int) (w : World) (h : MemAt w b g n vs) (h0 : 0 ≤ f) (h1 : f < n) (h2 : 0 ≤ k) (h3 : k < 32) :
  Calls Tryz.prog 137 #[.pointer (some ⟨b, 0, none⟩), .int .i64 f, .int .i64 k, .int .u64 v] w fun e w' => e = .returned (.int .i64 0) ∧
   MemAt w' b g n (vs.set (f.toNat * 32 + k.toNat) v) ∧ Upd g w w' := by
 obtain ⟨f, rfl⟩ := nat_of f h0
 obtain ⟨k, rfl⟩ := nat_of k h2
 refine (write_yes b g n n f k v _ w h.cell (by omega) (by omega) (h.word _ (by omega)) (h.free _)).mono fun e w' ⟨he, hw⟩ => ?_
 subst hw
 exact ⟨he, h.set _ _, Upd.setCell _ _ _ _⟩
theorem writeno_at (b g n : Nat) (vs : List Int) (f k v : Int) (w : World) (h : MemAt w b g n vs) (hno : ¬ (0 ≤ f ∧ f < n ∧ 0 ≤ k ∧ k < 32)) :
  Calls Tryz.prog 137 #[.pointer (some ⟨b, 0, none⟩), .int .i64 f, .int .i64 k, .int .u64 v] w fun e w' => e = .returned (.int .i64 101) ∧ w' = w :=
 write_no b _ n n f k v w h.cell (by simp only [inB, Hid, Bool.and_eq_false_iff, decide_eq_false_iff_not]; omega)
theorem zero_at (b g n : Nat) (vs : List Int) (f : Int) (w : World) (h : MemAt w b g n vs) (h0 : 0 ≤ f) (h1 : f < n) :
  Calls Tryz.prog 124 #[.pointer (some ⟨b, 0, none⟩), .int .i64 f] w fun e w' => e = .returned (.int .i64 0) ∧
   MemAt w' b g n (splice vs (f.toNat * 32) (List.replicate 32 0)) ∧ Upd g w w' := by
 obtain ⟨f, rfl⟩ := nat_of f h0
 refine (zero_yes b g n vs f w h (by omega)).mono fun e w' ⟨he, hw⟩ => ?_
 subst hw
 exact ⟨he, h.put _ _ (by simp; omega), Upd.setRow _ _ _⟩
theorem zerono_at (b g n : Nat) (vs : List Int) (f : Int) (w : World) (h : MemAt w b g n vs) (hno : ¬ (0 ≤ f ∧ f < n)) :
  Calls Tryz.prog 124 #[.pointer (some ⟨b, 0, none⟩), .int .i64 f] w fun e w' => e = .returned (.int .i64 101) ∧ w' = w :=
 zero_no b _ n n f w h.cell (by simp only [inB, Hid, decide_eq_false_iff_not]; omega)
theorem page_at (b g n : Nat) (vs : List Int) (f : Int) (w : World) (h : MemAt w b g n vs) (h0 : 0 ≤ f) (h1 : f < n) :
  Calls Tryz.prog 110 #[.pointer (some ⟨b, 0, none⟩), .int .i64 f] w fun e w' => e = .returned (.slice (some ⟨w.heap.size, 0, none⟩) 32 32) ∧
   w'.heap[w.heap.size]? = some (.cells (urow (frameOf vs f.toNat)) 42) ∧ Below w.heap.size w w' ∧ w'.heap.size = w.heap.size + 1 := by
 obtain ⟨f, rfl⟩ := nat_of f h0
 refine (page_yes b g n vs f w h (by omega)).mono fun e w' ⟨he, hw⟩ => ?_
 subst hw
 exact ⟨he, heap_alloc_new _ _, (Below.refl _ _).alloc (Nat.le_refl _) _, by simp [pageWorld]⟩
theorem pageno_at (b g n : Nat) (vs : List Int) (f : Int) (w : World) (h : MemAt w b g n vs) (hno : ¬ (0 ≤ f ∧ f < n)) :
  Calls Tryz.prog 110 #[.pointer (some ⟨b, 0, none⟩), .int .i64 f] w fun e w' => e = .returned (.slice none 0 0) ∧ w' = w :=
 page_no b _ n n f w h.cell (by simp only [inB, Hid, decide_eq_false_iff_not]; omega)
theorem copy_at (b g n : Nat) (vs : List Int) (t f : Int) (w : World) (h : MemAt w b g n vs) (h0 : 0 ≤ t) (h1 : t < n) (h2 : 0 ≤ f) (h3 : f < n) :
  Calls Tryz.prog 138 #[.pointer (some ⟨b, 0, none⟩), .int .i64 t, .int .i64 f] w fun e w' => e = .returned (.int .i64 0) ∧
   MemAt w' b g n (splice vs (t.toNat * 32) (frameOf vs f.toNat)) ∧ Upd g w w' := by
 obtain ⟨t, rfl⟩ := nat_of t h0
 obtain ⟨f, rfl⟩ := nat_of f h2
 have hl := frameOf_length vs f n h.len (by omega)
 refine (copy_yes b g n vs t f w h (by omega) (by omega)).mono fun e w' ⟨he, q, hw⟩ => ?_
 subst hw
 have hm : MemAt (w.setRow g (urow (splice vs (t * 32) (frameOf vs f)))) b g n (splice vs (t * 32) (frameOf vs f)) := h.put _ _ (by rw [hl]; omega)
 have hu : Upd g w (w.setRow g (urow (splice vs (t * 32) (frameOf vs f)))) := Upd.setRow _ _ _
 exact ⟨he, hm.keep rfl rfl, ⟨hu.os, hu.tape, hu.output, hu.size, hu.block⟩⟩
theorem copyno_at (b g n : Nat) (vs : List Int) (t f : Int) (w : World) (h : MemAt w b g n vs) (hno : ¬ (0 ≤ t ∧ t < n ∧ 0 ≤ f ∧ f < n)) :
  Calls Tryz.prog 138 #[.pointer (some ⟨b, 0, none⟩), .int .i64 t, .int .i64 f] w fun e w' => e = .returned (.int .i64 101) ∧ w' = w := by
 by_cases ht : 0 ≤ t ∧ t < n
 ·obtain ⟨t, rfl⟩ := nat_of t ht.1
  exact copy_no2 b _ n n t f w h.cell (by omega) (by simp only [inB, Hid, decide_eq_false_iff_not]; omega)
 ·exact copy_no1 b _ n n t f w h.cell (by simp only [inB, Hid, decide_eq_false_iff_not]; omega)
theorem frames_mem (b g n : Nat) (vs : List Int) (w : World) (h : MemAt w b g n vs) :
  Calls Tryz.prog 163 #[.pointer (some ⟨b, 0, none⟩)] w fun e w' => e = .returned (.int .i64 n) ∧ w' = w := frames_at b _ n n w h.cell
def errW (n : Nat) (f k : Int) : Int := if 0 ≤ f ∧ f < n ∧ 0 ≤ k ∧ k < 32 then 0 else 101
def valR (n : Nat) (vs : List Int) (f k : Int) : Int := if 0 ≤ f ∧ f < n ∧ 0 ≤ k ∧ k < 32 then vs.getD (f.toNat * 32 + k.toNat) 0 else 0
def putW (n : Nat) (vs : List Int) (f k v : Int) : List Int := if 0 ≤ f ∧ f < n ∧ 0 ≤ k ∧ k < 32 then vs.set (f.toNat * 32 + k.toNat) v else vs
def errC (n : Nat) (t f : Int) : Int := if 0 ≤ t ∧ t < n ∧ 0 ≤ f ∧ f < n then 0 else 101
def putC (n : Nat) (vs : List Int) (t f : Int) : List Int := if 0 ≤ t ∧ t < n ∧ 0 ≤ f ∧ f < n then splice vs (t.toNat * 32) (frameOf vs f.toNat) else vs
def errZ (n : Nat) (f : Int) : Int := if 0 ≤ f ∧ f < n then 0 else 101
def putZ (n : Nat) (vs : List Int) (f : Int) : List Int := if 0 ≤ f ∧ f < n then splice vs (f.toNat * 32) (List.replicate 32 0) else vs
section
variable {W : World} {b g n : Nat} {vs : List Int}
theorem read_all (h : MemAt W b g n vs) (f d : Int) : Calls Tryz.prog 136 #[.pointer (some ⟨b, 0, none⟩), .int .i64 f, .int .i64 d] W fun e w' => e = .returned (.tuple #[.int .u64 (valR n vs f d), .int .i64 (errW n f d)]) ∧ w' = W := by
 by_cases hc : 0 ≤ f ∧ f < n ∧ 0 ≤ d ∧ d < 32
 ·rw [valR, errW, if_pos hc, if_pos hc]
  exact read_at _ _ _ _ f d W h hc.1 hc.2.1 hc.2.2.1 hc.2.2.2
 ·rw [valR, errW, if_neg hc, if_neg hc]
  exact readno_at _ _ _ _ f d W h hc
theorem write_all (h : MemAt W b g n vs) (f d x : Int) : Calls Tryz.prog 137 #[.pointer (some ⟨b, 0, none⟩), .int .i64 f, .int .i64 d, .int .u64 x] W fun e w' => e = .returned (.int .i64 (errW n f d)) ∧ MemAt w' b g n (putW n vs f d x) ∧ Upd g W w' := by
 by_cases hc : 0 ≤ f ∧ f < n ∧ 0 ≤ d ∧ d < 32
 ·rw [putW, errW, if_pos hc, if_pos hc]
  exact write_at _ _ _ _ f d x W h hc.1 hc.2.1 hc.2.2.1 hc.2.2.2
 ·rw [putW, errW, if_neg hc, if_neg hc]
  refine (writeno_at _ _ _ _ f d x W h hc).mono fun e w' ⟨he, hw⟩ => ⟨he, ?_⟩
  subst hw
  exact ⟨h, Upd.refl _ _⟩
theorem copy_all (h : MemAt W b g n vs) (f d : Int) : Calls Tryz.prog 138 #[.pointer (some ⟨b, 0, none⟩), .int .i64 f, .int .i64 d] W fun e w' => e = .returned (.int .i64 (errC n f d)) ∧ MemAt w' b g n (putC n vs f d) ∧ Upd g W w' := by
 by_cases hc : 0 ≤ f ∧ f < n ∧ 0 ≤ d ∧ d < n
 ·rw [putC, errC, if_pos hc, if_pos hc]
  exact copy_at _ _ _ _ f d W h hc.1 hc.2.1 hc.2.2.1 hc.2.2.2
 ·rw [putC, errC, if_neg hc, if_neg hc]
  refine (copyno_at _ _ _ _ f d W h hc).mono fun e w' ⟨he, hw⟩ => ⟨he, ?_⟩
  subst hw
  exact ⟨h, Upd.refl _ _⟩
theorem zero_all (h : MemAt W b g n vs) (f : Int) : Calls Tryz.prog 124 #[.pointer (some ⟨b, 0, none⟩), .int .i64 f] W fun e w' => e = .returned (.int .i64 (errZ n f)) ∧ MemAt w' b g n (putZ n vs f) ∧ Upd g W w' := by
 by_cases hc : 0 ≤ f ∧ f < n
 ·rw [putZ, errZ, if_pos hc, if_pos hc]
  exact zero_at _ _ _ _ f W h hc.1 hc.2
 ·rw [putZ, errZ, if_neg hc, if_neg hc]
  refine (zerono_at _ _ _ _ f W h hc).mono fun e w' ⟨he, hw⟩ => ⟨he, ?_⟩
  subst hw
  exact ⟨h, Upd.refl _ _⟩
end
end Me
end Go.Proofs.YtbhpafgoofkkmaaGreatDoor
