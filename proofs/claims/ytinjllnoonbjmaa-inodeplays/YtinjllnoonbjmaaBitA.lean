/- Package bitmap: the bitmap in the heap; New, Len, is, mask, Used, free. -/
import Derived.Test.YtinjllnoonbjmaaRows
import Derived.Test.YtinjllnoonbjmaaPlain
import Derived.Test.YtinjllnoonbjmaaBitM
import Derived.WalkKit
import Derived.WalkSpells
import Derived.WalkLawsBesides
import Derived.BigRegion
import Derived.BigQuiet
import Derived.Deep.QuietTactic
namespace Go.Proofs.Ytinjllnoonbjmaa
open Go.RowKit
namespace Bi
set_option linter.unusedVariables false

theorem below_alloc (w : World) (o : Obj) : Below w.heap.size w (w.alloc o) := (Below.refl _ _).alloc (Nat.le_refl _) _
theorem below_alloc2 (w : World) (o o' : Obj) : Below w.heap.size w ((w.alloc o).alloc o') := (below_alloc w o).trans ((below_alloc _ _).mono (by simp))

/-- Words as a block's cells. -/
def nrow (ws : List Nat) : Array Value := (ws.map (fun x => Value.int .u64 ((x : Nat) : Int))).toArray
theorem nrow_zero (k : Nat) : Array.replicate (k * 1) (Value.int .u64 0) = nrow (List.replicate k 0) := by simp [nrow]
theorem nrow_size (ws : List Nat) : (nrow ws).size = ws.length := by simp [nrow]
theorem nrow_set (ws : List Nat) (i x : Nat) : (nrow ws).setIfInBounds i (.int .u64 ((x : Nat) : Int)) = nrow (ws.set i x) := by
  apply Array.ext'
  simp [nrow, List.map_set]
theorem nrow_get (ws : List Nat) (i : Nat) (h : i < ws.length) : (nrow ws)[i]? = some (.int .u64 ((ws.getD i 0 : Nat) : Int)) := by
  simp [nrow, h]
theorem wordInfo : (Try.prog.info? 99).map (fun i => (i.zero, i.size, i.bytes)) = some (some (.int .u64 0), 1, 8) := by kernel_rfl
theorem make_words (n : Nat) (h : n ≤ 1024) (w : World) :
    (Instr.makeSlice 100 (.int .i64 (n : Int)) (.int .i64 (n : Int))).run Try.prog w = .ok (.slice (some ⟨w.heap.size, 0, none⟩) n n) (w.alloc (.cells (nrow (List.replicate n 0)) 99)) := by
  have := run_make_flat 100 99 (.int .u64 0) (.int .u64 0) 1 8 Try.underlying100 wordInfo rfl (by omega) .i64 .i64 n (by omega) (by omega) w
  rwa [nrow_zero] at this

/-- Block b holds a bitmap of n bits, block g its words ws. -/
structure BmAt (w : World) (b g n : Nat) (ws : List Nat) : Prop where
  head : w.heap[b]? = some (.cells #[.int .i64 (n : Int), .slice (some ⟨g, 0, none⟩) ws.length ws.length] 137)
  row : w.heap[g]? = some (.cells (nrow ws) 99)
  wf : Wf n ws
  pos : 1 ≤ n
  le : n ≤ 1024
section
variable {w w' : World} {b g n : Nat} {ws : List Nat}
theorem BmAt.ne (h : BmAt w b g n ws) : b ≠ g := by
  intro e
  subst e
  have q := h.head
  rw [h.row] at q
  injection q with q1
  injection q1 with _ q2
  exact absurd q2 (by decide)
theorem BmAt.ltb (h : BmAt w b g n ws) : b < w.heap.size := lt_of_heap h.head
theorem BmAt.ltg (h : BmAt w b g n ws) : g < w.heap.size := lt_of_heap h.row
theorem BmAt.c0 (h : BmAt w b g n ws) : w.cell? ⟨b, 0, none⟩ = some (.int .i64 (n : Int)) := by rw [cell_of_heap h.head]; rfl
theorem BmAt.c1 (h : BmAt w b g n ws) : w.cell? ⟨b, 1, none⟩ = some (.slice (some ⟨g, 0, none⟩) ws.length ws.length) := by rw [cell_of_heap h.head]; rfl
theorem BmAt.word (h : BmAt w b g n ws) {i : Nat} (hi : i < ws.length) : w.cell? ⟨g, i, none⟩ = some (.int .u64 ((ws.getD i 0 : Nat) : Int)) := by rw [cell_of_heap h.row]; exact nrow_get ws i hi
theorem BmAt.free (h : BmAt w b g n ws) (i : Nat) : w.frozen? ⟨g, i, none⟩ = false := frozen_of_heap h.row
theorem BmAt.keep (h : BmAt w b g n ws) (hb : w'.heap[b]? = w.heap[b]?) (hg : w'.heap[g]? = w.heap[g]?) : BmAt w' b g n ws := ⟨hb.trans h.head, hg.trans h.row, h.wf, h.pos, h.le⟩
theorem BmAt.below (h : BmAt w b g n ws) (k : Below w.heap.size w w') : BmAt w' b g n ws := h.keep (k.block _ h.ltb) (k.block _ h.ltg)
theorem BmAt.drew (h : BmAt w b g n ws) (q : Nat) : BmAt (w.drewN q) b g n ws := ⟨h.head, h.row, h.wf, h.pos, h.le⟩
theorem BmAt.mark (h : BmAt w b g n ws) {i : Nat} (hi : i < n) (on : Bool) : BmAt (w.setCell ⟨g, i / 64, none⟩ (.int .u64 ((wd (ws.getD (i / 64) 0) i on : Nat) : Int))) b g n (mkW ws i on) := by
  refine ⟨?_, ?_, h.wf.mark hi on, h.pos, h.le⟩
  · rw [Below.heap_setCell _ _ _ _ h.ne, h.head]
    simp [mkW]
  · rw [setCell_eq_setRow w g _ _ _ _ _ h.row, setRow_heap w g _ _ _ _ h.row, nrow_set]
    rfl
end

/-- Whether there is such a bit. -/
def inB (f : Int) (n : Nat) : Bool := decide (0 ≤ f ∧ f < n)
theorem inB_nat {i n : Nat} (h : i < n) : inB (i : Int) n = true := by simp [inB, h]
theorem inB_of {i : Int} {n : Nat} (h : inB i n = true) : ∃ k : Nat, i = (k : Int) ∧ k < n := by
  simp only [inB, decide_eq_true_eq] at h
  exact ⟨i.toNat, by omega, by omega⟩
theorem inB_no {f : Int} {n : Nat} (h : ¬ (0 ≤ f ∧ f < n)) : inB f n = false := by simp only [inB, decide_eq_false_iff_not]; exact h

theorem len_nil (w : World) :
    Calls Try.prog 88 #[.pointer none] w fun e w' => e = .returned (.int .i64 0) ∧ w' = w := by
  go_enter Try.func88, Try.ntmps88
  go_wp2
  go_ret
  exact ⟨rfl, rfl⟩
theorem len_at (b g n : Nat) (ws : List Nat) (w : World) (h : BmAt w b g n ws) :
    Calls Try.prog 88 #[.pointer (some ⟨b, 0, none⟩)] w fun e w' => e = .returned (.int .i64 (n : Int)) ∧ w' = w := by
  have hc := h.c0
  clear h
  go_enter Try.func88, Try.ntmps88
  go_wp2
  go_ret
  exact ⟨rfl, rfl⟩
theorem is_nil (f : Int) (w : World) :
    Calls Try.prog 73 #[.pointer none, .int .i64 f] w fun e w' => e = .returned (.bool false) ∧ w' = w := by
  by_cases h : 0 ≤ f
  all_goals
    go_enter Try.func73, Try.ntmps73
    go_wp2_with (go_at_call 88; refine (len_nil _).mono ?_; rintro e w' ⟨rfl, rfl⟩)
    go_ret
    refine ⟨?_, rfl⟩
    simp <;> omega
theorem is_at (b g n : Nat) (ws : List Nat) (f : Int) (w : World) (h : BmAt w b g n ws) :
    Calls Try.prog 73 #[.pointer (some ⟨b, 0, none⟩), .int .i64 f] w fun e w' => e = .returned (.bool (inB f n)) ∧ w' = w := by
  by_cases h0 : 0 ≤ f
  all_goals
    go_enter Try.func73, Try.ntmps73
    go_wp2_with (go_at_call 88; refine (len_at b g n ws _ h).mono ?_; rintro e w' ⟨rfl, rfl⟩)
    go_ret
    refine ⟨?_, rfl⟩
    first | (simp [inB, h0]; done) | (simp [inB]; omega)

theorem tdiv64 (i : Nat) : ((i : Nat) : Int).tdiv 64 = ((i / 64 : Nat) : Int) := by
  rw [Int.tdiv_eq_ediv_of_nonneg (by omega)]
  omega
theorem tmod64 (i : Nat) : ((i : Nat) : Int).tmod 64 = ((i % 64 : Nat) : Int) := by
  rw [Int.tmod_eq_emod_of_nonneg (by omega)]
  omega
theorem wrap_small (p : Nat) (h : p < 2000) : IntKind.i64.wrap ((p : Nat) : Int) = (p : Int) := by
  simp [IntKind.wrap, IntKind.bits, IntKind.signed]
  omega
theorem mask_at (i : Nat) (hi : i < 1024) (w : World) :
    Calls Try.prog 74 #[.int .i64 (i : Int)] w fun e w' => e = .returned (.int .u64 ((mk i : Nat) : Int)) ∧ w' = w := by
  have ht := tmod64 i
  have HS : Hid _ := shl_one i
  obtain ⟨r, hr⟩ : ∃ r, r = i % 64 := ⟨_, rfl⟩
  have hr64 : r < 64 := by omega
  rw [← hr] at ht HS
  clear hr
  go_enter Try.func74, Try.ntmps74
  go_wp2
  go_ret
  refine ⟨?_, rfl⟩
  rw [← HS.out, Nat.min_eq_left (by omega)]
  simp

theorem new_no (n : Int) (w : World) (h : n < 1 ∨ 1024 < n) :
    Calls Try.prog 84 #[.int .i64 n] w fun e w' => e = .returned (.pointer none) ∧ w' = w := by
  rcases h with h | h
  · go_enter Try.func84, Try.ntmps84
    go_wp2
    go_ret
    exact ⟨rfl, rfl⟩
  · have h' : ¬ n < 1 := by omega
    go_enter Try.func84, Try.ntmps84
    go_wp2
    go_ret
    exact ⟨rfl, rfl⟩
theorem new_at (n : Nat) (w : World) (h : 1 ≤ n) (h2 : n ≤ 1024) :
    Calls Try.prog 84 #[.int .i64 (n : Int)] w fun e w' => e = .returned (.pointer (some ⟨w.heap.size + 1, 0, none⟩)) ∧
      BmAt w' (w.heap.size + 1) w.heap.size n (List.replicate ((n + 63) / 64) 0) ∧ Below w.heap.size w w' ∧ w'.heap.size = w.heap.size + 2 := by
  obtain ⟨m, hm⟩ : ∃ m, m = (n + 63) / 64 := ⟨_, rfl⟩
  have hd : ((n : Int) + 64 - 1).tdiv 64 = ((m : Nat) : Int) := by
    rw [Int.tdiv_eq_ediv_of_nonneg (by omega)]
    omega
  have hm2 : m ≤ 1024 := by omega
  have HW : Hid _ := wf_zero n
  rw [← hm] at HW ⊢
  clear hm
  have hmk := fun w => make_words m hm2 w
  go_enter Try.func84, Try.ntmps84
  go_wp2
  go_ret
  refine ⟨rfl, ⟨?_, ?_, HW.out, h, h2⟩, below_alloc2 _ _ _, by simp⟩
  · have := heap_alloc_new (w.alloc (.cells (nrow (List.replicate m 0)) 99)) (.cells #[.int .i64 (n : Int), .slice (some ⟨w.heap.size, 0, none⟩) m m] 137)
    simpa using this
  · rw [Below.heap_alloc _ _ _ (by simp)]
    exact heap_alloc_new _ _

/-- Whether there is such a bit, and it is used. -/
def usedB (ws : List Nat) (n : Nat) (i : Int) : Bool := inB i n && bt ws i.toNat
theorem used_nil (f : Int) (w : World) :
    Calls Try.prog 87 #[.pointer none, .int .i64 f] w fun e w' => e = .returned (.bool false) ∧ ∃ q, w' = w.drewN q := by
  have hI := fun q => is_nil f (w.drewN q)
  go_enter Try.func87, Try.ntmps87
  go_wp2
  go_quiet (first | (go_at_call 73; refine Calls.quiet_of_same (hI _)))
  go_wp2
  go_ret
  exact ⟨rfl, nq, rfl⟩
theorem used_yes (b g n : Nat) (ws : List Nat) (i : Nat) (w : World) (h : BmAt w b g n ws) (hi : i < n) :
    Calls Try.prog 87 #[.pointer (some ⟨b, 0, none⟩), .int .i64 (i : Int)] w fun e w' => e = .returned (.bool (bt ws i)) ∧ ∃ q, w' = w.drewN q := by
  have hle := h.le
  have hI := fun q => is_at b g n ws i (w.drewN q) (h.drew q)
  rw [inB_nat hi] at hI
  have hK := fun q => mask_at i (by omega) (w.drewN q)
  have hd := tdiv64 i
  have c1 := h.c1
  have hk : i / 64 < ws.length := h.wf.at hi
  have c2 := h.word hk
  have ha := ask_bit (ws.getD (i / 64) 0) i (h.wf.word _)
  have HR : Hid (((((ws.getD (i / 64) 0 &&& mk i : Nat)) : Int) != 0) = bt ws i) := and_bit _ _
  clear h
  generalize (ws.getD (i / 64) 0 &&& mk i : Nat) = r at *
  generalize ws.getD (i / 64) 0 = x at *
  generalize mk i = M at *
  obtain ⟨p, hp⟩ : ∃ p, p = i / 64 := ⟨_, rfl⟩
  have hwr := wrap_small p (by omega)
  rw [← hp] at hd hk c2
  clear hp
  generalize ws.length = L at *
  go_enter Try.func87, Try.ntmps87
  go_wp2
  go_quiet (first | (go_at_call 73; refine Calls.quiet_of_same (hI _)) | (go_at_call 74; refine Calls.quiet_of_same (hK _)))
  go_wp2
  go_ret
  exact ⟨congrArg (fun z => Ending.returned (.bool z)) HR.out, nq, rfl⟩
theorem used_no (b g n : Nat) (ws : List Nat) (f : Int) (w : World) (h : BmAt w b g n ws) (hi : inB f n = false) :
    Calls Try.prog 87 #[.pointer (some ⟨b, 0, none⟩), .int .i64 f] w fun e w' => e = .returned (.bool false) ∧ ∃ q, w' = w.drewN q := by
  have hI := fun q => is_at b g n ws f (w.drewN q) (h.drew q)
  rw [hi] at hI
  clear h hi
  go_enter Try.func87, Try.ntmps87
  go_wp2
  go_quiet (first | (go_at_call 73; refine Calls.quiet_of_same (hI _)))
  go_wp2
  go_ret
  exact ⟨rfl, nq, rfl⟩
theorem used_at (b g n : Nat) (ws : List Nat) (f : Int) (w : World) (h : BmAt w b g n ws) :
    Calls Try.prog 87 #[.pointer (some ⟨b, 0, none⟩), .int .i64 f] w fun e w' => e = .returned (.bool (usedB ws n f)) ∧ ∃ q, w' = w.drewN q := by
  unfold usedB
  cases hi : inB f n with
  | false => exact used_no b g n ws f w h hi
  | true =>
    obtain ⟨k, rfl, hk⟩ := inB_of hi
    exact used_yes b g n ws k w h hk
theorem free_at (b g n : Nat) (ws : List Nat) (i : Nat) (w : World) (h : BmAt w b g n ws) (hi : i < n) :
    Calls Try.prog 66 #[.pointer (some ⟨b, 0, none⟩), .int .i64 (i : Int)] w fun e w' => e = .returned (.bool (!bt ws i)) ∧ ∃ q, w' = w.drewN q := by
  have hI := is_at b g n ws i w h
  rw [inB_nat hi] at hI
  have hU := used_yes b g n ws i w h hi
  clear h
  generalize bt ws i = B at *
  go_enter Try.func66, Try.ntmps66
  go_wp2_with fail
  refine hI.mono ?_
  rintro e w1 ⟨rfl, hw⟩
  rw [hw]
  clear hw w1 hI
  go_wp2_with fail
  refine hU.mono ?_
  rintro e w1 ⟨rfl, q, hw⟩
  rw [hw]
  clear hw w1 hU
  go_wp2
  go_ret
  exact ⟨rfl, q, rfl⟩
theorem drew_add (w : World) (p q : Nat) : ∃ r, (w.drewN p).drewN q = w.drewN r := ⟨p + q, by simp [World.drewN, Nat.add_assoc]⟩
theorem drewN_below {w w' : World} (h : ∃ q, w' = w.drewN q) : Below w.heap.size w w' := by
  obtain ⟨q, rfl⟩ := h
  exact ⟨rfl, rfl, rfl, Nat.le_refl _, fun _ _ => rfl⟩
end Bi
end Go.Proofs.Ytinjllnoonbjmaa
