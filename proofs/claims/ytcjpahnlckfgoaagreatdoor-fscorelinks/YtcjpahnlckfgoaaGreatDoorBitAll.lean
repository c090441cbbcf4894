/- Plain: the bits of a list of words; the lowest that is free; how many are. Names no program. -/
/- Package bitmap: the bitmap in the heap; New, Len, is, mask, Used, free. -/
/- Package bitmap: first, count, Left, Mark, Take. -/
/- Package bitmap: Words, reachesPast, Of; janusref01.Words at two equal rows; what is none. -/
import Derived.Test.YtcjpahnlckfgoaaGreatDoorPlain
import Derived.Laws.BitsAllLaws
import Derived.Test.YtcjpahnlckfgoaaGreatDoorRows
import Derived.WalkKit
import Derived.WalkSpells
import Derived.WalkLawsBesides
import Derived.BigRegion
import Derived.BigQuiet
import Derived.Deep.QuietTactic
import Derived.Deep.RegionWith
namespace Go.Proofs.YtcjpahnlckfgoaaGreatDoor
open Go.RowKit
namespace Bi
set_option linter.unusedVariables false

/-- A word with the place of bit i alone. -/
def mk (i : Nat) : Nat := 2 ^ (i % 64)
/-- Bit i of the words. -/
def bt (ws : List Nat) (i : Nat) : Bool := (ws.getD (i / 64) 0).testBit (i % 64)
/-- A word in which bit i is so. -/
def wd (x i : Nat) (on : Bool) : Nat := if on then x ||| mk i else x &&& (18446744073709551615 - mk i)
/-- The words in which bit i is so. -/
def mkW (ws : List Nat) (i : Nat) (on : Bool) : List Nat := ws.set (i / 64) (wd (ws.getD (i / 64) 0) i on)

theorem mk_lt (i : Nat) : mk i < 18446744073709551616 := by
  unfold mk
  exact Nat.lt_of_lt_of_le (Nat.pow_lt_pow_right (by omega) (Nat.mod_lt i (by omega : 0 < 64))) (by decide)
theorem mk_bit (i j : Nat) : (mk i).testBit j = decide (i % 64 = j) := by
  unfold mk
  exact Nat.testBit_two_pow
theorem max_bit (j : Nat) : (18446744073709551615 : Nat).testBit j = decide (j < 64) := by
  have := Nat.testBit_two_pow_sub_one 64 j
  exact this
theorem not_bit (i j : Nat) : (18446744073709551615 - mk i).testBit j = (decide (j < 64) && !decide (i % 64 = j)) := by
  have h := Nat.testBit_two_pow_sub_succ (n := 64) (mk_lt i) j
  rw [mk_bit] at h
  rw [← h]
  congr 1
  omega
theorem wd_bit (x i j : Nat) (on : Bool) (hj : j < 64) : (wd x i on).testBit j = if i % 64 = j then on else x.testBit j := by
  unfold wd
  cases on
  · rw [if_neg (by simp), Nat.testBit_and, not_bit]
    by_cases h : i % 64 = j <;> simp [h, hj]
  · rw [if_pos rfl, Nat.testBit_or, mk_bit]
    by_cases h : i % 64 = j <;> simp [h]
theorem wd_lt (x i : Nat) (on : Bool) (hx : x < 18446744073709551616) : wd x i on < 18446744073709551616 := by
  unfold wd
  cases on
  · rw [if_neg (by simp)]
    exact Nat.lt_of_le_of_lt Nat.and_le_left hx
  · rw [if_pos rfl]
    exact Nat.or_lt_two_pow (n := 64) hx (mk_lt i)
theorem getD_set (ws : List Nat) (k j x : Nat) (hk : k < ws.length) : (ws.set k x).getD j 0 = if j = k then x else ws.getD j 0 := by
  simp only [List.getD_eq_getElem?_getD, List.getElem?_set]
  by_cases h : j = k
  · subst h; simp [hk]
  · rw [if_neg (fun e => h e.symm), if_neg h]
theorem bt_mkW (ws : List Nat) (i j : Nat) (on : Bool) (hi : i / 64 < ws.length) : bt (mkW ws i on) j = if j = i then on else bt ws j := by
  unfold bt mkW
  rw [getD_set _ _ _ _ hi]
  by_cases h : j / 64 = i / 64
  · rw [if_pos h, wd_bit _ _ _ _ (Nat.mod_lt _ (by omega)), h]
    by_cases e : j = i
    · subst e; simp
    · rw [if_neg e, if_neg (by omega)]
  · rw [if_neg h, if_neg (by intro e; subst e; exact h rfl)]

/-- As few words as hold n bits, and no bit from n on. -/
structure Wf (n : Nat) (ws : List Nat) : Prop where
  len : ws.length = (n + 63) / 64
  lt : ∀ x ∈ ws, x < 18446744073709551616
  past : ∀ i, n ≤ i → bt ws i = false
theorem Wf.at {n : Nat} {ws : List Nat} (h : Wf n ws) {i : Nat} (hi : i < n) : i / 64 < ws.length := by rw [h.len]; omega
theorem Wf.word {n : Nat} {ws : List Nat} (h : Wf n ws) (k : Nat) : ws.getD k 0 < 18446744073709551616 := by
  rw [List.getD_eq_getElem?_getD]
  cases e : ws[k]? with
  | none => simp
  | some x => exact h.lt x (List.mem_of_getElem? e)
theorem Wf.mark {n : Nat} {ws : List Nat} (h : Wf n ws) {i : Nat} (hi : i < n) (on : Bool) : Wf n (mkW ws i on) := by
  refine ⟨by rw [← h.len]; simp [mkW], fun x hx => ?_, fun j hj => ?_⟩
  · rcases List.mem_or_eq_of_mem_set hx with hx | hx
    · exact h.lt x hx
    · rw [hx]; exact wd_lt _ _ _ (h.word _)
  · rw [bt_mkW _ _ _ _ (h.at hi), if_neg (by omega)]
    exact h.past j hj
theorem bt_far (ws : List Nat) (i : Nat) (h : ws.length ≤ i / 64) : bt ws i = false := by
  unfold bt
  rw [List.getD_eq_getElem?_getD, List.getElem?_eq_none h]
  simp
theorem wf_zero (n : Nat) : Wf n (List.replicate ((n + 63) / 64) 0) := by
  have e : ∀ k, (List.replicate ((n + 63) / 64) 0).getD k 0 = 0 := fun k => by
    rw [List.getD_eq_getElem?_getD, List.getElem?_replicate]
    split <;> rfl
  refine ⟨by simp, fun x hx => by rw [List.eq_of_mem_replicate hx]; omega, fun i _ => ?_⟩
  unfold bt
  rw [e]
  simp
theorem bt_zero (k i : Nat) : bt (List.replicate k 0) i = false := by
  have e : (List.replicate k 0).getD (i / 64) 0 = 0 := by
    rw [List.getD_eq_getElem?_getD, List.getElem?_replicate]
    split <;> rfl
  unfold bt
  rw [e]
  simp
theorem word_ext {x y : Nat} (hx : x < 18446744073709551616) (hy : y < 18446744073709551616) (h : ∀ j, j < 64 → x.testBit j = y.testBit j) : x = y := by
  apply Nat.eq_of_testBit_eq
  intro j
  by_cases hj : j < 64
  · exact h j hj
  · have h2 : (18446744073709551616 : Nat) ≤ 2 ^ j := by
      have := Nat.pow_le_pow_right (n := 2) (by omega) (show 64 ≤ j by omega)
      exact this
    rw [Nat.testBit_lt_two_pow (by omega), Nat.testBit_lt_two_pow (by omega)]
theorem bt_at (ws : List Nat) (k j : Nat) (hj : j < 64) : bt ws (k * 64 + j) = (ws.getD k 0).testBit j := by
  unfold bt
  rw [show (k * 64 + j) / 64 = k by omega, show (k * 64 + j) % 64 = j by omega]
theorem words_ext {us ws : List Nat} (hl : us.length = ws.length) (hu : ∀ x ∈ us, x < 18446744073709551616) (hw : ∀ x ∈ ws, x < 18446744073709551616) (h : ∀ i, bt us i = bt ws i) : us = ws := by
  apply List.ext_getElem hl
  intro k h1 h2
  refine word_ext (hu _ (List.getElem_mem h1)) (hw _ (List.getElem_mem h2)) fun j hj => ?_
  have e1 := bt_at us k j hj
  have e2 := bt_at ws k j hj
  rw [List.getD_eq_getElem?_getD, List.getElem?_eq_getElem h1] at e1
  rw [List.getD_eq_getElem?_getD, List.getElem?_eq_getElem h2] at e2
  have e3 := h (k * 64 + j)
  rw [e1, e2] at e3
  exact e3
theorem Wf.ext {n : Nat} {us ws : List Nat} (hu : Wf n us) (hw : Wf n ws) (h : ∀ i, i < n → bt us i = bt ws i) : us = ws := by
  refine words_ext (hu.len.trans hw.len.symm) hu.lt hw.lt fun i => ?_
  by_cases hi : i < n
  · exact h i hi
  · rw [hu.past i (by omega), hw.past i (by omega)]

/-- How many of the first are not. -/
def cntF (f : Nat → Bool) : Nat → Nat
  | 0 => 0
  | k + 1 => cntF f k + (if f k then 0 else 1)
theorem cntF_le (f : Nat → Bool) (k : Nat) : cntF f k ≤ k := by
  induction k with
  | zero => exact Nat.le_refl _
  | succ k ih => unfold cntF; split <;> omega
theorem cntF_congr {f g : Nat → Bool} (k : Nat) (h : ∀ i, i < k → f i = g i) : cntF f k = cntF g k := by
  induction k with
  | zero => rfl
  | succ k ih =>
    unfold cntF
    rw [ih (fun i hi => h i (by omega)), h k (by omega)]
theorem cntF_none {f : Nat → Bool} (k : Nat) (h : ∀ i, i < k → f i = true) : cntF f k = 0 := by
  induction k with
  | zero => rfl
  | succ k ih =>
    unfold cntF
    rw [ih (fun i hi => h i (by omega)), h k (by omega)]
    rfl
/-- The lowest that is not, or none. -/
theorem lowest (f : Nat → Bool) (n : Nat) : (∃ k, k < n ∧ (∀ j, j < k → f j = true) ∧ f k = false) ∨ ∀ j, j < n → f j = true := by
  induction n with
  | zero => exact Or.inr (fun j hj => by omega)
  | succ n ih =>
    rcases ih with ⟨k, hk, h1, h2⟩ | ih
    · exact Or.inl ⟨k, by omega, h1, h2⟩
    · cases e : f n with
      | false => exact Or.inl ⟨n, by omega, ih, e⟩
      | true => exact Or.inr (fun j hj => by
          by_cases h : j = n
          · rw [h]; exact e
          · exact ih j (by omega))

/-- Asking a bit as the code does. -/
theorem ask_bit (x i : Nat) (hx : x < 18446744073709551616) : bits .and .u64 (x : Int) ((mk i : Nat) : Int) = (((x &&& mk i : Nat)) : Int) := u64_and_nat x _ hx (mk_lt i)
theorem and_bit (x i : Nat) : ((((x &&& mk i : Nat)) : Int) != 0) = x.testBit (i % 64) := by
  have h : x &&& mk i = x / 2 ^ (i % 64) % 2 * 2 ^ (i % 64) := by
    unfold mk
    exact nat_bit _ _
  rw [h, Nat.testBit_eq_decide_div_mod_eq]
  have hp : 0 < 2 ^ (i % 64) := Nat.two_pow_pos _
  generalize 2 ^ (i % 64) = P at *
  rcases (by omega : x / P % 2 = 0 ∨ x / P % 2 = 1) with e | e
  · rw [e]; simp
  · rw [e]
    simp
    omega
theorem set_bit (x i : Nat) (hx : x < 18446744073709551616) : bits .or .u64 (x : Int) ((mk i : Nat) : Int) = ((wd x i true : Nat) : Int) := u64_or_nat x _ hx (mk_lt i)
theorem clear_bit (x i : Nat) (hx : x < 18446744073709551616) : bits .andNot .u64 (x : Int) ((mk i : Nat) : Int) = ((wd x i false : Nat) : Int) := u64_andNot_nat x _ hx (mk_lt i)
theorem shl_one (i : Nat) : IntKind.u64.wrap (2 ^ min (i % 64) 64) = ((mk i : Nat) : Int) := by
  have h : i % 64 < 64 := Nat.mod_lt _ (by omega)
  rw [Nat.min_eq_left (by omega)]
  have e : ((2 : Int) ^ (i % 64)) = ((mk i : Nat) : Int) := by unfold mk; simp
  have hl := mk_lt i
  rw [e, IntKind.wrap_u64]
  omega
end Bi
end Go.Proofs.YtcjpahnlckfgoaaGreatDoor

namespace Go.Proofs.YtcjpahnlckfgoaaGreatDoor
open Go.RowKit
namespace Bi
set_option linter.unusedVariables false

theorem below_alloc (w : World) (o : Obj) : Below w.heap.size w (w.alloc o) := (Below.refl _ _).alloc (Nat.le_refl _) _
theorem below_alloc2 (w : World) (o o' : Obj) : Below w.heap.size w ((w.alloc o).alloc o') := (below_alloc w o).trans ((below_alloc _ _).mono (by simp))

/-- Words as a block's cells. -/
def nrow (ws : List Nat) : Array Value := (ws.map (fun x => Value.int .u64 ((x : Nat) : Int))).toArray
theorem nrow_zero (k : Nat) : Array.replicate (k * 1) (Value.int .u64 0) = nrow (List.replicate k 0) := by simp [nrow]
theorem nrow_size (ws : List Nat) : (nrow ws).size = ws.length := by simp [nrow]
theorem nrow_set (ws : List Nat) (i x : Nat) : (nrow ws).setIfInBounds i (.int .u64 ((x : Nat) : Int)) = nrow (ws.set i x) := by
  apply Array.ext'
  simp [nrow, List.map_set]
theorem nrow_get (ws : List Nat) (i : Nat) (h : i < ws.length) : (nrow ws)[i]? = some (.int .u64 ((ws.getD i 0 : Nat) : Int)) := by
  simp [nrow, h]
theorem wordInfo : (Tryz.prog.info? 103).map (fun i => (i.zero, i.size, i.bytes)) = some (some (.int .u64 0), 1, 8) := by kernel_rfl
theorem make_words (n : Nat) (h : n ≤ 1024) (w : World) :
    (Instr.makeSlice 81 (.int .i64 (n : Int)) (.int .i64 (n : Int))).run Tryz.prog w = .ok (.slice (some ⟨w.heap.size, 0, none⟩) n n) (w.alloc (.cells (nrow (List.replicate n 0)) 103)) := by
  have := run_make_flat 81 103 (.int .u64 0) (.int .u64 0) 1 8 Tryz.underlying81 wordInfo rfl (by omega) .i64 .i64 n (by omega) (by omega) w
  rwa [nrow_zero] at this

/-- Block b holds a bitmap of n bits, block g its words ws. -/
structure BmAt (w : World) (b g n : Nat) (ws : List Nat) : Prop where
  head : w.heap[b]? = some (.cells #[.int .i64 (n : Int), .slice (some ⟨g, 0, none⟩) ws.length ws.length] 228)
  row : w.heap[g]? = some (.cells (nrow ws) 103)
  wf : Wf n ws
  pos : 1 ≤ n
  le : n ≤ 1024
section
variable {w w' : World} {b g n : Nat} {ws : List Nat}
theorem BmAt.ne (h : BmAt w b g n ws) : b ≠ g := by
  intro e
  subst e
  have q := h.head
  rw [h.row] at q
  injection q with q1
  injection q1 with _ q2
  exact absurd q2 (by decide)
theorem BmAt.ltb (h : BmAt w b g n ws) : b < w.heap.size := lt_of_heap h.head
theorem BmAt.ltg (h : BmAt w b g n ws) : g < w.heap.size := lt_of_heap h.row
theorem BmAt.c0 (h : BmAt w b g n ws) : w.cell? ⟨b, 0, none⟩ = some (.int .i64 (n : Int)) := by rw [cell_of_heap h.head]; rfl
theorem BmAt.c1 (h : BmAt w b g n ws) : w.cell? ⟨b, 1, none⟩ = some (.slice (some ⟨g, 0, none⟩) ws.length ws.length) := by rw [cell_of_heap h.head]; rfl
theorem BmAt.word (h : BmAt w b g n ws) {i : Nat} (hi : i < ws.length) : w.cell? ⟨g, i, none⟩ = some (.int .u64 ((ws.getD i 0 : Nat) : Int)) := by rw [cell_of_heap h.row]; exact nrow_get ws i hi
theorem BmAt.free (h : BmAt w b g n ws) (i : Nat) : w.frozen? ⟨g, i, none⟩ = false := frozen_of_heap h.row
theorem BmAt.keep (h : BmAt w b g n ws) (hb : w'.heap[b]? = w.heap[b]?) (hg : w'.heap[g]? = w.heap[g]?) : BmAt w' b g n ws := ⟨hb.trans h.head, hg.trans h.row, h.wf, h.pos, h.le⟩
theorem BmAt.below (h : BmAt w b g n ws) (k : Below w.heap.size w w') : BmAt w' b g n ws := h.keep (k.block _ h.ltb) (k.block _ h.ltg)
theorem BmAt.drew (h : BmAt w b g n ws) (q : Nat) : BmAt (w.drewN q) b g n ws := ⟨h.head, h.row, h.wf, h.pos, h.le⟩
theorem BmAt.mark (h : BmAt w b g n ws) {i : Nat} (hi : i < n) (on : Bool) : BmAt (w.setCell ⟨g, i / 64, none⟩ (.int .u64 ((wd (ws.getD (i / 64) 0) i on : Nat) : Int))) b g n (mkW ws i on) := by
  refine ⟨?_, ?_, h.wf.mark hi on, h.pos, h.le⟩
  · rw [Below.heap_setCell _ _ _ _ h.ne, h.head]
    simp [mkW]
  · rw [setCell_eq_setRow w g _ _ _ _ _ h.row, setRow_heap w g _ _ _ _ h.row, nrow_set]
    rfl
end

/-- Whether there is such a bit. -/
def inB (f : Int) (n : Nat) : Bool := decide (0 ≤ f ∧ f < n)
theorem inB_nat {i n : Nat} (h : i < n) : inB (i : Int) n = true := by simp [inB, h]
theorem inB_of {i : Int} {n : Nat} (h : inB i n = true) : ∃ k : Nat, i = (k : Int) ∧ k < n := by
  simp only [inB, decide_eq_true_eq] at h
  exact ⟨i.toNat, by omega, by omega⟩
theorem inB_no {f : Int} {n : Nat} (h : ¬ (0 ≤ f ∧ f < n)) : inB f n = false := by simp only [inB, decide_eq_false_iff_not]; exact h

theorem len_nil (w : World) :
    Calls Tryz.prog 158 #[.pointer none] w fun e w' => e = .returned (.int .i64 0) ∧ w' = w := by
  go_enter Tryz.func158, Tryz.ntmps158
  go_wp2
  go_ret
  exact ⟨rfl, rfl⟩
theorem len_at (b g n : Nat) (ws : List Nat) (w : World) (h : BmAt w b g n ws) :
    Calls Tryz.prog 158 #[.pointer (some ⟨b, 0, none⟩)] w fun e w' => e = .returned (.int .i64 (n : Int)) ∧ w' = w := by
  have hc := h.c0
  clear h
  go_enter Tryz.func158, Tryz.ntmps158
  go_wp2
  go_ret
  exact ⟨rfl, rfl⟩
theorem is_nil (f : Int) (w : World) :
    Calls Tryz.prog 160 #[.pointer none, .int .i64 f] w fun e w' => e = .returned (.bool false) ∧ w' = w := by
  by_cases h : 0 ≤ f
  all_goals
    go_enter Tryz.func160, Tryz.ntmps160
    go_wp2_with (go_at_call 158; refine (len_nil _).mono ?_; rintro e w' ⟨rfl, rfl⟩)
    go_ret
    refine ⟨?_, rfl⟩
    simp <;> omega
theorem is_at (b g n : Nat) (ws : List Nat) (f : Int) (w : World) (h : BmAt w b g n ws) :
    Calls Tryz.prog 160 #[.pointer (some ⟨b, 0, none⟩), .int .i64 f] w fun e w' => e = .returned (.bool (inB f n)) ∧ w' = w := by
  by_cases h0 : 0 ≤ f
  all_goals
    go_enter Tryz.func160, Tryz.ntmps160
    go_wp2_with (go_at_call 158; refine (len_at b g n ws _ h).mono ?_; rintro e w' ⟨rfl, rfl⟩)
    go_ret
    refine ⟨?_, rfl⟩
    first | (simp [inB, h0]; done) | (simp [inB]; omega)

theorem tdiv64 (i : Nat) : ((i : Nat) : Int).tdiv 64 = ((i / 64 : Nat) : Int) := by
  rw [Int.tdiv_eq_ediv_of_nonneg (by omega)]
  omega
theorem tmod64 (i : Nat) : ((i : Nat) : Int).tmod 64 = ((i % 64 : Nat) : Int) := by
  rw [Int.tmod_eq_emod_of_nonneg (by omega)]
  omega
theorem wrap_small (p : Nat) (h : p < 2000) : IntKind.i64.wrap ((p : Nat) : Int) = (p : Int) := by
  simp [IntKind.wrap, IntKind.bits, IntKind.signed]
  omega
theorem mask_at (i : Nat) (hi : i < 1024) (w : World) :
    Calls Tryz.prog 161 #[.int .i64 (i : Int)] w fun e w' => e = .returned (.int .u64 ((mk i : Nat) : Int)) ∧ w' = w := by
  have ht := tmod64 i
  have HS : Hid _ := shl_one i
  obtain ⟨r, hr⟩ : ∃ r, r = i % 64 := ⟨_, rfl⟩
  have hr64 : r < 64 := by omega
  rw [← hr] at ht HS
  clear hr
  go_enter Tryz.func161, Tryz.ntmps161
  go_wp2
  go_ret
  refine ⟨?_, rfl⟩
  rw [← HS.out, Nat.min_eq_left (by omega)]
  simp

theorem new_no (n : Int) (w : World) (h : n < 1 ∨ 1024 < n) :
    Calls Tryz.prog 112 #[.int .i64 n] w fun e w' => e = .returned (.pointer none) ∧ w' = w := by
  rcases h with h | h
  · go_enter Tryz.func112, Tryz.ntmps112
    go_wp2
    go_ret
    exact ⟨rfl, rfl⟩
  · have h' : ¬ n < 1 := by omega
    go_enter Tryz.func112, Tryz.ntmps112
    go_wp2
    go_ret
    exact ⟨rfl, rfl⟩
theorem new_at (n : Nat) (w : World) (h : 1 ≤ n) (h2 : n ≤ 1024) :
    Calls Tryz.prog 112 #[.int .i64 (n : Int)] w fun e w' => e = .returned (.pointer (some ⟨w.heap.size + 1, 0, none⟩)) ∧
      BmAt w' (w.heap.size + 1) w.heap.size n (List.replicate ((n + 63) / 64) 0) ∧ Below w.heap.size w w' ∧ w'.heap.size = w.heap.size + 2 := by
  obtain ⟨m, hm⟩ : ∃ m, m = (n + 63) / 64 := ⟨_, rfl⟩
  have hd : ((n : Int) + 64 - 1).tdiv 64 = ((m : Nat) : Int) := by
    rw [Int.tdiv_eq_ediv_of_nonneg (by omega)]
    omega
  have hm2 : m ≤ 1024 := by omega
  have HW : Hid _ := wf_zero n
  rw [← hm] at HW ⊢
  clear hm
  have hmk := fun w => make_words m hm2 w
  go_enter Tryz.func112, Tryz.ntmps112
  go_wp2
  go_ret
  refine ⟨rfl, ⟨?_, ?_, HW.out, h, h2⟩, below_alloc2 _ _ _, by simp⟩
  · have := heap_alloc_new (w.alloc (.cells (nrow (List.replicate m 0)) 103)) (.cells #[.int .i64 (n : Int), .slice (some ⟨w.heap.size, 0, none⟩) m m] 228)
    simpa using this
  · rw [Below.heap_alloc _ _ _ (by simp)]
    exact heap_alloc_new _ _

/-- Whether there is such a bit, and it is used. -/
def usedB (ws : List Nat) (n : Nat) (i : Int) : Bool := inB i n && bt ws i.toNat
theorem used_nil (f : Int) (w : World) :
    Calls Tryz.prog 176 #[.pointer none, .int .i64 f] w fun e w' => e = .returned (.bool false) ∧ ∃ q, w' = w.drewN q := by
  have hI := fun q => is_nil f (w.drewN q)
  go_enter Tryz.func176, Tryz.ntmps176
  go_wp2
  go_quiet (first | (go_at_call 160; refine Calls.quiet_of_same (hI _)))
  go_wp2
  go_ret
  exact ⟨rfl, nq, rfl⟩
theorem used_yes (b g n : Nat) (ws : List Nat) (i : Nat) (w : World) (h : BmAt w b g n ws) (hi : i < n) :
    Calls Tryz.prog 176 #[.pointer (some ⟨b, 0, none⟩), .int .i64 (i : Int)] w fun e w' => e = .returned (.bool (bt ws i)) ∧ ∃ q, w' = w.drewN q := by
  have hle := h.le
  have hI := fun q => is_at b g n ws i (w.drewN q) (h.drew q)
  rw [inB_nat hi] at hI
  have hK := fun q => mask_at i (by omega) (w.drewN q)
  have hd := tdiv64 i
  have c1 := h.c1
  have hk : i / 64 < ws.length := h.wf.at hi
  have c2 := h.word hk
  have ha := ask_bit (ws.getD (i / 64) 0) i (h.wf.word _)
  have HR : Hid (((((ws.getD (i / 64) 0 &&& mk i : Nat)) : Int) != 0) = bt ws i) := and_bit _ _
  clear h
  generalize (ws.getD (i / 64) 0 &&& mk i : Nat) = r at *
  generalize ws.getD (i / 64) 0 = x at *
  generalize mk i = M at *
  obtain ⟨p, hp⟩ : ∃ p, p = i / 64 := ⟨_, rfl⟩
  have hwr := wrap_small p (by omega)
  rw [← hp] at hd hk c2
  clear hp
  generalize ws.length = L at *
  go_enter Tryz.func176, Tryz.ntmps176
  go_wp2
  go_quiet (first | (go_at_call 160; refine Calls.quiet_of_same (hI _)) | (go_at_call 161; refine Calls.quiet_of_same (hK _)))
  go_wp2
  go_ret
  exact ⟨congrArg (fun z => Ending.returned (.bool z)) HR.out, nq, rfl⟩
theorem used_no (b g n : Nat) (ws : List Nat) (f : Int) (w : World) (h : BmAt w b g n ws) (hi : inB f n = false) :
    Calls Tryz.prog 176 #[.pointer (some ⟨b, 0, none⟩), .int .i64 f] w fun e w' => e = .returned (.bool false) ∧ ∃ q, w' = w.drewN q := by
  have hI := fun q => is_at b g n ws f (w.drewN q) (h.drew q)
  rw [hi] at hI
  clear h hi
  go_enter Tryz.func176, Tryz.ntmps176
  go_wp2
  go_quiet (first | (go_at_call 160; refine Calls.quiet_of_same (hI _)))
  go_wp2
  go_ret
  exact ⟨rfl, nq, rfl⟩
theorem used_at (b g n : Nat) (ws : List Nat) (f : Int) (w : World) (h : BmAt w b g n ws) :
    Calls Tryz.prog 176 #[.pointer (some ⟨b, 0, none⟩), .int .i64 f] w fun e w' => e = .returned (.bool (usedB ws n f)) ∧ ∃ q, w' = w.drewN q := by
  unfold usedB
  cases hi : inB f n with
  | false => exact used_no b g n ws f w h hi
  | true =>
    obtain ⟨k, rfl, hk⟩ := inB_of hi
    exact used_yes b g n ws k w h hk
theorem free_at (b g n : Nat) (ws : List Nat) (i : Nat) (w : World) (h : BmAt w b g n ws) (hi : i < n) :
    Calls Tryz.prog 132 #[.pointer (some ⟨b, 0, none⟩), .int .i64 (i : Int)] w fun e w' => e = .returned (.bool (!bt ws i)) ∧ ∃ q, w' = w.drewN q := by
  have hI := is_at b g n ws i w h
  rw [inB_nat hi] at hI
  have hU := used_yes b g n ws i w h hi
  clear h
  generalize bt ws i = B at *
  go_enter Tryz.func132, Tryz.ntmps132
  go_wp2_with fail
  refine hI.mono ?_
  rintro e w1 ⟨rfl, hw⟩
  rw [hw]
  clear hw w1 hI
  go_wp2_with fail
  refine hU.mono ?_
  rintro e w1 ⟨rfl, q, hw⟩
  rw [hw]
  clear hw w1 hU
  go_wp2
  go_ret
  exact ⟨rfl, q, rfl⟩
theorem drew_add (w : World) (p q : Nat) : ∃ r, (w.drewN p).drewN q = w.drewN r := ⟨p + q, by simp [World.drewN, Nat.add_assoc]⟩
theorem drewN_below {w w' : World} (h : ∃ q, w' = w.drewN q) : Below w.heap.size w w' := by
  obtain ⟨q, rfl⟩ := h
  exact ⟨rfl, rfl, rfl, Nat.le_refl _, fun _ _ => rfl⟩
end Bi
end Go.Proofs.YtcjpahnlckfgoaaGreatDoor

namespace Go.Proofs.YtcjpahnlckfgoaaGreatDoor
open Go.RowKit
namespace Bi
set_option linter.unusedVariables false

/-- r is the lowest of n that is not, or -1. -/
def Low (f : Nat → Bool) (n : Nat) (r : Int) : Prop := (∃ k : Nat, r = (k : Int) ∧ k < n ∧ (∀ j, j < k → f j = true) ∧ f k = false) ∨ (r = -1 ∧ ∀ j, j < n → f j = true)
theorem low_is (f : Nat → Bool) (n : Nat) : ∃ r, Low f n r := by
  rcases lowest f n with ⟨k, h⟩ | h
  · exact ⟨k, Or.inl ⟨k, rfl, h⟩⟩
  · exact ⟨-1, Or.inr ⟨rfl, h⟩⟩
theorem Low.one {f : Nat → Bool} {n : Nat} {r s : Int} (h : Low f n r) (h' : Low f n s) : r = s := by
  rcases h with ⟨k, rfl, hk, h1, h2⟩ | ⟨rfl, h1⟩
  · rcases h' with ⟨k', rfl, hk', h1', h2'⟩ | ⟨rfl, h1'⟩
    · rcases Nat.lt_trichotomy k k' with q | q | q
      · rw [h1' k q] at h2; cases h2
      · rw [q]
      · rw [h1 k' q] at h2'; cases h2'
    · rw [h1' k hk] at h2; cases h2
  · rcases h' with ⟨k', rfl, hk', h1', h2'⟩ | ⟨rfl, h1'⟩
    · rw [h1 k' hk'] at h2'; cases h2'
    · rfl

set_option maxHeartbeats 800000 in
theorem first_at (b g n : Nat) (ws : List Nat) (w : World) (h : BmAt w b g n ws) :
    Calls Tryz.prog 189 #[.pointer (some ⟨b, 0, none⟩), .func (.func 132) #[] #[]] w fun e w' => ∃ r, e = .returned (.int .i64 r) ∧ Low (bt ws) n r ∧ ∃ q, w' = w.drewN q := by
  have hL := len_at b g n ws w h
  have hle := h.le
  have HB : Hid _ := h
  clear h
  go_enter Tryz.func189, Tryz.ntmps189
  go_wp2_with fail
  refine hL.mono ?_
  rintro e w1 ⟨rfl, hw⟩
  rw [hw]
  clear hw w1 hL
  go_wp2
  go_loopw [8] (fun s wr => ∃ (k : Nat), k ≤ n ∧ s = .int .i64 k ∧ (∀ j, j < k → bt ws j = true) ∧ ∃ q, wr = w.drewN q) (fun s _ => n - (intOf s).toNat)
  case atStart => exact ⟨0, by omega, rfl, fun j hj => by omega, 0, rfl⟩
  case round =>
    obtain ⟨k, hk, rfl, hA, q, rfl⟩ := hrel
    have HA : Hid _ := hA
    clear hA
    by_cases hlt : k < n
    · have hki : (k : Int) < (n : Int) := by omega
      have hF := free_at b g n ws k _ (BmAt.drew HB.out q) hlt
      cases hB : bt ws k with
      | true =>
        have HK : Hid (bt ws k = true) := hB
        rw [hB] at hF
        clear hB
        go_wp2_with fail
        refine hF.mono ?_
        rintro e w1 ⟨rfl, q2, hw⟩
        rw [hw]
        clear hw w1 hF
        go_wp2
        go_roundw
        case rel =>
          refine ⟨k + 1, by omega, by go_num, fun j hj => ?_, _, rfl⟩
          by_cases e : j = k
          · rw [e]; exact HK.out
          · exact HA.out j (by omega)
        case measure => simp [intOf]; omega
      | false =>
        have HK : Hid (bt ws k = false) := hB
        rw [hB] at hF
        clear hB
        go_wp2_with fail
        refine hF.mono ?_
        rintro e w1 ⟨rfl, q2, hw⟩
        rw [hw]
        clear hw w1 hF
        go_wp2
        go_ret
        exact ⟨_, rfl, Or.inl ⟨k, rfl, hlt, HA.out, HK.out⟩, _, rfl⟩
    · obtain rfl : k = n := by omega
      go_wp2
      go_ret
      exact ⟨_, rfl, Or.inr ⟨rfl, HA.out⟩, q, rfl⟩

set_option maxHeartbeats 800000 in
theorem count_at (b g n : Nat) (ws : List Nat) (w : World) (h : BmAt w b g n ws) :
    Calls Tryz.prog 131 #[.pointer (some ⟨b, 0, none⟩), .func (.func 132) #[] #[]] w fun e w' => e = .returned (.int .i64 ((cntF (bt ws) n : Nat) : Int)) ∧ ∃ q, w' = w.drewN q := by
  have hL := len_at b g n ws w h
  have hle := h.le
  have HB : Hid _ := h
  clear h
  go_enter Tryz.func131, Tryz.ntmps131
  go_wp2_with fail
  refine hL.mono ?_
  rintro e w1 ⟨rfl, hw⟩
  rw [hw]
  clear hw w1 hL
  go_wp2
  go_loopw [5, 9] (fun c s wr => ∃ (k m : Nat), k ≤ n ∧ s = .int .i64 k ∧ c = .int .i64 m ∧ Hid (m = cntF (bt ws) k) ∧ m ≤ k ∧ ∃ q, wr = w.drewN q) (fun _ s _ => n - (intOf s).toNat)
  case atStart => exact ⟨0, 0, by omega, rfl, rfl, rfl, by omega, 0, rfl⟩
  case round =>
    obtain ⟨k, m, hk, rfl, rfl, HA, hm, q, rfl⟩ := hrel
    by_cases hlt : k < n
    · have hki : (k : Int) < (n : Int) := by omega
      have hF := free_at b g n ws k _ (BmAt.drew HB.out q) hlt
      cases hB : bt ws k with
      | true =>
        have HK : Hid (bt ws k = true) := hB
        rw [hB] at hF
        clear hB
        go_wp2_with fail
        refine hF.mono ?_
        rintro e w1 ⟨rfl, q2, hw⟩
        rw [hw]
        clear hw w1 hF
        go_wp2
        go_roundw
        case rel =>
          refine ⟨k + 1, m, by omega, by go_num, rfl, ?_, by omega, _, rfl⟩
          show _ = _
          unfold cntF
          rw [HK.out, ← HA.out]
          rfl
        case measure => simp [intOf]; omega
      | false =>
        have HK : Hid (bt ws k = false) := hB
        rw [hB] at hF
        clear hB
        go_wp2_with fail
        refine hF.mono ?_
        rintro e w1 ⟨rfl, q2, hw⟩
        rw [hw]
        clear hw w1 hF
        go_wp2
        go_roundw
        case rel =>
          refine ⟨k + 1, m + 1, by omega, by go_num, by go_num, ?_, by omega, _, rfl⟩
          show _ = _
          unfold cntF
          rw [HK.out, ← HA.out]
          rfl
        case measure => simp [intOf]; omega
    · obtain rfl : k = n := by omega
      go_wp2
      go_ret
      exact ⟨by rw [← HA.out]; rfl, q, rfl⟩
theorem left_at (b g n : Nat) (ws : List Nat) (w : World) (h : BmAt w b g n ws) :
    Calls Tryz.prog 67 #[.pointer (some ⟨b, 0, none⟩)] w fun e w' => e = .returned (.int .i64 ((cntF (bt ws) n : Nat) : Int)) ∧ ∃ q, w' = w.drewN q := by
  have hC := count_at b g n ws w h
  clear h
  generalize cntF (bt ws) n = C at *
  go_enter Tryz.func67, Tryz.ntmps67
  go_wp2_with fail
  refine hC.mono ?_
  rintro e w1 ⟨rfl, q, hw⟩
  rw [hw]
  clear hw w1 hC
  go_wp2
  go_ret
  exact ⟨rfl, q, rfl⟩

theorem mark_nil (f : Int) (on : Bool) (w : World) :
    Calls Tryz.prog 113 #[.pointer none, .int .i64 f, .bool on] w fun e w' => e = .returned (.int .i64 101) ∧ w' = w := by
  go_enter Tryz.func113, Tryz.ntmps113
  go_wp2_with (go_at_call 160; refine (is_nil _ _).mono ?_; rintro e w' ⟨rfl, rfl⟩)
  go_ret
  exact ⟨rfl, rfl⟩
theorem mark_no (b g n : Nat) (ws : List Nat) (f : Int) (on : Bool) (w : World) (h : BmAt w b g n ws) (hi : inB f n = false) :
    Calls Tryz.prog 113 #[.pointer (some ⟨b, 0, none⟩), .int .i64 f, .bool on] w fun e w' => e = .returned (.int .i64 101) ∧ w' = w := by
  have hI := is_at b g n ws f w h
  rw [hi] at hI
  clear h hi
  go_enter Tryz.func113, Tryz.ntmps113
  go_wp2_with fail
  refine hI.mono ?_
  rintro e w1 ⟨rfl, hw⟩
  rw [hw]
  clear hw w1 hI
  go_wp2
  go_ret
  exact ⟨rfl, rfl⟩
set_option maxHeartbeats 800000 in
theorem mark_yes (b g n : Nat) (ws : List Nat) (i : Nat) (on : Bool) (w : World) (h : BmAt w b g n ws) (hi : i < n) :
    Calls Tryz.prog 113 #[.pointer (some ⟨b, 0, none⟩), .int .i64 (i : Int), .bool on] w fun e w' => e = .returned (.int .i64 0) ∧ BmAt w' b g n (mkW ws i on) ∧ Upd g w w' := by
  have hle := h.le
  have hI := is_at b g n ws i w h
  rw [inB_nat hi] at hI
  have hK := fun q => mask_at i (by omega) (w.drewN q)
  have hd := tdiv64 i
  have c1 := h.c1
  have hk : i / 64 < ws.length := h.wf.at hi
  have c2 := h.word hk
  have f2 := h.free (i / 64)
  have H : Hid (∀ q, BmAt ((w.drewN q).setCell ⟨g, i / 64, none⟩ (.int .u64 ((wd (ws.getD (i / 64) 0) i on : Nat) : Int))) b g n (mkW ws i on)) := fun q => (h.drew q).mark hi on
  have ha := set_bit (ws.getD (i / 64) 0) i (h.wf.word _)
  have hb := clear_bit (ws.getD (i / 64) 0) i (h.wf.word _)
  clear h
  cases on
  all_goals
    generalize wd (ws.getD (i / 64) 0) i true = r1 at *
    generalize wd (ws.getD (i / 64) 0) i false = r0 at *
    generalize ws.getD (i / 64) 0 = x at *
    generalize mk i = M at *
    obtain ⟨p, hp⟩ : ∃ p, p = i / 64 := ⟨_, rfl⟩
    have hwr := wrap_small p (by omega)
    rw [← hp] at hd hk c2 H f2
    clear hp
    generalize ws.length = L at *
    go_enter Tryz.func113, Tryz.ntmps113
    go_wp2_with fail
    refine hI.mono ?_
    rintro e w1 ⟨rfl, hw⟩
    rw [hw]
    clear hw w1 hI
    go_wp2
    go_region_with (go_at_call 161; refine (hK 1).mono ?_; rintro e w2 ⟨rfl, hw⟩; rw [hw]; clear hw w2)
    all_goals
      go_wp2
      go_ret
      exact ⟨rfl, H.out 1, (Upd.drew g w).trans (Upd.setCell g p w.drew _)⟩

/-- What Take leaves, if it answers r. -/
def takeW (ws : List Nat) (r : Int) : List Nat := if 0 ≤ r then mkW ws r.toNat true else ws
theorem take_at (b g n : Nat) (ws : List Nat) (r : Int) (w : World) (h : BmAt w b g n ws) (hr : Low (bt ws) n r) :
    Calls Tryz.prog 172 #[.pointer (some ⟨b, 0, none⟩)] w fun e w' => e = .returned (.int .i64 r) ∧ BmAt w' b g n (takeW ws r) ∧ Upd g w w' := by
  have HR : Hid (Low (bt ws) n r) := hr
  have HB : Hid _ := h
  have hF := first_at b g n ws w h
  clear h hr
  go_enter Tryz.func172, Tryz.ntmps172
  go_wp2_with fail
  refine hF.mono ?_
  rintro e w1 ⟨s, rfl, hs, q, hw⟩
  rw [hw]
  obtain rfl : s = r := hs.one HR.out
  clear hw w1 hF hs
  rcases HR.out with ⟨k, hk, hkn, -, -⟩ | ⟨hk, -⟩
  · have hM := mark_yes b g n ws k true (w.drewN q) (BmAt.drew HB.out q) hkn
    have HT : Hid (takeW ws s = mkW ws k true) := by show _ = _; rw [hk]; simp [takeW]
    subst hk
    go_wp2_with fail
    refine hM.mono ?_
    rintro e w1 ⟨rfl, hB, hU⟩
    have HB2 : Hid _ := hB
    have HU2 : Hid _ := hU
    clear hM hB hU
    go_wp2
    go_ret
    exact ⟨rfl, by rw [HT.out]; exact HB2.out, (Upd.of_below (drewN_below ⟨q, rfl⟩)).trans HU2.out⟩
  · have hM := mark_no b g n ws s true (w.drewN q) (BmAt.drew HB.out q) (by rw [hk]; rfl)
    have HT : Hid (takeW ws s = ws) := by show _ = _; rw [hk]; simp [takeW]
    clear hk
    go_wp2_with fail
    refine hM.mono ?_
    rintro e w1 ⟨rfl, hw⟩
    rw [hw]
    clear hM hw w1
    go_wp2
    go_ret
    exact ⟨rfl, by rw [HT.out]; exact BmAt.drew HB.out q, Upd.of_below (drewN_below ⟨q, rfl⟩)⟩
/-- What Mark answers, and leaves. -/
def markR (n : Nat) (f : Int) : Int := if inB f n = true then 0 else 101
def markW (ws : List Nat) (n : Nat) (f : Int) (on : Bool) : List Nat := if inB f n = true then mkW ws f.toNat on else ws
theorem mark_at (b g n : Nat) (ws : List Nat) (f : Int) (on : Bool) (w : World) (h : BmAt w b g n ws) :
    Calls Tryz.prog 113 #[.pointer (some ⟨b, 0, none⟩), .int .i64 f, .bool on] w fun e w' => e = .returned (.int .i64 (markR n f)) ∧ BmAt w' b g n (markW ws n f on) ∧ Upd g w w' := by
  unfold markR markW
  cases hi : inB f n with
  | false =>
    refine (mark_no b g n ws f on w h hi).mono ?_
    rintro e w1 ⟨rfl, rfl⟩
    exact ⟨rfl, h, Upd.refl _ _⟩
  | true =>
    obtain ⟨k, rfl, hk⟩ := inB_of hi
    exact mark_yes b g n ws k on w h hk
end Bi
end Go.Proofs.YtcjpahnlckfgoaaGreatDoor

namespace Go.Proofs.YtcjpahnlckfgoaaGreatDoor
open Go.RowKit
namespace Bi
set_option linter.unusedVariables false

/-- The value v is a slice of the words ws, wherever they lie. -/
def NRd (w : World) (v : Value) (ws : List Nat) : Prop :=
  ∃ a cap, v = .slice a ws.length cap ∧ ws.length ≤ cap ∧ ∀ (j x : Nat), ws[j]? = some x → ∃ g off, a = some ⟨g, off, none⟩ ∧ w.cell? ⟨g, off + j, none⟩ = some (.int .u64 ((x : Nat) : Int))
theorem NRd.below {w w' : World} {v : Value} {ws : List Nat} (h : NRd w v ws) (hb : Below w.heap.size w w') : NRd w' v ws := by
  obtain ⟨a, cap, e, h1, hf⟩ := h
  refine ⟨a, cap, e, h1, fun j x hj => ?_⟩
  obtain ⟨g, off, ea, hc⟩ := hf j x hj
  exact ⟨g, off, ea, (hb.cell (cell_lt hc)).trans hc⟩
theorem NRd.has {w : World} {v : Value} {ws : List Nat} (h : NRd w v ws) (hl : 0 < ws.length) : ∃ g o cap, v = .slice (some ⟨g, o, none⟩) ws.length cap ∧ ∀ (j x : Nat), ws[j]? = some x → w.cell? ⟨g, o + j, none⟩ = some (.int .u64 ((x : Nat) : Int)) := by
  obtain ⟨a, cap, e, _, hf⟩ := h
  obtain ⟨y, hy⟩ : ∃ y, ws[0]? = some y := ⟨ws[0], List.getElem?_eq_getElem (by omega)⟩
  obtain ⟨g, o, rfl, _⟩ := hf 0 y hy
  refine ⟨g, o, cap, e, fun j x hx => ?_⟩
  obtain ⟨g', o', e', hc⟩ := hf j x hx
  simp only [Option.some.injEq, Addr.mk.injEq] at e'
  obtain ⟨rfl, rfl, _⟩ := e'
  exact hc
theorem NRd.is {w : World} {v : Value} {ws : List Nat} (h : NRd w v ws) : ∃ a cap, v = .slice a ws.length cap := by
  obtain ⟨a, cap, e, _⟩ := h
  exact ⟨a, cap, e⟩
theorem nrd_of_row {w : World} {g : Nat} {ws : List Nat} {t : TypeId} (h : w.heap[g]? = some (.cells (nrow ws) t)) : NRd w (.slice (some ⟨g, 0, none⟩) ws.length ws.length) ws :=
  ⟨_, _, rfl, Nat.le_refl _, fun j x hj => ⟨g, 0, rfl, by
    have hl := (List.getElem?_eq_some_iff.1 hj).1
    rw [cell_of_heap h, Nat.zero_add, nrow_get ws j hl, List.getD_eq_getElem?_getD, hj]
    rfl⟩⟩

/-- Words as cells. -/
def nvs (ws : List Nat) : List Value := ws.map (fun x => Value.int .u64 ((x : Nat) : Int))
theorem nvs_len (ws : List Nat) : (nvs ws).length = ws.length := by simp [nvs]
theorem nadd (g o j : Nat) : (⟨g, o, none⟩ : Addr).add j = ⟨g, o + j, none⟩ := by unfold Addr.add; split <;> simp_all
/-- A copy of words over as many. -/
theorem copy_words {w : World} {g : Nat} {us ws : List Nat} (h : w.heap[g]? = some (.cells (nrow us) 103)) (hl : us.length = ws.length) (p o : Nat)
    (hw : ∀ (j x : Nat), ws[j]? = some x → w.cell? ⟨p, o + j, none⟩ = some (.int .u64 ((x : Nat) : Int))) (ty : TypeId) (c1 c2 : Nat) :
    (Builtin.copy_ #[81, 81] ty #[.slice (some ⟨g, 0, none⟩) ws.length c1, .slice (some ⟨p, o, none⟩) ws.length c2]).run Tryz.prog w = .ok (goInt ws.length) (w.setRow g (nrow ws)) := by
  have hr := run_copy_row Tryz.prog w 81 81 ty 103 g 0 ws.length c1 ⟨p, o, none⟩ ws.length c2 (nrow us) 103 (nvs ws) Tryz.underlying81 (by kernel_rfl) h
    (by simp [nvs_len])
    (fun j v hv => by
      simp only [nvs, List.getElem?_map, Option.map_eq_some_iff] at hv
      obtain ⟨x, hx, rfl⟩ := hv
      rw [nadd]
      exact hw j x hx)
    (by simp [nvs_len, nrow_size, hl]) (fun v hv => by
      simp only [nvs, List.mem_map] at hv
      obtain ⟨x, _, rfl⟩ := hv
      rfl)
  rw [hr]
  have e : ((nrow us).toList.take 0 ++ nvs ws ++ (nrow us).toList.drop (0 + (nvs ws).length)).toArray = nrow ws := by
    apply Array.ext'
    simp [nrow, nvs, hl]
  rw [e, nvs_len]

theorem words_nil (w : World) :
    Calls Tryz.prog 159 #[.pointer none] w fun e w' => e = .returned (.slice none 0 0) ∧ w' = w := by
  go_enter Tryz.func159, Tryz.ntmps159
  go_wp2
  go_ret
  exact ⟨rfl, rfl⟩
theorem words_at (b g n : Nat) (ws : List Nat) (w : World) (h : BmAt w b g n ws) :
    Calls Tryz.prog 159 #[.pointer (some ⟨b, 0, none⟩)] w fun e w' => ∃ v, e = .returned v ∧ NRd w' v ws ∧ Below w.heap.size w w' := by
  have c1 := h.c1
  have hL : ws.length ≤ 1024 := by have := h.wf.len; have := h.le; omega
  have hb := below_alloc w (.cells (nrow (List.replicate ws.length 0)) 103)
  have c2 := (h.below hb).c1
  have hr := fun ty c c' => copy_words (w := w.alloc (.cells (nrow (List.replicate ws.length 0)) 103)) (us := List.replicate ws.length 0) (ws := ws) (heap_alloc_new _ _) (by simp) g 0 (fun j x hx => by
    have hj := (List.getElem?_eq_some_iff.1 hx).1
    have := (h.below hb).word hj
    rw [List.getD_eq_getElem?_getD, hx] at this
    rw [Nat.zero_add]
    exact this) ty c c'
  have hmk := fun w => make_words ws.length hL w
  rw [setRow_alloc_new] at hr
  have HN : Hid (NRd (w.alloc (.cells (nrow ws) 103)) (.slice (some ⟨w.heap.size, 0, none⟩) ws.length ws.length) ws) := nrd_of_row (heap_alloc_new _ _)
  have HBm : Hid (Below w.heap.size w (w.alloc (.cells (nrow ws) 103))) := below_alloc _ _
  clear h hb
  generalize nrow ws = R at *
  generalize nrow (List.replicate ws.length 0) = Z at *
  generalize hLL : ws.length = L at *
  clear hLL
  go_enter Tryz.func159, Tryz.ntmps159
  go_wp2
  go_ret
  exact ⟨_, rfl, HN.out, HBm.out⟩

set_option maxHeartbeats 1000000 in
theorem words_same (u v : Value) (ws : List Nat) (w : World) (h1 : NRd w u ws) (h2 : NRd w v ws) (hl : ws.length ≤ 1000) :
    Calls Tryz.prog 42 #[u, v] w fun e w' => e = .returned (.bool true) ∧ ∃ q, w' = w.drewN q := by
  obtain ⟨a, cap, rfl, k1, f1⟩ := h1
  obtain ⟨b, cap2, rfl, k2, f2⟩ := h2
  go_enter Tryz.func42, Tryz.ntmps42
  go_wp2
  go_loopw [5] (fun i wr => ∃ (k q : Nat), k ≤ ws.length ∧ i = .int .i64 k ∧ wr = w.drewN q) (fun i _ => ws.length - (intOf i).toNat)
  case atStart => exact ⟨0, 0, by omega, rfl, rfl⟩
  case round =>
    obtain ⟨k, q, hk, rfl, rfl⟩ := hrel
    by_cases hlk : k < ws.length
    · have he := List.getElem?_eq_getElem hlk
      obtain ⟨g, o, rfl, c1⟩ := f1 k _ he
      obtain ⟨g', o', rfl, c2⟩ := f2 k _ he
      generalize ws[k] = x at he c1 c2
      have hint : (k : Int) < (ws.length : Int) := by omega
      clear f1 f2 he
      go_wp2
      go_quiet (fail)
      go_wp2
      go_roundw
      case rel => exact ⟨k + 1, _, by omega, by go_num, rfl⟩
      case measure => simp [intOf]; omega
    · have : k = ws.length := by omega
      subst this
      clear f1 f2
      go_wp2
      go_ret
      exact ⟨rfl, q, rfl⟩

theorem first_nil (w : World) :
    Calls Tryz.prog 189 #[.pointer none, .func (.func 132) #[] #[]] w fun e w' => e = .returned (.int .i64 (-1)) ∧ w' = w := by
  go_enter Tryz.func189, Tryz.ntmps189
  go_wp2_with fail
  refine (len_nil w).mono ?_
  rintro e w1 ⟨rfl, hw⟩
  rw [hw]
  clear hw w1
  go_wp2
  go_loopw [8] (fun s wr => s = .int .i64 0 ∧ wr = w) (fun _ _ => 0)
  case atStart => exact ⟨rfl, rfl⟩
  case round =>
    obtain ⟨rfl, rfl⟩ := hrel
    go_wp2
    go_ret
    exact ⟨rfl, rfl⟩
theorem count_nil (w : World) :
    Calls Tryz.prog 131 #[.pointer none, .func (.func 132) #[] #[]] w fun e w' => e = .returned (.int .i64 0) ∧ w' = w := by
  go_enter Tryz.func131, Tryz.ntmps131
  go_wp2_with fail
  refine (len_nil w).mono ?_
  rintro e w1 ⟨rfl, hw⟩
  rw [hw]
  clear hw w1
  go_wp2
  go_loopw [5, 9] (fun c s wr => c = .int .i64 0 ∧ s = .int .i64 0 ∧ wr = w) (fun _ _ _ => 0)
  case atStart => exact ⟨rfl, rfl, rfl⟩
  case round =>
    obtain ⟨rfl, rfl, rfl⟩ := hrel
    go_wp2
    go_ret
    exact ⟨rfl, rfl⟩
theorem left_nil (w : World) :
    Calls Tryz.prog 67 #[.pointer none] w fun e w' => e = .returned (.int .i64 0) ∧ w' = w := by
  go_enter Tryz.func67, Tryz.ntmps67
  go_wp2_with (go_at_call 131; refine (count_nil _).mono ?_; rintro e w' ⟨rfl, rfl⟩)
  go_ret
  exact ⟨rfl, rfl⟩
theorem take_nil (w : World) :
    Calls Tryz.prog 172 #[.pointer none] w fun e w' => e = .returned (.int .i64 (-1)) ∧ w' = w := by
  go_enter Tryz.func172, Tryz.ntmps172
  go_wp2_with (first | (go_at_call 189; refine (first_nil _).mono ?_; rintro e w' ⟨rfl, rfl⟩) | (go_at_call 113; refine (mark_nil _ _ _).mono ?_; rintro e w' ⟨rfl, rfl⟩))
  go_ret
  exact ⟨rfl, rfl⟩

/-- Whether a bit from n on is set in the last word. -/
def reachB (n : Nat) (ws : List Nat) : Bool := decide (n % 64 ≠ 0) && decide (ws.getD (n / 64) 0 / 2 ^ (n % 64) ≠ 0)
theorem reach_no {n : Nat} {ws : List Nat} (hl : ws.length = (n + 63) / 64) (hlt : ∀ x ∈ ws, x < 18446744073709551616) (h : reachB n ws = false) : Wf n ws := by
  refine ⟨hl, hlt, fun i hi => ?_⟩
  by_cases hf : ws.length ≤ i / 64
  · exact bt_far ws i hf
  · have h0 : n % 64 ≠ 0 := by omega
    have hq : i / 64 = n / 64 := by omega
    simp only [reachB, h0, ne_eq, not_false_eq_true, decide_true, Bool.true_and, decide_eq_false_iff_not, Decidable.not_not] at h
    unfold bt
    rw [hq]
    apply Nat.testBit_lt_two_pow
    have hx : ws.getD (n / 64) 0 < 2 ^ (n % 64) := by
      rcases Nat.div_eq_zero_iff.1 h with h | h
      · have := Nat.two_pow_pos (n % 64); omega
      · exact h
    exact Nat.lt_of_lt_of_le hx (Nat.pow_le_pow_right (by omega) (by omega))
theorem reach_yes {n : Nat} {ws : List Nat} (h : reachB n ws = true) : ¬ Wf n ws := by
  intro hw
  simp only [reachB, Bool.and_eq_true, decide_eq_true_eq] at h
  obtain ⟨h0, h1⟩ := h
  apply h1
  rw [Nat.div_eq_zero_iff]
  right
  apply Nat.lt_pow_two_of_testBit
  intro j hj
  by_cases hj64 : j < 64
  · have := hw.past (n / 64 * 64 + j) (by omega)
    rwa [bt_at _ _ _ hj64] at this
  · apply Nat.testBit_lt_two_pow
    exact Nat.lt_of_lt_of_le (hw.word _) (Nat.pow_le_pow_right (n := 2) (by omega) (show 64 ≤ j by omega))
theorem div_ne (x r : Nat) : (((x : Nat) : Int) / 2 ^ r != 0) = decide (x / 2 ^ r ≠ 0) := by
  have e : ((x : Nat) : Int) / 2 ^ r = ((x / 2 ^ r : Nat) : Int) := by simp
  rw [e]
  generalize x / 2 ^ r = q
  cases q with
  | zero => rfl
  | succ q => simp; omega
theorem reach_at (n : Nat) (ws : List Nat) (v : Value) (w : World) (h : NRd w v ws) (hl : ws.length = (n + 63) / 64) (hn : 1 ≤ n) (hn2 : n ≤ 1024) :
    Calls Tryz.prog 192 #[.int .i64 (n : Int), v] w fun e w' => e = .returned (.bool (reachB n ws)) ∧ w' = w := by
  obtain ⟨g, o, cap, rfl, hc⟩ := h.has (by omega)
  have ht := tmod64 n
  have hd := tdiv64 n
  by_cases h0 : n % 64 = 0
  · have HR : Hid (reachB n ws = false) := by show _ = _; simp [reachB, h0]
    rw [h0] at ht
    clear hd hc h
    go_enter Tryz.func192, Tryz.ntmps192
    go_wp2
    go_ret
    exact ⟨by rw [HR.out]; rfl, rfl⟩
  · have hk : n / 64 < ws.length := by omega
    have c1 := hc (n / 64) (ws.getD (n / 64) 0) (by rw [List.getD_eq_getElem?_getD, List.getElem?_eq_getElem hk]; rfl)
    have HR : Hid (reachB n ws = decide (ws.getD (n / 64) 0 / 2 ^ (n % 64) ≠ 0)) := by show _ = _; simp [reachB, h0]
    have hr0 : n % 64 < 64 := Nat.mod_lt _ (by omega)
    generalize ws.getD (n / 64) 0 = x at *
    obtain ⟨p, hp⟩ : ∃ p, p = n / 64 := ⟨_, rfl⟩
    obtain ⟨r, hr⟩ : ∃ r, r = n % 64 := ⟨_, rfl⟩
    have hwr := wrap_small p (by omega)
    rw [← hp] at hd hk c1
    rw [← hr] at ht h0 HR hr0
    have hne : ((r : Int) != 0) = true := by simp; omega
    clear hp hr hc h hl
    generalize ws.length = L at *
    go_enter Tryz.func192, Tryz.ntmps192
    go_wp2
    go_ret
    refine ⟨?_, rfl⟩
    rw [HR.out, ← div_ne]
    rfl

/-- Whether there is such a bitmap. -/
abbrev ofOK (n : Int) (ws : List Nat) : Prop := 1 ≤ n ∧ n ≤ 1024 ∧ Wf n.toNat ws
set_option maxHeartbeats 800000 in
theorem of_at (n : Int) (ws : List Nat) (v : Value) (w : World) (h : NRd w v ws) (hlt : ∀ x ∈ ws, x < 18446744073709551616) (hsz : ws.length ≤ 4611686018427387904) :
    Calls Tryz.prog 175 #[.int .i64 n, v] w fun e w' => ∃ p r, e = .returned (.tuple #[.pointer p, .int .i64 r]) ∧ Below w.heap.size w w' ∧
      ((r = 0 ∧ ofOK n ws ∧ ∃ b g, p = some ⟨b, 0, none⟩ ∧ w.heap.size ≤ b ∧ w.heap.size ≤ g ∧ BmAt w' b g n.toNat ws) ∨ (r = 101 ∧ ¬ ofOK n ws ∧ p = none)) := by
  have H : Hid (NRd w v ws) := h
  obtain ⟨a, cap, rfl⟩ := h.is
  clear h
  by_cases hn : 1 ≤ n ∧ n ≤ 1024
  · obtain ⟨n, rfl⟩ : ∃ m : Nat, n = (m : Int) := ⟨n.toNat, by omega⟩
    have hN := new_at n w (by omega) (by omega)
    rw [Int.toNat_natCast]
    by_cases hl : ws.length = (n + 63) / 64
    · have HL : Hid (ws.length = (n + 63) / 64) := hl
      have hpos : 0 < ws.length := by omega
      rw [← hl] at hN
      go_enter Tryz.func175, Tryz.ntmps175
      go_wp2_with fail
      refine hN.mono ?_
      rintro e w1 ⟨rfl, hB, hb, hs⟩
      have c1 := hB.c1
      rw [List.length_replicate] at c1
      have HB : Hid _ := hB
      have Hb : Hid (Below w.heap.size w w1) := hb
      have HN1 : Hid (NRd w1 (.slice a ws.length cap) ws) := NRd.below H.out hb
      obtain ⟨g, o, cap', hv, hcell⟩ := NRd.has HN1.out hpos
      simp only [Value.slice.injEq] at hv
      obtain ⟨rfl, -, rfl⟩ := hv
      have hcp := fun ty c c' => copy_words (w := w1) (us := List.replicate ws.length 0) (ws := ws) hB.row (by simp) g o hcell ty c c'
      have hR := reach_at n ws _ w1 HN1.out HL.out (by omega) (by omega)
      obtain ⟨b, hbq⟩ : ∃ b, b = w.heap.size + 1 := ⟨_, rfl⟩
      obtain ⟨gg, hgq⟩ : ∃ gg, gg = w.heap.size := ⟨_, rfl⟩
      have HBQ : Hid (b = w.heap.size + 1) := hbq
      have HGQ : Hid (gg = w.heap.size) := hgq
      rw [← hbq] at c1 HB ⊢
      rw [← hgq] at c1 HB hcp
      clear hB hb hs hl hN hcell hbq hgq H
      cases hre : reachB n ws with
      | true =>
        have HNo : Hid (¬ Wf n ws) := reach_yes hre
        rw [hre] at hR
        clear hre hcp
        generalize ws.length = L at *
        go_wp2_with fail
        refine hR.mono ?_
        rintro e w2 ⟨rfl, hw⟩
        rw [hw]
        clear hw w2 hR
        go_wp2
        go_ret2
        exact ⟨_, _, rfl, Hb.out, Or.inr ⟨rfl, fun k => HNo.out k.2.2, rfl⟩⟩
      | false =>
        have HY : Hid (Wf n ws) := reach_no HL.out hlt hre
        rw [hre] at hR
        have HF : Hid (BmAt (w1.setRow gg (nrow ws)) b gg n ws ∧ Upd gg w1 (w1.setRow gg (nrow ws))) := by
          have hB : BmAt w1 b gg n (List.replicate ws.length 0) := HB.out
          refine ⟨⟨?_, setRow_heap w1 gg _ _ _ _ hB.row, HY.out, hB.pos, hB.le⟩, Upd.setRow _ _ _⟩
          rw [setRow_other _ _ _ _ hB.ne, hB.head, List.length_replicate]
        clear hre
        generalize nrow ws = R at *
        generalize ws.length = L at *
        go_wp2_with fail
        refine hR.mono ?_
        rintro e w2 ⟨rfl, hw⟩
        rw [hw]
        clear hw w2 hR
        go_wp2
        go_ret2
        have e1 := HBQ.out
        have e2 := HGQ.out
        exact ⟨_, _, rfl, Hb.out.trans (HF.out.2.below (by omega) Hb.out.size), Or.inl ⟨rfl, ⟨by omega, by omega, HY.out⟩, b, gg, rfl, by omega, by omega, HF.out.1⟩⟩
    · have HNo : Hid (¬ Wf n ws) := fun k => hl k.len
      have hne : ((ws.length : Int) != (((n + 63) / 64 : Nat) : Int)) = true := by simp only [bne_iff_ne, ne_eq]; omega
      go_enter Tryz.func175, Tryz.ntmps175
      go_wp2_with fail
      refine hN.mono ?_
      rintro e w1 ⟨rfl, hB, hb, hs⟩
      have c1 := hB.c1
      rw [List.length_replicate] at c1
      have Hb : Hid (Below w.heap.size w w1) := hb
      generalize (n + 63) / 64 = L at *
      clear hB hb hs hl hN H
      go_wp2
      go_ret2
      exact ⟨_, _, rfl, Hb.out, Or.inr ⟨rfl, fun k => HNo.out k.2.2, rfl⟩⟩
  · have hN := new_no n w (by omega)
    go_enter Tryz.func175, Tryz.ntmps175
    go_wp2_with fail
    refine hN.mono ?_
    rintro e w1 ⟨rfl, hw⟩
    rw [hw]
    clear hw w1 hN
    go_wp2
    go_ret2
    exact ⟨_, _, rfl, Below.refl _ _, Or.inr ⟨rfl, fun k => hn ⟨k.1, k.2.1⟩, rfl⟩⟩
end Bi
end Go.Proofs.YtcjpahnlckfgoaaGreatDoor
