/- Plain: the bits of a list of words; the lowest that is free; how many are. Names no program. -/
import Derived.Test.YtinjllnoonbjmaaPlain
import Derived.Laws.BitsAllLaws
namespace Go.Proofs.Ytinjllnoonbjmaa
open Go.RowKit
namespace Bi
set_option linter.unusedVariables false

/-- A word with the place of bit i alone. -/
def mk (i : Nat) : Nat := 2 ^ (i % 64)
/-- Bit i of the words. -/
def bt (ws : List Nat) (i : Nat) : Bool := (ws.getD (i / 64) 0).testBit (i % 64)
/-- A word in which bit i is so. -/
def wd (x i : Nat) (on : Bool) : Nat := if on then x ||| mk i else x &&& (18446744073709551615 - mk i)
/-- The words in which bit i is so. -/
def mkW (ws : List Nat) (i : Nat) (on : Bool) : List Nat := ws.set (i / 64) (wd (ws.getD (i / 64) 0) i on)

theorem mk_lt (i : Nat) : mk i < 18446744073709551616 := by
  unfold mk
  exact Nat.lt_of_lt_of_le (Nat.pow_lt_pow_right (by omega) (Nat.mod_lt i (by omega : 0 < 64))) (by decide)
theorem mk_bit (i j : Nat) : (mk i).testBit j = decide (i % 64 = j) := by
  unfold mk
  exact Nat.testBit_two_pow
theorem max_bit (j : Nat) : (18446744073709551615 : Nat).testBit j = decide (j < 64) := by
  have := Nat.testBit_two_pow_sub_one 64 j
  exact this
theorem not_bit (i j : Nat) : (18446744073709551615 - mk i).testBit j = (decide (j < 64) && !decide (i % 64 = j)) := by
  have h := Nat.testBit_two_pow_sub_succ (n := 64) (mk_lt i) j
  rw [mk_bit] at h
  rw [← h]
  congr 1
  omega
theorem wd_bit (x i j : Nat) (on : Bool) (hj : j < 64) : (wd x i on).testBit j = if i % 64 = j then on else x.testBit j := by
  unfold wd
  cases on
  · rw [if_neg (by simp), Nat.testBit_and, not_bit]
    by_cases h : i % 64 = j <;> simp [h, hj]
  · rw [if_pos rfl, Nat.testBit_or, mk_bit]
    by_cases h : i % 64 = j <;> simp [h]
theorem wd_lt (x i : Nat) (on : Bool) (hx : x < 18446744073709551616) : wd x i on < 18446744073709551616 := by
  unfold wd
  cases on
  · rw [if_neg (by simp)]
    exact Nat.lt_of_le_of_lt Nat.and_le_left hx
  · rw [if_pos rfl]
    exact Nat.or_lt_two_pow (n := 64) hx (mk_lt i)
theorem getD_set (ws : List Nat) (k j x : Nat) (hk : k < ws.length) : (ws.set k x).getD j 0 = if j = k then x else ws.getD j 0 := by
  simp only [List.getD_eq_getElem?_getD, List.getElem?_set]
  by_cases h : j = k
  · subst h; simp [hk]
  · rw [if_neg (fun e => h e.symm), if_neg h]
theorem bt_mkW (ws : List Nat) (i j : Nat) (on : Bool) (hi : i / 64 < ws.length) : bt (mkW ws i on) j = if j = i then on else bt ws j := by
  unfold bt mkW
  rw [getD_set _ _ _ _ hi]
  by_cases h : j / 64 = i / 64
  · rw [if_pos h, wd_bit _ _ _ _ (Nat.mod_lt _ (by omega)), h]
    by_cases e : j = i
    · subst e; simp
    · rw [if_neg e, if_neg (by omega)]
  · rw [if_neg h, if_neg (by intro e; subst e; exact h rfl)]

/-- As few words as hold n bits, and no bit from n on. -/
structure Wf (n : Nat) (ws : List Nat) : Prop where
  len : ws.length = (n + 63) / 64
  lt : ∀ x ∈ ws, x < 18446744073709551616
  past : ∀ i, n ≤ i → bt ws i = false
theorem Wf.at {n : Nat} {ws : List Nat} (h : Wf n ws) {i : Nat} (hi : i < n) : i / 64 < ws.length := by rw [h.len]; omega
theorem Wf.word {n : Nat} {ws : List Nat} (h : Wf n ws) (k : Nat) : ws.getD k 0 < 18446744073709551616 := by
  rw [List.getD_eq_getElem?_getD]
  cases e : ws[k]? with
  | none => simp
  | some x => exact h.lt x (List.mem_of_getElem? e)
theorem Wf.mark {n : Nat} {ws : List Nat} (h : Wf n ws) {i : Nat} (hi : i < n) (on : Bool) : Wf n (mkW ws i on) := by
  refine ⟨by rw [← h.len]; simp [mkW], fun x hx => ?_, fun j hj => ?_⟩
  · rcases List.mem_or_eq_of_mem_set hx with hx | hx
    · exact h.lt x hx
    · rw [hx]; exact wd_lt _ _ _ (h.word _)
  · rw [bt_mkW _ _ _ _ (h.at hi), if_neg (by omega)]
    exact h.past j hj
theorem bt_far (ws : List Nat) (i : Nat) (h : ws.length ≤ i / 64) : bt ws i = false := by
  unfold bt
  rw [List.getD_eq_getElem?_getD, List.getElem?_eq_none h]
  simp
theorem wf_zero (n : Nat) : Wf n (List.replicate ((n + 63) / 64) 0) := by
  have e : ∀ k, (List.replicate ((n + 63) / 64) 0).getD k 0 = 0 := fun k => by
    rw [List.getD_eq_getElem?_getD, List.getElem?_replicate]
    split <;> rfl
  refine ⟨by simp, fun x hx => by rw [List.eq_of_mem_replicate hx]; omega, fun i _ => ?_⟩
  unfold bt
  rw [e]
  simp
theorem bt_zero (k i : Nat) : bt (List.replicate k 0) i = false := by
  have e : (List.replicate k 0).getD (i / 64) 0 = 0 := by
    rw [List.getD_eq_getElem?_getD, List.getElem?_replicate]
    split <;> rfl
  unfold bt
  rw [e]
  simp
theorem word_ext {x y : Nat} (hx : x < 18446744073709551616) (hy : y < 18446744073709551616) (h : ∀ j, j < 64 → x.testBit j = y.testBit j) : x = y := by
  apply Nat.eq_of_testBit_eq
  intro j
  by_cases hj : j < 64
  · exact h j hj
  · have h2 : (18446744073709551616 : Nat) ≤ 2 ^ j := by
      have := Nat.pow_le_pow_right (n := 2) (by omega) (show 64 ≤ j by omega)
      exact this
    rw [Nat.testBit_lt_two_pow (by omega), Nat.testBit_lt_two_pow (by omega)]
theorem bt_at (ws : List Nat) (k j : Nat) (hj : j < 64) : bt ws (k * 64 + j) = (ws.getD k 0).testBit j := by
  unfold bt
  rw [show (k * 64 + j) / 64 = k by omega, show (k * 64 + j) % 64 = j by omega]
theorem words_ext {us ws : List Nat} (hl : us.length = ws.length) (hu : ∀ x ∈ us, x < 18446744073709551616) (hw : ∀ x ∈ ws, x < 18446744073709551616) (h : ∀ i, bt us i = bt ws i) : us = ws := by
  apply List.ext_getElem hl
  intro k h1 h2
  refine word_ext (hu _ (List.getElem_mem h1)) (hw _ (List.getElem_mem h2)) fun j hj => ?_
  have e1 := bt_at us k j hj
  have e2 := bt_at ws k j hj
  rw [List.getD_eq_getElem?_getD, List.getElem?_eq_getElem h1] at e1
  rw [List.getD_eq_getElem?_getD, List.getElem?_eq_getElem h2] at e2
  have e3 := h (k * 64 + j)
  rw [e1, e2] at e3
  exact e3
theorem Wf.ext {n : Nat} {us ws : List Nat} (hu : Wf n us) (hw : Wf n ws) (h : ∀ i, i < n → bt us i = bt ws i) : us = ws := by
  refine words_ext (hu.len.trans hw.len.symm) hu.lt hw.lt fun i => ?_
  by_cases hi : i < n
  · exact h i hi
  · rw [hu.past i (by omega), hw.past i (by omega)]

/-- How many of the first are not. -/
def cntF (f : Nat → Bool) : Nat → Nat
  | 0 => 0
  | k + 1 => cntF f k + (if f k then 0 else 1)
theorem cntF_le (f : Nat → Bool) (k : Nat) : cntF f k ≤ k := by
  induction k with
  | zero => exact Nat.le_refl _
  | succ k ih => unfold cntF; split <;> omega
theorem cntF_congr {f g : Nat → Bool} (k : Nat) (h : ∀ i, i < k → f i = g i) : cntF f k = cntF g k := by
  induction k with
  | zero => rfl
  | succ k ih =>
    unfold cntF
    rw [ih (fun i hi => h i (by omega)), h k (by omega)]
theorem cntF_none {f : Nat → Bool} (k : Nat) (h : ∀ i, i < k → f i = true) : cntF f k = 0 := by
  induction k with
  | zero => rfl
  | succ k ih =>
    unfold cntF
    rw [ih (fun i hi => h i (by omega)), h k (by omega)]
    rfl
/-- The lowest that is not, or none. -/
theorem lowest (f : Nat → Bool) (n : Nat) : (∃ k, k < n ∧ (∀ j, j < k → f j = true) ∧ f k = false) ∨ ∀ j, j < n → f j = true := by
  induction n with
  | zero => exact Or.inr (fun j hj => by omega)
  | succ n ih =>
    rcases ih with ⟨k, hk, h1, h2⟩ | ih
    · exact Or.inl ⟨k, by omega, h1, h2⟩
    · cases e : f n with
      | false => exact Or.inl ⟨n, by omega, ih, e⟩
      | true => exact Or.inr (fun j hj => by
          by_cases h : j = n
          · rw [h]; exact e
          · exact ih j (by omega))

/-- Asking a bit as the code does. -/
theorem ask_bit (x i : Nat) (hx : x < 18446744073709551616) : bits .and .u64 (x : Int) ((mk i : Nat) : Int) = (((x &&& mk i : Nat)) : Int) := u64_and_nat x _ hx (mk_lt i)
theorem and_bit (x i : Nat) : ((((x &&& mk i : Nat)) : Int) != 0) = x.testBit (i % 64) := by
  have h : x &&& mk i = x / 2 ^ (i % 64) % 2 * 2 ^ (i % 64) := by
    unfold mk
    exact nat_bit _ _
  rw [h, Nat.testBit_eq_decide_div_mod_eq]
  have hp : 0 < 2 ^ (i % 64) := Nat.two_pow_pos _
  generalize 2 ^ (i % 64) = P at *
  rcases (by omega : x / P % 2 = 0 ∨ x / P % 2 = 1) with e | e
  · rw [e]; simp
  · rw [e]
    simp
    omega
theorem set_bit (x i : Nat) (hx : x < 18446744073709551616) : bits .or .u64 (x : Int) ((mk i : Nat) : Int) = ((wd x i true : Nat) : Int) := u64_or_nat x _ hx (mk_lt i)
theorem clear_bit (x i : Nat) (hx : x < 18446744073709551616) : bits .andNot .u64 (x : Int) ((mk i : Nat) : Int) = ((wd x i false : Nat) : Int) := u64_andNot_nat x _ hx (mk_lt i)
theorem shl_one (i : Nat) : IntKind.u64.wrap (2 ^ min (i % 64) 64) = ((mk i : Nat) : Int) := by
  have h : i % 64 < 64 := Nat.mod_lt _ (by omega)
  rw [Nat.min_eq_left (by omega)]
  have e : ((2 : Int) ^ (i % 64)) = ((mk i : Nat) : Int) := by unfold mk; simp
  have hl := mk_lt i
  rw [e, IntKind.wrap_u64]
  omega
end Bi
end Go.Proofs.Ytinjllnoonbjmaa
