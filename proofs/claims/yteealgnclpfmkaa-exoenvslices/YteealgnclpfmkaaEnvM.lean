/- Environments and slices as plain data; what each call answers and leaves. -/
import Derived.WalkKit
namespace Go.Proofs.Yteealgnclpfmkaa
open Go.RowKit
set_option linter.unusedVariables false

/-- What is kept of an environment. -/
structure Ev where
  lives : Bool
  waits : Bool
  addr : Int
def Ev.no : Ev := ⟨false, false, 0⟩
/-- Its three cells. -/
def Ev.get (v : Ev) : Nat → Value
  | 0 => .bool v.lives
  | 1 => .bool v.waits
  | _ => .int .u64 v.addr
abbrev ES := Nat → Ev
def ES.set (E : ES) (j : Nat) (v : Ev) : ES := fun i => if i = j then v else E i
theorem ES.set_same (E : ES) (j : Nat) (v : Ev) : E.set j v j = v := by simp [ES.set]
theorem ES.set_other (E : ES) (j i : Nat) (v : Ev) (h : i ≠ j) : E.set j v i = E i := by simp [ES.set, h]
theorem ES.set_set (E : ES) (j : Nat) (v u : Ev) : (E.set j v).set j u = E.set j u := by
  funext i
  simp only [ES.set]
  split <;> rfl
/-- Nobody lives. -/
def E0 : ES := fun _ => Ev.no
/-- Is it an environment's number? -/
def isE (n : Int) : Bool := decide (0 ≤ n) && decide (n < 12)
/-- Does it live? -/
def isB (E : ES) (n : Int) : Bool := isE n && (E n.toNat).lives
theorem isE_nat {n : Int} (h : isE n = true) : ∃ m : Nat, n = m ∧ m < 12 := by
  simp [isE] at h
  exact ⟨n.toNat, by omega, by omega⟩
theorem isE_of {m : Nat} (h : m < 12) : isE m = true := by simp [isE]; omega
theorem isB_nat {E : ES} {n : Int} (h : isB E n = true) : ∃ m : Nat, n = m ∧ m < 12 ∧ (E m).lives = true := by
  simp only [isB, Bool.and_eq_true] at h
  obtain ⟨m, rfl, hm⟩ := isE_nat h.1
  exact ⟨m, rfl, hm, by simpa using h.2⟩
theorem isB_of {E : ES} {m : Nat} (h : m < 12) : isB E m = (E m).lives := by simp [isB, isE_of h]

def createR (E : ES) (n : Int) : Int := if isE n then (if (E n.toNat).lives then 105 else 0) else 101
def createT (E : ES) (n : Int) : ES := if isE n && !(E n.toNat).lives then E.set n.toNat ⟨true, (E n.toNat).waits, (E n.toNat).addr⟩ else E
def killR (E : ES) (n : Int) : Int := if isB E n then 0 else 106
def killT (E : ES) (n : Int) : ES := if isB E n then E.set n.toNat Ev.no else E
/-- The vector without one. -/
def wo (V : List Int) (n : Int) : List Int := V.map (fun x => if x = n then -1 else x)
def killV (E : ES) (V : List Int) (n : Int) : List Int := if isB E n then wo V n else V
def sliceR (E : ES) (V : List Int) (s n : Int) : Int := if 0 ≤ s ∧ s < V.length then (if n = -1 ∨ isB E n = true then 0 else 106) else 101
def sliceV (E : ES) (V : List Int) (s n : Int) : List Int := if (0 ≤ s ∧ s < V.length) ∧ (n = -1 ∨ isB E n = true) then V.set s.toNat n else V
def pickA (V : List Int) (n : Int) : Int := V.getD (n % (V.length : Int)).toNat 0
def faultR (E : ES) (n : Int) : Int := if isB E n then (if (E n.toNat).waits then 105 else 0) else 106
def faultT (E : ES) (n a : Int) : ES := if isB E n && !(E n.toNat).waits then E.set n.toNat ⟨(E n.toNat).lives, true, a⟩ else E
def upA (E : ES) (n : Int) : Int := if isB E n then (E n.toNat).addr else 0
def upB (E : ES) (n : Int) : Bool := isB E n && (E n.toNat).waits
def upT (E : ES) (n : Int) : ES := if isB E n then E.set n.toNat ⟨(E n.toNat).lives, false, 0⟩ else E
/-- Who lives, of the first k. -/
def liveTo (E : ES) (k : Nat) : List Int := ((List.range k).filter (fun m => (E m).lives)).map Int.ofNat
theorem liveTo_len (E : ES) (k : Nat) : (liveTo E k).length ≤ k := by
  unfold liveTo
  rw [List.length_map]
  exact Nat.le_trans (List.length_filter_le _ _) (by simp)
theorem liveTo_yes {E : ES} {k : Nat} (h : (E k).lives = true) : liveTo E (k + 1) = liveTo E k ++ [(k : Int)] := by
  simp [liveTo, List.range_succ, h]
theorem liveTo_no {E : ES} {k : Nat} (h : (E k).lives = false) : liveTo E (k + 1) = liveTo E k := by
  simp [liveTo, List.range_succ, h]

theorem wo_length (V : List Int) (n : Int) : (wo V n).length = V.length := by simp [wo]
theorem killV_length (E : ES) (V : List Int) (n : Int) : (killV E V n).length = V.length := by
  unfold killV
  split
  · exact wo_length V n
  · rfl
theorem sliceV_length (E : ES) (V : List Int) (s n : Int) : (sliceV E V s n).length = V.length := by
  unfold sliceV
  split
  · simp
  · rfl
/-- The first k cleared of one. -/
def woTo (V : List Int) (n : Int) (k : Nat) : List Int := wo (V.take k) n ++ V.drop k
theorem woTo_zero (V : List Int) (n : Int) : woTo V n 0 = V := by simp [woTo, wo]
theorem woTo_all (V : List Int) (n : Int) : woTo V n V.length = wo V n := by simp [woTo]
theorem woTo_length (V : List Int) (n : Int) (k : Nat) : (woTo V n k).length = V.length := by
  simp [woTo, wo]
  omega
theorem woTo_get (V : List Int) (n : Int) (k j : Nat) (x : Int) (h : V[j]? = some x) (hj : k ≤ j) : (woTo V n k)[j]? = some x := by
  have hl := (List.getElem?_eq_some_iff.1 h).1
  unfold woTo
  rw [List.getElem?_append_right (by simp [wo]; omega)]
  simp only [wo, List.length_map, List.length_take, List.getElem?_drop]
  rw [show k + (j - min k V.length) = j by omega]
  exact h
theorem woTo_same (V : List Int) (n : Int) (k : Nat) (x : Int) (h : V[k]? = some x) (hx : x ≠ n) : woTo V n (k + 1) = woTo V n k := by
  obtain ⟨hl, rfl⟩ := List.getElem?_eq_some_iff.1 h
  unfold woTo wo
  rw [List.take_succ_eq_append_getElem hl, List.map_append, List.drop_eq_getElem_cons hl]
  simp [hx]
theorem woTo_hit (V : List Int) (n : Int) (k : Nat) (x : Int) (h : V[k]? = some x) (hx : x = n) : woTo V n (k + 1) = (woTo V n k).set k (-1) := by
  obtain ⟨hl, rfl⟩ := List.getElem?_eq_some_iff.1 h
  unfold woTo wo
  rw [List.take_succ_eq_append_getElem hl, List.map_append, List.drop_eq_getElem_cons hl, List.set_append]
  rw [if_neg (by simp; omega), List.length_map, List.length_take, show k - min k V.length = 0 by omega]
  simp [hx]
theorem pick_tmod (n : Int) (l : Nat) (hl : 1 ≤ l) : (n.tmod l < 0 → n.tmod l + l = ((n % (l : Int)).toNat : Int) ∧ (n % (l : Int)).toNat < l) ∧ (¬ n.tmod l < 0 → n.tmod l = ((n % (l : Int)).toNat : Int) ∧ (n % (l : Int)).toNat < l) := by
  have h1 := Int.emod_nonneg n (b := (l : Int)) (by omega)
  have h2 := Int.emod_lt_of_pos n (b := (l : Int)) (by omega)
  have h4 := Int.tmod_lt_of_pos n (b := (l : Int)) (by omega)
  have h5 := Int.lt_tmod_of_pos n (b := (l : Int)) (by omega)
  have h6 : ∃ q : Int, n.tmod l = n % (l : Int) + q * l := by
    have a := Int.mul_tdiv_add_tmod n l
    have b := Int.mul_ediv_add_emod n l
    refine ⟨n / l - n.tdiv l, ?_⟩
    rw [Int.sub_mul, Int.mul_comm (n / l), Int.mul_comm (n.tdiv l)]
    omega
  obtain ⟨q, hq⟩ := h6
  have hq3 : q = 0 ∨ q = -1 := by
    rcases Int.lt_trichotomy q 0 with h | h | h
    · right
      rcases Int.lt_or_le q (-1) with h' | h'
      · exfalso
        have : q * l ≤ (-2) * l := Int.mul_le_mul_of_nonneg_right (by omega) (by omega)
        omega
      · omega
    · left; exact h
    · exfalso
      have : 1 * (l : Int) ≤ q * l := Int.mul_le_mul_of_nonneg_right (by omega) (by omega)
      omega
  constructor <;> intro h <;> rcases hq3 with rfl | rfl <;> omega
end Go.Proofs.Yteealgnclpfmkaa
