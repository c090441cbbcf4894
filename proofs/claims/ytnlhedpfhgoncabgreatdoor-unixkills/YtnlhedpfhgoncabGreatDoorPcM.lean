/- Plain: processes by their pids; what each call answers and leaves; the words there and back; what is kept. -/
import Derived.Test.YtnlhedpfhgoncabGreatDoorPlain
set_option linter.all false
namespace Go.Proofs.YtnlhedpfhgoncabGreatDoor
open Go.RowKit
namespace Ow
end Ow
namespace Pc
open Ow
/-- A process: its parent, whether it is a zombie, its status. -/
structure Pr where
  par : Int
  zom : Bool
  st : Int
/-- Who is in use. -/
abbrev St := Int → Option Pr
def St0 : St := fun _ => none
def stPut (S : St) (k : Int) (p : Pr) : St := fun x => if x = k then some p else S x
/-- What is asked of the one at k. -/
def hits (S : St) (t : Pr → Bool) (k : Int) : Bool := match S k with | some p => t p | none => false
def liv (S : St) (k : Int) : Bool := hits S (fun p => !p.zom) k
def pids : List Int := [1, 2, 3, 4, 5, 6, 7, 8]
/-- The pids of which that is so, rising. -/
def lstF (S : St) (t : Pr → Bool) : List Int := pids.filter (hits S t)
def lowF (S : St) : Nat → Int → Int
  | 0, _ => -1
  | n + 1, k => if (S k).isSome = true then lowF S n (k + 1) else k
def lowI (S : St) : Int := lowF S 8 1
def Dom (S : St) : Prop := ∀ k p, S k = some p → 1 ≤ k ∧ k ≤ 8
theorem mem_pids {k : Int} : k ∈ pids ↔ 1 ≤ k ∧ k ≤ 8 := by
  simp only [pids, List.mem_cons, List.not_mem_nil, or_false]
  omega
theorem pids_up : pids.Pairwise (· < ·) := by unfold pids; decide
theorem lst_up (S : St) (t : Pr → Bool) : (lstF S t).Pairwise (· < ·) := pids_up.sublist List.filter_sublist
theorem mem_lst {S : St} (hd : Dom S) {t : Pr → Bool} {k : Int} : k ∈ lstF S t ↔ hits S t k = true := by
  unfold lstF
  rw [List.mem_filter, mem_pids]
  constructor
  · exact fun h => h.2
  · intro h
    refine ⟨?_, h⟩
    unfold hits at h
    cases e : S k with
    | none => rw [e] at h; cases h
    | some p => exact hd k p e
theorem up_ext : ∀ (l m : List Int), l.Pairwise (· < ·) → m.Pairwise (· < ·) → (∀ x, x ∈ l ↔ x ∈ m) → l = m
  | [], [], _, _, _ => rfl
  | [], b :: m, _, _, h => by have := (h b).2 (by simp); simp at this
  | a :: l, [], _, _, h => by have := (h a).1 (by simp); simp at this
  | a :: l, b :: m, hl, hm, h => by
    rw [List.pairwise_cons] at hl hm
    have h1 : a ∈ b :: m := (h a).1 (by simp)
    have h2 : b ∈ a :: l := (h b).2 (by simp)
    have hab : a = b := by
      rcases List.mem_cons.1 h1 with e | h1
      · exact e
      · rcases List.mem_cons.1 h2 with e | h2
        · exact e.symm
        · have := hl.1 b h2
          have := hm.1 a h1
          omega
    subst hab
    rw [up_ext l m hl.2 hm.2 (fun x => ?_)]
    have hx := h x
    constructor
    · intro hxl
      rcases List.mem_cons.1 (hx.1 (List.mem_cons_of_mem _ hxl)) with e | q
      · have := hl.1 x hxl; omega
      · exact q
    · intro hxm
      rcases List.mem_cons.1 (hx.2 (List.mem_cons_of_mem _ hxm)) with e | q
      · have := hm.1 x hxm; omega
      · exact q
/-- What was collected in any order, sorted. -/
theorem sorted_lst {S : St} (hd : Dom S) {t : Pr → Bool} {xs : List Int} (hn : xs.Nodup) (h : ∀ k, k ∈ xs ↔ hits S t k = true) : xs.mergeSort (fun x y => decide (x ≤ y)) = lstF S t := by
  have hp := List.pairwise_mergeSort (le := fun x y : Int => decide (x ≤ y)) (fun a b c h1 h2 => by simp at *; omega) (fun a b => by simp; omega) xs
  have hm : ∀ a, a ∈ xs.mergeSort (fun x y => decide (x ≤ y)) ↔ a ∈ xs := fun a => List.mem_mergeSort
  have hnd : (xs.mergeSort (fun x y => decide (x ≤ y))).Nodup := (List.mergeSort_perm xs _).nodup_iff.2 hn
  refine up_ext _ _ ?_ (lst_up S t) (fun x => ?_)
  · exact (hp.and hnd).imp (fun {a b} q => by
      obtain ⟨q1, q2⟩ := q
      have : a ≤ b := by simpa using q1
      omega)
  · rw [hm, h, mem_lst hd]
theorem lowF_is (S : St) : ∀ n k, (lowF S n k = -1 ∧ ∀ j, k ≤ j → j < k + n → (S j).isSome = true) ∨ (k ≤ lowF S n k ∧ lowF S n k < k + n ∧ S (lowF S n k) = none ∧ ∀ j, k ≤ j → j < lowF S n k → (S j).isSome = true)
  | 0, k => Or.inl ⟨rfl, fun j h1 h2 => by omega⟩
  | n + 1, k => by
    unfold lowF
    by_cases e : (S k).isSome = true
    · rw [if_pos e]
      rcases lowF_is S n (k + 1) with ⟨h1, h2⟩ | ⟨h1, h2, h3, h4⟩
      · refine Or.inl ⟨h1, fun j q1 q2 => ?_⟩
        by_cases hjk : j = k
        · rw [hjk]; exact e
        · exact h2 j (by omega) (by omega)
      · refine Or.inr ⟨by omega, by omega, h3, fun j q1 q2 => ?_⟩
        by_cases hjk : j = k
        · rw [hjk]; exact e
        · exact h4 j (by omega) q2
    · rw [if_neg e]
      refine Or.inr ⟨by omega, by omega, by simpa using e, fun j q1 q2 => by omega⟩
/-- What Begin answers and leaves. -/
def beN (S : St) : Int := if lstF S (fun _ => true) = [] then 1 else 0
def beS (S : St) : St := if lstF S (fun _ => true) = [] then stPut S 1 ⟨0, false, 0⟩ else S
/-- What Fork answers and leaves. -/
def fkE (S : St) (pid : Int) : Int := if liv S pid = true then (if lowI S = -1 then 11 else 0) else 3
def fkN (S : St) (pid : Int) : Int := if fkE S pid = 0 then lowI S else 0
def fkS (S : St) (pid : Int) : St := if fkE S pid = 0 then stPut S (lowI S) ⟨pid, false, 0⟩ else S
theorem stPut_same (S : St) (k : Int) (p : Pr) : stPut S k p k = some p := by unfold stPut; rw [if_pos rfl]
theorem stPut_other {S : St} {k x : Int} (p : Pr) (h : x ≠ k) : stPut S k p x = S x := by unfold stPut; rw [if_neg h]
theorem Dom.put {S : St} (h : Dom S) {k : Int} (p : Pr) (h1 : 1 ≤ k) (h8 : k ≤ 8) : Dom (stPut S k p) := by
  intro x q hx
  unfold stPut at hx
  split at hx
  · omega
  · exact h x q hx
theorem low_is (S : St) : (lowI S = -1 ∧ ∀ j, 1 ≤ j → j ≤ 8 → (S j).isSome = true) ∨ (1 ≤ lowI S ∧ lowI S ≤ 8 ∧ S (lowI S) = none) := by
  rcases lowF_is S 8 1 with ⟨h1, h2⟩ | ⟨h1, h2, h3, _⟩
  · exact Or.inl ⟨h1, fun j q1 q2 => h2 j q1 (by omega)⟩
  · exact Or.inr ⟨h1, by unfold lowI; omega, h3⟩
theorem len_bound : ∀ (n : Nat) (l : List Int), l.Nodup → (∀ k ∈ l, 1 ≤ k ∧ k ≤ (n : Int)) → l.length ≤ n
  | 0, l, _, h => by
    cases l with
    | nil => simp
    | cons a r => have := h a (by simp); omega
  | n + 1, l, hn, h => by
    have h1 := len_bound n (l.erase ((n : Int) + 1)) (hn.erase _) (fun k hk => by
      rw [hn.mem_erase_iff] at hk
      have := h k hk.2
      have := hk.1
      omega)
    rw [List.length_erase] at h1
    split at h1 <;> omega
end Pc
end Go.Proofs.YtnlhedpfhgoncabGreatDoor
