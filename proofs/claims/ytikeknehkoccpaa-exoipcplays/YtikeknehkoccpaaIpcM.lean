/- Messages as plain data: queues by environment, and what each call answers and leaves. -/
import Derived.Test.YtikeknehkoccpaaPlain
namespace Go.Proofs.Ytikeknehkoccpaa
open Go.RowKit
set_option linter.unusedVariables false

/-- A message in a queue: from whom, where its words lie, the words. -/
structure Mg where
  fr : Int
  a : Option Addr
  cap : Nat
  ws : List Int
abbrev Mg.v (m : Mg) : Value := .slice m.a m.ws.length m.cap
/-- Messages as cells. -/
def mcells (M : List Mg) : List Value := M.flatMap (fun m => [Value.int .i64 m.fr, m.v])
theorem mcells_app (M N : List Mg) : mcells (M ++ N) = mcells M ++ mcells N := by simp [mcells]
theorem mcells_len : ∀ (M : List Mg), (mcells M).length = M.length * 2
  | [] => rfl
  | u :: M => by
    have := mcells_len M
    unfold mcells at *
    rw [List.flatMap_cons, List.length_append, this]
    simp
    omega
theorem mcells_one (M : List Mg) : ∀ u ∈ mcells M, u.oneCell' = true := by
  intro u hu
  simp only [mcells, List.mem_flatMap] at hu
  obtain ⟨p, _, hp⟩ := hu
  simp at hp
  rcases hp with rfl | rfl <;> rfl
theorem mcells_get : ∀ (M : List Mg) (j : Nat) (m : Mg), M[j]? = some m → (mcells M)[j * 2]? = some (.int .i64 m.fr) ∧ (mcells M)[j * 2 + 1]? = some m.v
  | [], j, m, h => by simp at h
  | u :: M, 0, m, h => by
    simp at h
    subst h
    exact ⟨rfl, rfl⟩
  | u :: M, j + 1, m, h => by
    have := mcells_get M j m (by simpa using h)
    show ([Value.int .i64 u.fr, u.v] ++ mcells M)[(j + 1) * 2]? = _ ∧ ([Value.int .i64 u.fr, u.v] ++ mcells M)[(j + 1) * 2 + 1]? = _
    rw [List.getElem?_append_right (by simp; omega), List.getElem?_append_right (by simp; omega)]
    simp only [List.length_cons, List.length_nil]
    rw [show (j + 1) * 2 - (0 + 1 + 1) = j * 2 by omega, show (j + 1) * 2 + 1 - (0 + 1 + 1) = j * 2 + 1 by omega]
    exact this
/-- Cells that are a list's, one by one. -/
theorem mcells_of {M : List Mg} {l : List Value} (hl : l.length = M.length * 2) (h : ∀ (j : Nat) (m : Mg), M[j]? = some m → l[j * 2]? = some (.int .i64 m.fr) ∧ l[j * 2 + 1]? = some m.v) : l = mcells M := by
  apply List.ext_getElem?
  intro i
  by_cases hi : i < M.length * 2
  · have hj : i / 2 < M.length := by omega
    obtain ⟨m, hm⟩ : ∃ m, M[i / 2]? = some m := ⟨M[i / 2], List.getElem?_eq_getElem hj⟩
    obtain ⟨a1, a2⟩ := h _ m hm
    obtain ⟨b1, b2⟩ := mcells_get M _ m hm
    rcases Nat.mod_two_eq_zero_or_one i with e | e
    · rw [show i / 2 * 2 = i by omega] at a1 b1
      rw [a1, b1]
    · rw [show i / 2 * 2 + 1 = i by omega] at a2 b2
      rw [a2, b2]
  · rw [List.getElem?_eq_none (by omega), List.getElem?_eq_none (by rw [mcells_len]; omega)]

/-- The queues: of each environment what waits for it. -/
def QS := Nat → List Mg
def QS.set (Q : QS) (j : Nat) (M : List Mg) : QS := fun i => if i = j then M else Q i
theorem QS.set_same (Q : QS) (j : Nat) (M : List Mg) : (Q.set j M) j = M := if_pos rfl
theorem QS.set_other (Q : QS) (j i : Nat) (M : List Mg) (h : i ≠ j) : (Q.set j M) i = Q i := if_neg h
def Q0 : QS := fun _ => []

/-- Whether a number is an environment. -/
def isE (n : Int) : Bool := decide (0 ≤ n) && decide (n < 12)
theorem isE_nat {n : Int} (h : isE n = true) : ∃ m : Nat, n = m ∧ m < 12 := by
  simp [isE] at h
  exact ⟨n.toNat, by omega, by omega⟩
theorem isE_of {m : Nat} (h : m < 12) : isE m = true := by simp [isE]; omega

/-- What waits for a number. -/
def qat (Q : QS) (n : Int) : List Mg := if isE n then Q n.toNat else []
theorem qat_nat (Q : QS) {m : Nat} (h : m < 12) : qat Q m = Q m := by unfold qat; rw [isE_of h]; rfl
theorem qat_no (Q : QS) {n : Int} (h : isE n = false) : qat Q n = [] := by unfold qat; rw [h]; rfl

/-- What Send answers. -/
def sendR (Q : QS) (f t : Int) (len : Nat) : Int := if isE f = true ∧ isE t = true ∧ len ≤ 8 then (if (qat Q t).length < 4 then 0 else 105) else 101
/-- What Send leaves, the words lying at a. -/
def sendQ (Q : QS) (f t : Int) (a : Option Addr) (cap : Nat) (ws : List Int) : QS := if sendR Q f t ws.length = 0 then Q.set t.toNat (qat Q t ++ [⟨f, a, cap, ws⟩]) else Q
theorem sendQ_no {Q : QS} {f t : Int} {a : Option Addr} {cap : Nat} {ws : List Int} (h : sendR Q f t ws.length ≠ 0) : sendQ Q f t a cap ws = Q := if_neg h
theorem sendQ_yes {Q : QS} {f t : Int} {a : Option Addr} {cap : Nat} {ws : List Int} (h : sendR Q f t ws.length = 0) : sendQ Q f t a cap ws = Q.set t.toNat (qat Q t ++ [⟨f, a, cap, ws⟩]) := if_pos h

/-- What is left of a queue where those of one are taken away. -/
def dropM (n : Int) (M : List Mg) : List Mg := M.filter (fun m => m.fr != n)
theorem dropM_len (n : Int) (M : List Mg) : (dropM n M).length ≤ M.length := List.length_filter_le _ _
theorem dropM_snoc (n : Int) (M : List Mg) (m : Mg) : dropM n (M ++ [m]) = if m.fr = n then dropM n M else dropM n M ++ [m] := by
  unfold dropM
  rw [List.filter_append]
  split
  · rename_i h; simp [h]
  · rename_i h; simp [h]
theorem dropM_mem {n : Int} {M : List Mg} {m : Mg} (h : m ∈ dropM n M) : m ∈ M := (List.mem_filter.1 h).1
theorem dropM_ne {n : Int} {M : List Mg} {m : Mg} (h : m ∈ dropM n M) : m.fr ≠ n := by simpa using (List.mem_filter.1 h).2
/-- Where Gone has come to: the queue of e itself is empty, those below k are without e's. -/
def goneTo (Q : QS) (e k : Nat) : QS := fun i => if i = e then [] else if i < k then dropM e (Q i) else Q i
def goneQ (Q : QS) (n : Int) : QS := if isE n then goneTo Q n.toNat 12 else Q
theorem goneTo_zero (Q : QS) (e : Nat) : goneTo Q e 0 = Q.set e [] := by
  funext i
  unfold goneTo QS.set
  split
  · rfl
  · rw [if_neg (by omega)]
theorem goneTo_i (Q : QS) (e k i : Nat) : goneTo Q e k i = if i = e then [] else if i < k then dropM e (Q i) else Q i := rfl
theorem goneTo_at (Q : QS) (e k : Nat) : goneTo Q e (k + 1) = (goneTo Q e k).set k (dropM e (goneTo Q e k k)) := by
  funext i
  by_cases h : i = k
  · subst h
    rw [QS.set_same, goneTo_i, goneTo_i]
    by_cases he : i = e
    · rw [if_pos he, if_pos he]; rfl
    · rw [if_neg he, if_neg he, if_pos (by omega), if_neg (by omega)]
  · rw [QS.set_other _ _ _ _ h, goneTo_i, goneTo_i]
    by_cases he : i = e
    · rw [if_pos he, if_pos he]
    · rw [if_neg he, if_neg he]
      by_cases hk : i < k
      · rw [if_pos hk, if_pos (by omega)]
      · rw [if_neg hk, if_neg (by omega)]
/-- What Recv leaves. -/
def recvQ (Q : QS) (n : Int) : QS := if isE n then Q.set n.toNat ((Q n.toNat).tail) else Q
/-- What Recv answers. -/
def recvF (M : List Mg) : Int := match M with | [] => 0 | m :: _ => m.fr
def recvV (M : List Mg) : Value := match M with | [] => .slice none 0 0 | m :: _ => m.v
def recvB (M : List Mg) : Bool := match M with | [] => false | _ :: _ => true
/-- From whom. -/
def froms (M : List Mg) : List Int := M.map Mg.fr
end Go.Proofs.Ytikeknehkoccpaa
