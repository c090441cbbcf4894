/- Plain: processes by their pids; what each call answers and leaves; the words there and back; what is kept. -/
import Derived.Test.YtikjfdihocgfpaaGreatDoorPlain
set_option linter.all false
namespace Go.Proofs.YtikjfdihocgfpaaGreatDoor
open Go.RowKit
namespace Ow
end Ow
namespace Pc
open Ow
/-- A process: its parent, whether it is a zombie, its status. -/
structure Pr where
  par : Int
  zom : Bool
  st : Int
/-- Who is in use. -/
abbrev St := Int → Option Pr
def St0 : St := fun _ => none
def stPut (S : St) (k : Int) (p : Pr) : St := fun x => if x = k then some p else S x
/-- What is asked of the one at k. -/
def hits (S : St) (t : Pr → Bool) (k : Int) : Bool := match S k with | some p => t p | none => false
def liv (S : St) (k : Int) : Bool := hits S (fun p => !p.zom) k
def parI (S : St) (k : Int) : Int := match S k with | some p => p.par | none => -1
def pids : List Int := [1, 2, 3, 4, 5, 6, 7, 8]
/-- The pids of which that is so, rising. -/
def lstF (S : St) (t : Pr → Bool) : List Int := pids.filter (hits S t)
def Dom (S : St) : Prop := ∀ k p, S k = some p → 1 ≤ k ∧ k ≤ 8
theorem Dom.none {S : St} (h : Dom S) {k : Int} (hk : k < 1 ∨ 8 < k) : S k = none := by
  cases e : S k with
  | none => rfl
  | some p => have := h k p e; omega
theorem mem_pids {k : Int} : k ∈ pids ↔ 1 ≤ k ∧ k ≤ 8 := by
  simp only [pids, List.mem_cons, List.not_mem_nil, or_false]
  omega
theorem pids_up : pids.Pairwise (· < ·) := by unfold pids; decide
theorem lst_up (S : St) (t : Pr → Bool) : (lstF S t).Pairwise (· < ·) := pids_up.sublist List.filter_sublist
theorem mem_lst {S : St} (hd : Dom S) {t : Pr → Bool} {k : Int} : k ∈ lstF S t ↔ hits S t k = true := by
  unfold lstF
  rw [List.mem_filter, mem_pids]
  constructor
  · exact fun h => h.2
  · intro h
    refine ⟨?_, h⟩
    unfold hits at h
    cases e : S k with
    | none => rw [e] at h; cases h
    | some p => exact hd k p e
theorem up_ext : ∀ (l m : List Int), l.Pairwise (· < ·) → m.Pairwise (· < ·) → (∀ x, x ∈ l ↔ x ∈ m) → l = m
  | [], [], _, _, _ => rfl
  | [], b :: m, _, _, h => by have := (h b).2 (by simp); simp at this
  | a :: l, [], _, _, h => by have := (h a).1 (by simp); simp at this
  | a :: l, b :: m, hl, hm, h => by
    rw [List.pairwise_cons] at hl hm
    have h1 : a ∈ b :: m := (h a).1 (by simp)
    have h2 : b ∈ a :: l := (h b).2 (by simp)
    have hab : a = b := by
      rcases List.mem_cons.1 h1 with e | h1
      · exact e
      · rcases List.mem_cons.1 h2 with e | h2
        · exact e.symm
        · have := hl.1 b h2
          have := hm.1 a h1
          omega
    subst hab
    rw [up_ext l m hl.2 hm.2 (fun x => ?_)]
    have hx := h x
    constructor
    · intro hxl
      rcases List.mem_cons.1 (hx.1 (List.mem_cons_of_mem _ hxl)) with e | q
      · have := hl.1 x hxl; omega
      · exact q
    · intro hxm
      rcases List.mem_cons.1 (hx.2 (List.mem_cons_of_mem _ hxm)) with e | q
      · have := hm.1 x hxm; omega
      · exact q
/-- What was collected in any order, sorted. -/
theorem sorted_lst {S : St} (hd : Dom S) {t : Pr → Bool} {xs : List Int} (hn : xs.Nodup) (h : ∀ k, k ∈ xs ↔ hits S t k = true) : xs.mergeSort (fun x y => decide (x ≤ y)) = lstF S t := by
  have hp := List.pairwise_mergeSort (le := fun x y : Int => decide (x ≤ y)) (fun a b c h1 h2 => by simp at *; omega) (fun a b => by simp; omega) xs
  have hm : ∀ a, a ∈ xs.mergeSort (fun x y => decide (x ≤ y)) ↔ a ∈ xs := fun a => List.mem_mergeSort
  have hnd : (xs.mergeSort (fun x y => decide (x ≤ y))).Nodup := (List.mergeSort_perm xs _).nodup_iff.2 hn
  refine up_ext _ _ ?_ (lst_up S t) (fun x => ?_)
  · exact (hp.and hnd).imp (fun {a b} q => by
      obtain ⟨q1, q2⟩ := q
      have : a ≤ b := by simpa using q1
      omega)
  · rw [hm, h, mem_lst hd]
/-- What Begin answers and leaves. -/
def beN (S : St) : Int := if lstF S (fun _ => true) = [] then 1 else 0
def beS (S : St) : St := if lstF S (fun _ => true) = [] then stPut S 1 ⟨0, false, 0⟩ else S
/-- The words. -/
def encP : Option Pr → List Int
  | none => [0, 0, 0]
  | some p => [if p.zom = true then 2 else 1, IntKind.u64.wrap p.par, IntKind.u64.wrap p.st]
def encK (S : St) : Nat → List Int
  | 0 => []
  | k + 1 => encK S k ++ encP (S ((k : Int) + 1))
def encW (S : St) : List Int := encK S 8
theorem encP_len (o : Option Pr) : (encP o).length = 3 := by cases o <;> rfl
theorem encK_len (S : St) : ∀ k, (encK S k).length = 3 * k
  | 0 => rfl
  | k + 1 => by simp only [encK]; rw [List.length_append, encK_len S k, encP_len]; omega
/-- Words read. -/
def rdB (m a s : Int) : Bool := decide (m ≤ 2) && decide (a ≤ 8) && (decide (m = 2) || decide (s = 0)) && (!decide (m = 0) || decide (a = 0))
def decP (m a s : Int) : Option Pr := if m = 0 then none else some ⟨a, decide (m = 2), IntKind.i64.wrap s⟩
def wd (ws : List Int) (i : Nat) : Int := ws.getD i 0
def decS (ws : List Int) : St := fun k => if 1 ≤ k ∧ k ≤ 8 then decP (wd ws (3 * (k.toNat - 1))) (wd ws (3 * (k.toNat - 1) + 1)) (wd ws (3 * (k.toNat - 1) + 2)) else none
def rdAt (ws : List Int) (i : Nat) : Bool := rdB (wd ws (3 * i)) (wd ws (3 * i + 1)) (wd ws (3 * i + 2))
def rdK (ws : List Int) : Nat → Bool
  | 0 => true
  | k + 1 => rdK ws k && rdAt ws k
def mayB (S : St) (p : Pr) : Bool := if p.zom = true then liv S p.par else (decide (p.par = 0) || (S p.par).isSome)
def rootB (S : St) : Nat → Pr → Bool
  | 0, _ => false
  | n + 1, p => decide (p.par = 0) || hits S (rootB S n) p.par
def allB (S : St) (t : Pr → Bool) : Bool := pids.all fun k => !hits S (fun p => !t p) k
def frB (S : St) : Bool := allB S (mayB S) && allB S (rootB S 8)
def okW (ws : List Int) : Bool := decide (ws.length = 24) && (rdK ws 8 && frB (decS ws))
theorem allB_true {S : St} {t : Pr → Bool} (hd : Dom S) : allB S t = true ↔ ∀ k p, S k = some p → t p = true := by
  unfold allB
  rw [List.all_eq_true]
  constructor
  · intro h k p hk
    have := h k (mem_pids.2 (hd k p hk))
    unfold hits at this
    rw [hk] at this
    simpa using this
  · intro h k _
    unfold hits
    cases e : S k with
    | none => rfl
    | some p => simpa using h k p e
theorem dec_dom (ws : List Int) : Dom (decS ws) := by
  intro k p h
  unfold decS at h
  by_cases e : 1 ≤ k ∧ k ≤ 8
  · exact e
  · rw [if_neg e] at h; cases h
theorem decS_at (ws : List Int) {n : Nat} (hn : n < 8) : decS ws ((n : Int) + 1) = decP (wd ws (3 * n)) (wd ws (3 * n + 1)) (wd ws (3 * n + 2)) := by
  unfold decS
  rw [if_pos ⟨by omega, by omega⟩, show ((n : Int) + 1).toNat - 1 = n by omega]
def Words (ws : List Int) : Prop := ∀ x ∈ ws, 0 ≤ x ∧ x < 18446744073709551616
theorem wrap_back {x : Int} (h0 : -9223372036854775808 ≤ x) (h1 : x < 9223372036854775808) : IntKind.i64.wrap (IntKind.u64.wrap x) = x := by
  simp [IntKind.wrap, IntKind.bits, IntKind.signed]
  omega
theorem wrap_small {x : Int} (h0 : 0 ≤ x) (h1 : x ≤ 8) : IntKind.u64.wrap x = x := by
  simp [IntKind.wrap, IntKind.bits, IntKind.signed]
  omega
/-- What is kept from call to call. -/
structure Inv (S : St) : Prop where
  dom : Dom S
  par : ∀ k p, S k = some p → 0 ≤ p.par ∧ p.par ≤ 8
  stat : ∀ k p, S k = some p → (-9223372036854775808 ≤ p.st ∧ p.st < 9223372036854775808) ∧ (p.zom = false → p.st = 0)
  up : ∀ k p, S k = some p → p.par ≠ 0 → liv S p.par = true
  own : ∀ k p, S k = some p → p.zom = true → p.par ≠ 0
  ord : ∃ l : List Int, l.Nodup ∧ (∀ k, k ∈ l ↔ (S k).isSome = true) ∧ l.Pairwise (fun a b => parI S a ≠ b) ∧ ∀ k p, S k = some p → p.par ≠ k
theorem liv_is {S : St} {k : Int} : liv S k = true ↔ ∃ p, S k = some p ∧ p.zom = false := by
  unfold liv hits
  cases e : S k with
  | none => simp
  | some p => simp
theorem stPut_same (S : St) (k : Int) (p : Pr) : stPut S k p k = some p := by unfold stPut; rw [if_pos rfl]
theorem stPut_other {S : St} {k x : Int} (p : Pr) (h : x ≠ k) : stPut S k p x = S x := by unfold stPut; rw [if_neg h]
theorem Dom.put {S : St} (h : Dom S) {k : Int} (p : Pr) (h1 : 1 ≤ k) (h8 : k ≤ 8) : Dom (stPut S k p) := by
  intro x q hx
  unfold stPut at hx
  split at hx
  · omega
  · exact h x q hx
theorem len_bound : ∀ (n : Nat) (l : List Int), l.Nodup → (∀ k ∈ l, 1 ≤ k ∧ k ≤ (n : Int)) → l.length ≤ n
  | 0, l, _, h => by
    cases l with
    | nil => simp
    | cons a r => have := h a (by simp); omega
  | n + 1, l, hn, h => by
    have h1 := len_bound n (l.erase ((n : Int) + 1)) (hn.erase _) (fun k hk => by
      rw [hn.mem_erase_iff] at hk
      have := h k hk.2
      have := hk.1
      omega)
    rw [List.length_erase] at h1
    split at h1 <;> omega
theorem Inv.root {S : St} (h : Inv S) : ∀ k p, S k = some p → rootB S 8 p = true := by
  obtain ⟨l, l1, l2, l3, l4⟩ := h.ord
  have hlen : l.length ≤ 8 := len_bound 8 l l1 (fun k hk => by
    obtain ⟨p, hp⟩ := Option.isSome_iff_exists.1 ((l2 k).1 hk)
    exact h.dom k p hp)
  have key : ∀ n (a b : List Int) (k : Int) (p : Pr), a.length ≤ n → l = a ++ k :: b → S k = some p → rootB S (n + 1) p = true := by
    intro n
    induction n with
    | zero =>
      intro a b k p ha hl hk
      unfold rootB
      rw [Bool.or_eq_true]
      by_cases e : p.par = 0
      · exact Or.inl (decide_eq_true e)
      · exfalso
        have hlv := h.up k p hk e
        obtain ⟨x, hx, _⟩ := liv_is.1 hlv
        have hm : p.par ∈ l := (l2 _).2 (by rw [hx]; rfl)
        have ha0 : a = [] := List.eq_nil_of_length_eq_zero (by omega)
        subst ha0
        rw [hl] at hm l3
        rcases List.mem_cons.1 hm with e2 | hm
        · exact l4 k p hk e2
        · rw [List.nil_append, List.pairwise_cons] at l3
          have := l3.1 _ hm
          unfold parI at this
          rw [hk] at this
          exact this rfl
    | succ n ih =>
      intro a b k p ha hl hk
      unfold rootB
      rw [Bool.or_eq_true]
      by_cases e : p.par = 0
      · exact Or.inl (decide_eq_true e)
      · right
        have hlv := h.up k p hk e
        obtain ⟨x, hx, _⟩ := liv_is.1 hlv
        have hm : p.par ∈ l := (l2 _).2 (by rw [hx]; rfl)
        rw [hl] at hm
        unfold hits
        rw [hx]
        rcases List.mem_append.1 hm with hm | hm
        · obtain ⟨s, t, est⟩ := List.append_of_mem hm
          refine ih s (t ++ k :: b) p.par x ?_ ?_ hx
          · rw [est, List.length_append, List.length_cons] at ha
            omega
          · rw [hl, est]
            simp
        · exfalso
          rcases List.mem_cons.1 hm with e2 | hm
          · exact l4 k p hk e2
          · rw [hl, List.pairwise_append] at l3
            have l3' := l3.2.1
            rw [List.pairwise_cons] at l3'
            have := l3'.1 _ hm
            unfold parI at this
            rw [hk] at this
            exact this rfl
  intro k p hk
  have hm : k ∈ l := (l2 k).2 (by rw [hk]; rfl)
  obtain ⟨s, t, est⟩ := List.append_of_mem hm
  refine key 7 s t k p ?_ est hk
  rw [est, List.length_append, List.length_cons] at hlen
  omega
theorem encK_get {S : St} : ∀ {n i : Nat}, i < n → ∀ j, j < 3 → (encK S n).getD (3 * i + j) 0 = (encP (S ((i : Int) + 1))).getD j 0
  | 0, i, hi, _, _ => by omega
  | n + 1, i, hi, j, hj => by
    simp only [encK]
    rw [List.getD_eq_getElem?_getD, List.getD_eq_getElem?_getD]
    by_cases e : i = n
    · subst e
      rw [List.getElem?_append_right (by rw [encK_len]; omega), encK_len, show 3 * i + j - 3 * i = j by omega]
    · have := encK_get (S := S) (show i < n by omega) j hj
      rw [List.getD_eq_getElem?_getD, List.getD_eq_getElem?_getD] at this
      rw [List.getElem?_append_left (by rw [encK_len]; omega), this]
theorem dec_enc {S : St} (h : Inv S) : decS (encW S) = S := by
  funext k
  by_cases hk : 1 ≤ k ∧ k ≤ 8
  · obtain ⟨i, rfl⟩ : ∃ i : Nat, k = (i : Int) + 1 := ⟨(k - 1).toNat, by omega⟩
    have hi : i < 8 := by omega
    rw [decS_at _ hi]
    have g0 := encK_get (S := S) hi 0 (by omega)
    have g1 := encK_get (S := S) hi 1 (by omega)
    have g2 := encK_get (S := S) hi 2 (by omega)
    unfold wd encW
    rw [show (encK S 8).getD (3 * i) 0 = (encK S 8).getD (3 * i + 0) 0 from rfl, g0, g1, g2]
    cases e : S ((i : Int) + 1) with
    | none => rfl
    | some p =>
      obtain ⟨a, z, s⟩ := p
      have hs := (h.stat _ _ e).1
      have hp := h.par _ _ e
      show decP (if z = true then 2 else 1) (IntKind.u64.wrap a) (IntKind.u64.wrap s) = _
      unfold decP
      rw [wrap_small hp.1 hp.2, wrap_back hs.1 hs.2]
      cases z <;> rfl
  · rw [(dec_dom _).none (by omega), h.dom.none (by omega)]
theorem Inv.ok {S : St} (h : Inv S) : okW (encW S) = true := by
  have hl : (encW S).length = 24 := encK_len S 8
  unfold okW frB
  rw [dec_enc h, decide_eq_true hl, Bool.true_and, Bool.and_eq_true, Bool.and_eq_true]
  refine ⟨?_, (allB_true h.dom).2 (fun k p hk => ?_), (allB_true h.dom).2 (fun k p hk => h.root k p hk)⟩
  · have key : ∀ n, n ≤ 8 → rdK (encW S) n = true := by
      intro n
      induction n with
      | zero => intro _; rfl
      | succ n ih =>
        intro hn
        unfold rdK
        rw [ih (by omega), Bool.true_and]
        unfold rdAt
        have g0 := encK_get (S := S) (show n < 8 by omega) 0 (by omega)
        have g1 := encK_get (S := S) (show n < 8 by omega) 1 (by omega)
        have g2 := encK_get (S := S) (show n < 8 by omega) 2 (by omega)
        unfold wd encW
        rw [show (encK S 8).getD (3 * n) 0 = (encK S 8).getD (3 * n + 0) 0 from rfl, g0, g1, g2]
        cases e : S ((n : Int) + 1) with
        | none => rfl
        | some p =>
          obtain ⟨a, z, s⟩ := p
          have hs := (h.stat _ _ e).2
          have hp := h.par _ _ e
          show rdB (if z = true then 2 else 1) (IntKind.u64.wrap a) (IntKind.u64.wrap s) = true
          rw [wrap_small hp.1 hp.2]
          unfold rdB
          dsimp only at hs hp
          cases z with
          | true => simp [hp.2]
          | false =>
            rw [hs rfl]
            simp [hp.2]
            rfl
    exact key 8 (by omega)
  · unfold mayB
    by_cases hz : p.zom = true
    · rw [if_pos hz]
      exact h.up k p hk (h.own k p hk hz)
    · rw [if_neg hz]
      by_cases e : p.par = 0
      · rw [decide_eq_true e]; rfl
      · obtain ⟨x, hx, _⟩ := liv_is.1 (h.up k p hk e)
        rw [hx]
        simp
end Pc
end Go.Proofs.YtikjfdihocgfpaaGreatDoor
