/- Plain: processes by their pids; what each call answers and leaves; the words there and back; what is kept. -/
import Derived.Test.YtfcpcncafopobaaPlain
namespace Go.Proofs.Ytfcpcncafopobaa
open Go.RowKit
set_option linter.unusedVariables false

/-- A process: its parent, whether it is a zombie, its status. -/
structure Pr where
  par : Int
  zom : Bool
  st : Int
/-- Who is in use. -/
abbrev St := Int → Option Pr
def St0 : St := fun _ => none
def stPut (S : St) (k : Int) (p : Pr) : St := fun x => if x = k then some p else S x
def stDel (S : St) (k : Int) : St := fun x => if x = k then none else S x
/-- What is asked of the one at k. -/
def hits (S : St) (t : Pr → Bool) (k : Int) : Bool := match S k with | some p => t p | none => false
def liv (S : St) (k : Int) : Bool := hits S (fun p => !p.zom) k
def parI (S : St) (k : Int) : Int := match S k with | some p => p.par | none => -1
def stI (S : St) (k : Int) : Int := match S k with | some p => p.st | none => 0
def pids : List Int := [1, 2, 3, 4, 5, 6, 7, 8]
/-- The pids of which that is so, rising. -/
def lstF (S : St) (t : Pr → Bool) : List Int := pids.filter (hits S t)
def lowF (S : St) : Nat → Int → Int
  | 0, _ => -1
  | n + 1, k => if (S k).isSome = true then lowF S n (k + 1) else k
def lowI (S : St) : Int := lowF S 8 1
def Dom (S : St) : Prop := ∀ k p, S k = some p → 1 ≤ k ∧ k ≤ 8
theorem Dom.none {S : St} (h : Dom S) {k : Int} (hk : k < 1 ∨ 8 < k) : S k = none := by
  cases e : S k with
  | none => rfl
  | some p => have := h k p e; omega
theorem mem_pids {k : Int} : k ∈ pids ↔ 1 ≤ k ∧ k ≤ 8 := by
  simp only [pids, List.mem_cons, List.not_mem_nil, or_false]
  omega
theorem pids_up : pids.Pairwise (· < ·) := by unfold pids; decide
theorem lst_up (S : St) (t : Pr → Bool) : (lstF S t).Pairwise (· < ·) := pids_up.sublist List.filter_sublist
theorem lst_len (S : St) (t : Pr → Bool) : (lstF S t).length ≤ 8 := by
  have := (List.filter_sublist (p := hits S t) (l := pids)).length_le
  unfold lstF
  simpa [pids] using this
theorem mem_lst {S : St} (hd : Dom S) {t : Pr → Bool} {k : Int} : k ∈ lstF S t ↔ hits S t k = true := by
  unfold lstF
  rw [List.mem_filter, mem_pids]
  constructor
  · exact fun h => h.2
  · intro h
    refine ⟨?_, h⟩
    unfold hits at h
    cases e : S k with
    | none => rw [e] at h; cases h
    | some p => exact hd k p e
theorem up_ext : ∀ (l m : List Int), l.Pairwise (· < ·) → m.Pairwise (· < ·) → (∀ x, x ∈ l ↔ x ∈ m) → l = m
  | [], [], _, _, _ => rfl
  | [], b :: m, _, _, h => by have := (h b).2 (by simp); simp at this
  | a :: l, [], _, _, h => by have := (h a).1 (by simp); simp at this
  | a :: l, b :: m, hl, hm, h => by
    rw [List.pairwise_cons] at hl hm
    have h1 : a ∈ b :: m := (h a).1 (by simp)
    have h2 : b ∈ a :: l := (h b).2 (by simp)
    have hab : a = b := by
      rcases List.mem_cons.1 h1 with e | h1
      · exact e
      · rcases List.mem_cons.1 h2 with e | h2
        · exact e.symm
        · have := hl.1 b h2
          have := hm.1 a h1
          omega
    subst hab
    rw [up_ext l m hl.2 hm.2 (fun x => ?_)]
    have hx := h x
    constructor
    · intro hxl
      rcases List.mem_cons.1 (hx.1 (List.mem_cons_of_mem _ hxl)) with e | q
      · have := hl.1 x hxl; omega
      · exact q
    · intro hxm
      rcases List.mem_cons.1 (hx.2 (List.mem_cons_of_mem _ hxm)) with e | q
      · have := hm.1 x hxm; omega
      · exact q
/-- What was collected in any order, sorted. -/
theorem sorted_lst {S : St} (hd : Dom S) {t : Pr → Bool} {xs : List Int} (hn : xs.Nodup) (h : ∀ k, k ∈ xs ↔ hits S t k = true) : xs.mergeSort (fun x y => decide (x ≤ y)) = lstF S t := by
  have hp := List.pairwise_mergeSort (le := fun x y : Int => decide (x ≤ y)) (fun a b c h1 h2 => by simp at *; omega) (fun a b => by simp; omega) xs
  have hm : ∀ a, a ∈ xs.mergeSort (fun x y => decide (x ≤ y)) ↔ a ∈ xs := fun a => List.mem_mergeSort
  have hnd : (xs.mergeSort (fun x y => decide (x ≤ y))).Nodup := (List.mergeSort_perm xs _).nodup_iff.2 hn
  refine up_ext _ _ ?_ (lst_up S t) (fun x => ?_)
  · exact (hp.and hnd).imp (fun {a b} q => by
      obtain ⟨q1, q2⟩ := q
      have : a ≤ b := by simpa using q1
      omega)
  · rw [hm, h, mem_lst hd]
theorem lowF_is (S : St) : ∀ n k, (lowF S n k = -1 ∧ ∀ j, k ≤ j → j < k + n → (S j).isSome = true) ∨ (k ≤ lowF S n k ∧ lowF S n k < k + n ∧ S (lowF S n k) = none ∧ ∀ j, k ≤ j → j < lowF S n k → (S j).isSome = true)
  | 0, k => Or.inl ⟨rfl, fun j h1 h2 => by omega⟩
  | n + 1, k => by
    unfold lowF
    by_cases e : (S k).isSome = true
    · rw [if_pos e]
      rcases lowF_is S n (k + 1) with ⟨h1, h2⟩ | ⟨h1, h2, h3, h4⟩
      · refine Or.inl ⟨h1, fun j q1 q2 => ?_⟩
        by_cases hjk : j = k
        · rw [hjk]; exact e
        · exact h2 j (by omega) (by omega)
      · refine Or.inr ⟨by omega, by omega, h3, fun j q1 q2 => ?_⟩
        by_cases hjk : j = k
        · rw [hjk]; exact e
        · exact h4 j (by omega) q2
    · rw [if_neg e]
      refine Or.inr ⟨by omega, by omega, by simpa using e, fun j q1 q2 => by omega⟩

/-- What Begin answers and leaves. -/
def beN (S : St) : Int := if lstF S (fun _ => true) = [] then 1 else 0
def beS (S : St) : St := if lstF S (fun _ => true) = [] then stPut S 1 ⟨0, false, 0⟩ else S
/-- What Fork answers and leaves. -/
def fkE (S : St) (pid : Int) : Int := if liv S pid = true then (if lowI S = -1 then 11 else 0) else 3
def fkN (S : St) (pid : Int) : Int := if fkE S pid = 0 then lowI S else 0
def fkS (S : St) (pid : Int) : St := if fkE S pid = 0 then stPut S (lowI S) ⟨pid, false, 0⟩ else S
/-- pid's children are nobody's. -/
def orP (pid : Int) (p : Pr) : Pr := if p.par = pid then ⟨0, p.zom, p.st⟩ else p
def orph (S : St) (pid : Int) : St := fun k => (S k).map (orP pid)
/-- Zombies that are nobody's are gone. -/
def buP (p : Pr) : Option Pr := if p.zom = true ∧ p.par = 0 then none else some p
def bur (S : St) : St := fun k => (S k).bind buP
/-- What Exit answers and leaves. -/
def exE (S : St) (pid : Int) : Int := if liv S pid = true then 0 else 3
def exS (S : St) (pid st : Int) : St := if liv S pid = true then bur (orph (stPut S pid ⟨parI S pid, true, st⟩) pid) else S
/-- What Wait answers and leaves. -/
def chs (S : St) (pid : Int) : List Int := lstF S (fun p => p.par == pid)
def wtZ (S : St) (pid : Int) : Int := ((chs S pid).find? (hits S Pr.zom)).getD 0
def wtE (S : St) (pid : Int) : Int := if liv S pid = true then (if chs S pid = [] then 10 else 0) else 3
def wtN (S : St) (pid : Int) : Int := if liv S pid = true then wtZ S pid else 0
def wtT (S : St) (pid : Int) : Int := if wtN S pid = 0 then 0 else stI S (wtN S pid)
def wtB (S : St) (pid : Int) : Bool := wtN S pid != 0
def wtS (S : St) (pid : Int) : St := if wtN S pid = 0 then S else stDel S (wtN S pid)
/-- The words. -/
def encP : Option Pr → List Int
  | none => [0, 0, 0]
  | some p => [if p.zom = true then 2 else 1, IntKind.u64.wrap p.par, IntKind.u64.wrap p.st]
def encK (S : St) : Nat → List Int
  | 0 => []
  | k + 1 => encK S k ++ encP (S ((k : Int) + 1))
def encW (S : St) : List Int := encK S 8
theorem encP_len (o : Option Pr) : (encP o).length = 3 := by cases o <;> rfl
theorem encK_len (S : St) : ∀ k, (encK S k).length = 3 * k
  | 0 => rfl
  | k + 1 => by simp only [encK]; rw [List.length_append, encK_len S k, encP_len]; omega
/-- Words read. -/
def rdB (m a s : Int) : Bool := decide (m ≤ 2) && decide (a ≤ 8) && (decide (m = 2) || decide (s = 0)) && (!decide (m = 0) || decide (a = 0))
def decP (m a s : Int) : Option Pr := if m = 0 then none else some ⟨a, decide (m = 2), IntKind.i64.wrap s⟩
def wd (ws : List Int) (i : Nat) : Int := ws.getD i 0
def decS (ws : List Int) : St := fun k => if 1 ≤ k ∧ k ≤ 8 then decP (wd ws (3 * (k.toNat - 1))) (wd ws (3 * (k.toNat - 1) + 1)) (wd ws (3 * (k.toNat - 1) + 2)) else none
def decTo (ws : List Int) (n : Nat) : St := fun k => if k ≤ n then decS ws k else none
def rdAt (ws : List Int) (i : Nat) : Bool := rdB (wd ws (3 * i)) (wd ws (3 * i + 1)) (wd ws (3 * i + 2))
def rdK (ws : List Int) : Nat → Bool
  | 0 => true
  | k + 1 => rdK ws k && rdAt ws k
def mayB (S : St) (p : Pr) : Bool := if p.zom = true then liv S p.par else (decide (p.par = 0) || (S p.par).isSome)
def rootB (S : St) : Nat → Pr → Bool
  | 0, _ => false
  | n + 1, p => decide (p.par = 0) || hits S (rootB S n) p.par
def allB (S : St) (t : Pr → Bool) : Bool := pids.all fun k => !hits S (fun p => !t p) k
def frB (S : St) : Bool := allB S (mayB S) && allB S (rootB S 8)
def okW (ws : List Int) : Bool := decide (ws.length = 24) && (rdK ws 8 && frB (decS ws))
theorem allB_true {S : St} {t : Pr → Bool} (hd : Dom S) : allB S t = true ↔ ∀ k p, S k = some p → t p = true := by
  unfold allB
  rw [List.all_eq_true]
  constructor
  · intro h k p hk
    have := h k (mem_pids.2 (hd k p hk))
    unfold hits at this
    rw [hk] at this
    simpa using this
  · intro h k _
    unfold hits
    cases e : S k with
    | none => rfl
    | some p => simpa using h k p e
theorem allB_false {S : St} {t : Pr → Bool} (hd : Dom S) {k : Int} {p : Pr} (hk : S k = some p) (h : t p = false) : allB S t = false := by
  cases e : allB S t with
  | false => rfl
  | true =>
    rw [(allB_true hd).1 e k p hk] at h
    cases h
theorem dec_dom (ws : List Int) : Dom (decS ws) := by
  intro k p h
  unfold decS at h
  by_cases e : 1 ≤ k ∧ k ≤ 8
  · exact e
  · rw [if_neg e] at h; cases h
theorem decTo_dom (ws : List Int) (n : Nat) : Dom (decTo ws n) := by
  intro k p h
  unfold decTo at h
  split at h
  · exact dec_dom ws k p h
  · cases h
theorem decTo_0 (ws : List Int) : decTo ws 0 = St0 := by
  funext k
  unfold decTo St0
  split
  · exact (dec_dom ws).none (by omega)
  · rfl
theorem decTo_8 (ws : List Int) : decTo ws 8 = decS ws := by
  funext k
  unfold decTo
  split
  · rfl
  · exact ((dec_dom ws).none (by omega)).symm
theorem decS_at (ws : List Int) {n : Nat} (hn : n < 8) : decS ws ((n : Int) + 1) = decP (wd ws (3 * n)) (wd ws (3 * n + 1)) (wd ws (3 * n + 2)) := by
  unfold decS
  rw [if_pos ⟨by omega, by omega⟩, show ((n : Int) + 1).toNat - 1 = n by omega]
theorem decTo_none (ws : List Int) {n : Nat} (hn : n < 8) (h : decS ws ((n : Int) + 1) = none) : decTo ws (n + 1) = decTo ws n := by
  funext k
  unfold decTo
  by_cases e : k ≤ (n : Int)
  · rw [if_pos (by omega), if_pos e]
  · by_cases e2 : k = (n : Int) + 1
    · rw [e2, if_pos (by omega), if_neg (by omega), h]
    · rw [if_neg (by omega), if_neg e]
theorem decTo_some (ws : List Int) {n : Nat} (hn : n < 8) {p : Pr} (h : decS ws ((n : Int) + 1) = some p) : decTo ws (n + 1) = stPut (decTo ws n) ((n : Int) + 1) p := by
  funext k
  unfold decTo stPut
  dsimp only
  by_cases e2 : k = (n : Int) + 1
  · rw [e2, if_pos (by omega), if_pos rfl, h]
  · rw [if_neg e2]
    by_cases e : k ≤ (n : Int)
    · rw [if_pos (by omega), if_pos e]
    · rw [if_neg (by omega), if_neg e]
theorem decTo_new (ws : List Int) (n : Nat) : decTo ws n ((n : Int) + 1) = none := by
  unfold decTo
  rw [if_neg (by omega)]

def Words (ws : List Int) : Prop := ∀ x ∈ ws, 0 ≤ x ∧ x < 18446744073709551616
theorem wd_word {ws : List Int} (h : Words ws) (i : Nat) : 0 ≤ wd ws i ∧ wd ws i < 18446744073709551616 := by
  unfold wd
  rw [List.getD_eq_getElem?_getD]
  cases e : ws[i]? with
  | none => exact ⟨by decide, by decide⟩
  | some x => exact h x (List.mem_of_getElem? e)
theorem wrap_there {x : Int} (h0 : 0 ≤ x) (h1 : x < 18446744073709551616) : IntKind.u64.wrap (IntKind.i64.wrap x) = x := by
  simp [IntKind.wrap, IntKind.bits, IntKind.signed]
  omega
theorem wrap_back {x : Int} (h0 : -9223372036854775808 ≤ x) (h1 : x < 9223372036854775808) : IntKind.i64.wrap (IntKind.u64.wrap x) = x := by
  simp [IntKind.wrap, IntKind.bits, IntKind.signed]
  omega
theorem wrap_small {x : Int} (h0 : 0 ≤ x) (h1 : x ≤ 8) : IntKind.u64.wrap x = x := by
  simp [IntKind.wrap, IntKind.bits, IntKind.signed]
  omega
theorem rdB_is {m a s : Int} (h : rdB m a s = true) : m ≤ 2 ∧ a ≤ 8 ∧ (m = 2 ∨ s = 0) ∧ (m = 0 → a = 0) := by
  unfold rdB at h
  simp only [Bool.and_eq_true, Bool.or_eq_true, decide_eq_true_eq, Bool.not_eq_true', decide_eq_false_iff_not] at h
  obtain ⟨⟨⟨h1, h2⟩, h3⟩, h4⟩ := h
  exact ⟨h1, h2, h3, fun e => h4.resolve_left (fun x => x e)⟩
theorem enc_decP {m a s : Int} (hm : 0 ≤ m) (ha : 0 ≤ a) (hs : 0 ≤ s) (hs2 : s < 18446744073709551616) (h : rdB m a s = true) : encP (decP m a s) = [m, a, s] := by
  obtain ⟨h1, h2, h3, h4⟩ := rdB_is h
  unfold decP
  by_cases e : m = 0
  · rw [if_pos e]
    have : s = 0 := h3.resolve_left (by omega)
    rw [h4 e, this, e]
    rfl
  · rw [if_neg e]
    unfold encP
    dsimp only
    rw [wrap_small ha h2, wrap_there hs hs2]
    by_cases e2 : m = 2
    · rw [e2]; rfl
    · rw [if_neg (by simpa using e2), show m = 1 by omega]
theorem rdK_at {ws : List Int} : ∀ {n i : Nat}, rdK ws n = true → i < n → rdAt ws i = true
  | 0, i, _, hi => by omega
  | n + 1, i, h, hi => by
    unfold rdK at h
    rw [Bool.and_eq_true] at h
    by_cases e : i = n
    · rw [e]; exact h.2
    · exact rdK_at h.1 (by omega)
theorem enc_dec {ws : List Int} (hw : Words ws) (hl : ws.length = 24) (h : rdK ws 8 = true) : encW (decS ws) = ws := by
  have key : ∀ k, k ≤ 8 → encK (decS ws) k = ws.take (3 * k) := by
    intro k
    induction k with
    | zero => intro _; rfl
    | succ k ih =>
      intro hk
      simp only [encK]
      rw [ih (by omega), decS_at ws (by omega), enc_decP (wd_word hw _).1 (wd_word hw _).1 (wd_word hw _).1 (wd_word hw _).2 (rdK_at h (by omega))]
      apply List.ext_getElem?
      intro i
      have gd : ∀ j, j < 24 → ws[j]? = some (wd ws j) := fun j hj => by
        unfold wd
        rw [List.getD_eq_getElem?_getD, List.getElem?_eq_getElem (by omega)]
        rfl
      by_cases h1 : i < 3 * k
      · rw [List.getElem?_append_left (by rw [List.length_take]; omega), List.getElem?_take_of_lt h1, List.getElem?_take_of_lt (by omega)]
      · have ht : (ws.take (3 * k)).length = 3 * k := by rw [List.length_take]; omega
        rw [List.getElem?_append_right (by omega), ht]
        by_cases h2 : i < 3 * (k + 1)
        · rw [List.getElem?_take_of_lt h2, gd i (by omega)]
          rcases (by omega : i = 3 * k ∨ i = 3 * k + 1 ∨ i = 3 * k + 2) with e | e | e
          · rw [show i - 3 * k = 0 by omega, e]; rfl
          · rw [show i - 3 * k = 1 by omega, e]; rfl
          · rw [show i - 3 * k = 2 by omega, e]; rfl
        · rw [List.getElem?_eq_none (by simp; omega), List.getElem?_eq_none (by simp; omega)]
  unfold encW
  rw [key 8 (by omega), List.take_of_length_le (by omega)]

/-- What is kept from call to call. -/
structure Inv (S : St) : Prop where
  dom : Dom S
  par : ∀ k p, S k = some p → 0 ≤ p.par ∧ p.par ≤ 8
  stat : ∀ k p, S k = some p → (-9223372036854775808 ≤ p.st ∧ p.st < 9223372036854775808) ∧ (p.zom = false → p.st = 0)
  up : ∀ k p, S k = some p → p.par ≠ 0 → liv S p.par = true
  own : ∀ k p, S k = some p → p.zom = true → p.par ≠ 0
  ord : ∃ l : List Int, l.Nodup ∧ (∀ k, k ∈ l ↔ (S k).isSome = true) ∧ l.Pairwise (fun a b => parI S a ≠ b) ∧ ∀ k p, S k = some p → p.par ≠ k
theorem liv_is {S : St} {k : Int} : liv S k = true ↔ ∃ p, S k = some p ∧ p.zom = false := by
  unfold liv hits
  cases e : S k with
  | none => simp
  | some p => simp
theorem inv_0 : Inv St0 :=
  ⟨fun k p h => (by cases h), fun k p h => (by cases h), fun k p h => (by cases h), fun k p h => (by cases h), fun k p h => (by cases h), [], by simp, fun k => (by simp [St0]), by simp, fun k p h => (by cases h)⟩
theorem stPut_same (S : St) (k : Int) (p : Pr) : stPut S k p k = some p := by unfold stPut; rw [if_pos rfl]
theorem stPut_other {S : St} {k x : Int} (p : Pr) (h : x ≠ k) : stPut S k p x = S x := by unfold stPut; rw [if_neg h]
theorem Dom.put {S : St} (h : Dom S) {k : Int} (p : Pr) (h1 : 1 ≤ k) (h8 : k ≤ 8) : Dom (stPut S k p) := by
  intro x q hx
  unfold stPut at hx
  split at hx
  · omega
  · exact h x q hx
theorem Dom.del {S : St} (h : Dom S) (k : Int) : Dom (stDel S k) := by
  intro x q hx
  unfold stDel at hx
  split at hx
  · cases hx
  · exact h x q hx
theorem Dom.orph {S : St} (h : Dom S) (k : Int) : Dom (orph S k) := by
  intro x q hx
  unfold Go.Proofs.Ytfcpcncafopobaa.orph at hx
  obtain ⟨p, hp, _⟩ := Option.map_eq_some_iff.1 hx
  exact h x p hp
theorem Dom.bur {S : St} (h : Dom S) : Dom (bur S) := by
  intro x q hx
  unfold Go.Proofs.Ytfcpcncafopobaa.bur at hx
  obtain ⟨p, hp, _⟩ := Option.bind_eq_some_iff.1 hx
  exact h x p hp
theorem low_is (S : St) : (lowI S = -1 ∧ ∀ j, 1 ≤ j → j ≤ 8 → (S j).isSome = true) ∨ (1 ≤ lowI S ∧ lowI S ≤ 8 ∧ S (lowI S) = none) := by
  rcases lowF_is S 8 1 with ⟨h1, h2⟩ | ⟨h1, h2, h3, _⟩
  · exact Or.inl ⟨h1, fun j q1 q2 => h2 j q1 (by omega)⟩
  · exact Or.inr ⟨h1, by unfold lowI; omega, h3⟩
theorem Inv.put {S : St} (h : Inv S) {c pid : Int} (hc : S c = none) (h1 : 1 ≤ c) (h8 : c ≤ 8) (hp : pid = 0 ∨ liv S pid = true) : Inv (stPut S c ⟨pid, false, 0⟩) := by
  have hpr : 0 ≤ pid ∧ pid ≤ 8 ∧ pid ≠ c := by
    rcases hp with rfl | hp
    · omega
    · obtain ⟨p, hp1, hp2⟩ := liv_is.1 hp
      have := h.dom pid p hp1
      refine ⟨by omega, by omega, fun e => ?_⟩
      rw [e, hc] at hp1
      cases hp1
  have hat : ∀ k p, stPut S c ⟨pid, false, 0⟩ k = some p → (k = c ∧ p = ⟨pid, false, 0⟩) ∨ (k ≠ c ∧ S k = some p) := by
    intro k p hk
    by_cases e : k = c
    · subst e
      rw [stPut_same] at hk
      cases hk
      exact Or.inl ⟨rfl, rfl⟩
    · rw [stPut_other _ e] at hk
      exact Or.inr ⟨e, hk⟩
  have hlv : ∀ k, liv S k = true → liv (stPut S c ⟨pid, false, 0⟩) k = true := by
    intro k hk
    obtain ⟨p, hp1, hp2⟩ := liv_is.1 hk
    refine liv_is.2 ⟨p, ?_, hp2⟩
    rw [stPut_other _ (fun e => by rw [e, hc] at hp1; cases hp1)]
    exact hp1
  refine ⟨h.dom.put _ h1 h8, ?_, ?_, ?_, ?_, ?_⟩
  · intro k p hk
    rcases hat k p hk with ⟨rfl, rfl⟩ | ⟨_, hk⟩
    · exact ⟨hpr.1, hpr.2.1⟩
    · exact h.par k p hk
  · intro k p hk
    rcases hat k p hk with ⟨rfl, rfl⟩ | ⟨_, hk⟩
    · exact ⟨⟨by show _ ≤ (0 : Int); omega, by show (0 : Int) < _; omega⟩, fun _ => rfl⟩
    · exact h.stat k p hk
  · intro k p hk hne
    rcases hat k p hk with ⟨rfl, rfl⟩ | ⟨_, hk⟩
    · exact hlv pid (hp.resolve_left hne)
    · exact hlv _ (h.up k p hk hne)
  · intro k p hk hz
    rcases hat k p hk with ⟨rfl, rfl⟩ | ⟨_, hk⟩
    · cases hz
    · exact h.own k p hk hz
  · obtain ⟨l, l1, l2, l3, l4⟩ := h.ord
    have hcl : c ∉ l := fun q => by have := (l2 c).1 q; rw [hc] at this; cases this
    refine ⟨l ++ [c], ?_, ?_, ?_, ?_⟩
    · rw [List.nodup_append]
      exact ⟨l1, by simp, fun a ha b hb e => by simp at hb; rw [e, hb] at ha; exact hcl ha⟩
    · intro k
      rw [List.mem_append, List.mem_singleton, l2 k]
      by_cases e : k = c
      · subst e; rw [stPut_same]; simp
      · rw [stPut_other _ e]; simp [e]
    · rw [List.pairwise_append]
      refine ⟨?_, by simp, ?_⟩
      · refine l3.imp_of_mem (fun {a b} ha hb q => ?_)
        unfold parI
        rw [stPut_other _ (fun e => hcl (by rw [← e]; exact ha))]
        exact q
      · intro a ha b hb
        rw [List.mem_singleton] at hb
        subst hb
        have hs := (l2 a).1 ha
        obtain ⟨p, hpp⟩ := Option.isSome_iff_exists.1 hs
        unfold parI
        rw [stPut_other _ (fun e => by rw [e, hc] at hpp; cases hpp), hpp]
        intro e
        have e' : p.par = b := e
        have := h.up a p hpp (by omega)
        rw [e'] at this
        obtain ⟨q, hq, _⟩ := liv_is.1 this
        rw [hc] at hq
        cases hq
    · intro k p hk
      rcases hat k p hk with ⟨rfl, rfl⟩ | ⟨_, hk⟩
      · exact hpr.2.2
      · exact l4 k p hk
theorem Inv.begin {S : St} (h : Inv S) : Inv (beS S) := by
  unfold beS
  split
  · rename_i e
    refine h.put ?_ (by omega) (by omega) (Or.inl rfl)
    cases e1 : S 1 with
    | none => rfl
    | some p =>
      have : (1 : Int) ∈ lstF S (fun _ => true) := (mem_lst h.dom).2 (by unfold hits; rw [e1])
      rw [e] at this
      simp at this
  · exact h
theorem Inv.fork {S : St} (h : Inv S) (pid : Int) : Inv (fkS S pid) := by
  unfold fkS fkE
  by_cases hl : liv S pid = true
  · rw [if_pos hl]
    rcases low_is S with ⟨e, _⟩ | ⟨h1, h2, h3⟩
    · rw [if_pos e, if_neg (by decide)]; exact h
    · have e : ¬ lowI S = -1 := by omega
      rw [if_neg e, if_pos rfl]
      exact h.put h3 h1 h2 (Or.inr hl)
  · rw [if_neg hl, if_neg (by decide)]; exact h
theorem Inv.exit {S : St} (h : Inv S) (pid st : Int) (hs : -9223372036854775808 ≤ st ∧ st < 9223372036854775808) : Inv (exS S pid st) := by
  unfold exS
  by_cases hl : liv S pid = true
  · rw [if_pos hl]
    obtain ⟨p0, hp0, hz0⟩ := liv_is.1 hl
    have hpar : parI S pid = p0.par := by unfold parI; rw [hp0]
    rw [hpar]
    -- who is left, and what became of him
    have hat : ∀ k p, bur (orph (stPut S pid ⟨p0.par, true, st⟩) pid) k = some p → (k = pid ∧ p = ⟨p0.par, true, st⟩ ∧ p0.par ≠ 0) ∨ (k ≠ pid ∧ ∃ q, S k = some q ∧ p = orP pid q ∧ (p.zom = true → p.par ≠ 0)) := by
      intro k p hk
      unfold bur at hk
      obtain ⟨q, hq, hb⟩ := Option.bind_eq_some_iff.1 hk
      unfold orph at hq
      obtain ⟨r, hr, hor⟩ := Option.map_eq_some_iff.1 hq
      have hqp : q = p ∧ ¬ (q.zom = true ∧ q.par = 0) := by
        unfold buP at hb
        split at hb
        · cases hb
        · rename_i e; cases hb; exact ⟨rfl, e⟩
      obtain ⟨rfl, hnz⟩ := hqp
      by_cases e : k = pid
      · subst e
        rw [stPut_same] at hr
        cases hr
        have hself : p0.par ≠ k := by
          obtain ⟨l, _, _, _, l4⟩ := h.ord
          exact l4 k p0 hp0
        have : orP k ⟨p0.par, true, st⟩ = ⟨p0.par, true, st⟩ := by unfold orP; rw [if_neg hself]
        rw [this] at hor
        subst hor
        exact Or.inl ⟨rfl, rfl, fun x => hnz ⟨rfl, x⟩⟩
      · rw [stPut_other _ e] at hr
        exact Or.inr ⟨e, r, hr, hor.symm, fun hz hp => hnz ⟨hz, hp⟩⟩
    have hback : ∀ k q, k ≠ pid → S k = some q → ¬ ((orP pid q).zom = true ∧ (orP pid q).par = 0) → bur (orph (stPut S pid ⟨p0.par, true, st⟩) pid) k = some (orP pid q) := by
      intro k q hk hq hn
      unfold bur orph
      rw [stPut_other _ hk, hq]
      show buP (orP pid q) = _
      unfold buP
      rw [if_neg hn]
    have orz : ∀ q : Pr, (orP pid q).zom = q.zom ∧ (orP pid q).st = q.st := by
      intro q
      unfold orP
      split <;> exact ⟨rfl, rfl⟩
    have orp : ∀ q : Pr, (q.par = pid ∧ (orP pid q).par = 0) ∨ (q.par ≠ pid ∧ (orP pid q).par = q.par) := by
      intro q
      unfold orP
      split
      · rename_i e; exact Or.inl ⟨e, rfl⟩
      · rename_i e; exact Or.inr ⟨e, rfl⟩
    have hlv : ∀ k, k ≠ pid → liv S k = true → liv (bur (orph (stPut S pid ⟨p0.par, true, st⟩) pid)) k = true := by
      intro k hk hlk
      obtain ⟨q, hq, hz⟩ := liv_is.1 hlk
      have hz2 : (orP pid q).zom = false := by rw [(orz q).1]; exact hz
      exact liv_is.2 ⟨orP pid q, hback k q hk hq (fun x => by rw [hz2] at x; cases x.1), hz2⟩
    refine ⟨((h.dom.put _ (h.dom pid p0 hp0).1 (h.dom pid p0 hp0).2).orph pid).bur, ?_, ?_, ?_, ?_, ?_⟩
    · intro k p hk
      rcases hat k p hk with ⟨rfl, rfl, _⟩ | ⟨_, q, hq, rfl, _⟩
      · exact h.par k p0 hp0
      · have := h.par k q hq
        rcases orp q with ⟨_, e⟩ | ⟨_, e⟩
        · rw [e]; omega
        · rw [e]; exact this
    · intro k p hk
      rcases hat k p hk with ⟨rfl, rfl, _⟩ | ⟨_, q, hq, rfl, _⟩
      · exact ⟨hs, fun x => by cases x⟩
      · rw [(orz q).1, (orz q).2]
        exact h.stat k q hq
    · intro k p hk hne
      rcases hat k p hk with ⟨rfl, rfl, _⟩ | ⟨_, q, hq, rfl, _⟩
      · have hself : p0.par ≠ k := by
          obtain ⟨l, _, _, _, l4⟩ := h.ord
          exact l4 k p0 hp0
        exact hlv _ hself (h.up k p0 hp0 hne)
      · rcases orp q with ⟨_, e⟩ | ⟨e1, e⟩
        · exact absurd e hne
        · rw [e] at hne ⊢
          exact hlv _ e1 (h.up k q hq hne)
    · intro k p hk hz
      rcases hat k p hk with ⟨rfl, rfl, hn⟩ | ⟨_, q, hq, rfl, hn⟩
      · exact hn
      · exact hn hz
    · obtain ⟨l, l1, l2, l3, l4⟩ := h.ord
      refine ⟨l.filter (fun k => (bur (orph (stPut S pid ⟨p0.par, true, st⟩) pid) k).isSome), ?_, ?_, ?_, ?_⟩
      · exact List.filter_sublist.nodup l1
      · intro k
        rw [List.mem_filter]
        constructor
        · exact fun x => x.2
        · intro hk
          refine ⟨(l2 k).2 ?_, hk⟩
          obtain ⟨p, hp⟩ := Option.isSome_iff_exists.1 hk
          rcases hat k p hp with ⟨rfl, _, _⟩ | ⟨_, q, hq, _, _⟩
          · rw [hp0]; rfl
          · rw [hq]; rfl
      · refine (l3.sublist List.filter_sublist).imp_of_mem (fun {a b} ha hb q => ?_)
        obtain ⟨ha1, ha2⟩ := List.mem_filter.1 ha
        obtain ⟨hb1, _⟩ := List.mem_filter.1 hb
        obtain ⟨pb, hpb⟩ := Option.isSome_iff_exists.1 ((l2 b).1 hb1)
        have hb0 := h.dom b pb hpb
        obtain ⟨p, hp⟩ := Option.isSome_iff_exists.1 ha2
        unfold parI
        rw [hp]
        show p.par ≠ b
        rcases hat a p hp with ⟨rfl, rfl, _⟩ | ⟨_, r, hr, rfl, _⟩
        · unfold parI at q
          rw [hp0] at q
          exact q
        · unfold parI at q
          rw [hr] at q
          have q' : r.par ≠ b := q
          rcases orp r with ⟨_, e⟩ | ⟨_, e⟩
          · omega
          · rw [e]; exact q'
      · intro k p hk
        rcases hat k p hk with ⟨rfl, rfl, _⟩ | ⟨_, q, hq, rfl, _⟩
        · exact l4 k p0 hp0
        · have hd := h.dom k q hq
          rcases orp q with ⟨_, e⟩ | ⟨_, e⟩
          · omega
          · rw [e]; exact l4 k q hq
  · rw [if_neg hl]; exact h
theorem find_some {S : St} (hd : Dom S) {pid : Int} (h : wtZ S pid ≠ 0) : ∃ p, S (wtZ S pid) = some p ∧ p.zom = true ∧ p.par = pid := by
  unfold wtZ at h ⊢
  cases e : (chs S pid).find? (hits S Pr.zom) with
  | none => rw [e] at h; exact absurd rfl h
  | some k =>
    have h1 := List.mem_of_find?_eq_some e
    have h2 := List.find?_some e
    show ∃ p, S k = some p ∧ p.zom = true ∧ p.par = pid
    have h3 := (mem_lst hd).1 h1
    unfold hits at h2 h3
    cases hk : S k with
    | none => rw [hk] at h2; cases h2
    | some p =>
      rw [hk] at h2 h3
      exact ⟨p, rfl, h2, by simpa using h3⟩
theorem Inv.wait {S : St} (h : Inv S) (pid : Int) : Inv (wtS S pid) := by
  unfold wtS
  by_cases e0 : wtN S pid = 0
  · rw [if_pos e0]; exact h
  · rw [if_neg e0]
    have hz : ∃ p, S (wtN S pid) = some p ∧ p.zom = true := by
      unfold wtN at e0 ⊢
      by_cases hl : liv S pid = true
      · rw [if_pos hl] at e0 ⊢
        obtain ⟨p, h1, h2, _⟩ := find_some h.dom e0
        exact ⟨p, h1, h2⟩
      · rw [if_neg hl] at e0; exact absurd rfl e0
    generalize wtN S pid = c at *
    obtain ⟨pc, hpc, hzc⟩ := hz
    have hat : ∀ k p, stDel S c k = some p → k ≠ c ∧ S k = some p := by
      intro k p hk
      unfold stDel at hk
      split at hk
      · cases hk
      · rename_i e; exact ⟨e, hk⟩
    have hlv : ∀ k, liv S k = true → liv (stDel S c) k = true := by
      intro k hk
      obtain ⟨p, hp1, hp2⟩ := liv_is.1 hk
      refine liv_is.2 ⟨p, ?_, hp2⟩
      unfold stDel
      rw [if_neg (fun e => by rw [e, hpc] at hp1; cases hp1; rw [hzc] at hp2; cases hp2)]
      exact hp1
    refine ⟨h.dom.del c, fun k p hk => h.par k p (hat k p hk).2, fun k p hk => h.stat k p (hat k p hk).2, fun k p hk hne => hlv _ (h.up k p (hat k p hk).2 hne), fun k p hk => h.own k p (hat k p hk).2, ?_⟩
    obtain ⟨l, l1, l2, l3, l4⟩ := h.ord
    refine ⟨l.filter (fun k => (stDel S c k).isSome), List.filter_sublist.nodup l1, ?_, ?_, fun k p hk => l4 k p (hat k p hk).2⟩
    · intro k
      rw [List.mem_filter]
      constructor
      · exact fun x => x.2
      · intro hk
        obtain ⟨p, hp⟩ := Option.isSome_iff_exists.1 hk
        exact ⟨(l2 k).2 (by rw [(hat k p hp).2]; rfl), hk⟩
    · refine (l3.sublist List.filter_sublist).imp_of_mem (fun {a b} ha hb q => ?_)
      obtain ⟨_, ha2⟩ := List.mem_filter.1 ha
      obtain ⟨p, hp⟩ := Option.isSome_iff_exists.1 ha2
      unfold parI at q ⊢
      rw [(hat a p hp).2] at q
      rw [hp]
      exact q

theorem len_bound : ∀ (n : Nat) (l : List Int), l.Nodup → (∀ k ∈ l, 1 ≤ k ∧ k ≤ (n : Int)) → l.length ≤ n
  | 0, l, _, h => by
    cases l with
    | nil => simp
    | cons a r => have := h a (by simp); omega
  | n + 1, l, hn, h => by
    have h1 := len_bound n (l.erase ((n : Int) + 1)) (hn.erase _) (fun k hk => by
      rw [hn.mem_erase_iff] at hk
      have := h k hk.2
      have := hk.1
      omega)
    rw [List.length_erase] at h1
    split at h1 <;> omega
theorem rootB_mono {S : St} : ∀ {n m : Nat} {p : Pr}, n ≤ m → rootB S n p = true → rootB S m p = true
  | 0, _, _, _, h => by cases h
  | n + 1, 0, _, hm, _ => by omega
  | n + 1, m + 1, p, hm, h => by
    unfold rootB at h ⊢
    rw [Bool.or_eq_true] at h ⊢
    rcases h with h | h
    · exact Or.inl h
    · refine Or.inr ?_
      unfold hits at h ⊢
      cases e : S p.par with
      | none => rw [e] at h; cases h
      | some x =>
        rw [e] at h
        exact rootB_mono (by omega) h
theorem Inv.root {S : St} (h : Inv S) : ∀ k p, S k = some p → rootB S 8 p = true := by
  obtain ⟨l, l1, l2, l3, l4⟩ := h.ord
  have hlen : l.length ≤ 8 := len_bound 8 l l1 (fun k hk => by
    obtain ⟨p, hp⟩ := Option.isSome_iff_exists.1 ((l2 k).1 hk)
    exact h.dom k p hp)
  have key : ∀ n (a b : List Int) (k : Int) (p : Pr), a.length ≤ n → l = a ++ k :: b → S k = some p → rootB S (n + 1) p = true := by
    intro n
    induction n with
    | zero =>
      intro a b k p ha hl hk
      unfold rootB
      rw [Bool.or_eq_true]
      by_cases e : p.par = 0
      · exact Or.inl (decide_eq_true e)
      · exfalso
        have hlv := h.up k p hk e
        obtain ⟨x, hx, _⟩ := liv_is.1 hlv
        have hm : p.par ∈ l := (l2 _).2 (by rw [hx]; rfl)
        have ha0 : a = [] := List.eq_nil_of_length_eq_zero (by omega)
        subst ha0
        rw [hl] at hm l3
        rcases List.mem_cons.1 hm with e2 | hm
        · exact l4 k p hk e2
        · rw [List.nil_append, List.pairwise_cons] at l3
          have := l3.1 _ hm
          unfold parI at this
          rw [hk] at this
          exact this rfl
    | succ n ih =>
      intro a b k p ha hl hk
      unfold rootB
      rw [Bool.or_eq_true]
      by_cases e : p.par = 0
      · exact Or.inl (decide_eq_true e)
      · right
        have hlv := h.up k p hk e
        obtain ⟨x, hx, _⟩ := liv_is.1 hlv
        have hm : p.par ∈ l := (l2 _).2 (by rw [hx]; rfl)
        rw [hl] at hm
        unfold hits
        rw [hx]
        rcases List.mem_append.1 hm with hm | hm
        · obtain ⟨s, t, est⟩ := List.append_of_mem hm
          refine ih s (t ++ k :: b) p.par x ?_ ?_ hx
          · rw [est, List.length_append, List.length_cons] at ha
            omega
          · rw [hl, est]
            simp
        · exfalso
          rcases List.mem_cons.1 hm with e2 | hm
          · exact l4 k p hk e2
          · rw [hl, List.pairwise_append] at l3
            have l3' := l3.2.1
            rw [List.pairwise_cons] at l3'
            have := l3'.1 _ hm
            unfold parI at this
            rw [hk] at this
            exact this rfl
  intro k p hk
  have hm : k ∈ l := (l2 k).2 (by rw [hk]; rfl)
  obtain ⟨s, t, est⟩ := List.append_of_mem hm
  refine key 7 s t k p ?_ est hk
  rw [est, List.length_append, List.length_cons] at hlen
  omega
theorem encK_get {S : St} : ∀ {n i : Nat}, i < n → ∀ j, j < 3 → (encK S n).getD (3 * i + j) 0 = (encP (S ((i : Int) + 1))).getD j 0
  | 0, i, hi, _, _ => by omega
  | n + 1, i, hi, j, hj => by
    simp only [encK]
    rw [List.getD_eq_getElem?_getD, List.getD_eq_getElem?_getD]
    by_cases e : i = n
    · subst e
      rw [List.getElem?_append_right (by rw [encK_len]; omega), encK_len, show 3 * i + j - 3 * i = j by omega]
    · have := encK_get (S := S) (show i < n by omega) j hj
      rw [List.getD_eq_getElem?_getD, List.getD_eq_getElem?_getD] at this
      rw [List.getElem?_append_left (by rw [encK_len]; omega), this]
theorem dec_enc {S : St} (h : Inv S) : decS (encW S) = S := by
  funext k
  by_cases hk : 1 ≤ k ∧ k ≤ 8
  · obtain ⟨i, rfl⟩ : ∃ i : Nat, k = (i : Int) + 1 := ⟨(k - 1).toNat, by omega⟩
    have hi : i < 8 := by omega
    rw [decS_at _ hi]
    have g0 := encK_get (S := S) hi 0 (by omega)
    have g1 := encK_get (S := S) hi 1 (by omega)
    have g2 := encK_get (S := S) hi 2 (by omega)
    unfold wd encW
    rw [show (encK S 8).getD (3 * i) 0 = (encK S 8).getD (3 * i + 0) 0 from rfl, g0, g1, g2]
    cases e : S ((i : Int) + 1) with
    | none => rfl
    | some p =>
      obtain ⟨a, z, s⟩ := p
      have hs := (h.stat _ _ e).1
      have hp := h.par _ _ e
      show decP (if z = true then 2 else 1) (IntKind.u64.wrap a) (IntKind.u64.wrap s) = _
      unfold decP
      rw [wrap_small hp.1 hp.2, wrap_back hs.1 hs.2]
      cases z <;> rfl
  · rw [(dec_dom _).none (by omega), h.dom.none (by omega)]
theorem Inv.ok {S : St} (h : Inv S) : okW (encW S) = true := by
  have hl : (encW S).length = 24 := encK_len S 8
  unfold okW frB
  rw [dec_enc h, decide_eq_true hl, Bool.true_and, Bool.and_eq_true, Bool.and_eq_true]
  refine ⟨?_, (allB_true h.dom).2 (fun k p hk => ?_), (allB_true h.dom).2 (fun k p hk => h.root k p hk)⟩
  · have key : ∀ n, n ≤ 8 → rdK (encW S) n = true := by
      intro n
      induction n with
      | zero => intro _; rfl
      | succ n ih =>
        intro hn
        unfold rdK
        rw [ih (by omega), Bool.true_and]
        unfold rdAt
        have g0 := encK_get (S := S) (show n < 8 by omega) 0 (by omega)
        have g1 := encK_get (S := S) (show n < 8 by omega) 1 (by omega)
        have g2 := encK_get (S := S) (show n < 8 by omega) 2 (by omega)
        unfold wd encW
        rw [show (encK S 8).getD (3 * n) 0 = (encK S 8).getD (3 * n + 0) 0 from rfl, g0, g1, g2]
        cases e : S ((n : Int) + 1) with
        | none => rfl
        | some p =>
          obtain ⟨a, z, s⟩ := p
          have hs := (h.stat _ _ e).2
          have hp := h.par _ _ e
          show rdB (if z = true then 2 else 1) (IntKind.u64.wrap a) (IntKind.u64.wrap s) = true
          rw [wrap_small hp.1 hp.2]
          unfold rdB
          dsimp only at hs hp
          cases z with
          | true => simp [hp.2]
          | false =>
            rw [hs rfl]
            simp [hp.2]
            rfl
    exact key 8 (by omega)
  · unfold mayB
    by_cases hz : p.zom = true
    · rw [if_pos hz]
      exact h.up k p hk (h.own k p hk hz)
    · rw [if_neg hz]
      by_cases e : p.par = 0
      · rw [decide_eq_true e]; rfl
      · obtain ⟨x, hx, _⟩ := liv_is.1 (h.up k p hk e)
        rw [hx]
        simp
end Go.Proofs.Ytfcpcncafopobaa
