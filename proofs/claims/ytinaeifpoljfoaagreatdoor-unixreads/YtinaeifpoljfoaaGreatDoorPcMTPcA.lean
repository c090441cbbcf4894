import Derived.Test.YtinaeifpoljfoaaGreatDoorOwnR
import Derived.Test.YtinaeifpoljfoaaGreatDoorPcP
import Derived.Deep.DeepCutAuto
set_option linter.all false
set_option maxRecDepth 100000
set_option maxHeartbeats 16000000
namespace Go.Proofs.YtinaeifpoljfoaaGreatDoor
open Go.RowKit
namespace Ow
end Ow
namespace Pc
open Ow
structure Pr where
 par : Int
 zom : Bool
 st : Int
abbrev St := Int → Option Pr
def St0 : St := fun _ => none
def stPut (S : St) (k : Int) (p : Pr) : St := fun x => if x = k then some p else S x
def hits (S : St) (t : Pr → Bool) (k : Int) : Bool := match S k with | some p => t p | none => false
def liv (S : St) (k : Int) : Bool := hits S (fun p => !p.zom) k
def parI (S : St) (k : Int) : Int := match S k with | some p => p.par | none => -1
def pids : List Int := [1, 2, 3, 4, 5, 6, 7, 8]
def lstF (S : St) (t : Pr → Bool) : List Int := pids.filter (hits S t)
def Dom (S : St) : Prop := ∀ k p, S k = some p → 1 ≤ k ∧ k ≤ 8
theorem Dom.none {S : St} (h : Dom S) {k : Int} (hk : k < 1 ∨ 8 < k) : S k = none := by
 cases e : S k with
 | none => rfl
 | some p => have := h k p e; omega
theorem mem_pids {k : Int} : k ∈ pids ↔ 1 ≤ k ∧ k ≤ 8 := by
 simp only [pids, List.mem_cons, List.not_mem_nil, or_false];omega
theorem pids_up : pids.Pairwise (· < ·) := by unfold pids; decide
theorem lst_up (S : St) (t : Pr → Bool) : (lstF S t).Pairwise (· < ·) := pids_up.sublist List.filter_sublist
theorem mem_lst {S : St} (hd : Dom S) {t : Pr → Bool} {k : Int} : k ∈ lstF S t ↔ hits S t k = true := by
 unfold lstF;rw [List.mem_filter, mem_pids];constructor
 ·exact fun h => h.2
 ·intro h
  refine ⟨?_, h⟩;unfold hits at h
  cases e : S k with
  | none => rw [e] at h; cases h
  | some p => exact hd k p e
theorem up_ext : ∀ (l m : List Int), l.Pairwise (· < ·) → m.Pairwise (· < ·) → (∀ x, x ∈ l ↔ x ∈ m) → l = m
 | [], [], _, _, _ => rfl
 | [], b :: m, _, _, h => by have := (h b).2 (by simp); simp at this
 | a :: l, [], _, _, h => by have := (h a).1 (by simp); simp at this
 | a :: l, b :: m, hl, hm, h => by
  rw [List.pairwise_cons] at hl hm;have h1 : a ∈ b :: m := (h a).1 (by simp);have h2 : b ∈ a :: l := (h b).2 (by simp)
  have hab : a = b := by
   rcases List.mem_cons.1 h1 with e | h1
   ·exact e
   ·rcases List.mem_cons.1 h2 with e | h2
    ·exact e.symm
    ·have := hl.1 b h2
     have := hm.1 a h1;omega
  subst hab;rw [up_ext l m hl.2 hm.2 (fun x => ?_)];have hx := h x;constructor
  ·intro hxl
   rcases List.mem_cons.1 (hx.1 (List.mem_cons_of_mem _ hxl)) with e | q
   ·have := hl.1 x hxl; omega
   ·exact q
  ·intro hxm
   rcases List.mem_cons.1 (hx.2 (List.mem_cons_of_mem _ hxm)) with e | q
   ·have := hm.1 x hxm; omega
   ·exact q
theorem sorted_lst {S : St} (hd : Dom S) {t : Pr → Bool} {xs : List Int} (hn : xs.Nodup) (h : ∀ k, k ∈ xs ↔ hits S t k = true) : xs.mergeSort (fun x y => decide (x ≤ y)) = lstF S t := by
 have hp := List.pairwise_mergeSort (le := fun x y : Int => decide (x ≤ y)) (fun a b c h1 h2 => by simp at *; omega) (fun a b => by simp; omega) xs
 have hm : ∀ a, a ∈ xs.mergeSort (fun x y => decide (x ≤ y)) ↔ a ∈ xs := fun a => List.mem_mergeSort
 have hnd : (xs.mergeSort (fun x y => decide (x ≤ y))).Nodup := (List.mergeSort_perm xs _).nodup_iff.2 hn;refine up_ext _ _ ?_ (lst_up S t) (fun x => ?_)
 ·exact (hp.and hnd).imp (fun {a b} q => by
    obtain ⟨q1, q2⟩ := q
    have : a ≤ b := by simpa using q1
    omega)
 ·rw [hm, h, mem_lst hd]
def beN (S : St) : Int := if lstF S (fun _ => true) = [] then 1 else 0
def beS (S : St) : St := if lstF S (fun _ => true) = [] then stPut S 1 ⟨0, false, 0⟩ else S
def encP : Option Pr → List Int
 | none => [0, 0, 0]
 | some p => [if p.zom = true then 2 else 1, IntKind.u64.wrap p.par, IntKind.u64.wrap p.st]
def encK (S : St) : Nat → List Int
 | 0 => []
 | k + 1 => encK S k ++ encP (S ((k : Int) + 1))
def encW (S : St) : List Int := encK S 8
theorem encP_len (o : Option Pr) : (encP o).length = 3 := by cases o <;> rfl
theorem encK_len (S : St) : ∀ k, (encK S k).length = 3 * k
 | 0 => rfl
 | k + 1 => by simp only [encK]; rw [List.length_append, encK_len S k, encP_len]; omega
def rdB (m a s : Int) : Bool := decide (m ≤ 2) && decide (a ≤ 8) && (decide (m = 2) || decide (s = 0)) && (!decide (m = 0) || decide (a = 0))
def decP (m a s : Int) : Option Pr := if m = 0 then none else some ⟨a, decide (m = 2), IntKind.i64.wrap s⟩
def wd (ws : List Int) (i : Nat) : Int := ws.getD i 0
def decS (ws : List Int) : St := fun k => if 1 ≤ k ∧ k ≤ 8 then decP (wd ws (3 * (k.toNat - 1))) (wd ws (3 * (k.toNat - 1) + 1)) (wd ws (3 * (k.toNat - 1) + 2)) else none
def decTo (ws : List Int) (n : Nat) : St := fun k => if k ≤ n then decS ws k else none
def rdAt (ws : List Int) (i : Nat) : Bool := rdB (wd ws (3 * i)) (wd ws (3 * i + 1)) (wd ws (3 * i + 2))
def rdK (ws : List Int) : Nat → Bool
 | 0 => true
 | k + 1 => rdK ws k && rdAt ws k
def mayB (S : St) (p : Pr) : Bool := if p.zom = true then liv S p.par else (decide (p.par = 0) || (S p.par).isSome)
def rootB (S : St) : Nat → Pr → Bool
 | 0, _ => false
 | n + 1, p => decide (p.par = 0) || hits S (rootB S n) p.par
def allB (S : St) (t : Pr → Bool) : Bool := pids.all fun k => !hits S (fun p => !t p) k
def frB (S : St) : Bool := allB S (mayB S) && allB S (rootB S 8)
def okW (ws : List Int) : Bool := decide (ws.length = 24) && (rdK ws 8 && frB (decS ws))
theorem allB_true {S : St} {t : Pr → Bool} (hd : Dom S) : allB S t = true ↔ ∀ k p, S k = some p → t p = true := by
 unfold allB;rw [List.all_eq_true];constructor
 ·intro h k p hk
  have := h k (mem_pids.2 (hd k p hk));unfold hits at this;rw [hk] at this
  simpa using this
 ·intro h k _
  unfold hits
  cases e : S k with
  | none => rfl
  | some p => simpa using h k p e
theorem allB_false {S : St} {t : Pr → Bool} (hd : Dom S) {k : Int} {p : Pr} (hk : S k = some p) (h : t p = false) : allB S t = false := by
 cases e : allB S t with
 | false => rfl
 | true =>
  rw [(allB_true hd).1 e k p hk] at h
  cases h
theorem dec_dom (ws : List Int) : Dom (decS ws) := by
 intro k p h;unfold decS at h
 by_cases e : 1 ≤ k ∧ k ≤ 8
 ·exact e
 ·rw [if_neg e] at h; cases h
theorem decTo_0 (ws : List Int) : decTo ws 0 = St0 := by
 funext k
 unfold decTo St0
 split
 ·exact (dec_dom ws).none (by omega)
 ·rfl
theorem decTo_8 (ws : List Int) : decTo ws 8 = decS ws := by
 funext k
 unfold decTo
 split
 ·rfl
 ·exact ((dec_dom ws).none (by omega)).symm
theorem decS_at (ws : List Int) {n : Nat} (hn : n < 8) : decS ws ((n : Int) + 1) = decP (wd ws (3 * n)) (wd ws (3 * n + 1)) (wd ws (3 * n + 2)) := by
 unfold decS;rw [if_pos ⟨by omega, by omega⟩, show ((n : Int) + 1).toNat - 1 = n by omega]
theorem decTo_none (ws : List Int) {n : Nat} (hn : n < 8) (h : decS ws ((n : Int) + 1) = none) : decTo ws (n + 1) = decTo ws n := by
 funext k
 unfold decTo
 by_cases e : k ≤ (n : Int)
 ·rw [if_pos (by omega), if_pos e]
 ·by_cases e2 : k = (n : Int) + 1
  ·rw [e2, if_pos (by omega), if_neg (by omega), h]
  ·rw [if_neg (by omega), if_neg e]
theorem decTo_some (ws : List Int) {n : Nat} (hn : n < 8) {p : Pr} (h : decS ws ((n : Int) + 1) = some p) : decTo ws (n + 1) = stPut (decTo ws n) ((n : Int) + 1) p := by
 funext k
 unfold decTo stPut;dsimp only
 by_cases e2 : k = (n : Int) + 1
 ·rw [e2, if_pos (by omega), if_pos rfl, h]
 ·rw [if_neg e2]
  by_cases e : k ≤ (n : Int)
  ·rw [if_pos (by omega), if_pos e]
  ·rw [if_neg (by omega), if_neg e]
theorem decTo_new (ws : List Int) (n : Nat) : decTo ws n ((n : Int) + 1) = none := by
 unfold decTo;rw [if_neg (by omega)]
def Words (ws : List Int) : Prop := ∀ x ∈ ws, 0 ≤ x ∧ x < 18446744073709551616
theorem wd_word {ws : List Int} (h : Words ws) (i : Nat) : 0 ≤ wd ws i ∧ wd ws i < 18446744073709551616 := by
 unfold wd;rw [List.getD_eq_getElem?_getD]
 cases e : ws[i]? with
 | none => exact ⟨by decide, by decide⟩
 | some x => exact h x (List.mem_of_getElem? e)
theorem wrap_there {x : Int} (h0 : 0 ≤ x) (h1 : x < 18446744073709551616) : IntKind.u64.wrap (IntKind.i64.wrap x) = x := by
 simp [IntKind.wrap, IntKind.bits, IntKind.signed];omega
theorem wrap_back {x : Int} (h0 : -9223372036854775808 ≤ x) (h1 : x < 9223372036854775808) : IntKind.i64.wrap (IntKind.u64.wrap x) = x := by
 simp [IntKind.wrap, IntKind.bits, IntKind.signed];omega
theorem wrap_small {x : Int} (h0 : 0 ≤ x) (h1 : x ≤ 8) : IntKind.u64.wrap x = x := by
 simp [IntKind.wrap, IntKind.bits, IntKind.signed];omega
theorem rdB_is {m a s : Int} (h : rdB m a s = true) : m ≤ 2 ∧ a ≤ 8 ∧ (m = 2 ∨ s = 0) ∧ (m = 0 → a = 0) := by
 unfold rdB at h;simp only [Bool.and_eq_true, Bool.or_eq_true, decide_eq_true_eq, Bool.not_eq_true', decide_eq_false_iff_not] at h;obtain ⟨⟨⟨h1, h2⟩, h3⟩, h4⟩ := h;exact ⟨h1, h2, h3, fun e => h4.resolve_left (fun x => x e)⟩
theorem enc_decP {m a s : Int} (hm : 0 ≤ m) (ha : 0 ≤ a) (hs : 0 ≤ s) (hs2 : s < 18446744073709551616) (h : rdB m a s = true) : encP (decP m a s) = [m, a, s] := by
 obtain ⟨h1, h2, h3, h4⟩ := rdB_is h;unfold decP
 by_cases e : m = 0
 ·rw [if_pos e]
  have : s = 0 := h3.resolve_left (by omega);rw [h4 e, this, e]
  rfl
 ·rw [if_neg e]
  unfold encP;dsimp only;rw [wrap_small ha h2, wrap_there hs hs2]
  by_cases e2 : m = 2
  ·rw [e2]; rfl
  ·rw [if_neg (by simpa using e2), show m = 1 by omega]
theorem rdK_at {ws : List Int} : ∀ {n i : Nat}, rdK ws n = true → i < n → rdAt ws i = true
 | 0, i, _, hi => by omega
 | n + 1, i, h, hi => by
  unfold rdK at h;rw [Bool.and_eq_true] at h
  by_cases e : i = n
  ·rw [e]; exact h.2
  ·exact rdK_at h.1 (by omega)
theorem enc_dec {ws : List Int} (hw : Words ws) (hl : ws.length = 24) (h : rdK ws 8 = true) : encW (decS ws) = ws := by
 have key : ∀ k, k ≤ 8 → encK (decS ws) k = ws.take (3 * k) := by
  intro k
  induction k with
  | zero => intro _; rfl
  | succ k ih =>
   intro hk;simp only [encK];rw [ih (by omega), decS_at ws (by omega), enc_decP (wd_word hw _).1 (wd_word hw _).1 (wd_word hw _).1 (wd_word hw _).2 (rdK_at h (by omega))]
   apply List.ext_getElem?
   intro i
   have gd : ∀ j, j < 24 → ws[j]? = some (wd ws j) := fun j hj => by
    unfold wd;rw [List.getD_eq_getElem?_getD, List.getElem?_eq_getElem (by omega)]
    rfl
   by_cases h1 : i < 3 * k
   ·rw [List.getElem?_append_left (by rw [List.length_take]; omega), List.getElem?_take_of_lt h1, List.getElem?_take_of_lt (by omega)]
   ·have ht : (ws.take (3 * k)).length = 3 * k := by rw [List.length_take]; omega
    rw [List.getElem?_append_right (by omega), ht]
    by_cases h2 : i < 3 * (k + 1)
    ·rw [List.getElem?_take_of_lt h2, gd i (by omega)]
     rcases (by omega : i = 3 * k ∨ i = 3 * k + 1 ∨ i = 3 * k + 2) with e | e | e
     ·rw [show i - 3 * k = 0 by omega, e]; rfl
     ·rw [show i - 3 * k = 1 by omega, e]; rfl
     ·rw [show i - 3 * k = 2 by omega, e]; rfl
    ·rw [List.getElem?_eq_none (by simp; omega), List.getElem?_eq_none (by simp; omega)]
 unfold encW;rw [key 8 (by omega), List.take_of_length_le (by omega)]
structure Inv (S : St) : Prop where
 dom : Dom S
 par : ∀ k p, S k = some p → 0 ≤ p.par ∧ p.par ≤ 8
 stat : ∀ k p, S k = some p → (-9223372036854775808 ≤ p.st ∧ p.st < 9223372036854775808) ∧ (p.zom = false → p.st = 0)
 up : ∀ k p, S k = some p → p.par ≠ 0 → liv S p.par = true
 own : ∀ k p, S k = some p → p.zom = true → p.par ≠ 0
 ord : ∃ l : List Int, l.Nodup ∧ (∀ k, k ∈ l ↔ (S k).isSome = true) ∧ l.Pairwise (fun a b => parI S a ≠ b) ∧ ∀ k p, S k = some p → p.par ≠ k
theorem liv_is {S : St} {k : Int} : liv S k = true ↔ ∃ p, S k = some p ∧ p.zom = false := by
 unfold liv hits
 cases e : S k with
 | none => simp
 | some p => simp
theorem stPut_same (S : St) (k : Int) (p : Pr) : stPut S k p k = some p := by unfold stPut; rw [if_pos rfl]
theorem stPut_other {S : St} {k x : Int} (p : Pr) (h : x ≠ k) : stPut S k p x = S x := by unfold stPut; rw [if_neg h]
theorem Dom.put {S : St} (h : Dom S) {k : Int} (p : Pr) (h1 : 1 ≤ k) (h8 : k ≤ 8) : Dom (stPut S k p) := by
 intro x q hx;unfold stPut at hx
 split at hx
 ·omega
 ·exact h x q hx
theorem Inv.put {S : St} (h : Inv S) {c pid : Int} (hc : S c = none) (h1 : 1 ≤ c) (h8 : c ≤ 8) (hp : pid = 0 ∨ liv S pid = true) : Inv (stPut S c ⟨pid, false, 0⟩) := by
 have hpr : 0 ≤ pid ∧ pid ≤ 8 ∧ pid ≠ c := by
  rcases hp with rfl | hp
  ·omega
  ·obtain ⟨p, hp1, hp2⟩ := liv_is.1 hp
   have := h.dom pid p hp1;refine ⟨by omega, by omega, fun e => ?_⟩;rw [e, hc] at hp1
   cases hp1
 have hat : ∀ k p, stPut S c ⟨pid, false, 0⟩ k = some p → (k = c ∧ p = ⟨pid, false, 0⟩) ∨ (k ≠ c ∧ S k = some p) := by
  intro k p hk
  by_cases e : k = c
  ·subst e
   rw [stPut_same] at hk
   cases hk
   exact Or.inl ⟨rfl, rfl⟩
  ·rw [stPut_other _ e] at hk
   exact Or.inr ⟨e, hk⟩
 have hlv : ∀ k, liv S k = true → liv (stPut S c ⟨pid, false, 0⟩) k = true := by
  intro k hk;obtain ⟨p, hp1, hp2⟩ := liv_is.1 hk;refine liv_is.2 ⟨p, ?_, hp2⟩;rw [stPut_other _ (fun e => by rw [e, hc] at hp1; cases hp1)];exact hp1
 refine ⟨h.dom.put _ h1 h8, ?_, ?_, ?_, ?_, ?_⟩
 ·intro k p hk
  rcases hat k p hk with ⟨rfl, rfl⟩ | ⟨_, hk⟩
  ·exact ⟨hpr.1, hpr.2.1⟩
  ·exact h.par k p hk
 ·intro k p hk
  rcases hat k p hk with ⟨rfl, rfl⟩ | ⟨_, hk⟩
  ·exact ⟨⟨by show _ ≤ (0 : Int); omega, by show (0 : Int) < _; omega⟩, fun _ => rfl⟩
  ·exact h.stat k p hk
 ·intro k p hk hne
  rcases hat k p hk with ⟨rfl, rfl⟩ | ⟨_, hk⟩
  ·exact hlv pid (hp.resolve_left hne)
  ·exact hlv _ (h.up k p hk hne)
 ·intro k p hk hz
  rcases hat k p hk with ⟨rfl, rfl⟩ | ⟨_, hk⟩
  ·cases hz
  ·exact h.own k p hk hz
 ·obtain ⟨l, l1, l2, l3, l4⟩ := h.ord
  have hcl : c ∉ l := fun q => by have := (l2 c).1 q; rw [hc] at this; cases this
  refine ⟨l ++ [c], ?_, ?_, ?_, ?_⟩
  ·rw [List.nodup_append]
   exact ⟨l1, by simp, fun a ha b hb e => by simp at hb; rw [e, hb] at ha; exact hcl ha⟩
  ·intro k
   rw [List.mem_append, List.mem_singleton, l2 k]
   by_cases e : k = c
   ·subst e; rw [stPut_same]; simp
   ·rw [stPut_other _ e]; simp [e]
  ·rw [List.pairwise_append]
   refine ⟨?_, by simp, ?_⟩
   ·refine l3.imp_of_mem (fun {a b} ha hb q => ?_)
    unfold parI;rw [stPut_other _ (fun e => hcl (by rw [← e]; exact ha))];exact q
   ·intro a ha b hb
    rw [List.mem_singleton] at hb;subst hb;have hs := (l2 a).1 ha;obtain ⟨p, hpp⟩ := Option.isSome_iff_exists.1 hs;unfold parI;rw [stPut_other _ (fun e => by rw [e, hc] at hpp; cases hpp), hpp];intro e;have e' : p.par = b := e;have := h.up a p hpp (by omega);rw [e'] at this;obtain ⟨q, hq, _⟩ := liv_is.1 this;rw [hc] at hq
    cases hq
  ·intro k p hk
   rcases hat k p hk with ⟨rfl, rfl⟩ | ⟨_, hk⟩
   ·exact hpr.2.2
   ·exact l4 k p hk
theorem len_bound : ∀ (n : Nat) (l : List Int), l.Nodup → (∀ k ∈ l, 1 ≤ k ∧ k ≤ (n : Int)) → l.length ≤ n
 | 0, l, _, h => by
  cases l with
  | nil => simp
  | cons a r => have := h a (by simp); omega
 | n + 1, l, hn, h => by
  have h1 := len_bound n (l.erase ((n : Int) + 1)) (hn.erase _) (fun k hk => by
    rw [hn.mem_erase_iff] at hk;have := h k hk.2;have := hk.1
    omega)
  rw [List.length_erase] at h1
  split at h1 <;> omega
theorem Inv.root {S : St} (h : Inv S) : ∀ k p, S k = some p → rootB S 8 p = true := by
 obtain ⟨l, l1, l2, l3, l4⟩ := h.ord
 have hlen : l.length ≤ 8 := len_bound 8 l l1 (fun k hk => by
   obtain ⟨p, hp⟩ := Option.isSome_iff_exists.1 ((l2 k).1 hk)
   exact h.dom k p hp)
 have key : ∀ n (a b : List Int) (k : Int) (p : Pr), a.length ≤ n → l = a ++ k :: b → S k = some p → rootB S (n + 1) p = true := by
  intro n
  induction n with
  | zero =>
   intro a b k p ha hl hk;unfold rootB;rw [Bool.or_eq_true]
   by_cases e : p.par = 0
   ·exact Or.inl (decide_eq_true e)
   ·exfalso
    have hlv := h.up k p hk e;obtain ⟨x, hx, _⟩ := liv_is.1 hlv;have hm : p.par ∈ l := (l2 _).2 (by rw [hx]; rfl);have ha0 : a = [] := List.eq_nil_of_length_eq_zero (by omega);subst ha0;rw [hl] at hm l3
    rcases List.mem_cons.1 hm with e2 | hm
    ·exact l4 k p hk e2
    ·rw [List.nil_append, List.pairwise_cons] at l3
     have := l3.1 _ hm;unfold parI at this;rw [hk] at this;exact this rfl
  | succ n ih =>
   intro a b k p ha hl hk;unfold rootB;rw [Bool.or_eq_true]
   by_cases e : p.par = 0
   ·exact Or.inl (decide_eq_true e)
   ·right
    have hlv := h.up k p hk e;obtain ⟨x, hx, _⟩ := liv_is.1 hlv;have hm : p.par ∈ l := (l2 _).2 (by rw [hx]; rfl);rw [hl] at hm;unfold hits;rw [hx]
    rcases List.mem_append.1 hm with hm | hm
    ·obtain ⟨s, t, est⟩ := List.append_of_mem hm
     refine ih s (t ++ k :: b) p.par x ?_ ?_ hx
     ·rw [est, List.length_append, List.length_cons] at ha
      omega
     ·rw [hl, est]
      simp
    ·exfalso
     rcases List.mem_cons.1 hm with e2 | hm
     ·exact l4 k p hk e2
     ·rw [hl, List.pairwise_append] at l3
      have l3' := l3.2.1;rw [List.pairwise_cons] at l3';have := l3'.1 _ hm;unfold parI at this;rw [hk] at this;exact this rfl
 intro k p hk;have hm : k ∈ l := (l2 k).2 (by rw [hk]; rfl);obtain ⟨s, t, est⟩ := List.append_of_mem hm;refine key 7 s t k p ?_ est hk;rw [est, List.length_append, List.length_cons] at hlen;omega
theorem encK_get {S : St} : ∀ {n i : Nat}, i < n → ∀ j, j < 3 → (encK S n).getD (3 * i + j) 0 = (encP (S ((i : Int) + 1))).getD j 0
 | 0, i, hi, _, _ => by omega
 | n + 1, i, hi, j, hj => by
  simp only [encK];rw [List.getD_eq_getElem?_getD, List.getD_eq_getElem?_getD]
  by_cases e : i = n
  ·subst e
   rw [List.getElem?_append_right (by rw [encK_len]; omega), encK_len, show 3 * i + j - 3 * i = j by omega]
  ·have := encK_get (S := S) (show i < n by omega) j hj
   rw [List.getD_eq_getElem?_getD, List.getD_eq_getElem?_getD] at this;rw [List.getElem?_append_left (by rw [encK_len]; omega), this]
theorem dec_enc {S : St} (h : Inv S) : decS (encW S) = S := by
 funext k
 by_cases hk : 1 ≤ k ∧ k ≤ 8
 ·obtain ⟨i, rfl⟩ : ∃ i : Nat, k = (i : Int) + 1 := ⟨(k - 1).toNat, by omega⟩
  have hi : i < 8 := by omega
  rw [decS_at _ hi];have g0 := encK_get (S := S) hi 0 (by omega);have g1 := encK_get (S := S) hi 1 (by omega);have g2 := encK_get (S := S) hi 2 (by omega);unfold wd encW;rw [show (encK S 8).getD (3 * i) 0 = (encK S 8).getD (3 * i + 0) 0 from rfl, g0, g1, g2]
  cases e : S ((i : Int) + 1) with
  | none => rfl
  | some p =>
   obtain ⟨a, z, s⟩ := p;have hs := (h.stat _ _ e).1;have hp := h.par _ _ e
   show decP (if z = true then 2 else 1) (IntKind.u64.wrap a) (IntKind.u64.wrap s) = _
   unfold decP;rw [wrap_small hp.1 hp.2, wrap_back hs.1 hs.2]
   cases z <;> rfl
 ·rw [(dec_dom _).none (by omega), h.dom.none (by omega)]
theorem Inv.ok {S : St} (h : Inv S) : okW (encW S) = true := by
 have hl : (encW S).length = 24 := encK_len S 8;unfold okW frB;rw [dec_enc h, decide_eq_true hl, Bool.true_and, Bool.and_eq_true, Bool.and_eq_true]
 refine ⟨?_, (allB_true h.dom).2 (fun k p hk => ?_), (allB_true h.dom).2 (fun k p hk => h.root k p hk)⟩
 ·have key : ∀ n, n ≤ 8 → rdK (encW S) n = true := by
   intro n
   induction n with
   | zero => intro _; rfl
   | succ n ih =>
    intro hn;unfold rdK;rw [ih (by omega), Bool.true_and];unfold rdAt;have g0 := encK_get (S := S) (show n < 8 by omega) 0 (by omega);have g1 := encK_get (S := S) (show n < 8 by omega) 1 (by omega);have g2 := encK_get (S := S) (show n < 8 by omega) 2 (by omega);unfold wd encW;rw [show (encK S 8).getD (3 * n) 0 = (encK S 8).getD (3 * n + 0) 0 from rfl, g0, g1, g2]
    cases e : S ((n : Int) + 1) with
    | none => rfl
    | some p =>
     obtain ⟨a, z, s⟩ := p;have hs := (h.stat _ _ e).2;have hp := h.par _ _ e
     show rdB (if z = true then 2 else 1) (IntKind.u64.wrap a) (IntKind.u64.wrap s) = true
     rw [wrap_small hp.1 hp.2];unfold rdB;dsimp only at hs hp
     cases z with
     | true => simp [hp.2]
     | false =>
      rw [hs rfl];simp [hp.2]
      rfl
  exact key 8 (by omega)
 ·unfold mayB
  by_cases hz : p.zom = true
  ·rw [if_pos hz]
   exact h.up k p hk (h.own k p hk hz)
  ·rw [if_neg hz]
   by_cases e : p.par = 0
   ·rw [decide_eq_true e]; rfl
   ·obtain ⟨x, hx, _⟩ := liv_is.1 (h.up k p hk e)
    rw [hx];simp
end Pc
namespace Ow
end Ow
namespace Pc
open Ow
abbrev ptr (b : Nat) : Value := .pointer (some ⟨b, 0, none⟩)
abbrev prow (p : Pr) : Array Value := #[.int .i64 p.par, .bool p.zom, .int .i64 p.st]
def pf (S : St) (c : Int → Nat) : Int → Option Value := fun k => (S k).map (fun _ => ptr (c k))
structure PrIs (w : World) (B b : Nat) (mo : Option Nat) (c : Int → Nat) (S : St) : Prop where
 head : w.heap[b]? = some (.cells #[.map mo] 167)
 map : MapO w .i64 mo (pf S c)
 pr : ∀ k p, S k = some p → w.heap[c k]? = some (.cells (prow p) 211)
 inj : ∀ j k, (S j).isSome = true → (S k).isSome = true → c j = c k → j = k
 dom : Dom S
 bB : B ≤ b
 mB : ∀ m, mo = some m → B ≤ m
 cB : ∀ k p, S k = some p → B ≤ c k
def PrAt (w : World) (B b : Nat) (S : St) : Prop := ∃ mo c, PrIs w B b mo c S
def PB (w : World) (k : Nat) : Prop := (∃ es cl, w.heap[k]? = some (.map es cl)) ∨ ∃ cs t fr, w.heap[k]? = some (.cells cs t fr) ∧ (t = 167 ∨ t = 211)
structure Tch (B : Nat) (w w' : World) : Prop where
 os : w'.os = w.os
 tape : w'.tape = w.tape
 output : w'.output = w.output
 size : w.heap.size ≤ w'.heap.size
 block : ∀ k, k < w.heap.size → (k < B ∨ ¬ PB w k) → w'.heap[k]? = w.heap[k]?
theorem pb_same {w w' : World} {k : Nat} (h : w'.heap[k]? = w.heap[k]?) : PB w' k ↔ PB w k := by unfold PB; rw [h]
theorem Tch.refl (B : Nat) (w : World) : Tch B w w := ⟨rfl, rfl, rfl, Nat.le_refl _, fun _ _ _ => rfl⟩
theorem Tch.trans {B : Nat} {a b c : World} (h : Tch B a b) (k : Tch B b c) : Tch B a c :=
 ⟨k.os.trans h.os, k.tape.trans h.tape, k.output.trans h.output, Nat.le_trans h.size k.size, fun i hi hg => by
   have e := h.block i hi hg;refine (k.block i (Nat.lt_of_lt_of_le hi h.size) ?_).trans e
   rcases hg with hg | hg
   · exact Or.inl hg
   · exact Or.inr (fun x => hg ((pb_same e).1 x))⟩
theorem Tch.of_below {B : Nat} {w w' : World} (h : Below w.heap.size w w') : Tch B w w' := ⟨h.os, h.tape, h.output, h.size, fun k hk _ => h.block k hk⟩
theorem Tch.below {B : Nat} {w w' : World} (h : Tch B w w') (hs : B ≤ w.heap.size) : Below B w w' := ⟨h.os, h.tape, h.output, h.size, fun k hk => h.block k (by omega) (Or.inl hk)⟩
theorem Tch.of_upd {B g : Nat} {w w' : World} (h : Upd g w w') (hB : B ≤ g) (hg : PB w g) : Tch B w w' := ⟨h.os, h.tape, h.output, h.size, fun k hk hh => h.block k hk (fun e => by
  subst e
  rcases hh with hh | hh
  · omega
  · exact hh hg)⟩
theorem Tch.of_new {B g : Nat} {w w1 w2 : World} (h : Tch B w w1) (hu : Upd g w1 w2) (hg : w.heap.size ≤ g) : Tch B w w2 :=
 ⟨hu.os.trans h.os, hu.tape.trans h.tape, hu.output.trans h.output, Nat.le_trans h.size hu.size, fun k hk hh => (hu.block k (Nat.lt_of_lt_of_le hk h.size) (by omega)).trans (h.block k hk hh)⟩
theorem not_pb {w : World} {k : Nat} {cs : Array Value} {t : TypeId} {fr : Nat × Nat} (hk : w.heap[k]? = some (.cells cs t fr)) (h1 : t ≠ 167) (h2 : t ≠ 211) : ¬ PB w k := by
 rintro (⟨es, cl, e⟩ | ⟨cs', t', fr', e, ht⟩)
 ·rw [hk] at e; cases e
 ·rw [hk] at e
  simp only [Option.some.injEq, Obj.cells.injEq] at e;obtain ⟨_, rfl, _⟩ := e
  rcases ht with ht | ht
  ·exact h1 ht
  ·exact h2 ht
theorem Tch.other {B : Nat} {w w' : World} (h : Tch B w w') {k : Nat} {cs : Array Value} {t : TypeId} {fr : Nat × Nat} (hk : w.heap[k]? = some (.cells cs t fr)) (h1 : t ≠ 167) (h2 : t ≠ 211) : w'.heap[k]? = some (.cells cs t fr) := by
 rw [h.block k (lt_of_heap hk) (Or.inr (not_pb hk h1 h2))];exact hk
section
variable {w w' : World} {B b : Nat} {mo : Option Nat} {c : Int → Nat} {S : St}
theorem PrIs.lt (h : PrIs w B b mo c S) : b < w.heap.size := lt_of_heap h.head
theorem PrIs.low (h : PrIs w B b mo c S) : B ≤ w.heap.size := by have := h.lt; have := h.bB; omega
theorem PrIs.clt (h : PrIs w B b mo c S) {k : Int} {p : Pr} (hk : S k = some p) : c k < w.heap.size := lt_of_heap (h.pr k p hk)
theorem PrIs.mlt (h : PrIs w B b mo c S) : ∀ m, mo = some m → m < w.heap.size := by
 intro m e
 rcases h.map with ⟨e2, _⟩ | ⟨m2, e2, hm⟩
 ·rw [e2] at e; cases e
 ·rw [e2] at e; cases e; exact hm.lt
theorem PrIs.below (h : PrIs w B b mo c S) (hb : Below w.heap.size w w') : PrIs w' B b mo c S :=
 ⟨(hb.block _ h.lt).trans h.head, h.map.below hb, fun k p hk => (hb.block _ (h.clt hk)).trans (h.pr k p hk), h.inj, h.dom, h.bB, h.mB, h.cB⟩
theorem PrIs.cb (h : PrIs w B b mo c S) {k : Int} {p : Pr} (hk : S k = some p) : c k ≠ b := by
 intro e;have h1 := h.pr k p hk;rw [e, h.head] at h1;simp only [Option.some.injEq, Obj.cells.injEq] at h1;exact absurd h1.2.1 (by decide)
theorem PrIs.cm (h : PrIs w B b mo c S) {k : Int} {p : Pr} (hk : S k = some p) : ∀ m, mo = some m → c k ≠ m := by
 intro m e1 e
 rcases h.map with ⟨e2, _⟩ | ⟨m2, e2, es, cl, hm, _⟩
 ·rw [e2] at e1; cases e1
 ·rw [e2] at e1; cases e1
  have h1 := h.pr k p hk;rw [e, hm] at h1
  cases h1
theorem PrIs.bm (h : PrIs w B b mo c S) : ∀ m, mo = some m → b ≠ m := by
 intro m e1 e
 rcases h.map with ⟨e2, _⟩ | ⟨m2, e2, es, cl, hm, _⟩
 ·rw [e2] at e1; cases e1
 ·rw [e2] at e1; cases e1
  have h1 := h.head;rw [e, hm] at h1
  cases h1
theorem PrIs.cell (h : PrIs w B b mo c S) : w.cell? ⟨b, 0, none⟩ = some (.map mo) := by rw [cell_of_heap h.head]; rfl
theorem PrIs.free (h : PrIs w B b mo c S) : w.frozen? ⟨b, 0, none⟩ = false := frozen_of_heap h.head
theorem PrIs.cells (h : PrIs w B b mo c S) {k : Int} {p : Pr} (hk : S k = some p) : w.cell? ⟨c k, 0, none⟩ = some (.int .i64 p.par) ∧ w.cell? ⟨c k, 1, none⟩ = some (.bool p.zom) ∧ w.cell? ⟨c k, 2, none⟩ = some (.int .i64 p.st) := by
 have h1 := h.pr k p hk
 refine ⟨?_, ?_, ?_⟩ <;> rw [cell_of_heap h1] <;> rfl
theorem zeroPtr (w : World) : (zeroValue 164).run Tryz.prog w = .ok (.pointer none) w := by kernel_rfl
theorem PrIs.look (h : PrIs w B b mo c S) (k : Int) : (Instr.lookup 165 (.map mo) (.int .i64 k) false).run Tryz.prog w = .ok ((pf S c k).getD (.pointer none)) w :=
 h.map.look Tryz.underlying165 Tryz.underlying3 (zeroPtr w) k
theorem PrIs.look_none (h : PrIs w B b mo c S) {k : Int} (hk : S k = none) : (Instr.lookup 165 (.map mo) (.int .i64 k) false).run Tryz.prog w = .ok (.pointer none) w := by
 rw [h.look]; unfold pf; rw [hk]; rfl
theorem PrIs.look_some (h : PrIs w B b mo c S) {k : Int} {p : Pr} (hk : S k = some p) : (Instr.lookup 165 (.map mo) (.int .i64 k) false).run Tryz.prog w = .ok (ptr (c k)) w := by
 rw [h.look]; unfold pf; rw [hk]; rfl
theorem PrAt.below (h : PrAt w B b S) (hb : Below w.heap.size w w') : PrAt w' B b S := by
 obtain ⟨mo, c, h⟩ := h;exact ⟨mo, c, h.below hb⟩
theorem PrAt.lt (h : PrAt w B b S) : b < w.heap.size := by obtain ⟨mo, c, h⟩ := h; exact h.lt
theorem PrAt.low (h : PrAt w B b S) : B ≤ w.heap.size := by obtain ⟨mo, c, h⟩ := h; exact h.low
theorem PrAt.dom (h : PrAt w B b S) : Dom S := by obtain ⟨mo, c, h⟩ := h; exact h.dom
theorem PrIs.pbb (h : PrIs w B b mo c S) : PB w b := Or.inr ⟨_, _, _, h.head, Or.inl rfl⟩
theorem PrIs.pbc (h : PrIs w B b mo c S) {k : Int} {p : Pr} (hk : S k = some p) : PB w (c k) := Or.inr ⟨_, _, _, h.pr k p hk, Or.inr rfl⟩
theorem PrIs.pbm (h : PrIs w B b mo c S) : ∀ m, mo = some m → PB w m := by
 intro m e
 rcases h.map with ⟨e2, _⟩ | ⟨m2, e2, es, cl, hm, _⟩
 ·rw [e2] at e; cases e
 ·rw [e2] at e; cases e; exact Or.inl ⟨es, cl, hm⟩
end
theorem eq_procs (b : Nat) (W : World) : (binOp .eql 58 (ptr b) (.pointer none)).run Tryz.prog W = .ok (.bool false) W := by kernel_rfl
theorem eq_proc (b : Nat) (W : World) : (binOp .eql 164 (ptr b) (.pointer none)).run Tryz.prog W = .ok (.bool false) W := by kernel_rfl
theorem ne_proc (b : Nat) (W : World) : (binOp .neq 164 (ptr b) (.pointer none)).run Tryz.prog W = .ok (.bool true) W := by kernel_rfl
theorem eq_map (m : Nat) (W : World) : (binOp .eql 165 (.map (some m)) (.map none)).run Tryz.prog W = .ok (.bool false) W := by kernel_rfl
theorem eq_map0 (W : World) : (binOp .eql 165 (.map none) (.map none)).run Tryz.prog W = .ok (.bool true) W := by kernel_rfl
theorem new_at (w : World) :
  Calls Tryz.prog 45 #[] w fun e w' => e = .returned (ptr w.heap.size) ∧ PrAt w' w.heap.size w.heap.size St0 ∧ Below w.heap.size w w' := by
 go_enter Tryz.func45, Tryz.ntmps45
 go_wp2;go_ret;exact ⟨rfl, ⟨none, fun _ => 0, heap_alloc_new _ _, Or.inl ⟨rfl, fun a => rfl⟩, fun k p h => (by cases h), fun j k h => (by cases h), fun k p h => (by cases h), Nat.le_refl _, fun m h => (by cases h), fun k p h => (by cases h)⟩, below_alloc _ _⟩
theorem PrIs.put {w W : World} {B b : Nat} {mo : Option Nat} {c : Int → Nat} {S : St} (h : PrIs w B b mo c S) {k : Int} {p : Pr} {n m : Nat} (h1 : 1 ≤ k) (h8 : k ≤ 8) (hn : w.heap.size ≤ n) (hk : S k = none)
  (hb : W.heap[b]? = some (.cells #[.map (some m)] 167)) (hm : MapIs W .i64 m (fput (pf S c) k (ptr n))) (hp : W.heap[n]? = some (.cells (prow p) 211)) (hB : B ≤ m)
  (hold : ∀ j q, S j = some q → W.heap[c j]? = w.heap[c j]?) : PrIs W B b (some m) (fun x => if x = k then n else c x) (stPut S k p) := by
 have hat : ∀ j q, stPut S k p j = some q → (j = k ∧ q = p) ∨ (j ≠ k ∧ S j = some q) := by
  intro j q hj
  by_cases e : j = k
  ·subst e
   rw [stPut_same] at hj
   cases hj
   exact Or.inl ⟨rfl, rfl⟩
  ·rw [stPut_other _ e] at hj
   exact Or.inr ⟨e, hj⟩
 have hs : ∀ j, (stPut S k p j).isSome = true → j = k ∨ (j ≠ k ∧ (S j).isSome = true) := by
  intro j hj;obtain ⟨q, hq⟩ := Option.isSome_iff_exists.1 hj
  rcases hat j q hq with ⟨e, _⟩ | ⟨e, hq2⟩
  ·exact Or.inl e
  ·exact Or.inr ⟨e, by rw [hq2]; rfl⟩
 have hlt : ∀ j, (S j).isSome = true → c j ≠ n := by
  intro j hj;obtain ⟨q, hq⟩ := Option.isSome_iff_exists.1 hj;have := h.clt hq;omega
 refine ⟨hb, Or.inr ⟨m, rfl, ?_⟩, ?_, ?_, h.dom.put p h1 h8, h.bB, fun m' e => (by cases e; exact hB), ?_⟩
 ·have : pf (stPut S k p) (fun x => if x = k then n else c x) = fput (pf S c) k (ptr n) := by
   funext x
   unfold pf fput
   by_cases e : x = k
   ·subst e
    rw [stPut_same, if_pos rfl]
    show some (ptr (if x = x then n else c x)) = some (ptr n)
    rw [if_pos rfl]
   ·rw [stPut_other _ e, if_neg e]
    show (S x).map (fun _ => ptr (if x = k then n else c x)) = (S x).map (fun _ => ptr (c x))
    rw [if_neg e]
  rw [this]; exact hm
 ·intro j q hj
  rcases hat j q hj with ⟨rfl, rfl⟩ | ⟨e, hj⟩
  ·rw [if_pos rfl]; exact hp
  ·rw [if_neg e, hold j q hj]; exact h.pr j q hj
 ·intro i j hi hj e
  rcases hs i hi with e1 | ⟨e1, hi⟩
  ·rcases hs j hj with e2 | ⟨e2, hj⟩
   ·rw [e1, e2]
   ·rw [if_pos e1, if_neg e2] at e
    exact absurd e.symm (hlt j hj)
  ·rcases hs j hj with e2 | ⟨e2, hj⟩
   ·rw [if_pos e2, if_neg e1] at e
    exact absurd e (hlt i hi)
   ·rw [if_neg e1, if_neg e2] at e
    exact h.inj i j hi hj e
 ·intro j q hj
  have := h.low
  rcases hat j q hj with ⟨rfl, rfl⟩ | ⟨e, hj⟩
  ·rw [if_pos rfl]; omega
  ·rw [if_neg e]; exact h.cB j q hj
theorem put_at (B b : Nat) (S : St) (k : Int) (p : Pr) (w : World) (h : PrAt w B b S) (h1 : 1 ≤ k) (h8 : k ≤ 8) (hk : S k = none) :
  Calls Tryz.prog 99 #[ptr b, .int .i64 k, .agg (prow p)] w fun e w' => e = .returned (.tuple #[]) ∧ PrAt w' B b (stPut S k p) ∧ Tch B w w' := by
 obtain ⟨mo, c, h⟩ := h;obtain ⟨W0, hW0⟩ : ∃ W, W = w.alloc (.cells (prow p) 211) := ⟨_, rfl⟩
 have hb0 : Below w.heap.size w W0 := by rw [hW0]; exact below_alloc _ _
 have hn0 : W0.heap[w.heap.size]? = some (.cells (prow p) 211) := by rw [hW0]; exact heap_alloc_new _ _
 have hs0 : W0.heap.size = w.heap.size + 1 := by rw [hW0]; simp
 have h0 := h.below hb0;have hlow := h.low;have hbl := h.lt
 cases mo with
 | none =>
  have hmm := @run_makeMap Tryz.prog;have hq := eq_map0;obtain ⟨W1, hW1⟩ : ∃ W, W = W0.alloc (.map #[] 0) := ⟨_, rfl⟩
  have hb1 : Below W0.heap.size W0 W1 := by rw [hW1]; exact below_alloc _ _
  have hs1 : W1.heap.size = w.heap.size + 1 + 1 := by rw [hW1]; simp [hs0]
  have h1' := h0.below hb1
  have hM1 : MapIs W1 .i64 (w.heap.size + 1) (fun _ => none) := by rw [hW1, ← hs0]; exact MapIs.made W0 .i64
  have hf : pf S c = fun _ => none := by
   rcases h.map with ⟨_, e⟩ | ⟨m, e, _⟩
   ·funext a; exact e a
   ·cases e
  have hu2 : Upd b W1 (W1.setCell ⟨b, 0, none⟩ (.map (some (w.heap.size + 1)))) := Upd.setCell _ _ _ _
  have hh2 : (W1.setCell ⟨b, 0, none⟩ (.map (some (w.heap.size + 1)))).heap[b]? = some (.cells #[.map (some (w.heap.size + 1))] 167) := by
   rw [setCell_eq_setRow W1 b 0 _ _ _ _ h1'.head, setRow_heap W1 b _ _ _ _ h1'.head]; rfl
  have hM2 : MapIs (W1.setCell ⟨b, 0, none⟩ (.map (some (w.heap.size + 1)))) .i64 (w.heap.size + 1) (fun _ => none) := hM1.of_block (hu2.block _ (by omega) (by omega));obtain ⟨W3, hrun, hM3, hu3, hs3⟩ := hM2.put (P := Tryz.prog) (t := 165) (k := 3) (e := 164) Tryz.underlying165 Tryz.underlying3 k (ptr w.heap.size)
  have hs2 : (W1.setCell ⟨b, 0, none⟩ (.map (some (w.heap.size + 1)))).heap.size = w.heap.size + 1 + 1 := by simp [World.setCell, hs1]
  have c0 := h0.cell;have c1 := h1'.cell;have f1 := h1'.free
  have c2 : (W1.setCell ⟨b, 0, none⟩ (.map (some (w.heap.size + 1)))).cell? ⟨b, 0, none⟩ = some (.map (some (w.heap.size + 1))) := by rw [cell_of_heap hh2]; rfl
  have keep : ∀ j, j < W1.heap.size → j ≠ b → j ≠ w.heap.size + 1 → W3.heap[j]? = W1.heap[j]? := fun j h1 h2 h3 => (hu3.block j (by omega) h3).trans (hu2.block j h1 h2)
  have HE : Hid (PrAt W3 B b (stPut S k p) ∧ Tch B w W3) := by
   refine ⟨⟨_, _, h.put h1 h8 (Nat.le_refl _) hk ((hu3.block b (by omega) (by omega)).trans hh2) (by rw [hf]; exact hM3) ?_ (by omega) ?_⟩, ?_⟩
   ·rw [keep _ (by omega) (by omega) (by omega), hb1.block _ (by omega)]; exact hn0
   ·intro j q hj
    have hcl := h.clt hj;rw [keep _ (by omega) (h.cb hj) (by omega), hb1.block _ (by omega), hb0.block _ hcl]
   ·refine Tch.of_new ((Tch.of_below (hb0.trans (hb1.mono hb0.size))).trans (Tch.of_upd hu2 h.bB (Or.inr ⟨_, _, _, h1'.head, Or.inl rfl⟩))) hu3 (by omega)
  have HW0 : Hid _ := hW0;rw [hW1] at hrun c1 f1 c2;clear hW0 hW1 hb0 hn0 h0 h hb1 h1' hM1 hf hu2 hh2 hM2 hM3 hu3 hs3 keep hs2 hs1 hbl
  go_enter Tryz.func99, Tryz.ntmps99
  go_upto_region 1 with fail
  rw [← HW0.out];go_wp2
  go_end0
  exact ⟨rfl, HE.out⟩
 | some m =>
  have hm : MapIs W0 .i64 m (pf S c) := by
   rcases h0.map with ⟨e, _⟩ | ⟨m', e, hm⟩
   ·cases e
   ·cases e; exact hm
  have hml := h.mlt m rfl;obtain ⟨W3, hrun, hM3, hu3, hs3⟩ := hm.put (P := Tryz.prog) (t := 165) (k := 3) (e := 164) Tryz.underlying165 Tryz.underlying3 k (ptr w.heap.size);have c0 := h0.cell;have hne := eq_map m
  have HE : Hid (PrAt W3 B b (stPut S k p) ∧ Tch B w W3) := by
   refine ⟨⟨_, _, h.put h1 h8 (Nat.le_refl _) hk ((hu3.block b (by omega) (h.bm m rfl)).trans h0.head) hM3 ((hu3.block _ (by omega) (by omega)).trans hn0) (h.mB m rfl) ?_⟩, ?_⟩
   ·intro j q hj
    have hcl := h.clt hj;rw [hu3.block _ (by omega) (h.cm hj m rfl), hb0.block _ hcl]
   ·exact (Tch.of_below hb0).trans (Tch.of_upd hu3 (h.mB m rfl) (h0.pbm m rfl))
  have HW0 : Hid _ := hW0;clear hW0 hb0 hn0 h0 h hm hM3 hu3 hs3 hs0 hbl hml
  go_enter Tryz.func99, Tryz.ntmps99
  go_upto_region 1 with fail
  rw [← HW0.out];go_wp2
  go_end0
  exact ⟨rfl, HE.out⟩
theorem lives_at (c : Nat) (z : Bool) (w : World) (h : w.cell? ⟨c, 1, none⟩ = some (.bool z)) :
  Calls Tryz.prog 92 #[ptr c] w fun e w' => e = .returned (.bool (!z)) ∧ w' = w := by
 go_enter Tryz.func92, Tryz.ntmps92
 go_wp2;go_ret;exact ⟨rfl, rfl⟩
theorem live_at (B b : Nat) (S : St) (k : Int) (w : World) (h : PrAt w B b S) :
  Calls Tryz.prog 37 #[ptr b, .int .i64 k] w fun e w' => e = .returned (.bool (liv S k)) ∧ w' = w := by
 obtain ⟨mo, c, h⟩ := h;have c0 := h.cell;have hne := eq_procs b
 cases hk : S k with
 | none =>
  have hl := h.look_none hk
  have HL : Hid (liv S k = false) := by show liv S k = false; unfold liv hits; rw [hk]
  clear h hk
  go_enter Tryz.func37, Tryz.ntmps37
  go_wp2;go_ret;exact ⟨by rw [HL.out]; rfl, rfl⟩
 | some p =>
  have hl := h.look_some hk;have hv := lives_at (c k) p.zom w (h.cells hk).2.1;have hn2 := ne_proc (c k)
  have HL : Hid (liv S k = !p.zom) := by show liv S k = !p.zom; unfold liv hits; rw [hk]
  clear h hk;generalize c k = cc at *
  go_enter Tryz.func37, Tryz.ntmps37
  go_wp2_with fail
  refine hv.mono ?_;rintro e w1 ⟨rfl, hw⟩;rw [hw];clear hw w1 hv;go_wp2;go_ret;exact ⟨by rw [HL.out]; rfl, rfl⟩
end Pc
end Go.Proofs.YtinaeifpoljfoaaGreatDoor
