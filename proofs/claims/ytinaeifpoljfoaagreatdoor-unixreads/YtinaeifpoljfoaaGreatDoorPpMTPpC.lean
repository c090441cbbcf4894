import Derived.Test.YtinaeifpoljfoaaGreatDoorOwnR
import Derived.Lib.MinMax
import Derived.Laws.IdiomStrings
set_option linter.all false
set_option maxRecDepth 100000
set_option maxHeartbeats 16000000
namespace Go.Proofs.YtinaeifpoljfoaaGreatDoor
open Go.RowKit
namespace Ow
end Ow
namespace Pp
open Ow
def nums (l : List UInt8) : List Int := l.map (fun b => (b.toNat : Int))
theorem nums_len (l : List UInt8) : (nums l).length = l.length := by simp [nums]
theorem nums_get? {l : List UInt8} {j : Nat} {x : UInt8} (h : l[j]? = some x) : (nums l)[j]? = some (x.toNat : Int) := by simp [nums, h]
theorem nums_app (l m : List UInt8) : nums (l ++ m) = nums l ++ nums m := by simp [nums]
def byt (l : List UInt8) (j : Nat) : Int := (nums l).getD j 0
theorem byt_get {l : List UInt8} {j : Nat} {x : UInt8} (h : l[j]? = some x) : byt l j = (x.toNat : Int) := by
 unfold byt;rw [List.getD_eq_getElem?_getD, nums_get? h]
 rfl
theorem byt_no {l : List UInt8} {j : Nat} (h : l.length ≤ j) : byt l j = 0 := by
 unfold byt;rw [List.getD_eq_getElem?_getD, List.getElem?_eq_none (by rw [nums_len]; exact h)]
 rfl
theorem byt_app_lt {l m : List UInt8} {j : Nat} (h : j < l.length) : byt (l ++ m) j = byt l j := by
 unfold byt;rw [nums_app, List.getD_eq_getElem?_getD, List.getElem?_append_left (by rw [nums_len]; exact h), List.getD_eq_getElem?_getD]
theorem byt_snoc (l : List UInt8) (x : UInt8) : byt (l ++ [x]) l.length = (x.toNat : Int) := byt_get (by simp)
theorem byt_cons (l : List UInt8) (x : UInt8) (j : Nat) : byt (x :: l) (j + 1) = byt l j := by simp [byt, nums]
theorem byt_le (l : List UInt8) (j : Nat) : 0 ≤ byt l j ∧ byt l j ≤ 255 := by
 by_cases h : j < l.length
 ·rw [byt_get (List.getElem?_eq_getElem h)]
  have := (l[j]).toNat_lt;omega
 ·rw [byt_no (by omega)]
  omega
abbrev PS := Nat → Option (List UInt8)
def PS.none : PS := fun _ => Option.none
def PS.set (S : PS) (i : Nat) (o : Option (List UInt8)) : PS := fun k => if k = i then o else S k
theorem PS.set_same (S : PS) (i : Nat) (o : Option (List UInt8)) : S.set i o i = o := if_pos rfl
theorem PS.set_other (S : PS) (i k : Nat) (o : Option (List UInt8)) (h : k ≠ i) : S.set i o k = S k := if_neg h
def has (S : PS) (n : Int) : Bool := decide (0 ≤ n) && decide (n < 16) && (S n.toNat).isSome
theorem has_nat {S : PS} {n : Int} (h : has S n = true) : ∃ (i : Nat) (l : List UInt8), n = (i : Int) ∧ i < 16 ∧ S i = some l := by
 unfold has at h;simp only [Bool.and_eq_true, decide_eq_true_eq] at h;obtain ⟨⟨h1, h2⟩, h3⟩ := h;obtain ⟨l, hl⟩ := Option.isSome_iff_exists.1 h3;exact ⟨n.toNat, l, by omega, by omega, hl⟩
theorem has_of {S : PS} {i : Nat} {l : List UInt8} (hi : i < 16) (hl : S i = some l) : has S (i : Int) = true := by
 unfold has;rw [decide_eq_true (show (0 : Int) ≤ (i : Int) by omega), decide_eq_true (show (i : Int) < 16 by omega), Int.toNat_natCast, hl]
 rfl
theorem has_no {S : PS} {n : Int} (h : has S n = false) : n < 0 ∨ 16 ≤ n ∨ ∃ i : Nat, n = (i : Int) ∧ i < 16 ∧ S i = Option.none := by
 by_cases h1 : n < 0
 ·exact Or.inl h1
 ·by_cases h2 : 16 ≤ n
  ·exact Or.inr (Or.inl h2)
  ·refine Or.inr (Or.inr ⟨n.toNat, by omega, by omega, ?_⟩)
   unfold has at h;rw [decide_eq_true (show 0 ≤ n by omega), decide_eq_true (show n < 16 by omega)] at h
   cases hs : S n.toNat with
   | none => rfl
   | some l => rw [hs] at h; cases h
def inn (S : PS) (n : Int) : List UInt8 := if has S n then (S n.toNat).getD [] else []
theorem inn_of {S : PS} {i : Nat} {l : List UInt8} (hi : i < 16) (hl : S i = some l) : inn S (i : Int) = l := by
 unfold inn;rw [if_pos (has_of hi hl), Int.toNat_natCast, hl]
 rfl
theorem inn_no {S : PS} {n : Int} (h : has S n = false) : inn S n = [] := by
 unfold inn;rw [h]
 rfl
def lowF (S : PS) : Nat → Nat → Nat
 | _, 0 => 16
 | i, k + 1 => if (S i).isNone then i else lowF S (i + 1) k
def free (S : PS) : Nat := lowF S 0 16
theorem lowF_here {S : PS} {i k : Nat} (h : S i = Option.none) : lowF S i (k + 1) = i := by
 unfold lowF;rw [h]
 rfl
theorem lowF_next {S : PS} {i k : Nat} {l : List UInt8} (h : S i = some l) : lowF S i (k + 1) = lowF S (i + 1) k := by
 conv => lhs; unfold lowF
 rw [h]
 rfl
def mkI (S : PS) : Int := if free S < 16 then (free S : Int) else 0
def mkE (S : PS) : Int := if free S < 16 then 0 else 11
def mkS (S : PS) : PS := if free S < 16 then S.set (free S) (some []) else S
def putN (l s : List UInt8) : Nat := min s.length (8 - l.length)
def putL (l s : List UInt8) : List UInt8 := l ++ s.take (8 - l.length)
def puI (S : PS) (n : Int) (s : List UInt8) : Int := if has S n then (putN (inn S n) s : Int) else 0
def puS (S : PS) (n : Int) (s : List UInt8) : PS := if has S n then S.set n.toNat (some (putL (inn S n) s)) else S
def tk (l : List UInt8) (n : Int) : Nat := (min (max n 0) (l.length : Int)).toNat
theorem tk_le (l : List UInt8) (n : Int) : tk l n ≤ l.length := by unfold tk; omega
def taT (S : PS) (n k : Int) : List UInt8 := (inn S n).take (tk (inn S n) k)
def taS (S : PS) (n k : Int) : PS := if has S n then S.set n.toNat (some ((inn S n).drop (tk (inn S n) k))) else S
def Fit8 (S : PS) : Prop := ∀ i l, i < 16 → S i = some l → l.length ≤ 8
theorem fits_none : Fit8 PS.none := fun i l _ h => by cases h
theorem fits_set {S : PS} (h : Fit8 S) {i : Nat} {o : Option (List UInt8)} (ho : ∀ l, o = some l → l.length ≤ 8) : Fit8 (S.set i o) := by
 intro k l hk hl
 by_cases e : k = i
 ·rw [e, PS.set_same] at hl
  exact ho l hl
 ·rw [PS.set_other _ _ _ _ e] at hl
  exact h k l hk hl
def encO : Option (List UInt8) → List Int
 | Option.none => [0]
 | some l => 1 :: (l.length : Int) :: nums l
def encK (S : PS) : Nat → List Int
 | 0 => []
 | k + 1 => encK S k ++ encO (S k)
def encS (S : PS) : List Int := encK S 16
theorem encO_len (o : Option (List UInt8)) (h : ∀ l, o = some l → l.length ≤ 8) : (encO o).length ≤ 10 := by
 cases o with
 | none => simp [encO]
 | some l => simp [encO, nums]; exact h l rfl
theorem encK_len {S : PS} (h : Fit8 S) : ∀ k, k ≤ 16 → (encK S k).length ≤ 10 * k
 | 0, _ => by simp [encK]
 | k + 1, hk => by
  have h1 := encK_len h k (by omega);have h2 := encO_len (S k) (fun l hl => h k l (by omega) hl);simp only [encK, List.length_append];omega
theorem encS_len {S : PS} (h : Fit8 S) : (encS S).length ≤ 160 := encK_len h 16 (Nat.le_refl _)
theorem encK_ext {S T : PS} : ∀ k, (∀ i, i < k → S i = T i) → encK S k = encK T k
 | 0, _ => rfl
 | k + 1, h => by
  simp only [encK];rw [encK_ext k (fun i hi => h i (by omega)), h k (by omega)]
def okB (ws : List Int) : Bool := ws.all (fun x => decide (0 ≤ x) && decide (x ≤ 255))
def unB (ws : List Int) : List UInt8 := ws.map (fun x => UInt8.ofNat (x % 256).toNat)
theorem unB_len (ws : List Int) : (unB ws).length = ws.length := by simp [unB]
theorem unB_nums (l : List UInt8) : unB (nums l) = l := by
 unfold unB nums;rw [List.map_map]
 conv => rhs; rw [← List.map_id l]
 apply List.map_congr_left
 intro x _;have h := x.toNat_lt
 show UInt8.ofNat (((x.toNat : Nat) : Int) % 256).toNat = x
 rw [show (((x.toNat : Nat) : Int) % 256).toNat = x.toNat by omega];simp
theorem okB_nums (l : List UInt8) : okB (nums l) = true := by
 unfold okB nums;rw [List.all_map, List.all_eq_true];intro x _;have h := x.toNat_lt
 show (decide ((0 : Int) ≤ (x.toNat : Int)) && decide ((x.toNat : Int) ≤ 255)) = true
 rw [decide_eq_true (by omega), decide_eq_true (by omega)]
 rfl
theorem nums_unB {ws : List Int} (h : okB ws = true) : nums (unB ws) = ws := by
 unfold okB at h;rw [List.all_eq_true] at h;unfold unB nums;rw [List.map_map]
 conv => rhs; rw [← List.map_id ws]
 apply List.map_congr_left
 intro x hx;have := h x hx;simp only [Bool.and_eq_true, decide_eq_true_eq] at this
 show (((UInt8.ofNat (x % 256).toNat).toNat : Nat) : Int) = x
 rw [show (x % 256).toNat = x.toNat by omega];simp;omega
def rdB : List Int → Option (List UInt8)
 | [] => Option.none
 | c :: t => if 8 < c ∨ (t.length : Int) < c then Option.none else if okB (t.take c.toNat) then some (unB (t.take c.toNat)) else Option.none
def rd1 : List Int → Option (Nat × Option (List UInt8))
 | [] => Option.none
 | x :: r => if 1 < x then Option.none else if x = 0 then some (1, Option.none) else (rdB r).map (fun l => (2 + l.length, some l))
def rdK (S : PS) : Nat → List Int → Nat → Option PS
 | 0, w, i => if w = [] then some S else Option.none
 | k + 1, w, i => match rd1 w with
  | Option.none => Option.none
  | some (n, o) => rdK (S.set i o) k (w.drop n) (i + 1)
def decS (w : List Int) : Option PS := rdK PS.none 16 w 0
theorem rd1_enc (o : Option (List UInt8)) (r : List Int) (h : ∀ l, o = some l → l.length ≤ 8) : rd1 (encO o ++ r) = some ((encO o).length, o) := by
 cases o with
 | none => simp [encO, rd1]
 | some l =>
  have hl := h l rfl
  have ht : (nums l ++ r).take l.length = nums l := by rw [← nums_len l, List.take_left']; rfl
  have h1 : ¬ ((8 : Int) < (l.length : Int) ∨ ((nums l ++ r).length : Int) < (l.length : Int)) := by
   rw [List.length_append, nums_len];omega
  have hB : rdB ((l.length : Int) :: (nums l ++ r)) = some l := by
   rw [rdB, if_neg h1, Int.toNat_natCast, ht, if_pos (okB_nums l), unB_nums]
  show (if (1 : Int) < 1 then Option.none else if (1 : Int) = 0 then some (1, Option.none) else (rdB ((l.length : Int) :: (nums l ++ r))).map (fun l => (2 + l.length, some l))) = _
  rw [if_neg (by omega), if_neg (by omega), hB];simp [encO, nums_len];omega
theorem rdB_back {w : List Int} {l : List UInt8} (hp : ∀ x ∈ w, 0 ≤ x) (h : rdB w = some l) : w.take (1 + l.length) = (l.length : Int) :: nums l ∧ 1 + l.length ≤ w.length ∧ l.length ≤ 8 := by
 cases w with
 | nil => cases h
 | cons c t =>
  have hc := hp c (by simp);rw [rdB] at h
  by_cases h2 : 8 < c ∨ (t.length : Int) < c
  ·rw [if_pos h2] at h; cases h
  ·rw [if_neg h2] at h
   by_cases h3 : okB (t.take c.toNat) = true
   ·rw [if_pos h3] at h
    cases h
    have hl : (t.take c.toNat).length = c.toNat := by rw [List.length_take]; omega
    rw [unB_len, hl, nums_unB h3];refine ⟨?_, by simp; omega, by omega⟩;rw [show 1 + c.toNat = c.toNat + 1 by omega, List.take_succ_cons, show ((c.toNat : Nat) : Int) = c by omega]
   ·rw [if_neg h3] at h; cases h
theorem rd1_back {w : List Int} {n : Nat} {o : Option (List UInt8)} (hp : ∀ x ∈ w, 0 ≤ x) (h : rd1 w = some (n, o)) : w.take n = encO o ∧ n ≤ w.length ∧ 1 ≤ n ∧ (∀ l, o = some l → l.length ≤ 8) := by
 cases w with
 | nil => cases h
 | cons x r =>
  have hx := hp x (by simp);rw [rd1] at h
  by_cases h1 : 1 < x
  ·rw [if_pos h1] at h; cases h
  ·rw [if_neg h1] at h
   by_cases h0 : x = 0
   ·rw [if_pos h0] at h
    cases h
    subst h0;exact ⟨rfl, by simp, by omega, fun l e => by cases e⟩
   ·rw [if_neg h0] at h
    have hx1 : x = 1 := by omega
    subst hx1
    cases hb : rdB r with
    | none => rw [hb] at h; cases h
    | some l =>
     rw [hb] at h
     cases h
     obtain ⟨e1, e2, e3⟩ := rdB_back (fun x hx => hp x (by simp [hx])) hb
     refine ⟨?_, by simp; omega, by omega, fun l' e => by cases e; exact e3⟩
     rw [show 2 + l.length = (1 + l.length) + 1 by omega, List.take_succ_cons, e1]
     rfl
theorem rdK_enc {S T : PS} (hF : Fit8 S) : ∀ k i, i + k = 16 → ∀ E r, E ++ r = encS S → E = encK S i → (∀ j, j < i → T j = S j) → (∀ j, 16 ≤ j → T j = S j) → rdK T k r i = some S
 | 0, i, hi, E, r, h1, h2, h3, h4 => by
  have : r = [] := by
   obtain rfl : i = 16 := by omega
   rw [h2] at h1;exact List.append_cancel_left (h1.trans (List.append_nil _).symm)
  subst this
  have hTS : T = S := by
   funext j
   by_cases hj : j < 16
   ·exact h3 j (by omega)
   ·exact h4 j (by omega)
  rw [rdK, if_pos rfl, hTS]
 | k + 1, i, hi, E, r, h1, h2, h3, h4 => by
  obtain ⟨r2, hr⟩ : ∃ r2, r = encO (S i) ++ r2 := by
   have h5 : ∀ m, i + 1 ≤ m → ∃ z, encK S m = encK S (i + 1) ++ z := by
    intro m hm
    induction m with
    | zero => omega
    | succ m ih =>
     by_cases e : i + 1 = m + 1
     ·rw [e]; exact ⟨[], by simp⟩
     ·obtain ⟨z, hz⟩ := ih (by omega)
      exact ⟨z ++ encO (S m), by simp only [encK, hz]; simp⟩
   obtain ⟨z, hz⟩ := h5 16 (by omega);refine ⟨z, ?_⟩
   have : E ++ r = E ++ (encO (S i) ++ z) := by
    rw [h1, h2]
    show encK S 16 = _
    rw [hz];simp [encK]
   exact List.append_cancel_left this
  subst hr;rw [rdK, rd1_enc (S i) r2 (fun l hl => hF i l (by omega) hl)];dsimp only;rw [List.drop_left' rfl];refine rdK_enc hF k (i + 1) (by omega) (E ++ encO (S i)) r2 (by rw [List.append_assoc]; exact h1) (by rw [h2]; rfl) (fun j hj => ?_) (fun j hj => ?_)
  ·by_cases e : j = i
   ·rw [e, PS.set_same]
   ·rw [PS.set_other _ _ _ _ e]
    exact h3 j (by omega)
  ·rw [PS.set_other _ _ _ _ (by omega)]
   exact h4 j hj
theorem dec_enc {S : PS} (hF : Fit8 S) (h0 : ∀ j, 16 ≤ j → S j = Option.none) : decS (encS S) = some S :=
 rdK_enc hF 16 0 rfl [] _ rfl rfl (fun j hj => by omega) (fun j hj => (h0 j hj).symm)
theorem rdK_back {S : PS} : ∀ k i w, i + k = 16 → ∀ T, (∀ x ∈ w, 0 ≤ x) → Fit8 T → (∀ j, i ≤ j → T j = Option.none) → rdK T k w i = some S → encS S = encK T i ++ w ∧ Fit8 S ∧ (∀ j, 16 ≤ j → S j = Option.none) ∧ (∀ j, j < i → S j = T j)
 | 0, i, w, hi, T, hp, hF, h0, h => by
  by_cases e : w = []
  ·rw [rdK, if_pos e] at h
   cases h
   subst e
   obtain rfl : i = 16 := by omega
   exact ⟨by rw [List.append_nil]; rfl, hF, fun j hj => h0 j hj, fun j _ => rfl⟩
  ·rw [rdK, if_neg e] at h; cases h
 | k + 1, i, w, hi, T, hp, hF, h0, h => by
  rw [rdK] at h
  cases h1 : rd1 w with
  | none => rw [h1] at h; cases h
  | some z =>
   obtain ⟨n, o⟩ := z;rw [h1] at h;dsimp only at h;obtain ⟨e1, e2, e3, e4⟩ := rd1_back hp h1;obtain ⟨f1, f2, f3, f4⟩ := rdK_back k (i + 1) (w.drop n) (by omega) (T.set i o) (fun x hx => hp x (List.mem_of_mem_drop hx)) (fits_set hF e4) (fun j hj => by rw [PS.set_other _ _ _ _ (by omega)]; exact h0 j (by omega)) h;refine ⟨?_, f2, f3, fun j hj => ?_⟩
   ·rw [f1]
    simp only [encK];rw [PS.set_same, encK_ext (S := T.set i o) (T := T) i (fun j hj => PS.set_other _ _ _ _ (by omega)), ← e1, List.append_assoc, List.take_append_drop]
   ·rw [f4 j (by omega)]
    exact PS.set_other _ _ _ _ (by omega)
theorem dec_back {w : List Int} {S : PS} (hp : ∀ x ∈ w, 0 ≤ x) (h : decS w = some S) : encS S = w ∧ Fit8 S ∧ ∀ j, 16 ≤ j → S j = Option.none := by
 obtain ⟨h1, h2, h3, _⟩ := rdK_back 16 0 w rfl PS.none hp fits_none (fun j _ => rfl) h;exact ⟨h1, h2, h3⟩
end Pp
namespace Ow
end Ow
namespace Pp
open Ow
structure Ring (row : Array Value) (o e : Nat) (l : List UInt8) : Prop where
 size : o + 17 ≤ row.size
 el : e < 8
 len : l.length ≤ 8
 eld : row[o + 16]? = some (.int .i64 (e : Nat))
 used : ∀ j, j < 8 → row[o + (e + j) % 8 * 2]? = some (.bool (decide (j < l.length)))
 val : ∀ j, j < 8 → row[o + (e + j) % 8 * 2 + 1]? = some (.int .u8 (byt l j))
theorem Ring.keep {row row' : Array Value} {o e : Nat} {l : List UInt8} (h : Ring row o e l) (hs : row'.size = row.size) (hk : ∀ k, o ≤ k → k < o + 17 → row'[k]? = row[k]?) : Ring row' o e l := by
 refine ⟨by rw [hs]; exact h.size, h.el, h.len, ?_, fun j hj => ?_, fun j hj => ?_⟩
 ·rw [hk _ (by omega) (by omega)]; exact h.eld
 ·rw [hk _ (by omega) (by omega)]; exact h.used j hj
 ·rw [hk _ (by omega) (by omega)]; exact h.val j hj
theorem Ring.snoc {row : Array Value} {o e : Nat} {l : List UInt8} (h : Ring row o e l) (x : UInt8) (hl : l.length < 8) :
  Ring ((row.setIfInBounds (o + (e + l.length) % 8 * 2) (.bool true)).setIfInBounds (o + (e + l.length) % 8 * 2 + 1) (.int .u8 (x.toNat : Int))) o e (l ++ [x]) := by
 have hs := h.size;have he := h.el;refine ⟨by simpa using hs, he, by simp; omega, ?_, fun j hj => ?_, fun j hj => ?_⟩
 ·rw [Array.getElem?_setIfInBounds, if_neg (by omega), Array.getElem?_setIfInBounds, if_neg (by omega)]; exact h.eld
 ·rw [Array.getElem?_setIfInBounds, if_neg (by omega), Array.getElem?_setIfInBounds]
  by_cases ej : j = l.length
  ·subst ej
   rw [if_pos rfl, if_pos (by omega)];simp
  ·have h2 : decide (j < (l ++ [x]).length) = decide (j < l.length) := by
    rw [List.length_append];simp only [List.length_cons, List.length_nil, decide_eq_decide];omega
   rw [if_neg (by omega), h.used j hj, h2]
 ·rw [Array.getElem?_setIfInBounds]
  by_cases ej : j = l.length
  ·subst ej
   rw [if_pos rfl, if_pos (by rw [Array.size_setIfInBounds]; omega), byt_snoc]
  ·rw [if_neg (by omega), Array.getElem?_setIfInBounds, if_neg (by omega), h.val j hj]
   rcases Nat.lt_or_ge j l.length with q | q
   ·rw [byt_app_lt q]
   ·rw [byt_no q, byt_no (by simp; omega)]
theorem Ring.pop {row : Array Value} {o e : Nat} {x : UInt8} {l : List UInt8} (h : Ring row o e (x :: l)) :
  Ring (((row.setIfInBounds (o + e * 2) (.bool false)).setIfInBounds (o + e * 2 + 1) (.int .u8 0)).setIfInBounds (o + 16) (.int .i64 (((e + 1) % 8 : Nat) : Int))) o ((e + 1) % 8) l := by
 have hs := h.size;have he := h.el;have hl := h.len;rw [List.length_cons] at hl;refine ⟨by simpa using hs, by omega, by omega, ?_, fun j hj => ?_, fun j hj => ?_⟩
 ·rw [Array.getElem?_setIfInBounds, if_pos rfl, if_pos (by rw [Array.size_setIfInBounds, Array.size_setIfInBounds]; omega)]
 ·rw [Array.getElem?_setIfInBounds, if_neg (by omega), Array.getElem?_setIfInBounds, if_neg (by omega), Array.getElem?_setIfInBounds]
  by_cases ej : j = 7
  ·subst ej
   rw [if_pos (by omega), if_pos (by omega), decide_eq_false (by omega)]
  ·have := h.used (j + 1) (by omega)
   rw [if_neg (by omega), show ((e + 1) % 8 + j) % 8 = (e + (j + 1)) % 8 by omega, this, List.length_cons];simp only [Nat.add_lt_add_iff_right]
 ·rw [Array.getElem?_setIfInBounds, if_neg (by omega), Array.getElem?_setIfInBounds]
  by_cases ej : j = 7
  ·subst ej
   rw [if_pos (by omega), if_pos (by rw [Array.size_setIfInBounds]; omega), byt_no (by omega)]
  ·have := h.val (j + 1) (by omega)
   rw [if_neg (by omega), Array.getElem?_setIfInBounds, if_neg (by omega), show ((e + 1) % 8 + j) % 8 = (e + (j + 1)) % 8 by omega, this, byt_cons]
def PB (w : World) (b : Nat) (row : Array Value) : Prop := w.heap[b]? = some (.cells row 160)
section
variable {w w' : World} {b : Nat} {row : Array Value}
theorem PB.lt (h : PB w b row) : b < w.heap.size := lt_of_heap h
theorem PB.keep (h : PB w b row) (hb : w'.heap[b]? = w.heap[b]?) : PB w' b row := hb.trans h
theorem PB.below (h : PB w b row) (hb : Below w.heap.size w w') : PB w' b row := h.keep (hb.block _ h.lt)
theorem PB.drew (h : PB w b row) : PB w.drew b row := h
theorem PB.cell (h : PB w b row) (i : Nat) : w.cell? ⟨b, i, none⟩ = row[i]? := cell_of_heap h
theorem PB.free (h : PB w b row) (i : Nat) : w.frozen? ⟨b, i, none⟩ = false := frozen_of_heap h
theorem PB.set (h : PB w b row) (i : Nat) (v : Value) : PB (w.setCell ⟨b, i, none⟩ v) b (row.setIfInBounds i v) := by
 unfold PB at *;rw [setCell_eq_setRow w b i _ _ _ _ h, setRow_heap w b _ _ _ _ h]
end
theorem at_at (b o e i : Nat) (l : List UInt8) (row : Array Value) (w : World) (hb : PB w b row) (hr : Ring row o e l) (hi : i ≤ 16) :
  Calls Tryz.prog 108 #[.pointer (some ⟨b, o, none⟩), .int .i64 i] w fun x w' => x = .returned (.pointer (some ⟨b, o + (e + i) % 8 * 2, none⟩)) ∧ w' = w.drew := by
 have c0 := (hb.cell (o + 16)).trans hr.eld;have c1 := (hb.drew.cell (o + 16)).trans hr.eld;have he := hr.el
 have hsum : IntKind.i64.wrap ((e : Int) + (i : Int)) = (e : Int) + (i : Int) := by simp [IntKind.wrap, IntKind.bits, IntKind.signed]; omega
 obtain ⟨p, hp⟩ : ∃ p, p = (e + i) % 8 := ⟨_, rfl⟩
 have hp8 : p < 8 := by omega
 have hrem : ((e : Int) + (i : Int)).tmod 8 = (p : Int) := by rw [hp, Int.tmod_eq_emod_of_nonneg (by omega)]; omega
 have hrem2 : ((e : Int) + (i : Int)) % 8 = (p : Int) := by rw [hp]; omega
 have hpi : (p : Int) < 8 := by omega
 rw [← hp];clear hb hr hp
 go_enter Tryz.func108, Tryz.ntmps108
 go_wp2_with fail
 go_region
 all_goals
  go_wp2;go_ret;exact ⟨rfl, rfl⟩
theorem length_at (b o e : Nat) (l : List UInt8) (row : Array Value) (w : World) (hb : PB w b row) (hr : Ring row o e l) :
  Calls Tryz.prog 107 #[.pointer (some ⟨b, o, none⟩)] w fun x w' => x = .returned (.int .i64 l.length) ∧ Below w.heap.size w w' := by
 have HH : Hid (PB w b row) := hb;have HR : Hid (Ring row o e l) := hr;have hl := hr.len;generalize hL : l.length = L at *;have HL : Hid (l.length = L) := hL;clear hb hr hL
 go_enter Tryz.func107, Tryz.ntmps107
 go_wp2
 go_loopw [3] (fun s wr => ∃ (k : Nat), k ≤ L ∧ s = .int .i64 k ∧ Below w.heap.size w wr) (fun s _ => 8 - (intOf s).toNat)
 case atStart => exact ⟨0, by omega, rfl, Below.refl _ _⟩
 case round =>
  obtain ⟨k, hk, rfl, hB⟩ := hrel;have HB : Hid (Below w.heap.size w wr) := hB
  by_cases h8 : k < 8
  ·have hP := HH.out.below hB
   have g0 : decide ((k : Int) < 8) = true := decide_eq_true (by omega);have hA := at_at b o e k l row wr hP HR.out (by omega);have c0 := (hP.drew.cell _).trans (HR.out.used k h8);generalize (e + k) % 8 = p at *;rw [HL.out] at c0
   by_cases hlt : k < L
   ·rw [decide_eq_true hlt] at c0
    clear hP hB
    go_wp2_with fail
    refine hA.mono ?_;rintro x w1 ⟨rfl, hw⟩;rw [hw];clear hw w1 hA;go_wp2;go_roundw
    case rel => exact ⟨k + 1, by omega, by go_num, HB.out.drew⟩
    case measure => simp [intOf]; omega
   ·rw [decide_eq_false hlt] at c0
    obtain rfl : k = L := by omega
    clear hP hB hlt
    go_wp2_with fail
    refine hA.mono ?_;rintro x w1 ⟨rfl, hw⟩;rw [hw];clear hw w1 hA;go_wp2;go_ret;exact ⟨rfl, HB.out.drew⟩
  ·have g0 : decide ((k : Int) < 8) = false := decide_eq_false (by omega)
   obtain rfl : k = L := by omega
   clear hB;go_wp2;go_ret;exact ⟨rfl, HB.out⟩
end Pp
end Go.Proofs.YtinaeifpoljfoaaGreatDoor
namespace Go.Proofs.YtinaeifpoljfoaaGreatDoor
open Go.RowKit Go.Lib
namespace Ow
end Ow
namespace Pp
open Ow
abbrev tx (l : List UInt8) : Value := .string ⟨l.toArray⟩
theorem tx_index (l : List UInt8) (j : Nat) (h : j < l.length) (W : World) : (Instr.index 9 (tx l) (.int .i64 (j : Int))).run Tryz.prog W = .ok (.int .u8 (byt l j)) W := by
 rw [run_index_string W _ _ _ _ Tryz.underlying9];rw [dif_pos (by simp [ByteArray.size]; omega)];rw [byt_get (List.getElem?_eq_getElem h)]
 have h1 : (ByteArray.mk l.toArray)[((j : Int)).toNat]'(by simp [ByteArray.size]; omega) = l[j] := by
  show l.toArray[((j : Int)).toNat]'_ = _
  simp
 rw [h1]
def Same (o : Nat) (row row' : Array Value) : Prop := row'.size = row.size ∧ ∀ i, (i < o ∨ o + 17 ≤ i) → row'[i]? = row[i]?
theorem Same.refl (o : Nat) (row : Array Value) : Same o row row := ⟨rfl, fun _ _ => rfl⟩
theorem Same.trans {o : Nat} {a b c : Array Value} (h : Same o a b) (k : Same o b c) : Same o a c := ⟨k.1.trans h.1, fun i hi => (k.2 i hi).trans (h.2 i hi)⟩
theorem Same.set {o : Nat} (row : Array Value) (i : Nat) (v : Value) (h1 : o ≤ i) (h2 : i < o + 17) : Same o row (row.setIfInBounds i v) :=
 ⟨by simp, fun k hk => by rw [Array.getElem?_setIfInBounds, if_neg (by omega)]⟩
theorem take_snoc {s : List UInt8} {k : Nat} {x : UInt8} (h : s[k]? = some x) : s.take (k + 1) = s.take k ++ [x] := by
 rw [List.take_add_one, h]
 rfl
theorem rput_at (b o e : Nat) (l s : List UInt8) (row : Array Value) (w : World) (hb : PB w b row) (hr : Ring row o e l) :
  Calls Tryz.prog 96 #[.pointer (some ⟨b, o, none⟩), tx s] w fun x w' => x = .returned (.int .i64 (putN l s)) ∧ ∃ row', PB w' b row' ∧ Ring row' o e (putL l s) ∧ Same o row row' ∧ Upd b w w' := by
 have hL := length_at b o e l row w hb hr;have HH : Hid (PB w b row) := hb;have HR : Hid (Ring row o e l) := hr;have hl8 := hr.len
 have hsz : (ByteArray.mk s.toArray).size = s.length := by simp [ByteArray.size]
 have hN : min (s.length : Int) (8 - (l.length : Int)) = (putN l s : Int) := by unfold putN; omega
 have HP : Hid (putL l s = l ++ s.take (putN l s)) := by
  show _ = _
  unfold putL putN;rw [List.append_cancel_left_eq]
  rcases Nat.le_total s.length (8 - l.length) with q | q
  ·rw [Nat.min_eq_left q, List.take_of_length_le q, List.take_length]
  ·rw [Nat.min_eq_right q]
 have hn8 : putN l s ≤ 8 - l.length ∧ putN l s ≤ s.length := by unfold putN; omega
 have hwl : IntKind.i64.wrap (8 - (l.length : Int)) = 8 - (l.length : Int) := by simp [IntKind.wrap, IntKind.bits, IntKind.signed]; omega
 generalize putN l s = n at *;generalize hq : l.length = L at *;have HQ : Hid (l.length = L) := hq;generalize hq2 : s.length = sl at *;have HQ2 : Hid (s.length = sl) := hq2;obtain ⟨hn8, hns⟩ := hn8;clear hb hr hq hq2
 go_enter Tryz.func96, Tryz.ntmps96
 go_wp2_with fail
 refine hL.mono ?_;rintro x w1 ⟨rfl, hb1⟩;have HB1 : Hid (Below w.heap.size w w1) := hb1;clear hL hb1;go_wp2
 go_loopw [16] (fun i wr => ∃ (k : Nat) (row' : Array Value), k ≤ n ∧ i = .int .i64 k ∧ PB wr b row' ∧ Ring row' o e (l ++ s.take k) ∧ Same o row row' ∧ Upd b w wr) (fun i _ => n - (intOf i).toNat)
 case atStart => exact ⟨0, row, by omega, rfl, HH.out.below HB1.out, by simpa using HR.out, Same.refl _ _, Upd.of_below HB1.out⟩
 case round =>
  clear HB1 hN;obtain ⟨k, row', hk, rfl, hP, hRg, hSm, hU⟩ := hrel;have HPB : Hid (PB wr b row') := hP;have HRg : Hid (Ring row' o e (l ++ s.take k)) := hRg;have HSm : Hid (Same o row row') := hSm;have HU : Hid (Upd b w wr) := hU
  by_cases hlt : k < n
  ·have g0 : decide ((k : Int) < (n : Int)) = true := decide_eq_true (by omega)
   have hks : k < s.length := by rw [HQ2.out]; omega
   have hlen : (l ++ s.take k).length = L + k := by rw [List.length_append, List.length_take, HQ.out]; omega
   have hA := at_at b o e (L + k) _ row' wr.drew hP.drew hRg (by omega);have hix := tx_index s k hks
   have hsum : IntKind.i64.wrap ((L : Int) + (k : Int)) = (L : Int) + (k : Int) := by simp [IntKind.wrap, IntKind.bits, IntKind.signed]; omega
   have c0 : wr.drew.drew.cell? ⟨b, o + (e + (L + k)) % 8 * 2, none⟩ = _ := (hP.drew.drew.cell _).trans (hRg.used (L + k) (by omega));have c1 : wr.drew.drew.cell? ⟨b, o + (e + (L + k)) % 8 * 2 + 1, none⟩ = _ := (hP.drew.drew.cell _).trans (hRg.val (L + k) (by omega));have f0 : wr.drew.drew.frozen? ⟨b, o + (e + (L + k)) % 8 * 2, none⟩ = false := hP.drew.drew.free _;have f1 : wr.drew.drew.frozen? ⟨b, o + (e + (L + k)) % 8 * 2 + 1, none⟩ = false := hP.drew.drew.free _;obtain ⟨x, hx⟩ : ∃ x, s[k]? = some x := ⟨s[k], List.getElem?_eq_getElem hks⟩;have HT : Hid (s.take (k + 1) = s.take k ++ [x]) := take_snoc hx;rw [byt_get hx] at hix;have HNew := hRg.snoc x (by omega);rw [hlen] at HNew;rw [decide_eq_false (by omega)] at c0;rw [byt_no (by omega)] at c1;rw [Int.natCast_add] at hA
   have hpp : (e + (L + k)) % 8 < 8 := by omega
   generalize (e + (L + k)) % 8 = p at *;generalize hxx : (x.toNat : Int) = xn at *;have HN : Hid (Ring ((row'.setIfInBounds (o + p * 2) (.bool true)).setIfInBounds (o + p * 2 + 1) (.int .u8 xn)) o e ((l ++ s.take k) ++ [x])) := HNew;clear hP hRg hSm hU hx hlen HNew hxx
   go_wp2_with fail
   have c0' : wr.cell? ⟨b, o + p * 2, none⟩ = _ := c0;have c1' : wr.cell? ⟨b, o + p * 2 + 1, none⟩ = _ := c1;have f0' : wr.frozen? ⟨b, o + p * 2, none⟩ = false := f0;have f1' : wr.frozen? ⟨b, o + p * 2 + 1, none⟩ = false := f1
   go_region_with (go_at_call 108; refine hA.mono ?_; rintro x2 w2 ⟨rfl, hw⟩; rw [hw]; clear hw w2)
   all_goals
    go_wp2;go_roundw
    case rel =>
     refine ⟨k + 1, _, by omega, by go_num, PB.set (PB.set (PB.drew (PB.drew HPB.out)) _ _) _ _, ?_, HSm.out.trans ((Same.set _ _ _ (by omega) (by omega)).trans (Same.set _ _ _ (by omega) (by omega))), HU.out.trans (((Upd.drew b _).trans (Upd.drew b _)).trans ((Upd.setCell _ _ _ _).trans (Upd.setCell _ _ _ _)))⟩;rw [HT.out, ← List.append_assoc];exact HN.out
    case measure => simp [intOf]; omega
  ·obtain rfl : k = n := by omega
   have g0 : decide ((k : Int) < (k : Int)) = false := decide_eq_false (by omega);clear hP hRg hSm hU;go_wp2;go_ret;refine ⟨rfl, row', HPB.out, ?_, HSm.out, HU.out⟩;rw [HP.out];exact HRg.out
end Pp
namespace Ow
end Ow
namespace Pp
open Ow
theorem byteInfo : (Tryz.prog.info? 5).map (fun i => (i.zero, i.size, i.bytes)) = some (some (.int .u8 0), 1, 1) := by kernel_rfl
def Bt (w : World) (g : Nat) (l : List UInt8) : Prop := ∃ cur, w.heap[g]? = some (.cells cur 5 (0, 0)) ∧ l.length ≤ cur.size ∧ ∀ j, j < l.length → cur[j]? = some (.int .u8 (byt l j))
theorem Bt.keep {w w' : World} {g : Nat} {l : List UInt8} (h : Bt w g l) (hb : w'.heap[g]? = w.heap[g]?) : Bt w' g l := by
 obtain ⟨cur, h1, h2⟩ := h;exact ⟨cur, hb.trans h1, h2⟩
theorem Bt.lt {w : World} {g : Nat} {l : List UInt8} (h : Bt w g l) : g < w.heap.size := by
 obtain ⟨cur, h1, h2⟩ := h;exact lt_of_heap h1
theorem Bt.cell {w : World} {g : Nat} {l : List UInt8} (h : Bt w g l) {j : Nat} (hj : j < l.length) : w.cell? ⟨g, j, none⟩ = some (.int .u8 (byt l j)) := by
 obtain ⟨cur, h1, h2, h3⟩ := h;rw [cell_of_heap h1];exact h3 j hj
theorem Bt.ne {w : World} {g b : Nat} {l : List UInt8} {row : Array Value} (h : Bt w g l) (hb : PB w b row) : g ≠ b := by
 obtain ⟨cur, h1, h2⟩ := h;intro e;unfold PB at hb;rw [← e, h1] at hb;simp only [Option.some.injEq, Obj.cells.injEq] at hb;exact absurd hb.2.1 (by decide)
theorem byt_take {l : List UInt8} {m j : Nat} (h : j < (l.take m).length) : byt (l.take m) j = byt l j := by
 have h1 : j < m ∧ j < l.length := by rw [List.length_take] at h; omega
 rw [byt_get (l := l.take m) (x := l[j]) (by rw [List.getElem?_take_of_lt h1.1]; exact List.getElem?_eq_getElem h1.2), byt_get (List.getElem?_eq_getElem h1.2)]
theorem Bt.take {w : World} {g : Nat} {l : List UInt8} (h : Bt w g l) (m : Nat) : Bt w g (l.take m) := by
 obtain ⟨cur, h1, h2, h3⟩ := h;refine ⟨cur, h1, by rw [List.length_take]; omega, fun j hj => ?_⟩;rw [byt_take hj];exact h3 j (by rw [List.length_take] at hj; omega)
theorem Bt.string {w : World} {g cap : Nat} {l : List UInt8} (h : Bt w g l) : (convert 137 9 (.slice (some ⟨g, 0, none⟩) l.length cap)).run Tryz.prog w = .ok (tx l) w := by
 refine run_convert_bytes_back w _ _ 5 ⟨g, 0, none⟩ cap l Tryz.underlying137 Tryz.underlying5 Tryz.underlying9 (fun j hj => ?_);rw [add0, Nat.zero_add, h.cell hj, byt_get (List.getElem?_eq_getElem hj)]
def brow (l : List UInt8) (k : Nat) : Array Value := ((List.range l.length).map (fun j => Value.int .u8 (if j < k then byt l j else 0))).toArray
theorem brow_zero (l : List UInt8) : brow l 0 = Array.replicate l.length (.int .u8 0) := by
 apply Array.ext
 ·simp [brow]
 ·intro i h1 h2
  simp [brow]
theorem brow_size (l : List UInt8) (k : Nat) : (brow l k).size = l.length := by simp [brow]
theorem brow_get (l : List UInt8) (k j : Nat) (hj : j < l.length) : (brow l k)[j]? = some (.int .u8 (if j < k then byt l j else 0)) := by
 simp [brow, hj]
theorem brow_set (l : List UInt8) (k : Nat) (hk : k < l.length) : (brow l k).setIfInBounds k (.int .u8 (byt l k)) = brow l (k + 1) := by
 apply Array.ext
 ·simp [brow]
 ·intro i h1 h2
  have hi : i < l.length := by rw [brow_size] at h2; exact h2
  have e1 := brow_get l (k + 1) i hi;have e2 := brow_get l k i hi;rw [Array.getElem?_eq_getElem h2] at e1;rw [Array.getElem?_eq_getElem (by rw [brow_size]; exact hi)] at e2;rw [Array.getElem_setIfInBounds (by rw [brow_size]; exact hi)];rw [Option.some.inj e1]
  by_cases q : k = i
  ·subst q
   rw [if_pos rfl, if_pos (by omega)]
  ·rw [if_neg q, Option.some.inj e2]
   by_cases q2 : i < k
   ·rw [if_pos q2, if_pos (by omega)]
   ·rw [if_neg q2, if_neg (by omega)]
theorem brow_bt {w : World} {g : Nat} {l : List UInt8} (h : w.heap[g]? = some (.cells (brow l l.length) 5 (0, 0))) : Bt w g l :=
 ⟨_, h, by rw [brow_size]; exact Nat.le_refl _, fun j hj => by rw [brow_get l _ j hj, if_pos hj]⟩
theorem make_bytes (n : Nat) (hn : n ≤ 8) (w : World) : (Instr.makeSlice 137 (.int .i64 (n : Int)) (.int .i64 (n : Int))).run Tryz.prog w = .ok (.slice (some ⟨w.heap.size, 0, none⟩) n n) (w.alloc (.cells (Array.replicate n (.int .u8 0)) 5)) := by
 have := run_make_flat (P := Tryz.prog) 137 5 (.int .u8 0) (.int .u8 0) 1 1 Tryz.underlying137 byteInfo rfl (by omega) .i64 .i64 n (by omega) (by omega) w;rw [Nat.mul_one] at this;exact this
theorem bytes_at (b o e : Nat) (l : List UInt8) (row : Array Value) (w : World) (hb : PB w b row) (hr : Ring row o e l) :
  Calls Tryz.prog 58 #[.pointer (some ⟨b, o, none⟩)] w fun x w' => ∃ g, x = .returned (.slice (some ⟨g, 0, none⟩) l.length l.length) ∧ w.heap.size ≤ g ∧ Bt w' g l ∧ Below w.heap.size w w' := by
 have hL := length_at b o e l row w hb hr;have HH : Hid (PB w b row) := hb;have HR : Hid (Ring row o e l) := hr;have hl8 := hr.len;have hmk := make_bytes l.length hl8;have HZ : Hid (brow l 0 = Array.replicate l.length (.int .u8 0)) := brow_zero l;have HSt : Hid (∀ k, k < l.length → (brow l k).setIfInBounds k (.int .u8 (byt l k)) = brow l (k + 1)) := brow_set l
 have HFin : Hid (∀ W g, W.heap[g]? = some (.cells (brow l l.length) 5 (0, 0)) → Bt W g l) := fun W g h => brow_bt h
 have HGet : Hid (∀ k, k < l.length → (brow l k)[k]? = some (.int .u8 0)) := fun k hk => by rw [brow_get l k k hk, if_neg (by omega)]
 generalize hq : l.length = L at *;have HQ : Hid (l.length = L) := hq;clear hb hr hq
 go_enter Tryz.func58, Tryz.ntmps58
 go_wp2_with fail
 refine hL.mono ?_;rintro x w1 ⟨rfl, hb1⟩;have HB1 : Hid (Below w.heap.size w w1) := hb1;have hs1 := hb1.size;clear hL hb1;go_wp2;rw [← HZ.out];clear hmk HZ;have HN0 : Hid ((w1.alloc (.cells (brow l 0) 5)).heap[w1.heap.size]? = some (.cells (brow l 0) 5 (0, 0))) := heap_alloc_new _ _;have HB2 : Hid (Below w.heap.size w (w1.alloc (.cells (brow l 0) 5))) := HB1.out.alloc hs1 _;generalize w1.alloc (.cells (brow l 0) 5) = W0 at *;generalize hG : w1.heap.size = G at *;clear hG HB1
 go_loopw [10] (fun i wr => ∃ (k : Nat), k ≤ L ∧ i = .int .i64 k ∧ wr.heap[G]? = some (.cells (brow l k) 5 (0, 0)) ∧ Below w.heap.size w wr) (fun i _ => L - (intOf i).toNat)
 case atStart => exact ⟨0, by omega, rfl, HN0.out, HB2.out⟩
 case round =>
  clear HN0 HB2;obtain ⟨k, hk, rfl, hN, hB⟩ := hrel;have HB : Hid (Below w.heap.size w wr) := hB;have HN : Hid (wr.heap[G]? = some (.cells (brow l k) 5 (0, 0))) := hN
  by_cases hlt : k < L
  ·have g0 : decide ((k : Int) < (L : Int)) = true := decide_eq_true (by omega)
   have hki : (k : Int) < (L : Int) := by omega
   have hP := HH.out.below hB;have hA := at_at b o e k l row wr hP HR.out (by omega);have c0 : wr.drew.cell? ⟨b, o + (e + k) % 8 * 2 + 1, none⟩ = _ := (hP.drew.cell _).trans (HR.out.val k (by omega));have c1 : wr.drew.cell? ⟨G, k, none⟩ = some (.int .u8 0) := (cell_of_heap (w := wr.drew) hN).trans (HGet.out k hlt);have f1 : wr.drew.frozen? ⟨G, k, none⟩ = false := frozen_of_heap (w := wr.drew) hN;have HS : Hid ((brow l k).setIfInBounds k (.int .u8 (byt l k)) = brow l (k + 1)) := HSt.out k hlt;generalize byt l k = z at *;generalize (e + k) % 8 = p at *;clear hP hB hN
   go_wp2_with fail
   refine hA.mono ?_;rintro x w2 ⟨rfl, hw⟩;rw [hw];clear hw w2 hA;go_wp2;go_roundw
   case rel =>
    refine ⟨k + 1, by omega, by go_num, ?_, HB.out.drew.trans ((Upd.setCell G k _ _).below hs1 (by have := HB.out.size; simpa using this))⟩
    show (wr.setCell _ _).heap[G]? = _
    rw [setCell_eq_setRow wr G k _ _ _ _ HN.out, setRow_heap wr G _ _ _ _ HN.out, HS.out]
   case measure => simp [intOf]; omega
  ·obtain rfl : k = L := by omega
   have g0 : decide ((k : Int) < (k : Int)) = false := decide_eq_false (by omega);clear hB hN;go_wp2;go_ret;exact ⟨G, rfl, hs1, HFin.out _ _ HN.out, HB.out⟩
theorem elemB : Tryz.prog.elem 137 = 5 := by kernel_rfl
theorem cut_bytes (g n cap k : Nat) (hk : k ≤ cap) (V : World) : (Instr.slice 137 (.slice (some ⟨g, 0, none⟩) n cap) none (some (.int .i64 (k : Int))) none).run Tryz.prog V = .ok (.slice (some ⟨g, 0, none⟩) k cap) V := by
 obtain ⟨i0, hi0, hzz⟩ := Option.map_eq_some_iff.1 byteInfo;simp only [Prod.mk.injEq] at hzz
 have hk1 : (k : Int) ≤ (cap : Int) := by omega
 rw [run_slice_h V 137 _ _ _ Tryz.underlying137 _ _ (by omega) hk1];simp [sizeOf, typeInfo, elemB, hi0, sliced, Addr.add]
theorem byt_drop0 {l : List UInt8} {k : Nat} {x : UInt8} (h : l[k]? = some x) : l.drop k = x :: l.drop (k + 1) := by
 obtain ⟨hl, he⟩ := List.getElem?_eq_some_iff.1 h;rw [List.drop_eq_getElem_cons hl, he]
theorem rtake_at (b o e : Nat) (l : List UInt8) (n : Int) (row : Array Value) (w : World) (hb : PB w b row) (hr : Ring row o e l) :
  Calls Tryz.prog 261 #[.pointer (some ⟨b, o, none⟩), .int .i64 n] w fun x w' => x = .returned (tx (l.take (tk l n))) ∧ ∃ row' e', PB w' b row' ∧ Ring row' o e' (l.drop (tk l n)) ∧ Same o row row' ∧ Upd b w w' := by
 have hBy := bytes_at b o e l row w hb hr;have HH : Hid (PB w b row) := hb;have HR : Hid (Ring row o e l) := hr;have hl8 := hr.len
 have hm : min (max n 0) (l.length : Int) = (tk l n : Int) := by unfold tk; omega
 have htl := tk_le l n;generalize tk l n = m at *
 have hlt8 : (l.take m).length = m := by rw [List.length_take]; omega
 generalize hq : l.length = L at *;have HQ : Hid (l.length = L) := hq;clear hb hr hq
 go_enter Tryz.func261, Tryz.ntmps261
 go_wp2_with fail
 refine hBy.mono ?_;rintro x w1 ⟨g, rfl, hg, hbt, hb1⟩;have hcut := cut_bytes g L L m htl;have HBt : Hid (Bt w1 g (l.take m)) := hbt.take m;have HB1 : Hid (Below w.heap.size w w1) := hb1;have HP1 : Hid (PB w1 b row) := HH.out.below hb1;have HLT : Hid ((l.take m).length = m) := hlt8;clear hBy hb1 hbt HH hlt8;go_wp2;clear hcut hm
 go_loopw [17] (fun i wr => ∃ (k : Nat) (row' : Array Value) (e' : Nat), k ≤ m ∧ i = .int .i64 k ∧ PB wr b row' ∧ Ring row' o e' (l.drop k) ∧ Same o row row' ∧ Upd b w1 wr) (fun i _ => m - (intOf i).toNat)
 case atStart => exact ⟨0, row, e, by omega, rfl, HP1.out, by simpa using HR.out, Same.refl _ _, Upd.refl _ _⟩
 case round =>
  obtain ⟨k, row', e', hk, rfl, hP, hRg, hSm, hU⟩ := hrel;have HPB : Hid (PB wr b row') := hP;have HRg : Hid (Ring row' o e' (l.drop k)) := hRg;have HSm : Hid (Same o row row') := hSm;have HU : Hid (Upd b w1 wr) := hU
  by_cases hlt : k < m
  ·have g0 : decide ((k : Int) < (m : Int)) = true := decide_eq_true (by omega)
   have hA := at_at b o e' 0 _ row' wr hP hRg (by omega);have he := hRg.el;rw [Nat.add_zero, Nat.mod_eq_of_lt he] at hA;have c0 := (hP.cell _).trans (hRg.used 0 (by omega));have c1 := (hP.cell _).trans (hRg.val 0 (by omega));have c2 := (hP.cell _).trans hRg.eld;rw [show (e' + 0) % 8 = e' by omega] at c0 c1;have f0 := hP.free (o + e' * 2);have f1 := hP.free (o + e' * 2 + 1);have f2 := hP.free (o + 16)
   have n0 : o + e' * 2 ≠ o + 16 := by omega
   have n1 : o + e' * 2 + 1 ≠ o + 16 := by omega
   obtain ⟨x, hx⟩ : ∃ x, l[k]? = some x := ⟨l[k]'(by rw [HQ.out]; omega), List.getElem?_eq_getElem _⟩;have hd := byt_drop0 hx;rw [hd] at hRg;have HN : Hid (Ring (((row'.setIfInBounds (o + e' * 2) (.bool false)).setIfInBounds (o + e' * 2 + 1) (.int .u8 0)).setIfInBounds (o + 16) (.int .i64 (((e' + 1) % 8 : Nat) : Int))) o ((e' + 1) % 8) (l.drop (k + 1))) := hRg.pop
   have hsum : IntKind.i64.wrap ((e' : Int) + 1) = (e' : Int) + 1 := by simp [IntKind.wrap, IntKind.bits, IntKind.signed]; omega
   obtain ⟨p, hp⟩ : ∃ p, p = (e' + 1) % 8 := ⟨_, rfl⟩
   have hrem : ((e' : Int) + 1).tmod 8 = (p : Int) := by rw [hp, Int.tmod_eq_emod_of_nonneg (by omega)]; omega
   have hrem2 : ((e' : Int) + 1) % 8 = (p : Int) := by rw [hp]; omega
   rw [← hp] at HN;have c0' : wr.drew.cell? ⟨b, o + e' * 2, none⟩ = _ := c0;have c1' : wr.drew.cell? ⟨b, o + e' * 2 + 1, none⟩ = _ := c1;have c2' : wr.drew.cell? ⟨b, o + 16, none⟩ = _ := c2;have f0' : wr.drew.frozen? ⟨b, o + e' * 2, none⟩ = false := f0;have f1' : wr.drew.frozen? ⟨b, o + e' * 2 + 1, none⟩ = false := f1;have f2' : wr.drew.frozen? ⟨b, o + 16, none⟩ = false := f2;clear hP hRg hSm hU hx hd hp
   go_wp2_with fail
   refine hA.mono ?_;rintro x2 w2 ⟨rfl, hw⟩;rw [hw];clear hw w2 hA;go_wp2;go_roundw
   case rel =>
    exact ⟨k + 1, _, p, by omega, by go_num, PB.set (PB.set (PB.set (PB.drew HPB.out) _ _) _ _) _ _, HN.out, HSm.out.trans (((Same.set _ _ _ (by omega) (by omega)).trans (Same.set _ _ _ (by omega) (by omega))).trans (Same.set _ _ _ (by omega) (by omega))), HU.out.trans ((Upd.drew b _).trans (((Upd.setCell _ _ _ _).trans (Upd.setCell _ _ _ _)).trans (Upd.setCell _ _ _ _)))⟩
   case measure => simp [intOf]; omega
  ·obtain rfl : k = m := by omega
   have g0 : decide ((k : Int) < (k : Int)) = false := decide_eq_false (by omega)
   have hst : ∀ c, (convert 137 9 (.slice (some ⟨g, 0, none⟩) k c)).run Tryz.prog wr = .ok (tx (l.take k)) wr := fun c => by
    have h1 : Bt wr g (l.take k) := HBt.out.keep (HU.out.block g HBt.out.lt (HBt.out.ne HP1.out));have := h1.string (cap := c);rw [HLT.out] at this;exact this
   clear hP hRg hSm hU;go_wp2;go_ret;exact ⟨rfl, row', e', HPB.out, HRg.out, HSm.out, (Upd.of_below HB1.out).trans HU.out⟩
def nop : List Value := [.bool false, .int .u8 0, .bool false, .int .u8 0, .bool false, .int .u8 0, .bool false, .int .u8 0, .bool false, .int .u8 0, .bool false, .int .u8 0, .bool false, .int .u8 0, .bool false, .int .u8 0]
theorem nop_get (j : Nat) (hj : j < 8) : nop[j * 2]? = some (.bool false) ∧ nop[j * 2 + 1]? = some (.int .u8 0) := by
 obtain rfl | rfl | rfl | rfl | rfl | rfl | rfl | rfl : j = 0 ∨ j = 1 ∨ j = 2 ∨ j = 3 ∨ j = 4 ∨ j = 5 ∨ j = 6 ∨ j = 7 := by omega
 all_goals exact ⟨rfl, rfl⟩
def clr (row : Array Value) (o : Nat) : Array Value := (row.toList.take o ++ nop ++ row.toList.drop (o + 16)).toArray
end Pp
end Go.Proofs.YtinaeifpoljfoaaGreatDoor
