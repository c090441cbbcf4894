/- Pipes as plain data: what each call answers and leaves, their words, and what any words say. -/
import Derived.Test.YtpnmaoinnmmfdaaPlain
namespace Go.Proofs.Ytpnmaoinnmmfdaa
open Go.RowKit
set_option linter.unusedVariables false

/-- The bytes of a text as numbers. -/
def nums (l : List UInt8) : List Int := l.map (fun b => (b.toNat : Int))
theorem nums_len (l : List UInt8) : (nums l).length = l.length := by simp [nums]
theorem nums_get? {l : List UInt8} {j : Nat} {x : UInt8} (h : l[j]? = some x) : (nums l)[j]? = some (x.toNat : Int) := by simp [nums, h]
theorem nums_app (l m : List UInt8) : nums (l ++ m) = nums l ++ nums m := by simp [nums]
/-- The byte at a place, 0 where there is none. -/
def byt (l : List UInt8) (j : Nat) : Int := (nums l).getD j 0
theorem byt_get {l : List UInt8} {j : Nat} {x : UInt8} (h : l[j]? = some x) : byt l j = (x.toNat : Int) := by
  unfold byt
  rw [List.getD_eq_getElem?_getD, nums_get? h]
  rfl
theorem byt_no {l : List UInt8} {j : Nat} (h : l.length ≤ j) : byt l j = 0 := by
  unfold byt
  rw [List.getD_eq_getElem?_getD, List.getElem?_eq_none (by rw [nums_len]; exact h)]
  rfl
theorem byt_app_lt {l m : List UInt8} {j : Nat} (h : j < l.length) : byt (l ++ m) j = byt l j := by
  unfold byt
  rw [nums_app, List.getD_eq_getElem?_getD, List.getElem?_append_left (by rw [nums_len]; exact h), List.getD_eq_getElem?_getD]
theorem byt_snoc (l : List UInt8) (x : UInt8) : byt (l ++ [x]) l.length = (x.toNat : Int) := byt_get (by simp)
theorem byt_cons (l : List UInt8) (x : UInt8) (j : Nat) : byt (x :: l) (j + 1) = byt l j := by simp [byt, nums]
theorem byt_le (l : List UInt8) (j : Nat) : 0 ≤ byt l j ∧ byt l j ≤ 255 := by
  by_cases h : j < l.length
  · rw [byt_get (List.getElem?_eq_getElem h)]
    have := (l[j]).toNat_lt
    omega
  · rw [byt_no (by omega)]
    omega

/-- Pipes: none, or what is in it. -/
abbrev PS := Nat → Option (List UInt8)
def PS.none : PS := fun _ => Option.none
def PS.set (S : PS) (i : Nat) (o : Option (List UInt8)) : PS := fun k => if k = i then o else S k
theorem PS.set_same (S : PS) (i : Nat) (o : Option (List UInt8)) : S.set i o i = o := if_pos rfl
theorem PS.set_other (S : PS) (i k : Nat) (o : Option (List UInt8)) (h : k ≠ i) : S.set i o k = S k := if_neg h
/-- Numbers of pipes that are. -/
def has (S : PS) (n : Int) : Bool := decide (0 ≤ n) && decide (n < 16) && (S n.toNat).isSome
theorem has_nat {S : PS} {n : Int} (h : has S n = true) : ∃ (i : Nat) (l : List UInt8), n = (i : Int) ∧ i < 16 ∧ S i = some l := by
  unfold has at h
  simp only [Bool.and_eq_true, decide_eq_true_eq] at h
  obtain ⟨⟨h1, h2⟩, h3⟩ := h
  obtain ⟨l, hl⟩ := Option.isSome_iff_exists.1 h3
  exact ⟨n.toNat, l, by omega, by omega, hl⟩
theorem has_of {S : PS} {i : Nat} {l : List UInt8} (hi : i < 16) (hl : S i = some l) : has S (i : Int) = true := by
  unfold has
  rw [decide_eq_true (show (0 : Int) ≤ (i : Int) by omega), decide_eq_true (show (i : Int) < 16 by omega), Int.toNat_natCast, hl]
  rfl
theorem has_no {S : PS} {n : Int} (h : has S n = false) : n < 0 ∨ 16 ≤ n ∨ ∃ i : Nat, n = (i : Int) ∧ i < 16 ∧ S i = Option.none := by
  by_cases h1 : n < 0
  · exact Or.inl h1
  · by_cases h2 : 16 ≤ n
    · exact Or.inr (Or.inl h2)
    · refine Or.inr (Or.inr ⟨n.toNat, by omega, by omega, ?_⟩)
      unfold has at h
      rw [decide_eq_true (show 0 ≤ n by omega), decide_eq_true (show n < 16 by omega)] at h
      cases hs : S n.toNat with
      | none => rfl
      | some l => rw [hs] at h; cases h
/-- What is in it, nothing where there is none. -/
def inn (S : PS) (n : Int) : List UInt8 := if has S n then (S n.toNat).getD [] else []
theorem inn_of {S : PS} {i : Nat} {l : List UInt8} (hi : i < 16) (hl : S i = some l) : inn S (i : Int) = l := by
  unfold inn
  rw [if_pos (has_of hi hl), Int.toNat_natCast, hl]
  rfl
theorem inn_no {S : PS} {n : Int} (h : has S n = false) : inn S n = [] := by
  unfold inn
  rw [h]
  rfl

/-- The lowest number that is free, 16 where there is none. -/
def lowF (S : PS) : Nat → Nat → Nat
  | _, 0 => 16
  | i, k + 1 => if (S i).isNone then i else lowF S (i + 1) k
def free (S : PS) : Nat := lowF S 0 16
theorem lowF_here {S : PS} {i k : Nat} (h : S i = Option.none) : lowF S i (k + 1) = i := by
  unfold lowF
  rw [h]
  rfl
theorem lowF_next {S : PS} {i k : Nat} {l : List UInt8} (h : S i = some l) : lowF S i (k + 1) = lowF S (i + 1) k := by
  conv => lhs; unfold lowF
  rw [h]
  rfl
theorem lowF_le (S : PS) : ∀ k i, i + k ≤ 16 → lowF S i k ≤ 16
  | 0, i, h => Nat.le_refl _
  | k + 1, i, h => by
    unfold lowF
    split
    · omega
    · exact lowF_le S k (i + 1) (by omega)
theorem lowF_none (S : PS) : ∀ k i, i + k = 16 → lowF S i k < 16 → S (lowF S i k) = Option.none
  | 0, i, h, h2 => absurd h2 (by unfold lowF; omega)
  | k + 1, i, h, h2 => by
    cases hs : S i with
    | none => rw [lowF_here hs]; exact hs
    | some l => rw [lowF_next hs] at h2 ⊢; exact lowF_none S k (i + 1) (by omega) h2
theorem free_none {S : PS} (h : free S < 16) : S (free S) = Option.none := lowF_none S 16 0 rfl h
/-- Make: the number, the error, what is there then. -/
def mkI (S : PS) : Int := if free S < 16 then (free S : Int) else 0
def mkE (S : PS) : Int := if free S < 16 then 0 else 11
def mkS (S : PS) : PS := if free S < 16 then S.set (free S) (some []) else S
/-- Put: how many, what is there then. -/
def putN (l s : List UInt8) : Nat := min s.length (8 - l.length)
def putL (l s : List UInt8) : List UInt8 := l ++ s.take (8 - l.length)
def puI (S : PS) (n : Int) (s : List UInt8) : Int := if has S n then (putN (inn S n) s : Int) else 0
def puS (S : PS) (n : Int) (s : List UInt8) : PS := if has S n then S.set n.toNat (some (putL (inn S n) s)) else S
/-- How many bytes are taken. -/
def tk (l : List UInt8) (n : Int) : Nat := (min (max n 0) (l.length : Int)).toNat
theorem tk_le (l : List UInt8) (n : Int) : tk l n ≤ l.length := by unfold tk; omega
def taT (S : PS) (n k : Int) : List UInt8 := (inn S n).take (tk (inn S n) k)
def taS (S : PS) (n k : Int) : PS := if has S n then S.set n.toNat (some ((inn S n).drop (tk (inn S n) k))) else S
def drE (S : PS) (n : Int) : Int := if has S n then 0 else 106
def drS (S : PS) (n : Int) : PS := if has S n then S.set n.toNat Option.none else S

/-- No pipe has more than its size. -/
def Fit8 (S : PS) : Prop := ∀ i l, i < 16 → S i = some l → l.length ≤ 8
theorem fits_none : Fit8 PS.none := fun i l _ h => by cases h
theorem fits_set {S : PS} (h : Fit8 S) {i : Nat} {o : Option (List UInt8)} (ho : ∀ l, o = some l → l.length ≤ 8) : Fit8 (S.set i o) := by
  intro k l hk hl
  by_cases e : k = i
  · rw [e, PS.set_same] at hl
    exact ho l hl
  · rw [PS.set_other _ _ _ _ e] at hl
    exact h k l hk hl
theorem fits_mk {S : PS} (h : Fit8 S) : Fit8 (mkS S) := by
  unfold mkS
  split
  · exact fits_set h (fun l e => by cases e; simp)
  · exact h
theorem putL_len (l s : List UInt8) : (putL l s).length = l.length + putN l s := by
  unfold putL putN
  rw [List.length_append, List.length_take]
  omega
theorem fits_inn {S : PS} (h : Fit8 S) (n : Int) : (inn S n).length ≤ 8 := by
  cases hh : has S n with
  | false => rw [inn_no hh]; simp
  | true =>
    obtain ⟨i, l, rfl, hi, hl⟩ := has_nat hh
    rw [inn_of hi hl]
    exact h i l hi hl
theorem fits_pu {S : PS} (h : Fit8 S) (n : Int) (s : List UInt8) : Fit8 (puS S n s) := by
  unfold puS
  split
  · refine fits_set h (fun l e => ?_)
    cases e
    rw [putL_len]
    unfold putN
    have := fits_inn h n
    omega
  · exact h
theorem fits_ta {S : PS} (h : Fit8 S) (n k : Int) : Fit8 (taS S n k) := by
  unfold taS
  split
  · refine fits_set h (fun l e => ?_)
    cases e
    rw [List.length_drop]
    have := fits_inn h n
    omega
  · exact h
theorem fits_dr {S : PS} (h : Fit8 S) (n : Int) : Fit8 (drS S n) := by
  unfold drS
  split
  · exact fits_set h (fun l e => by cases e)
  · exact h

/-- The words of one. -/
def encO : Option (List UInt8) → List Int
  | Option.none => [0]
  | some l => 1 :: (l.length : Int) :: nums l
/-- The words of the first k. -/
def encK (S : PS) : Nat → List Int
  | 0 => []
  | k + 1 => encK S k ++ encO (S k)
def encS (S : PS) : List Int := encK S 16
theorem encO_len (o : Option (List UInt8)) (h : ∀ l, o = some l → l.length ≤ 8) : (encO o).length ≤ 10 := by
  cases o with
  | none => simp [encO]
  | some l => simp [encO, nums]; exact h l rfl
theorem encK_len {S : PS} (h : Fit8 S) : ∀ k, k ≤ 16 → (encK S k).length ≤ 10 * k
  | 0, _ => by simp [encK]
  | k + 1, hk => by
    have h1 := encK_len h k (by omega)
    have h2 := encO_len (S k) (fun l hl => h k l (by omega) hl)
    simp only [encK, List.length_append]
    omega
theorem encS_len {S : PS} (h : Fit8 S) : (encS S).length ≤ 160 := encK_len h 16 (Nat.le_refl _)
theorem encK_ext {S T : PS} : ∀ k, (∀ i, i < k → S i = T i) → encK S k = encK T k
  | 0, _ => rfl
  | k + 1, h => by
    simp only [encK]
    rw [encK_ext k (fun i hi => h i (by omega)), h k (by omega)]

/-- All are bytes. -/
def okB (ws : List Int) : Bool := ws.all (fun x => decide (0 ≤ x) && decide (x ≤ 255))
/-- Words as bytes, the lowest eight bits of each. -/
def unB (ws : List Int) : List UInt8 := ws.map (fun x => UInt8.ofNat (x % 256).toNat)
theorem unB_len (ws : List Int) : (unB ws).length = ws.length := by simp [unB]
theorem unB_nums (l : List UInt8) : unB (nums l) = l := by
  unfold unB nums
  rw [List.map_map]
  conv => rhs; rw [← List.map_id l]
  apply List.map_congr_left
  intro x _
  have h := x.toNat_lt
  show UInt8.ofNat (((x.toNat : Nat) : Int) % 256).toNat = x
  rw [show (((x.toNat : Nat) : Int) % 256).toNat = x.toNat by omega]
  simp
theorem okB_nums (l : List UInt8) : okB (nums l) = true := by
  unfold okB nums
  rw [List.all_map, List.all_eq_true]
  intro x _
  have h := x.toNat_lt
  show (decide ((0 : Int) ≤ (x.toNat : Int)) && decide ((x.toNat : Int) ≤ 255)) = true
  rw [decide_eq_true (by omega), decide_eq_true (by omega)]
  rfl
theorem nums_unB {ws : List Int} (h : okB ws = true) : nums (unB ws) = ws := by
  unfold okB at h
  rw [List.all_eq_true] at h
  unfold unB nums
  rw [List.map_map]
  conv => rhs; rw [← List.map_id ws]
  apply List.map_congr_left
  intro x hx
  have := h x hx
  simp only [Bool.and_eq_true, decide_eq_true_eq] at this
  show (((UInt8.ofNat (x % 256).toNat).toNat : Nat) : Int) = x
  rw [show (x % 256).toNat = x.toNat by omega]
  simp
  omega
/-- The bytes whose count comes first. -/
def rdB : List Int → Option (List UInt8)
  | [] => Option.none
  | c :: t => if 8 < c ∨ (t.length : Int) < c then Option.none else if okB (t.take c.toNat) then some (unB (t.take c.toNat)) else Option.none
/-- What the first words say: how many they are, and of what; none, if they say nothing. -/
def rd1 : List Int → Option (Nat × Option (List UInt8))
  | [] => Option.none
  | x :: r => if 1 < x then Option.none else if x = 0 then some (1, Option.none) else (rdB r).map (fun l => (2 + l.length, some l))
/-- What so many numbers' words say, from number i on. -/
def rdK (S : PS) : Nat → List Int → Nat → Option PS
  | 0, w, i => if w = [] then some S else Option.none
  | k + 1, w, i => match rd1 w with
    | Option.none => Option.none
    | some (n, o) => rdK (S.set i o) k (w.drop n) (i + 1)
def decS (w : List Int) : Option PS := rdK PS.none 16 w 0
theorem rd1_enc (o : Option (List UInt8)) (r : List Int) (h : ∀ l, o = some l → l.length ≤ 8) : rd1 (encO o ++ r) = some ((encO o).length, o) := by
  cases o with
  | none => simp [encO, rd1]
  | some l =>
    have hl := h l rfl
    have ht : (nums l ++ r).take l.length = nums l := by rw [← nums_len l, List.take_left']; rfl
    have h1 : ¬ ((8 : Int) < (l.length : Int) ∨ ((nums l ++ r).length : Int) < (l.length : Int)) := by
      rw [List.length_append, nums_len]
      omega
    have hB : rdB ((l.length : Int) :: (nums l ++ r)) = some l := by
      rw [rdB, if_neg h1, Int.toNat_natCast, ht, if_pos (okB_nums l), unB_nums]
    show (if (1 : Int) < 1 then Option.none else if (1 : Int) = 0 then some (1, Option.none) else (rdB ((l.length : Int) :: (nums l ++ r))).map (fun l => (2 + l.length, some l))) = _
    rw [if_neg (by omega), if_neg (by omega), hB]
    simp [encO, nums_len]
    omega
theorem rdB_back {w : List Int} {l : List UInt8} (hp : ∀ x ∈ w, 0 ≤ x) (h : rdB w = some l) : w.take (1 + l.length) = (l.length : Int) :: nums l ∧ 1 + l.length ≤ w.length ∧ l.length ≤ 8 := by
  cases w with
  | nil => cases h
  | cons c t =>
    have hc := hp c (by simp)
    rw [rdB] at h
    by_cases h2 : 8 < c ∨ (t.length : Int) < c
    · rw [if_pos h2] at h; cases h
    · rw [if_neg h2] at h
      by_cases h3 : okB (t.take c.toNat) = true
      · rw [if_pos h3] at h
        cases h
        have hl : (t.take c.toNat).length = c.toNat := by rw [List.length_take]; omega
        rw [unB_len, hl, nums_unB h3]
        refine ⟨?_, by simp; omega, by omega⟩
        rw [show 1 + c.toNat = c.toNat + 1 by omega, List.take_succ_cons, show ((c.toNat : Nat) : Int) = c by omega]
      · rw [if_neg h3] at h; cases h
theorem rd1_back {w : List Int} {n : Nat} {o : Option (List UInt8)} (hp : ∀ x ∈ w, 0 ≤ x) (h : rd1 w = some (n, o)) : w.take n = encO o ∧ n ≤ w.length ∧ 1 ≤ n ∧ (∀ l, o = some l → l.length ≤ 8) := by
  cases w with
  | nil => cases h
  | cons x r =>
    have hx := hp x (by simp)
    rw [rd1] at h
    by_cases h1 : 1 < x
    · rw [if_pos h1] at h; cases h
    · rw [if_neg h1] at h
      by_cases h0 : x = 0
      · rw [if_pos h0] at h
        cases h
        subst h0
        exact ⟨rfl, by simp, by omega, fun l e => by cases e⟩
      · rw [if_neg h0] at h
        have hx1 : x = 1 := by omega
        subst hx1
        cases hb : rdB r with
        | none => rw [hb] at h; cases h
        | some l =>
          rw [hb] at h
          cases h
          obtain ⟨e1, e2, e3⟩ := rdB_back (fun x hx => hp x (by simp [hx])) hb
          refine ⟨?_, by simp; omega, by omega, fun l' e => by cases e; exact e3⟩
          rw [show 2 + l.length = (1 + l.length) + 1 by omega, List.take_succ_cons, e1]
          rfl
theorem rdK_enc {S T : PS} (hF : Fit8 S) : ∀ k i, i + k = 16 → ∀ E r, E ++ r = encS S → E = encK S i → (∀ j, j < i → T j = S j) → (∀ j, 16 ≤ j → T j = S j) → rdK T k r i = some S
  | 0, i, hi, E, r, h1, h2, h3, h4 => by
    have : r = [] := by
      obtain rfl : i = 16 := by omega
      rw [h2] at h1
      exact List.append_cancel_left (h1.trans (List.append_nil _).symm)
    subst this
    have hTS : T = S := by
      funext j
      by_cases hj : j < 16
      · exact h3 j (by omega)
      · exact h4 j (by omega)
    rw [rdK, if_pos rfl, hTS]
  | k + 1, i, hi, E, r, h1, h2, h3, h4 => by
    obtain ⟨r2, hr⟩ : ∃ r2, r = encO (S i) ++ r2 := by
      have h5 : ∀ m, i + 1 ≤ m → ∃ z, encK S m = encK S (i + 1) ++ z := by
        intro m hm
        induction m with
        | zero => omega
        | succ m ih =>
          by_cases e : i + 1 = m + 1
          · rw [e]; exact ⟨[], by simp⟩
          · obtain ⟨z, hz⟩ := ih (by omega)
            exact ⟨z ++ encO (S m), by simp only [encK, hz]; simp⟩
      obtain ⟨z, hz⟩ := h5 16 (by omega)
      refine ⟨z, ?_⟩
      have : E ++ r = E ++ (encO (S i) ++ z) := by
        rw [h1, h2]
        show encK S 16 = _
        rw [hz]
        simp [encK]
      exact List.append_cancel_left this
    subst hr
    rw [rdK, rd1_enc (S i) r2 (fun l hl => hF i l (by omega) hl)]
    dsimp only
    rw [List.drop_left' rfl]
    refine rdK_enc hF k (i + 1) (by omega) (E ++ encO (S i)) r2 (by rw [List.append_assoc]; exact h1) (by rw [h2]; rfl) (fun j hj => ?_) (fun j hj => ?_)
    · by_cases e : j = i
      · rw [e, PS.set_same]
      · rw [PS.set_other _ _ _ _ e]
        exact h3 j (by omega)
    · rw [PS.set_other _ _ _ _ (by omega)]
      exact h4 j hj
/-- What is written is read again. -/
theorem dec_enc {S : PS} (hF : Fit8 S) (h0 : ∀ j, 16 ≤ j → S j = Option.none) : decS (encS S) = some S :=
  rdK_enc hF 16 0 rfl [] _ rfl rfl (fun j hj => by omega) (fun j hj => (h0 j hj).symm)
theorem rdK_back {S : PS} : ∀ k i w, i + k = 16 → ∀ T, (∀ x ∈ w, 0 ≤ x) → Fit8 T → (∀ j, i ≤ j → T j = Option.none) → rdK T k w i = some S → encS S = encK T i ++ w ∧ Fit8 S ∧ (∀ j, 16 ≤ j → S j = Option.none) ∧ (∀ j, j < i → S j = T j)
  | 0, i, w, hi, T, hp, hF, h0, h => by
    by_cases e : w = []
    · rw [rdK, if_pos e] at h
      cases h
      subst e
      obtain rfl : i = 16 := by omega
      exact ⟨by rw [List.append_nil]; rfl, hF, fun j hj => h0 j hj, fun j _ => rfl⟩
    · rw [rdK, if_neg e] at h; cases h
  | k + 1, i, w, hi, T, hp, hF, h0, h => by
    rw [rdK] at h
    cases h1 : rd1 w with
    | none => rw [h1] at h; cases h
    | some z =>
      obtain ⟨n, o⟩ := z
      rw [h1] at h
      dsimp only at h
      obtain ⟨e1, e2, e3, e4⟩ := rd1_back hp h1
      obtain ⟨f1, f2, f3, f4⟩ := rdK_back k (i + 1) (w.drop n) (by omega) (T.set i o) (fun x hx => hp x (List.mem_of_mem_drop hx)) (fits_set hF e4) (fun j hj => by rw [PS.set_other _ _ _ _ (by omega)]; exact h0 j (by omega)) h
      refine ⟨?_, f2, f3, fun j hj => ?_⟩
      · rw [f1]
        simp only [encK]
        rw [PS.set_same, encK_ext (S := T.set i o) (T := T) i (fun j hj => PS.set_other _ _ _ _ (by omega)), ← e1, List.append_assoc, List.take_append_drop]
      · rw [f4 j (by omega)]
        exact PS.set_other _ _ _ _ (by omega)
/-- What is read is written again. -/
theorem dec_back {w : List Int} {S : PS} (hp : ∀ x ∈ w, 0 ≤ x) (h : decS w = some S) : encS S = w ∧ Fit8 S ∧ ∀ j, 16 ≤ j → S j = Option.none := by
  obtain ⟨h1, h2, h3, _⟩ := rdK_back 16 0 w rfl PS.none hp fits_none (fun j _ => rfl) h
  exact ⟨h1, h2, h3⟩
end Go.Proofs.Ytpnmaoinnmmfdaa
