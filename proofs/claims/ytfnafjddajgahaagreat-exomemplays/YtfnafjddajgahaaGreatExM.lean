/- A kernel of frames as plain data (no program): its capabilities are for its frames; which frame a slot has, how many have a frame, which is free, which pages hold. -/
import Derived.Test.YtfnafjddajgahaaGreatInvM8
import Derived.Test.YtfnafjddajgahaaGreatMemAll
import Derived.Test.YtfnafjddajgahaaGreatMmuAll
namespace Go.Proofs.YtfnafjddajgahaaGreat
open Go.RowKit Ca
set_option linter.unusedVariables false

abbrev Pages := Nat → Int → Option (Int × Bool)
def setF (F : Pages) (e : Nat) (f : Int → Option (Int × Bool)) : Pages := fun i => if i = e then f else F i
theorem setF_same (F : Pages) (e : Nat) (f : Int → Option (Int × Bool)) : setF F e f e = f := by simp [setF]
theorem setF_other (F : Pages) (e i : Nat) (f : Int → Option (Int × Bool)) (h : i ≠ e) : setF F e f i = F i := by simp [setF, h]

/-- A capability for a frame under n. -/
def OkC (n : Nat) (x : Cp) : Prop := x.kind = 1 ∧ 0 ≤ x.id ∧ x.id < n ∧ x.len = 1 ∧ 1 ≤ x.rights ∧ x.rights ≤ 7
/-- All capabilities are for frames under n. -/
def KInv (T : Tab) (n : Nat) : Prop := ∀ j, j < 768 → (T j).x = Cp.no ∨ OkC n (T j).x

theorem no_is : Cp.no.is = false := rfl
theorem OkC.is {n : Nat} {x : Cp} (h : OkC n x) : x.is = true := by
  obtain ⟨h1, _⟩ := h
  simp [Cp.is, h1]
theorem KInv.ok {T : Tab} {n : Nat} (h : KInv T n) {j : Nat} (hj : j < 768) (hi : (T j).x.is = true) : OkC n (T j).x := by
  rcases h j hj with e | e
  · rw [e, no_is] at hi; cases hi
  · exact e
theorem KInv.sanes {T : Tab} {n : Nat} (h : KInv T n) (hn : n ≤ 1024) : Sanes T := by
  intro j hj
  rcases h j hj with e | ⟨h1, h2, h3, h4, h5, h6⟩
  · rw [e]; exact Sane.no
  · constructor <;> omega
theorem KInv.get {T : Tab} {n : Nat} (h : KInv T n) {e s : Int} (hi : (getT T e s).is = true) : OkC n (getT T e s) := by
  obtain ⟨i, hi', _, hx, _⟩ := get_slot hi
  rw [hx] at hi ⊢
  exact h.ok hi' hi
theorem KInv.put {T : Tab} {n : Nat} (h : KInv T n) (m : Nat) (H : Hd) (hH : OkC n H.x) : KInv (putT T m H) n := by
  intro j hj
  unfold putT
  split
  · by_cases e : j = m * 64 + freeT T m
    · subst e; rw [Tab.set_same]; exact Or.inr hH
    · rw [Tab.set_other _ _ _ _ e]; exact h j hj
  · exact h j hj
theorem KInv.add {T : Tab} {n : Nat} (h : KInv T n) (e f : Int) (h0 : 0 ≤ f) (h1 : f < n) : KInv (addT T e ⟨1, f, 1, 7⟩) n := by
  unfold addT
  split
  · exact h.put _ _ ⟨rfl, h0, h1, rfl, (by decide : (1 : Int) ≤ 7), (by decide : (7 : Int) ≤ 7)⟩
  · exact h
theorem KInv.give {T : Tab} {n : Nat} (h : KInv T n) (e s q r : Int) : KInv (giveT T e s q r) n := by
  unfold giveT
  split
  · rename_i hg
    split
    · simp only [giveOK, Bool.and_eq_true] at hg
      obtain ⟨h1, h2, h3, h4, h5, h6⟩ := h.get hg.1
      have hr := hg.2
      simp only [mayG, areR, Bool.and_eq_true, decide_eq_true_eq] at hr
      exact h.put _ _ ⟨h1, h2, h3, h4, hr.1.2.1, hr.1.2.2⟩
    · exact h
  · exact h
theorem KInv.drop {T : Tab} {n : Nat} (h : KInv T n) (e s : Int) : KInv (dropT T e s) n := by
  intro j hj
  unfold dropT
  split
  · by_cases he : j = dropJ e s
    · subst he; rw [Tab.set_same]; exact Or.inl rfl
    · rw [Tab.set_other _ _ _ _ he, hoTo_x]; exact h j hj
  · exact h j hj
theorem KInv.gone {T : Tab} {n : Nat} (h : KInv T n) (e : Int) : ∀ k, KInv (goneT T e k) n
  | 0 => h
  | k + 1 => (h.gone e k).drop _ _
theorem revS_or (T : Tab) (p : Int × Int) (j : Nat) : ∀ i, (revS T p i).1 j = T j ∨ (revS T p i).1 j = Hd.no
  | 0 => Or.inl rfl
  | i + 1 => by
    have ih := revS_or T p j i
    unfold revS
    split
    · exact ih
    · dsimp only [clTo]
      split
      · exact Or.inr rfl
      · exact ih
theorem KInv.revS {T : Tab} {n : Nat} (h : KInv T n) (p : Int × Int) (i : Nat) : KInv (revS T p i).1 n := by
  intro j hj
  rcases revS_or T p j i with e | e
  · rw [e]; exact h j hj
  · rw [e]; exact Or.inl rfl
/-- What Revoke leaves. -/
def revT (T : Tab) (e s : Int) : Tab := if (getT T e s).is = true then (Ca.revS T (e, s) 769).1 else T
def revR (T : Tab) (e s : Int) : Int := if (getT T e s).is = true then 0 else 104
theorem revT_is {T : Tab} {e s : Int} (hi : (getT T e s).is = true) {N : Nat} (hN : (Ca.revS T (e, s) (N + 1)).2.length = N + 1) : revT T e s = (Ca.revS T (e, s) (N + 1)).1 := by
  obtain ⟨i, _, hp, _⟩ := get_slot hi
  have hs : s ≠ 0 := by have := plOf_pos i; rw [hp] at this; exact this
  have hl := revS_len T (e, s) hs (N + 1)
  have := revS_stay (T := T) (p := (e, s)) (i := N + 1) (by omega) (769 - (N + 1))
  rw [show N + 1 + (769 - (N + 1)) = 769 from by omega] at this
  unfold revT
  rw [if_pos hi, this]
theorem KInv.rev {T : Tab} {n : Nat} (h : KInv T n) (e s : Int) : KInv (revT T e s) n := by
  unfold revT
  split
  · exact h.revS _ _
  · exact h
theorem KInv.zero (n : Nat) : KInv (fun _ => Hd.no) n := fun j _ => Or.inl rfl

/-- The frame that a slot has, if it has it with these rights. -/
def frm (T : Tab) (e s r : Int) : Option Int := if ((getT T e s).is && among r (getT T e s).rights) = true then some (getT T e s).id else none
theorem KInv.frm {T : Tab} {n : Nat} (h : KInv T n) {e s r f : Int} (hf : frm T e s r = some f) : 0 ≤ f ∧ f < n := by
  unfold Go.Proofs.YtfnafjddajgahaaGreat.frm at hf
  split at hf
  · rename_i hc
    simp only [Bool.and_eq_true] at hc
    obtain ⟨h1, h2, h3, _⟩ := h.get hc.1
    cases hf
    exact ⟨h2, h3⟩
  · cases hf
theorem among0 (r : Int) (h : 0 ≤ r ∧ r ≤ 7) : among 0 r = true := by
  have : ((List.range 8).all fun a => among 0 (a : Nat)) = true := by decide +kernel
  rw [List.all_eq_true] at this
  have := this r.toNat (by simp; omega)
  rwa [Int.toNat_of_nonneg h.1] at this
theorem KInv.frm0 {T : Tab} {n : Nat} (h : KInv T n) (e s : Int) : Go.Proofs.YtfnafjddajgahaaGreat.frm T e s 0 = if (getT T e s).is = true then some (getT T e s).id else none := by
  unfold Go.Proofs.YtfnafjddajgahaaGreat.frm
  cases hi : (getT T e s).is with
  | false => simp
  | true =>
    obtain ⟨_, _, _, _, h5, h6⟩ := h.get hi
    rw [among0 _ ⟨by omega, h6⟩]
    simp

/-- How many slots under k have frame i. -/
def cnt (T : Tab) (k : Nat) (i : Int) : Nat := ((List.range k).filter (fun j => (T j).x.is && (T j).x.id == i)).length
theorem cnt_le (T : Tab) (k : Nat) (i : Int) : cnt T k i ≤ k := by
  have := List.length_filter_le (fun j => (T j).x.is && (T j).x.id == i) (List.range k)
  simpa [cnt] using this
theorem cnt_succ (T : Tab) (k : Nat) (i : Int) : cnt T (k + 1) i = cnt T k i + if ((T k).x.is && (T k).x.id == i) = true then 1 else 0 := by
  unfold cnt
  rw [List.range_succ, List.filter_append, List.length_append]
  congr 1
  simp [List.filter_cons]
  split <;> rfl
theorem cnt_zero (T : Tab) (i : Int) : cnt T 768 i = 0 ↔ ∀ j, j < 768 → (T j).x.is = true → (T j).x.id ≠ i := by
  unfold cnt
  rw [List.length_eq_zero_iff, List.filter_eq_nil_iff]
  constructor
  · intro h j hj hi he
    exact h j (by simpa using hj) (by simp [hi, he])
  · intro h j hj hc
    simp only [Bool.and_eq_true, beq_iff_eq] at hc
    exact h j (by simpa using hj) hc.1 hc.2
/-- Of each frame how many slots under k have it. -/
def refsTo (T : Tab) (k n : Nat) : List Int := (List.range n).map (fun (i : Nat) => ((cnt T k (i : Int) : Nat) : Int))
theorem refsTo_len (T : Tab) (k n : Nat) : (refsTo T k n).length = n := by simp [refsTo]
theorem refsTo_get (T : Tab) (k n i : Nat) (h : i < n) : (refsTo T k n)[i]? = some ((cnt T k (i : Int) : Nat) : Int) := by simp [refsTo, h]
theorem refsTo_zero (T : Tab) (n : Nat) : refsTo T 0 n = List.replicate n 0 := by
  apply List.ext_getElem
  · simp [refsTo]
  · intro i h1 h2
    simp [refsTo, cnt]
theorem refsTo_hit {T : Tab} {k n f : Nat} (hi : (T k).x.is = true) (hf : (T k).x.id = f) (hn : f < n) : refsTo T (k + 1) n = (refsTo T k n).set f (((cnt T k (f : Int) : Nat) : Int) + 1) := by
  apply List.ext_getElem?
  intro i
  rw [List.getElem?_set]
  by_cases hin : i < n
  · rw [refsTo_get _ _ _ _ hin, refsTo_get _ _ _ _ hin, refsTo_len, cnt_succ, hi, hf]
    by_cases e : f = i
    · subst e
      simp [hn]
    · have e2 : ¬ ((f : Int) = (i : Int)) := by omega
      simp [e, e2]
  · have h1 : (refsTo T (k + 1) n)[i]? = none := by rw [List.getElem?_eq_none]; rw [refsTo_len]; omega
    have h2 : (refsTo T k n)[i]? = none := by rw [List.getElem?_eq_none]; rw [refsTo_len]; omega
    rw [h1, h2]
    split
    · rename_i e
      rw [refsTo_len, if_neg (by omega)]
    · rfl
theorem refsTo_miss {T : Tab} {k n : Nat} (hi : (T k).x.is = false) : refsTo T (k + 1) n = refsTo T k n := by
  unfold refsTo
  apply List.map_congr_left
  intro i _
  rw [cnt_succ, hi]
  simp
/-- The place of the first 0. -/
def idx0 (L : List Int) : Int := if L.findIdx (fun x => x == 0) < L.length then ((L.findIdx (fun x => x == 0) : Nat) : Int) else -1
theorem idx0_hit {L : List Int} {k : Nat} (hk : L[k]? = some 0) (hb : ∀ (j : Nat) (x : Int), j < k → L[j]? = some x → x ≠ 0) : idx0 L = (k : Int) := by
  have hl : k < L.length := (List.getElem?_eq_some_iff.1 hk).1
  have e : L.findIdx (fun x => x == 0) = k := by
    rw [List.findIdx_eq hl]
    refine ⟨by have := (List.getElem?_eq_some_iff.1 hk).2; simp [this], fun j hj => ?_⟩
    have hjl : j < L.length := by omega
    have := hb j L[j] hj (List.getElem?_eq_getElem hjl)
    simpa using this
  unfold idx0
  rw [e, if_pos hl]
theorem idx0_miss {L : List Int} (hb : ∀ (j : Nat) (x : Int), L[j]? = some x → x ≠ 0) : idx0 L = -1 := by
  unfold idx0
  rw [if_neg]
  intro h
  have := List.findIdx_getElem (w := h)
  have h2 := hb _ _ (List.getElem?_eq_getElem h)
  simp at this
  exact h2 this
/-- The lowest free frame; -1: there is none. -/
def freeI (T : Tab) (n : Nat) : Int := idx0 (refsTo T 768 n)
theorem freeI_cases (T : Tab) (n : Nat) : (freeI T n = -1 ∧ ∀ i : Nat, i < n → cnt T 768 (i : Int) ≠ 0) ∨ ∃ f : Nat, f < n ∧ freeI T n = (f : Int) ∧ cnt T 768 (f : Int) = 0 ∧ ∀ i : Nat, i < f → cnt T 768 (i : Int) ≠ 0 := by
  by_cases h : (refsTo T 768 n).findIdx (fun x => x == 0) < (refsTo T 768 n).length
  · right
    have hn : (refsTo T 768 n).findIdx (fun x => x == 0) < n := by rw [refsTo_len] at h; exact h
    refine ⟨_, hn, by unfold freeI idx0; rw [if_pos h], ?_, fun i hi => ?_⟩
    · have := List.findIdx_getElem (w := h)
      have h2 := refsTo_get T 768 n _ hn
      rw [List.getElem?_eq_getElem h] at h2
      simp only [beq_iff_eq] at this
      rw [this] at h2
      have := Option.some.inj h2
      omega
    · have := List.not_of_lt_findIdx hi
      have h2 := refsTo_get T 768 n i (by omega)
      rw [List.getElem?_eq_getElem (by omega)] at h2
      rw [Option.some.inj h2] at this
      simpa using this
  · left
    refine ⟨by unfold freeI idx0; rw [if_neg h], fun i hi hc => ?_⟩
    have h2 := refsTo_get T 768 n i hi
    rw [hc] at h2
    apply h
    exact List.findIdx_lt_length_of_exists ⟨0, List.mem_of_getElem? h2, by simp⟩
/-- How many frames are free. -/
def leftN (T : Tab) (n : Nat) : Nat := ((List.range n).filter (fun (i : Nat) => cnt T 768 (i : Int) == 0)).length
theorem leftN_succ (T : Tab) (k : Nat) : leftN T (k + 1) = leftN T k + if cnt T 768 (k : Int) = 0 then 1 else 0 := by
  unfold leftN
  rw [List.range_succ, List.filter_append, List.length_append]
  refine congrArg (HAdd.hAdd _) ?_
  cases h : (cnt T 768 (k : Int) == 0) with
  | true =>
    rw [if_pos (beq_iff_eq.1 h)]
    simp only [List.filter_cons, List.filter_nil, h, if_true, List.length_cons, List.length_nil]
  | false =>
    rw [if_neg (fun e => by rw [e] at h; cases h)]
    simp only [List.filter_cons, List.filter_nil, h, Bool.false_eq_true, if_false, List.length_nil]
theorem leftN_le (T : Tab) (k : Nat) : leftN T k ≤ k := by
  have := List.length_filter_le (fun (i : Nat) => cnt T 768 (i : Int) == 0) (List.range k)
  rw [List.length_range] at this
  exact this
/-- How many have the frame of a slot. -/
def refsN (T : Tab) (e s : Int) : Int := if (getT T e s).is = true then ((cnt T 768 (getT T e s).id : Nat) : Int) else 0
/-- Is the frame in that slot? -/
def atF (T : Tab) (e f : Int) (s : Nat) : Bool := (getT T e ((s + 1 : Nat) : Int)).is && (getT T e ((s + 1 : Nat) : Int)).id == f
/-- The lowest slot that has a frame; 0: none has. -/
def slotI (T : Tab) (e f : Int) : Int := if (List.range 64).findIdx (atF T e f) < 64 then (((List.range 64).findIdx (atF T e f) + 1 : Nat) : Int) else 0
theorem slotI_hit {T : Tab} {e f : Int} {s : Nat} (hs : s < 64) (h0 : atF T e f s = true) (h1 : ∀ j, j < s → atF T e f j = false) : slotI T e f = ((s + 1 : Nat) : Int) := by
  have : (List.range 64).findIdx (atF T e f) = s := by
    rw [List.findIdx_eq (by simpa using hs)]
    refine ⟨by simpa using h0, fun j hj => ?_⟩
    simpa using h1 j hj
  unfold slotI
  rw [this, if_pos hs]
theorem slotI_miss {T : Tab} {e f : Int} (h1 : ∀ j, j < 64 → atF T e f j = false) : slotI T e f = 0 := by
  unfold slotI
  rw [if_neg]
  intro h
  have := List.findIdx_getElem (w := (by simpa using h : (List.range 64).findIdx (atF T e f) < (List.range 64).length))
  rw [List.getElem_range, h1 _ h] at this
  cases this

/-- Which rights a page needs. -/
def prt (w : Bool) : Int := if w then 3 else 1
/-- Does a page hold? -/
def holdB (T : Tab) (e : Nat) (x : Int × Bool) : Bool := hasB T e 1 x.1 (prt x.2)
/-- The pages of an environment that hold. -/
def tidy1 (T : Tab) (e : Nat) (f : Int → Option (Int × Bool)) : Int → Option (Int × Bool) := fun p => match f p with
  | none => none
  | some x => if holdB T e x = true then some x else none
def tidyF (T : Tab) (F : Pages) : Pages := fun e => tidy1 T e (F e)
/-- Pages under k are tidied. -/
def tidyTo (T : Tab) (e : Nat) (f : Int → Option (Int × Bool)) (k : Nat) : Int → Option (Int × Bool) := fun p => if p < (k : Int) then tidy1 T e f p else f p
theorem tidyTo_zero (T : Tab) (e : Nat) (f : Int → Option (Int × Bool)) (hf : ∀ k x, f k = some x → 0 ≤ k ∧ k < 4 ∧ 0 ≤ x.1) : tidyTo T e f 0 = f := by
  funext p
  unfold tidyTo
  split
  · unfold tidy1
    cases h : f p with
    | none => rfl
    | some x => have := hf p x h; omega
  · rfl
theorem tidyTo_four (T : Tab) (e : Nat) (f : Int → Option (Int × Bool)) (hf : ∀ k x, f k = some x → 0 ≤ k ∧ k < 4 ∧ 0 ≤ x.1) : tidyTo T e f 4 = tidy1 T e f := by
  funext p
  unfold tidyTo
  split
  · rfl
  · unfold tidy1
    cases h : f p with
    | none => rfl
    | some x => have := hf p x h; omega
theorem tidyTo_at (T : Tab) (e : Nat) (f : Int → Option (Int × Bool)) (k : Nat) : tidyTo T e f k k = f k := by
  unfold tidyTo
  rw [if_neg (by omega)]
theorem tidyTo_keep {T : Tab} {e : Nat} {f : Int → Option (Int × Bool)} {k : Nat} (h : tidy1 T e f k = f k) : tidyTo T e f (k + 1 : Nat) = tidyTo T e f k := by
  funext p
  unfold tidyTo
  by_cases hp : p = k
  · subst hp
    rw [if_pos (by omega), if_neg (by omega), h]
  · by_cases hq : p < (k : Int)
    · rw [if_pos (by omega), if_pos hq]
    · rw [if_neg (by omega), if_neg hq]
theorem tidyTo_lose {T : Tab} {e : Nat} {f : Int → Option (Int × Bool)} {k : Nat} (h : tidy1 T e f k = none) : tidyTo T e f (k + 1 : Nat) = Mu.unmapF (tidyTo T e f k) k := by
  funext p
  unfold tidyTo Mu.unmapF
  by_cases hp : p = k
  · subst hp
    rw [if_pos (by omega), if_pos rfl, h]
  · rw [if_neg hp]
    by_cases hq : p < (k : Int)
    · rw [if_pos (by omega)]
      exact (if_pos hq).symm
    · rw [if_neg (by omega)]
      exact (if_neg hq).symm
end Go.Proofs.YtfnafjddajgahaaGreat
