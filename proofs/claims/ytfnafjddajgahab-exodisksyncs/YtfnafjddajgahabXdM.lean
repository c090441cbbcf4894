/- A kernel of blocks as plain data (no program): its capabilities are for extents of its blocks; what a slot may, which blocks anybody has, the cache's lines, and what the calls answer and leave. -/
import Derived.Test.YtfnafjddajgahabInvM8
import Derived.Test.YtfnafjddajgahabDiskB
namespace Go.Proofs.Ytfnafjddajgahab
open Go.RowKit Ca
set_option linter.unusedVariables false

/-- A capability for an extent of blocks under n. -/
def OkX (n : Nat) (x : Cp) : Prop := x.kind = 2 ∧ 0 ≤ x.id ∧ 1 ≤ x.len ∧ x.id + x.len ≤ n ∧ 1 ≤ x.rights ∧ x.rights ≤ 7
/-- All capabilities are for extents of blocks under n. -/
def XInv (T : Tab) (n : Nat) : Prop := ∀ j, j < 768 → (T j).x = Cp.no ∨ OkX n (T j).x

theorem no_is : Cp.no.is = false := rfl
theorem OkX.is {n : Nat} {x : Cp} (h : OkX n x) : x.is = true := by
  obtain ⟨h1, _⟩ := h
  simp [Cp.is, h1]
theorem XInv.zero (n : Nat) : XInv (fun _ => Hd.no) n := fun _ _ => Or.inl rfl
theorem XInv.ok {T : Tab} {n : Nat} (h : XInv T n) {j : Nat} (hj : j < 768) (hi : (T j).x.is = true) : OkX n (T j).x := by
  rcases h j hj with e | e
  · rw [e, no_is] at hi; cases hi
  · exact e
theorem XInv.sanes {T : Tab} {n : Nat} (h : XInv T n) (hn : n ≤ 1024) : Sanes T := by
  intro j hj
  rcases h j hj with e | ⟨h1, h2, h3, h4, h5, h6⟩
  · rw [e]; exact Sane.no
  · constructor <;> omega
theorem XInv.get {T : Tab} {n : Nat} (h : XInv T n) {e s : Int} (hi : (getT T e s).is = true) : OkX n (getT T e s) := by
  obtain ⟨i, hi', _, hx, _⟩ := get_slot hi
  rw [hx] at hi ⊢
  exact h.ok hi' hi
theorem XInv.put {T : Tab} {n : Nat} (h : XInv T n) (m : Nat) (H : Hd) (hH : OkX n H.x) : XInv (putT T m H) n := by
  intro j hj
  unfold putT
  split
  · by_cases e : j = m * 64 + freeT T m
    · subst e; rw [Tab.set_same]; exact Or.inr hH
    · rw [Tab.set_other _ _ _ _ e]; exact h j hj
  · exact h j hj
theorem XInv.add {T : Tab} {n : Nat} (h : XInv T n) (e f k : Int) (h0 : 0 ≤ f) (h1 : 1 ≤ k) (h2 : f + k ≤ n) : XInv (addT T e ⟨2, f, k, 7⟩) n := by
  unfold addT
  split
  · exact h.put _ _ ⟨rfl, h0, h1, h2, (by decide : (1 : Int) ≤ 7), (by decide : (7 : Int) ≤ 7)⟩
  · exact h
theorem XInv.give {T : Tab} {n : Nat} (h : XInv T n) (e s q r : Int) : XInv (giveT T e s q r) n := by
  unfold giveT
  split
  · rename_i hg
    split
    · simp only [giveOK, Bool.and_eq_true] at hg
      obtain ⟨h1, h2, h3, h4, h5, h6⟩ := h.get hg.1
      have hr := hg.2
      simp only [mayG, areR, Bool.and_eq_true, decide_eq_true_eq] at hr
      exact h.put _ _ ⟨h1, h2, h3, h4, hr.1.2.1, hr.1.2.2⟩
    · exact h
  · exact h
theorem XInv.drop {T : Tab} {n : Nat} (h : XInv T n) (e s : Int) : XInv (dropT T e s) n := by
  intro j hj
  unfold dropT
  split
  · by_cases he : j = dropJ e s
    · subst he; rw [Tab.set_same]; exact Or.inl rfl
    · rw [Tab.set_other _ _ _ _ he, hoTo_x]; exact h j hj
  · exact h j hj
theorem XInv.gone {T : Tab} {n : Nat} (h : XInv T n) (e : Int) : ∀ k, XInv (goneT T e k) n
  | 0 => h
  | k + 1 => (h.gone e k).drop _ _
theorem revS_or (T : Tab) (p : Int × Int) (j : Nat) : ∀ i, (revS T p i).1 j = T j ∨ (revS T p i).1 j = Hd.no
  | 0 => Or.inl rfl
  | i + 1 => by
    have ih := revS_or T p j i
    unfold revS
    split
    · exact ih
    · dsimp only [clTo]
      split
      · exact Or.inr rfl
      · exact ih
theorem XInv.revS {T : Tab} {n : Nat} (h : XInv T n) (p : Int × Int) (i : Nat) : XInv (revS T p i).1 n := by
  intro j hj
  rcases revS_or T p j i with e | e
  · rw [e]; exact h j hj
  · rw [e]; exact Or.inl rfl
/-- What Revoke leaves. -/
def revT (T : Tab) (e s : Int) : Tab := if (getT T e s).is = true then (Ca.revS T (e, s) 769).1 else T
def revR (T : Tab) (e s : Int) : Int := if (getT T e s).is = true then 0 else 104
theorem revT_is {T : Tab} {e s : Int} (hi : (getT T e s).is = true) {N : Nat} (hN : (Ca.revS T (e, s) (N + 1)).2.length = N + 1) : revT T e s = (Ca.revS T (e, s) (N + 1)).1 := by
  obtain ⟨i, _, hp, _⟩ := get_slot hi
  have hs : s ≠ 0 := by have := plOf_pos i; rw [hp] at this; exact this
  have hl := revS_len T (e, s) hs (N + 1)
  have := revS_stay (T := T) (p := (e, s)) (i := N + 1) (by omega) (769 - (N + 1))
  rw [show N + 1 + (769 - (N + 1)) = 769 from by omega] at this
  unfold revT
  rw [if_pos hi, this]
theorem XInv.rev {T : Tab} {n : Nat} (h : XInv T n) (e s : Int) : XInv (revT T e s) n := by
  unfold revT
  split
  · exact h.revS _ _
  · exact h

/-- Has the slot something with that right? -/
def hasR (T : Tab) (e s r : Int) : Bool := (getT T e s).is && (bits .and .i64 (getT T e s).rights r != 0)
def extC (T : Tab) (e s r : Int) : Cp := if hasR T e s r = true then getT T e s else Cp.no
/-- May it do that with a block? -/
def mayX (T : Tab) (e s b r : Int) : Bool := hasR T e s r && (decide ((getT T e s).id ≤ b) && decide (b - (getT T e s).id < (getT T e s).len))
theorem mayX_in {T : Tab} {n : Nat} (h : XInv T n) {e s b r : Int} (hm : mayX T e s b r = true) : 0 ≤ b ∧ b < n := by
  simp only [mayX, hasR, Bool.and_eq_true, decide_eq_true_eq] at hm
  obtain ⟨⟨h1, _⟩, h2, h3⟩ := hm
  obtain ⟨_, q1, q2, q3, _⟩ := h.get h1
  omega
/-- Has anybody one for one of the k blocks from f on? -/
def anyX (T : Tab) (f : Int) : Nat → Bool
  | 0 => false
  | k + 1 => anyX T f k || !(holdTo T 2 (f + k) 12).isEmpty
theorem anyX_hit {T : Tab} {f : Int} {k : Nat} (h : (holdTo T 2 (f + k) 12).isEmpty = false) {m : Nat} (hm : k < m) : anyX T f m = true := by
  induction m with
  | zero => omega
  | succ m ih =>
    unfold anyX
    by_cases e : k = m
    · subst e; rw [h]; simp
    · rw [ih (by omega)]; rfl
/-- Are the k from f on blocks? -/
def areX (n : Nat) (f k : Int) : Bool := decide (1 ≤ k) && (decide (0 ≤ f) && decide (f ≤ n - k))
def xallocOK (T : Tab) (n : Nat) (e f k : Int) : Bool := isE e && areX n f k
def xallocA (T : Tab) (n : Nat) (e f k : Int) : Int := if (isE e && areX n f k) = true then (if anyX T f k.toNat = true then 0 else addA T e ⟨2, f, k, 7⟩) else 0
def xallocR (T : Tab) (n : Nat) (e f k : Int) : Int := if (isE e && areX n f k) = true then (if anyX T f k.toNat = true then 104 else addR T e ⟨2, f, k, 7⟩) else 101
def xallocT (T : Tab) (n : Nat) (e f k : Int) : Tab := if (isE e && areX n f k) = true then (if anyX T f k.toNat = true then T else addT T e ⟨2, f, k, 7⟩) else T
theorem XInv.alloc {T : Tab} {n : Nat} (h : XInv T n) (e f k : Int) : XInv (xallocT T n e f k) n := by
  unfold xallocT
  split
  · rename_i hc
    simp only [areX, Bool.and_eq_true, decide_eq_true_eq] at hc
    split
    · exact h
    · exact h.add _ _ _ (by omega) (by omega) (by omega)
  · exact h

/-- A line of the cache: its words, if the block is there; whether they are changed. -/
abbrev Lp := Option (List Int) × Bool
abbrev Lines := Nat → Lp
def Lines.set (l : Lines) (j : Nat) (p : Lp) : Lines := fun i => if i = j then p else l i
theorem Lines.set_same (l : Lines) (j : Nat) (p : Lp) : l.set j p j = p := by simp [Lines.set]
theorem Lines.set_other (l : Lines) (j i : Nat) (p : Lp) (h : i ≠ j) : l.set j p i = l i := by simp [Lines.set, h]
/-- The words of a block as the cache has them, or the disk. -/
def lookW (l : Lines) (vs : List Int) (b : Nat) : List Int := (l b).1.getD (frameOf vs b)
def getL (l : Lines) (vs : List Int) (b : Nat) : Lines := l.set b (some (lookW l vs b), (l b).2)
def putL (l : Lines) (b : Nat) (ws : List Int) : Lines := l.set b (some ws, true)
def syncV (l : Lines) (vs : List Int) : Nat → List Int
  | 0 => vs
  | k + 1 => if (l k).2 = true then splice (syncV l vs k) (k * 32) ((l k).1.getD []) else syncV l vs k
def syncN (l : Lines) : Nat → Nat
  | 0 => 0
  | k + 1 => if (l k).2 = true then syncN l k + 1 else syncN l k
def syncL (l : Lines) (k : Nat) : Lines := fun i => if i < k then ((l i).1, false) else l i
theorem syncN_le (l : Lines) : ∀ k, syncN l k ≤ k
  | 0 => Nat.le_refl _
  | k + 1 => by
    have := syncN_le l k
    unfold syncN
    split <;> omega
theorem syncL_zero (l : Lines) : syncL l 0 = l := by
  funext i
  simp [syncL]
theorem syncL_succ (l : Lines) (k : Nat) : (syncL l k).set k ((l k).1, false) = syncL l (k + 1) := by
  funext i
  unfold Lines.set syncL
  by_cases e : i = k
  · subst e; rw [if_pos rfl, if_pos (by omega)]
  · rw [if_neg e]
    by_cases e2 : i < k
    · rw [if_pos e2, if_pos (by omega)]
    · rw [if_neg e2, if_neg (by omega)]
theorem syncL_same {l : Lines} {k : Nat} (h : (l k).2 = false) : syncL l k = syncL l (k + 1) := by
  rw [← syncL_succ]
  funext i
  unfold Lines.set
  by_cases e : i = k
  · subst e
    rw [if_pos rfl]
    unfold syncL
    rw [if_neg (by omega), ← h]
  · rw [if_neg e]

/-- What the lines keep: a changed one is there, all have as many words as a block. -/
structure LInv (n : Nat) (l : Lines) : Prop where
  ch : ∀ i, i < n → (l i).2 = true → (l i).1.isSome = true
  len : ∀ i, i < n → ∀ ws, (l i).1 = some ws → ws.length = 32
theorem LInv.set {n : Nat} {l : Lines} (h : LInv n l) (j : Nat) (ws : List Int) (b : Bool) (hw : ws.length = 32) : LInv n (l.set j (some ws, b)) := by
  refine ⟨fun i hi hc => ?_, fun i hi ws' hw' => ?_⟩
  · by_cases e : i = j
    · subst e; rw [Lines.set_same]; rfl
    · rw [Lines.set_other _ _ _ _ e] at hc ⊢; exact h.ch i hi hc
  · by_cases e : i = j
    · subst e; rw [Lines.set_same] at hw'; cases hw'; exact hw
    · rw [Lines.set_other _ _ _ _ e] at hw'; exact h.len i hi ws' hw'
theorem LInv.sync {n : Nat} {l : Lines} (h : LInv n l) (k : Nat) : LInv n (syncL l k) := by
  refine ⟨fun i hi hc => ?_, fun i hi ws' hw' => ?_⟩
  · unfold syncL at hc ⊢
    split at hc
    · cases hc
    · rename_i hk; rw [if_neg hk]; exact h.ch i hi hc
  · unfold syncL at hw'
    split at hw'
    · exact h.len i hi ws' hw'
    · exact h.len i hi ws' hw'
theorem lookW_len {n : Nat} {l : Lines} {vs : List Int} (h : LInv n l) (hv : vs.length = n * 32) {b : Nat} (hb : b < n) : (lookW l vs b).length = 32 := by
  unfold lookW
  cases hl : (l b).1 with
  | none => exact frameOf_length vs b n hv hb
  | some ws => exact h.len b hb ws hl
theorem syncV_len {n : Nat} {l : Lines} {vs : List Int} (h : LInv n l) (hv : vs.length = n * 32) : ∀ k, k ≤ n → (syncV l vs k).length = n * 32
  | 0, _ => hv
  | k + 1, hk => by
    have ih := syncV_len h hv k (by omega)
    unfold syncV
    split
    · rename_i hc
      have hs := h.ch k (by omega) hc
      cases hl : (l k).1 with
      | none => rw [hl] at hs; cases hs
      | some ws =>
        have hw := h.len k (by omega) ws hl
        show (splice _ _ ws).length = _
        rw [splice_length _ _ _ (by rw [ih, hw]; omega), ih]
    · exact ih
/-- Behind a Sync the disk has what the cache has changed. -/
theorem syncV_frame {n : Nat} {l : Lines} {vs : List Int} (h : LInv n l) (hv : vs.length = n * 32) (i : Nat) (hi : i < n) : ∀ k, k ≤ n → frameOf (syncV l vs k) i = if i < k ∧ (l i).2 = true then (l i).1.getD [] else frameOf vs i
  | 0, _ => by rw [if_neg (by omega)]; rfl
  | k + 1, hk => by
    have ih := syncV_frame h hv i hi k (by omega)
    have hl := syncV_len h hv k (by omega)
    unfold syncV
    split
    · rename_i hc
      have hs := h.ch k (by omega) hc
      cases hlk : (l k).1 with
      | none => rw [hlk] at hs; cases hs
      | some ws =>
        have hw := h.len k (by omega) ws hlk
        show frameOf (splice _ _ ws) i = _
        rw [frame_splice _ _ n k i hl (by omega) hi hw]
        by_cases e : i = k
        · subst e; rw [if_pos rfl, if_pos ⟨by omega, hc⟩, hlk]; rfl
        · rw [if_neg e, ih]
          by_cases e2 : i < k ∧ (l i).2 = true
          · rw [if_pos e2, if_pos ⟨by omega, e2.2⟩]
          · rw [if_neg e2, if_neg (fun q => e2 ⟨by omega, q.2⟩)]
    · rename_i hc
      rw [ih]
      by_cases e2 : i < k ∧ (l i).2 = true
      · rw [if_pos e2, if_pos ⟨by omega, e2.2⟩]
      · rw [if_neg e2, if_neg (fun q => by
          by_cases e : i = k
          · subst e; exact hc q.2
          · exact e2 ⟨by omega, q.2⟩)]
end Go.Proofs.Ytfnafjddajgahab
