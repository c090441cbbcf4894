/- Programs that may be run, in plain lists: places, what can be reached with which depth, and what both ways of finding depths keep; no program is named here. -/
import Derived.Test.YtedkijionpkmmaaCodA
namespace Go.Proofs.Ytedkijionpkmmaa
set_option linter.unusedVariables false

/-- The number of the first instruction that begins at a place; -1: none does. -/
def findP (l : List Ins) (a : Int) : Int :=
  match l.findIdx? (fun i => i.pos == a) with
  | some k => (k : Int)
  | none => -1
theorem findP_cases (l : List Ins) (a : Int) : (findP l a = -1 ∧ ∀ (j : Nat) (x : Ins), l[j]? = some x → x.pos ≠ a) ∨
    ∃ (k : Nat) (i : Ins), findP l a = k ∧ l[k]? = some i ∧ i.pos = a ∧ ∀ (j : Nat) (x : Ins), j < k → l[j]? = some x → x.pos ≠ a := by
  cases h : l.findIdx? (fun i => i.pos == a) with
  | none =>
    refine Or.inl ⟨by unfold findP; rw [h], fun j x hj => ?_⟩
    have := List.findIdx?_eq_none_iff.1 h x (List.mem_of_getElem? hj)
    simpa using this
  | some k =>
    obtain ⟨hk, hp, hn⟩ := List.findIdx?_eq_some_iff_getElem.1 h
    refine Or.inr ⟨k, l[k], by unfold findP; rw [h], List.getElem?_eq_getElem hk, by simpa using hp, fun j x hj hx => ?_⟩
    have := hn j hj
    obtain ⟨hl, rfl⟩ := List.getElem?_eq_some_iff.1 hx
    simpa using this
theorem findP_hit {l : List Ins} {a : Int} {k : Nat} {i : Ins} (hk : l[k]? = some i) (hp : i.pos = a) (hn : ∀ (j : Nat) (x : Ins), j < k → l[j]? = some x → x.pos ≠ a) : findP l a = k := by
  rcases findP_cases l a with ⟨_, h⟩ | ⟨k', i', h1, h2, h3, h4⟩
  · exact absurd hp (h k i hk)
  · rcases Nat.lt_trichotomy k k' with hlt | rfl | hlt
    · exact absurd hp (h4 k i hlt hk)
    · exact h1
    · exact absurd h3 (hn k' i' hlt h2)
theorem findP_miss {l : List Ins} {a : Int} (h : ∀ (j : Nat) (x : Ins), l[j]? = some x → x.pos ≠ a) : findP l a = -1 := by
  rcases findP_cases l a with ⟨h1, _⟩ | ⟨k, i, _, h2, h3, _⟩
  · exact h1
  · exact absurd h3 (h k i h2)
theorem findP_range (l : List Ins) (a : Int) : -1 ≤ findP l a ∧ findP l a < l.length := by
  rcases findP_cases l a with ⟨h1, _⟩ | ⟨k, i, h1, h2, _⟩
  · omega
  · have := (List.getElem?_eq_some_iff.1 h2).1
    omega

/-- What an instruction takes and puts; the depth behind it. -/
def mv (i : Ins) : Int × Int := movesOf i.op i.arg
def nxt (i : Ins) (d : Int) : Int := d - (mv i).1 + (mv i).2
theorem mv_range (i : Ins) : -1 ≤ (mv i).1 ∧ (mv i).1 ≤ 4 ∧ -1 ≤ (mv i).2 ∧ (mv i).2 ≤ 3 := by
  have h := argsOf_low i.arg
  unfold mv movesOf
  (repeat' split) <;> (try dsimp only) <;> omega
theorem mv_puts (i : Ins) (h : 0 ≤ (mv i).1) : 0 ≤ (mv i).2 := by
  revert h
  unfold mv movesOf
  (repeat' split) <;> (try dsimp only) <;> omega

/-- Which instruction is reached, and with which depth: what holds of all that hands depths on, from byte 0 and depth 0. -/
def Reach (l : List Ins) (k : Nat) (d : Int) : Prop := ∀ Q : Nat → Int → Prop, Q 0 0 → (∀ (k : Nat) (d : Int) (i : Ins), Q k d → l[k]? = some i → i.op ≠ 21 → Q (k + 1) (nxt i d)) →
  (∀ (k : Nat) (d : Int) (i : Ins) (j : Nat), Q k d → l[k]? = some i → (i.op = 21 ∨ i.op = 22) → findP l i.arg = j → Q j (nxt i d)) → Q k d
theorem Reach.base {l : List Ins} : Reach l 0 0 := fun _ h _ _ => h
theorem Reach.next {l : List Ins} {k : Nat} {d : Int} {i : Ins} (h : Reach l k d) (hi : l[k]? = some i) (ho : i.op ≠ 21) : Reach l (k + 1) (nxt i d) := fun Q h0 h1 h2 => h1 k d i (h Q h0 h1 h2) hi ho
theorem Reach.jump {l : List Ins} {k : Nat} {d : Int} {i : Ins} {j : Nat} (h : Reach l k d) (hi : l[k]? = some i) (ho : i.op = 21 ∨ i.op = 22) (hf : findP l i.arg = j) : Reach l j (nxt i d) := fun Q h0 h1 h2 => h2 k d i j (h Q h0 h1 h2) hi ho hf
/-- An instruction at which this depth is right. -/
def Sound (l : List Ins) (k : Nat) (d : Int) : Prop := ∃ i, l[k]? = some i ∧ (mv i).1 ≤ d ∧ nxt i d ≤ 32
/-- All that instructions name is there. -/
def Stand (l : List Ins) : Prop := ∀ i ∈ l, ((i.op = 21 ∨ i.op = 22) → 0 ≤ findP l i.arg) ∧ 0 ≤ (mv i).1
/-- The depths of a program that is right. -/
structure Sol (l : List Ins) (D : List Int) : Prop where
  len : D.length = l.length
  low : ∀ x ∈ D, -1 ≤ x
  all : ∀ k d, Reach l k d → D[k]? = some d ∧ 0 ≤ d ∧ Sound l k d
  own : ∀ (k : Nat) d, D[k]? = some d → 0 ≤ d → Reach l k d
theorem Sol.unique {l : List Ins} {D E : List Int} (h : Sol l D) (k : Sol l E) : D = E := by
  apply List.ext_getElem?
  intro j
  by_cases hj : j < l.length
  · obtain ⟨x, hx⟩ : ∃ x, D[j]? = some x := ⟨D[j]'(by rw [h.len]; exact hj), List.getElem?_eq_getElem _⟩
    obtain ⟨y, hy⟩ : ∃ y, E[j]? = some y := ⟨E[j]'(by rw [k.len]; exact hj), List.getElem?_eq_getElem _⟩
    have hx1 := h.low x (List.mem_of_getElem? hx)
    have hy1 := k.low y (List.mem_of_getElem? hy)
    by_cases h0 : 0 ≤ x
    · rw [(k.all j x (h.own j x hx h0)).1, hx]
    · by_cases h1 : 0 ≤ y
      · rw [(h.all j y (k.own j y hy h1)).1, hy]
      · rw [hx, hy]; congr 1; omega
  · rw [List.getElem?_eq_none (by rw [h.len]; omega), List.getElem?_eq_none (by rw [k.len]; omega)]
theorem nxt_low {i : Ins} {d : Int} (h : (mv i).1 ≤ d) (h0 : 0 ≤ (mv i).1) : 0 ≤ nxt i d := by
  have := mv_puts i h0
  unfold nxt
  omega

theorem nxt_ne {i : Ins} {d : Int} (h : (mv i).1 ≤ d) (h0 : 0 ≤ d) : nxt i d ≠ -1 := by
  have := mv_range i
  have hp := mv_puts i
  unfold nxt
  omega

/-- How many instructions have no depth yet. -/
def unm (D : List Int) : Nat := D.count (-1)
theorem unm_set {D : List Int} {k : Nat} {d : Int} (hk : D[k]? = some (-1)) (hd : d ≠ -1) : unm (D.set k d) + 1 = unm D := by
  obtain ⟨hl, he⟩ := List.getElem?_eq_some_iff.1 hk
  have hpos : 0 < D.count (-1) := List.count_pos_iff.2 (List.mem_of_getElem? hk)
  unfold unm
  rw [List.count_set hl, he]
  simp [hd]
  omega
theorem set_get {D : List Int} {k j : Nat} {d x : Int} (h : (D.set k d)[j]? = some x) : (j = k ∧ x = d) ∨ (j ≠ k ∧ D[j]? = some x) := by
  rw [List.getElem?_set] at h
  split at h
  · rename_i e
    split at h
    · exact Or.inl ⟨e.symm, by simpa using h.symm⟩
    · cases h
  · rename_i e
    exact Or.inr ⟨fun x => e x.symm, h⟩
theorem set_at {D : List Int} {k : Nat} {x : Int} (h : D[k]? = some x) (d : Int) : (D.set k d)[k]? = some d := by
  have := (List.getElem?_eq_some_iff.1 h).1
  simp [this]
theorem set_ne {D : List Int} {k j : Nat} {d x : Int} (h : D[j]? = some x) (hn : j ≠ k) : (D.set k d)[j]? = some x := by
  rw [List.getElem?_set, if_neg (fun e => hn e.symm)]
  exact h
theorem set_mem {D : List Int} {k : Nat} {d x : Int} (h : x ∈ D.set k d) : x ∈ D ∨ x = d := List.mem_or_eq_of_mem_set h

/-- What a search keeps: D are the depths so far, left what is still to be gone over. -/
structure Search (l : List Ins) (D : List Int) (left : List (Int × Int)) : Prop where
  len : D.length = l.length
  low : ∀ x ∈ D, -1 ≤ x
  marks : ∀ (k : Nat) d, D[k]? = some d → d ≠ -1 → Reach l k d ∧ Sound l k d ∧ 0 ≤ d
  todo : ∀ x ∈ left, ∃ k : Nat, x.1 = k ∧ k ≤ l.length ∧ Reach l k x.2 ∧ 0 ≤ x.2 ∧ x.2 ≤ 32
  base : D[0]? = some 0 ∨ ((0, 0) : Int × Int) ∈ left
  next : ∀ (k : Nat) d i, D[k]? = some d → d ≠ -1 → l[k]? = some i → i.op ≠ 21 → D[k + 1]? = some (nxt i d) ∨ (((k + 1 : Nat) : Int), nxt i d) ∈ left
  jump : ∀ (k : Nat) d i (j : Nat), D[k]? = some d → d ≠ -1 → l[k]? = some i → (i.op = 21 ∨ i.op = 22) → findP l i.arg = j → D[j]? = some (nxt i d) ∨ ((j : Int), nxt i d) ∈ left

theorem Search.perm {l : List Ins} {D : List Int} {a b : List (Int × Int)} (h : Search l D a) (hp : ∀ x, x ∈ a ↔ x ∈ b) : Search l D b :=
  ⟨h.len, h.low, h.marks, fun x hx => h.todo x ((hp x).2 hx), h.base.imp_right (hp _).1, fun k d i a b c e => (h.next k d i a b c e).imp_right (hp _).1, fun k d i j a b c e f => (h.jump k d i j a b c e f).imp_right (hp _).1⟩
theorem Search.start (l : List Ins) : Search l (List.replicate l.length (-1)) [(0, 0)] := by
  have hr : ∀ (k : Nat) (d : Int), (List.replicate l.length (-1 : Int))[k]? = some d → d = -1 := fun k d h => List.eq_of_mem_replicate (List.mem_of_getElem? h)
  refine ⟨by simp, fun x hx => by rw [List.eq_of_mem_replicate hx]; decide, fun k d h hd => absurd (hr k d h) hd, fun x hx => ?_, Or.inr (by simp), fun k d i h hd => absurd (hr k d h) hd, fun k d i j h hd => absurd (hr k d h) hd⟩
  simp at hx
  subst hx
  exact ⟨0, rfl, Nat.zero_le _, Reach.base, by decide, by decide⟩
theorem Search.done {l : List Ins} {D : List Int} (h : Search l D []) : Sol l D := by
  have hall : ∀ k d, Reach l k d → D[k]? = some d ∧ 0 ≤ d ∧ Sound l k d := by
    intro k d hr
    refine hr (fun k d => D[k]? = some d ∧ 0 ≤ d ∧ Sound l k d) ?_ (fun k d i ih hi hj => ?_) (fun k d i j ih hi hj hf => ?_)
    · have := h.base.resolve_right (by simp)
      exact ⟨this, by decide, (h.marks _ _ this (by decide)).2.1⟩
    · have := (h.next _ _ _ ih.1 (by omega) hi hj).resolve_right (by simp)
      obtain ⟨i2, e1, e2, e3⟩ := ih.2.2
      rw [hi] at e1
      cases e1
      have hx := nxt_ne e2 ih.2.1
      exact ⟨this, (h.marks _ _ this hx).2.2, (h.marks _ _ this hx).2.1⟩
    · have := (h.jump _ _ _ _ ih.1 (by omega) hi hj hf).resolve_right (by simp)
      obtain ⟨i2, e1, e2, e3⟩ := ih.2.2
      rw [hi] at e1
      cases e1
      have hx := nxt_ne e2 ih.2.1
      exact ⟨this, (h.marks _ _ this hx).2.2, (h.marks _ _ this hx).2.1⟩
  exact ⟨h.len, h.low, hall, fun k d hk hd => (h.marks k d hk (by omega)).1⟩
theorem Search.drop {l : List Ins} {D : List Int} {k : Nat} {d : Int} {left : List (Int × Int)} (h : Search l D (((k : Int), d) :: left)) (hk : D[k]? = some d) : Search l D left := by
  have hx : ∀ (j : Nat) (x : Int), D[j]? = some x ∨ ((j : Int), x) ∈ ((k : Int), d) :: left → D[j]? = some x ∨ ((j : Int), x) ∈ left := by
    intro j x hj
    rcases hj with hj | hj
    · exact Or.inl hj
    · rcases List.mem_cons.1 hj with e | e
      · cases e
        exact Or.inl hk
      · exact Or.inr e
  exact ⟨h.len, h.low, h.marks, fun x hx => h.todo x (List.mem_cons_of_mem _ hx), hx 0 0 h.base, fun q e i a b c f => hx _ _ (h.next q e i a b c f), fun q e i j a b c f g => hx _ _ (h.jump q e i j a b c f g)⟩
theorem Search.reach {l : List Ins} {D : List Int} {k : Nat} {d : Int} {left : List (Int × Int)} (h : Search l D (((k : Int), d) :: left)) : Reach l k d ∧ k ≤ l.length ∧ 0 ≤ d ∧ d ≤ 32 := by
  obtain ⟨k', e, h1, h2, h3, h4⟩ := h.todo _ (List.mem_cons_self ..)
  obtain rfl : k = k' := by have h : (k : Int) = k' := e; omega
  exact ⟨h2, h1, h3, h4⟩
/-- What is to be gone over behind an instruction. -/
def news (l : List Ins) (k : Nat) (i : Ins) (d : Int) : List (Int × Int) :=
  (if i.op = 21 then [] else [(((k + 1 : Nat) : Int), nxt i d)]) ++ (if i.op = 21 ∨ i.op = 22 then [(findP l i.arg, nxt i d)] else [])
theorem Search.mark {l : List Ins} {D : List Int} {k : Nat} {d : Int} {i : Ins} {left : List (Int × Int)} (hs : Stand l) (h : Search l D (((k : Int), d) :: left)) (hk : D[k]? = some (-1)) (hi : l[k]? = some i)
    (hp : (mv i).1 ≤ d) (hn : nxt i d ≤ 32) : Search l (D.set k d) (news l k i d ++ left) := by
  obtain ⟨hr, hkl, hd0, hd32⟩ := h.reach
  have hkl' : k < l.length := (List.getElem?_eq_some_iff.1 hi).1
  have hst := hs i (List.mem_of_getElem? hi)
  have hn0 : 0 ≤ nxt i d := nxt_low hp hst.2
  have hold : ∀ (j : Nat) (x : Int), 0 ≤ x → (D[j]? = some x ∨ ((j : Int), x) ∈ ((k : Int), d) :: left) → (D.set k d)[j]? = some x ∨ ((j : Int), x) ∈ news l k i d ++ left := by
    intro j x h0 hj
    rcases hj with hj | hj
    · refine Or.inl (set_ne hj (fun e => ?_))
      subst e
      rw [hk] at hj
      cases hj
      omega
    · rcases List.mem_cons.1 hj with e | e
      · simp only [Prod.mk.injEq, Int.natCast_inj] at e
        rw [e.1, e.2]
        exact Or.inl (set_at hk d)
      · exact Or.inr (List.mem_append_right _ e)
  refine ⟨by simp [h.len], fun x hx => ?_, fun j x hj hx => ?_, fun x hx => ?_, hold 0 0 (by decide) h.base, fun j x y hj hx hy ho => ?_, fun j x y f hj hx hy ho hf => ?_⟩
  · rcases set_mem hx with hx | rfl
    · exact h.low x hx
    · omega
  · rcases set_get hj with ⟨rfl, rfl⟩ | ⟨hne, hj⟩
    · exact ⟨hr, ⟨i, hi, hp, hn⟩, hd0⟩
    · exact h.marks j x hj hx
  · rcases List.mem_append.1 hx with hx | hx
    · unfold news at hx
      rcases List.mem_append.1 hx with hx | hx
      · split at hx
        · cases hx
        · rename_i ho
          simp at hx
          subst hx
          exact ⟨k + 1, by simp, by omega, Reach.next hr hi ho, hn0, hn⟩
      · split at hx
        · rename_i ho
          simp at hx
          subst hx
          have h0 := hst.1 ho
          have hl := findP_range l i.arg
          exact ⟨(findP l i.arg).toNat, by simp; omega, by omega, Reach.jump hr hi ho (by omega), hn0, hn⟩
        · cases hx
    · exact h.todo x (List.mem_cons_of_mem _ hx)
  · rcases set_get hj with ⟨rfl, rfl⟩ | ⟨hne, hj⟩
    · rw [hi] at hy
      cases hy
      refine Or.inr (List.mem_append_left _ ?_)
      unfold news
      rw [if_neg ho]
      simp
    · obtain ⟨_, ⟨i2, e1, e2, e3⟩, _⟩ := h.marks j x hj hx
      rw [hy] at e1
      cases e1
      exact hold _ _ (nxt_low e2 (hs y (List.mem_of_getElem? hy)).2) (h.next j x y hj hx hy ho)
  · rcases set_get hj with ⟨rfl, rfl⟩ | ⟨hne, hj⟩
    · rw [hi] at hy
      cases hy
      refine Or.inr (List.mem_append_left _ ?_)
      unfold news
      rw [if_pos ho, hf]
      simp
    · obtain ⟨_, ⟨i2, e1, e2, e3⟩, _⟩ := h.marks j x hj hx
      rw [hy] at e1
      cases e1
      exact hold _ _ (nxt_low e2 (hs y (List.mem_of_getElem? hy)).2) (h.jump j x y f hj hx hy ho hf)
theorem Sol.no_end {l : List Ins} {d : Int} (h : Reach l l.length d) (D : List Int) : ¬ Sol l D := by
  intro hs
  have := (hs.all _ _ h).1
  have hl := (List.getElem?_eq_some_iff.1 this).1
  rw [hs.len] at hl
  omega
theorem Sol.no_two {l : List Ins} {k : Nat} {d e : Int} (h : Reach l k d) (h2 : Reach l k e) (hne : d ≠ e) (D : List Int) : ¬ Sol l D := by
  intro hs
  have h1 := (hs.all _ _ h).1
  rw [(hs.all _ _ h2).1] at h1
  cases h1
  exact hne rfl
theorem Sol.no_room {l : List Ins} {k : Nat} {d : Int} {i : Ins} (h : Reach l k d) (hi : l[k]? = some i) (hb : ¬ ((mv i).1 ≤ d ∧ nxt i d ≤ 32)) (D : List Int) : ¬ Sol l D := by
  intro hs
  obtain ⟨i2, e1, e2, e3⟩ := (hs.all _ _ h).2.2
  rw [hi] at e1
  cases e1
  exact hb ⟨e2, e3⟩

/-- What the reference keeps. -/
structure RInv (l : List Ins) (D : List Int) : Prop where
  len : D.length = l.length
  low : ∀ x ∈ D, -1 ≤ x
  marks : ∀ (k : Nat) d, D[k]? = some d → 0 ≤ d → Reach l k d
  base : D[0]? = some 0
/-- All instructions ahead of m have handed their depths on. -/
def Closed (l : List Ins) (D : List Int) (m : Nat) : Prop := ∀ (k : Nat) d i, k < m → D[k]? = some d → 0 ≤ d → l[k]? = some i →
  ((mv i).1 ≤ d ∧ nxt i d ≤ 32) ∧ (i.op ≠ 21 → D[k + 1]? = some (nxt i d)) ∧ ((i.op = 21 ∨ i.op = 22) → ∀ j : Nat, findP l i.arg = j → D[j]? = some (nxt i d))
theorem RInv.done {l : List Ins} {D : List Int} (hs : Stand l) (h : RInv l D) (hc : Closed l D l.length) : Sol l D := by
  have hall : ∀ k d, Reach l k d → D[k]? = some d ∧ 0 ≤ d := by
    intro k d hr
    refine hr (fun k d => D[k]? = some d ∧ 0 ≤ d) ⟨h.base, by decide⟩ (fun k d i ih hi hj => ?_) (fun k d i j ih hi hj hf => ?_)
    · obtain ⟨⟨c1, c2⟩, c3, c4⟩ := hc _ _ _ (List.getElem?_eq_some_iff.1 hi).1 ih.1 ih.2 hi
      exact ⟨c3 hj, nxt_low c1 (hs _ (List.mem_of_getElem? hi)).2⟩
    · obtain ⟨⟨c1, c2⟩, c3, c4⟩ := hc _ _ _ (List.getElem?_eq_some_iff.1 hi).1 ih.1 ih.2 hi
      exact ⟨c4 hj _ hf, nxt_low c1 (hs _ (List.mem_of_getElem? hi)).2⟩
  refine ⟨h.len, h.low, fun k d hr => ?_, h.marks⟩
  obtain ⟨h1, h2⟩ := hall k d hr
  refine ⟨h1, h2, ?_⟩
  have hl := (List.getElem?_eq_some_iff.1 h1).1
  rw [h.len] at hl
  have hi : l[k]? = some l[k] := List.getElem?_eq_getElem hl
  obtain ⟨⟨c1, c2⟩, _⟩ := hc k d _ hl h1 h2 hi
  exact ⟨_, hi, c1, c2⟩
theorem RInv.set {l : List Ins} {D : List Int} {k : Nat} {d x : Int} (h : RInv l D) (hx : D[k]? = some x) (hr : Reach l k d) (hd : 0 ≤ d) (hx0 : x < 0) : RInv l (D.set k d) := by
  refine ⟨by simp [h.len], fun y hy => ?_, fun j y hj hy => ?_, ?_⟩
  · rcases set_mem hy with hy | rfl
    · exact h.low y hy
    · omega
  · rcases set_get hj with ⟨rfl, rfl⟩ | ⟨_, hj⟩
    · exact hr
    · exact h.marks j y hj hy
  · by_cases e : k = 0
    · subst e
      have := h.base
      rw [hx] at this
      cases this
      omega
    · exact set_ne h.base (fun h => e h.symm)
theorem set_same {D : List Int} {k : Nat} {d : Int} (h : D[k]? = some d) : D.set k d = D := by
  obtain ⟨hl, rfl⟩ := List.getElem?_eq_some_iff.1 h
  simp
end Go.Proofs.Ytedkijionpkmmaa
