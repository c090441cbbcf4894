/- What the slots keep: each is free, or has one that may be, made by nobody or of one that is there and is older. -/
import Derived.Test.YtfnafjddajgahaaGreatDeed8
namespace Go.Proofs.YtfnafjddajgahaaGreat
open Go.RowKit
namespace Ca
set_option linter.unusedVariables false

theorem plOf_at {a c : Nat} (hc : c < 64) : plOf (a * 64 + c) = ((a : Int), ((c + 1 : Nat) : Int)) := by
  have h1 : (a * 64 + c) / 64 = a := by omega
  have h2 : (a * 64 + c) % 64 = c := by omega
  simp [plOf, h1, h2]
theorem plOf_inj {i j : Nat} (h : plOf i = plOf j) : i = j := by
  simp only [plOf, Prod.mk.injEq] at h
  omega
theorem plOf_pos (j : Nat) : (plOf j).2 ≠ 0 := by
  simp only [plOf]
  omega
theorem ofB_no (q : Int × Int) (h : q.2 ≠ 0) : ofB Hd.no q.1 q.2 = false := by
  simp [ofB]
  intro _ e
  exact h e.symm
theorem ofB_iff {h : Hd} {e s : Int} : ofB h e s = true ↔ h.e = e ∧ h.s = s := by simp [ofB]
theorem mayB_is {x : Cp} (h : mayB x = true) : x.is = true := by
  have hs := h
  simp only [mayB, areR, Bool.and_eq_true, decide_eq_true_eq] at hs
  unfold Cp.is
  have : (x.rights == 0) = false := by simp; omega
  rw [this]
  simp

/-- It is made of one that is there and is older. -/
def Par (T : Tab) (rk : Nat → Nat) (j : Nat) : Prop := ∃ i, i < 768 ∧ ofB (T j) (plOf i).1 (plOf i).2 = true ∧ (T i).x.is = true ∧ rk i < rk j
def Node (T : Tab) (rk : Nat → Nat) (j : Nat) : Prop := T j = Hd.no ∨ (mayB (T j).x = true ∧ ((T j).e = 0 ∧ (T j).s = 0 ∨ Par T rk j))
def Inv (T : Tab) : Prop := ∃ rk : Nat → Nat, ∀ j, j < 768 → Node T rk j
theorem Node.free {T : Tab} {rk : Nat → Nat} {j : Nat} (h : Node T rk j) (hf : (T j).x.is = false) : T j = Hd.no := by
  rcases h with h | ⟨h, _⟩
  · exact h
  · rw [mayB_is h] at hf
    cases hf
theorem Inv.sanes {T : Tab} (h : Inv T) : Sanes T := by
  obtain ⟨rk, h⟩ := h
  intro j hj
  rcases h j hj with e | ⟨e, _⟩
  · rw [e]; exact Sane.no
  · exact mayB_sane e
theorem Inv.zero : Inv a0 := ⟨fun _ => 0, fun j hj => Or.inl rfl⟩

theorem Inv.put {T : Tab} (h : Inv T) (m : Nat) (hm : m < 12) (H : Hd) (hx : mayB H.x = true) (hof : H.e = 0 ∧ H.s = 0 ∨ ∃ i, i < 768 ∧ ofB H (plOf i).1 (plOf i).2 = true ∧ (T i).x.is = true) : Inv (putT T m H) := by
  unfold putT
  split
  · rename_i hf
    obtain ⟨rk, h⟩ := h
    have hfree := freeT_free T m hf
    generalize freeT T m = f at *
    obtain ⟨d, hd⟩ : ∃ d, d = m * 64 + f := ⟨_, rfl⟩
    rw [← hd] at hfree ⊢
    have hd768 : d < 768 := by omega
    have old : ∀ i, (T i).x.is = true → i ≠ d := by
      intro i hi e
      rw [e, hfree] at hi
      cases hi
    rcases hof with hof | ⟨i0, hi0, ho0, hs0⟩
    · refine ⟨rk, fun j hj => ?_⟩
      by_cases e : j = d
      · refine Or.inr ?_
        rw [e, Tab.set_same]
        exact ⟨hx, Or.inl hof⟩
      · rcases h j hj with hn | ⟨h1, h2⟩
        · exact Or.inl (by rw [Tab.set_other _ _ _ _ e]; exact hn)
        · refine Or.inr ⟨by rw [Tab.set_other _ _ _ _ e]; exact h1, ?_⟩
          rw [Tab.set_other _ _ _ _ e]
          rcases h2 with h2 | ⟨i, hi, h3, h4, h5⟩
          · exact Or.inl h2
          · exact Or.inr ⟨i, hi, by rw [Tab.set_other _ _ _ _ e]; exact h3, by rw [Tab.set_other _ _ _ _ (old i h4)]; exact h4, h5⟩
    · refine ⟨fun j => if j = d then rk i0 + 1 else rk j, fun j hj => ?_⟩
      by_cases e : j = d
      · refine Or.inr ?_
        have hne := old i0 hs0
        rw [e, Tab.set_same]
        refine ⟨hx, Or.inr ⟨i0, hi0, by rw [Tab.set_same]; exact ho0, by rw [Tab.set_other _ _ _ _ hne]; exact hs0, ?_⟩⟩
        dsimp only
        rw [if_neg hne, if_pos rfl]
        omega
      · rcases h j hj with hn | ⟨h1, h2⟩
        · exact Or.inl (by rw [Tab.set_other _ _ _ _ e]; exact hn)
        · refine Or.inr ⟨by rw [Tab.set_other _ _ _ _ e]; exact h1, ?_⟩
          rw [Tab.set_other _ _ _ _ e]
          rcases h2 with h2 | ⟨i, hi, h3, h4, h5⟩
          · exact Or.inl h2
          · refine Or.inr ⟨i, hi, by rw [Tab.set_other _ _ _ _ e]; exact h3, by rw [Tab.set_other _ _ _ _ (old i h4)]; exact h4, ?_⟩
            dsimp only
            rw [if_neg (old i h4), if_neg e]
            exact h5
  · exact h
theorem Inv.add {T : Tab} (h : Inv T) (n : Int) (x : Cp) : Inv (addT T n x) := by
  unfold addT
  split
  · rename_i hq
    simp only [addOK, Bool.and_eq_true] at hq
    have hn := hq.1
    simp [isE] at hn
    exact h.put n.toNat (by omega) ⟨x, 0, 0⟩ hq.2 (Or.inl ⟨rfl, rfl⟩)
  · exact h
/-- A slot that is taken, by its numbers. -/
theorem get_slot {T : Tab} {n s : Int} (h : (getT T n s).is = true) : ∃ i, i < 768 ∧ plOf i = (n, s) ∧ getT T n s = (T i).x ∧ dropJ n s = i := by
  obtain ⟨a, c, rfl, rfl, ha, hc⟩ := isP_nat (is_isP h)
  exact ⟨a * 64 + c, by omega, plOf_at hc, getT_nat T a c ha hc, by simp [dropJ]⟩
theorem Inv.give {T : Tab} (h : Inv T) (n s to r : Int) : Inv (giveT T n s to r) := by
  unfold giveT
  split
  · rename_i hq
    split
    · rename_i ht
      simp only [giveOK, mayG, Bool.and_eq_true] at hq
      obtain ⟨hi, ⟨_, h1⟩, h3⟩ := hq
      obtain ⟨i, hi7, hpl, hg, _⟩ := get_slot hi
      have ht2 := ht
      simp [isE] at ht2
      rw [hg] at hi
      have hm : mayB (T i).x = true := by
        obtain ⟨rk, h⟩ := h
        rcases h i hi7 with e | ⟨e, _⟩
        · rw [e] at hi; exact absurd hi (by decide)
        · exact e
      refine h.put to.toNat (by omega) (giveH T n s r) ?_ (Or.inr ⟨i, hi7, ?_, hi⟩)
      · simp only [mayB, Bool.and_eq_true] at hm
        unfold giveH
        rw [hg]
        simp only [mayB, Bool.and_eq_true]
        exact ⟨hm.1, h1⟩
      · rw [hpl]
        simp [ofB, giveH]
    · exact h
  · exact h
theorem dropT_at {T : Tab} {n s : Int} {i : Nat} (hi : (getT T n s).is = true) (hpl : plOf i = (n, s)) (hd : dropJ n s = i) (j : Nat) (hj : j < 768) :
    dropT T n s j = if j = i then Hd.no else if ofB (T j) (plOf i).1 (plOf i).2 = true then ⟨(T j).x, (T i).e, (T i).s⟩ else T j := by
  unfold dropT
  rw [if_pos hi, hd]
  by_cases e : j = i
  · rw [if_pos e, e, Tab.set_same]
  · rw [if_neg e, Tab.set_other _ _ _ _ e, hpl]
    unfold hoTo
    by_cases ho : ofB (T j) n s = true
    · rw [if_pos ⟨hj, ho⟩, if_pos ho]
    · rw [if_neg (fun h => ho h.2), if_neg ho]
theorem Inv.drop {T : Tab} (h : Inv T) (n s : Int) : Inv (dropT T n s) := by
  by_cases hi : (getT T n s).is = true
  · obtain ⟨i, hi7, hpl, hg, hd⟩ := get_slot hi
    have hat := dropT_at hi hpl hd
    obtain ⟨rk, h⟩ := h
    refine ⟨rk, fun j hj => ?_⟩
    have hj1 := hat j hj
    by_cases e : j = i
    · rw [if_pos e] at hj1
      exact Or.inl hj1
    · rw [if_neg e] at hj1
      have keep : ∀ k, k < 768 → k ≠ i → (T k).x.is = true → (dropT T n s k).x.is = true := by
        intro k hk hne hs
        rw [hat k hk, if_neg hne]
        split <;> exact hs
      rcases h j hj with hn | ⟨h1, h2⟩
      · left
        rw [hj1, hn, if_neg (by rw [ofB_no (plOf i) (plOf_pos i)]; simp)]
      · right
        by_cases ho : ofB (T j) (plOf i).1 (plOf i).2 = true
        · rw [if_pos ho] at hj1
          refine ⟨by rw [hj1]; exact h1, ?_⟩
          rcases h2 with h2 | ⟨k, hk, h3, h4, h5⟩
          · exfalso
            have := ofB_iff.1 ho
            exact plOf_pos i (by rw [← this.2]; exact h2.2)
          · have hki : k = i := by
              have e1 := ofB_iff.1 ho
              have e2 := ofB_iff.1 h3
              exact plOf_inj (Prod.ext (e2.1.symm.trans e1.1) (e2.2.symm.trans e1.2))
            subst hki
            rcases h k hk with hn | ⟨_, h6⟩
            · rw [hn] at h4
              exact absurd h4 (by decide)
            · rcases h6 with h6 | ⟨l, hl, h7, h8, h9⟩
              · left
                rw [hj1]
                exact h6
              · right
                refine ⟨l, hl, ?_, keep l hl (fun e => by rw [e] at h9; omega) h8, by omega⟩
                rw [hj1]
                exact h7
        · rw [if_neg ho] at hj1
          refine ⟨by rw [hj1]; exact h1, ?_⟩
          rcases h2 with h2 | ⟨k, hk, h3, h4, h5⟩
          · left
            rw [hj1]
            exact h2
          · right
            refine ⟨k, hk, by rw [hj1]; exact h3, keep k hk (fun e => ho (by rw [← e]; exact h3)) h4, h5⟩
  · unfold dropT
    rw [if_neg hi]
    exact h

/-- What the search for what was made of one keeps. -/
structure RevK (T : Tab) (p : Int × Int) (i : Nat) (T' : Tab) (F : List (Int × Int)) : Prop where
  pos : ∀ q ∈ F, q.2 ≠ 0
  tab : ∀ j, j < 768 → T' j = T j ∨ (T' j = Hd.no ∧ plOf j ∈ F ∧ (T j).s ≠ 0 ∧ ∃ q ∈ F, ofB (T j) q.1 q.2 = true)
  done : ∀ k, k < i → ∀ q, F[k]? = some q → ∀ j, j < 768 → ofB (T' j) q.1 q.2 = false
  mem : ∀ q ∈ F, q = p ∨ ∃ j, j < 768 ∧ q = plOf j ∧ T' j = Hd.no ∧ (T j).s ≠ 0
  root : p ∈ F
theorem mem_made {T : Tab} {q : Int × Int} {j : Nat} : plOf j ∈ madeTo T q.1 q.2 768 ↔ j < 768 ∧ ofB (T j) q.1 q.2 = true := by
  simp only [madeTo, List.mem_map, List.mem_filter, List.mem_range]
  constructor
  · rintro ⟨k, hk, e⟩
    rw [← plOf_inj e]
    exact hk
  · intro h
    exact ⟨j, h, rfl⟩
theorem revK (T : Tab) (p : Int × Int) (hp : p.2 ≠ 0) : ∀ i, RevK T p i (revS T p i).1 (revS T p i).2
  | 0 => ⟨revS_pos T p hp 0, fun j hj => Or.inl rfl, fun k hk => absurd hk (Nat.not_lt_zero _), fun q hq => Or.inl (by simpa [revS] using hq), by simp [revS]⟩
  | i + 1 => by
    have ih := revK T p hp i
    have hpos := revS_pos T p hp (i + 1)
    cases hq : (revS T p i).2[i]? with
    | none =>
      have e : revS T p (i + 1) = revS T p i := by simp only [revS, hq]
      rw [e]
      refine ⟨ih.pos, ih.tab, fun k hk q hk2 => ?_, ih.mem, ih.root⟩
      by_cases e2 : k = i
      · rw [e2, hq] at hk2
        cases hk2
      · exact ih.done k (by omega) q hk2
    | some q =>
      have e : revS T p (i + 1) = (clTo (revS T p i).1 q.1 q.2 768, (revS T p i).2 ++ madeTo (revS T p i).1 q.1 q.2 768) := by simp only [revS, hq]
      rw [e] at hpos ⊢
      dsimp only at hpos ⊢
      generalize (revS T p i).1 = T1 at *
      generalize (revS T p i).2 = F at *
      have hqF : q ∈ F := List.mem_of_getElem? hq
      have hq0 := ih.pos q hqF
      have hil : i < F.length := (List.getElem?_eq_some_iff.1 hq).1
      have old : ∀ j, j < 768 → ofB (T1 j) q.1 q.2 = true → T1 j = T j := by
        intro j hj ho
        rcases ih.tab j hj with h | ⟨h, _⟩
        · exact h
        · rw [h, ofB_no q hq0] at ho
          cases ho
      have cl : ∀ j, j < 768 → clTo T1 q.1 q.2 768 j = if ofB (T1 j) q.1 q.2 = true then Hd.no else T1 j := by
        intro j hj
        unfold clTo
        by_cases ho : ofB (T1 j) q.1 q.2 = true
        · rw [if_pos ⟨hj, ho⟩, if_pos ho]
        · rw [if_neg (fun h => ho h.2), if_neg ho]
      have snz : ∀ j, j < 768 → ofB (T1 j) q.1 q.2 = true → (T j).s ≠ 0 := by
        intro j hj ho
        rw [old j hj ho] at ho
        rw [(ofB_iff.1 ho).2]
        exact hq0
      refine ⟨hpos, fun j hj => ?_, fun k hk q' hk2 j hj => ?_, fun q' hq' => ?_, List.mem_append_left _ ih.root⟩
      · rw [cl j hj]
        by_cases ho : ofB (T1 j) q.1 q.2 = true
        · rw [if_pos ho]
          refine Or.inr ⟨rfl, List.mem_append_right _ (mem_made.2 ⟨hj, ho⟩), snz j hj ho, q, List.mem_append_left _ hqF, ?_⟩
          rw [← old j hj ho]
          exact ho
        · rw [if_neg ho]
          rcases ih.tab j hj with h | ⟨h1, h2, h3, q2, h4, h5⟩
          · exact Or.inl h
          · exact Or.inr ⟨h1, List.mem_append_left _ h2, h3, q2, List.mem_append_left _ h4, h5⟩
      · have hk3 : F[k]? = some q' := by
          rwa [List.getElem?_append_left (by omega)] at hk2
        have hq'0 := ih.pos q' (List.mem_of_getElem? hk3)
        rw [cl j hj]
        by_cases ho : ofB (T1 j) q.1 q.2 = true
        · rw [if_pos ho]
          exact ofB_no q' hq'0
        · rw [if_neg ho]
          by_cases e2 : k = i
          · rw [e2, hq] at hk3
            cases hk3
            simpa using ho
          · exact ih.done k (by omega) q' hk3 j hj
      · rcases List.mem_append.1 hq' with h | h
        · rcases ih.mem q' h with h | ⟨j, hj, h1, h2, h3⟩
          · exact Or.inl h
          · refine Or.inr ⟨j, hj, h1, ?_, h3⟩
            rw [cl j hj, h2, ofB_no q hq0]
            rfl
        · have h' := h
          simp only [madeTo, List.mem_map, List.mem_filter, List.mem_range] at h'
          obtain ⟨j, ⟨hj, ho⟩, rfl⟩ := h'
          exact Or.inr ⟨j, hj, rfl, by rw [cl j hj, if_pos ho], snz j hj ho⟩
/-- At the end: nothing is made of what was found. -/
structure RevEnd (T : Tab) (p : Int × Int) (T' : Tab) (F : List (Int × Int)) : Prop where
  pos : ∀ q ∈ F, q.2 ≠ 0
  tab : ∀ j, j < 768 → T' j = T j ∨ (T' j = Hd.no ∧ plOf j ∈ F ∧ (T j).s ≠ 0 ∧ ∃ q ∈ F, ofB (T j) q.1 q.2 = true)
  done : ∀ q ∈ F, ∀ j, j < 768 → ofB (T' j) q.1 q.2 = false
  mem : ∀ q ∈ F, q = p ∨ ∃ j, j < 768 ∧ q = plOf j ∧ T' j = Hd.no ∧ (T j).s ≠ 0
  root : p ∈ F
theorem revEnd (T : Tab) (p : Int × Int) (hp : p.2 ≠ 0) (i : Nat) (hi : (revS T p i).2.length = i) : RevEnd T p (revS T p i).1 (revS T p i).2 := by
  have h := revK T p hp i
  refine ⟨h.pos, h.tab, fun q hq j hj => ?_, h.mem, h.root⟩
  obtain ⟨k, hk⟩ := List.mem_iff_getElem?.1 hq
  exact h.done k (by have := (List.getElem?_eq_some_iff.1 hk).1; omega) q hk j hj
theorem Inv.rev {T : Tab} (h : Inv T) {p : Int × Int} {T' : Tab} {F : List (Int × Int)} (hr : RevEnd T p T' F) : Inv T' := by
  obtain ⟨rk, h⟩ := h
  refine ⟨rk, fun j hj => ?_⟩
  rcases hr.tab j hj with e | ⟨e, _⟩
  · rcases h j hj with hn | ⟨h1, h2⟩
    · exact Or.inl (e.trans hn)
    · refine Or.inr ⟨by rw [e]; exact h1, ?_⟩
      rcases h2 with h2 | ⟨i, hi, h3, h4, h5⟩
      · left; rw [e]; exact h2
      · right
        refine ⟨i, hi, by rw [e]; exact h3, ?_, h5⟩
        rcases hr.tab i hi with e2 | ⟨_, e3, _⟩
        · rw [e2]; exact h4
        · have := hr.done _ e3 j hj
          rw [e, h3] at this
          cases this
  · exact Or.inl e

/-- All but slot 64 (environment 1's first) are made of another one. -/
structure One (T : Tab) : Prop where
  inv : Inv T
  top : T 64 = ⟨⟨1, 5, 1, 7⟩, 0, 0⟩
  rest : ∀ j, j < 768 → j ≠ 64 → (T j).x.is = true → (T j).s ≠ 0
theorem One.start : One a1 := by
  refine ⟨Inv.zero.add _ _, by kernel_rfl, fun j hj hne hi => ?_⟩
  have hf : freeT a0 1 = 0 := by kernel_rfl
  have e : a1 j = Hd.no := by
    have ho : addOK 1 ⟨1, 5, 1, 7⟩ = true := by kernel_rfl
    unfold a1 addT putT
    rw [if_pos ho]
    have hf' : freeT a0 (Int.toNat 1) = 0 := hf
    rw [hf', if_pos (by omega), Tab.set_other _ _ _ _ (by exact hne)]
    rfl
  rw [e] at hi
  exact absurd hi (by decide)
theorem One.give {T : Tab} (h : One T) (n s to r : Int) : One (giveT T n s to r) := by
  refine ⟨h.inv.give n s to r, ?_, ?_⟩
  all_goals
    unfold giveT
    split
    · rename_i hq
      split
      · rename_i ht
        simp only [giveOK, Bool.and_eq_true] at hq
        obtain ⟨i, hi7, hpl, hg, _⟩ := get_slot hq.1
        unfold putT
        split
        · rename_i hf
          have hfree := freeT_free T to.toNat hf
          have hne : 64 ≠ to.toNat * 64 + freeT T to.toNat := by
            intro e
            rw [← e, h.top] at hfree
            exact absurd hfree (by decide)
          first
            | (rw [Tab.set_other _ _ _ _ hne]; exact h.top)
            | (intro j hj hne2 hi
               by_cases e : j = to.toNat * 64 + freeT T to.toNat
               · rw [e, Tab.set_same]
                 show s ≠ 0
                 have := plOf_pos i
                 rw [hpl] at this
                 exact this
               · rw [Tab.set_other _ _ _ _ e] at hi ⊢
                 exact h.rest j hj hne2 hi)
        · first | exact h.top | exact h.rest
      · first | exact h.top | exact h.rest
    · first | exact h.top | exact h.rest
theorem One.drop {T : Tab} (h : One T) (n s : Int) (hns : n ≠ 1 ∨ s ≠ 1) : One (dropT T n s) := by
  by_cases hi : (getT T n s).is = true
  · obtain ⟨i, hi7, hpl, hg, hd⟩ := get_slot hi
    have hat := dropT_at hi hpl hd
    have hi64 : i ≠ 64 := by
      intro e
      rw [e] at hpl
      have e1 : plOf 64 = (1, 1) := rfl
      rw [e1] at hpl
      simp only [Prod.mk.injEq] at hpl
      omega
    have hsi : (T i).s ≠ 0 := h.rest i hi7 hi64 (by rw [← hg]; exact hi)
    refine ⟨h.inv.drop n s, ?_, fun j hj hne hij => ?_⟩
    · rw [hat 64 (by omega), if_neg (fun e => hi64 e.symm), if_neg ?_]
      · exact h.top
      · rw [h.top]
        simp only [ofB_iff]
        intro e
        exact plOf_pos i e.2.symm
    · rw [hat j hj] at hij ⊢
      by_cases e : j = i
      · rw [if_pos e] at hij
        exact absurd hij (by decide)
      · rw [if_neg e] at hij ⊢
        by_cases ho : ofB (T j) (plOf i).1 (plOf i).2 = true
        · rw [if_pos ho]
          exact hsi
        · rw [if_neg ho] at hij ⊢
          exact h.rest j hj hne hij
  · have e : dropT T n s = T := by
      unfold dropT
      rw [if_neg hi]
    rw [e]
    exact h
theorem One.rev {T : Tab} (h : One T) {T' : Tab} {F : List (Int × Int)} (hr : RevEnd T (1, 1) T' F) : T' 64 = ⟨⟨1, 5, 1, 7⟩, 0, 0⟩ ∧ ∀ j, j < 768 → j ≠ 64 → T' j = Hd.no := by
  constructor
  · rcases hr.tab 64 (by omega) with e | ⟨_, _, e, _⟩
    · rw [e]; exact h.top
    · exact absurd (by rw [h.top]) e
  · obtain ⟨rk, hn⟩ := h.inv
    have key : ∀ N j, rk j < N → j < 768 → j ≠ 64 → T' j = Hd.no := by
      intro N
      induction N with
      | zero => intro j h0; omega
      | succ N ih =>
        intro j hN hj hne
        rcases hr.tab j hj with e | ⟨e, _⟩
        · rcases hn j hj with hno | ⟨h1, h2⟩
          · exact e.trans hno
          · exfalso
            have hs := h.rest j hj hne (mayB_is h1)
            rcases h2 with h2 | ⟨i, hi, h3, h4, h5⟩
            · exact hs h2.2
            · have hF : plOf i ∈ F := by
                by_cases e64 : i = 64
                · rw [e64]
                  exact hr.root
                · have hT' := ih i (by omega) hi e64
                  rcases hr.tab i hi with e2 | ⟨_, e2, _⟩
                  · rw [← e2, hT'] at h4
                    exact absurd h4 (by decide)
                  · exact e2
              have := hr.done _ hF j hj
              rw [e, h3] at this
              cases this
        · exact e
    intro j hj hne
    exact key (rk j + 1) j (by omega) hj hne
end Ca
end Go.Proofs.YtfnafjddajgahaaGreat
