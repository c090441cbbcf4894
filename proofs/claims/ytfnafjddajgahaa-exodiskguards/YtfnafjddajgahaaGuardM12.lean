/- What others that have no capability for a block leave of it (no program). -/
import Derived.Test.YtfnafjddajgahaaDoB12
import Derived.Test.YtfnafjddajgahaaCleanM12
namespace Go.Proofs.Ytfnafjddajgahaa
open Go.RowKit Ca
set_option linter.unusedVariables false

/-- Is block 2 among them? -/
def cov (x : Cp) : Prop := x.id ≤ 2 ∧ 2 - x.id < x.len
/-- Slot 1 of environment 0 has block 2, made by nobody, and no other slot has it. -/
structure TI (T : Tab) : Prop where
  t0 : T 0 = ⟨⟨2, 2, 1, 7⟩, 0, 0⟩
  ids : ∀ j, 0 < j → j < 768 → (T j).x.is = true → ¬ cov (T j).x
theorem plOf_env {i : Nat} {e s : Int} (h : plOf i = (e, s)) (he : e ≠ 0) : 0 < i := by
  rcases Nat.eq_zero_or_pos i with q | q
  · subst q
    simp [plOf] at h
    exact absurd h.1.symm he
  · exact q
theorem TI.get {T : Tab} (h : TI T) {e s : Int} (he : e ≠ 0) (hi : (getT T e s).is = true) : ¬ cov (getT T e s) := by
  obtain ⟨i, hi', hp, hx, _⟩ := get_slot hi
  rw [hx] at hi ⊢
  exact h.ids i (plOf_env hp he) hi' hi
theorem TI.put {T : Tab} (h : TI T) (m : Nat) (H : Hd) (hH : ¬ cov H.x) : TI (putT T m H) := by
  unfold putT
  split
  · rename_i hf
    have hne : m * 64 + freeT T m ≠ 0 := by
      intro e
      have := freeT_free T m hf
      rw [e, h.t0] at this
      cases this
    refine ⟨by rw [Tab.set_other _ _ _ _ (fun e => hne e.symm)]; exact h.t0, fun j h0 hj hi => ?_⟩
    by_cases e : j = m * 64 + freeT T m
    · subst e; rw [Tab.set_same]; exact hH
    · rw [Tab.set_other _ _ _ _ e] at hi ⊢
      exact h.ids j h0 hj hi
  · exact h
theorem any_no {T : Tab} {f : Int} : ∀ {k : Nat}, anyX T f k = false → ∀ j, j < k → (holdTo T 2 (f + j) 12).isEmpty = true
  | 0, _, j, hj => by omega
  | k + 1, h, j, hj => by
    unfold anyX at h
    simp only [Bool.or_eq_false_iff] at h
    by_cases e : j = k
    · subst e
      simpa using h.2
    · exact any_no h.1 j (by omega)
theorem TI.hold {T : Tab} (h : TI T) : (holdTo T 2 2 12).isEmpty = false := by
  have h1 : hasN T 0 2 2 0 = true := hasN_hit (s := 0) (by omega) (by rw [show 0 * 64 + 0 = 0 from rfl, h.t0]; decide +kernel)
  have h2 : ((0 : Nat) : Int) ∈ holdTo T 2 2 12 := by
    unfold holdTo
    rw [List.mem_map]
    exact ⟨0, by rw [List.mem_filter]; exact ⟨by simp, h1⟩, rfl⟩
  cases hh : holdTo T 2 2 12 with
  | nil => rw [hh] at h2; simp at h2
  | cons a b => rfl
theorem TI.alloc {T : Tab} (h : TI T) (n : Nat) (e f k : Int) : TI (xallocT T n e f k) := by
  unfold xallocT
  split
  · rename_i hc
    simp only [areX, Bool.and_eq_true, decide_eq_true_eq] at hc
    split
    · exact h
    · rename_i hy
      have hy' : anyX T f k.toNat = false := by simpa using hy
      unfold addT
      split
      · refine h.put _ _ ?_
        rintro ⟨q1, q2⟩
        dsimp only at q1 q2
        have := any_no hy' (2 - f).toNat (by omega)
        rw [show f + ((2 - f).toNat : Int) = 2 from by omega, h.hold] at this
        cases this
      · exact h
  · exact h
theorem TI.give {T : Tab} (h : TI T) {e : Int} (he : e ≠ 0) (s q r : Int) : TI (giveT T e s q r) := by
  unfold giveT
  split
  · rename_i hg
    simp only [giveOK, Bool.and_eq_true] at hg
    split
    · exact h.put _ _ (h.get he hg.1)
    · exact h
  · exact h
theorem TI.drop {T : Tab} (h : TI T) {e : Int} (he : e ≠ 0) (s : Int) : TI (dropT T e s) := by
  cases hi : (getT T e s).is with
  | false =>
    unfold dropT
    rw [hi]
    exact h
  | true =>
    obtain ⟨i, hi', hp, hx, hJ⟩ := get_slot hi
    have hpos := plOf_env hp he
    have hat := fun j hj => dropT_at hi hp hJ j hj
    refine ⟨?_, fun j h0 hj hji => ?_⟩
    · rw [hat 0 (by omega), if_neg (by omega), hp, if_neg]
      · exact h.t0
      · rw [h.t0]
        intro hc
        rw [ofB_iff] at hc
        exact he hc.1.symm
    · rw [hat j hj] at hji ⊢
      split at hji
      · cases hji
      · rename_i hne
        rw [if_neg hne]
        split at hji
        · rename_i ho
          rw [if_pos ho]
          exact h.ids j h0 hj hji
        · rename_i ho
          rw [if_neg ho]
          exact h.ids j h0 hj hji
theorem TI.gone {T : Tab} (h : TI T) {e : Int} (he : e ≠ 0) : ∀ k, TI (goneT T e k)
  | 0 => h
  | k + 1 => (h.gone he k).drop he _
theorem TI.rev {T : Tab} (h : TI T) (e s : Int) : TI (revT T e s) := by
  cases hi : (getT T e s).is with
  | false =>
    unfold revT
    rw [hi]
    exact h
  | true =>
    obtain ⟨i, _, hp, _⟩ := get_slot hi
    have hs : s ≠ 0 := by have := plOf_pos i; rw [hp] at this; exact this
    obtain ⟨N, hN⟩ := rev_N T (e, s) hs
    have hr := revEnd T (e, s) hs (N + 1) hN
    rw [revT_is hi hN]
    refine ⟨?_, fun j h0 hj hji => ?_⟩
    · rcases hr.tab 0 (by omega) with q | ⟨_, _, q, _⟩
      · rw [q]; exact h.t0
      · rw [h.t0] at q
        exact absurd rfl q
    · rcases revS_or T (e, s) j (N + 1) with q | q
      · rw [q] at hji ⊢
        exact h.ids j h0 hj hji
      · rw [q] at hji
        cases hji
/-- What is so at each round. -/
structure GI (ws : List Int) (n : Nat) (T : Tab) (l : Lines) (vs : List Int) : Prop where
  ti : TI T
  at2 : (l 2).1 = some ws
  tidy : Tidy n l vs
theorem GI.look {ws : List Int} {n : Nat} {T : Tab} {l : Lines} {vs : List Int} (h : GI ws n T l vs) : lookW l vs 2 = ws := by unfold lookW; rw [h.at2]; rfl
theorem GI.same {ws : List Int} {n : Nat} {T : Tab} {l : Lines} {vs : List Int} (h : GI ws n T l vs) : getL l vs 2 = l := by
  unfold getL
  rw [h.look]
  funext i
  by_cases e : i = 2
  · subst e; rw [Lines.set_same, ← h.at2]
  · rw [Lines.set_other _ _ _ _ e]
theorem GI.step {ws : List Int} {n : Nat} {e : Int} {T T' : Tab} {l l' : Lines} {vs vs' : List Int} (h : GI ws n T l vs) (he : e ≠ 0) (h2 : 2 < n) (hl : LInv n l) (hv : vs.length = n * 32) (hs : Step n e T T' vs vs' l l') : GI ws n T' l' vs' := by
  rcases hs with ⟨rfl, rfl, hT⟩ | ⟨rfl, hL⟩
  · rcases hT with ⟨f, k, rfl⟩ | ⟨s, q, r, rfl⟩ | ⟨s, rfl⟩ | rfl | rfl
    · exact ⟨h.ti.alloc n e f k, h.at2, h.tidy⟩
    · exact ⟨h.ti.give he s q r, h.at2, h.tidy⟩
    · exact ⟨h.ti.rev e s, h.at2, h.tidy⟩
    · exact ⟨h.ti.gone he 64, h.at2, h.tidy⟩
    · exact h
  · rcases hL with ⟨rfl, b, rfl⟩ | ⟨rfl, s, b, w2, hm, rfl⟩ | ⟨rfl, rfl⟩
    · refine ⟨h.ti, ?_, h.tidy.get b⟩
      unfold getL
      by_cases q : 2 = b
      · subst q; rw [Lines.set_same, h.look]
      · rw [Lines.set_other _ _ _ _ q]; exact h.at2
    · refine ⟨h.ti, ?_, h.tidy.put b w2⟩
      have hb : 2 ≠ b := by
        rintro rfl
        simp only [mayX, hasR, Bool.and_eq_true, decide_eq_true_eq] at hm
        exact h.ti.get he hm.1.1 ⟨by have := hm.2.1; omega, by have := hm.2.2; omega⟩
      unfold putL
      rw [Lines.set_other _ _ _ _ hb]
      exact h.at2
    · refine ⟨h.ti, ?_, h.tidy.sync hl hv⟩
      unfold syncL
      rw [if_pos h2]
      exact h.at2
abbrev T2g : Tab := Tf 0 2 1
theorem gd_put (l : Lines) (ws : List Int) (h : ws.length = 32) : putRr T2g 0 1 2 ws.length = 0 ∧ putLl T2g l 0 1 2 ws = putL l 2 ws := by
  have hm : mayX T2g 0 1 2 2 = true := by kernel_rfl
  unfold putRr putLl
  rw [hm, h]
  exact ⟨rfl, rfl⟩
theorem gd_start (ws : List Int) (vs : List Int) : GI ws 6 T2g (putL L0 2 ws) vs := by
  refine ⟨⟨rfl, fun j h0 hj hi => ?_⟩, by unfold putL; rw [Lines.set_same], (Tidy.zero 6 vs).put 2 ws⟩
  have e1 : T2g j = Hd.no := Tab.set_other _ _ _ _ (by omega)
  rw [e1] at hi
  cases hi
theorem GI.get {ws : List Int} {n : Nat} {T : Tab} {l : Lines} {vs : List Int} (h : GI ws n T l vs) : getRr T 0 1 2 = 0 ∧ getWw T l vs 0 1 2 = ws ∧ getLl T l vs 0 1 2 = l := by
  have hg : getT T 0 1 = ⟨2, 2, 1, 7⟩ := by
    have := getT_nat T 0 0 (by omega) (by omega)
    rw [show 0 * 64 + 0 = 0 from rfl, h.ti.t0] at this
    exact this
  have hm : mayX T 0 1 2 1 = true := by
    unfold mayX hasR
    rw [hg]
    decide +kernel
  unfold getRr getWw getLl
  rw [hm]
  exact ⟨rfl, h.look, h.same⟩
end Go.Proofs.Ytfnafjddajgahaa
