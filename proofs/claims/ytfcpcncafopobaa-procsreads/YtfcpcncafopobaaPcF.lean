/- Package procs: read, mayHaveParent, hasRoot. -/
import Derived.Test.YtfcpcncafopobaaPcB
import Derived.Deep.RegionHeld3
namespace Go.Proofs.Ytfcpcncafopobaa
open Go.RowKit Go.Lib
set_option linter.unusedVariables false

/-- What read leaves. -/
def rdS (S : St) (k m a s : Int) : St := if rdB m a s = true then (match decP m a s with | none => S | some p => stPut S k p) else S
set_option maxHeartbeats 4000000 in
theorem read_at (B b g off n cap : Nat) (S : St) (k m a s : Int) (w : World) (h : PrAt w B b S) (h1 : 1 ≤ k) (h8 : k ≤ 8) (hk : S k = none) (hn : 3 ≤ n)
    (c0 : w.cell? ⟨g, off, none⟩ = some (.int .u64 m)) (c1 : w.cell? ⟨g, off + 1, none⟩ = some (.int .u64 a)) (c2 : w.cell? ⟨g, off + 2, none⟩ = some (.int .u64 s)) (hm0 : 0 ≤ m) (ha0 : 0 ≤ a) :
    Calls Try.prog 37 #[ptr b, .int .i64 k, .slice (some ⟨g, off, none⟩) n cap] w fun e w' => e = .returned (.bool (rdB m a s)) ∧ PrAt w' B b (rdS S k m a s) ∧ Tch B w w' := by
  have d0 : w.drew.cell? ⟨g, off, none⟩ = some (.int .u64 m) := c0
  have d1 : w.drew.cell? ⟨g, off + 1, none⟩ = some (.int .u64 a) := c1
  have d2 : w.drew.cell? ⟨g, off + 2, none⟩ = some (.int .u64 s) := c2
  have n0 : (0 : Int) < (n : Int) := by omega
  have n1 : (1 : Int) < (n : Int) := by omega
  have n2 : (2 : Int) < (n : Int) := by omega
  have m0 : 0 < n := by omega
  have m1 : 1 < n := by omega
  have m2 : 2 < n := by omega
  have hA : PrAt w.drew B b S := h.below (Below.refl _ _).drew
  have HT : Hid (Tch B w w.drew) := Tch.of_below (Below.refl _ _).drew
  have HA : Hid (PrAt w.drew B b S) := hA
  by_cases hm : 2 < m
  · have g0 : decide (2 < m) = true := decide_eq_true hm
    have HR : Hid (rdB m a s = false ∧ rdS S k m a s = S) := by
      have e : rdB m a s = false := by unfold rdB; rw [decide_eq_false (show ¬ m ≤ 2 by omega)]; rfl
      exact ⟨e, by unfold rdS; rw [e, if_neg (by simp)]⟩
    clear h hk hA hn
    go_enter Try.func37, Try.ntmps37
    go_wp2_with fail
    go_region
    all_goals
      go_wp2
      go_ret
      obtain ⟨e1, e2⟩ := HR.out
      exact ⟨by rw [e1]; rfl, by rw [e2]; exact HA.out, HT.out⟩
  · have g0 : decide (2 < m) = false := decide_eq_false hm
    by_cases ha : 8 < a
    · have g1 : decide (8 < a) = true := decide_eq_true ha
      have HR : Hid (rdB m a s = false ∧ rdS S k m a s = S) := by
        have e : rdB m a s = false := by unfold rdB; rw [decide_eq_false (show ¬ a ≤ 8 by omega), Bool.and_false]; rfl
        exact ⟨e, by unfold rdS; rw [e, if_neg (by simp)]⟩
      clear h hk hA hn
      go_enter Try.func37, Try.ntmps37
      go_wp2_with fail
      go_region
      all_goals
        go_wp2
        go_ret
        obtain ⟨e1, e2⟩ := HR.out
        exact ⟨by rw [e1]; rfl, by rw [e2]; exact HA.out, HT.out⟩
    · have g1 : decide (8 < a) = false := decide_eq_false ha
      by_cases hs : m ≠ 2 ∧ s ≠ 0
      · have g2 : (m != 2) = true := bne_iff_ne.2 hs.1
        have g3 : (s != 0) = true := bne_iff_ne.2 hs.2
        have HR : Hid (rdB m a s = false ∧ rdS S k m a s = S) := by
          have e : rdB m a s = false := by
            cases e : rdB m a s with
            | false => rfl
            | true =>
              have := (rdB_is e).2.2.1
              exact absurd this (fun q => q.elim hs.1 hs.2)
          exact ⟨e, by unfold rdS; rw [e, if_neg (by simp)]⟩
        clear h hk hA hn hs
        go_enter Try.func37, Try.ntmps37
        go_wp2_with fail
        go_region
        all_goals
          go_wp2
          go_ret
          obtain ⟨e1, e2⟩ := HR.out
          exact ⟨by rw [e1]; rfl, by rw [e2]; exact HA.out, HT.out⟩
      · have hms : m = 2 ∨ s = 0 := by
          by_cases e : m = 2
          · exact Or.inl e
          · exact Or.inr (Classical.byContradiction fun q => hs ⟨e, q⟩)
        by_cases hmz : m = 0
        · subst hmz
          have hsz : s = 0 := hms.resolve_left (by omega)
          subst hsz
          have HR : Hid (rdB 0 a 0 = (a == 0) ∧ rdS S k 0 a 0 = S) := by
            refine ⟨?_, ?_⟩
            · unfold rdB
              rw [decide_eq_true (show a ≤ 8 by omega)]
              simp
              rfl
            · unfold rdS decP
              rw [if_pos rfl]
              split <;> rfl
          clear h hk hA hn hs hms
          go_enter Try.func37, Try.ntmps37
          go_wp2_with fail
          go_region
          all_goals
            go_wp2
            go_ret
            obtain ⟨e1, e2⟩ := HR.out
            exact ⟨by rw [e1]; rfl, by rw [e2]; exact HA.out, HT.out⟩
        · have HR : Hid (rdB m a s = true ∧ rdS S k m a s = stPut S k ⟨a, m == 2, IntKind.i64.wrap s⟩) := by
            have e : rdB m a s = true := by
              unfold rdB
              rw [decide_eq_true (show m ≤ 2 by omega), decide_eq_true (show a ≤ 8 by omega), decide_eq_false hmz]
              rcases hms with q | q
              · rw [decide_eq_true q]; rfl
              · rw [decide_eq_true q, Bool.or_true]; rfl
            refine ⟨e, ?_⟩
            unfold rdS decP
            rw [if_pos e, if_neg hmz]
            show stPut S k ⟨a, decide (m = 2), IntKind.i64.wrap s⟩ = _
            have : decide (m = 2) = (m == 2) := by
              cases q : (m == 2) with
              | true => exact decide_eq_true (by simpa using q)
              | false => exact decide_eq_false (by simpa using q)
            rw [this]
          have hp := put_at B b S k ⟨a, m == 2, IntKind.i64.wrap s⟩ w.drew hA h1 h8 hk
          have hwa : IntKind.i64.wrap a = a := by simp [IntKind.wrap, IntKind.bits, IntKind.signed]; omega
          have g4 : (m == 0) = false := beq_false_of_ne hmz
          have g5 : ∀ z, (m == 2) = z → (m != 2) = !z := fun z hz => by rw [← hz]; rfl
          cases hz2 : (m == 2) with
          | true =>
            have g2 : (m != 2) = false := g5 true hz2
            rw [hz2] at hp HR
            obtain ⟨sw, hsw⟩ : ∃ sw, IntKind.i64.wrap s = sw := ⟨_, rfl⟩
            rw [hsw] at hp HR
            clear h hk hA hn hs hms hm ha g5
            go_enter Try.func37, Try.ntmps37
            go_wp2_with fail
            go_region
            all_goals
              go_wp2_with fail
              refine hp.mono ?_
              rintro e w1 ⟨rfl, hA1, hT1⟩
              have HA1 : Hid (PrAt w1 B b (stPut S k ⟨a, true, sw⟩)) := hA1
              have HT1 : Hid (Tch B w w1) := HT.out.trans hT1
              clear hA1 hT1 hp
              go_wp2
              go_ret
              obtain ⟨e1, e2⟩ := HR.out
              exact ⟨by rw [e1]; rfl, by rw [e2]; exact HA1.out, HT1.out⟩
          | false =>
            have g2 : (m != 2) = true := g5 false hz2
            have hs0 : s = 0 := hms.resolve_left (fun q => by rw [q] at hz2; simp at hz2)
            subst hs0
            rw [hz2, show IntKind.i64.wrap 0 = 0 from rfl] at hp HR
            clear h hk hA hn hs hms hm ha g5
            go_enter Try.func37, Try.ntmps37
            go_wp2_with fail
            go_region
            all_goals
              go_wp2_with fail
              refine hp.mono ?_
              rintro e w1 ⟨rfl, hA1, hT1⟩
              have HA1 : Hid (PrAt w1 B b (stPut S k ⟨a, false, 0⟩)) := hA1
              have HT1 : Hid (Tch B w w1) := HT.out.trans hT1
              clear hA1 hT1 hp
              go_wp2
              go_ret
              obtain ⟨e1, e2⟩ := HR.out
              exact ⟨by rw [e1]; rfl, by rw [e2]; exact HA1.out, HT1.out⟩
end Go.Proofs.Ytfcpcncafopobaa
