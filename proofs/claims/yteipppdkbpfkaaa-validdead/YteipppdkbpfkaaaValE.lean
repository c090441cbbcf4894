/- The contracts of package valid: read, Check, Depths, Entry. -/
import Derived.Test.YteipppdkbpfkaaaValD
namespace Go.Proofs.Yteipppdkbpfkaaa
open Go.RowKit
set_option linter.unusedVariables false

/-- A text that is a program that may be run: its instructions, their depths. -/
structure Valid (s : List UInt8) (l : List Ins) (D : List Int) : Prop where
  size : 1 ≤ s.length ∧ s.length ≤ 192
  dec : decAt s 0 = some l
  stand : Stand l
  sol : Sol l D
def Bad (s : List UInt8) : Prop := ∀ l D, ¬ Valid s l D
theorem Valid.unique {s : List UInt8} {l l' : List Ins} {D D' : List Int} (h : Valid s l D) (k : Valid s l' D') : l = l' ∧ D = D' := by
  have e : l = l' := by have := h.dec; rw [k.dec] at this; cases this; rfl
  subst e
  exact ⟨rfl, h.sol.unique k.sol⟩
theorem Valid.prog {s : List UInt8} {l : List Ins} {D : List Int} (h : Valid s l D) : Prog s l := prog_of (by have := h.size; omega) h.dec
theorem Valid.lens {s : List UInt8} {l : List Ins} {D : List Int} (h : Valid s l D) : 1 ≤ l.length ∧ l.length ≤ 192 ∧ D.length = l.length := by
  have h1 := h.prog.some (by have := h.size; omega)
  have h2 : 0 < l.length := List.length_pos_iff.2 h1
  have h3 : l.length ≤ s.length := by
    have e1 := (enc_dec s _ 0 (Nat.le_refl _) (by omega) l h.dec).2
    have e2 : ∀ (l : List Ins), l.length ≤ (encs l).length := by
      intro l
      induction l with
      | nil => simp
      | cons i l ih =>
        have e : encs (i :: l) = enc1 i ++ encs l := rfl
        rw [e, List.length_append, enc1_len, List.length_cons]
        omega
    have e3 := e2 l
    rw [e1] at e3
    simpa using e3
  have := h.size
  exact ⟨h2, by omega, h.sol.len⟩
/-- What read answers. -/
def Told (s : List UInt8) (e : Ending) (w' : World) : Prop :=
  (∃ l D a0 ca b0 cb, Valid s l D ∧ e = .returned (.tuple #[.slice a0 l.length ca, .slice b0 l.length cb, .int .i64 0]) ∧ Row w' a0 l ∧ IRow w' b0 D) ∨
  (Bad s ∧ e = .returned (.tuple #[.slice none 0 0, .slice none 0 0, .int .i64 8]))

set_option maxHeartbeats 1000000 in
theorem read_at (s : List UInt8) (hs : s.length ≤ 9223372036854775807) (w : World) :
    Calls Try.prog 17 #[tx s] w fun e w' => Told s e w' ∧ Below w.heap.size w w' := by
  have hsz : (ByteArray.mk s.toArray).size = s.length := by simp [ByteArray.size]
  by_cases h0 : s.length < 1
  · have HB : Hid (Bad s) := fun l D h => by have := h.size; omega
    go_enter Try.func17, Try.ntmps17
    go_wp2
    go_ret3
    exact ⟨Or.inr ⟨HB.out, rfl⟩, Below.refl _ _⟩
  by_cases h1 : 192 < s.length
  · have HB : Hid (Bad s) := fun l D h => by have := h.size; omega
    go_enter Try.func17, Try.ntmps17
    go_wp2
    go_ret3
    exact ⟨Or.inr ⟨HB.out, rfl⟩, Below.refl _ _⟩
  have hdec := decode_at s (by omega) w
  cases hd : decAt s 0 with
  | none =>
    have HB : Hid (Bad s) := fun l D h => by have := h.dec; rw [hd] at this; cases this
    go_enter Try.func17, Try.ntmps17
    go_wp2_with fail
    refine hdec.mono ?_
    rintro e w1 ⟨hd1, hb1⟩
    unfold Decoded at hd1
    rw [hd] at hd1
    subst hd1
    clear hdec hd
    go_wp2
    go_ret3
    exact ⟨Or.inr ⟨HB.out, rfl⟩, hb1⟩
  | some l =>
    have hp := prog_of (by omega) hd
    have hl1 : 1 ≤ l.length := List.length_pos_iff.2 (hp.some (by omega))
    have hl2 : l.length ≤ s.length := by
      have e1 := (enc_dec s _ 0 (Nat.le_refl _) (by omega) l hd).2
      have e2 : ∀ (l : List Ins), l.length ≤ (encs l).length := by
        intro l
        induction l with
        | nil => simp
        | cons i l ih =>
          have e : encs (i :: l) = enc1 i ++ encs l := rfl
          rw [e, List.length_append, enc1_len, List.length_cons]
          omega
      have e3 := e2 l
      rw [e1] at e3
      simpa using e3
    have HP : Hid _ := hp
    have HD : Hid _ := hd
    clear hp
    go_enter Try.func17, Try.ntmps17
    go_wp2_with fail
    refine hdec.mono ?_
    rintro e w1 ⟨hd1, hb1⟩
    unfold Decoded at hd1
    rw [hd] at hd1
    obtain ⟨a0, ca, rfl, hr1⟩ := hd1
    clear hdec hd
    have HR1 : Hid _ := hr1
    have hst := argsStand_at l a0 ca w1 hr1 (by omega) HP.out.fine
    clear hr1
    cases hq : l.all (standB l) with
    | false =>
      have HB : Hid (Bad s) := fun l' D h => by
        have e : l' = l := by have := h.dec; rw [HD.out] at this; cases this; rfl
        subst e
        have := (stand_iff l').2 h.stand
        rw [hq] at this
        cases this
      rw [hq] at hst
      clear hq
      go_wp2_with fail
      refine hst.mono ?_
      rintro e w2 ⟨rfl, hb2⟩
      have hbw2 := hb1.trans (hb2.mono hb1.size)
      go_wp2
      go_ret3
      exact ⟨Or.inr ⟨HB.out, rfl⟩, hbw2⟩
    | true =>
      have HS : Hid (Stand l) := (stand_iff l).1 hq
      rw [hq] at hst
      clear hq
      go_wp2_with fail
      refine hst.mono ?_
      rintro e w2 ⟨rfl, hb2⟩
      have hr2 := Row.below HR1.out hb2
      have HR2 : Hid _ := hr2
      have hbw2 := hb1.trans (hb2.mono hb1.size)
      have hdp := depthsOf_at l a0 ca w2 hr2 hl1 (by omega) HP.out.fine HS.out
      clear hst hr2 hb2 hb1 HR1
      go_wp2_with fail
      refine hdp.mono ?_
      rintro e w3 ⟨hF, hb3⟩
      have hbw3 := hbw2.trans (hb3.mono hbw2.size)
      rcases hF with ⟨D, b0, cb, hsol, rfl, hir⟩ | ⟨hno, rfl⟩
      · have HV : Hid _ := And.intro (Valid.mk (D := D) (by omega) HD.out HS.out hsol) (And.intro (Row.below HR2.out hb3) hir)
        clear hsol hir hdp HR2 hb3 hbw2
        go_wp2
        go_ret3
        exact ⟨Or.inl ⟨l, D, _, _, _, _, HV.out.1, rfl, HV.out.2.1, HV.out.2.2⟩, hbw3⟩
      · have HB : Hid (Bad s) := fun l' D h => by
          have e : l' = l := by have := h.dec; rw [HD.out] at this; cases this; rfl
          subst e
          exact hno D h.sol
        clear hno hdp
        go_wp2
        go_ret3
        exact ⟨Or.inr ⟨HB.out, rfl⟩, hbw3⟩

theorem read_yes {s : List UInt8} {l : List Ins} {D : List Int} (hv : Valid s l D) (w : World) :
    Calls Try.prog 17 #[tx s] w fun e w' => (∃ a0 ca b0 cb, e = .returned (.tuple #[.slice a0 l.length ca, .slice b0 l.length cb, .int .i64 0]) ∧ Row w' a0 l ∧ IRow w' b0 D) ∧ Below w.heap.size w w' := by
  refine (read_at s (by have := hv.size; omega) w).mono ?_
  rintro e w' ⟨h, hb⟩
  refine ⟨?_, hb⟩
  rcases h with ⟨l', D', a0, ca, b0, cb, hv', rfl, h1, h2⟩ | ⟨h, _⟩
  · obtain ⟨rfl, rfl⟩ := hv.unique hv'
    exact ⟨a0, ca, b0, cb, rfl, h1, h2⟩
  · exact absurd hv (h l D)
theorem read_no {s : List UInt8} (hv : Bad s) (hs : s.length ≤ 9223372036854775807) (w : World) :
    Calls Try.prog 17 #[tx s] w fun e w' => e = .returned (.tuple #[.slice none 0 0, .slice none 0 0, .int .i64 8]) ∧ Below w.heap.size w w' := by
  refine (read_at s hs w).mono ?_
  rintro e w' ⟨h, hb⟩
  refine ⟨?_, hb⟩
  rcases h with ⟨l', D', a0, ca, b0, cb, hv', _⟩ | ⟨_, h⟩
  · exact absurd hv' (hv l' D')
  · exact h

theorem check_yes {s : List UInt8} {l : List Ins} {D : List Int} (hv : Valid s l D) (w : World) :
    Calls Try.prog 7 #[tx s] w fun e w' => e = .returned (.int .i64 0) ∧ Below w.heap.size w w' := by
  go_enter Try.func7, Try.ntmps7
  go_wp2_with fail
  refine (read_yes hv w).mono ?_
  rintro e w1 ⟨⟨a0, ca, b0, cb, rfl, _, _⟩, hb⟩
  go_wp2
  go_ret
  exact ⟨rfl, hb⟩
theorem check_no {s : List UInt8} (hv : Bad s) (hs : s.length ≤ 9223372036854775807) (w : World) :
    Calls Try.prog 7 #[tx s] w fun e w' => e = .returned (.int .i64 8) ∧ Below w.heap.size w w' := by
  go_enter Try.func7, Try.ntmps7
  go_wp2_with fail
  refine (read_no hv hs w).mono ?_
  rintro e w1 ⟨rfl, hb⟩
  go_wp2
  go_ret
  exact ⟨rfl, hb⟩
theorem depths_yes {s : List UInt8} {l : List Ins} {D : List Int} (hv : Valid s l D) (w : World) :
    Calls Try.prog 9 #[tx s] w fun e w' => (∃ b0 cb, e = .returned (.tuple #[.slice b0 l.length cb, .int .i64 0]) ∧ IRow w' b0 D) ∧ Below w.heap.size w w' := by
  go_enter Try.func9, Try.ntmps9
  go_wp2_with fail
  refine (read_yes hv w).mono ?_
  rintro e w1 ⟨⟨a0, ca, b0, cb, rfl, h1, h2⟩, hb⟩
  have H2 : Hid _ := h2
  clear h1 h2
  go_wp2
  go_ret2
  exact ⟨⟨b0, cb, rfl, H2.out⟩, hb⟩
theorem depths_no {s : List UInt8} (hv : Bad s) (hs : s.length ≤ 9223372036854775807) (w : World) :
    Calls Try.prog 9 #[tx s] w fun e w' => e = .returned (.tuple #[.slice none 0 0, .int .i64 8]) ∧ Below w.heap.size w w' := by
  go_enter Try.func9, Try.ntmps9
  go_wp2_with fail
  refine (read_no hv hs w).mono ?_
  rintro e w1 ⟨rfl, hb⟩
  go_wp2
  go_ret2
  exact ⟨rfl, hb⟩

/-- Whether an instruction of depth 0 begins at a place. -/
def entryB (l : List Ins) (D : List Int) (a : Int) : Bool := decide (0 ≤ findP l a) && decide (D.getD (findP l a).toNat (-1) = 0)
theorem entry_yes {s : List UInt8} {l : List Ins} {D : List Int} (hv : Valid s l D) (a : Int) (w : World) :
    Calls Try.prog 12 #[tx s, .int .i64 a] w fun e w' => e = .returned (.bool (entryB l D a)) ∧ Below w.heap.size w w' := by
  have hlen := hv.lens
  have HE : Hid (entryB l D a = (decide (0 ≤ findP l a) && decide (D.getD (findP l a).toNat (-1) = 0))) := by exact rfl
  generalize entryB l D a = B at *
  go_enter Try.func12, Try.ntmps12
  go_wp2_with fail
  refine (read_yes hv w).mono ?_
  rintro e w1 ⟨⟨a0, ca, b0, cb, rfl, h1, h2⟩, hb⟩
  have H1 : Hid _ := h1
  have H2 : Hid _ := h2
  have hfind := find_at l a a0 ca w1 h1 (by omega)
  clear h1 h2
  rcases findP_cases l a with ⟨hm, _⟩ | ⟨k, i, hk, hki, _, _⟩
  · rw [hm] at hfind
    have hB : B = false := by rw [HE.out, hm]; rfl
    subst hB
    clear hm
    go_wp2_with fail
    refine hfind.mono ?_
    rintro e w2 ⟨rfl, hb2⟩
    go_wp2
    go_ret
    exact ⟨rfl, hb.trans (hb2.mono hb.size)⟩
  · have hkl := (List.getElem?_eq_some_iff.1 hki).1
    obtain ⟨x, hx⟩ : ∃ x, D[k]? = some x := ⟨D[k]'(by omega), List.getElem?_eq_getElem _⟩
    have hB : B = (x == 0) := by
      rw [HE.out, hk]
      simp [hx]
      by_cases h : x = 0 <;> simp [h]
    rw [hk] at hfind
    have HX : Hid _ := hx
    clear hk hki HE hx
    go_wp2_with fail
    refine hfind.mono ?_
    rintro e w2 ⟨rfl, hb2⟩
    obtain ⟨gb, off, rfl, c0⟩ := (IRow.below H2.out hb2) k x HX.out
    subst hB
    go_wp2
    all_goals
      go_ret
      exact ⟨rfl, hb.trans (hb2.mono hb.size)⟩
theorem entry_no {s : List UInt8} (hv : Bad s) (hs : s.length ≤ 9223372036854775807) (a : Int) (w : World) :
    Calls Try.prog 12 #[tx s, .int .i64 a] w fun e w' => e = .returned (.bool false) ∧ Below w.heap.size w w' := by
  go_enter Try.func12, Try.ntmps12
  go_wp2_with fail
  refine (read_no hv hs w).mono ?_
  rintro e w1 ⟨rfl, hb⟩
  go_wp2
  go_ret
  exact ⟨rfl, hb⟩
end Go.Proofs.Yteipppdkbpfkaaa
