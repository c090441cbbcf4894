/- The reference of package procs: what Decode asks, plain. -/
import Derived.Test.YtfcpcncafopobaaRqA
namespace Go.Proofs.Ytfcpcncafopobaa
open Go.RowKit Go.Lib
set_option linter.unusedVariables false

/-- The words as a row. -/
def twS (ws : List Int) : TS := fun i => ⟨wd ws (3 * i), wd ws (3 * i + 1), IntKind.i64.wrap (wd ws (3 * i + 2))⟩
/-- The first k are read, the others zero. -/
def twTo (ws : List Int) (k : Nat) : TS := fun i => if i < k then twS ws i else ⟨0, 0, 0⟩
theorem twTo_0 (ws : List Int) : twTo ws 0 = trS St0 := by
  funext i
  unfold twTo
  rw [if_neg (by omega)]
  rfl
theorem twTo_next (ws : List Int) (k : Nat) : (twTo ws k).set k (twS ws k) = twTo ws (k + 1) := by
  funext i
  unfold TS.set twTo
  by_cases e : i = k
  · rw [if_pos e, if_pos (by omega), e]
  · rw [if_neg e]
    by_cases h : i < k
    · rw [if_pos h, if_pos (by omega)]
    · rw [if_neg h, if_neg (by omega)]
theorem twTo_8 (ws : List Int) {i : Nat} (hi : i < 8) : twTo ws 8 i = twS ws i := by unfold twTo; rw [if_pos hi]
/-- The marks and the parents. -/
def rd0 (ws : List Int) (i : Nat) : Bool := decide (wd ws (3 * i) ≤ 2) && decide (wd ws (3 * i + 1) ≤ 8)
def rd0K (ws : List Int) : Nat → Bool
  | 0 => true
  | k + 1 => rd0K ws k && rd0 ws k
theorem rd0K_at {ws : List Int} : ∀ {n i : Nat}, rd0K ws n = true → i < n → rd0 ws i = true
  | 0, i, _, hi => by omega
  | n + 1, i, h, hi => by
    unfold rd0K at h
    rw [Bool.and_eq_true] at h
    by_cases e : i = n
    · rw [e]; exact h.2
    · exact rd0K_at h.1 (by omega)
theorem rd0_of {ws : List Int} {i : Nat} (h : rdAt ws i = true) : rd0 ws i = true := by
  obtain ⟨h1, h2, _, _⟩ := rdB_is h
  unfold rd0
  rw [decide_eq_true h1, decide_eq_true h2]
  rfl
theorem rd0_no {ws : List Int} {i : Nat} (hi : i < 8) (h : rd0 ws i = false) : okW ws = false := by
  cases e : okW ws with
  | false => rfl
  | true =>
    unfold okW at e
    rw [Bool.and_eq_true, Bool.and_eq_true] at e
    rw [rd0_of (rdK_at e.2.1 hi)] at h
    cases h
/-- May it have that parent? -/
def baI (T : TS) (i : Nat) : Bool := ((T i).par == 0) || ((T ((T i).par - 1).toNat).is != 0)
def okI (T : TS) (i : Nat) : Bool :=
  if (T i).is = 0 then ((T i).is == 0 && ((T i).par == 0 && (T i).st == 0))
  else if (T i).is = 1 then (baI T i && ((T i).st == 0))
  else (baI T i && livT T (T i).par)
def rootR (T : TS) : Nat → Int → Bool
  | 0, _ => false
  | n + 1, k => decide (k = 0) || rootR T n (T (k - 1).toNat).par
def okR (T : TS) (i : Nat) : Bool := okI T i && rootR T 9 ((i : Int) + 1)
/-- A row whose parents are pids. -/
def Pars (T : TS) : Prop := ∀ i, i < 8 → 0 ≤ (T i).par ∧ (T i).par ≤ 8
theorem wrap0 {x : Int} (h0 : 0 ≤ x) (h1 : x < 18446744073709551616) : (IntKind.i64.wrap x == 0) = (x == 0) := by
  by_cases e : x = 0
  · rw [e]; rfl
  · have : IntKind.i64.wrap x ≠ 0 := by simp [IntKind.wrap, IntKind.bits, IntKind.signed]; omega
    rw [beq_false_of_ne this, beq_false_of_ne e]
theorem tw_pars {ws : List Int} (hw : Words ws) (h : rd0K ws 8 = true) : Pars (twTo ws 8) := by
  intro i hi
  rw [twTo_8 ws hi]
  have := rd0K_at h hi
  unfold rd0 at this
  rw [Bool.and_eq_true] at this
  refine ⟨(wd_word hw _).1, by simpa [twS] using this.2⟩
/-- Where the row's own rules hold the words can be read. -/
theorem okI_rd {ws : List Int} (hw : Words ws) {i : Nat} (hi : i < 8) (h0 : rd0 ws i = true) (h : okI (twTo ws 8) i = true) : rdAt ws i = true := by
  unfold rd0 at h0
  rw [Bool.and_eq_true, decide_eq_true_eq, decide_eq_true_eq] at h0
  have hm := wd_word hw (3 * i)
  have hs := wd_word hw (3 * i + 2)
  unfold okI at h
  rw [twTo_8 ws hi] at h
  unfold rdAt rdB
  rw [decide_eq_true h0.1, decide_eq_true h0.2]
  have e1 : (twS ws i).is = wd ws (3 * i) := rfl
  have e2 : (twS ws i).par = wd ws (3 * i + 1) := rfl
  have e3 : (twS ws i).st = IntKind.i64.wrap (wd ws (3 * i + 2)) := rfl
  rw [e1, e2, e3, wrap0 hs.1 hs.2] at h
  by_cases q0 : wd ws (3 * i) = 0
  · rw [if_pos q0] at h
    simp only [Bool.and_eq_true, beq_iff_eq] at h
    simp [h.2.1, h.2.2]
  · rw [if_neg q0] at h
    by_cases q1 : wd ws (3 * i) = 1
    · rw [if_pos q1] at h
      simp only [Bool.and_eq_true, beq_iff_eq] at h
      rw [h.2, decide_eq_false q0]
      simp
    · have q2 : wd ws (3 * i) = 2 := by omega
      rw [decide_eq_true q2, decide_eq_false q0]
      rfl
/-- Words that can be read: the row is the processes'. -/
theorem tw_S {ws : List Int} (hw : Words ws) (h : rdK ws 8 = true) {i : Nat} (hi : i < 8) : twTo ws 8 i = trS (decS ws) i := by
  rw [twTo_8 ws hi]
  unfold trS
  rw [decS_at ws hi]
  obtain ⟨h1, h2, h3, h4⟩ := rdB_is (rdK_at h hi)
  have hm := wd_word hw (3 * i)
  unfold decP twS
  by_cases q0 : wd ws (3 * i) = 0
  · have hs : wd ws (3 * i + 2) = 0 := h3.resolve_left (by omega)
    rw [if_pos q0, h4 q0, q0, hs]
    rfl
  · rw [if_neg q0]
    show _ = (⟨if decide (wd ws (3 * i) = 2) = true then 2 else 1, _, _⟩ : Tr)
    by_cases q2 : wd ws (3 * i) = 2
    · rw [if_pos (decide_eq_true q2), q2]
    · rw [if_neg (by simpa using q2), show wd ws (3 * i) = 1 by omega]
theorem root_S {T : TS} {S : St} (hT : ∀ i, i < 8 → T i = trS S i) (hd : Dom S) (hup : ∀ k p, S k = some p → p.par ≠ 0 → (S p.par).isSome = true) : ∀ n k p, S k = some p → rootR T (n + 1) k = rootB S n p
  | 0, k, p, hk => by
    have := hd k p hk
    unfold rootR rootR rootB
    rw [decide_eq_false (show ¬ k = 0 by omega)]
    rfl
  | n + 1, k, p, hk => by
    have hr := hd k p hk
    have hTk : (T (k - 1).toNat).par = p.par := by
      rw [hT _ (by omega)]
      unfold trS
      rw [show (((k - 1).toNat : Nat) : Int) + 1 = k by omega, hk]
      rfl
    show (decide (k = 0) || rootR T (n + 1) (T (k - 1).toNat).par) = (decide (p.par = 0) || hits S (rootB S n) p.par)
    rw [decide_eq_false (show ¬ k = 0 by omega), hTk, Bool.false_or]
    by_cases e : p.par = 0
    · rw [decide_eq_true e, e]
      rfl
    · rw [decide_eq_false e, Bool.false_or]
      obtain ⟨q, hq⟩ := Option.isSome_iff_exists.1 (hup k p hk e)
      rw [root_S hT hd hup n p.par q hq]
      unfold hits
      rw [hq]
theorem liv_T {T : TS} {S : St} (hT : ∀ i, i < 8 → T i = trS S i) (hd : Dom S) (k : Int) : livT T k = liv S k := by
  rw [← livT_S hd k]
  unfold livT
  cases hp : isP k with
  | false => rfl
  | true =>
    obtain ⟨h1, h8⟩ := isP_yes hp
    rw [hT _ (by omega)]
theorem okI_S {T : TS} {S : St} (hT : ∀ i, i < 8 → T i = trS S i) (hd : Dom S) (hpar : ∀ k p, S k = some p → 0 ≤ p.par ∧ p.par ≤ 8) (hst : ∀ k p, S k = some p → p.zom = false → p.st = 0) {i : Nat} (hi : i < 8) :
    okI T i = !hits S (fun p => !mayB S p) ((i : Int) + 1) := by
  have e0 : T i = trO (S ((i : Int) + 1)) := hT i hi
  unfold okI hits
  rw [e0]
  cases hS : S ((i : Int) + 1) with
  | none => rfl
  | some p =>
    have hp := hpar _ p hS
    have hba : baI T i = ((p.par == 0) || (S p.par).isSome) := by
      unfold baI
      rw [e0, hS]
      show ((p.par == 0) || ((T (p.par - 1).toNat).is != 0)) = _
      by_cases q : p.par = 0
      · rw [q]; rfl
      · rw [beq_false_of_ne q, Bool.false_or, Bool.false_or, hT _ (by omega)]
        unfold trS
        rw [show (((p.par - 1).toNat : Nat) : Int) + 1 = p.par by omega]
        cases S p.par with
        | none => rfl
        | some x => cases hx : x.zom <;> simp [trO, hx]
    have epar : (trO (some p)).par = p.par := rfl
    have est : (trO (some p)).st = p.st := rfl
    show _ = !(!mayB S p)
    rw [Bool.not_not]
    unfold mayB
    cases hz : p.zom with
    | false =>
      have eis : (trO (some p)).is = 1 := by show (if p.zom = true then (2 : Int) else 1) = 1; rw [hz]; rfl
      rw [eis, est, hst _ p hS hz, hba, if_neg (by omega), if_pos rfl, if_neg (by simp), show ((0 : Int) == 0) = true from rfl, Bool.and_true]
      rfl
    | true =>
      have eis : (trO (some p)).is = 2 := by show (if p.zom = true then (2 : Int) else 1) = 2; rw [hz]; rfl
      rw [eis, epar, hba, if_neg (by omega), if_neg (by omega), if_pos rfl, liv_T hT hd]
      cases hl : liv S p.par with
      | false => rw [Bool.and_false]
      | true =>
        obtain ⟨x, hx, _⟩ := liv_is.1 hl
        rw [hx]
        simp
theorem dec_par {ws : List Int} (hw : Words ws) (h : rdK ws 8 = true) : (∀ k p, decS ws k = some p → 0 ≤ p.par ∧ p.par ≤ 8) ∧ ∀ k p, decS ws k = some p → p.zom = false → p.st = 0 := by
  have key : ∀ k p, decS ws k = some p → (0 ≤ p.par ∧ p.par ≤ 8) ∧ (p.zom = false → p.st = 0) := by
    intro k p hk
    have hd := dec_dom ws k p hk
    obtain ⟨i, rfl⟩ : ∃ i : Nat, k = (i : Int) + 1 := ⟨(k - 1).toNat, by omega⟩
    rw [decS_at ws (by omega)] at hk
    obtain ⟨h1, h2, h3, h4⟩ := rdB_is (rdK_at h (show i < 8 by omega))
    unfold decP at hk
    split at hk
    · cases hk
    · cases hk
      refine ⟨⟨(wd_word hw _).1, h2⟩, fun hz => ?_⟩
      have : ¬ wd ws (3 * i) = 2 := by simpa using hz
      rw [show IntKind.i64.wrap (wd ws (3 * i + 2)) = IntKind.i64.wrap 0 by rw [h3.resolve_left this]]
      rfl
  exact ⟨fun k p hk => (key k p hk).1, fun k p hk => (key k p hk).2⟩
/-- What the reference asks of each row is what the words' own rules ask. -/
theorem ok_rows {ws : List Int} (hw : Words ws) (hl : ws.length = 24) (h0 : rd0K ws 8 = true) : okW ws = true ↔ ∀ i, i < 8 → okR (twTo ws 8) i = true := by
  constructor
  · intro h i hi
    unfold okW at h
    rw [Bool.and_eq_true, Bool.and_eq_true] at h
    obtain ⟨_, hk, hf⟩ := h
    unfold frB at hf
    rw [Bool.and_eq_true] at hf
    have hd := dec_dom ws
    have hT : ∀ i, i < 8 → twTo ws 8 i = trS (decS ws) i := fun i hi => tw_S hw hk hi
    obtain ⟨hp, hst⟩ := dec_par hw hk
    have hup := may_up hd hf.1
    unfold okR
    rw [okI_S hT hd hp hst hi]
    unfold hits
    cases hS : decS ws ((i : Int) + 1) with
    | none =>
      have : (twTo ws 8 i).par = 0 := by rw [hT i hi]; unfold trS; rw [hS]; rfl
      show (true && (decide ((i : Int) + 1 = 0) || (decide ((twTo ws 8 ((i : Int) + 1 - 1).toNat).par = 0) || _))) = true
      rw [show ((i : Int) + 1 - 1).toNat = i by omega, decide_eq_true this]
      simp
    | some p =>
      rw [root_S hT hd hup 8 _ p hS, (allB_true hd).1 hf.2 _ p hS]
      show (!(!mayB (decS ws) p) && true) = true
      rw [(allB_true hd).1 hf.1 _ p hS]
      rfl
  · intro h
    have hk : rdK ws 8 = true := by
      have key : ∀ n, n ≤ 8 → rdK ws n = true := by
        intro n
        induction n with
        | zero => intro _; rfl
        | succ n ih =>
          intro hn
          have hr := h n (by omega)
          unfold okR at hr
          rw [Bool.and_eq_true] at hr
          unfold rdK
          rw [ih (by omega), okI_rd hw (by omega) (rd0K_at h0 (by omega)) hr.1]
          rfl
      exact key 8 (Nat.le_refl _)
    have hd := dec_dom ws
    have hT : ∀ i, i < 8 → twTo ws 8 i = trS (decS ws) i := fun i hi => tw_S hw hk hi
    obtain ⟨hp, hst⟩ := dec_par hw hk
    have hmay : allB (decS ws) (mayB (decS ws)) = true := (allB_true hd).2 (fun k p hk2 => by
      have hdk := hd k p hk2
      have hr := h (k - 1).toNat (by omega)
      unfold okR at hr
      rw [Bool.and_eq_true, okI_S hT hd hp hst (by omega), show (((k - 1).toNat : Nat) : Int) + 1 = k by omega] at hr
      unfold hits at hr
      rw [hk2] at hr
      simpa using hr.1)
    have hup := may_up hd hmay
    unfold okW frB
    rw [decide_eq_true hl, hk, hmay, Bool.true_and, Bool.true_and, Bool.true_and]
    refine (allB_true hd).2 (fun k p hk2 => ?_)
    have hdk := hd k p hk2
    have hr := h (k - 1).toNat (by omega)
    unfold okR at hr
    rw [Bool.and_eq_true, show (((k - 1).toNat : Nat) : Int) + 1 = k by omega] at hr
    rw [← root_S hT hd hup 8 k p hk2]
    exact hr.2
end Go.Proofs.Ytfcpcncafopobaa
