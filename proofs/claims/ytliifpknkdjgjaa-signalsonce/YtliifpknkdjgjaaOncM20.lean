/- januslaw20.SignalsOnce: plain, and rows of bools. -/
import Derived.Test.YtliifpknkdjgjaaOneM20
namespace Go.Proofs.Ytliifpknkdjgjaa
open Go.ChangeShapes Go.WideShapes Go.ChangeAt Go.RowKit Go.Lib Go.Joins
set_option linter.unusedVariables false

theorem nx_first {h : List Int} {n : Nat} : ∀ k i q, QOk q → i ≤ n → n < i + k → i + k ≤ 16 → q.testBit n = true → h.getD (n - 1) 0 ≠ ign → (∀ j, i ≤ j → j < n → q.testBit j = true → h.getD (j - 1) 0 = ign) →
    (nxF h k i q).1 = n ∧ (∀ j, j < i → (nxF h k i q).2.testBit j = q.testBit j) ∧ (∀ j, i ≤ j → (nxF h k i q).2.testBit j = (decide (n < j) && q.testBit j))
  | 0, i, q, _, h1, h2, _, _, _, _ => by omega
  | k + 1, i, q, hq, h1, h2, h16, hn, hi, hl => by
    have hc := fun j => clr_bit hq.1 (i := i) (by omega) j
    by_cases e : i = n
    · subst e
      unfold nxF
      rw [if_pos hn, if_neg hi]
      refine ⟨rfl, fun j hj => ?_, fun j hj => ?_⟩
      · rw [hc j, if_neg (by omega)]
      · rw [hc j]
        by_cases ej : j = i
        · rw [if_pos ej, decide_eq_false (by omega)]; rfl
        · rw [if_neg ej, decide_eq_true (by omega)]; rfl
    · unfold nxF
      cases hb : q.testBit i with
      | true =>
        rw [if_pos rfl, if_pos (hl i (Nat.le_refl _) (by omega) hb)]
        obtain ⟨r1, r2, r3⟩ := nx_first k (i + 1) (clr q i) (hq.clr (by omega)) (by omega) (by omega) (by omega) (by rw [hc, if_neg (by omega)]; exact hn) hi (fun j g1 g2 g3 => by
          rw [hc, if_neg (by omega)] at g3
          exact hl j (by omega) g2 g3)
        refine ⟨r1, fun j hj => ?_, fun j hj => ?_⟩
        · rw [r2 j (by omega), hc, if_neg (by omega)]
        · by_cases ej : j = i
          · rw [ej, r2 i (by omega), hc, if_pos rfl, decide_eq_false (by omega)]; rfl
          · rw [r3 j (by omega), hc, if_neg ej]
      | false =>
        rw [if_neg (by simp)]
        obtain ⟨r1, r2, r3⟩ := nx_first k (i + 1) q hq (by omega) (by omega) (by omega) hn hi (fun j g1 g2 g3 => hl j (by omega) g2 g3)
        refine ⟨r1, fun j hj => r2 j (by omega), fun j hj => ?_⟩
        by_cases ej : j = i
        · rw [ej, r2 i (by omega), hb, Bool.and_false]
        · exact r3 j (by omega)
theorem nx_no {h : List Int} : ∀ k i q, QOk q → i + k ≤ 16 → (∀ j, i ≤ j → j < i + k → q.testBit j = true → h.getD (j - 1) 0 = ign) → (nxF h k i q).1 = 0
  | 0, _, _, _, _, _ => rfl
  | k + 1, i, q, hq, h16, hl => by
    unfold nxF
    cases hb : q.testBit i with
    | true =>
      rw [if_pos rfl, if_pos (hl i (Nat.le_refl _) (by omega) hb)]
      refine nx_no k (i + 1) _ (hq.clr (by omega)) (by omega) (fun j g1 g2 g3 => ?_)
      rw [clr_bit hq.1 (by omega), if_neg (by omega)] at g3
      exact hl j (by omega) (by omega) g3
    | false =>
      rw [if_neg (by simp)]
      exact nx_no k (i + 1) q hq (by omega) (fun j g1 g2 g3 => hl j (by omega) (by omega) g3)
/-- Is signal j to be ignored. -/
def igB (p : Sg) (j : Nat) : Bool := decide (1 ≤ j) && decide (p.h.getD (j - 1) 0 = ign)
/-- Sixteen bools as cells. -/
def brow (f : Nat → Bool) : Array Value := ((List.range 16).map (fun j => Value.bool (f j))).toArray
theorem brow_get (f : Nat → Bool) (j : Nat) (hj : j < 16) : (brow f)[j]? = some (.bool (f j)) := by
  unfold brow
  rw [List.getElem?_toArray, List.getElem?_map, List.getElem?_range hj]
  rfl
theorem brow_ext {f g : Nat → Bool} (h : ∀ j, j < 16 → f j = g j) : brow f = brow g := by
  unfold brow
  congr 1
  apply List.map_congr_left
  intro j hj
  rw [h j (List.mem_range.1 hj)]
theorem brow_set {f g : Nat → Bool} (x : Nat) (h : ∀ j, j < 16 → g j = if j = x then true else f j) : (brow f).setIfInBounds x (.bool true) = brow g := by
  have hs : ∀ k : Nat → Bool, (brow k).size = 16 := fun k => by simp [brow]
  apply Array.ext
  · rw [Array.size_setIfInBounds, hs, hs]
  · intro j h1 h2
    have hj : j < 16 := by rw [hs] at h2; exact h2
    have e1 := brow_get g j hj
    have e2 := brow_get f j hj
    rw [Array.getElem?_eq_getElem h2] at e1
    rw [Array.getElem?_eq_getElem (by rw [hs]; exact hj)] at e2
    rw [Array.getElem_setIfInBounds (by rw [hs]; exact hj), Option.some.inj e1, h j hj]
    by_cases e : x = j
    · rw [if_pos e, if_pos e.symm]
    · rw [if_neg e, Option.some.inj e2, if_neg (fun q => e q.symm)]
theorem brow_lit : (#[.bool false, .bool false, .bool false, .bool false, .bool false, .bool false, .bool false, .bool false, .bool false, .bool false, .bool false, .bool false, .bool false, .bool false, .bool false, .bool false] : Array Value) = brow (fun _ => false) := rfl
/-- Both rows tell of the signals. -/
structure Both20 (w : World) (b n y : Nat) (S : SS) : Prop where
  at' : SgAt w b S
  ok : SOk S
  out : (S 0).k = none
  no : w.heap[n]? = some (.cells (brow (igB (S 0))) 46 (0, 0))
  yes : w.heap[y]? = some (.cells (brow (S 0).q.testBit) 46 (0, 0))
theorem se_err {S : SS} {x : Int} (hx : seE 1 x ≠ 0) (v : Int) : seS S 1 x v = S := by
  unfold seE at hx
  unfold seS
  rw [p1, if_pos rfl] at hx
  rw [p1]
  cases h : (isS x && x != 9) with
  | true => rw [h] at hx; exact absurd rfl hx
  | false => rfl
theorem se_ok {x : Int} (hx : seE 1 x = 0) : ∃ m : Nat, x = (m : Int) + 1 ∧ m < 15 ∧ m ≠ 8 := by
  unfold seE at hx
  rw [p1, if_pos rfl] at hx
  cases h : (isS x && x != 9) with
  | true =>
    rw [Bool.and_eq_true, bne_iff_ne] at h
    obtain ⟨m, rfl, hm⟩ := isS_nat h.1
    exact ⟨m, rfl, hm, fun e => h.2 (by omega)⟩
  | false => rw [h] at hx; cases hx
theorem sd_err {S : SS} {x : Int} (hx : sdE 1 x ≠ 0) : sdS S 1 x = S := by
  unfold sdE at hx
  unfold sdS
  rw [p1, if_pos rfl] at hx
  rw [p1]
  cases h : isS x with
  | true => rw [h] at hx; exact absurd rfl hx
  | false => rfl
theorem sd_ok {x : Int} (hx : sdE 1 x = 0) : ∃ m : Nat, x = (m : Int) + 1 ∧ m < 15 := by
  unfold sdE at hx
  rw [p1, if_pos rfl] at hx
  cases h : isS x with
  | true =>
    obtain ⟨m, rfl, hm⟩ := isS_nat h
    exact ⟨m, rfl, hm⟩
  | false => rw [h] at hx; cases hx
theorem ig_set {S : SS} {m : Nat} (hok : SOk S) (hm : m < 15) (h8 : m ≠ 8) : ∀ j, j < 16 → igB ((seS S 1 ((m : Int) + 1) 18446744073709551614) 0) j = if j = m + 1 then true else igB (S 0) j := by
  intro j hj
  rw [at1_se _ hm h8]
  unfold igB
  dsimp only
  by_cases e : j = m + 1
  · rw [if_pos e, e, show m + 1 - 1 = m by omega, List.getD_eq_getElem?_getD, List.getElem?_set_self (by rw [(hok 0 (by omega)).len]; exact hm), decide_eq_true (by omega)]
    rfl
  · rw [if_neg e]
    cases j with
    | zero => rfl
    | succ j =>
      rw [show j + 1 - 1 = j by omega, List.getD_eq_getElem?_getD, List.getD_eq_getElem?_getD, List.getElem?_set_ne (by omega)]
theorem yes_set {S : SS} {m : Nat} (hm : m < 15) : ∀ j, j < 16 → ((sdS S 1 ((m : Int) + 1)) 0).q.testBit j = if j = m + 1 then true else (S 0).q.testBit j := by
  intro j hj
  rw [at1_sd hm]
  show (addB (S 0).q (m + 1)).testBit j = _
  rw [addB_bit]
  by_cases e : j = m + 1
  · rw [if_pos e, decide_eq_true e.symm]; simp
  · rw [if_neg e, decide_eq_false (fun q => e q.symm)]; simp
/-- Behind the signals below n: what is told yet. -/
structure Told (H : List Int) (Y : Nat → Bool) (n : Nat) (p : Sg) : Prop where
  h : p.h = H
  k : p.k = none
  ok : QOk p.q
  nine : p.q.testBit 9 = false
  up : ∀ j, n ≤ j → j < 16 → j ≠ 9 → p.q.testBit j = Y j
  low : ∀ j, 1 ≤ j → j < n → p.q.testBit j = true → H.getD (j - 1) 0 = ign
theorem Told.first {H : List Int} {Y : Nat → Bool} {p : Sg} (h1 : p.h = H) (h2 : p.k = none) (h3 : QOk p.q) (h4 : p.q.testBit 9 = false) (h5 : ∀ j, j ≠ 9 → p.q.testBit j = Y j) : Told H Y 1 p := ⟨h1, h2, h3, h4, fun j _ _ h => h5 j h, fun j g1 g2 => by omega⟩
theorem Told.skip {H : List Int} {Y : Nat → Bool} {n : Nat} {p : Sg} (h : Told H Y n p) (hn : n < 16) (hs : n = 9 ∨ Y n = false ∨ H.getD (n - 1) 0 = ign) : Told H Y (n + 1) p := by
  refine ⟨h.h, h.k, h.ok, h.nine, fun j g1 g2 g3 => h.up j (by omega) g2 g3, fun j g1 g2 g3 => ?_⟩
  by_cases e : j = n
  · subst e
    rcases hs with q | q | q
    · rw [q, h.nine] at g3; cases g3
    · by_cases e9 : j = 9
      · rw [e9, h.nine] at g3; cases g3
      · rw [h.up j (Nat.le_refl _) hn e9, q] at g3; cases g3
    · exact q
  · exact h.low j g1 (by omega) g3
theorem Told.nxE {H : List Int} {Y : Nat → Bool} {n : Nat} {p : Sg} (h : Told H Y n p) : p.nx = nxF H 15 1 p.q := by
  unfold Sg.nx
  rw [h.nine, if_neg (by simp), h.k, if_neg (by simp), h.h]
theorem Told.take {H : List Int} {Y : Nat → Bool} {n : Nat} {p : Sg} (h : Told H Y n p) (h1 : 1 ≤ n) (hn : n < 16) (h9 : n ≠ 9) (hy : Y n = true) (hi : H.getD (n - 1) 0 ≠ ign) : p.nx.1 = n ∧ Told H Y (n + 1) (p.q' p.nx.2) := by
  rw [h.nxE]
  have hb : p.q.testBit n = true := by rw [h.up n (Nat.le_refl _) hn h9]; exact hy
  obtain ⟨r1, r2, r3⟩ := nx_first (h := H) (n := n) 15 1 p.q h.ok h1 (by omega) (by omega) hb hi (fun j g1 g2 g3 => h.low j g1 g2 g3)
  have hq := (nxF_ok H 15 1 p.q h.ok (by omega)).1
  refine ⟨r1, h.h, h.k, hq, ?_, fun j g1 g2 g3 => ?_, fun j g1 g2 g3 => ?_⟩
  · show (nxF H 15 1 p.q).2.testBit 9 = false
    rw [r3 9 (by omega), h.nine, Bool.and_false]
  · show (nxF H 15 1 p.q).2.testBit j = Y j
    rw [r3 j (by omega), decide_eq_true (by omega), h.up j (by omega) g2 g3]
    rfl
  · have g4 : (nxF H 15 1 p.q).2.testBit j = true := g3
    rw [r3 j (by omega), decide_eq_false (by omega)] at g4
    cases g4
theorem Told.fin {H : List Int} {Y : Nat → Bool} {p : Sg} (h : Told H Y 16 p) : p.nx.1 = 0 := by
  rw [h.nxE]
  exact nx_no 15 1 p.q h.ok (by omega) (fun j g1 g2 g3 => h.low j g1 (by omega) g3)
section
variable {H : Type} {enc : TypeId × Value → H} {w : World} {base : Nat} {held : Bool}
theorem ints_in {n : Nat} {a : Option Addr} {len cap : Nat} {y : DataW H × List MemPlace} (h : DataW.trod enc Try.prog w base (fun _ => true) held n 45 [.slice a len cap] = some y) :
    len ≤ 9223372036854775807 ∧ ∃ D : List Int, len = D.length ∧ IRow w a D := by
  rcases open_ints Try.underlying45 Try.underlying3 (by kernel_rfl) h with ⟨hcs, _⟩ | ⟨ad, l, c, zs, hcs, _, hl, hm, hz, _, hcell, hwz⟩
  · simp only [List.cons.injEq, and_true, Value.slice.injEq] at hcs
    obtain ⟨rfl, rfl, rfl⟩ := hcs
    exact ⟨by omega, [], rfl, fun j x hx => by simp at hx⟩
  · simp only [List.cons.injEq, and_true, Value.slice.injEq] at hcs
    obtain ⟨rfl, rfl, rfl⟩ := hcs
    have hz' : zs.length = cap := by simpa using hz
    refine ⟨by unfold maxLen at hm; omega, zs.take len, by rw [List.length_take]; omega, fun j x hj => ?_⟩
    have hlt := (List.getElem?_eq_some_iff.1 hj).1
    rw [List.length_take] at hlt
    rw [List.getElem?_take_of_lt (by omega)] at hj
    obtain ⟨gb, off, rfl, hc⟩ := ints_at hcell (by omega)
    refine ⟨gb, off, rfl, ?_⟩
    rw [hc j (by omega), List.getD_eq_getElem?_getD, hj]
    rfl
end
end Go.Proofs.Ytliifpknkdjgjaa
