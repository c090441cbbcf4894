/- What a decoded program is, and the contract of argsStand. -/
import Derived.Test.YtedkijionpkmmaaValA
namespace Go.Proofs.Ytedkijionpkmmaa
open Go.RowKit
set_option linter.unusedVariables false

/-- An instruction that was decoded. -/
def Fine (i : Ins) : Prop := i.Fit ∧ good i = true ∧ 0 ≤ i.pos ∧ i.pos ≤ 1000000
theorem dec_fine (s : List UInt8) (hs : s.length ≤ 1000000) : ∀ (n k : Nat), s.length - k ≤ n → k ≤ s.length → ∀ l, decAt s k = some l →
    (∀ i ∈ l, Fine i) ∧ (∀ (j : Nat) (i : Ins), l[j]? = some i → (k : Int) ≤ i.pos ∧ i.pos < s.length) ∧ (∀ (j j' : Nat) (i i' : Ins), j < j' → l[j]? = some i → l[j']? = some i' → i.pos < i'.pos) ∧ (∀ i : Ins, l[0]? = some i → i.pos = (k : Int)) ∧ (k < s.length → l ≠ [])
  | n, k, hn, hk, l, h => by
    by_cases hlt : k < s.length
    · cases hb : isIns s k with
      | false => rw [decAt_bad s k hlt hb] at h; cases h
      | true =>
        have hg := (enc_dec s n k hn hk l h).1
        rw [decAt_step s k hlt hb] at h
        obtain ⟨l', hl', rfl⟩ := Option.map_eq_some_iff.1 h
        obtain ⟨h23, hend⟩ := isIns_bound hb
        match n, hn with
        | 0, hn => omega
        | n + 1, hn =>
          obtain ⟨r1, r2, r3, r4, r5⟩ := dec_fine s hs n (k + 1 + wAt s k) (by omega) hend l' hl'
          have hpos : (insAt s k).pos = k := rfl
          refine ⟨fun i hi => ?_, fun j i hj => ?_, fun j j' i i' hjj hj hj' => ?_, fun i hi => ?_, fun _ => by simp⟩
          · rcases List.mem_cons.1 hi with rfl | hi
            · exact ⟨insAt_fit s k hb (by omega), hg _ (by simp), by omega, by omega⟩
            · exact r1 i hi
          · cases j with
            | zero => simp at hj; subst hj; omega
            | succ j => have := r2 j i (by simpa using hj); omega
          · cases j' with
            | zero => omega
            | succ j' =>
              have h2 := r2 j' i' (by simpa using hj')
              cases j with
              | zero => simp at hj; subst hj; omega
              | succ j => exact r3 j j' i i' (by omega) (by simpa using hj) (by simpa using hj')
          · simp at hi; subst hi; exact hpos
    · rw [decAt_end s k hlt] at h
      cases h
      exact ⟨by simp, by simp, by simp, by simp, fun h => absurd h hlt⟩
/-- A program that was decoded, as a list. -/
structure Prog (s : List UInt8) (l : List Ins) : Prop where
  dec : decAt s 0 = some l
  fine : ∀ i ∈ l, Fine i
  inside : ∀ (j : Nat) i, l[j]? = some i → 0 ≤ i.pos ∧ i.pos < s.length
  up : ∀ (j j' : Nat) i i', j < j' → l[j]? = some i → l[j']? = some i' → i.pos < i'.pos
  first : ∀ i, l[0]? = some i → i.pos = 0
  some : 0 < s.length → l ≠ []
theorem prog_of {s : List UInt8} {l : List Ins} (hs : s.length ≤ 1000000) (h : decAt s 0 = some l) : Prog s l := by
  obtain ⟨h1, h2, h3, h4, h5⟩ := dec_fine s hs s.length 0 (by omega) (by omega) l h
  exact ⟨h, h1, fun j i hj => by simpa using h2 j i hj, h3, fun i hi => by simpa using h4 i hi, h5⟩
theorem Prog.find {s : List UInt8} {l : List Ins} (h : Prog s l) {k : Nat} {i : Ins} (hk : l[k]? = .some i) : findP l i.pos = k :=
  findP_hit hk rfl (fun j x hj hx => by have := h.up j k x i hj hx hk; omega)

theorem fine_op {i : Ins} (h : Fine i) : 0 ≤ i.op ∧ i.op ≤ 23 := by
  have := (good_iff i).1 h.2.1
  exact ⟨this.1, this.2.1⟩
theorem fine_arg {i : Ins} (h : Fine i) (n : Nat) (hw : opw i.op = n) : 0 ≤ i.arg ∧ i.arg < 256 ^ n := by
  have h0 := h.1.2.1.1
  have h1 := ((good_iff i).1 h.2.1).2.2
  rw [hw] at h1
  exact ⟨h0, (div_zero_iff h0 (pow_pos256 n)).1 h1⟩
theorem fine_mv {i : Ins} (h : Fine i) (hne : i.op ≠ 23) : 0 ≤ (mv i).1 := by
  have := fine_op h
  unfold mv movesOf
  (repeat' split) <;> (try dsimp only) <;> omega
theorem fine_sys {i : Ins} (h : Fine i) (he : i.op = 23) : (0 ≤ i.arg ∧ i.arg ≤ 255) ∧ (0 ≤ (mv i).1 ↔ 0 ≤ argsOf i.arg) := by
  have ha := fine_arg h 1 (by rw [he]; rfl)
  have hb : 0 ≤ i.arg ∧ i.arg ≤ 255 := by omega
  refine ⟨hb, ?_⟩
  unfold mv
  rw [he]
  have hm : movesOf 23 i.arg = if i.arg ≤ 255 ∧ 0 ≤ argsOf i.arg then (argsOf i.arg, 1) else (-1, -1) := rfl
  rw [hm]
  split
  · rename_i hh
    exact ⟨fun _ => hh.2, fun _ => hh.2⟩
  · rename_i hh
    exact ⟨fun h => absurd h (by decide), fun h => absurd ⟨hb.2, h⟩ hh⟩
theorem fine_jump {i : Ins} (h : Fine i) (he : i.op = 21 ∨ i.op = 22) : 0 ≤ i.arg ∧ i.arg ≤ 65535 := by
  have ha := fine_arg h 2 (by rcases he with he | he <;> (rw [he]; rfl))
  omega
theorem wrapi (a : Int) (h0 : 0 ≤ a) (h : a ≤ 65535) : IntKind.i64.wrap a = a := by
  simp [IntKind.wrap, IntKind.bits, IntKind.signed]
  omega

/-- Whether all that an instruction names is there. -/
def standB (l : List Ins) (i : Ins) : Bool := (decide (¬ (i.op = 21 ∨ i.op = 22)) || decide (0 ≤ findP l i.arg)) && decide (0 ≤ (mv i).1)
theorem standB_iff (l : List Ins) (i : Ins) : standB l i = true ↔ ((i.op = 21 ∨ i.op = 22) → 0 ≤ findP l i.arg) ∧ 0 ≤ (mv i).1 := by
  unfold standB
  by_cases h : i.op = 21 ∨ i.op = 22 <;> simp [h]
theorem stand_iff (l : List Ins) : l.all (standB l) = true ↔ Stand l := by
  rw [List.all_eq_true]
  exact ⟨fun h i hi => (standB_iff l i).1 (h i hi), fun h i hi => (standB_iff l i).2 (h i hi)⟩
theorem all_take_succ {l : List Ins} {k : Nat} {i : Ins} {f : Ins → Bool} (hk : l[k]? = some i) (h : (l.take k).all f = true) (hi : f i = true) : (l.take (k + 1)).all f = true := by
  rw [take_snoc hk, List.all_append, h]
  simp [hi]
theorem all_no {l : List Ins} {k : Nat} {i : Ins} {f : Ins → Bool} (hk : l[k]? = some i) (hi : f i = false) : l.all f = false := by
  rw [List.all_eq_false]
  exact ⟨i, List.mem_of_getElem? hk, by simp [hi]⟩

end Go.Proofs.Ytedkijionpkmmaa
