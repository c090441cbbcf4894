/- What a step of a program that may be run does, in plain lists. -/
import Derived.Test.YtedkijionpkmmaaVmI
import Derived.Test.YtedkijionpkmmaaValR
import Derived.Test.YtedkijionpkmmaaCodG
namespace Go.Proofs.Ytedkijionpkmmaa
open Go.RowKit
set_option linter.unusedVariables false

theorem dec_step {s : List UInt8} {l : List Ins} {k j : Nat} (h : decAt s k = some (l.drop j)) (hj : j < l.length) : k < s.length ∧ isIns s k = true ∧ l[j]? = some (insAt s k) ∧ decAt s (k + 1 + wAt s k) = some (l.drop (j + 1)) := by
  have hd : l.drop j = l[j] :: l.drop (j + 1) := List.drop_eq_getElem_cons hj
  by_cases hlt : k < s.length
  · cases hb : isIns s k with
    | false => rw [decAt_bad s k hlt hb] at h; cases h
    | true =>
      rw [decAt_step s k hlt hb, hd] at h
      obtain ⟨l', hl', he⟩ := Option.map_eq_some_iff.1 h
      simp only [List.cons.injEq] at he
      exact ⟨hlt, rfl, by rw [List.getElem?_eq_getElem hj, he.1], by rw [hl', he.2]⟩
  · rw [decAt_end s k hlt, hd] at h
    simp at h
    omega
/-- Where the instruction at a place in the list lies. -/
theorem dec_place {s : List UInt8} {l : List Ins} (h : decAt s 0 = some l) : ∀ (j : Nat), j < l.length → ∃ k : Nat, decAt s k = some (l.drop j) ∧ k < s.length ∧ isIns s k = true ∧ l[j]? = some (insAt s k)
  | 0, hj => by
    obtain ⟨h1, h2, h3, _⟩ := dec_step (j := 0) (k := 0) (s := s) (l := l) (by simpa using h) hj
    exact ⟨0, by simpa using h, h1, h2, h3⟩
  | j + 1, hj => by
    obtain ⟨k, hk, _⟩ := dec_place h j (by omega)
    obtain ⟨_, _, _, h4⟩ := dec_step hk (by omega)
    obtain ⟨h1, h2, h3, _⟩ := dec_step h4 hj
    exact ⟨_, h4, h1, h2, h3⟩
theorem one_of {s : List UInt8} {l : List Ins} (h : decAt s 0 = some l) {j : Nat} {i : Ins} (hj : l[j]? = some i) : one s i.pos = (i, 0) := by
  have hlt : j < l.length := (List.getElem?_eq_some_iff.1 hj).1
  obtain ⟨k, _, h1, h2, h3⟩ := dec_place h j hlt
  rw [hj] at h3
  cases h3
  show one s (k : Int) = _
  rw [one_in s k h1, if_pos h2]
theorem pos_next {s : List UInt8} {l : List Ins} (h : decAt s 0 = some l) {j : Nat} {i i' : Ins} (hj : l[j]? = some i) (hj' : l[j + 1]? = some i') : i'.pos = i.pos + i.len := by
  have hlt : j < l.length := (List.getElem?_eq_some_iff.1 hj).1
  have hlt' : j + 1 < l.length := (List.getElem?_eq_some_iff.1 hj').1
  obtain ⟨k, hk, h1, h2, h3⟩ := dec_place h j hlt
  obtain ⟨_, _, _, h4⟩ := dec_step hk hlt
  obtain ⟨_, _, h5, _⟩ := dec_step h4 hlt'
  rw [hj] at h3
  rw [hj'] at h5
  cases h3
  cases h5
  simp only [insAt]
  omega

theorem eff_goes (i : Ins) (st : List Int) : (i.op ≠ 21 ∧ i.op ≠ 22 ∧ i.op ≠ 23 → (eff i st).1 = i.pos + i.len) ∧ (i.op = 21 → (eff i st).1 = i.arg) ∧ (i.op = 22 → (eff i st).1 = i.arg ∨ (eff i st).1 = i.pos + i.len) ∧
    (i.op = 23 → (eff i st).1 = i.pos ∧ (eff i st).2.1 = st ∧ (eff i st).2.2.kind = 3) ∧ ((eff i st).2.2.kind = 3 → i.op = 23) ∧ ((eff i st).2.2.kind = 1 → i.op = 19) ∧ ((eff i st).2.2.kind = 2 → i.op = 20) ∧ (i.op = 19 → (eff i st).2.2.kind = 1) ∧ (eff i st).2.2.kind ≠ 4 := by
  refine eff_ind i st (fun r => (i.op ≠ 21 ∧ i.op ≠ 22 ∧ i.op ≠ 23 → r.1 = i.pos + i.len) ∧ (i.op = 21 → r.1 = i.arg) ∧ (i.op = 22 → r.1 = i.arg ∨ r.1 = i.pos + i.len) ∧
    (i.op = 23 → r.1 = i.pos ∧ r.2.1 = st ∧ r.2.2.kind = 3) ∧ (r.2.2.kind = 3 → i.op = 23) ∧ (r.2.2.kind = 1 → i.op = 19) ∧ (r.2.2.kind = 2 → i.op = 20) ∧ (i.op = 19 → r.2.2.kind = 1) ∧ r.2.2.kind ≠ 4) ?_ ?_ ?_ ?_ ?_ ?_ ?_ ?_ ?_ ?_ ?_ ?_
  all_goals
    intro h
    refine ⟨fun h2 => ?_, fun h2 => ?_, fun h2 => ?_, fun h2 => ?_, fun h2 => ?_, fun h2 => ?_, fun h2 => ?_, fun h2 => ?_, fun h2 => ?_⟩
  all_goals first
    | rfl
    | exact h
    | (exfalso; simp [actNo] at h2; done)
    | (exfalso; omega)
    | (split
       · exact Or.inl rfl
       · exact Or.inr rfl)
    | exact ⟨rfl, rfl, rfl⟩

/-- A machine that stands at an instruction of a program that may be run, with as many numbers as its depth says. -/
structure At (s : List UInt8) (l : List Ins) (D : List Int) (k : Nat) (i : Ins) (pc : Int) (st : List Int) : Prop where
  valid : Valid s l D
  ins : l[k]? = some i
  pos : i.pos = pc
  reach : Reach l k st.length

section
variable {s : List UInt8} {l : List Ins} {D : List Int} {k : Nat} {i : Ins} {pc : Int} {st : List Int}
theorem At.one (h : At s l D k i pc st) : one s pc = (i, 0) := by rw [← h.pos]; exact one_of h.valid.dec h.ins
theorem At.depth (h : At s l D k i pc st) : D[k]? = some (st.length : Int) := (h.valid.sol.all k _ h.reach).1
theorem At.fine (h : At s l D k i pc st) : Fine i := h.valid.prog.fine i (List.mem_of_getElem? h.ins)
theorem At.moves (h : At s l D k i pc st) : 0 ≤ (movesOf i.op i.arg).1 ∧ (movesOf i.op i.arg).1 ≤ st.length ∧ (st.length : Int) - (movesOf i.op i.arg).1 + (movesOf i.op i.arg).2 ≤ 32 := by
  obtain ⟨_, _, i', hi', h1, h2⟩ := h.valid.sol.all k _ h.reach
  rw [h.ins] at hi'
  cases hi'
  exact ⟨(h.valid.stand i (List.mem_of_getElem? h.ins)).2, h1, h2⟩
/-- The instruction behind. -/
theorem At.next (h : At s l D k i pc st) (ho : i.op ≠ 21) {pc' : Int} {st' : List Int} (hp : pc' = i.pos + i.len) (hl : (st'.length : Int) = nxt i st.length) : ∃ k' i', At s l D k' i' pc' st' := by
  have hr := Reach.next h.reach h.ins ho
  obtain ⟨hd, _, i', hi', _⟩ := h.valid.sol.all (k + 1) _ hr
  exact ⟨k + 1, i', h.valid, hi', by rw [pos_next h.valid.dec h.ins hi', hp], by rw [hl]; exact hr⟩
theorem At.jump (h : At s l D k i pc st) (ho : i.op = 21 ∨ i.op = 22) {pc' : Int} {st' : List Int} (hp : pc' = i.arg) (hl : (st'.length : Int) = nxt i st.length) : ∃ k' i', At s l D k' i' pc' st' := by
  have hf := (h.valid.stand i (List.mem_of_getElem? h.ins)).1 ho
  rcases findP_cases l i.arg with ⟨e, _⟩ | ⟨j, i', e, hj, hq, _⟩
  · omega
  · exact ⟨j, i', h.valid, hj, by rw [hq, hp], by rw [hl]; exact Reach.jump h.reach h.ins ho e⟩
theorem At.can (h : At s l D k i pc st) (hn : ¬ (i.op = 9 ∨ i.op = 10)) : canDo i st = true := by
  obtain ⟨_, h2, h3⟩ := h.moves
  have h9 : (i.op == 9) = false := by simp; omega
  have h10 : (i.op == 10) = false := by simp; omega
  rw [canDo_else h2 h3, h9, h10]
  rfl
end

/-- What a step on a memory does there. -/
theorem At.von {s : List UInt8} {l : List Ins} {D : List Int} {k : Nat} {i : Ins} {pc : Int} {st : List Int} (h : At s l D k i pc st) (ms : List Int) :
    ((von s pc st ms).2.2.2.kind = 0 ∧ ∃ k' i', At s l D k' i' (von s pc st ms).1 (von s pc st ms).2.1) ∨ ((von s pc st ms).2.2.2.kind = 4 ∧ (i.op = 9 ∨ i.op = 10 ∨ i.op = 19 ∨ i.op = 20)) ∨ ((von s pc st ms).2.2.2.kind = 3 ∧ i.op = 23) := by
  have ho := h.one
  have hop := fine_op h.fine
  cases hc : canDo i st with
  | false =>
    have hv : vstep s pc st = (pc, st, actFault) := vstep_not (by rw [ho]; exact hc)
    right
    left
    have h9 : i.op = 9 ∨ i.op = 10 := by
      rcases Classical.em (i.op = 9 ∨ i.op = 10) with h9 | h9
      · exact h9
      · rw [h.can h9] at hc; cases hc
    unfold Go.Proofs.Ytedkijionpkmmaa.von
    rw [hv]
    exact ⟨rfl, by omega⟩
  | true =>
    have hv : vstep s pc st = eff i st := by rw [vstep_yes (by rw [ho]) (by rw [ho]; exact hc), ho]
    obtain ⟨g1, g2, g3, g4, g5, g6, g7, g8, g9⟩ := eff_goes i st
    obtain ⟨l1, l2, l3⟩ := eff_len i st hop hc
    have hk := (eff_kind i st).1
    unfold Go.Proofs.Ytedkijionpkmmaa.von
    rw [hv]
    by_cases k1 : (eff i st).2.2.kind = 1
    · rw [if_pos k1]
      have h19 := g6 k1
      split
      · left
        obtain ⟨q1, q2⟩ := l2 h19
        have hm : mv i = (1, 1) := by unfold mv; rw [h19]; rfl
        refine ⟨rfl, h.next (by omega) (g1 ⟨by omega, by omega, by omega⟩) ?_⟩
        unfold nxt
        rw [hm]
        simp only [List.length_cons]
        omega
      · exact Or.inr (Or.inl ⟨rfl, by omega⟩)
    · rw [if_neg k1]
      by_cases k2 : (eff i st).2.2.kind = 2
      · rw [if_pos k2]
        have h20 := g7 k2
        split
        · exact Or.inl ⟨rfl, h.next (by omega) (g1 ⟨by omega, by omega, by omega⟩) (l1 ⟨by omega, by omega⟩)⟩
        · exact Or.inr (Or.inl ⟨rfl, by omega⟩)
      · rw [if_neg k2]
        by_cases k3 : (eff i st).2.2.kind = 3
        · exact Or.inr (Or.inr ⟨k3, g5 k3⟩)
        · have h0 : (eff i st).2.2.kind = 0 := by omega
          have n23 : i.op ≠ 23 := fun e => k3 (g4 e).2.2
          have n19 : i.op ≠ 19 := fun e => k1 (g8 e)
          have hlen := l1 ⟨n19, n23⟩
          left
          refine ⟨h0, ?_⟩
          by_cases j21 : i.op = 21
          · exact h.jump (Or.inl j21) (g2 j21) hlen
          · by_cases j22 : i.op = 22
            · rcases g3 j22 with e | e
              · exact h.jump (Or.inr j22) e hlen
              · exact h.next j21 e hlen
            · exact h.next j21 (g1 ⟨j21, j22, n23⟩) hlen
/-- At a call: what it takes is there, and behind it a machine stands again. -/
theorem At.sys {s : List UInt8} {l : List Ins} {D : List Int} {k : Nat} {i : Ins} {pc : Int} {st : List Int} (h : At s l D k i pc st) (ho : i.op = 23) :
    0 ≤ argsOf i.arg ∧ argsOf i.arg ≤ st.length ∧ ∀ x, ∃ k' i', At s l D k' i' (pc + i.len) (x :: st.drop (argsOf i.arg).toNat) := by
  obtain ⟨h1, h2, h3⟩ := h.moves
  obtain ⟨⟨a1, a2⟩, hi⟩ := fine_sys h.fine ho
  have ha : 0 ≤ argsOf i.arg := hi.1 h1
  have hm : movesOf i.op i.arg = (argsOf i.arg, 1) := by
    rw [ho]
    show (if i.arg ≤ 255 ∧ 0 ≤ argsOf i.arg then (argsOf i.arg, (1 : Int)) else (-1, -1)) = _
    rw [if_pos ⟨a2, ha⟩]
  rw [hm] at h2
  refine ⟨ha, h2, fun x => h.next (by omega) (by rw [h.pos]) ?_⟩
  unfold nxt mv
  rw [hm]
  simp only [List.length_cons, List.length_drop]
  omega
theorem at_start {s : List UInt8} {l : List Ins} {D : List Int} (h : Valid s l D) : ∃ k i, At s l D k i 0 [] := by
  have h1 := h.prog.some (by have := h.size; omega)
  cases l with
  | nil => exact absurd rfl h1
  | cons i r => exact ⟨0, i, h, rfl, h.prog.first i rfl, Reach.base⟩
end Go.Proofs.Ytedkijionpkmmaa
