/- januslaw08's do: a deed with both answers true, and both tell the same behind it. -/
import Derived.Test.YtfnafjddajgahaaGreatRefG8
import Derived.Test.YtfnafjddajgahaaGreatRefI8
namespace Go.Proofs.YtfnafjddajgahaaGreat
open Go.RowKit
namespace Ca
set_option linter.unusedVariables false

section
variable {T : Tab} {L : List Ce} {last : Int}
theorem rputL_len (L : List Ce) (last n ob : Int) (x : Cp) : (rputL L last n ob x).length ≤ L.length + 1 := by
  unfold rputL
  split
  · omega
  · simp
theorem rputN_le (L : List Ce) (last n : Int) : last ≤ rputN L last n ∧ rputN L last n ≤ last + 1 := by
  unfold rputN
  split <;> omega
theorem Rel.add (h : Rel T L last) (hl : 0 ≤ last) (n : Int) (x : Cp) : addA T n x = raddA L n x ∧ addR T n x = raddE L n x ∧ Rel (addT T n x) (raddL L last n x) (raddN L last n x) ∧ (raddL L last n x).length ≤ L.length + 1 ∧ last ≤ raddN L last n x ∧ raddN L last n x ≤ last + 1 := by
  unfold addA addR addT raddA raddE raddL raddN
  by_cases ho : addOK n x = true
  · have h2 := ho
    simp only [addOK, Bool.and_eq_true] at h2
    rw [if_pos ho, if_pos ho, if_pos ho, if_pos ho, if_pos ho, if_pos ho, if_pos ho]
    exact ⟨(h.free h2.1).symm, (h.putE h2.1).symm, h.put h2.1 hl x h2.2 0 0 0 (Or.inl ⟨rfl, rfl, rfl⟩), rputL_len _ _ _ _ _, (rputN_le _ _ _).1, (rputN_le _ _ _).2⟩
  · rw [if_neg ho, if_neg ho, if_neg ho, if_neg ho, if_neg ho, if_neg ho, if_neg ho]
    exact ⟨rfl, rfl, h, by omega, by omega, by omega⟩
theorem Rel.giveNo {n s : Int} (hi : (getT T n s).is = false) (tg r : Int) : giveA T n s tg r = 0 ∧ giveR T n s tg r = 104 ∧ giveT T n s tg r = T := by
  have ho : giveOK T n s r = false := by unfold giveOK; rw [hi]; rfl
  unfold giveA giveR giveT
  rw [ho]
  exact ⟨rfl, rfl, rfl⟩
theorem Rel.give (h : Rel T L last) (hl : 0 ≤ last) {d : Ce} (hd : d ∈ L) (hg : getT T d.env d.slot = d.x) (hi : (getT T d.env d.slot).is = true) (tg r : Int) : giveA T d.env d.slot tg r = rgiveA L d.x tg r ∧ giveR T d.env d.slot tg r = rgiveE L d.x tg r ∧ Rel (giveT T d.env d.slot tg r) (rgiveL L last d tg r) (rgiveN L last d tg r) ∧ (rgiveL L last d tg r).length ≤ L.length + 1 ∧ last ≤ rgiveN L last d tg r ∧ rgiveN L last d tg r ≤ last + 1 := by
  have ho : giveOK T d.env d.slot r = mayG d.x r := by unfold giveOK; rw [hi, hg]; rfl
  have hH : giveH T d.env d.slot r = ⟨⟨d.x.kind, d.x.id, d.x.len, r⟩, d.env, d.slot⟩ := by unfold giveH; rw [hg]
  unfold giveA giveR giveT rgiveA rgiveE rgiveL rgiveN
  rw [ho, hH]
  by_cases hm : mayG d.x r = true
  · by_cases ht : isE tg = true
    · simp only [hm, ht, if_true]
      refine ⟨(h.free ht).symm, (h.putE ht).symm, h.put ht hl _ ?_ d.no d.env d.slot (Or.inr ⟨d, hd, rfl, rfl, rfl⟩), rputL_len _ _ _ _ _, (rputN_le _ _ _).1, (rputN_le _ _ _).2⟩
      have h1 := h.may d hd
      simp only [mayB, Bool.and_eq_true] at h1 ⊢
      simp only [mayG, Bool.and_eq_true] at hm
      exact ⟨h1.1, hm.1.2⟩
    · rw [if_pos hm, if_pos hm, if_pos hm, if_pos hm, if_pos hm, if_pos hm, if_pos hm, if_neg ht, if_neg ht, if_neg ht, if_neg ht, if_neg ht, if_neg ht, if_neg ht]
      exact ⟨rfl, rfl, h, by omega, by omega, by omega⟩
  · rw [if_neg hm, if_neg hm, if_neg hm, if_neg hm, if_neg hm, if_neg hm, if_neg hm]
    exact ⟨rfl, rfl, h, by omega, by omega, by omega⟩
end
/-- Both lie in the heap, and tell the same. -/
structure Both (w : World) (b c : Nat) (T : Tab) (L : List Ce) (last : Int) : Prop where
  caps : CapsAt w b T
  ref : ∃ sv, RefAt (c + 1) w c sv L last
  rel : Rel T L last
  bc : b < c
  pos : 0 ≤ last
theorem Both.below {w w' : World} {b c : Nat} {T : Tab} {L : List Ce} {last : Int} (h : Both w b c T L last) (hb : Below w.heap.size w w') : Both w' b c T L last := by
  obtain ⟨sv, hr⟩ := h.ref
  exact ⟨h.caps.below hb, ⟨sv, hr.below hb⟩, h.rel, h.bc, h.pos⟩
theorem Both.lt {w : World} {b c : Nat} {T : Tab} {L : List Ce} {last : Int} (h : Both w b c T L last) : c < w.heap.size := by
  obtain ⟨sv, hr⟩ := h.ref
  exact hr.lt
theorem Both.two {w w1 w2 : World} {b c : Nat} {T T' : Tab} {L L' : List Ce} {last last' : Int} {sv : Value} (h : Both w b c T L last) (hC : CapsAt w1 b T') (hU1 : Upd b w w1) (hR : RefAt (c + 1) w2 c sv L' last') (hU2 : Upd c w1 w2) (hr : Rel T' L' last') (hp : 0 ≤ last') :
    Both w2 b c T' L' last' ∧ UpdP (fun k => k = b ∨ k = c) w w2 := by
  have := h.bc
  exact ⟨⟨hC.keep (hU2.block b hC.lt (by omega)), ⟨sv, hR⟩, hr, h.bc, hp⟩, (hU1.p _ (Or.inl rfl)).trans (hU2.p _ (Or.inr rfl))⟩
/-- What a deed leaves. -/
def Done (w w' : World) (b c : Nat) (L : List Ce) (last : Int) : Prop := ∃ T' L' last', Both w' b c T' L' last' ∧ L'.length ≤ L.length + 1 ∧ last' ≤ last + 1 ∧ UpdP (fun k => k = b ∨ k = c) w w'

end Ca
end Go.Proofs.YtfnafjddajgahaaGreat
