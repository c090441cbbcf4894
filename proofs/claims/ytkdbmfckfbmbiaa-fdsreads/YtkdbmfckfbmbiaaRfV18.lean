/- The reference of package fds: Open: its last part, whatever the order. -/
import Derived.Test.YtkdbmfckfbmbiaaRfS18
import Derived.Test.YtkdbmfckfbmbiaaRfK18
namespace Go.Proofs.Ytkdbmfckfbmbiaa
open Go.RowKit
set_option linter.unusedVariables false

theorem grown_ru {B : Nat} {w w' : World} {u : Value} {n : Nat} {xs : List Value} (ho : w.ownsRow B 80 6 u n xs) (hg : w.grownBy w' u.ownBlock) (hB : B ≤ w.heap.size) : RU B w w' := by
  refine ⟨hg.os, hg.tape, hg.output, hg.size, fun k hk => hg.block k (by omega) (fun e => by have := ownsRow_low ho k e.symm; omega), fun k cs t fr hk h1 h2 => (hg.block k (lt_of_heap hk) (fun e => ?_)).trans hk⟩
  obtain ⟨c2, k2⟩ := own_type ho e.symm
  rw [hk] at k2
  simp only [Option.some.injEq, Obj.cells.injEq] at k2
  exact h2 k2.2.1
/-- The file that is opened. -/
abbrev newE (x : Fl) (gP k : Nat) : En := ⟨x, some ⟨gP, 0, none⟩, 1, [k]⟩
/-- append(out, F{..}) and the store. -/
theorem open_fin {W : World} {B c ll c1 gP gF k : Nat} {v : Value} {a1 : Option Addr} {L : List En} (x : Fl) (hR : RIs W B c v L) (ho : W.ownsRow B 80 6 (.slice a1 ll c1) L.length (ecs L)) (hll : L.length = ll) (hlen : ll ≤ 400)
    (hP : W.heap[gP]? = some (.cells #[.int .i64 ((k / 6 + 1 : Nat) : Int), .int .i64 ((k % 6 : Nat) : Int)] 77)) (hF : W.heap[gF]? = some (.cells (ec (newE x gP k)).toArray 80)) (hB : B ≤ W.heap.size) :
    ∃ a2 c2 w2, (∀ ty, (Builtin.append_ #[26, 26] ty #[.slice a1 ll c1, .slice (some ⟨gF, 0, none⟩) 1 1]).run Try.prog W = .ok (.slice a2 (ll + 1) c2) w2) ∧ w2.cell? ⟨c, 0, none⟩ = some v ∧ w2.frozen? ⟨c, 0, none⟩ = false ∧ RIs (w2.setCell ⟨c, 0, none⟩ (.slice a2 (ll + 1) c2)) B c (.slice a2 (ll + 1) c2) (L ++ [newE x gP k]) ∧ RU B W (w2.setCell ⟨c, 0, none⟩ (.slice a2 (ll + 1) c2)) := by
  have hfr : FRd W (some ⟨gF, 0, none⟩) [newE x gP k] := by
    intro i u hu
    refine ⟨gF, 0, rfl, ?_⟩
    rw [Nat.zero_add, cell_of_heap hF, ← hu]
    simp [ecs]
  obtain ⟨a, c', w', hrun, hown, hgrow⟩ := appF ho hB (a2 := some ⟨gF, 0, none⟩) (n2 := 1) (c2 := 1) (N := [newE x gP k]) rfl hfr (by rw [hll]; simp; omega)
  have hl2 : (L ++ [newE x gP k]).length = ll + 1 := by rw [List.length_append, hll]; rfl
  have hru := grown_ru ho hgrow hB
  have hcne : ∀ g, (Value.slice a1 ll c1).ownBlock = some g → g ≠ c := by
    rintro g hg rfl
    obtain ⟨cs, hcs⟩ := own_type ho hg
    rw [hR.head] at hcs
    simp only [Option.some.injEq, Obj.cells.injEq] at hcs
    exact absurd hcs.2.1 (by decide)
  have hhead : w'.heap[c]? = some (.cells #[v] 28) := (hgrow.block c hR.lt (fun e => hcne c e.symm rfl)).trans hR.head
  have hkeepP : ∀ (g : Nat) (cs : Array Value) (fr : Nat × Nat), W.heap[g]? = some (.cells cs 77 fr) → (w'.setCell ⟨c, 0, none⟩ (.slice a (ll + 1) c')).heap[g]? = some (.cells cs 77 fr) := fun g cs fr hg => by
    have h1 := hru.other g cs _ fr hg (by decide) (by decide)
    rw [Below.heap_setCell _ _ _ _ ?_]
    · exact h1
    · show g ≠ c
      rintro rfl
      rw [hR.head] at hg
      simp only [Option.some.injEq, Obj.cells.injEq] at hg
      exact absurd hg.2.1 (by decide)
  rw [hl2] at hrun hown
  refine ⟨a, c', w', hrun, by rw [cell_of_heap hhead]; rfl, frozen_of_heap hhead, ⟨?_, ?_, ?_, hR.cB⟩, hru.trans (RU.cell hhead (Or.inl rfl) hR.cB _)⟩
  · rw [setCell_eq_setRow w' c 0 _ _ _ _ hhead, setRow_heap w' c _ _ _ _ hhead]
    rfl
  · rw [hl2]
    refine ownsRow_at hown (fun g hg => Below.heap_setCell _ _ _ _ ?_)
    show g ≠ c
    rintro rfl
    obtain ⟨cs, hcs⟩ := own_type hown hg
    rw [hhead] at hcs
    simp only [Option.some.injEq, Obj.cells.injEq] at hcs
    exact absurd hcs.2.1 (by decide)
  · intro e he
    rcases List.mem_append.1 he with he | he
    · exact ⟨(hR.rd e he).1.keep hkeepP, (hR.rd e he).2⟩
    · rw [List.mem_singleton] at he
      subst he
      refine ⟨PRd.keep ?_ hkeepP, Nat.le_refl _⟩
      intro j q hj
      have hj0 : j = 0 := by have := (List.getElem?_eq_some_iff.1 hj).1; simp at this; omega
      subst hj0
      have hq : k = q := by simpa using hj
      subst hq
      exact ⟨gP, rfl, ⟨_, _, hP⟩, by rw [cell_of_heap hP]; rfl, by rw [cell_of_heap hP]; rfl⟩
/-- append([]F(nil), l...). -/
theorem app_nil {W : World} {B ll cv : Nat} {av : Option Addr} {L : List En} (hB : B ≤ W.heap.size) (hr : FRd W av L) (hll : L.length = ll) (hlen : ll ≤ 400) :
    ∃ a1 c1 w1, (∀ ty, (Builtin.append_ #[26, 26] ty #[.slice none 0 0, .slice av ll cv]).run Try.prog W = .ok (.slice a1 ll c1) w1) ∧ w1.ownsRow B 80 6 (.slice a1 ll c1) L.length (ecs L) ∧ Below W.heap.size W w1 := by
  obtain ⟨a, c', w', hrun, hown, hgrow⟩ := appF (M := []) (u := .slice none 0 0) (World.ownsRow_nil W B 80 6) hB (a2 := av) (n2 := ll) (c2 := cv) (N := L) hll.symm hr (by rw [List.length_nil]; omega)
  rw [List.nil_append] at hrun hown
  rw [hll] at hrun
  refine ⟨a, c', w', hrun, ?_, ⟨hgrow.os, hgrow.tape, hgrow.output, hgrow.size, fun k hk => hgrow.block k hk (by simp [Value.ownBlock])⟩⟩
  rw [hll] at hown ⊢
  exact hown
end Go.Proofs.Ytkdbmfckfbmbiaa
