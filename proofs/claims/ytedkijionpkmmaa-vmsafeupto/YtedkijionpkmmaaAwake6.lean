/- The reference's Ints at two equal lists, and januslaw06's awake: true in every world. -/
import Derived.Test.YtedkijionpkmmaaValE
import Derived.BigQuiet
namespace Go.Proofs.Ytedkijionpkmmaa
open Go.RowKit
set_option linter.unusedVariables false

/-- The document's examples. -/
abbrev s0 : List UInt8 := [0, 0, 23, 1, 3, 21, 0, 0]
abbrev l0 : List Ins := [⟨0, 0, 0, 2⟩, ⟨23, 1, 2, 2⟩, ⟨3, 0, 4, 1⟩, ⟨21, 0, 5, 3⟩]
abbrev d0 : List Int := [0, 1, 1, 0]
theorem dec0 : decAt s0 0 = some l0 := by
  rw [decAt_step _ _ (by decide) (by decide)]
  rw [show wAt s0 0 = 1 by decide, decAt_step _ _ (by decide) (by decide)]
  rw [show wAt s0 (0 + 1 + 1) = 1 by decide, decAt_step _ _ (by decide) (by decide)]
  rw [show wAt s0 (0 + 1 + 1 + 1 + 1) = 0 by decide, decAt_step _ _ (by decide) (by decide)]
  rw [show wAt s0 (0 + 1 + 1 + 1 + 1 + 1 + 0) = 2 by decide, decAt_end _ _ (by decide)]
  rfl
theorem stand0 : Stand l0 := (stand_iff l0).1 (by decide)
theorem sol0 : Sol l0 d0 := by
  have h1 : Search l0 [0, -1, -1, -1] [(1, 1)] := Search.mark (k := 0) (d := 0) (i := ⟨0, 0, 0, 2⟩) stand0 (Search.start l0) rfl rfl (by decide) (by decide)
  have h2 : Search l0 [0, 1, -1, -1] [(2, 1)] := Search.mark (k := 1) (d := 1) (i := ⟨23, 1, 2, 2⟩) stand0 h1 rfl rfl (by decide) (by decide)
  have h3 : Search l0 [0, 1, 1, -1] [(3, 0)] := Search.mark (k := 2) (d := 1) (i := ⟨3, 0, 4, 1⟩) stand0 h2 rfl rfl (by decide) (by decide)
  have h4 : Search l0 [0, 1, 1, 0] [(0, 0)] := Search.mark (k := 3) (d := 0) (i := ⟨21, 0, 5, 3⟩) stand0 h3 rfl rfl (by decide) (by decide)
  exact (Search.drop (k := 0) (d := 0) h4 rfl).done
theorem valid0 : Valid s0 l0 d0 := ⟨by decide, dec0, stand0, sol0⟩
theorem bad1 : Bad [3] := by
  have hd : decAt [3] 0 = some [⟨3, 0, 0, 1⟩] := by
    rw [decAt_step _ _ (by decide) (by decide), show wAt [3] 0 = 0 by decide, decAt_end _ _ (by decide)]
    rfl
  intro l D h
  have := h.dec
  rw [hd] at this
  cases this
  exact Sol.no_room (Reach.base) (i := ⟨3, 0, 0, 1⟩) rfl (by decide) D h.sol
theorem bad2 : Bad [0, 0] := by
  have hd : decAt [0, 0] 0 = some [⟨0, 0, 0, 2⟩] := by
    rw [decAt_step _ _ (by decide) (by decide), show wAt [0, 0] 0 = 1 by decide, decAt_end _ _ (by decide)]
    rfl
  intro l D h
  have := h.dec
  rw [hd] at this
  cases this
  exact Sol.no_end (Reach.next (i := ⟨0, 0, 0, 2⟩) Reach.base rfl (by decide)) D h.sol
theorem bad3 : Bad [21, 1, 0] := by
  have hd : decAt [21, 1, 0] 0 = some [⟨21, 1, 0, 3⟩] := by
    rw [decAt_step _ _ (by decide) (by decide), show wAt [21, 1, 0] 0 = 2 by decide, decAt_end _ _ (by decide)]
    rfl
  intro l D h
  have := h.dec
  rw [hd] at this
  cases this
  exact absurd ((stand_iff _).2 h.stand) (by decide)
theorem bad4 : Bad [] := fun l D h => by have := h.size; simp at this
theorem entries0 : entryB l0 d0 0 = true ∧ entryB l0 d0 5 = true ∧ entryB l0 d0 4 = false := by decide

theorem irow_block {w : World} {g : Nat} {cs : Array Value} {t : TypeId} {fr : Nat × Nat} {D : List Int} (h : w.heap[g]? = some (.cells cs t fr)) (hc : cs = (irow D).toArray) : IRow w (some ⟨g, 0, none⟩) D := by
  subst hc
  exact fun j x hj => ⟨g, 0, rfl, by rw [Nat.zero_add, cell_of_heap h]; exact irow_get hj⟩

end Go.Proofs.Ytedkijionpkmmaa
