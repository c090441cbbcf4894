/- The reference's Ints at two equal lists, and januslaw06's awake: true in every world. -/
import Derived.Test.YteipppdkbpfkaaaValE
import Derived.BigQuiet
namespace Go.Proofs.Yteipppdkbpfkaaa
open Go.RowKit
set_option linter.unusedVariables false

theorem ints_same (D : List Int) (a b : Option Addr) (ca cb : Nat) (w : World) (ha : IRow w a D) (hb : IRow w b D) (hl : D.length ≤ 1000000) :
    Calls Try.prog 11 #[.slice a D.length ca, .slice b D.length cb] w fun e w' => e = .returned (.bool true) ∧ Below w.heap.size w w' := by
  have HA : Hid _ := ha
  have HB : Hid _ := hb
  clear ha hb
  go_enter Try.func11, Try.ntmps11
  go_wp2
  go_loopw [5] (fun s wr => ∃ (k : Nat), k ≤ D.length ∧ s = .int .i64 k ∧ Below w.heap.size w wr) (fun s _ => D.length - (intOf s).toNat)
  case atStart => exact ⟨0, by omega, rfl, Below.refl _ _⟩
  case round =>
    obtain ⟨k, hk, rfl, hbw⟩ := hrel
    by_cases hlt : k < D.length
    · obtain ⟨x, hx⟩ : ∃ x, D[k]? = some x := ⟨D[k], List.getElem?_eq_getElem hlt⟩
      obtain ⟨ga, oa, rfl, a0⟩ := (IRow.below HA.out hbw) k x hx
      obtain ⟨gb, ob, rfl, b0⟩ := (IRow.below HB.out hbw) k x hx
      clear hx
      go_wp2_with fail
      go_region
      all_goals
        go_wp2
        go_roundw
        case rel => exact ⟨k + 1, by omega, by go_num, hbw.drew⟩
        case measure => simp [intOf]; omega
    · obtain rfl : k = D.length := by omega
      go_wp2
      go_ret
      exact ⟨rfl, hbw⟩

/-- The document's examples. -/
abbrev s0 : List UInt8 := [0, 0, 23, 1, 3, 21, 0, 0]
abbrev l0 : List Ins := [⟨0, 0, 0, 2⟩, ⟨23, 1, 2, 2⟩, ⟨3, 0, 4, 1⟩, ⟨21, 0, 5, 3⟩]
abbrev d0 : List Int := [0, 1, 1, 0]
theorem dec0 : decAt s0 0 = some l0 := by
  rw [decAt_step _ _ (by decide) (by decide)]
  rw [show wAt s0 0 = 1 by decide, decAt_step _ _ (by decide) (by decide)]
  rw [show wAt s0 (0 + 1 + 1) = 1 by decide, decAt_step _ _ (by decide) (by decide)]
  rw [show wAt s0 (0 + 1 + 1 + 1 + 1) = 0 by decide, decAt_step _ _ (by decide) (by decide)]
  rw [show wAt s0 (0 + 1 + 1 + 1 + 1 + 1 + 0) = 2 by decide, decAt_end _ _ (by decide)]
  rfl
theorem stand0 : Stand l0 := (stand_iff l0).1 (by decide)
theorem sol0 : Sol l0 d0 := by
  have h1 : Search l0 [0, -1, -1, -1] [(1, 1)] := Search.mark (k := 0) (d := 0) (i := ⟨0, 0, 0, 2⟩) stand0 (Search.start l0) rfl rfl (by decide) (by decide)
  have h2 : Search l0 [0, 1, -1, -1] [(2, 1)] := Search.mark (k := 1) (d := 1) (i := ⟨23, 1, 2, 2⟩) stand0 h1 rfl rfl (by decide) (by decide)
  have h3 : Search l0 [0, 1, 1, -1] [(3, 0)] := Search.mark (k := 2) (d := 1) (i := ⟨3, 0, 4, 1⟩) stand0 h2 rfl rfl (by decide) (by decide)
  have h4 : Search l0 [0, 1, 1, 0] [(0, 0)] := Search.mark (k := 3) (d := 0) (i := ⟨21, 0, 5, 3⟩) stand0 h3 rfl rfl (by decide) (by decide)
  exact (Search.drop (k := 0) (d := 0) h4 rfl).done
theorem valid0 : Valid s0 l0 d0 := ⟨by decide, dec0, stand0, sol0⟩
theorem bad1 : Bad [3] := by
  have hd : decAt [3] 0 = some [⟨3, 0, 0, 1⟩] := by
    rw [decAt_step _ _ (by decide) (by decide), show wAt [3] 0 = 0 by decide, decAt_end _ _ (by decide)]
    rfl
  intro l D h
  have := h.dec
  rw [hd] at this
  cases this
  exact Sol.no_room (Reach.base) (i := ⟨3, 0, 0, 1⟩) rfl (by decide) D h.sol
theorem bad2 : Bad [0, 0] := by
  have hd : decAt [0, 0] 0 = some [⟨0, 0, 0, 2⟩] := by
    rw [decAt_step _ _ (by decide) (by decide), show wAt [0, 0] 0 = 1 by decide, decAt_end _ _ (by decide)]
    rfl
  intro l D h
  have := h.dec
  rw [hd] at this
  cases this
  exact Sol.no_end (Reach.next (i := ⟨0, 0, 0, 2⟩) Reach.base rfl (by decide)) D h.sol
theorem bad3 : Bad [21, 1, 0] := by
  have hd : decAt [21, 1, 0] 0 = some [⟨21, 1, 0, 3⟩] := by
    rw [decAt_step _ _ (by decide) (by decide), show wAt [21, 1, 0] 0 = 2 by decide, decAt_end _ _ (by decide)]
    rfl
  intro l D h
  have := h.dec
  rw [hd] at this
  cases this
  exact absurd ((stand_iff _).2 h.stand) (by decide)
theorem bad4 : Bad [] := fun l D h => by have := h.size; simp at this
theorem entries0 : entryB l0 d0 0 = true ∧ entryB l0 d0 5 = true ∧ entryB l0 d0 4 = false := by decide

theorem irow_block {w : World} {g : Nat} {cs : Array Value} {t : TypeId} {fr : Nat × Nat} {D : List Int} (h : w.heap[g]? = some (.cells cs t fr)) (hc : cs = (irow D).toArray) : IRow w (some ⟨g, 0, none⟩) D := by
  subst hc
  exact fun j x hj => ⟨g, 0, rfl, by rw [Nat.zero_add, cell_of_heap h]; exact irow_get hj⟩

set_option maxRecDepth 100000 in
set_option maxHeartbeats 2000000 in
theorem awake_at (w : World) : Calls Try.prog 8 #[] w fun e w' => e = .returned (.bool true) ∧ Below w.heap.size w w' := by
  have hE0 := fun w => entry_yes valid0 0 w
  have hE5 := fun w => entry_yes valid0 5 w
  have hE4 := fun w => entry_yes valid0 4 w
  rw [entries0.1] at hE0
  rw [entries0.2.1] at hE5
  rw [entries0.2.2] at hE4
  go_enter Try.func8, Try.ntmps8
  go_wp2_with fail
  refine (depths_yes valid0 w).mono ?_
  rintro e w1 ⟨⟨b0, cb, rfl, hr1⟩, hb1⟩
  have H1 : Hid _ := hr1
  clear hr1
  go_wp2_with fail
  refine (check_yes valid0 w1).mono ?_
  rintro e w2 ⟨rfl, hb2⟩
  obtain ⟨W, hW⟩ : ∃ W, W = w2.alloc (.cells #[.int .i64 0, .int .i64 1, .int .i64 1, .int .i64 0] 3) := ⟨_, rfl⟩
  have hbW : Below w2.heap.size w2 W := by rw [hW]; exact (Below.refl _ _).alloc (Nat.le_refl _) _
  have hb12 := hb2.trans (hbW.mono hb2.size)
  have hcall := ints_same d0 b0 (some ⟨w2.heap.size, 0, none⟩) cb 4 W (IRow.below H1.out hb12) (irow_block (by rw [hW]; exact heap_alloc_new _ _) rfl) (by decide)
  have hbw := hb1.trans (hb12.mono hb1.size)
  clear H1 hb2 hb12 hbW hb1
  go_wp2_with fail
  rw [← hW]
  clear hW
  refine hcall.mono ?_
  rintro e w3 ⟨rfl, hb3⟩
  have hbw3 := hbw.trans (hb3.mono hbw.size)
  clear hcall hb3 hbw
  go_wp2_with fail
  refine (hE0 w3).mono ?_
  rintro e w4 ⟨rfl, hb4⟩
  have hbw4 := hbw3.trans (hb4.mono hbw3.size)
  clear hb4 hbw3
  go_wp2_with fail
  refine (hE5 w4).mono ?_
  rintro e w5 ⟨rfl, hb5⟩
  have hbw5 := hbw4.trans (hb5.mono hbw4.size)
  clear hb5 hbw4
  go_wp2_with fail
  refine (hE4 w5).mono ?_
  rintro e w6 ⟨rfl, hb6⟩
  have hbw6 := hbw5.trans (hb6.mono hbw5.size)
  clear hb6 hbw5
  go_wp2_with fail
  refine (check_no bad1 (by decide) w6).mono ?_
  rintro e w7 ⟨rfl, hb7⟩
  have hbw7 := hbw6.trans (hb7.mono hbw6.size)
  clear hb7 hbw6
  go_wp2_with fail
  refine (check_no bad2 (by decide) w7).mono ?_
  rintro e w8 ⟨rfl, hb8⟩
  have hbw8 := hbw7.trans (hb8.mono hbw7.size)
  clear hb8 hbw7
  go_wp2_with fail
  refine (check_no bad3 (by decide) w8).mono ?_
  rintro e w9 ⟨rfl, hb9⟩
  have hbw9 := hbw8.trans (hb9.mono hbw8.size)
  clear hb9 hbw8
  go_wp2_with fail
  refine (check_no bad4 (by decide) w9).mono ?_
  rintro e w10 ⟨rfl, hb10⟩
  have hbw10 := hbw9.trans (hb10.mono hbw9.size)
  clear hb10 hbw9
  go_wp2
  go_ret
  exact ⟨rfl, hbw10⟩
end Go.Proofs.Yteipppdkbpfkaaa
