/- The contracts of januslaw07's small and of janusref07.Same at two equal machines. -/
import Derived.Test.YtedkijionpkmmaaAwake7
import Derived.BigQuiet
namespace Go.Proofs.Ytedkijionpkmmaa
open Go.RowKit
set_option linter.unusedVariables false

/-- A machine such as machines are. -/
def smallB (pc : Int) (n : Nat) : Bool := decide (n ≤ 32) && decide (0 ≤ pc) && decide (pc ≤ 1048576)
theorem small_at (pc : Int) (a : Option Addr) (n c : Nat) (hn : n ≤ 9223372036854775807) (w : World) :
    Calls Try.prog 7 #[.agg #[.int .i64 pc, .slice a n c]] w fun e w' => e = .returned (.bool (smallB pc n)) ∧ Below w.heap.size w w' := by
  have hb : Hid (Below w.heap.size w (w.alloc (.cells #[.int .i64 pc, .slice a n c] 24))) := below_alloc _ _
  by_cases h1 : n ≤ 32
  · by_cases h2 : 0 ≤ pc
    · by_cases h3 : pc ≤ 1048576
      · have HE : Hid (smallB pc n = true) := by show smallB pc n = true; simp [smallB, h1, h2, h3]
        go_enter Try.func7, Try.ntmps7
        go_wp2
        go_ret
        exact ⟨by rw [HE.out]; first | rfl | simp, hb.out⟩
      · have HE : Hid (smallB pc n = false) := by show smallB pc n = false; simp [smallB, h3]
        go_enter Try.func7, Try.ntmps7
        go_wp2
        go_ret
        exact ⟨by rw [HE.out]; first | rfl | simp, hb.out⟩
    · have HE : Hid (smallB pc n = false) := by show smallB pc n = false; simp [smallB, h2]
      go_enter Try.func7, Try.ntmps7
      go_wp2
      go_ret
      exact ⟨by rw [HE.out]; first | rfl | simp, hb.out⟩
  · have HE : Hid (smallB pc n = false) := by show smallB pc n = false; simp [smallB, h1]
    go_enter Try.func7, Try.ntmps7
    go_wp2
    go_ret
    exact ⟨by rw [HE.out]; first | rfl | simp, hb.out⟩

set_option maxHeartbeats 1000000 in
theorem same_at (pc : Int) (xs : List Int) (u v : Value) (w : World) (hu : URd w u xs) (hv : URd w v xs) (hl : xs.length ≤ 1000000) :
    Calls Try.prog 12 #[.agg #[.int .i64 pc, u], .agg #[.int .i64 pc, v]] w fun e w' => e = .returned (.bool true) ∧ Below w.heap.size w w' := by
  have HU : Hid (URd w u xs) := hu
  have HV : Hid (URd w v xs) := hv
  obtain ⟨a, ca, rfl⟩ := hu.form
  obtain ⟨b, cb, rfl⟩ := hv.form
  clear hu hv
  obtain ⟨W, hW⟩ : ∃ W, W = (w.alloc (.cells #[.int .i64 pc, .slice a xs.length ca] 24)).alloc (.cells #[.int .i64 pc, .slice b xs.length cb] 24) := ⟨_, rfl⟩
  obtain ⟨hB, h1, h2, _⟩ := laidAB hW
  have HB : Hid (Below w.heap.size w W) := hB
  have H1 : Hid (W.heap[w.heap.size]? = some (.cells #[.int .i64 pc, .slice a xs.length ca] 24)) := h1
  have H2 : Hid (W.heap[w.heap.size + 1]? = some (.cells #[.int .i64 pc, .slice b xs.length cb] 24)) := h2
  clear hB h1 h2
  go_enter Try.func12, Try.ntmps12
  go_wp2
  rw [← hW]
  clear hW
  go_loopw [5] (fun s wr => ∃ (k : Nat), k ≤ xs.length ∧ s = .int .i64 k ∧ Below W.heap.size W wr) (fun s _ => xs.length - (intOf s).toNat)
  case atStart => exact ⟨0, by omega, rfl, Below.refl _ _⟩
  case round =>
    obtain ⟨k, hk, rfl, hbw⟩ := hrel
    have hbig : Below w.heap.size w wr := HB.out.trans (hbw.mono HB.out.size)
    have c1 : wr.cell? ⟨w.heap.size, 1, none⟩ = some (.slice a xs.length ca) := by rw [cell_of_heap ((hbw.block _ (lt_of_heap H1.out)).trans H1.out)]; rfl
    have c2 : wr.cell? ⟨w.heap.size + 1, 1, none⟩ = some (.slice b xs.length cb) := by rw [cell_of_heap ((hbw.block _ (lt_of_heap H2.out)).trans H2.out)]; rfl
    by_cases hlt : k < xs.length
    · obtain ⟨x, hx⟩ : ∃ x, xs[k]? = some x := ⟨xs[k], List.getElem?_eq_getElem hlt⟩
      rcases URd.below HU.out hbig with ⟨e1, e2⟩ | ⟨ga, oa, ca', e1, hc1, hx1⟩ | ⟨_, _, _, e2⟩
      · rw [e2] at hlt; simp at hlt
      rotate_left
      · rw [e2] at hlt; simp at hlt
      rcases URd.below HV.out hbig with ⟨e3, e4⟩ | ⟨gb, ob, cb', e3, hc2, hx2⟩ | ⟨_, _, _, e4⟩
      · rw [e4] at hlt; simp at hlt
      rotate_left
      · rw [e4] at hlt; simp at hlt
      simp only [Value.slice.injEq] at e1 e3
      obtain ⟨rfl, _, rfl⟩ := e1
      obtain ⟨rfl, _, rfl⟩ := e3
      have a0 := hx1 k x hx
      have b0 := hx2 k x hx
      clear hx hx1 hx2
      go_wp2_with fail
      go_quiet (fail)
      go_wp2
      go_roundw
      case rel => exact ⟨k + 1, by omega, by go_num, below_drewN hbw _⟩
      case measure => simp [intOf]; omega
    · obtain rfl : k = xs.length := by omega
      go_wp2
      go_ret
      exact ⟨rfl, hbig⟩
end Go.Proofs.Ytedkijionpkmmaa
