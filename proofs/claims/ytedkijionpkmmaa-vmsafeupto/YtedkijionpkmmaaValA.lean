/- The small functions of package valid, and of its reference: find, argsStand, behind. -/
import Derived.Test.YtedkijionpkmmaaCodF
import Derived.Test.YtedkijionpkmmaaValM
import Derived.Deep.LoopGhost
import Derived.WalkSmall
namespace Go.Proofs.Ytedkijionpkmmaa
open Go.RowKit
set_option linter.unusedVariables false

set_option maxHeartbeats 1000000 in
theorem rfind_at (l : List Ins) (a : Int) (a0 : Option Addr) (cap : Nat) (w : World) (hrow : Row w a0 l) (hl : l.length ≤ 1000000) (hpos : ∀ i ∈ l, 0 ≤ i.pos ∧ i.pos ≤ 9223372036854775807) :
    Calls Try.prog 32 #[.slice a0 l.length cap, .int .u64 a] w fun e w' => e = .returned (.int .i64 (findP l a)) ∧ Below w.heap.size w w' := by
  have HR : Hid _ := hrow
  have HP : Hid _ := hpos
  clear hrow hpos
  go_enter Try.func32, Try.ntmps32
  go_wp2
  go_loopw [5] (fun s wr => ∃ (k : Nat), k ≤ l.length ∧ s = .int .i64 k ∧ Hid (∀ (j : Nat) (x : Ins), j < k → l[j]? = some x → x.pos ≠ a) ∧ Below w.heap.size w wr) (fun s _ => l.length - (intOf s).toNat)
  case atStart => exact ⟨0, by omega, rfl, (show Hid _ from fun j x hj => absurd hj (Nat.not_lt_zero _)), Below.refl _ _⟩
  case round =>
    obtain ⟨k, hk, rfl, HN, hb⟩ := hrel
    by_cases hlt : k < l.length
    · obtain ⟨i, hki⟩ : ∃ i, l[k]? = some i := ⟨l[k], List.getElem?_eq_getElem hlt⟩
      obtain ⟨gb, off, rfl, c0, c1, c2, c3⟩ := (Row.below HR.out hb) k i hki
      have hp0 := HP.out i (List.mem_of_getElem? hki)
      have hwr : IntKind.u64.wrap i.pos = i.pos := by
        have := uwrap_nat i.pos.toNat (by omega)
        rwa [Int.toNat_of_nonneg hp0.1] at this
      have HK : Hid _ := hki
      clear hki
      cases hq : (i.pos == a) with
      | true =>
        have HF : Hid _ := findP_hit HK.out (by simpa using hq) HN.out
        go_wp2
        go_ret
        exact ⟨by rw [HF.out]; rfl, hb⟩
      | false =>
        have hne : i.pos ≠ a := by simpa using hq
        have HM : Hid (∀ (j : Nat) (x : Ins), j < k + 1 → l[j]? = some x → x.pos ≠ a) := by
          intro j x hj hx
          by_cases e : j = k
          · subst e
            rw [HK.out] at hx
            cases hx
            exact hne
          · exact HN.out j x (by omega) hx
        clear hne
        go_wp2
        go_roundw
        case rel => exact ⟨k + 1, by omega, by go_num, HM, hb⟩
        case measure => simp [intOf]; omega
    · obtain rfl : k = l.length := by omega
      have HF : Hid (findP l a = -1) := findP_miss (fun j x hx => HN.out j x (List.getElem?_eq_some_iff.1 hx).1 hx)
      go_wp2
      go_ret
      exact ⟨by rw [HF.out]; rfl, hb⟩

end Go.Proofs.Ytedkijionpkmmaa
