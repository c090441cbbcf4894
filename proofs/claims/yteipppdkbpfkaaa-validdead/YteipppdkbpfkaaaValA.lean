/- The small functions of package valid, and of its reference: find, argsStand, behind. -/
import Derived.Test.YteipppdkbpfkaaaCodF
import Derived.Test.YteipppdkbpfkaaaValM
import Derived.Deep.LoopGhost
import Derived.WalkSmall
namespace Go.Proofs.Yteipppdkbpfkaaa
open Go.RowKit
set_option linter.unusedVariables false

theorem findf_at (i : Ins) (a : Int) (B : Nat) (w : World) (hc : w.cell? ⟨B, 0, none⟩ = some (.int .i64 a)) :
    Calls Try.prog 27 #[.agg (insRow i), .pointer (some ⟨B, 0, none⟩)] w fun e w' => e = .returned (.bool (i.pos == a)) ∧ Below w.heap.size w w' := by
  have hB := cell_lt hc
  dsimp only at hB
  have hne : B ≠ w.heap.size := by omega
  dsimp only [insRow]
  go_enter Try.func27, Try.ntmps27
  go_wp2
  all_goals (go_ret; exact ⟨by simp_all, (Below.refl _ _).alloc (Nat.le_refl _) _⟩)

set_option maxHeartbeats 1000000 in
theorem indexFunc_at (l : List Ins) (a : Int) (B : Nat) (a0 : Option Addr) (cap : Nat) (w : World) (hrow : Row w a0 l) (hl : l.length ≤ 1000000) (hc : w.cell? ⟨B, 0, none⟩ = some (.int .i64 a)) :
    Calls Try.prog 26 #[.slice a0 l.length cap, .func (.func 27) #[] #[.pointer (some ⟨B, 0, none⟩)]] w fun e w' => e = .returned (.int .i64 (findP l a)) ∧ Below w.heap.size w w' := by
  have HR : Hid _ := hrow
  have HC : Hid _ := hc
  clear hrow hc
  go_enter Try.func26, Try.ntmps26
  go_wp2
  go_loopw [5, 8] (fun _ s wr => ∃ (k : Nat), k ≤ l.length ∧ s = .int .i64 k ∧ Hid (∀ (j : Nat) (x : Ins), j < k → l[j]? = some x → x.pos ≠ a) ∧ Below w.heap.size w wr) (fun _ s _ => l.length - (intOf s).toNat)
  case atStart => exact ⟨0, by omega, rfl, (show Hid _ from fun j x hj => absurd hj (Nat.not_lt_zero _)), Below.refl _ _⟩
  case round =>
    obtain ⟨k, hk, rfl, HN, hb⟩ := hrel
    by_cases hlt : k < l.length
    · obtain ⟨i, hki⟩ : ∃ i, l[k]? = some i := ⟨l[k], List.getElem?_eq_getElem hlt⟩
      obtain ⟨gb, off, rfl, c0, c1, c2, c3⟩ := (Row.below HR.out hb) k i hki
      have hcall := findf_at i a B wr (by rw [hb.cell (cell_lt HC.out)]; exact HC.out)
      have HK : Hid _ := hki
      clear hki
      dsimp only [insRow] at hcall
      cases hq : (i.pos == a) with
      | true =>
        rw [hq] at hcall
        have HF : Hid _ := findP_hit HK.out (by simpa using hq) HN.out
        clear hq
        go_wp2_with (go_at_call 27; refine hcall.mono ?_; rintro e w' ⟨rfl, hb'⟩)
        go_ret
        exact ⟨by rw [HF.out]; rfl, hb.trans (hb'.mono hb.size)⟩
      | false =>
        rw [hq] at hcall
        have hne : i.pos ≠ a := by simpa using hq
        have HM : Hid (∀ (j : Nat) (x : Ins), j < k + 1 → l[j]? = some x → x.pos ≠ a) := by
          intro j x hj hx
          by_cases e : j = k
          · subst e
            rw [HK.out] at hx
            cases hx
            exact hne
          · exact HN.out j x (by omega) hx
        clear hq hne
        go_wp2_with (go_at_call 27; refine hcall.mono ?_; rintro e w' ⟨rfl, hb'⟩)
        go_roundw
        case rel => exact ⟨k + 1, by omega, by go_num, HM, hb.trans (hb'.mono hb.size)⟩
        case measure => simp [intOf]; omega
    · obtain rfl : k = l.length := by omega
      have HF : Hid (findP l a = -1) := findP_miss (fun j x hx => HN.out j x (List.getElem?_eq_some_iff.1 hx).1 hx)
      go_wp2
      go_ret
      exact ⟨by rw [HF.out]; rfl, hb⟩

theorem find_at (l : List Ins) (a : Int) (a0 : Option Addr) (cap : Nat) (w : World) (hrow : Row w a0 l) (hl : l.length ≤ 1000000) :
    Calls Try.prog 19 #[.slice a0 l.length cap, .int .i64 a] w fun e w' => e = .returned (.int .i64 (findP l a)) ∧ Below w.heap.size w w' := by
  obtain ⟨W, hW⟩ : ∃ W, W = w.alloc (.cells #[.int .i64 a] 3) := ⟨_, rfl⟩
  have hbW : Below w.heap.size w W := by rw [hW]; exact (Below.refl _ _).alloc (Nat.le_refl _) _
  have hnew : W.heap[w.heap.size]? = some (.cells #[.int .i64 a] 3) := by rw [hW]; exact heap_alloc_new _ _
  have hcall := indexFunc_at l a w.heap.size a0 cap W (Row.below hrow hbW) hl (by rw [cell_of_heap hnew]; rfl)
  clear hrow hnew
  go_enter Try.func19, Try.ntmps19
  go_wp2_with fail
  rw [← hW]
  clear hW
  refine hcall.mono ?_
  rintro e w' ⟨rfl, hb'⟩
  go_wp2
  go_ret
  exact ⟨rfl, hbW.trans (hb'.mono hbW.size)⟩

set_option maxHeartbeats 1000000 in
theorem rfind_at (l : List Ins) (a : Int) (a0 : Option Addr) (cap : Nat) (w : World) (hrow : Row w a0 l) (hl : l.length ≤ 1000000) (hpos : ∀ i ∈ l, 0 ≤ i.pos ∧ i.pos ≤ 9223372036854775807) :
    Calls Try.prog 18 #[.slice a0 l.length cap, .int .u64 a] w fun e w' => e = .returned (.int .i64 (findP l a)) ∧ Below w.heap.size w w' := by
  have HR : Hid _ := hrow
  have HP : Hid _ := hpos
  clear hrow hpos
  go_enter Try.func18, Try.ntmps18
  go_wp2
  go_loopw [5] (fun s wr => ∃ (k : Nat), k ≤ l.length ∧ s = .int .i64 k ∧ Hid (∀ (j : Nat) (x : Ins), j < k → l[j]? = some x → x.pos ≠ a) ∧ Below w.heap.size w wr) (fun s _ => l.length - (intOf s).toNat)
  case atStart => exact ⟨0, by omega, rfl, (show Hid _ from fun j x hj => absurd hj (Nat.not_lt_zero _)), Below.refl _ _⟩
  case round =>
    obtain ⟨k, hk, rfl, HN, hb⟩ := hrel
    by_cases hlt : k < l.length
    · obtain ⟨i, hki⟩ : ∃ i, l[k]? = some i := ⟨l[k], List.getElem?_eq_getElem hlt⟩
      obtain ⟨gb, off, rfl, c0, c1, c2, c3⟩ := (Row.below HR.out hb) k i hki
      have hp0 := HP.out i (List.mem_of_getElem? hki)
      have hwr : IntKind.u64.wrap i.pos = i.pos := by
        have := uwrap_nat i.pos.toNat (by omega)
        rwa [Int.toNat_of_nonneg hp0.1] at this
      have HK : Hid _ := hki
      clear hki
      cases hq : (i.pos == a) with
      | true =>
        have HF : Hid _ := findP_hit HK.out (by simpa using hq) HN.out
        go_wp2
        go_ret
        exact ⟨by rw [HF.out]; rfl, hb⟩
      | false =>
        have hne : i.pos ≠ a := by simpa using hq
        have HM : Hid (∀ (j : Nat) (x : Ins), j < k + 1 → l[j]? = some x → x.pos ≠ a) := by
          intro j x hj hx
          by_cases e : j = k
          · subst e
            rw [HK.out] at hx
            cases hx
            exact hne
          · exact HN.out j x (by omega) hx
        clear hne
        go_wp2
        go_roundw
        case rel => exact ⟨k + 1, by omega, by go_num, HM, hb⟩
        case measure => simp [intOf]; omega
    · obtain rfl : k = l.length := by omega
      have HF : Hid (findP l a = -1) := findP_miss (fun j x hx => HN.out j x (List.getElem?_eq_some_iff.1 hx).1 hx)
      go_wp2
      go_ret
      exact ⟨by rw [HF.out]; rfl, hb⟩

theorem behind_at (i : Ins) (d : Int) (hi : i.Fit) (hd : 0 ≤ d ∧ d ≤ 1000000) (w : World) :
    Calls Try.prog 31 #[.agg (insRow i), .int .i64 d] w fun e w' => e = .returned (.tuple #[.int .i64 (nxt i d), .bool (decide ((mv i).1 ≤ d) && decide (nxt i d ≤ 32))]) ∧ Below w.heap.size w w' := by
  have hmv := moves_at i hi
  have hrg := mv_range i
  have HM : Hid (movesOf i.op i.arg = mv i) := by exact rfl
  rw [HM.out] at hmv
  have HN : Hid (nxt i d = d - (mv i).1 + (mv i).2) := by exact rfl
  generalize hN : nxt i d = N at *
  clear hN
  dsimp only [insRow] at *
  generalize hp : (mv i).1 = p at *
  generalize hq : (mv i).2 = q at *
  clear hp hq
  obtain ⟨W, hW⟩ : ∃ W, W = w.alloc (.cells #[.int .i64 i.op, .int .u64 i.arg, .int .i64 i.pos, .int .i64 i.len] 39) := ⟨_, rfl⟩
  have hbW : Below w.heap.size w W := by rw [hW]; exact (Below.refl _ _).alloc (Nat.le_refl _) _
  have hnew : W.heap[w.heap.size]? = some (.cells #[.int .i64 i.op, .int .u64 i.arg, .int .i64 i.pos, .int .i64 i.len] 39) := by rw [hW]; exact heap_alloc_new _ _
  have c0 : W.cell? ⟨w.heap.size, 0, none⟩ = some (.int .i64 i.op) := by rw [cell_of_heap hnew]; rfl
  have c1 : W.cell? ⟨w.heap.size, 1, none⟩ = some (.int .u64 i.arg) := by rw [cell_of_heap hnew]; rfl
  have c2 : W.cell? ⟨w.heap.size, 2, none⟩ = some (.int .i64 i.pos) := by rw [cell_of_heap hnew]; rfl
  have c3 : W.cell? ⟨w.heap.size, 3, none⟩ = some (.int .i64 i.len) := by rw [cell_of_heap hnew]; rfl
  have hNw : N = d - p + q := HN.out
  clear hnew HN HM
  go_enter Try.func31, Try.ntmps31
  go_wp2_with fail
  rw [← hW]
  clear hW
  refine (hmv W).mono ?_
  rintro e w1 ⟨rfl, hb1⟩
  clear hmv
  have HNw : Hid _ := hNw
  clear hNw
  by_cases h1 : p ≤ d
  · go_wp2
    all_goals
      go_ret2
      refine ⟨?_, hbW.trans (hb1.mono hbW.size)⟩
      rw [HNw.out]
      simp [h1]
  · go_wp2
    all_goals
      go_ret2
      refine ⟨?_, hbW.trans (hb1.mono hbW.size)⟩
      rw [HNw.out]
      simp
      omega
end Go.Proofs.Yteipppdkbpfkaaa
