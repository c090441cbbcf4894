/- Package fds: file, lowestFree, left, freePlace, New. -/
import Derived.Test.YtkdbmfckfbmbiaaFdA
namespace Go.Proofs.Ytkdbmfckfbmbiaa
open Go.RowKit
set_option linter.unusedVariables false

theorem file_nil (n k : Int) (w : World) :
    Calls Try.prog 41 #[.pointer none, .int .i64 n, .int .i64 k] w fun e w' => e = .returned (.pointer none) ∧ w' = w := by
  have hT := table_nil n w
  go_enter Try.func41, Try.ntmps41
  go_wp2_with (go_at_call 35; refine hT.mono ?_; rintro e w1 ⟨rfl, hw⟩; rw [hw]; clear hw w1)
  go_ret
  exact ⟨rfl, rfl⟩
theorem file_no (b : Nat) (S : FS) (n k : Int) (w : World) (h : FdAt w b S) (hn : nm S n k = 0) :
    Calls Try.prog 41 #[.pointer (some ⟨b, 0, none⟩), .int .i64 n, .int .i64 k] w fun e w' => e = .returned (.pointer none) ∧ w' = w := by
  cases hp : isP n with
  | false =>
    have hT := table_no b n w hp
    clear h hn hp
    go_enter Try.func41, Try.ntmps41
    go_wp2_with (go_at_call 35; refine hT.mono ?_; rintro e w1 ⟨rfl, hw⟩; rw [hw]; clear hw w1)
    go_ret
    exact ⟨rfl, rfl⟩
  | true =>
    obtain ⟨m, rfl, hm⟩ := isP_nat hp
    have hT := table_at b m w hm
    have hne := tptr_eq b (160 + m * 6)
    cases hd : isD k with
    | false =>
      have hc := isD_no hd
      clear h hn hp hd
      rcases hc with hc | hc
      · have g0 : decide (k < 0) = true := decide_eq_true hc
        go_enter Try.func41, Try.ntmps41
        go_wp2_with (go_at_call 35; refine hT.mono ?_; rintro e w1 ⟨rfl, hw⟩; rw [hw]; clear hw w1)
        go_ret
        exact ⟨rfl, rfl⟩
      · have g0 : decide (k < 0) = false := decide_eq_false (by omega)
        have g1 : decide (6 ≤ k) = true := decide_eq_true hc
        go_enter Try.func41, Try.ntmps41
        go_wp2_with (go_at_call 35; refine hT.mono ?_; rintro e w1 ⟨rfl, hw⟩; rw [hw]; clear hw w1)
        go_ret
        exact ⟨rfl, rfl⟩
    | true =>
      obtain ⟨j, rfl, hj⟩ := isD_nat hd
      rw [nm_of hm hj] at hn
      have c0 := h.tcell (i := m * 6 + j) (o := 160 + m * 6 + j) (by omega) (by omega)
      rw [hn] at c0
      have g0 : decide ((j : Int) < 0) = false := decide_eq_false (by omega)
      have g1 : decide (6 ≤ (j : Int)) = false := decide_eq_false (by omega)
      have hji : (j : Int) < 6 := by omega
      clear h hn hp hd
      go_enter Try.func41, Try.ntmps41
      go_wp2_with (go_at_call 35; refine hT.mono ?_; rintro e w1 ⟨rfl, hw⟩; rw [hw]; clear hw w1)
      go_ret
      exact ⟨rfl, rfl⟩
theorem file_yes (b : Nat) (S : FS) (m j p : Nat) (w : World) (h : FdAt w b S) (hm : m < 8) (hj : j < 6) (hn : S.t (m * 6 + j) = p + 1) (hp : p < 32) :
    Calls Try.prog 41 #[.pointer (some ⟨b, 0, none⟩), .int .i64 ((m : Int) + 1), .int .i64 j] w fun e w' => e = .returned (.pointer (some ⟨b, p * 5, none⟩)) ∧ w' = w.drew := by
  have hT := table_at b m w hm
  have hne := tptr_eq b (160 + m * 6)
  have c0 := h.tcell (i := m * 6 + j) (o := 160 + m * 6 + j) (by omega) (by omega)
  have c1 := h.drew.tcell (i := m * 6 + j) (o := 160 + m * 6 + j) (by omega) (by omega)
  rw [hn, Int.natCast_add, Int.natCast_one] at c0 c1
  have g0 : decide ((j : Int) < 0) = false := decide_eq_false (by omega)
  have g1 : decide (6 ≤ (j : Int)) = false := decide_eq_false (by omega)
  have g2 : ((p : Int) + 1 == 0) = false := beq_false_of_ne (by omega)
  have hji : (j : Int) < 6 := by omega
  have hpi : (p : Int) < 32 := by omega
  clear h hn
  go_enter Try.func41, Try.ntmps41
  go_wp2_with (go_at_call 35; refine hT.mono ?_; rintro e w1 ⟨rfl, hw⟩; rw [hw]; clear hw w1)
  go_region
  all_goals
    go_wp2
    go_ret
    exact ⟨rfl, rfl⟩

theorem lowestFree_at (b : Nat) (S : FS) (m : Nat) (w : World) (h : FdAt w b S) (hm : m < 8) :
    Calls Try.prog 36 #[.pointer (some ⟨b, 160 + m * 6, none⟩)] w fun e w' => e = .returned (.int .i64 (fdOf S m)) ∧ Below w.heap.size w w' := by
  have HH : Hid _ := h
  clear h
  go_enter Try.func36, Try.ntmps36
  go_wp2
  go_loopw [6] (fun s wr => ∃ (k : Nat), k ≤ 6 ∧ s = .int .i64 k ∧ (∀ i, i < k → S.t (m * 6 + i) ≠ 0) ∧ Below w.heap.size w wr) (fun s _ => 6 - (intOf s).toNat)
  case atStart => exact ⟨0, by omega, rfl, fun i hi => by omega, Below.refl _ _⟩
  case round =>
    obtain ⟨k, hk, rfl, hno, hB⟩ := hrel
    have HB : Hid (Below w.heap.size w wr) := hB
    by_cases hlt : k < 6
    · have h1 := HH.out.below hB
      have c0 := h1.tcell (i := m * 6 + k) (o := 160 + m * 6 + k) (by omega) (by omega)
      have c1 := h1.drew.tcell (i := m * 6 + k) (o := 160 + m * 6 + k) (by omega) (by omega)
      have hki : (k : Int) < 6 := by omega
      have HN : Hid (∀ i, i < k → S.t (m * 6 + i) ≠ 0) := hno
      by_cases h0 : S.t (m * 6 + k) = 0
      · have HF : Hid (fdOf S m = (k : Int)) := low_yes hlt (by simpa using h0) (fun j hj => by simpa using HN.out j hj)
        rw [h0] at c0 c1
        clear h1 hno hB h0
        go_wp2_with fail
        go_region
        all_goals
          go_wp2
          go_ret
          exact ⟨by rw [HF.out]; rfl, HB.out.drew⟩
      · have HF : Hid (S.t (m * 6 + k) ≠ 0) := h0
        generalize hq : S.t (m * 6 + k) = q at *
        have g2 : ((q : Int) == 0) = false := beq_false_of_ne (by omega)
        have HQ : Hid _ := hq
        clear h1 hno hB h0 hq
        go_wp2_with fail
        go_region
        all_goals
          go_wp2
          go_roundw
          case rel =>
            refine ⟨k + 1, by omega, by go_num, fun i hi => ?_, HB.out.drew⟩
            rcases Nat.lt_or_ge i k with q1 | q1
            · exact HN.out i q1
            · have : i = k := by omega
              rw [this, HQ.out]
              exact HF.out
          case measure => simp [intOf]; omega
    · have HF : Hid (fdOf S m = -1) := low_no (fun j hj => by simpa using hno j (by omega))
      clear hno hB
      obtain rfl : k = 6 := by omega
      go_wp2
      go_ret
      exact ⟨by rw [HF.out]; rfl, HB.out⟩

theorem left_at (b : Nat) (S : FS) (m : Nat) (w : World) (h : FdAt w b S) (hm : m < 8) :
    Calls Try.prog 48 #[.pointer (some ⟨b, 160 + m * 6, none⟩)] w fun e w' => e = .returned (.int .i64 (leftTo S m 6 : Nat)) ∧ w' = w := by
  have HH : Hid _ := h
  clear h
  go_enter Try.func48, Try.ntmps48
  go_wp2
  go_loopw [3, 7] (fun n s wr => ∃ (k : Nat), k ≤ 6 ∧ s = .int .i64 k ∧ n = .int .i64 (leftTo S m k : Nat) ∧ wr = w) (fun _ s _ => 6 - (intOf s).toNat)
  case atStart => exact ⟨0, by omega, rfl, rfl, rfl⟩
  case round =>
    obtain ⟨k, hk, rfl, rfl, hw⟩ := hrel
    subst hw
    have hle := leftTo_le S m k
    by_cases hlt : k < 6
    · have c0 := HH.out.tcell (i := m * 6 + k) (o := 160 + m * 6 + k) (by omega) (by omega)
      have hki : (k : Int) < 6 := by omega
      by_cases h0 : S.t (m * 6 + k) = 0
      · have HF : Hid (leftTo S m (k + 1) = leftTo S m k + 1) := by show _ = _; rw [leftTo_succ, if_pos h0]
        rw [h0] at c0
        clear h0
        generalize leftTo S m k = n at *
        go_wp2
        go_roundw
        case rel => exact ⟨k + 1, by omega, by go_num, by rw [HF.out]; go_num, by first | rfl | trivial⟩
        case measure => simp [intOf]; omega
      · have HF : Hid (leftTo S m (k + 1) = leftTo S m k) := by show _ = _; rw [leftTo_succ, if_neg h0]
        generalize hq : S.t (m * 6 + k) = q at *
        have g2 : ((q : Int) == 0) = false := beq_false_of_ne (by omega)
        clear h0 hq
        generalize leftTo S m k = n at *
        go_wp2
        go_roundw
        case rel => exact ⟨k + 1, by omega, by go_num, by rw [HF.out], by first | rfl | trivial⟩
        case measure => simp [intOf]; omega
    · obtain rfl : k = 6 := by omega
      go_wp2
      go_ret
      exact ⟨rfl, rfl⟩

/-- All files' cells. -/
def fvals (S : FS) : List Value := (List.range 160).map (fun i => (S.f (i / 5)).get (i % 5))
theorem fvals_get (S : FS) (p k : Nat) (hp : p < 32) (hk : k < 5) : (fvals S)[p * 5 + k]? = some ((S.f p).get k) := by
  unfold fvals
  rw [List.getElem?_map, List.getElem?_range (by omega)]
  show some ((S.f ((p * 5 + k) / 5)).get ((p * 5 + k) % 5)) = _
  rw [show (p * 5 + k) / 5 = p by omega, show (p * 5 + k) % 5 = k by omega]
theorem fvals_len (S : FS) : (fvals S).length = 160 := by simp [fvals]
theorem FdAt.range {w : World} {b : Nat} {S : FS} (h : FdAt w b S) : w.rangeAt b 0 (fvals S) := by
  intro j v hv
  have hj : j < 160 := by have := (List.getElem?_eq_some_iff.1 hv).1; rwa [fvals_len] at this
  have := fvals_get S (j / 5) (j % 5) (by omega) (by omega)
  rw [show j / 5 * 5 + j % 5 = j by omega, hv] at this
  rw [Nat.zero_add, h.fcell (p := j / 5) (k := j % 5) (by omega) (by omega) (by omega)]
  exact this.symm
theorem files_index (S : FS) (p : Nat) (hp : p < 32) (W : World) : (Instr.index 67 (.agg (fvals S).toArray) (.int .i64 p)).run Try.prog W = .ok (.agg (S.f p).row) W := by
  have h1 : (fvals S).toArray.extract (p * 5) (p * 5 + 5) = (S.f p).row := by
    apply Array.ext
    · simp [fvals_len]; omega
    · intro i h1 h2
      have hi : i < 5 := by simpa using h2
      have := fvals_get S p i hp hi
      rw [Array.getElem_extract]
      obtain ⟨hl, he⟩ := List.getElem?_eq_some_iff.1 this
      rw [List.getElem_toArray, he]
      obtain rfl | rfl | rfl | rfl | rfl : i = 0 ∨ i = 1 ∨ i = 2 ∨ i = 3 ∨ i = 4 := by omega
      all_goals rfl
  have hs : (sizeOf 30).run Try.prog W = .ok 5 W := by kernel_rfl
  have ha : (isAgg 30).run Try.prog W = .ok true W := by kernel_rfl
  have hi : 0 ≤ (p : Int) ∧ (p : Int) < (32 : Nat) := by omega
  simp only [Instr.index, Sem.run_bind, asIntOf, Sem.run_pure, Result.andThen_ok, run_underlying Try.underlying67, if_pos hi, hs, part, ha, if_true, Int.toNat_natCast, h1]

set_option maxHeartbeats 1000000 in
theorem freePlace_at (b : Nat) (S : FS) (w : World) (h : FdAt w b S) :
    Calls Try.prog 37 #[.pointer (some ⟨b, 0, none⟩)] w fun e w' => e = .returned (.int .i64 (plOf S)) ∧ Below w.heap.size w w' := by
  have HL : Hid _ := h.range
  have hne := ptr_eq b
  clear h
  go_enter Try.func37, Try.ntmps37
  go_wp2_with (first | (refine wpList_load_mid rfl 67 _ rfl b 0 rfl (fvals S) _ HL.out Try.underlying67 rfl (by kernel_rfl) ?_) | go_in)
  clear HL
  go_loopw [9] (fun s wr => ∃ (k : Nat), k ≤ 32 ∧ s = .int .i64 k ∧ (∀ i, i < k → (S.f i).refs ≠ 0) ∧ Below w.heap.size w wr) (fun s _ => 32 - (intOf s).toNat)
  case atStart => exact ⟨0, by omega, rfl, fun i hi => by omega, Below.refl _ _⟩
  case round =>
    obtain ⟨k, hk, rfl, hno, hB⟩ := hrel
    have HB : Hid (Below w.heap.size w wr) := hB
    by_cases hlt : k < 32
    · have hix := files_index S k hlt
      have HN : Hid (∀ i, i < k → (S.f i).refs ≠ 0) := hno
      have i1 : decide ((k : Int) < 32) = true := decide_eq_true (by omega)
      have hsz := hB.size
      by_cases h0 : (S.f k).refs = 0
      · have HF : Hid (plOf S = (k : Int)) := low_yes hlt (by simpa using h0) (fun j hj => by simpa using HN.out j hj)
        unfold Fl.row at hix
        rw [h0] at hix
        clear hno hB h0
        go_wp2
        go_ret
        exact ⟨by rw [HF.out]; rfl, HB.out.alloc hsz _⟩
      · have HF : Hid ((S.f k).refs ≠ 0) := h0
        have g2 : ((S.f k).refs == 0) = false := beq_false_of_ne h0
        unfold Fl.row at hix
        clear hno hB h0
        go_wp2
        go_roundw
        case rel =>
          refine ⟨k + 1, by omega, by go_num, fun i hi => ?_, HB.out.alloc hsz _⟩
          rcases Nat.lt_or_ge i k with q1 | q1
          · exact HN.out i q1
          · have : i = k := by omega
            rw [this]
            exact HF.out
        case measure => simp [intOf]; omega
    · have HF : Hid (plOf S = -1) := low_no (fun j hj => by simpa using hno j (by omega))
      clear hno hB
      obtain rfl : k = 32 := by omega
      go_wp2
      go_ret
      exact ⟨by rw [HF.out]; rfl, HB.out⟩
end Go.Proofs.Ytkdbmfckfbmbiaa
