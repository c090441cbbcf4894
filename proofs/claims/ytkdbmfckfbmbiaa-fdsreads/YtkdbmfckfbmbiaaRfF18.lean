/- The reference of package fds: free, Left, Get, Seek. -/
import Derived.Test.YtkdbmfckfbmbiaaRfE18
import Derived.Test.YtkdbmfckfbmbiaaFdC
namespace Go.Proofs.Ytkdbmfckfbmbiaa
open Go.RowKit
set_option linter.unusedVariables false

theorem RL.mem {L : List En} {S : FS} (h : RL L S) {e : En} (he : e ∈ L) : ∃ q, q ∈ ord S.t ∧ e.x = S.f (q - 1) ∧ e.d = ks S.t q := by
  have h1 : e.ab ∈ refL S := by rw [← h]; exact List.mem_map_of_mem he
  obtain ⟨q, hq, e1⟩ := (mem_refL S _).1 h1
  exact ⟨q, hq, (congrArg Prod.fst e1).symm, (congrArg Prod.snd e1).symm⟩
theorem RL.dl {L : List En} {S : FS} (h : RL L S) : ∀ e ∈ L, e.d.length ≤ 48 := fun e he => by
  obtain ⟨q, _, _, e2⟩ := h.mem he
  rw [e2]
  exact ks_len _ _
theorem RL.ll {L : List En} {S : FS} (h : RL L S) : L.length ≤ 48 := by rw [h.len]; exact ord_len48 _
theorem atR_no {S : FS} {pid fd : Int} (h : nm S pid fd = 0) : atR S pid fd = -1 := by unfold atR; rw [if_pos h]
theorem atR_yes {S : FS} {pid fd : Int} (h : nm S pid fd ≠ 0) : ∃ i : Nat, atR S pid fd = (i : Int) ∧ (ord S.t)[i]? = some (nm S pid fd) ∧ i < 48 := by
  have hm := mem_nm h
  have hlt := List.idxOf_lt_length_of_mem hm
  have hl := ord_len48 S.t
  refine ⟨(ord S.t).idxOf (nm S pid fd), by unfold atR; rw [if_neg h], ?_, by omega⟩
  rw [List.getElem?_eq_getElem hlt]
  simp
theorem ra_at (B c : Nat) (v : Value) (L : List En) (S : FS) (pid fd : Int) (w : World) (h : RIs w B c v L) (hL : RL L S) :
    Calls Try.prog 42 #[.pointer (some ⟨c, 0, none⟩), .int .i64 pid, .int .i64 fd] w fun e w' => e = .returned (.int .i64 (atR S pid fd)) ∧ w' = w := by
  have h1 := rat_at B c v L pid fd w h (by have := hL.ll; omega) (fun e he => by have := hL.dl e he; omega)
  rwa [hL.at] at h1
theorem rfree_at (B c : Nat) (v : Value) (L : List En) (S : FS) (m : Nat) (w : World) (h : RIs w B c v L) (hL : RL L S) (hm : m < 8) :
    Calls Try.prog 39 #[.pointer (some ⟨c, 0, none⟩), .int .i64 ((m : Int) + 1)] w fun e w' => e = .returned (.int .i64 (fdOf S m)) ∧ w' = w := by
  have hA := fun fd => ra_at B c v L S ((m : Int) + 1) fd w h hL
  clear h hL
  have HNm : Hid (∀ k : Nat, k < 6 → nm S ((m : Int) + 1) k = S.t (m * 6 + k)) := fun k hk => nm_of hm hk
  generalize hpp : (m : Int) + 1 = pp at *
  go_enter Try.func39, Try.ntmps39
  go_wp2
  go_loopw [5] (fun s wr => ∃ (k : Nat), k ≤ 6 ∧ s = .int .i64 k ∧ Hid (∀ i, i < k → S.t (m * 6 + i) ≠ 0) ∧ wr = w) (fun s _ => 6 - (intOf s).toNat)
  case atStart => exact ⟨0, by omega, rfl, (show Hid _ from fun i hi => absurd hi (Nat.not_lt_zero _)), rfl⟩
  case round =>
    obtain ⟨k, hk, rfl, HN, hw⟩ := hrel
    subst hw
    by_cases hlt : k < 6
    · have hki : (k : Int) < 6 := by omega
      have hAk := hA k
      by_cases h0 : S.t (m * 6 + k) = 0
      · have HF : Hid (fdOf S m = (k : Int)) := low_yes hlt (by simpa using h0) (fun j hj => by simpa using HN.out j hj)
        rw [atR_no (by rw [HNm.out k hlt]; exact h0)] at hAk
        clear h0 hA
        go_wp2_with (go_at_call 42; refine hAk.mono ?_; rintro e w1 ⟨rfl, hw⟩; rw [hw]; clear hw w1)
        go_ret
        exact ⟨by rw [HF.out]; rfl, rfl⟩
      · obtain ⟨i, hi, -, hi2⟩ := atR_yes (S := S) (pid := pp) (fd := k) (by rw [HNm.out k hlt]; exact h0)
        rw [hi] at hAk
        have HN2 : Hid (∀ i, i < k + 1 → S.t (m * 6 + i) ≠ 0) := fun j hj => by
          rcases Nat.lt_or_ge j k with q1 | q1
          · exact HN.out j q1
          · have : j = k := by omega
            rw [this]
            exact h0
        have hin : decide ((i : Int) < 0) = false := decide_eq_false (by omega)
        clear h0 hi HN
        go_wp2_with (go_at_call 42; refine hAk.mono ?_; rintro e w1 ⟨rfl, hw⟩; rw [hw]; clear hw w1)
        go_roundw
        case rel => exact ⟨k + 1, by omega, by go_num, HN2, by first | rfl | trivial⟩
        case measure => simp [intOf]; omega
    · have HF : Hid (fdOf S m = -1) := low_no (fun j hj => by simpa using HN.out j (by omega))
      obtain rfl : k = 6 := by omega
      clear HN
      go_wp2
      go_ret
      exact ⟨by rw [HF.out]; rfl, rfl⟩
theorem rleft_at (B c : Nat) (v : Value) (L : List En) (S : FS) (n : Int) (w : World) (h : RIs w B c v L) (hL : RL L S) :
    Calls Try.prog 27 #[.pointer (some ⟨c, 0, none⟩), .int .i64 n] w fun e w' => e = .returned (.int .i64 (leftA S n)) ∧ w' = w := by
  have hA := fun fd => ra_at B c v L S n fd w h hL
  have hP := fun V => rpid_at n V
  clear h hL
  cases hp : isP n with
  | false =>
    have HE : Hid (leftA S n = 0) := by show _ = _; unfold leftA; rw [hp]; rfl
    rw [hp] at hP
    clear hA hp
    go_enter Try.func27, Try.ntmps27
    go_wp2
    go_loopw [5, 6] (fun t s wr => t = .int .i64 0 ∧ s = .int .i64 0 ∧ wr = w) (fun _ _ _ => 0)
    case atStart => exact ⟨rfl, rfl, rfl⟩
    case round =>
      obtain ⟨rfl, rfl, hw⟩ := hrel
      subst hw
      have hPw := hP wr
      go_wp2_with (go_at_call 38; refine hPw.mono ?_; rintro e w1 ⟨rfl, hw⟩; rw [hw]; clear hw w1)
      go_ret
      exact ⟨by rw [HE.out]; rfl, rfl⟩
  | true =>
    obtain ⟨m, rfl, hm⟩ := isP_nat hp
    have HE : Hid (leftA S ((m : Int) + 1) = (leftTo S m 6 : Nat)) := by show _ = _; unfold leftA; rw [hp, if_pos rfl, show ((m : Int) + 1 - 1).toNat = m by omega]
    have HNm : Hid (∀ k : Nat, k < 6 → nm S ((m : Int) + 1) k = S.t (m * 6 + k)) := fun k hk => nm_of hm hk
    rw [hp] at hP
    generalize hpp : (m : Int) + 1 = pp at *
    clear hp
    go_enter Try.func27, Try.ntmps27
    go_wp2
    go_loopw [5, 6] (fun t s wr => ∃ (k : Nat), k ≤ 6 ∧ s = .int .i64 k ∧ t = .int .i64 (leftTo S m k : Nat) ∧ wr = w) (fun _ s _ => 6 - (intOf s).toNat)
    case atStart => exact ⟨0, by omega, rfl, rfl, rfl⟩
    case round =>
      obtain ⟨k, hk, rfl, rfl, hw⟩ := hrel
      subst hw
      have hlk := leftTo_le S m k
      by_cases hlt : k < 6
      · have hki : (k : Int) < 6 := by omega
        have hkd : decide ((k : Int) < 6) = true := decide_eq_true hki
        have hAk := hA k
        have hPw := hP wr
        by_cases h0 : S.t (m * 6 + k) = 0
        · have HF : Hid (leftTo S m (k + 1) = leftTo S m k + 1) := by show _ = _; rw [leftTo_succ, if_pos h0]
          rw [atR_no (by rw [HNm.out k hlt]; exact h0)] at hAk
          generalize leftTo S m k = lk at *
          clear h0 hA hP
          go_wp2_with (first
            | (go_at_call 38; refine hPw.mono ?_; rintro e w1 ⟨rfl, hw⟩; rw [hw]; clear hw w1)
            | (go_at_call 42; refine hAk.mono ?_; rintro e w1 ⟨rfl, hw⟩; rw [hw]; clear hw w1))
          go_roundw
          case rel => exact ⟨k + 1, by omega, by go_num, by rw [HF.out]; go_num, by first | rfl | trivial⟩
          case measure => simp [intOf]; omega
        · obtain ⟨i, hi, -, hi2⟩ := atR_yes (S := S) (pid := pp) (fd := k) (by rw [HNm.out k hlt]; exact h0)
          rw [hi] at hAk
          have HF : Hid (leftTo S m (k + 1) = leftTo S m k) := by show _ = _; rw [leftTo_succ, if_neg h0]
          have hin : decide ((i : Int) < 0) = false := decide_eq_false (by omega)
          generalize leftTo S m k = lk at *
          clear h0 hi hA hP
          go_wp2_with (first
            | (go_at_call 38; refine hPw.mono ?_; rintro e w1 ⟨rfl, hw⟩; rw [hw]; clear hw w1)
            | (go_at_call 42; refine hAk.mono ?_; rintro e w1 ⟨rfl, hw⟩; rw [hw]; clear hw w1))
          go_roundw
          case rel => exact ⟨k + 1, by omega, by go_num, by rw [HF.out], by first | rfl | trivial⟩
          case measure => simp [intOf]; omega
      · obtain rfl : k = 6 := by omega
        clear hA hP
        go_wp2
        go_ret
        exact ⟨by rw [HE.out]; rfl, rfl⟩
end Go.Proofs.Ytkdbmfckfbmbiaa
