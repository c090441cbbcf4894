/- The reference of package fds: Dup, Fork. -/
import Derived.Test.YtkdbmfckfbmbiaaRfJ18
namespace Go.Proofs.Ytkdbmfckfbmbiaa
open Go.RowKit
set_option linter.unusedVariables false

theorem key_p {m j : Nat} (hj : j < 6) : (((m * 6 + j) / 6 + 1 : Nat) : Int) = (m : Int) + 1 ∧ (((m * 6 + j) % 6 : Nat) : Int) = (j : Int) := by
  constructor <;> omega
/-- What name leaves, for a state. -/
theorem rnames_at (B c : Nat) (v : Value) (L : List En) (S : FS) (i q m j : Nat) (w : World) (h : RIs w B c v L) (hL : RL L S) (hI : Inv S) (hBw : B ≤ w.heap.size) (hq : (ord S.t)[i]? = some q) (hm : m < 8) (hj : j < 6) (h0 : S.t (m * 6 + j) = 0) :
    Calls Try.prog 43 #[.pointer (some ⟨c, 0, none⟩), .int .i64 i, .int .i64 ((m : Int) + 1), .int .i64 (j : Int)] w fun e' w' => e' = .returned (.tuple #[]) ∧ (∃ v' L', RIs w' B c v' L' ∧ RL L' ((S.setT (m * 6 + j) q).addR (q - 1) 1)) ∧ RU B w w' := by
  obtain ⟨e, he⟩ := hL.some hq
  obtain ⟨e1, e2⟩ := hL.get he hq
  have hq0 := ((mem_ord _ _).1 (List.mem_of_getElem? hq)).1
  have hn := rname_at B c v L i (m * 6 + j) e ((m : Int) + 1) j w h hBw he hL.ll hL.dl (by rw [e2]; exact ks_up _ _) (by rw [e2, mem_ks]; rintro ⟨_, r⟩; omega) (key_p hj).1 (key_p hj).2
  refine hn.mono ?_
  rintro e' w' ⟨a1, ⟨v', a3, c3, hR⟩, hu⟩
  exact ⟨a1, ⟨v', _, hR, name_ref hL hI he hq (by omega) h0 a3 c3⟩, hu⟩
theorem rdup_at (B c : Nat) (v : Value) (L : List En) (S : FS) (n k : Int) (w : World) (h : RIs w B c v L) (hL : RL L S) (hI : Inv S) (hBw : B ≤ w.heap.size) :
    Calls Try.prog 13 #[.pointer (some ⟨c, 0, none⟩), .int .i64 n, .int .i64 k] w fun e w' => e = .returned (.tuple #[.int .i64 (dupA S n k), .int .i64 (dupE S n k)]) ∧ (∃ v' L', RIs w' B c v' L' ∧ RL L' (dupT S n k)) ∧ RU B w w' := by
  have hA := ra_at B c v L S n k w h hL
  have HH : Hid (RIs w B c v L) := h
  have HL : Hid (RL L S) := hL
  by_cases hn : nm S n k = 0
  · have HE : Hid (dupE S n k = 9) := by show _ = _; unfold dupE; rw [if_pos hn]
    have HO : dupOk S n k = false := by unfold dupOk; rw [hn]; rfl
    have HA : Hid (dupA S n k = 0) := by show _ = _; unfold dupA; rw [HO]; rfl
    have HT : Hid (dupT S n k = S) := by show _ = _; unfold dupT; rw [HO]; rfl
    rw [atR_no hn] at hA
    clear h hn hL HO hI
    go_enter Try.func13, Try.ntmps13
    go_wp2_with (go_at_call 42; refine hA.mono ?_; rintro e w1 ⟨rfl, hw⟩; rw [hw]; clear hw w1)
    go_ret2
    exact ⟨by rw [HE.out, HA.out]; rfl, ⟨_, _, HH.out, by rw [HT.out]; exact HL.out⟩, RU.refl _ _⟩
  · obtain ⟨i, hi, hq, hi2⟩ := atR_yes hn
    rw [hi] at hA
    have hin : decide ((i : Int) < 0) = false := decide_eq_false (by omega)
    obtain ⟨m, j, rfl, rfl, hm, hj, h2, h3⟩ := nm_yes hn
    have hF := rfree_at B c v L S m w h hL hm
    have hpm : ((m : Int) + 1 - 1).toNat = m := by omega
    rcases low_spec (fun i => S.t (m * 6 + i) == 0) 6 with ⟨f, hf, g1, _, g3⟩ | ⟨_, g3⟩
    · have hfd : fdOf S m = (f : Int) := g3
      have hf0 : S.t (m * 6 + f) = 0 := by simpa using g1
      have hNm := rnames_at B c v L S i _ m f w h hL hI hBw hq hm hf hf0
      have HO : dupOk S ((m : Int) + 1) j = true := by unfold dupOk; rw [hpm, hfd]; simp [hn]
      have HE : Hid (dupE S ((m : Int) + 1) j = 0) := by show _ = _; unfold dupE; rw [if_neg hn, hpm, hfd, if_pos (by omega)]
      have HA : Hid (dupA S ((m : Int) + 1) j = f) := by show _ = _; unfold dupA; rw [HO, if_pos rfl, hpm, hfd]
      have HT : Hid (dupT S ((m : Int) + 1) j = (S.setT (m * 6 + f) (nm S ((m : Int) + 1) j)).addR (nm S ((m : Int) + 1) j - 1) 1) := by show _ = _; unfold dupT; rw [HO, if_pos rfl, hpm, hfd, key_of]
      have gf : decide ((f : Int) < 0) = false := decide_eq_false (by omega)
      rw [hfd] at hF
      generalize (m : Int) + 1 = pp at *
      clear h hn hL HO hI g1 g3 hfd hf0 hpm h2 h3 hi hq
      go_enter Try.func13, Try.ntmps13
      go_wp2_with (first
        | (go_at_call 42; refine hA.mono ?_; rintro e w1 ⟨rfl, hw⟩; rw [hw]; clear hw w1)
        | (go_at_call 39; refine hF.mono ?_; rintro e w1 ⟨rfl, hw⟩; rw [hw]; clear hw w1)
        | (go_at_call 43; refine hNm.mono ?_; rintro e w1 ⟨rfl, hR, hu⟩; have HR : Hid _ := hR; have HU : Hid _ := hu; clear hR hu))
      go_ret2
      exact ⟨by rw [HE.out, HA.out]; rfl, by rw [HT.out]; exact HR.out, HU.out⟩
    · have hfd : fdOf S m = -1 := g3
      have HO : dupOk S ((m : Int) + 1) j = false := by unfold dupOk; rw [hpm, hfd]; simp
      have HE : Hid (dupE S ((m : Int) + 1) j = 24) := by show _ = _; unfold dupE; rw [if_neg hn, hpm, hfd, if_neg (by omega)]
      have HA : Hid (dupA S ((m : Int) + 1) j = 0) := by show _ = _; unfold dupA; rw [HO]; rfl
      have HT : Hid (dupT S ((m : Int) + 1) j = S) := by show _ = _; unfold dupT; rw [HO]; rfl
      rw [hfd] at hF
      generalize (m : Int) + 1 = pp at *
      clear h hn hL HO hI g3 hfd hpm h2 h3 hi hq
      go_enter Try.func13, Try.ntmps13
      go_wp2_with (first
        | (go_at_call 42; refine hA.mono ?_; rintro e w1 ⟨rfl, hw⟩; rw [hw]; clear hw w1)
        | (go_at_call 39; refine hF.mono ?_; rintro e w1 ⟨rfl, hw⟩; rw [hw]; clear hw w1))
      go_ret2
      exact ⟨by rw [HE.out, HA.out]; rfl, ⟨_, _, HH.out, by rw [HT.out]; exact HL.out⟩, RU.refl _ _⟩

theorem fork_self {S : FS} (a : Nat) : ∀ k, forkTo S a a k = S
  | 0 => rfl
  | k + 1 => by
    show forkStep (forkTo S a a k) a a k = S
    rw [fork_self a k]
    unfold forkStep
    rw [if_neg (by rintro ⟨h1, h2⟩; exact h2 h1)]
set_option maxHeartbeats 2000000 in
theorem rfork_at (B c : Nat) (v : Value) (L : List En) (S : FS) (n d : Int) (w : World) (h : RIs w B c v L) (hL : RL L S) (hI : Inv S) (hBw : B ≤ w.heap.size) :
    Calls Try.prog 21 #[.pointer (some ⟨c, 0, none⟩), .int .i64 n, .int .i64 d] w fun e w' => e = .returned (.tuple #[]) ∧ (∃ v' L', RIs w' B c v' L' ∧ RL L' (forkT S n d)) ∧ RU B w w' := by
  have hP := fun V => rpid_at n V
  have hQ := fun V => rpid_at d V
  have HH : Hid (RIs w B c v L) := h
  have HL : Hid (RL L S) := hL
  have HI : Hid (Inv S) := hI
  clear h hL hI
  by_cases hbad : isP n = true ∧ isP d = true ∧ n ≠ d
  · obtain ⟨hp, hq, hne⟩ := hbad
    rw [hp] at hP
    rw [hq] at hQ
    obtain ⟨a, rfl, ha⟩ := isP_nat hp
    obtain ⟨b, rfl, hb⟩ := isP_nat hq
    have HT : Hid (forkT S ((a : Int) + 1) ((b : Int) + 1) = forkTo S a b 6) := forkT_yes ha hb
    have hpq : (((a : Int) + 1) == ((b : Int) + 1)) = false := beq_false_of_ne hne
    have HNa : Hid (∀ (T : FS) (k : Nat), k < 6 → nm T ((a : Int) + 1) k = T.t (a * 6 + k)) := fun T k hk => nm_of ha hk
    have HNb : Hid (∀ (T : FS) (k : Nat), k < 6 → nm T ((b : Int) + 1) k = T.t (b * 6 + k)) := fun T k hk => nm_of hb hk
    have hA := fun k v L T w h hL => ra_at B c v L T ((a : Int) + 1) k w h hL
    have hB := fun k v L T w h hL => ra_at B c v L T ((b : Int) + 1) k w h hL
    have hNm := fun v L T i q k w h hL hI hBw hq hk h0 => rnames_at B c v L T i q b k w h hL hI hBw hq hb hk h0
    generalize (a : Int) + 1 = pp at *
    generalize (b : Int) + 1 = dd at *
    have HA : Hid _ := hA
    have HB : Hid _ := hB
    have HNm : Hid _ := hNm
    have HP : Hid _ := hP
    have HQ : Hid _ := hQ
    clear hp hq hne hA hB hNm hP hQ
    go_enter Try.func21, Try.ntmps21
    go_wp2
    go_loopw [6] (fun s wr => ∃ (k : Nat), k ≤ 6 ∧ s = .int .i64 k ∧ Hid (∃ v' L', RIs wr B c v' L' ∧ RL L' (forkTo S a b k)) ∧ RU B w wr) (fun s _ => 6 - (intOf s).toNat)
    case atStart => exact ⟨0, by omega, rfl, (show Hid _ from ⟨_, _, HH.out, HL.out⟩), RU.refl _ _⟩
    case round =>
      obtain ⟨k, hk, rfl, HR, hU⟩ := hrel
      have HU : Hid (RU B w wr) := hU
      have hPw := HP.out wr
      have hQw := HQ.out wr
      by_cases hlt : k < 6
      · have hkd : decide ((k : Int) < 6) = true := decide_eq_true (by omega)
        obtain ⟨v', L', hR, hRL⟩ := HR.out
        have hIk : Inv (forkTo S a b k) := HI.out.forkTo ha hb k (by omega)
        have hAk := HA.out k v' L' _ wr hR hRL
        have hBk := HB.out k v' L' _ wr hR hRL
        have na := HNa.out (forkTo S a b k) k hlt
        have nb := HNb.out (forkTo S a b k) k hlt
        by_cases h1 : (forkTo S a b k).t (a * 6 + k) = 0
        · have HF : Hid (forkTo S a b (k + 1) = forkTo S a b k) := by
            show forkStep (forkTo S a b k) a b k = _
            unfold forkStep
            rw [if_neg (by rintro ⟨_, h2⟩; exact h2 h1)]
          rw [atR_no (by rw [na]; exact h1)] at hAk
          clear hBk h1 na nb hR hRL hIk hU
          go_wp2_with fail
          refine hPw.mono ?_
          rintro e w1 ⟨rfl, hw⟩
          rw [hw]
          clear hw w1
          go_wp2_with fail
          refine hQw.mono ?_
          rintro e w1 ⟨rfl, hw⟩
          rw [hw]
          clear hw w1
          go_wp2_with fail
          refine hAk.mono ?_
          rintro e w1 ⟨rfl, hw⟩
          rw [hw]
          clear hw w1
          go_wp2
          go_roundw
          case rel => exact ⟨k + 1, by omega, by go_num, by rw [HF.out]; exact HR, HU.out⟩
          case measure => simp [intOf]; omega
        · obtain ⟨i, hi, hiq, hi2⟩ := atR_yes (S := forkTo S a b k) (pid := pp) (fd := k) (by rw [na]; exact h1)
          rw [hi] at hAk
          rw [na] at hiq
          have gi : decide ((i : Int) ≥ 0) = true := decide_eq_true (by omega)
          have gi2 : decide (0 ≤ (i : Int)) = true := decide_eq_true (by omega)
          by_cases h2 : (forkTo S a b k).t (b * 6 + k) = 0
          · have HF : Hid (forkTo S a b (k + 1) = ((forkTo S a b k).setT (b * 6 + k) ((forkTo S a b k).t (a * 6 + k))).addR ((forkTo S a b k).t (a * 6 + k) - 1) 1) := by
              show forkStep (forkTo S a b k) a b k = _
              unfold forkStep
              rw [if_pos ⟨h2, h1⟩]
            have hN := HNm.out v' L' _ i _ k wr hR hRL hIk (by have := hU.size; omega) hiq hlt h2
            rw [← HF.out] at hN
            rw [atR_no (by rw [nb]; exact h2)] at hBk
            clear h1 h2 na nb hR hRL hIk hU hi hiq
            go_wp2_with fail
            refine hPw.mono ?_
            rintro e w1 ⟨rfl, hw⟩
            rw [hw]
            clear hw w1
            go_wp2_with fail
            refine hQw.mono ?_
            rintro e w1 ⟨rfl, hw⟩
            rw [hw]
            clear hw w1
            go_wp2_with fail
            refine hAk.mono ?_
            rintro e w1 ⟨rfl, hw⟩
            rw [hw]
            clear hw w1
            go_wp2_with fail
            refine hBk.mono ?_
            rintro e w1 ⟨rfl, hw⟩
            rw [hw]
            clear hw w1
            go_wp2_with fail
            refine hN.mono ?_
            rintro e w1 ⟨rfl, hR, hu⟩
            have HR1 : Hid _ := hR
            have HU1 : Hid _ := hu
            clear hR hu
            go_wp2
            go_roundw
            case rel => exact ⟨k + 1, by omega, by go_num, HR1, HU.out.trans HU1.out⟩
            case measure => simp [intOf]; omega
          · have HF : Hid (forkTo S a b (k + 1) = forkTo S a b k) := by
              show forkStep (forkTo S a b k) a b k = _
              unfold forkStep
              rw [if_neg (by rintro ⟨h3, _⟩; exact h2 h3)]
            obtain ⟨i', hi', -, -⟩ := atR_yes (S := forkTo S a b k) (pid := dd) (fd := k) (by rw [nb]; exact h2)
            rw [hi'] at hBk
            have gj : decide ((i' : Int) < 0) = false := decide_eq_false (by omega)
            clear h1 h2 na nb hR hRL hIk hU hi hiq hi'
            go_wp2_with fail
            refine hPw.mono ?_
            rintro e w1 ⟨rfl, hw⟩
            rw [hw]
            clear hw w1
            go_wp2_with fail
            refine hQw.mono ?_
            rintro e w1 ⟨rfl, hw⟩
            rw [hw]
            clear hw w1
            go_wp2_with fail
            refine hAk.mono ?_
            rintro e w1 ⟨rfl, hw⟩
            rw [hw]
            clear hw w1
            go_wp2_with fail
            refine hBk.mono ?_
            rintro e w1 ⟨rfl, hw⟩
            rw [hw]
            clear hw w1
            go_wp2
            go_roundw
            case rel => exact ⟨k + 1, by omega, by go_num, by rw [HF.out]; exact HR, HU.out⟩
            case measure => simp [intOf]; omega
      · obtain rfl : k = 6 := by omega
        clear hU
        go_wp2
        go_end0
        exact ⟨rfl, by rw [HT.out]; exact HR.out, HU.out⟩
  · have HT : Hid (forkT S n d = S) := by
      show _ = _
      unfold forkT
      cases hp : isP n with
      | false => rfl
      | true =>
        cases hq : isP d with
        | false => rfl
        | true =>
          have e : n = d := Classical.not_not.1 (fun r => hbad ⟨hp, hq, r⟩)
          subst e
          exact fork_self _ 6
    have HEq : Hid (isP n = true → isP d = true → n = d) := fun hp hq => Classical.not_not.1 (fun r => hbad ⟨hp, hq, r⟩)
    clear hbad
    go_enter Try.func21, Try.ntmps21
    go_wp2
    go_loopw [6] (fun s wr => s = .int .i64 0 ∧ wr = w) (fun _ _ => 0)
    case atStart => exact ⟨rfl, rfl⟩
    case round =>
      obtain ⟨rfl, hw⟩ := hrel
      subst hw
      have hPw := hP wr
      have hQw := hQ wr
      clear hP hQ
      cases hp : isP n with
      | false =>
        rw [hp] at hPw
        clear hQw hp
        go_wp2_with (go_at_call 38; refine hPw.mono ?_; rintro e w1 ⟨rfl, hw⟩; rw [hw]; clear hw w1)
        go_end0
        exact ⟨rfl, ⟨_, _, HH.out, by rw [HT.out]; exact HL.out⟩, RU.refl _ _⟩
      | true =>
        rw [hp] at hPw
        cases hq : isP d with
        | false =>
          rw [hq] at hQw
          clear hp hq HEq
          go_wp2_with fail
          refine hPw.mono ?_
          rintro e w1 ⟨rfl, hw⟩
          rw [hw]
          clear hw w1
          go_wp2_with fail
          refine hQw.mono ?_
          rintro e w1 ⟨rfl, hw⟩
          rw [hw]
          clear hw w1
          go_wp2
          go_end0
          exact ⟨rfl, ⟨_, _, HH.out, by rw [HT.out]; exact HL.out⟩, RU.refl _ _⟩
        | true =>
          rw [hq] at hQw
          have hnd : (n == d) = true := by rw [HEq.out hp hq]; simp
          clear hp hq HEq
          go_wp2_with fail
          refine hPw.mono ?_
          rintro e w1 ⟨rfl, hw⟩
          rw [hw]
          clear hw w1
          go_wp2_with fail
          refine hQw.mono ?_
          rintro e w1 ⟨rfl, hw⟩
          rw [hw]
          clear hw w1
          go_wp2
          go_end0
          exact ⟨rfl, ⟨_, _, HH.out, by rw [HT.out]; exact HL.out⟩, RU.refl _ _⟩
end Go.Proofs.Ytkdbmfckfbmbiaa
