/- Package pipes: Decode. -/
import Derived.Test.YtpnmaoinnmmfdaaPpI
namespace Go.Proofs.Ytpnmaoinnmmfdaa
open Go.RowKit Go.Lib
set_option linter.unusedVariables false

theorem rd1_len {D : List Int} {m : Nat} {o : Option (List UInt8)} (h : rd1 D = some (m, o)) : m ≤ D.length ∧ ∀ l, o = some l → l.length ≤ 8 := by
  cases D with
  | nil => cases h
  | cons c t =>
    rw [rd1] at h
    by_cases h1 : 1 < c
    · rw [if_pos h1] at h; cases h
    · rw [if_neg h1] at h
      by_cases h0 : c = 0
      · rw [if_pos h0] at h
        cases h
        exact ⟨by simp, fun l e => by cases e⟩
      · rw [if_neg h0] at h
        cases hb : rdB t with
        | none => rw [hb] at h; cases h
        | some l =>
          rw [hb] at h
          cases h
          obtain ⟨h8, hl⟩ := rdB_len hb
          exact ⟨by rw [List.length_cons]; omega, fun l' e => by cases e; exact h8⟩
theorem rdK_none {S : PS} {k i : Nat} {w : List Int} (h : rd1 w = none) : rdK S (k + 1) w i = none := by
  rw [rdK, h]
theorem rdK_some {S : PS} {k i m : Nat} {w : List Int} {o : Option (List UInt8)} (h : rd1 w = some (m, o)) : rdK S (k + 1) w i = rdK (S.set i o) k (w.drop m) (i + 1) := by
  rw [rdK, h]
set_option maxRecDepth 100000 in
set_option maxHeartbeats 4000000 in
theorem decode_at (a : Option Addr) (n cap : Nat) (D : List Int) (w : World) (hr : Rd w a D) (hn : n = D.length) (hcap : n ≤ cap) (hu : U64 D) (hn9 : n ≤ 2000) :
    Calls Try.prog 17 #[.slice a n cap] w fun x w' => (decS D = none → x = .returned (.tuple #[.pointer none, .int .i64 101])) ∧ (∀ S, decS D = some S → x = .returned (.tuple #[.pointer (some ⟨w.heap.size, 0, none⟩), .int .i64 0]) ∧ PpAt w' w.heap.size S) ∧ Below w.heap.size w w' := by
  have hNew := new_at w
  have HRd : Hid (Rd w a D) := hr
  have HU : Hid (U64 D) := hu
  have HN : Hid (n = D.length) := hn
  clear hr hu hn
  go_enter Try.func17, Try.ntmps17
  go_wp2_with fail
  refine hNew.mono ?_
  rintro x w1 ⟨rfl, hA, hb1, hs1⟩
  obtain ⟨b, hb⟩ : ∃ b, b = w.heap.size := ⟨_, rfl⟩
  rw [← hb] at hA hs1 ⊢
  have HBb : Hid (b = w.heap.size) := hb
  have HA : Hid (PpAt w1 b PS.none) := hA
  have HB1 : Hid (Below w.heap.size w w1) := hb1
  clear hNew hA hb1 hs1 hb
  go_wp2
  go_loopw [0, 9] (fun s i wr => ∃ (k : Nat) (ak : Option Addr) (nk ck : Nat) (Dk : List Int) (S : PS), k ≤ 16 ∧ i = .int .i64 k ∧ .slice ak nk ck = s ∧ nk = Dk.length ∧ nk ≤ ck ∧ nk ≤ 2000 ∧ Rd w ak Dk ∧ U64 Dk ∧ decS D = rdK S (16 - k) Dk k ∧ PpAt wr b S ∧ (∀ j, k ≤ j → S j = none) ∧ Below w.heap.size w wr) (fun _ i _ => 16 - (intOf i).toNat)
  case atStart => exact ⟨0, a, n, cap, D, PS.none, by omega, rfl, rfl, HN.out, hcap, hn9, HRd.out, HU.out, rfl, HA.out, fun _ _ => rfl, HB1.out⟩
  case round =>
    clear HA HB1 HRd HU HN hcap hn9
    obtain ⟨k, ak, nk, ck, Dk, S, hk, rfl, rfl, hnk, hck, hn9, hRd, hU, hdec, hA, hno, hB⟩ := hrel
    have HB : Hid (Below w.heap.size w wr) := hB
    have HDec : Hid (decS D = rdK S (16 - k) Dk k) := hdec
    have HNo : Hid (∀ j, k ≤ j → S j = none) := hno
    have HRd : Hid (Rd w ak Dk) := hRd
    have HU : Hid (U64 Dk) := hU
    have HNk : Hid (nk = Dk.length) := hnk
    have hbs := HBb.out
    by_cases hlt : k < 16
    · have i1 : decide ((k : Int) < 16) = true := decide_eq_true (by omega)
      have hki : (k : Int) < 16 := by omega
      have hRe := read_at b k S ak nk ck Dk wr hA hlt (hno k (Nat.le_refl _)) (hRd.below (hB.mono (Nat.le_refl _))) hnk hck hU hn9
      have hbl : b < wr.heap.size := hA.lt
      rw [show 16 - k = (16 - (k + 1)) + 1 by omega] at HDec
      clear hB hdec hno hRd hU hnk hA hbs
      go_wp2_with fail
      refine hRe.mono ?_
      rintro x w2 ⟨hx1, hx2, hu2⟩
      have HB2 : Hid (Below w.heap.size w w2) := HB.out.trans (hu2.below (by have := HBb.out; omega) HB.out.size)
      cases hrd : rd1 Dk with
      | none =>
        have hx := hx1 hrd
        have HNN : Hid (decS D = none) := by show _ = _; rw [HDec.out, rdK_none hrd]
        subst hx
        clear hx1 hx2 hu2 hRe hrd HDec
        go_wp2
        go_ret2
        exact ⟨fun _ => rfl, fun T h => (by rw [HNN.out] at h; cases h), HB2.out⟩
      | some z =>
        obtain ⟨m, o⟩ := z
        obtain ⟨hx, hA2⟩ := hx2 m o hrd
        obtain ⟨hml, -⟩ := rd1_len hrd
        have HD2 : Hid (decS D = rdK (S.set k o) (16 - (k + 1)) (Dk.drop m) (k + 1)) := by show _ = _; rw [HDec.out, rdK_some hrd]
        subst hx
        rw [← HNk.out] at hml
        obtain ⟨a2, c2, hcut, hc2, hrd2⟩ := cut_wl Dk ak nk ck m HNk.out hml hck
        have HR2 : Hid (Rd w a2 (Dk.drop m)) := hrd2 w HRd.out
        have HL2 : Hid (nk - m = (Dk.drop m).length) := by show _ = _; rw [List.length_drop, ← HNk.out]
        have HA2 : Hid (PpAt w2 b (S.set k o)) := hA2
        have hn2 : nk - m ≤ 2000 := by omega
        clear hx1 hx2 hu2 hRe hrd HDec hrd2 hA2 HB
        generalize nk - m = n2 at *
        go_wp2
        go_roundw
        case rel => exact ⟨k + 1, a2, n2, c2, Dk.drop m, S.set k o, by omega, by go_num, rfl, HL2.out, hc2, hn2, HR2.out, HU.out.drop m, HD2.out, HA2.out, fun j hj => (by rw [PS.set_other _ _ _ _ (by omega)]; exact HNo.out j (by omega)), HB2.out⟩
        case measure => simp [intOf]; omega
    · have i1 : decide ((k : Int) < 16) = false := decide_eq_false (by omega)
      have HA : Hid (PpAt wr b S) := hA
      rw [show 16 - k = 0 by omega] at HDec
      by_cases h0 : Dk = []
      · have HS : Hid (decS D = some S) := by show _ = _; rw [HDec.out, rdK, if_pos h0]
        have hz : nk = 0 := by rw [hnk, h0]; rfl
        clear hB hdec hno hRd hU hnk hA hbs h0 HNk HRd HU HDec
        subst hz
        go_wp2
        go_ret2
        refine ⟨fun h => (by rw [HS.out] at h; cases h), fun T h => ?_, HB.out⟩
        rw [HS.out] at h
        cases h
        rw [← HBb.out]
        exact ⟨rfl, HA.out⟩
      · have HS : Hid (decS D = none) := by show _ = _; rw [HDec.out, rdK, if_neg h0]
        have hz : nk ≠ 0 := by
          rw [hnk]
          exact fun e => h0 (List.eq_nil_of_length_eq_zero e)
        have g2 : ((nk : Int) == 0) = false := beq_false_of_ne (by omega)
        clear hB hdec hno hRd hU hnk hA hbs h0 HNk HRd HU HDec
        go_wp2
        go_ret2
        exact ⟨fun _ => rfl, fun T h => (by rw [HS.out] at h; cases h), HB.out⟩
end Go.Proofs.Ytpnmaoinnmmfdaa
