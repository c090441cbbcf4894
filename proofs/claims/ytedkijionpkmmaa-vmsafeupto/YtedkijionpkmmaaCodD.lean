/- The contracts of One, of package code and of its reference, and of what they call. -/
import Derived.Test.YtedkijionpkmmaaCodS
import Derived.Lib.MinMax
namespace Go.Proofs.Ytedkijionpkmmaa
open Go.RowKit
set_option linter.unusedVariables false

theorem idx_at (l : List UInt8) (j : Nat) (h : j < l.length) (w : World) : (Instr.index 9 (tx l) (.int .i64 j)).run Try.prog w = .ok (.int .u8 ((byteAt l j).toNat : Int)) w := by
  rw [run_index_string w _ _ _ _ Try.underlying9]
  rw [dif_pos (by simp [ByteArray.size]; omega)]
  have h1 : (ByteArray.mk l.toArray)[((j : Int)).toNat]'(by simp [ByteArray.size]; omega) = byteAt l j := by
    show l.toArray[((j : Int)).toNat]'_ = _
    simp [byteAt, h]
  rw [h1]
theorem uwrap_nat (n : Nat) (h : n < 18446744073709551616) : IntKind.u64.wrap (n : Int) = n := by
  simp [IntKind.wrap, IntKind.bits, IntKind.signed]
  omega
theorem or_eq (n b : Nat) (j : Nat) (hj : j ≤ 7) (h1 : n < 2 ^ (8 * j)) (hb : b < 256) : bits .or .u64 (n : Int) ((b * 2 ^ (8 * j) : Nat) : Int) = ((n + b * 2 ^ (8 * j) : Nat) : Int) := by
  have hp : 2 ^ (8 * j) ≤ 2 ^ 56 := Nat.pow_le_pow_right (by decide) (by omega)
  have hp2 : b * 2 ^ (8 * j) ≤ 255 * 2 ^ (8 * j) := Nat.mul_le_mul_right _ (by omega)
  have hor : b * 2 ^ (8 * j) ||| n = b * 2 ^ (8 * j) + n := by
    have := Nat.shiftLeft_add_eq_or_of_lt h1 b
    rw [Nat.shiftLeft_eq] at this
    exact this.symm
  show IntKind.u64.wrap (((BitVec.ofInt 64 (n : Int) ||| BitVec.ofInt 64 ((b * 2 ^ (8 * j) : Nat) : Int)).toNat : Nat) : Int) = _
  rw [BitVec.toNat_or, BitVec.ofInt_natCast, BitVec.ofInt_natCast, BitVec.toNat_ofNat, BitVec.toNat_ofNat]
  rw [Nat.mod_eq_of_lt (by omega), Nat.mod_eq_of_lt (by omega), Nat.or_comm, hor, uwrap_nat _ (by omega), Nat.add_comm]
theorem take_byte (l : List UInt8) (j : Nat) (h : j < l.length) : l.take (j + 1) = l.take j ++ [byteAt l j] := by
  rw [List.take_add_one, List.getElem?_eq_getElem h, byteAt, List.getD_eq_getElem?_getD, List.getElem?_eq_getElem h]
  rfl

theorem pow256n (k : Nat) : 256 ^ k = 2 ^ (8 * k) := by rw [Nat.pow_mul]
theorem leN_nat (l : List UInt8) : ∃ n : Nat, leN l = n ∧ n < 2 ^ (8 * l.length) := by
  have h := leN_bound l
  have h2 : (256 : Int) ^ l.length = ((256 ^ l.length : Nat) : Int) := by simp
  rw [h2, pow256n] at h
  exact ⟨(leN l).toNat, by omega, by omega⟩
theorem or_step (l : List UInt8) (j : Nat) (hj : j ≤ 7) (h : j < l.length) : bits .or .u64 (leN (l.take j)) (IntKind.u64.wrap (IntKind.u64.wrap ((byteAt l j).toNat : Int) * 2 ^ (8 * j))) = leN (l.take (j + 1)) := by
  have hb := (byteAt l j).toNat_lt
  obtain ⟨n, hn, hlt⟩ := leN_nat (l.take j)
  have hlen : (l.take j).length = j := by simp; omega
  rw [hlen] at hlt
  have hp : 2 ^ (8 * j) ≤ 2 ^ 56 := Nat.pow_le_pow_right (by decide) (by omega)
  have hp2 : (byteAt l j).toNat * 2 ^ (8 * j) ≤ 255 * 2 ^ (8 * j) := Nat.mul_le_mul_right _ (by omega)
  have hc : ((byteAt l j).toNat : Int) * 2 ^ (8 * j) = (((byteAt l j).toNat * 2 ^ (8 * j) : Nat) : Int) := by simp
  rw [take_byte l j h, leN_snoc, hlen, pow256, uwrap_nat _ (by omega), hc, uwrap_nat _ (by omega), hn, or_eq n _ j hj hlt (by omega)]
  simp

theorem number_at (l : List UInt8) (hl : l.length ≤ 8) (w : World) :
    Calls Try.prog 67 #[tx l] w fun e w' => e = .returned (.int .u64 (leN l)) ∧ w' = w := by
  have hsz : (ByteArray.mk l.toArray).size = l.length := by simp [ByteArray.size]
  go_enter Try.func67, Try.ntmps67
  go_wp2
  go_loopw [3, 7] (fun n s wr => ∃ (j : Nat), j ≤ l.length ∧ s = .int .i64 j ∧ n = .int .u64 (leN (l.take j)) ∧ wr = w) (fun _ s _ => l.length - (intOf s).toNat)
  case atStart => exact ⟨0, by omega, rfl, rfl, rfl⟩
  case round =>
    obtain ⟨j, hj, rfl, rfl, rfl⟩ := hrel
    by_cases hlt : j < l.length
    · have hix := idx_at l j hlt
      have hjw := wrap8 j (by omega)
      go_wp2
      go_roundw
      case rel =>
        refine ⟨j + 1, by omega, by go_num, ?_, trivial⟩
        rw [or_step l j (by omega) hlt]
      case measure => simp [intOf]; omega
    · obtain rfl : j = l.length := by omega
      go_wp2
      go_ret
      exact ⟨by rw [List.take_length]; rfl, rfl⟩

theorem cut_to (l : List UInt8) (k : Nat) (h : k ≤ l.length) (w : World) : (Instr.slice 9 (tx l) none (some (.int .i64 k)) none).run Try.prog w = .ok (tx (l.take k)) w := by
  rw [run_slice_string_to_if w _ _ _ _ Try.underlying9, if_pos (by simp [ByteArray.size]; omega), ByteArray.extract_mk]
  simp
theorem cut_from (l : List UInt8) (k : Nat) (h : k + 1 ≤ l.length) (w : World) : (Instr.slice 9 (tx l) (some (.int .i64 ((k : Int) + 1))) none none).run Try.prog w = .ok (tx (l.drop (k + 1))) w := by
  have e : (k : Int) + 1 = ((k + 1 : Nat) : Int) := by omega
  rw [e, run_slice_string_from_if w _ _ _ _ Try.underlying9, if_pos (by simp [ByteArray.size]; omega), ByteArray.extract_mk]
  have : (ByteArray.mk l.toArray).size = l.length := by simp [ByteArray.size]
  rw [this, List.take_of_length_le (by simp)]
  simp
theorem isOp_byte (b : UInt8) : (decide (0 ≤ (b.toNat : Int)) && decide ((b.toNat : Int) ≤ 23)) = decide (b.toNat ≤ 23) := by
  have h : decide (0 ≤ (b.toNat : Int)) = true := by simp
  rw [h, Bool.true_and]
  apply decide_eq_decide.2
  omega
theorem ibyte (b : UInt8) : IntKind.i64.wrap (b.toNat : Int) = b.toNat := by
  have := b.toNat_lt
  simp [IntKind.wrap, IntKind.bits, IntKind.signed]
  omega

set_option maxHeartbeats 1000000 in
theorem one_at (l : List UInt8) (a : Int) (hl : l.length ≤ 1000000000) (ha : -9223372036854775808 ≤ a ∧ a ≤ 9223372036854775807) (w : World) :
    Calls Try.prog 34 #[tx l, .int .i64 a] w fun e w' => e = .returned (.tuple #[.agg (insRow (one l a).1), .int .i64 (one l a).2]) ∧ Below w.heap.size w w' := by
  have hsz : (ByteArray.mk l.toArray).size = l.length := by simp [ByteArray.size]
  by_cases hneg : a < 0
  · have hv : Hid (one l a = (noIns, 101)) := one_out l a (Or.inl hneg)
    go_enter Try.func34, Try.ntmps34
    go_wp2
    (try simp only [Exit.inBlock, Exit.then])
    refine bodyPost_ret (v := .tuple #[.agg #[.int .i64 0, .int .u64 0, .int .i64 0, .int .i64 0], .int .i64 101]) ?_ rfl ⟨by rw [hv.out]; rfl, ?_⟩
    · rw [results_cell_tmp rfl]
      go_simp
    · (repeat' (first | exact Below.refl _ _ | refine Below.setCell ?_ (by simp) _ | refine Below.alloc ?_ (by simp) _))
  by_cases hbig : (l.length : Int) ≤ a
  · have hv : Hid (one l a = (noIns, 101)) := one_out l a (Or.inr hbig)
    go_enter Try.func34, Try.ntmps34
    go_wp2
    (try simp only [Exit.inBlock, Exit.then])
    refine bodyPost_ret (v := .tuple #[.agg #[.int .i64 0, .int .u64 0, .int .i64 0, .int .i64 0], .int .i64 101]) ?_ rfl ⟨by rw [hv.out]; rfl, ?_⟩
    · rw [results_cell_tmp rfl]
      go_simp
    · (repeat' (first | exact Below.refl _ _ | refine Below.setCell ?_ (by simp) _ | refine Below.alloc ?_ (by simp) _))
  obtain ⟨k, rfl⟩ : ∃ k : Nat, a = k := ⟨a.toNat, by omega⟩
  have hk : k < l.length := by omega
  have H1 : Hid _ := one_in l k hk
  have hix := idx_at l k hk
  have hib := ibyte (byteAt l k)
  have hcf := cut_from l k (by omega)
  have hdl : (l.drop (k + 1)).length = l.length - (k + 1) := by simp
  have hop := isOp_at (byteAt l k).toNat
  rw [isOp_byte] at hop
  have hwi := width_at (byteAt l k).toNat
  have HI : Hid (isIns l k = (decide ((byteAt l k).toNat ≤ 23) && decide (k + 1 + wAt l k ≤ l.length))) := by exact rfl
  have HW : Hid (wAt l k = opw (byteAt l k).toNat) := by exact rfl
  have HN : Hid (insAt l k = ⟨(byteAt l k).toNat, leN ((l.drop (k + 1)).take (wAt l k)), k, 1 + wAt l k⟩) := by exact rfl
  have hw8 : wAt l k ≤ 8 := opw_le _
  rw [← HW.out] at hwi
  generalize hR : one l k = R at *
  clear hR
  have hct : ∀ w, wAt l k ≤ l.length - (k + 1) → (Instr.slice 9 (tx (l.drop (k + 1))) none (some (.int .i64 (wAt l k))) none).run Try.prog w = .ok (tx ((l.drop (k + 1)).take (wAt l k))) w := fun w h => cut_to _ _ (by simp; omega) w
  have hnu := number_at ((l.drop (k + 1)).take (wAt l k)) (by simp; omega)
  generalize hD : l.drop (k + 1) = D at *
  have HD : Hid _ := hD
  clear hD
  generalize hV : wAt l k = v at *
  clear hV
  generalize hB : byteAt l k = b at *
  clear hB
  generalize hX : insAt l k = X at *
  clear hX
  generalize hY : isIns l k = Y at *
  clear hY
  have hsd : (ByteArray.mk D.toArray).size = D.length := by simp [ByteArray.size]
  rw [hdl] at hsd
  cases h23 : decide (b.toNat ≤ 23) with
  | false =>
    have hv : R = (noIns, 8) := by rw [H1.out, HI.out, h23]; rfl
    subst hv
    rw [h23] at hop
    clear h23
    go_enter Try.func34, Try.ntmps34
    go_wp2_with fail
    refine (hop _).mono ?_
    rintro e w1 ⟨rfl, rfl⟩
    go_wp2
    (try simp only [Exit.inBlock, Exit.then])
    refine bodyPost_ret (v := .tuple #[.agg #[.int .i64 0, .int .u64 0, .int .i64 0, .int .i64 0], .int .i64 8]) ?_ rfl ⟨rfl, ?_⟩
    · rw [results_cell_tmp rfl]
      go_simp
    · (repeat' (first | exact Below.refl _ _ | refine Below.setCell ?_ (by simp) _ | refine Below.alloc ?_ (by simp) _))
  | true =>
    by_cases hfit : k + 1 + v ≤ l.length
    · have hv : R = (X, 0) := by rw [H1.out, HI.out, h23, decide_eq_true hfit]; rfl
      subst hv
      rw [h23] at hop
      have HX : Hid _ := HN.out
      have hc2 := fun w => hct w (by omega)
      clear h23 hct HN
      go_enter Try.func34, Try.ntmps34
      go_wp2_with fail
      refine (hop _).mono ?_
      rintro e w1 ⟨rfl, rfl⟩
      go_wp2_with fail
      refine (hwi _).mono ?_
      rintro e w1 ⟨rfl, rfl⟩
      go_wp2_with fail
      refine (hwi _).mono ?_
      rintro e w1 ⟨rfl, rfl⟩
      go_wp2_with fail
      refine (hnu _).mono ?_
      rintro e w1 ⟨rfl, rfl⟩
      go_wp2_with fail
      refine (hwi _).mono ?_
      rintro e w1 ⟨rfl, rfl⟩
      go_wp2
      (try simp only [Exit.inBlock, Exit.then])
      refine bodyPost_ret (v := .tuple #[.agg #[.int .i64 b.toNat, .int .u64 (leN (D.take v)), .int .i64 k, .int .i64 (1 + v)], .int .i64 0]) ?_ rfl ⟨by rw [HX.out]; rfl, ?_⟩
      · rw [results_cell_tmp rfl]
        go_simp
      · (repeat' (first | exact Below.refl _ _ | refine Below.setCell ?_ (by simp) _ | refine Below.alloc ?_ (by simp) _))
    · have hv : R = (noIns, 8) := by rw [H1.out, HI.out, decide_eq_false hfit, Bool.and_false]; rfl
      subst hv
      rw [h23] at hop
      clear h23 hct
      go_enter Try.func34, Try.ntmps34
      go_wp2_with fail
      refine (hop _).mono ?_
      rintro e w1 ⟨rfl, rfl⟩
      go_wp2_with fail
      refine (hwi _).mono ?_
      rintro e w1 ⟨rfl, rfl⟩
      go_wp2
      (try simp only [Exit.inBlock, Exit.then])
      refine bodyPost_ret (v := .tuple #[.agg #[.int .i64 0, .int .u64 0, .int .i64 0, .int .i64 0], .int .i64 8]) ?_ rfl ⟨rfl, ?_⟩
      · rw [results_cell_tmp rfl]
        go_simp
      · (repeat' (first | exact Below.refl _ _ | refine Below.setCell ?_ (by simp) _ | refine Below.alloc ?_ (by simp) _))
end Go.Proofs.Ytedkijionpkmmaa
