/- The contract of the reference's One. -/
import Derived.Test.YtedkijionpkmmaaCodD
import Derived.Deep.RegionLaw
import Derived.Deep.DrawnRows
namespace Go.Proofs.Ytedkijionpkmmaa
open Go.RowKit
set_option linter.unusedVariables false

theorem idx_far (l : List UInt8) (k j : Nat) (h : k + 1 + j < l.length) (w : World) : (Instr.index 9 (tx l) (.int .i64 ((k : Int) + 1 + j))).run Try.prog w = .ok (.int .u8 ((byteAt (l.drop (k + 1)) j).toNat : Int)) w := by
  have e : (k : Int) + 1 + j = ((k + 1 + j : Nat) : Int) := by omega
  rw [e, idx_at l _ h]
  simp [byteAt]

set_option maxHeartbeats 1000000 in
theorem rone_at (l : List UInt8) (a : Int) (hl : l.length ≤ 1000000000) (ha : -9223372036854775808 ≤ a ∧ a ≤ 9223372036854775807) (w : World) :
    Calls Try.prog 25 #[tx l, .int .i64 a] w fun e w' => e = .returned (.tuple #[.agg (insRow (one l a).1), .int .i64 (one l a).2]) ∧ Below w.heap.size w w' := by
  have hsz : (ByteArray.mk l.toArray).size = l.length := by simp [ByteArray.size]
  by_cases hneg : a < 0
  · have hv : Hid (one l a = (noIns, 101)) := one_out l a (Or.inl hneg)
    go_enter Try.func25, Try.ntmps25
    go_wp2
    (try simp only [Exit.inBlock, Exit.then])
    refine bodyPost_ret (v := .tuple #[.agg #[.int .i64 0, .int .u64 0, .int .i64 0, .int .i64 0], .int .i64 101]) ?_ rfl ⟨by rw [hv.out]; rfl, ?_⟩
    · rw [results_cell_tmp rfl]
      go_simp
    · (repeat' (first | exact Below.refl _ _ | refine Below.setCell ?_ (by simp) _ | refine Below.alloc ?_ (by simp) _))
  by_cases hbig : (l.length : Int) ≤ a
  · have hv : Hid (one l a = (noIns, 101)) := one_out l a (Or.inr hbig)
    go_enter Try.func25, Try.ntmps25
    go_wp2
    (try simp only [Exit.inBlock, Exit.then])
    refine bodyPost_ret (v := .tuple #[.agg #[.int .i64 0, .int .u64 0, .int .i64 0, .int .i64 0], .int .i64 101]) ?_ rfl ⟨by rw [hv.out]; rfl, ?_⟩
    · rw [results_cell_tmp rfl]
      go_simp
    · (repeat' (first | exact Below.refl _ _ | refine Below.setCell ?_ (by simp) _ | refine Below.alloc ?_ (by simp) _))
  obtain ⟨k, rfl⟩ : ∃ k : Nat, a = k := ⟨a.toNat, by omega⟩
  have hk : k < l.length := by omega
  have H1 : Hid _ := one_in l k hk
  have hix := idx_at l k hk
  have hib := ibyte (byteAt l k)
  have hop := roperand_at (byteAt l k).toNat
  have HI : Hid (isIns l k = (decide ((byteAt l k).toNat ≤ 23) && decide (k + 1 + wAt l k ≤ l.length))) := by exact rfl
  have HW : Hid (wAt l k = opw (byteAt l k).toNat) := by exact rfl
  have HN : Hid (insAt l k = ⟨(byteAt l k).toNat, leN ((l.drop (k + 1)).take (wAt l k)), k, 1 + wAt l k⟩) := by exact rfl
  have hw8 : wAt l k ≤ 8 := opw_le _
  have HR : Hid (rop (byteAt l k).toNat = if 0 ≤ ((byteAt l k).toNat : Int) ∧ ((byteAt l k).toNat : Int) ≤ 23 then (wAt l k : Int) else -1) := by exact rfl
  generalize hR : one l k = R at *
  clear hR
  have hdl : (l.drop (k + 1)).length = l.length - (k + 1) := by simp
  have HX2 : Hid _ := idx_far l k
  generalize hD : l.drop (k + 1) = D at *
  have HD : Hid _ := hD
  clear hD
  generalize hV : wAt l k = v at *
  clear hV
  generalize hB : byteAt l k = b at *
  clear hB
  generalize hX : insAt l k = X at *
  clear hX
  generalize hY : isIns l k = Y at *
  clear hY
  generalize hr : rop b.toNat = r at *
  clear hr
  by_cases h23 : b.toNat ≤ 23
  · obtain rfl : r = v := by rw [HR.out, if_pos (by omega)]
    by_cases hfit : k + 1 + v ≤ l.length
    · have hv : R = (X, 0) := by rw [H1.out, HI.out, decide_eq_true h23, decide_eq_true hfit]; rfl
      subst hv
      have HX : Hid _ := HN.out
      clear HN HR
      go_enter Try.func25, Try.ntmps25
      go_wp2_with fail
      refine (hop _).mono ?_
      rintro e w1 ⟨rfl, rfl⟩
      go_wp2
      go_loopw [8] (fun s wr => ∃ (j : Nat), j ≤ v ∧ s = .int .i64 j ∧ wr.heap[w.heap.size + 1]? = some (.cells #[.int .i64 b.toNat, .int .u64 (leN (D.take j)), .int .i64 k, .int .i64 (1 + v)] 48) ∧ wr.heap[w.heap.size]? = some (.cells #[.int .i64 0, .int .u64 0, .int .i64 0, .int .i64 0] 48) ∧ Below w.heap.size w wr) (fun s _ => v - (intOf s).toNat)
      case atStart =>
        refine ⟨0, by omega, rfl, ?_, ?_, ?_⟩
        · have h := heap_alloc_new (w.alloc (.cells #[.int .i64 0, .int .u64 0, .int .i64 0, .int .i64 0] 48)) (.cells #[.int .i64 b.toNat, .int .u64 0, .int .i64 k, .int .i64 (1 + v)] 48)
          have e : (w.alloc (.cells #[.int .i64 0, .int .u64 0, .int .i64 0, .int .i64 0] 48)).heap.size = w.heap.size + 1 := by simp
          rw [e] at h
          exact h
        · rw [Lib.alloc_old _ _ _ (by simp), heap_alloc_new]
        · (repeat' (first | exact Below.refl _ _ | refine Below.alloc ?_ (by simp) _))
      case round =>
        obtain ⟨j, hj, rfl, hbx, hbr, hb⟩ := hrel
        by_cases hlt : j < v
        · have hi2 := HX2.out j (by omega)
          have hjw := wrap8 j (by omega)
          have hju := uwrap8 j (by omega)
          have g1 : wr.cell? ⟨w.heap.size + 1, 1, none⟩ = some (.int .u64 (leN (D.take j))) := by rw [cell_of_heap hbx]; rfl
          have f1 : wr.frozen? ⟨w.heap.size + 1, 1, none⟩ = false := frozen_of_heap hbx
          have HO : Hid _ := or_step D j (by omega) (by omega)
          go_wp2_with fail
          go_region
          all_goals
            go_wp2
            go_roundw
            case rel =>
              refine ⟨j + 1, by omega, by go_num, ?_, ?_, ?_⟩
              · rw [← HO.out]
                show (wr.setCell ⟨w.heap.size + 1, 1, none⟩ _).heap[w.heap.size + 1]? = _
                rw [setCell_eq_setRow wr _ 1 _ _ _ _ hbx, setRow_heap wr _ _ _ _ _ hbx]
                rfl
              · show (wr.setCell ⟨w.heap.size + 1, 1, none⟩ _).heap[w.heap.size]? = _
                rw [(Upd.setCell (w.heap.size + 1) 1 wr _).block _ (lt_of_heap hbr) (by omega)]
                exact hbr
              · exact (hb.setCell (p := ⟨w.heap.size + 1, 1, none⟩) (by simp) _).drew
            case measure => simp [intOf]; omega
        · obtain rfl : j = v := by omega
          have g0 : wr.cell? ⟨w.heap.size + 1, 0, none⟩ = some (.int .i64 b.toNat) := by rw [cell_of_heap hbx]; rfl
          have g1 : wr.cell? ⟨w.heap.size + 1, 1, none⟩ = some (.int .u64 (leN (D.take j))) := by rw [cell_of_heap hbx]; rfl
          have g2 : wr.cell? ⟨w.heap.size + 1, 2, none⟩ = some (.int .i64 k) := by rw [cell_of_heap hbx]; rfl
          have g3 : wr.cell? ⟨w.heap.size + 1, 3, none⟩ = some (.int .i64 (1 + j)) := by rw [cell_of_heap hbx]; rfl
          have r0 : wr.cell? ⟨w.heap.size, 0, none⟩ = some (.int .i64 0) := by rw [cell_of_heap hbr]; rfl
          have r1 : wr.cell? ⟨w.heap.size, 1, none⟩ = some (.int .u64 0) := by rw [cell_of_heap hbr]; rfl
          have r2 : wr.cell? ⟨w.heap.size, 2, none⟩ = some (.int .i64 0) := by rw [cell_of_heap hbr]; rfl
          have r3 : wr.cell? ⟨w.heap.size, 3, none⟩ = some (.int .i64 0) := by rw [cell_of_heap hbr]; rfl
          have f0 : wr.frozen? ⟨w.heap.size, 0, none⟩ = false := frozen_of_heap hbr
          have f1 : wr.frozen? ⟨w.heap.size, 1, none⟩ = false := frozen_of_heap hbr
          have f2 : wr.frozen? ⟨w.heap.size, 2, none⟩ = false := frozen_of_heap hbr
          have f3 : wr.frozen? ⟨w.heap.size, 3, none⟩ = false := frozen_of_heap hbr
          go_wp2
          (try simp only [Exit.inBlock, Exit.then])
          refine bodyPost_ret (v := .tuple #[.agg #[.int .i64 b.toNat, .int .u64 (leN (D.take j)), .int .i64 k, .int .i64 (1 + j)], .int .i64 0]) ?_ rfl ⟨by rw [HX.out]; rfl, ?_⟩
          · rw [results_cell_tmp rfl]
            go_simp
          · (repeat' (first | exact hb | refine Below.setCell ?_ (by simp) _ | refine Below.alloc ?_ (by simp) _))
    · have hv : R = (noIns, 8) := by rw [H1.out, HI.out, decide_eq_false hfit, Bool.and_false]; rfl
      subst hv
      clear HR
      go_enter Try.func25, Try.ntmps25
      go_wp2_with fail
      refine (hop _).mono ?_
      rintro e w1 ⟨rfl, rfl⟩
      go_wp2
      (try simp only [Exit.inBlock, Exit.then])
      refine bodyPost_ret (v := .tuple #[.agg #[.int .i64 0, .int .u64 0, .int .i64 0, .int .i64 0], .int .i64 8]) ?_ rfl ⟨rfl, ?_⟩
      · rw [results_cell_tmp rfl]
        go_simp
      · (repeat' (first | exact Below.refl _ _ | refine Below.setCell ?_ (by simp) _ | refine Below.alloc ?_ (by simp) _))
  · obtain rfl : r = -1 := by rw [HR.out, if_neg (by omega)]
    have hv : R = (noIns, 8) := by rw [H1.out, HI.out, decide_eq_false h23]; rfl
    subst hv
    clear HR
    go_enter Try.func25, Try.ntmps25
    go_wp2_with fail
    refine (hop _).mono ?_
    rintro e w1 ⟨rfl, rfl⟩
    go_wp2
    (try simp only [Exit.inBlock, Exit.then])
    refine bodyPost_ret (v := .tuple #[.agg #[.int .i64 0, .int .u64 0, .int .i64 0, .int .i64 0], .int .i64 8]) ?_ rfl ⟨rfl, ?_⟩
    · rw [results_cell_tmp rfl]
      go_simp
    · (repeat' (first | exact Below.refl _ _ | refine Below.setCell ?_ (by simp) _ | refine Below.alloc ?_ (by simp) _))
end Go.Proofs.Ytedkijionpkmmaa
