/- What waits behind each call, as plain data; januslaw11's awake: true in every world. -/
import Derived.Test.YtikeknehkoccpaaIpcE
namespace Go.Proofs.Ytikeknehkoccpaa
open Go.RowKit
set_option linter.unusedVariables false

theorem toNat_ne {n k : Int} (hn : isE n = true) (hk : isE k = true) (h : k ≠ n) : k.toNat ≠ n.toNat := by
  obtain ⟨a, rfl, _⟩ := isE_nat hn
  obtain ⟨c, rfl, _⟩ := isE_nat hk
  simp only [Int.toNat_natCast]
  intro e
  exact h (by omega)
theorem qat_set (Q : QS) {n : Int} (hn : isE n = true) (M : List Mg) (k : Int) : qat (Q.set n.toNat M) k = if k = n then M else qat Q k := by
  by_cases e : k = n
  · subst e
    rw [if_pos rfl]
    unfold qat
    rw [if_pos hn, QS.set_same]
  · rw [if_neg e]
    unfold qat
    by_cases hk : isE k = true
    · rw [if_pos hk, if_pos hk, QS.set_other _ _ _ _ (toNat_ne hn hk e)]
    · rw [if_neg hk, if_neg hk]
theorem sendR_zero {Q : QS} {f t : Int} {len : Nat} (h : sendR Q f t len = 0) : isE f = true ∧ isE t = true ∧ len ≤ 8 ∧ (qat Q t).length < 4 := by
  unfold sendR at h
  split at h
  · rename_i hc
    split at h
    · rename_i h4
      exact ⟨hc.1, hc.2.1, hc.2.2, h4⟩
    · omega
  · omega
theorem qat_send {Q : QS} {f t : Int} {a : Option Addr} {c : Nat} {ws : List Int} (h : sendR Q f t ws.length = 0) (k : Int) : qat (sendQ Q f t a c ws) k = if k = t then qat Q t ++ [⟨f, a, c, ws⟩] else qat Q k := by
  rw [sendQ_yes h]
  exact qat_set Q (sendR_zero h).2.1 _ k
theorem qat_recv (Q : QS) (n k : Int) : qat (recvQ Q n) k = if k = n then (qat Q n).tail else qat Q k := by
  unfold recvQ
  split
  · rename_i hn
    rw [qat_set Q hn]
    unfold qat
    rw [if_pos hn]
  · rename_i hn
    split
    · rename_i e
      subst e
      unfold qat
      rw [if_neg hn]
      rfl
    · rfl
theorem qat_gone (Q : QS) (n k : Int) : qat (goneQ Q n) k = if isE n = true then (if k = n then [] else dropM n (qat Q k)) else qat Q k := by
  unfold goneQ
  by_cases hn : isE n = true
  · rw [if_pos hn, if_pos hn]
    unfold qat
    by_cases hk : isE k = true
    · rw [if_pos hk, if_pos hk, goneTo_i]
      obtain ⟨a, rfl, ha⟩ := isE_nat hn
      obtain ⟨c, rfl, hc⟩ := isE_nat hk
      simp only [Int.toNat_natCast]
      by_cases e : c = a
      · subst e
        rw [if_pos rfl, if_pos rfl]
      · rw [if_neg e, if_pos hc, if_neg (by omega)]
    · rw [if_neg hk, if_neg hk]
      split <;> rfl
  · rw [if_neg hn, if_neg hn]
theorem IpcAt.wd {w : World} {B b : Nat} {Q : QS} (h : IpcAt w B b Q) {n : Int} {m : Mg} (hm : m ∈ qat Q n) : Wd w m.a m.ws := by
  obtain ⟨V, h⟩ := h
  unfold qat at hm
  split at hm
  · rename_i hn
    obtain ⟨k, rfl, hk⟩ := isE_nat hn
    exact h.wd k hk m hm
  · simp at hm

theorem rd_lit2 (w : World) (x y : Int) : Rd (w.alloc (.cells #[.int .u64 x, .int .u64 y] 52)) (some ⟨w.heap.size, 0, none⟩) [x, y] := by
  have hh := heap_alloc_new w (.cells #[.int .u64 x, .int .u64 y] 52)
  intro j z hz
  refine ⟨_, _, rfl, ?_⟩
  rw [cell_of_heap hh]
  match j, hz with
  | 0, hz => simp at hz; subst hz; rfl
  | 1, hz => simp at hz; subst hz; rfl
  | j + 2, hz => simp at hz

/-- What the loop's Send answers. -/
def eA (i : Nat) : Int := if i = 5 then 105 else 0
set_option maxRecDepth 100000 in
set_option maxHeartbeats 4000000 in
theorem awake_at (w : World) :
    Calls Try.prog 21 #[] w fun e w' => e = .returned (.bool true) ∧ Below w.heap.size w w' := by
  go_enter Try.func21, Try.ntmps21
  go_wp2_with fail
  refine (new_at w).mono ?_
  rintro e w1 ⟨rfl, hA, hB⟩
  obtain ⟨b, hbq⟩ : ∃ b, b = w.heap.size := ⟨_, rfl⟩
  rw [← hbq] at hA ⊢
  have hne := ptr_eq b
  have hs1 : b ≤ w1.heap.size := by rw [hbq]; exact hB.size
  have HA1 : Hid (IpcAt w1 b b Q0) := hA
  have HB1 : Hid (Below b w w1) := by rw [hbq]; exact hB
  have HBQ : Hid _ := hbq
  clear hA hB hbq
  obtain ⟨W, hW⟩ : ∃ W, W = w1.alloc (.cells #[.int .u64 5, .int .u64 6] 52) := ⟨_, rfl⟩
  have HAW : Hid (IpcAt W b b Q0) := by rw [hW]; exact IpcAt.below HA1.out (below_alloc _ _)
  have HBW : Hid (Below b w W) := by rw [hW]; exact HB1.out.trans ((below_alloc _ _).mono hs1)
  have HRW : Hid (Rd W (some ⟨w1.heap.size, 0, none⟩) [5, 6]) := by rw [hW]; exact rd_lit2 w1 5 6
  have hsW : b ≤ W.heap.size := by rw [hW]; simp; omega
  have HW : Hid _ := hW
  clear hW
  go_wp2_with fail
  rw [← HW.out]
  clear HW
  refine (send_at b b Q0 1 0 _ [5, 6] 2 W HAW.out HRW.out hsW).mono ?_
  rw [show sendR Q0 1 0 ([5, 6] : List Int).length = 0 from by kernel_rfl]
  rintro e w2 ⟨rfl, ⟨a1, c1, hA⟩, hT⟩
  have HB2 : Hid (Below b w w2) := HBW.out.trans (hT.below hsW)
  have hs2 : b ≤ w2.heap.size := Nat.le_trans hsW hT.size
  have HA2 : Hid _ := hA
  have HQ2 : Hid (qat (sendQ Q0 1 0 a1 c1 [5, 6]) 0 = [⟨1, a1, c1, [5, 6]⟩]) := by
    show _ = _
    rw [qat_send (by kernel_rfl), if_pos rfl]
    rfl
  generalize sendQ Q0 1 0 a1 c1 [5, 6] = Q2 at *
  clear hA hT HAW HBW HRW hsW HA1 HB1 hs1
  go_wp2_with fail
  refine (recv_at b b Q2 0 w2 HA2.out).mono ?_
  rw [HQ2.out]
  rintro e w3 ⟨rfl, hA, hT⟩
  have HB3 : Hid (Below b w w3) := HB2.out.trans (hT.below hs2)
  have hs3 : b ≤ w3.heap.size := Nat.le_trans hs2 hT.size
  have HW3 : Hid (Wd w3 a1 [5, 6]) := (IpcAt.wd HA2.out (n := 0) (m := ⟨1, a1, c1, [5, 6]⟩) (by rw [HQ2.out]; simp)).tch hT
  have HA3 : Hid _ := hA
  have HQ3 : Hid (qat (recvQ Q2 0) 0 = []) := by
    show _ = _
    rw [qat_recv, if_pos rfl, HQ2.out]
    rfl
  generalize recvQ Q2 0 = Q3 at *
  clear hA hT HA2 HB2 hs2 HQ2
  dsimp only [recvF, recvV, recvB, Mg.v, List.length_cons, List.length_nil]
  go_wp2_with fail
  refine (recv_at b b Q3 0 w3 HA3.out).mono ?_
  rw [HQ3.out]
  rintro e w4 ⟨rfl, hA, hT⟩
  have HB4 : Hid (Below b w w4) := HB3.out.trans (hT.below hs3)
  have hs4 : b ≤ w4.heap.size := Nat.le_trans hs3 hT.size
  have HW4 : Hid (Wd w4 a1 [5, 6]) := Wd.tch HW3.out hT
  have HA4 : Hid _ := hA
  have HQ4 : Hid (qat (recvQ Q3 0) 0 = []) := by
    show _ = _
    rw [qat_recv, if_pos rfl, HQ3.out]
    rfl
  generalize recvQ Q3 0 = Q4 at *
  clear hA hT HA3 HB3 hs3 HQ3 HW3
  dsimp only [recvF, recvV, recvB, Mg.v]
  go_wp2
  go_loopw [9, 10] (fun s9 s10 wr => ∃ (i : Nat) (Q : QS), i ≤ 5 ∧ s9 = .int .i64 (eA i) ∧ s10 = .int .i64 i ∧ IpcAt wr b b Q ∧ Hid ((qat Q 0).length = min i 4) ∧ Wd wr a1 [5, 6] ∧ Below b w wr) (fun _ s10 _ => 5 - (intOf s10).toNat)
  case atStart => exact ⟨0, Q4, by omega, rfl, rfl, HA4.out, (by show _ = _; rw [HQ4.out]; rfl), HW4.out, HB4.out⟩
  case round =>
    clear HA4 HB4 HW4 HQ4 hs4
    obtain ⟨i, Q, hi, rfl, rfl, hA, HQ, hWd, hB⟩ := hrel
    have hbw : b ≤ w.heap.size := by rw [HBQ.out]; exact Nat.le_refl _
    have hsz : b ≤ wr.heap.size := Nat.le_trans hbw hB.size
    by_cases hlt : i < 5
    · have hS := send_at b b Q 2 0 none [] 0 wr hA (Rd.nil _ _) hsz
      have HR : Hid (sendR Q 2 0 ([] : List Int).length = eA (i + 1)) := by
        show _ = _
        unfold sendR
        rw [if_pos ⟨rfl, rfl, by simp⟩, HQ.out]
        unfold eA
        by_cases h4 : i = 4
        · subst h4; rfl
        · rw [if_pos (by omega), if_neg (by omega)]
      rw [HR.out] at hS
      have hii : (i : Int) < 5 := by omega
      have HWd : Hid _ := hWd
      have HB : Hid _ := hB
      clear hA hWd hB
      dsimp only [List.length_nil] at hS
      generalize eA i = z at *
      generalize hz2 : eA (i + 1) = z2 at *
      have HZ2 : Hid _ := hz2
      clear hz2
      go_wp2_with fail
      refine hS.mono ?_
      rintro e w5 ⟨rfl, ⟨a5, c5, hA⟩, hT⟩
      have HA : Hid _ := hA
      have HT : Hid _ := hT
      clear hA hT hS
      go_wp2
      go_roundw
      case rel =>
        repeat apply Exists.intro
        refine And.intro ?_ rfl
        refine ⟨i + 1, _, by omega, by rw [HZ2.out], by go_num, HA.out, ?_, Wd.tch HWd.out HT.out, HB.out.trans (HT.out.below hsz)⟩
        show _ = _
        by_cases h4 : i = 4
        · rw [sendQ_no (by rw [HR.out, ← HZ2.out]; unfold eA; rw [if_pos (by omega)]; omega), HQ.out]
          omega
        · have e0 : sendR Q 2 0 ([] : List Int).length = 0 := by rw [HR.out, ← HZ2.out]; unfold eA; rw [if_neg (by omega)]
          rw [qat_send e0, if_pos rfl, List.length_append, HQ.out]
          simp
          omega
      case measure => simp [intOf]; omega
    · obtain rfl : i = 5 := by omega
      have hWt := fun V (hV : Rd V a1 [5, 6]) => words_same [5, 6] a1 (some ⟨wr.heap.size, 0, none⟩) c1 2 (wr.alloc (.cells #[.int .u64 5, .int .u64 6] 52))
      have hWs := words_same [5, 6] a1 (some ⟨wr.heap.size, 0, none⟩) c1 2 (wr.alloc (.cells #[.int .u64 5, .int .u64 6] 52)) (hWd.rd.below (below_alloc _ _)) (rd_lit2 _ _ _) (by simp)
      have HA : Hid _ := hA
      have HB : Hid _ := hB
      have he5 : eA 5 = 105 := rfl
      rw [he5]
      dsimp only [List.length_cons, List.length_nil] at hWs
      clear hA hWd hB hWt he5
      go_wp2_with fail
      refine hWs.mono ?_
      rintro e w6 ⟨rfl, hb6⟩
      have HA6 : Hid (IpcAt w6 b b Q) := (IpcAt.below HA.out (below_alloc _ _)).below hb6
      have HB6 : Hid (Below b w w6) := HB.out.trans (((below_alloc wr _).mono hsz).trans (hb6.mono (by simp; omega)))
      clear hb6 hWs HA HB
      go_wp2_with fail
      refine (waiting_at b b Q 0 w6 HA6.out).mono ?_
      rw [HQ.out]
      rintro e w7 ⟨rfl, hw⟩
      rw [hw]
      clear hw w7
      go_wp2
      go_ret
      refine ⟨rfl, ?_⟩
      rw [← HBQ.out]
      exact HB6.out
end Go.Proofs.Ytikeknehkoccpaa
