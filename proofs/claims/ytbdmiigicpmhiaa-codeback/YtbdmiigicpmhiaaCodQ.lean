/- The contract of the reference's Encode. -/
import Derived.Test.YtbdmiigicpmhiaaCodS
namespace Go.Proofs.Ytbdmiigicpmhiaa
open Go.RowKit
set_option linter.unusedVariables false

set_option maxRecDepth 100000 in
set_option maxHeartbeats 2000000 in
theorem rencode_at (l : List Ins) (a0 : Option Addr) (cap : Nat) (w : World) (hrow : Row w a0 l) (hfit : ∀ i ∈ l, i.Fit) (hn : l.length ≤ 1000000) :
    Calls Try.prog 10 #[.slice a0 l.length cap] w fun e w' => e = .returned (.tuple #[tx (encT l), .int .i64 (encE l)]) ∧ Below w.heap.size w w' := by
  obtain ⟨i0, hi0, hzz⟩ := Option.map_eq_some_iff.1 byteInfo
  simp only [Prod.mk.injEq] at hzz
  obtain ⟨hz0, hz1, hz2⟩ := hzz
  have HR : Hid _ := hrow
  have HF : Hid _ := hfit
  clear hrow hfit
  go_enter Try.func10, Try.ntmps10
  go_wp2
  go_loopw [4, 5] (fun b s wr => ∃ (k : Nat) (u : Value), k ≤ l.length ∧ s = .int .i64 k ∧ u = b ∧ Hid ((l.take k).all good = true) ∧ wr.ownsRow w.heap.size 5 1 u (encs (l.take k)).length (Lib.byteCells (encs (l.take k))) ∧ Below w.heap.size w wr) (fun _ s _ => l.length - (intOf s).toNat)
  case atStart => exact ⟨0, _, by omega, rfl, rfl, (show Hid _ from rfl), World.ownsRow_nil _ _ _ _, Below.refl _ _⟩
  case round =>
    obtain ⟨k, u, hk, rfl, rfl, hall, hB, hb⟩ := hrel
    have hbs := hb.size
    by_cases hlt : k < l.length
    · obtain ⟨i, hki⟩ : ∃ i, l[k]? = some i := ⟨l[k], List.getElem?_eq_getElem hlt⟩
      obtain ⟨gb, off, rfl, c0, c1, c2, c3⟩ := (Row.below HR.out hb) k i hki
      have hif := HF.out i (List.mem_of_getElem? hki)
      have HK : Hid _ := hki
      clear hki
      have hop := roperand_at i.op
      have hw8 := opw_le i.op
      have hwb := wrapByte i.op
      have hlk := accT_len l k 8 i (by omega) hn
      have hlk0 : (encs (l.take k)).length + 1 ≤ (accT l k 8 i).length := by simp [accT]
      cases ho : (decide (0 ≤ i.op) && decide (i.op ≤ 23)) with
      | false =>
        have hg : good i = false := by unfold good; rw [ho]; rfl
        obtain ⟨e1, e2⟩ := enc_no HK.out hg
        have E1 : Hid _ := e1
        have E2 : Hid _ := e2
        have hr : rop i.op = -1 := by unfold rop; rw [if_neg]; simp at ho; omega
        rw [hr] at hop
        clear ho hg e1 e2 hwb hr
        go_wp2_with fail
        refine (hop wr).mono ?_
        rintro e w1 ⟨rfl, rfl⟩
        go_wp2
        go_ret2
        exact ⟨by rw [E1.out, E2.out]; rfl, hb⟩
      | true =>
        have hr : rop i.op = opw i.op := by unfold rop; rw [if_pos]; simp at ho; omega
        rw [hr] at hop
        clear hr
        have hjw := wrap8 (opw i.op) hw8
        have hju := uwrap8 (opw i.op) hw8
        have HS := shr256 i.arg (opw i.op)
        cases hf : decide (i.arg / 256 ^ opw i.op = 0) with
        | false =>
          have hg : good i = false := by unfold good; rw [ho, hf]; rfl
          obtain ⟨e1, e2⟩ := enc_no HK.out hg
          have E1 : Hid _ := e1
          have E2 : Hid _ := e2
          have h8 : opw i.op < 8 := by
            rcases Nat.lt_or_ge (opw i.op) 8 with h | h
            · exact h
            · have h8 : opw i.op = 8 := by omega
              have hx := of_decide_eq_false hf
              rw [h8] at hx
              exact absurd (wide_zero hif) hx
          have hq : (i.arg / 2 ^ (8 * opw i.op) != 0) = true := by
            have hx := of_decide_eq_false hf
            rw [pow256] at hx
            simpa using hx
          clear ho hg e1 e2 hf hwb HS
          go_wp2_with fail
          refine (hop wr).mono ?_
          rintro e w1 ⟨rfl, rfl⟩
          go_wp2
          go_ret2
          exact ⟨by rw [E1.out, E2.out]; rfl, hb⟩
        | true =>
          have hg : good i = true := by unfold good; rw [ho, hf]; rfl
          have hall2 : Hid _ := take_good HK.out hall.out hg
          have hq : (i.arg / 2 ^ (8 * opw i.op) != 0) = false := by
            have hx := of_decide_eq_true hf
            rw [pow256] at hx
            simpa using hx
          clear ho hg hf HS
          go_wp2_with fail
          refine (hop wr).mono ?_
          rintro e w1 ⟨rfl, rfl⟩
          go_wp2_with (first
            | (at_builtin; refine wpList_append_lies _ rfl _ _ _ rfl w.heap.size 5 i0 _ 1 1 Try.underlying50 hi0 hz0 hz1 hz2 rfl (by omega) u _ _ rfl (hB.alloc _) ⟨w1.heap.size, 0, none⟩ 1 1 [.int .u8 ((byteOf i.op).toNat : Int)] rfl rfl (World.news_of_block (cs := #[.int .u8 ((byteOf i.op).toNat : Int)]) (t := 5) (fr := (0, 0)) (heap_alloc_new w1 _)) (by simp [Value.oneCell']) (by omega) (by unfold maxLen; omega) (by omega) (by simp; omega) _ rfl ?_; intro gg cap2 w2 hown2 hgrow hat hlt2)
            | go_in)
          all_goals
            have hb2w : Below w.heap.size w w2 := (hb.alloc hbs _).trans (below_grown hgrow (by simp; omega) (ownsRow_low hB))
            have hown3 : w2.ownsRow w.heap.size 5 1 (.slice (some ⟨gg, 0, none⟩) ((encs (l.take k)).length + 1) cap2) (accT l k 0 i).length (Lib.byteCells (accT l k 0 i)) := by
              rw [← accT_zero, ← byteCells_snoc, List.length_append]
              exact hown2
            have HC : Hid _ := And.intro c0 (And.intro c1 (And.intro c2 c3))
            clear c0 c1 c2 c3 hown2 hgrow hat hlt2 hop hq
            go_loopw [4, 7] (fun b s wr => ∃ (j : Nat) (u : Value), j ≤ opw i.op ∧ s = .int .i64 j ∧ u = b ∧ wr.ownsRow w.heap.size 5 1 u (accT l k j i).length (Lib.byteCells (accT l k j i)) ∧ Below w.heap.size w wr) (fun _ s _ => opw i.op - (intOf s).toNat)
            case atStart => exact ⟨0, _, by omega, rfl, rfl, hown3, hb2w⟩
            case round =>
              obtain ⟨j, v, hj, rfl, rfl, hBq, hbq⟩ := hrel
              have hbqs := hbq.size
              clear hown3 hb2w
              by_cases hjl : j < opw i.op
              · obtain ⟨gb2, off2, hge, g0, g1, g2, g3⟩ := (Row.below HR.out hbq) k i HK.out
                cases hge
                have hjw2 := wrap8 j (by omega)
                have hju2 := uwrap8 j (by omega)
                have hjb : i.arg / 2 ^ (8 * j) % 256 = ((byteOf (i.arg / 256 ^ j)).toNat : Int) := by rw [← pow256, byteOf_toNat]
                have hlq := accT_len l k j i (by omega) hn
                go_wp2_with (first
                | (at_builtin; refine wpList_append_lies _ rfl _ _ _ rfl w.heap.size 5 i0 _ 1 1 Try.underlying50 hi0 hz0 hz1 hz2 rfl (by omega) v _ _ rfl (hBq.alloc _) ⟨wr.heap.size, 0, none⟩ 1 1 [.int .u8 ((byteOf (i.arg / 256 ^ j)).toNat : Int)] rfl rfl (World.news_of_block (cs := #[.int .u8 ((byteOf (i.arg / 256 ^ j)).toNat : Int)]) (t := 5) (fr := (0, 0)) (heap_alloc_new wr _)) (by simp [Value.oneCell']) (by omega) (by unfold maxLen; omega) (by omega) (by simp; omega) _ rfl ?_; intro gg cap2 w2 hown2 hgrow hat hlt2)
                | go_in)
                go_roundw
                case rel =>
                  refine ⟨j + 1, _, by omega, by go_num, rfl, ?_, (hbq.alloc hbqs _).trans (below_grown hgrow (by simp; omega) (ownsRow_low hBq))⟩
                  rw [← accT_succ, ← byteCells_snoc, List.length_append]
                  exact hown2
                case measure => simp [intOf]; omega
              · obtain rfl : j = opw i.op := by omega
                rw [accT_full HK.out] at hBq
                go_wp2
                go_roundw
                case rel => exact ⟨k + 1, _, by omega, by go_num, rfl, hall2, hBq, hbq⟩
                case measure => simp [intOf]; omega
    · obtain rfl : k = l.length := by omega
      have hall' := hall.out
      rw [List.take_length] at hall' hB
      obtain ⟨e1, e2⟩ := enc_yes hall'
      have E1 : Hid _ := e1
      have E2 : Hid _ := e2
      clear hall' e1 e2
      have hle := encs_len l
      have hcv := conv_text hB
      obtain ⟨ua, un, uc, rfl⟩ := own_slice hB
      go_wp2
      go_ret2
      exact ⟨by rw [E1.out, E2.out]; rfl, hb⟩
end Go.Proofs.Ytbdmiigicpmhiaa
