/- The reference's List at two equal lists, and januslaw05's awake: true in every world. -/
import Derived.Test.YtbdmiigicpmhiaaCodF
import Derived.Test.YtbdmiigicpmhiaaCodC
import Derived.Test.YtbdmiigicpmhiaaCodQ
import Derived.Deep.QuietTactic
import Derived.BigQuiet
namespace Go.Proofs.Ytbdmiigicpmhiaa
open Go.RowKit
set_option linter.unusedVariables false

theorem same_text (l : List UInt8) : (ByteArray.mk l.toArray).toList = l := ByteArray.toList_mk l
theorem ins_neq (a b c d : Int) (W : World) : (binOp .neq 36 (.agg #[.int .i64 a, .int .u64 b, .int .i64 c, .int .i64 d]) (.agg #[.int .i64 a, .int .u64 b, .int .i64 c, .int .i64 d])).run Try.prog W = .ok (.bool false) W := by go_simp
theorem ins_eq (a b c d : Int) (W : World) : (binOp .eql 36 (.agg #[.int .i64 a, .int .u64 b, .int .i64 c, .int .i64 d]) (.agg #[.int .i64 a, .int .u64 b, .int .i64 c, .int .i64 d])).run Try.prog W = .ok (.bool true) W := by go_simp

theorem row_block {w : World} {g : Nat} {cs : Array Value} {t : TypeId} {fr : Nat × Nat} {l : List Ins} (h : w.heap[g]? = some (.cells cs t fr)) (hc : cs.toList = insCells l) : Row w (some ⟨g, 0, none⟩) l := by
  intro j i hj
  obtain ⟨c0, c1, c2, c3⟩ := insCells_get l j i hj
  have hcs : ∀ n, cs[n]? = (insCells l)[n]? := fun n => by rw [← hc, Array.getElem?_toList]
  refine ⟨g, 0, rfl, ?_, ?_, ?_, ?_⟩
  · rw [cell_of_heap h, hcs, Nat.zero_add]; exact c0
  · rw [cell_of_heap h, hcs, Nat.zero_add]; exact c1
  · rw [cell_of_heap h, hcs, Nat.zero_add]; exact c2
  · rw [cell_of_heap h, hcs, Nat.zero_add]; exact c3

theorem list_same (l : List Ins) (a b : Option Addr) (ca cb : Nat) (w : World) (ha : Row w a l) (hb : Row w b l) (hl63 : l.length ≤ 9223372036854775807) :
    Calls Try.prog 15 #[.slice a l.length ca, .slice b l.length cb] w fun e w' => e = .returned (.bool true) ∧ Below w.heap.size w w' := by
  have HA : Hid _ := ha
  have HB : Hid _ := hb
  clear ha hb
  go_enter Try.func15, Try.ntmps15
  go_wp2
  go_loopw [5] (fun s wr => ∃ (k : Nat), k ≤ l.length ∧ s = .int .i64 k ∧ Below w.heap.size w wr) (fun s _ => l.length - (intOf s).toNat)
  case atStart => exact ⟨0, by omega, rfl, Below.refl _ _⟩
  case round =>
    obtain ⟨k, hk, rfl, hbw⟩ := hrel
    by_cases hlt : k < l.length
    · obtain ⟨i, hki⟩ : ∃ i, l[k]? = some i := ⟨l[k], List.getElem?_eq_getElem hlt⟩
      obtain ⟨ga, oa, rfl, a0, a1, a2, a3⟩ := (Row.below HA.out hbw) k i hki
      obtain ⟨gb, ob, rfl, b0, b1, b2, b3⟩ := (Row.below HB.out hbw) k i hki
      have hne := ins_neq i.op i.arg i.pos i.len
      go_wp2_with fail
      go_region
      all_goals
        go_wp2
        go_roundw
        case rel => exact ⟨k + 1, by omega, by go_num, hbw.drew⟩
        case measure => simp [intOf]; omega
    · obtain rfl : k = l.length := by omega
      go_wp2
      go_ret
      exact ⟨rfl, hbw⟩

theorem enc_awake : encT [⟨0, 5, 0, 0⟩, ⟨23, 1, 0, 0⟩] = [0, 5, 23, 1] ∧ encE [⟨0, 5, 0, 0⟩, ⟨23, 1, 0, 0⟩] = 0 := by decide
theorem enc_jump : encT [⟨21, 65536, 0, 0⟩] = [] ∧ encE [⟨21, 65536, 0, 0⟩] = 101 := by decide
theorem dec_awake : decAt [0, 5, 23, 1] 0 = some [⟨0, 5, 0, 2⟩, ⟨23, 1, 2, 2⟩] := by
  rw [decAt_step _ _ (by decide) (by decide)]
  have h1 : wAt [0, 5, 23, 1] 0 = 1 := by decide
  rw [h1, decAt_step _ _ (by decide) (by decide)]
  have h2 : wAt [0, 5, 23, 1] (0 + 1 + 1) = 1 := by decide
  rw [h2, decAt_end _ _ (by decide)]
  rfl
theorem one_awake : one [24] 0 = (noIns, 8) := by rfl
theorem moves_awake : movesOf 5 0 = (2, 3) := by decide

set_option maxRecDepth 100000 in
set_option maxHeartbeats 2000000 in
theorem awake_at (w : World) : Calls Try.prog 8 #[] w fun e w' => e = .returned (.bool true) ∧ Below w.heap.size w w' := by
  have hst := same_text
  obtain ⟨W, hW⟩ : ∃ W, W = w.alloc (.cells #[.int .i64 0, .int .u64 5, .int .i64 0, .int .i64 0, .int .i64 23, .int .u64 1, .int .i64 0, .int .i64 0] 36) := ⟨_, rfl⟩
  have hbW : Below w.heap.size w W := by rw [hW]; exact (Below.refl _ _).alloc (Nat.le_refl _) _
  have hrW : Row W (some ⟨w.heap.size, 0, none⟩) [⟨0, 5, 0, 0⟩, ⟨23, 1, 0, 0⟩] := row_block (by rw [hW]; exact heap_alloc_new _ _) rfl
  have E1 := encode_at [⟨0, 5, 0, 0⟩, ⟨23, 1, 0, 0⟩] (some ⟨w.heap.size, 0, none⟩) 2 W hrW (by intro i hi; simp at hi; rcases hi with rfl | rfl <;> (unfold Ins.Fit; decide)) (by decide)
  rw [enc_awake.1, enc_awake.2] at E1
  have HR : Hid _ := hrW
  clear hrW
  go_enter Try.func8, Try.ntmps8
  go_wp2_with fail
  rw [← hW]
  clear hW
  refine E1.mono ?_
  rintro e w1 ⟨rfl, hb1⟩
  have hb1w := hbW.trans (hb1.mono hbW.size)
  clear E1 hb1 HR hbW
  go_wp2_with fail
  refine (decode_at [0, 5, 23, 1] (by decide) w1).mono ?_
  rintro e w2 ⟨hd, hb2⟩
  unfold Decoded at hd
  rw [dec_awake] at hd
  obtain ⟨a0, cap, rfl, hrow⟩ := hd
  have hb2w := hb1w.trans (hb2.mono hb1w.size)
  clear hb2 hb1w
  go_wp2_with fail
  refine (one_at [24] 0 (by decide) (by decide) w2).mono ?_
  rw [one_awake]
  rintro e w3 ⟨rfl, hb3⟩
  have hrow3 := Row.below hrow hb3
  have hb3w := hb2w.trans (hb3.mono hb2w.size)
  clear hb3 hb2w hrow
  dsimp only [insRow, noIns]
  obtain ⟨W4, hW4⟩ : ∃ W4, W4 = (w3.alloc (.cells #[.int .i64 0, .int .u64 0, .int .i64 0, .int .i64 0] 36)).alloc (.cells #[.int .i64 21, .int .u64 65536, .int .i64 0, .int .i64 0] 36) := ⟨_, rfl⟩
  have hbel4 : Below w3.heap.size w3 W4 := by rw [hW4]; exact ((Below.refl _ _).alloc (Nat.le_refl _) _).alloc (by simp) _
  have hnew4 : W4.heap[w3.heap.size + 1]? = some (.cells #[.int .i64 21, .int .u64 65536, .int .i64 0, .int .i64 0] 36) := by
    have h := heap_alloc_new (w3.alloc (.cells #[.int .i64 0, .int .u64 0, .int .i64 0, .int .i64 0] 36)) (.cells #[.int .i64 21, .int .u64 65536, .int .i64 0, .int .i64 0] 36)
    rw [World.size_alloc] at h
    rw [hW4]
    exact h
  have E4 := encode_at [⟨21, 65536, 0, 0⟩] (some ⟨w3.heap.size + 1, 0, none⟩) 1 W4 (row_block hnew4 rfl) (by intro i hi; simp at hi; subst hi; unfold Ins.Fit; decide) (by decide)
  rw [enc_jump.1, enc_jump.2] at E4
  have HR : Hid _ := hrow3
  clear hrow3 hnew4
  go_wp2_with fail
  rw [← hW4]
  clear hW4
  refine E4.mono ?_
  rintro e w5 ⟨rfl, hb5⟩
  have hb5w := hb3w.trans ((hbel4.trans (hb5.mono hbel4.size)).mono hb3w.size)
  have hrow5 : Hid _ := Row.below HR.out (hbel4.trans (hb5.mono hbel4.size))
  clear E4 hb5 hbel4 HR hb3w
  go_wp2_with fail
  have hmv := moves_at ⟨5, 0, 0, 0⟩ (by unfold Ins.Fit; decide) w5
  rw [moves_awake] at hmv
  refine hmv.mono ?_
  rintro e w6 ⟨rfl, hb6⟩
  have hb6w := hb5w.trans (hb6.mono hb5w.size)
  obtain ⟨gb, off, rfl, c0, c1, c2, c3⟩ := (Row.below hrow5.out hb6) 1 ⟨23, 1, 2, 2⟩ rfl
  have heq := ins_eq 23 1 2 2
  have ha4 : argsOf 13 = 4 := by decide
  have ha1 : argsOf 0 = -1 := by decide
  have h13 := args_at 13
  have h0 := args_at 0
  rw [ha4] at h13
  rw [ha1] at h0
  clear hb6 hb5w ha4 ha1 hmv
  go_wp2_with fail
  refine (h13 _).mono ?_
  rintro e w7 ⟨rfl, rfl⟩
  go_wp2_with fail
  refine (h0 _).mono ?_
  rintro e w8 ⟨rfl, rfl⟩
  go_wp2
  go_ret
  exact ⟨rfl, hb6w⟩
end Go.Proofs.Ytbdmiigicpmhiaa
