/- The contract of Encode, of package code. -/
import Derived.Test.YtbdmiigicpmhiaaCodB
namespace Go.Proofs.Ytbdmiigicpmhiaa
open Go.RowKit
set_option linter.unusedVariables false

set_option maxRecDepth 100000 in
set_option maxHeartbeats 2000000 in
theorem encode_at (l : List Ins) (a0 : Option Addr) (cap : Nat) (w : World) (hrow : Row w a0 l) (hfit : ∀ i ∈ l, i.Fit) (hn : l.length ≤ 1000000) :
    Calls Try.prog 9 #[.slice a0 l.length cap] w fun e w' => e = .returned (.tuple #[tx (encT l), .int .i64 (encE l)]) ∧ Below w.heap.size w w' := by
  have HR : Hid _ := hrow
  have HF : Hid _ := hfit
  clear hrow hfit
  go_enter Try.func9, Try.ntmps9
  go_wp2
  go_loopw [10] (fun s wr => ∃ (k : Nat), k ≤ l.length ∧ s = .int .i64 k ∧ Hid ((l.take k).all good = true) ∧ Bld w.heap.size w.heap.size (Lib.byteCells (encs (l.take k))) wr ∧ Below w.heap.size w wr) (fun s _ => l.length - (intOf s).toNat)
  case atStart => exact ⟨0, by omega, rfl, (show Hid _ from rfl), Lib.fresh_isBuilder _ _ _, (Below.refl _ _).alloc (Nat.le_refl _) _⟩
  case round =>
    obtain ⟨k, hk, rfl, hall, hB, hb⟩ := hrel
    have hbs := hb.size
    by_cases hlt : k < l.length
    · obtain ⟨i, hki⟩ : ∃ i, l[k]? = some i := ⟨l[k], List.getElem?_eq_getElem hlt⟩
      obtain ⟨gb, off, rfl, c0, c1, c2, c3⟩ := (Row.below HR.out hb) k i hki
      have hif := HF.out i (List.mem_of_getElem? hki)
      have HK : Hid _ := hki
      clear hki
      have hop := isOp_at i.op
      have hfi := fits_at i hif
      have hwi := width_at i.op
      have hw8 := opw_le i.op
      have hwb := wrapByte i.op
      have HG : Hid _ := (good_iff i)
      have hlk := accT_len l k 8 i (by omega) hn
      have hlk0 : (encs (l.take k)).length + 1 ≤ (accT l k 8 i).length := by simp [accT]
      obtain ⟨W, hW⟩ : ∃ W, W = wr.alloc (.cells (insRow i) 36) := ⟨_, rfl⟩
      have hbox : W.heap[wr.heap.size]? = some (.cells (insRow i) 36) := by rw [hW]; exact heap_alloc_new _ _
      have hbW : Below w.heap.size w W := by rw [hW]; exact hb.alloc hbs _
      have hBW : Bld w.heap.size w.heap.size (Lib.byteCells (encs (l.take k))) W := by rw [hW]; exact Bld.alloc hB _
      have hbm := Bld.lt hB
      dsimp only [insRow] at hW hfi
      have d0 : W.cell? ⟨wr.heap.size, 0, none⟩ = some (.int .i64 i.op) := by rw [cell_of_heap hbox]; rfl
      have d1 : W.cell? ⟨wr.heap.size, 1, none⟩ = some (.int .u64 i.arg) := by rw [cell_of_heap hbox]; rfl
      have d2 : W.cell? ⟨wr.heap.size, 2, none⟩ = some (.int .i64 i.pos) := by rw [cell_of_heap hbox]; rfl
      have d3 : W.cell? ⟨wr.heap.size, 3, none⟩ = some (.int .i64 i.len) := by rw [cell_of_heap hbox]; rfl
      have HX : Hid _ := hbox
      clear hbox
      cases ho : (decide (0 ≤ i.op) && decide (i.op ≤ 23)) with
      | false =>
        have hg : good i = false := by unfold good; rw [ho]; rfl
        obtain ⟨e1, e2⟩ := enc_no HK.out hg
        rw [ho] at hop
        have E1 : Hid _ := e1
        have E2 : Hid _ := e2
        clear ho hg e1 e2 hfi hwi hwb HG
        go_wp2_with fail
        rw [← hW]
        clear hW
        refine (hop W).mono ?_
        rintro e w1 ⟨rfl, rfl⟩
        go_wp2
        go_ret2
        exact ⟨by rw [E1.out, E2.out]; rfl, hbW⟩
      | true =>
        rw [ho] at hop
        cases hf : decide (i.arg / 256 ^ opw i.op = 0) with
        | false =>
          have hg : good i = false := by unfold good; rw [ho, hf]; rfl
          obtain ⟨e1, e2⟩ := enc_no HK.out hg
          rw [hf] at hfi
          have E1 : Hid _ := e1
          have E2 : Hid _ := e2
          clear ho hg e1 e2 hf hwi hwb HG
          go_wp2_with fail
          rw [← hW]
          clear hW
          refine (hop W).mono ?_
          rintro e w1 ⟨rfl, rfl⟩
          go_wp2_with fail
          refine (hfi w1).mono ?_
          rintro e w2 ⟨rfl, hb2⟩
          go_wp2
          go_ret2
          exact ⟨by rw [E1.out, E2.out]; rfl, hbW.trans (hb2.mono hbW.size)⟩
        | true =>
          have hg : good i = true := by unfold good; rw [ho, hf]; rfl
          have hall2 : Hid _ := take_good HK.out hall.out hg
          rw [hf] at hfi
          clear ho hg hf HG
          go_wp2_with fail
          rw [← hW]
          clear hW
          refine (hop W).mono ?_
          rintro e w1 ⟨rfl, rfl⟩
          go_wp2_with fail
          refine (hfi w1).mono ?_
          rintro e w2 ⟨rfl, hb2⟩
          have hb2w : Below w.heap.size w w2 := hbW.trans (hb2.mono hbW.size)
          have hbox2 : w2.heap[wr.heap.size]? = some (.cells (insRow i) 36) := by rw [hb2.block _ (lt_of_heap HX.out)]; exact HX.out
          have hB2 : Bld w.heap.size w.heap.size (Lib.byteCells (encs (l.take k))) w2 := Bld.below hBW hb2
          have HX2 : Hid _ := hbox2
          have f0 : w2.cell? ⟨wr.heap.size, 0, none⟩ = some (.int .i64 i.op) := by rw [cell_of_heap hbox2]; rfl
          clear hbox2 d0 d1 d2 d3 HX hop hfi hb2
          go_wp2_with fail
          refine (writeByte_at w.heap.size w.heap.size _ _ w2 hB2 (by rw [Lib.byteCells_length]; omega) hb2w.size).mono ?_
          rintro e w3 ⟨rfl, hB3, hb3, hk3⟩
          have hbox3 := hk3 _ _ _ _ (by omega) (by decide) HX2.out
          have HX3 : Hid _ := hbox3
          have f0 : w3.cell? ⟨wr.heap.size, 0, none⟩ = some (.int .i64 i.op) := by rw [cell_of_heap hbox3]; rfl
          rw [byteCells_snoc, accT_zero] at hB3
          have hb3w := hb2w.trans hb3
          clear hbox3 hk3 hb3 HX2 hB2
          go_wp2_with fail
          refine (hwi w3).mono ?_
          rintro e w4 ⟨rfl, rfl⟩
          go_wp2
          generalize hm : wr.heap.size = m at *
          have Hm : Hid _ := hm
          clear hm
          go_loopw [30] (fun s wr => ∃ (j : Nat), j ≤ opw i.op ∧ s = .int .i64 j ∧ Hid (wr.heap[m]? = some (.cells (insRow i) 36)) ∧ Bld w.heap.size w.heap.size (Lib.byteCells (accT l k j i)) wr ∧ Below w.heap.size w wr) (fun s _ => opw i.op - (intOf s).toNat)
          case atStart => exact ⟨0, by omega, rfl, HX3, Or.inr hB3, hb3w⟩
          case round =>
            obtain ⟨j, hj, rfl, HXq, hBq, hbq⟩ := hrel
            clear HX3 hB3 hb3w
            by_cases hjl : j < opw i.op
            · have g1 : wr.cell? ⟨m, 1, none⟩ = some (.int .u64 i.arg) := by rw [cell_of_heap HXq.out]; rfl
              have hjw := wrap8 j (by omega)
              have HJ : Hid (i.arg / 2 ^ (8 * j) % 256 = ((byteOf (i.arg / 256 ^ j)).toNat : Int)) := by show _ = _; rw [← pow256, byteOf_toNat]
              have hlq := accT_len l k j i (by omega) hn
              go_wp2_with fail
              refine (writeByte_at w.heap.size w.heap.size _ _ wr hBq (by rw [Lib.byteCells_length]; omega) hbq.size).mono ?_
              rintro e w5 ⟨rfl, hB5, hb5, hk5⟩
              rw [HJ.out, byteCells_snoc, accT_succ] at hB5
              have HX5 : Hid _ := hk5 _ _ _ _ (by omega) (by decide) HXq.out
              clear hk5
              go_wp2
              go_roundw
              case rel => exact ⟨j + 1, by omega, by go_num, HX5, Or.inr hB5, hbq.trans hb5⟩
              case measure => simp [intOf]; omega
            · obtain rfl : j = opw i.op := by omega
              rw [accT_full HK.out] at hBq
              clear HXq
              go_wp2
              go_roundw
              case rel => exact ⟨k + 1, by omega, by go_num, hall2, hBq, hbq⟩
              case measure => simp [intOf]; omega
    · obtain rfl : k = l.length := by omega
      have hall' := hall.out
      rw [List.take_length] at hall' hB
      obtain ⟨e1, e2⟩ := enc_yes hall'
      have E1 : Hid _ := e1
      have E2 : Hid _ := e2
      clear hall' e1 e2
      go_wp2_with fail
      refine (string_at _ _ _ wr hB hbs).mono ?_
      rintro e w1 ⟨rfl, hb1⟩
      go_wp2
      go_ret2
      exact ⟨by rw [E1.out, E2.out]; rfl, hb.trans hb1⟩

end Go.Proofs.Ytbdmiigicpmhiaa
