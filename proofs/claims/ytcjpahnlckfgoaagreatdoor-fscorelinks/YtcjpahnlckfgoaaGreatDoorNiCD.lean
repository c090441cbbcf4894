/- A draft of fscore's over no store: inode's setInode, Format. -/
/- Package fscore without a store: Format, Make. -/
/- Package fscore without a store: Make. -/
import Derived.Test.YtcjpahnlckfgoaaGreatDoorNiAB
import Derived.Test.YtcjpahnlckfgoaaGreatDoorFsO
namespace Go.Proofs.YtcjpahnlckfgoaaGreatDoor
open Go.RowKit
set_option linter.unusedVariables false

theorem Con.cell {w : World} {q j : Nat} (h : Con w q) (hj : j < 32) : ∃ y, w.cell? ⟨q, j, none⟩ = some (.int .u64 y) := by
  obtain ⟨R, _, h2, h3⟩ := h
  obtain ⟨y, hy⟩ := h2 j hj
  exact ⟨y, by rw [cell_of_heap h3]; exact hy⟩
theorem Con.free {w : World} {q : Nat} (h : Con w q) (j : Nat) : w.frozen? ⟨q, j, none⟩ = false := by
  obtain ⟨R, _, h2, h3⟩ := h
  exact frozen_of_heap h3
theorem Con.set {w : World} {q j : Nat} (h : Con w q) (hj : j < 32) (y : Int) : Con (w.setCell ⟨q, j, none⟩ (.int .u64 y)) q := by
  obtain ⟨R, h1, h2, h3⟩ := h
  refine ⟨R.setIfInBounds j (.int .u64 y), by simp [h1], fun i hi => ?_, by rw [setCell_eq_setRow w q j _ _ _ _ h3, setRow_heap w q _ _ _ _ h3]⟩
  by_cases e : j = i
  · subst e
    exact ⟨y, by simp [h1, hj]⟩
  · obtain ⟨z, hz⟩ := h2 i hi
    exact ⟨z, by rw [Array.getElem?_setIfInBounds, if_neg e]; exact hz⟩
theorem Con.drew {w : World} {q : Nat} (h : Con w q) : Con w.drew q := h
section
variable {w : World} {d bd : Nat}
set_option maxRecDepth 100000 in
set_option maxHeartbeats 1000000 in
theorem row_nil (h : NilD w bd d 101) : Calls Tryz.prog 114 #[ptr bd, .int .i64 0] w fun e w' => e = .returned (.slice (some ⟨w.heap.size, 0, none⟩) 9 32) ∧ w' = w.alloc (.cells zc 105) := by
  have hA := at_nil1 h 1
  have hsl : ∀ q W, (Instr.sliceAt 105 (.pointer (some ⟨q, 0, none⟩)) (some (.int .i64 0)) none none).run Tryz.prog W = .ok (.slice (some ⟨q, 0, none⟩) 32 32) W := fun q W => cont_l q 0 0 (by omega) W
  clear h
  go_enter Tryz.func114, Tryz.ntmps114
  go_wp2_with fail
  refine hA.mono ?_
  rintro e w1 ⟨rfl, hw⟩
  have HW : Hid (w1 = w.alloc (.cells zc 105)) := hw
  clear hA hw
  go_wp2
  go_ret
  exact ⟨rfl, HW.out⟩
set_option maxRecDepth 100000 in
set_option maxHeartbeats 2000000 in
theorem setInode_nil (h : NilD w bd d 101) :
    Calls Tryz.prog 53 #[ptr bd, .int .i64 0, .agg #[.int .i64 2, .int .i64 1, .int .i64 0, .int .i64 0, .int .i64 0, .int .i64 0, .int .i64 0, .int .i64 0, .int .i64 0]] w fun e w' => e = .returned (.tuple #[]) ∧ Below w.heap.size w w' := by
  obtain ⟨X, hX⟩ : ∃ X : Array Value, X = #[.int .i64 2, .int .i64 1, .int .i64 0, .int .i64 0, .int .i64 0, .int .i64 0, .int .i64 0, .int .i64 0, .int .i64 0] := ⟨_, rfl⟩
  obtain ⟨W0, hW0⟩ : ∃ W, W = w.alloc (.cells X 63) := ⟨_, rfl⟩
  have hb0 : Below w.heap.size w W0 := by rw [hW0]; exact below_alloc _ _
  have hr0 : W0.heap[w.heap.size]? = some (.cells X 63) := by rw [hW0]; exact heap_alloc_new _ _
  have hA := row_nil (w := W0) (bd := bd) (d := d) ((hb0.block _ (lt_of_heap h)).trans h)
  obtain ⟨W1, hW1⟩ : ∃ W, W = W0.alloc (.cells zc 105) := ⟨_, rfl⟩
  rw [← hW1] at hA
  have hb1 : Below W0.heap.size W0 W1 := by rw [hW1]; exact below_alloc _ _
  obtain ⟨q, hq⟩ : ∃ q, q = W0.heap.size := ⟨_, rfl⟩
  rw [← hq] at hA
  have hq1 : Con W1 q := con_zc (by rw [hW1, hq]; exact heap_alloc_new _ _)
  obtain ⟨p, hp⟩ : ∃ p, p = w.heap.size := ⟨_, rfl⟩
  have hr1 : W1.heap[p]? = some (.cells X 63) := by rw [hp]; exact (hb1.block _ (lt_of_heap hr0)).trans hr0
  have hqp : w.heap.size ≤ q ∧ p ≠ q := by have := lt_of_heap hr0; omega
  have HB1 : Hid (Below w.heap.size w W1) := hb0.trans (hb1.mono hb0.size)
  have HW0 : Hid _ := hW0
  have Hp : Hid (p = w.heap.size) := hp
  have i0 : W1.cell? ⟨p, 0, none⟩ = some (.int .i64 2) := by rw [cell_of_heap hr1, hX]; rfl
  have i1 : W1.cell? ⟨p, 1, none⟩ = some (.int .i64 1) := by rw [cell_of_heap hr1, hX]; rfl
  have i2 : W1.cell? ⟨p, 2, none⟩ = some (.int .i64 0) := by rw [cell_of_heap hr1, hX]; rfl
  obtain ⟨y0, s0⟩ := hq1.cell (j := 0) (by omega)
  obtain ⟨y1, s1⟩ := hq1.cell (j := 1) (by omega)
  obtain ⟨y2, s2⟩ := hq1.cell (j := 2) (by omega)
  have hz := hq1.free
  obtain ⟨W3, hW3⟩ : ∃ W, W = ((W1.setCell ⟨q, 0, none⟩ (.int .u64 2)).setCell ⟨q, 1, none⟩ (.int .u64 1)).setCell ⟨q, 2, none⟩ (.int .u64 0) := ⟨_, rfl⟩
  have hq3 : Con W3 q := by rw [hW3]; exact ((hq1.set (by omega) 2).set (by omega) 1).set (by omega) 0
  have hu3 : Upd q W1 W3 := by rw [hW3]; exact ((Upd.setCell _ _ _ _).trans (Upd.setCell _ _ _ _)).trans (Upd.setCell _ _ _ _)
  have hr3 : W3.drew.heap[p]? = some (.cells X 63) := (hu3.block p (lt_of_heap hr1) hqp.2).trans hr1
  have HQ3 : Hid (Con W3.drew q ∧ Below w.heap.size w W3.drew) := ⟨hq3.drew, ((HB1.out.trans (hu3.below hqp.1 HB1.out.size))).drew⟩
  have HW3 : Hid _ := hW3
  have HR3 : Hid (W3.drew.heap[p]? = some (.cells X 63)) := hr3
  have HX : Hid (X = #[.int .i64 2, .int .i64 1, .int .i64 0, .int .i64 0, .int .i64 0, .int .i64 0, .int .i64 0, .int .i64 0, .int .i64 0]) := hX
  rw [← hX]
  have HYr : Hid (W3.drew.rangeAt p 3 (List.replicate 6 (Value.int .i64 0))) := by
    intro j v hv
    rw [cell_of_heap hr3, hX]
    rw [List.getElem?_replicate] at hv
    split at hv
    · simp only [Option.some.injEq] at hv
      subst hv
      rename_i hj
      match j, hj with
      | 0, _ => rfl
      | 1, _ => rfl
      | 2, _ => rfl
      | 3, _ => rfl
      | 4, _ => rfl
      | 5, _ => rfl
    · cases hv
  obtain ⟨Yl, hYl⟩ : ∃ Yl, Yl = List.replicate 6 (Value.int .i64 0) := ⟨_, rfl⟩
  have HYi : Hid (∀ k : Nat, k < 6 → ∀ W, (Instr.index 61 (.agg Yl.toArray) (.int .i64 (k : Int))).run Tryz.prog W = .ok (.int .i64 0) W) := fun k hk W => by
    have := blk_index (List.replicate 6 0) (by simp) k hk W
    rw [hYl]
    rw [List.getD_eq_getElem?_getD, List.getElem?_replicate, if_pos hk] at this
    exact this
  have HYs : Hid (Yl.length = 6) := by rw [hYl]; show _ = _; simp
  rw [← hYl] at HYr
  clear h hb0 hr0 hW0 hW1 hb1 hq hq1 hr1 hp hX hW3 hq3 hu3 hr3 hYl
  go_enter Tryz.func53, Tryz.ntmps53
  go_wp2_with fail
  rw [← HW0.out]
  refine hA.mono ?_
  rintro e w1 ⟨rfl, hw⟩
  subst hw
  rw [← Hp.out]
  clear hA
  go_wp2_with fail
  go_region
  rw [← HW3.out]
  clear HW3 i0 i1 i2 s0 s1 s2 hz
  obtain ⟨W4, hW4⟩ : ∃ W, W = W3.drew := ⟨_, rfl⟩
  rw [← hW4] at HQ3 HR3 HYr ⊢
  clear hW4
  go_wp2_with (first | (refine wpList_load_mid rfl 61 _ rfl p 3 rfl Yl _ HYr.out Tryz.underlying61 rfl (by rw [HYs.out]; kernel_rfl) ?_) | go_in)
  go_loopw [29] (fun s wr => ∃ (k : Nat), k ≤ 6 ∧ s = .int .i64 k ∧ Hid (Con wr q ∧ Below w.heap.size w wr)) (fun s _ => 6 - (intOf s).toNat)
  case atStart => exact ⟨0, by omega, rfl, HQ3⟩
  case round =>
    obtain ⟨k, hk, rfl, HS⟩ := hrel
    by_cases hlt : k < 6
    · have hki : decide ((k : Int) < 6) = true := by simp; omega
      have hk6 : (k : Int) < 6 := by omega
      have hix := HYi.out k hlt
      obtain ⟨z, hcq⟩ := HS.out.1.cell (j := 3 + k) (by omega)
      have hfz := HS.out.1.free (3 + k)
      have HN : Hid (Con (wr.setCell ⟨q, 3 + k, none⟩ (.int .u64 0)) q ∧ Below w.heap.size w (wr.setCell ⟨q, 3 + k, none⟩ (.int .u64 0))) := ⟨HS.out.1.set (by omega) 0, HS.out.2.trans ((Upd.setCell q (3 + k) wr _).below hqp.1 HS.out.2.size)⟩
      clear HS
      go_wp2
      go_roundw
      case rel => exact ⟨k + 1, by omega, by go_num, HN⟩
      case measure => simp [intOf]; omega
    · have hki : decide ((k : Int) < 6) = false := by simp; omega
      have hk6 : ¬ (k : Int) < 6 := by omega
      go_wp2
      go_end0
      exact ⟨rfl, HS.out.2⟩
end
end Go.Proofs.YtcjpahnlckfgoaaGreatDoor

namespace Go.Proofs.YtcjpahnlckfgoaaGreatDoor
open Go.RowKit
set_option linter.unusedVariables false

theorem UpdP.trans' {P : Nat → Prop} {a b c : World} {q : Nat} (h : UpdP P a b) (k : Upd q b c) (hq : a.heap.size ≤ q) : UpdP P a c :=
  ⟨k.os.trans h.os, k.tape.trans h.tape, k.output.trans h.output, Nat.le_trans h.size k.size, fun i hi hp => (k.block i (Nat.lt_of_lt_of_le hi h.size) (by omega)).trans (h.block i hi hp)⟩
section
variable {w : World} {d bd : Nat}
set_option maxRecDepth 100000 in
set_option maxHeartbeats 2000000 in
theorem format_none (h : NilF w d 0) : Calls Tryz.prog 20 #[fsto d, .int .i64 30] w fun e w' => e = .returned (.int .i64 101) ∧ UpdP (fun k => k = d) w w' := by
  have hni : ∀ W, (binOp BinOp.eql 86 (fsto d) .nilIface).run Tryz.prog W = .ok (.bool false) W := (dft_ok (dsk 0 0 0) 0 d []).nil
  obtain ⟨W1, hW1⟩ : ∃ W, W = w.alloc (.cells #[fsto d, .slice none 0 0, .int .i64 0] 102) := ⟨_, rfl⟩
  have hb1 : Below w.heap.size w W1 := by rw [hW1]; exact below_alloc _ _
  obtain ⟨bd, hbd⟩ : ∃ b, b = w.heap.size := ⟨_, rfl⟩
  have hd1 : NilD W1 bd d 0 := by rw [hW1, hbd]; exact heap_alloc_new _ _
  have hf1 : NilF W1 d 0 := (hb1.block _ (lt_of_heap h)).trans h
  have HB1 : Hid (Below w.heap.size w W1) := hb1
  have HW1 : Hid _ := hW1
  have Hbd : Hid (bd = w.heap.size) := hbd
  have HD1 : Hid (NilD W1 bd d 0 ∧ NilF W1 d 0) := ⟨hd1, hf1⟩
  have Hdl : Hid (d < w.heap.size) := lt_of_heap h
  clear h hW1 hb1 hbd hd1 hf1
  go_enter Tryz.func20, Tryz.ntmps20
  go_wp2
  rw [← HW1.out, ← Hbd.out]
  clear HW1
  go_loopw [20] (fun z wr => ∃ (k : Nat), k ≤ 12 ∧ z = .int .i64 k ∧ Hid ((k = 0 ∧ NilD wr bd d 0 ∧ NilF wr d 0) ∨ (0 < k ∧ NilD wr bd d 101)) ∧ Hid (UpdP (fun k => k = bd ∨ k = d) W1 wr)) (fun z _ => 12 - (intOf z).toNat)
  case atStart => exact ⟨0, by omega, rfl, Or.inl ⟨rfl, HD1.out⟩, UpdP.refl _ _⟩
  case round =>
    clear HD1
    obtain ⟨k, hk, rfl, HS, HU⟩ := hrel
    by_cases hlt : k < 12
    · have hki : decide ((k : Int) < 12) = true := by simp; omega
      have hA : Calls Tryz.prog 50 #[ptr bd, .int .i64 (k : Int)] wr fun e w' => ∃ q, e = .returned (ptr q) ∧ wr.heap.size ≤ q ∧ w'.heap[q]? = some (.cells zc 105) ∧ NilD w' bd d 101 ∧ UpdP (fun k => k = bd ∨ k = d) wr w' := by
        rcases HS.out with ⟨-, h1, h2⟩ | ⟨-, h1⟩
        · exact at_nil0 h1 h2 _
        · refine (at_nil1 h1 _).mono ?_
          rintro e w' ⟨rfl, rfl⟩
          exact ⟨_, rfl, Nat.le_refl _, heap_alloc_new _ _, ((below_alloc wr _).block _ (lt_of_heap h1)).trans h1, UpdP.of_below (below_alloc _ _)⟩
      have HSl : Hid (bd < wr.heap.size) := by
        rcases HS.out with ⟨-, h1, h2⟩ | ⟨-, h1⟩
        · exact lt_of_heap h1
        · exact lt_of_heap h1
      clear HS
      go_wp2_with fail
      refine hA.mono ?_
      rintro e w3 ⟨q, rfl, hq, hq2, hn, hu⟩
      have hz := lit_zc
      have HQ : Hid (w3.heap[q]? = some (.cells zc 105)) := hq2
      have hu3 := Upd.setRow q w3 zc
      have HN : Hid (NilD (w3.setRow q zc) bd d 101) := (hu3.block _ (lt_of_heap hn) (by have := HSl.out; omega)).trans hn
      have HU3 : Hid (UpdP (fun k => k = bd ∨ k = d) W1 (w3.setRow q zc)) := by
        refine HU.out.trans (hu.trans' hu3 hq)
      have HZs : Hid (zc.size = 32) := rfl
      clear hA hq2 hn hu hu3
      go_wp2_with (first
        | (refine wpList_store_row rfl 105 _ _ rfl q zc rfl rfl 105 zc HQ.out (by rw [HZs.out]; exact contSize) rfl (urow_one _) ?_)
        | go_in)
      go_roundw
      case rel => exact ⟨k + 1, by omega, by go_num, Or.inr ⟨by omega, HN.out⟩, HU3⟩
      case measure => simp [intOf]; omega
    · have hki : decide ((k : Int) < 12) = false := by simp; omega
      have hk12 : ¬ (k : Int) < 12 := by omega
      have hn : NilD wr bd d 101 := by
        rcases HS.out with ⟨h0, -⟩ | ⟨-, h1⟩
        · omega
        · exact h1
      have HN : Hid (NilD wr bd d 101) := hn
      have hH := newHead_at 30 wr (by omega) (by omega)
      clear HS hn
      go_wp2_with fail
      refine hH.mono ?_
      rintro e w2 ⟨hi, hb, rfl, hbm, hb2⟩
      have hn2 : NilD w2 bd d 101 := (hb2.block _ (lt_of_heap HN.out)).trans HN.out
      have hS := setHead_nil hn2 hbm
      have HN2 : Hid (NilD w2 bd d 101 ∧ UpdP (fun k => k = bd ∨ k = d) W1 w2) := ⟨hn2, HU.out.trans (UpdP.of_below hb2)⟩
      clear hH hbm hb2 hn2 HN HU
      go_wp2_with fail
      refine hS.mono ?_
      rintro e w3 ⟨rfl, hb3⟩
      have hn3 : NilD w3 bd d 101 := (hb3.block _ (lt_of_heap HN2.out.1)).trans HN2.out.1
      have hI := setInode_nil hn3
      have HN3 : Hid (NilD w3 bd d 101 ∧ UpdP (fun k => k = bd ∨ k = d) W1 w3) := ⟨hn3, HN2.out.2.trans (UpdP.of_below hb3)⟩
      clear hS hb3 hn3 HN2
      go_wp2_with fail
      refine hI.mono ?_
      rintro e w4 ⟨rfl, hb4⟩
      have hn4 : NilD w4 bd d 101 := (hb4.block _ (lt_of_heap HN3.out.1)).trans HN3.out.1
      have hL := ilay_nil hn4
      have HE : Hid (UpdP (fun k => k = d) w w4) := by
        have h5 := HN3.out.2.trans (UpdP.of_below hb4)
        have b1 := HB1.out
        refine ⟨h5.os.trans b1.os, h5.tape.trans b1.tape, h5.output.trans b1.output, Nat.le_trans b1.size h5.size, fun k hk hq => ?_⟩
        rw [h5.block k (Nat.lt_of_lt_of_le hk b1.size) (fun x => x.elim (fun y => by rw [y, Hbd.out] at hk; omega) hq), b1.block k hk]
      clear hI hb4 hn4 HN3
      go_wp2_with fail
      refine hL.mono ?_
      rintro e w5 ⟨rfl, hw⟩
      rw [hw]
      clear hL hw w5
      go_wp2
      go_ret
      exact ⟨rfl, HE.out⟩
end
end Go.Proofs.YtcjpahnlckfgoaaGreatDoor

namespace Go.Proofs.YtcjpahnlckfgoaaGreatDoor
open Go.RowKit
set_option linter.unusedVariables false

section
variable {w : World} {d : Nat}
set_option maxRecDepth 100000 in
theorem plant_none (h : NilF w d 0) : Calls Tryz.prog 48 #[fsto d, .int .i64 30, .slice none 0 0] w fun e w' => e = .panicked (pan 101) ∧ UpdP (fun k => k = d) w w' := by
  have hF := format_none h
  clear h
  go_enter Tryz.func48, Tryz.ntmps48
  go_wp2_with fail
  refine hF.mono ?_
  rintro e w1 ⟨rfl, hu⟩
  have HU : Hid (UpdP (fun k => k = d) w w1) := hu
  clear hF hu
  go_wp2_with (first
    | (go_at_call 102; refine (must_no 101 rfl _).mono ?_; rintro e wz ⟨rfl, hw⟩; rw [hw]; clear hw wz)
    | fail)
  exact ⟨rfl, rfl, HU.out⟩
set_option maxRecDepth 100000 in
theorem make1_none (h : NilF w d 0) {b1 b2 : Nat} (h1 : Bx w b1 (.int .i64 30) 3) (h2 : Bx w b2 (.slice none 0 0) 33) : Calls Tryz.prog 47 #[fsto d, ptr b1, ptr b2] w fun e w' => e = .panicked (pan 101) ∧ UpdP (fun k => k = d) w w' := by
  have hF := plant_none h
  have c1 := h1.cell
  have c2 := h2.cell
  clear h h1 h2
  go_enter Tryz.func47, Tryz.ntmps47
  go_wp2_with fail
  refine hF.mono ?_
  rintro e w1 ⟨rfl, hu⟩
  have HU : Hid (UpdP (fun k => k = d) w w1) := hu
  clear hF hu
  go_wp2
  exact ⟨rfl, rfl, HU.out⟩
set_option maxHeartbeats 2000000 in
set_option maxRecDepth 100000 in
theorem attempt_none {b1 b2 : Nat} (h1 : Bx w b1 (.int .i64 30) 3) (h2 : Bx w b2 (.slice none 0 0) 33) :
    Calls Tryz.prog 43 #[.nilIface, .func (.func 47) #[] #[ptr b1, ptr b2]] w fun e w' => e = .returned (.int .i64 101) ∧ Below w.heap.size w w' := by
  have hmf : ∀ (fn : Fn) (first cap : Array Value) (w : World), (Instr.makeFunc fn first cap).run Tryz.prog w = .ok (.func fn first cap) w := fun _ _ _ _ => rfl
  obtain ⟨W0, hW0⟩ : ∃ W, W = w.alloc (.cells #[.int .i64 0] 40) := ⟨_, rfl⟩
  have hb0 : Below w.heap.size w W0 := by rw [hW0]; exact below_alloc _ _
  have hs0 : W0.heap.size = w.heap.size + 1 := by rw [hW0]; simp
  have hr0 : W0.heap[w.heap.size]? = some (.cells #[.int .i64 0] 40) := by rw [hW0]; exact heap_alloc_new _ _
  obtain ⟨W1, hW1⟩ : ∃ W, W = W0.alloc (.cells #[.nilIface, .slice none 0 0, .int .i64 0] 149) := ⟨_, rfl⟩
  have hb1 : Below W0.heap.size W0 W1 := by rw [hW1]; exact below_alloc _ _
  have hn1 : NilF W1 W0.heap.size 0 := by rw [hW1]; exact heap_alloc_new _ _
  have hB1 : Below w.heap.size w W1 := hb0.trans (hb1.mono hb0.size)
  have hC := make1_none hn1 (h1.below hB1) (h2.below hB1)
  have HR1 : Hid (W1.heap[w.heap.size]? = some (.cells #[.int .i64 0] 40)) := (hb1.block _ (lt_of_heap hr0)).trans hr0
  have HB1 : Hid (Below w.heap.size w W1) := hB1
  have HW0 : Hid _ := hW0
  have HW1 : Hid _ := hW1
  have HS0 : Hid (W0.heap.size = w.heap.size + 1) := hs0
  obtain ⟨c, hc⟩ : ∃ c, c = w.heap.size := ⟨_, rfl⟩
  have Hc : Hid (c = w.heap.size) := hc
  have hcf := maken_call
  clear h1 h2 hb0 hs0 hr0 hb1 hn1 hB1 hW0 hW1 hc
  go_enter_defers Tryz.func43, Tryz.ntmps43
  go_wp2_with fail
  rw [← HW0.out, ← HW1.out, ← HS0.out, ← Hc.out]
  refine hC.mono ?_
  rintro e w2 ⟨rfl, hu⟩
  have h2 : w2.heap[c]? = some (.cells #[.int .i64 0] 40) := by
    rw [hu.block c (by rw [Hc.out]; exact lt_of_heap HR1.out) (by rw [Hc.out, HS0.out]; omega), Hc.out]
    exact HR1.out
  have c2 : w2.cell? ⟨c, 0, none⟩ = some (.int .i64 0) := by rw [cell_of_heap h2]; rfl
  have f2 : w2.frozen? ⟨c, 0, none⟩ = false := frozen_of_heap h2
  have hE : Below w.heap.size w (w2.setCell ⟨c, 0, none⟩ (.int .i64 101)) := by
    have hb2 : Below w.heap.size W1 w2 := hu.below (fun k hk => by rw [hk, HS0.out]; omega) HB1.out.size
    exact (HB1.out.trans hb2).trans ((Upd.setCell c 0 w2 _).below (by rw [Hc.out]; exact Nat.le_refl _) (Nat.le_trans HB1.out.size hb2.size))
  have hc4 : (w2.setCell ⟨c, 0, none⟩ (.int .i64 101)).cell? ⟨c, 0, none⟩ = some (.int .i64 101) := by
    rw [cell_of_heap (cs := #[.int .i64 101]) (t := 40) (fr := (0, 0)) (by rw [setCell_eq_setRow w2 c 0 _ _ _ _ h2, setRow_heap w2 c _ _ _ _ h2]; rfl)]
    rfl
  refine leaves_cons (f := 94) (args := #[ptr c]) (by simp) (by simp [go_sem]) ?_
  refine (catch_panic c 101 0 _ c2 f2).mono ?_
  rintro e u' w'' ⟨rfl, rfl, rfl⟩
  simp [Leaves, settle, results, Tryz.results43, go_sem, hc4]
  exact hE
set_option maxHeartbeats 1000000 in
set_option maxRecDepth 100000 in
theorem Make_none (w : World) : Calls Tryz.prog 18 #[.nilIface, .int .i64 30, .slice none 0 0] w fun e w' => e = .returned (.int .i64 101) ∧ Below w.heap.size w w' := by
  have hmf : ∀ (fn : Fn) (first cap : Array Value) (w : World), (Instr.makeFunc fn first cap).run Tryz.prog w = .ok (.func fn first cap) w := fun _ _ _ _ => rfl
  obtain ⟨W1, hW1⟩ : ∃ W, W = w.alloc (.cells #[.int .i64 30] 3) := ⟨_, rfl⟩
  have hb1 : Below w.heap.size w W1 := by rw [hW1]; exact below_alloc _ _
  have hs1 : W1.heap.size = w.heap.size + 1 := by rw [hW1]; simp
  have hx1 : Bx W1 w.heap.size (.int .i64 30) 3 := by rw [hW1]; exact heap_alloc_new _ _
  obtain ⟨W2, hW2⟩ : ∃ W, W = W1.alloc (.cells #[.slice none 0 0] 33) := ⟨_, rfl⟩
  have hb2 : Below W1.heap.size W1 W2 := by rw [hW2]; exact below_alloc _ _
  have hx2 : Bx W2 W1.heap.size (.slice none 0 0) 33 := by rw [hW2]; exact heap_alloc_new _ _
  have hC := attempt_none (hx1.below hb2) hx2
  rw [hs1] at hC
  have HB : Hid (Below w.heap.size w W2) := hb1.trans (hb2.mono hb1.size)
  have HW1 : Hid _ := hW1
  have HW2 : Hid _ := hW2
  clear hb1 hs1 hx1 hb2 hx2 hW1 hW2
  go_enter Tryz.func18, Tryz.ntmps18
  go_wp2_with fail
  rw [← HW1.out, ← HW2.out]
  refine hC.mono ?_
  rintro e w3 ⟨rfl, hb⟩
  have HE : Hid (Below w.heap.size w w3) := HB.out.trans (hb.mono HB.out.size)
  clear hC hb
  go_wp2
  go_ret
  exact ⟨rfl, HE.out⟩
end
end Go.Proofs.YtcjpahnlckfgoaaGreatDoor
