/- Package strings, as package dir calls it: a Builder that a call has made, Repeat of zeros, TrimRight of zeros. -/
/- Package strings, as package dir calls it: Repeat of a zero byte, TrimRight of zero bytes. -/
import Derived.Test.YtcjpahnlckfgoaaGreatDoorInoX
import Derived.Shelf.Strings.BuilderF
import Derived.Shelf.Strings.Builder2
import Derived.Lib.AppendStr
import Derived.Lib.MinMax
import Derived.Laws.AppendOwn
import Derived.Laws.Externs
import Derived.Laws.Bits64b
import Derived.Laws.IdiomStrings
import Derived.BigQuiet
import Derived.OwnWalk
import Derived.Deep.LoopGhost
namespace Go.Proofs.YtcjpahnlckfgoaaGreatDoor
open Go.RowKit Go.Lib Go.Shelf
set_option linter.unusedVariables false

abbrev Bld := Lib.IsBuilderF 275 5
abbrev BldAt := Lib.BuilderAtF 275 5
theorem bldSize : (Tryz.prog.info? 275).map (fun i => i.size) = some 2 := by kernel_rfl
theorem bldLies : liesAt Tryz.prog Tryz.prog.depth 275 (2 / Tryz.prog.cellsOf 275) 0 275 1 = true := by kernel_rfl
theorem eql_nil (a : Addr) (w : World) : (binOp .eql 273 (.pointer (some a)) (.pointer none)).run Tryz.prog w = .ok (.bool false) w := by kernel_rfl

set_option maxRecDepth 100000 in
theorem copyCheck_used (b : Nat) (w : World) (h0 : w.cell? ⟨b, 0, none⟩ = some (.pointer (some ⟨b, 0, none⟩))) :
    Calls Tryz.prog 215 #[.pointer (some ⟨b, 0, none⟩)] w fun e w' => e = .returned (.tuple #[]) ∧ w' = w := by
  obtain ⟨j, hj, _⟩ := Option.map_eq_some_iff.1 bldSize
  go_enter Tryz.func215, Tryz.ntmps215
  go_wp2
  rw [Lib.run_neq_ptr_same w _ Tryz.underlying273 hj]
  go_wp2
  go_end0
  exact ⟨rfl, rfl⟩

set_option maxRecDepth 100000 in
theorem copyCheck_fresh (b : Nat) (w : World) (h0 : w.cell? ⟨b, 0, none⟩ = some (.pointer none)) (hsh : w.shape? b = some (275, 2)) (hfr : w.frozen? ⟨b, 0, none⟩ = false) :
    Calls Tryz.prog 215 #[.pointer (some ⟨b, 0, none⟩)] w fun e w' => e = .returned (.tuple #[]) ∧ w' = w.setCell ⟨b, 0, none⟩ (.pointer (some ⟨b, 0, none⟩)) := by
  obtain ⟨j, hj, hjs⟩ := Option.map_eq_some_iff.1 bldSize
  go_enter Tryz.func215, Tryz.ntmps215
  go_wp2
  rw [Lib.run_to_unsafe w ⟨b, 0, none⟩ Tryz.underlying273 Tryz.underlying291 hj (by rw [hjs]; decide) hsh (Nat.zero_lt_succ 1)]
  simp only [Result.andThen]
  rw [Oper.upon_value]
  go_wp2
  rw [run_callFunc_extern Tryz.func221 (by kernel_rfl) (by kernel_rfl) (by kernel_rfl) (e := Extern.AbiNoEscape.same) (by kernel_rfl)]
  rw [Lib.run_noEscape]
  simp only [Result.andThen]
  rw [Oper.upon_value]
  go_wp2
  rw [Lib.run_from_unsafe w ⟨b, 0, none⟩ Tryz.underlying291 Tryz.underlying273 hj hsh bldLies]
  simp only [Result.andThen]
  rw [Oper.upon_value]
  go_wp2
  go_end0
  exact ⟨rfl, rfl⟩

theorem copyCheck_at (B b : Nat) (bs : List Value) (w : World) (h : Bld B b bs w) :
    Calls Tryz.prog 215 #[.pointer (some ⟨b, 0, none⟩)] w fun e w' => e = .returned (.tuple #[]) ∧ BldAt B b (.pointer (some ⟨b, 0, none⟩)) bs w' ∧ Below B w w' := by
  rcases h with h | h
  · refine (copyCheck_fresh b w h.cell0 h.shape h.frozen0).mono ?_
    rintro e w' ⟨rfl, rfl⟩
    exact ⟨rfl, h.used _, (Below.refl B w).setCell (p := ⟨b, 0, none⟩) h.1 _⟩
  · refine (copyCheck_used b w h.cell0).mono ?_
    rintro e w' ⟨rfl, rfl⟩
    exact ⟨rfl, h, Below.refl B _⟩
theorem bldLen_at (B b : Nat) (bs : List Value) (w : World) (h : Bld B b bs w) :
    Calls Tryz.prog 206 #[.pointer (some ⟨b, 0, none⟩)] w fun e w' => e = .returned (.int .i64 bs.length) ∧ w' = w := by
  obtain ⟨p, hB, v, hbk, hown, hne⟩ : ∃ p, BldAt B b p bs w := by
    rcases h with h | h
    · exact ⟨_, h⟩
    · exact ⟨_, h⟩
  obtain ⟨ao, cap, rfl⟩ : ∃ ao cap, v = .slice ao bs.length cap := by
    rcases hown.2 with ⟨hv, h0⟩ | ⟨g, cap, cur, fz, hv, _⟩
    · exact ⟨none, 0, by rw [hv, h0]⟩
    · exact ⟨_, _, hv⟩
  have c1 : w.cell? ⟨b, 1, none⟩ = some (.slice ao bs.length cap) := by rw [cell_of_heap hbk]; rfl
  clear hbk hown hne h
  go_enter Tryz.func206, Tryz.ntmps206
  go_wp2
  go_ret
  exact ⟨rfl, rfl⟩
set_option maxHeartbeats 1000000 in
theorem writeString_at (B b : Nat) (bs : List Value) (s : List UInt8) (w : World) (h : Bld B b bs w) (hlen : bs.length + s.length ≤ 140737488355328) (hBw : B ≤ w.heap.size) :
    Calls Tryz.prog 205 #[.pointer (some ⟨b, 0, none⟩), tx s] w fun e w' => e = .returned (.tuple #[.int .i64 s.length, .nilIface]) ∧ BldAt B b (.pointer (some ⟨b, 0, none⟩)) (bs ++ Lib.strCells ⟨s.toArray⟩) w' ∧ Below B w w' := by
  obtain ⟨i0, hi0, hzz⟩ := Option.map_eq_some_iff.1 byteInfo
  simp only [Prod.mk.injEq] at hzz
  obtain ⟨hz0, hz1, hz2⟩ := hzz
  have hss : (ByteArray.mk s.toArray).size = s.length := by simp [ByteArray.size]
  go_enter Tryz.func205, Tryz.ntmps205
  go_wp2_with fail
  refine (copyCheck_at B b bs _ h).mono ?_
  rintro e w1 ⟨rfl, h1, hb1⟩
  obtain ⟨hB, v, hbk, hown, hne⟩ := h1
  have c0 : w1.cell? ⟨b, 0, none⟩ = some (.pointer (some ⟨b, 0, none⟩)) := by rw [cell_of_heap hbk]; rfl
  have c1 : w1.cell? ⟨b, 1, none⟩ = some v := by rw [cell_of_heap hbk]; rfl
  go_wp2_with (at_builtin; refine Lib.wpList_append_own_stringF _ rfl _ _ 192 9 rfl B 5 i0 Tryz.underlying192 Tryz.underlying9 hi0 hz0 hz1 hz2 _ _ _ rfl hown ⟨s.toArray⟩ rfl ?c3 ?c4 ?c5 ?_)
  case c3 => rw [hss]; unfold maxLen; omega
  case c4 => rw [hss]; omega
  case c5 => have := hb1.size; omega
  intro v' w2 hown' hgrow _
  have hlt : b < w1.heap.size := lt_of_heap hbk
  have hb2 : w2.heap[b]? = some (.cells #[.pointer (some ⟨b, 0, none⟩), v] 275 (0, 0)) := by
    rw [hgrow.block b hlt (fun e => hne e.symm)]
    exact hbk
  have d1 : w2.cell? ⟨b, 1, none⟩ = some v := by rw [cell_of_heap hb2]; rfl
  have f1 : w2.frozen? ⟨b, 1, none⟩ = false := frozen_of_heap hb2
  obtain ⟨ao, n', cap, rfl⟩ : ∃ ao n' cap, v' = .slice ao n' cap := by
    rcases hown'.2 with ⟨hv, _⟩ | ⟨g, cap, cur, fz, hv, _⟩
    · exact ⟨_, _, _, hv⟩
    · exact ⟨_, _, _, hv⟩
  go_wp2
  go_ret2
  refine ⟨rfl, ?_, ?_⟩
  · exact Lib.BuilderAtF.put (T := 275) (e := 5) hB hb2 (bs' := bs ++ Lib.strCells ⟨s.toArray⟩) (by rw [List.length_append, Lib.strCells_length, hss]; exact hown') (by decide)
  · exact (hb1.grown hgrow (by have := hb1.size; omega) (fun k hk => (hown.lt k hk).1)).setCell (p := ⟨b, 1, none⟩) hB _

def strRen : Go.Shelf.Ren := ⟨fun | 169 => 207 | 241 => 216 | 277 => 222 | n => n, fun | 70 => 273 | 9 => 9 | 0 => 0 | 72 => 275 | 37 => 192 | 127 => 289 | 3 => 3 | 5 => 5 | n => n, fun | n => n⟩
theorem strLays : Go.Proofs.Lays.n169 Tryz.prog strRen := {
  mixed := by kernel_rfl
  f169 := Tryz.func207.trans (congrArg some (by kernel_rfl))
  t0 := Tryz.underlying0
  a0 := Tryz.isAgg0
  z0 := Tryz.sizeOf0
  v0 := Tryz.zeroValue0
  t3 := Tryz.underlying3
  a3 := Tryz.isAgg3
  z3 := Tryz.sizeOf3
  v3 := Tryz.zeroValue3
  t9 := Tryz.underlying9
  a9 := Tryz.isAgg9
  z9 := Tryz.sizeOf9
  v9 := Tryz.zeroValue9
  t37 := Tryz.underlying192
  a37 := Tryz.isAgg192
  z37 := Tryz.sizeOf192
  v37 := Tryz.zeroValue192
  t70 := Tryz.underlying273
  a70 := Tryz.isAgg273
  z70 := Tryz.sizeOf273
  v70 := Tryz.zeroValue273
  t72 := Tryz.underlying275
  a72 := Tryz.isAgg275
  z72 := Tryz.sizeOf275
  v72 := Tryz.zeroValue275
  t127 := Tryz.underlying289
  a127 := Tryz.isAgg289
  z127 := Tryz.sizeOf289
  v127 := Tryz.zeroValue289 }
theorem growLays : Go.Proofs.Lays.n241 Tryz.prog strRen := {
  mixed := by kernel_rfl
  f241 := Tryz.func216.trans (congrArg some (by kernel_rfl))
  f277 := Tryz.func222.trans (congrArg some (by kernel_rfl))
  t0 := Tryz.underlying0
  a0 := Tryz.isAgg0
  z0 := Tryz.sizeOf0
  v0 := Tryz.zeroValue0
  t3 := Tryz.underlying3
  a3 := Tryz.isAgg3
  z3 := Tryz.sizeOf3
  v3 := Tryz.zeroValue3
  t37 := Tryz.underlying192
  a37 := Tryz.isAgg192
  z37 := Tryz.sizeOf192
  v37 := Tryz.zeroValue192
  t70 := Tryz.underlying273
  a70 := Tryz.isAgg273
  z70 := Tryz.sizeOf273
  v70 := Tryz.zeroValue273
  t72 := Tryz.underlying275
  a72 := Tryz.isAgg275
  z72 := Tryz.sizeOf275
  v72 := Tryz.zeroValue275 }
theorem strExtra : Builder.Extra Tryz.prog strRen := {
  sizeBuilder := by kernel_rfl
  liesBuilder := by kernel_rfl
  t5 := Tryz.underlying5
  a5 := Tryz.isAgg5
  z5 := Tryz.sizeOf5
  v5 := Tryz.zeroValue5
  infoByte := by kernel_rfl
  cellsByte := by kernel_rfl
  sizeByte := by kernel_rfl
  neB5 := by decide }
theorem bldString_at (B b : Nat) (l : List UInt8) (w : World) (h : Bld B b (Lib.byteCells l) w) (hBw : B ≤ w.heap.size) :
    Calls Tryz.prog 207 #[.pointer (some ⟨b, 0, none⟩)] w fun e w' => e = .returned (tx l) ∧ Bld B b (Lib.byteCells l) w' ∧ Below B w w' := Any.Builder_String_any_f strLays strExtra B b l w h hBw
theorem bgrow_at (B b n : Nat) (w : World) (hB : B ≤ b) (hbk : w.heap[b]? = some (.cells #[.pointer (some ⟨b, 0, none⟩), .slice none 0 0] 275 (0, 0))) (hBw : B ≤ w.heap.size) (hn : n ≤ 281474976710656) :
    Calls Tryz.prog 216 #[.pointer (some ⟨b, 0, none⟩), .int .i64 n] w fun e w' => e = .returned (.tuple #[]) ∧ (Lib.BuilderAt 275 5 B b (.pointer (some ⟨b, 0, none⟩)) [] w' ∧ Below B w w') := Any.Builder_grow_fresh growLays strExtra B b n w hB hbk hBw hn
set_option maxHeartbeats 1000000 in
theorem grow_at (B b n : Nat) (w : World) (hB : B ≤ b) (hbk : w.heap[b]? = some (.cells #[.pointer none, .slice none 0 0] 275 (0, 0))) (hBw : B ≤ w.heap.size) (hn1 : 1 ≤ n) (hn : n ≤ 1000) :
    Calls Tryz.prog 204 #[.pointer (some ⟨b, 0, none⟩), .int .i64 n] w fun e w' => e = .returned (.tuple #[]) ∧ Bld B b [] w' ∧ Below B w w' := by
  have hC := copyCheck_fresh b w (by rw [cell_of_heap hbk]; rfl) (by simp [World.shape?, hbk]) (frozen_of_heap hbk)
  obtain ⟨W, hW⟩ : ∃ W, W = w.setCell ⟨b, 0, none⟩ (.pointer (some ⟨b, 0, none⟩)) := ⟨_, rfl⟩
  rw [← hW] at hC
  have hbk1 : W.heap[b]? = some (.cells #[.pointer (some ⟨b, 0, none⟩), .slice none 0 0] 275 (0, 0)) := by
    rw [hW]
    simp [World.setCell, Array.getElem?_modify, hbk]
  have hbW : Below B w W := by rw [hW]; exact (Below.refl B w).setCell (p := ⟨b, 0, none⟩) hB _
  have c1 : W.cell? ⟨b, 1, none⟩ = some (.slice none 0 0) := by rw [cell_of_heap hbk1]; rfl
  have hG := fun q => bgrow_at B b n (W.drewN q) hB hbk1 (Nat.le_trans hBw hbW.size) (by omega)
  have HBW : Hid (Below B w W) := hbW
  clear hW hbk hbk1 hbW
  have hn0 : ¬ (n : Int) < 0 := by omega
  have hlt : (0 : Int) < (n : Int) := by omega
  go_enter Tryz.func204, Tryz.ntmps204
  go_wp2_with fail
  refine hC.mono ?_
  rintro e w1 ⟨rfl, hw⟩
  rw [hw]
  clear hw w1 hC
  go_wp2
  go_quiet (fail)
  go_wp2_with fail
  refine (hG _).mono ?_
  rintro e w1 ⟨rfl, h1, h2⟩
  have HQ : Hid (Bld B b [] w1 ∧ Below B w w1) := ⟨Lib.IsBuilderF.of (Or.inr h1), HBW.out.trans (((Di.drewN_below ⟨_, rfl⟩).mono (Nat.le_trans hBw HBW.out.size)).trans h2)⟩
  clear h1 h2 hG
  go_wp2
  go_end0
  exact ⟨rfl, HQ.out⟩
end Go.Proofs.YtcjpahnlckfgoaaGreatDoor

namespace Go.Proofs.YtcjpahnlckfgoaaGreatDoor
open Go.RowKit Go.Lib Go.Shelf
set_option linter.unusedVariables false

theorem text_same (l : List UInt8) : (ByteArray.mk l.toArray).toList = l := ByteArray.toList_mk l
theorem text_glue (x y : List UInt8) : ByteArray.mk x.toArray ++ ByteArray.mk y.toArray = ByteArray.mk (x ++ y).toArray := ByteArray.mk_append_mk x y
theorem tx_to (l : List UInt8) (k : Nat) (h : k ≤ l.length) (w : World) : (Instr.slice 9 (tx l) none (some (.int .i64 k)) none).run Tryz.prog w = .ok (tx (l.take k)) w := by
  rw [run_slice_string_to_if w _ _ _ _ Tryz.underlying9, if_pos (by simp [ByteArray.size]; omega), ByteArray.extract_mk]
  simp
theorem tx_from (l : List UInt8) (k : Nat) (h : k ≤ l.length) (w : World) : (Instr.slice 9 (tx l) (some (.int .i64 k)) none none).run Tryz.prog w = .ok (tx (l.drop k)) w := by
  rw [run_slice_string_from_if w _ _ _ _ Tryz.underlying9, if_pos (by simp [ByteArray.size]; omega), ByteArray.extract_mk]
  have : (ByteArray.mk l.toArray).size = l.length := by simp [ByteArray.size]
  rw [this, List.take_of_length_le (by simp)]
  simp
theorem tx_less (l : List UInt8) (h : 0 < l.length) (w : World) : (Instr.slice 9 (tx l) none (some (.int .i64 ((l.length : Int) - 1))) none).run Tryz.prog w = .ok (tx (l.take (l.length - 1))) w := by
  have := tx_to l (l.length - 1) (by omega) w
  rw [show ((l.length - 1 : Nat) : Int) = (l.length : Int) - 1 by omega] at this
  exact this
theorem tx_last (l : List UInt8) (h : 0 < l.length) (w : World) : (Instr.index 9 (tx l) (.int .i64 ((l.length : Int) - 1))).run Tryz.prog w = .ok (.int .u8 ((nums l).getD (l.length - 1) 0)) w := by
  have := tx_index l (l.length - 1) (by omega) w
  rw [show ((l.length - 1 : Nat) : Int) = (l.length : Int) - 1 by omega] at this
  exact this
theorem wrap_len (l : List UInt8) (h : l.length ≤ 1000) : IntKind.i64.wrap ((l.length : Int) - 1) = (l.length : Int) - 1 := by
  simp [IntKind.wrap, IntKind.bits, IntKind.signed]
  omega
theorem nums_at (l : List UInt8) (j : Nat) (h : j < l.length) : (nums l).getD j 0 = ((l[j]).toNat : Int) := by
  unfold nums
  simp [List.getD_eq_getElem?_getD, h]
set_option maxHeartbeats 1000000 in
theorem trimByte_at (n : List UInt8) (k : Nat) (hn : ∀ b ∈ n, b ≠ 0) (hl : n.length + k ≤ 8) (w : World) :
    Calls Tryz.prog 198 #[tx (n ++ List.replicate k 0), .int .u8 0] w fun e w' => e = .returned (tx n) ∧ w' = w := by
  have HN : Hid (∀ b ∈ n, b ≠ 0) := hn
  clear hn
  obtain ⟨l0, hl0⟩ : ∃ l, l = n ++ List.replicate k (0 : UInt8) := ⟨_, rfl⟩
  have HL0 : Hid (l0 = n ++ List.replicate k (0 : UInt8)) := hl0
  rw [← hl0]
  clear hl0
  go_enter Tryz.func198, Tryz.ntmps198
  go_wp2
  go_loopg [0] k (fun gk v wr => ∃ (l : List UInt8) (j : Nat), v = tx l ∧ Hid (l = n ++ List.replicate j (0 : UInt8)) ∧ j ≤ k ∧ j ≤ gk ∧ wr = w)
  case atStart => exact ⟨l0, k, rfl, HL0, by omega, by omega, rfl⟩
  case round =>
    obtain ⟨l, j, rfl, HL, hjk, hjg, rfl⟩ := hrel
    have hll : l.length = n.length + j := by rw [HL.out]; simp
    have hwl := wrap_len l (by omega)
    by_cases hp : 0 < l.length
    · have hi := tx_last l hp
      have hc := tx_less l hp
      have hpi : 0 < (l.length : Int) := by omega
      cases j with
      | zero =>
        obtain ⟨x, hx, hx0⟩ : ∃ x : Int, (nums l).getD (l.length - 1) 0 = x ∧ x ≠ 0 := by
          refine ⟨_, rfl, ?_⟩
          have e : l = n := by rw [HL.out]; simp
          rw [nums_at l _ (by omega)]
          intro q
          have hm : l[l.length - 1] ∈ n := by rw [← e]; exact List.getElem_mem _
          exact HN.out _ hm (by apply UInt8.toNat_inj.1; simp; omega)
        have hxb : (x == 0) = false := by simpa using hx0
        rw [hx] at hi
        have HE : Hid (l = n) := by rw [HL.out]; show _ = _; simp
        clear hx hll HL
        go_wp2
        go_ret
        exact ⟨by rw [HE.out]; rfl, rfl⟩
      | succ j =>
        have hx : (nums l).getD (l.length - 1) 0 = 0 := by
          rw [nums_at l _ (by omega)]
          have : l[l.length - 1]? = some 0 := by
            rw [hll, HL.out, List.getElem?_append_right (by omega), List.getElem?_replicate, if_pos (by omega)]
          rw [List.getElem?_eq_getElem (by omega)] at this
          rw [Option.some.inj this]
          rfl
        rw [hx] at hi
        have HE : Hid (l.take (l.length - 1) = n ++ List.replicate j (0 : UInt8)) := by
          show _ = _
          have e : n ++ List.replicate (j + 1) (0 : UInt8) = (n ++ List.replicate j 0) ++ [0] := by rw [List.replicate_succ', List.append_assoc]
          rw [hll, HL.out, e, List.take_append_of_le_length (by simp), List.take_of_length_le (by simp)]
        clear hx hll HL
        go_wp2
        go_roundg j
        case rel => exact ⟨_, j, rfl, HE, by omega, by omega, rfl⟩
        case measure => omega
    · have h0 : l = [] := List.length_eq_zero_iff.1 (by omega)
      have HE : Hid (n = []) := by
        have : n.length = 0 := by omega
        exact List.length_eq_zero_iff.1 this
      subst h0
      clear hll HL hwl hp
      go_wp2
      go_ret
      exact ⟨by rw [HE.out]; rfl, rfl⟩
set_option maxHeartbeats 1000000 in
theorem trim_at (n : List UInt8) (k : Nat) (hn : ∀ b ∈ n, b ≠ 0) (hl : n.length + k = 8) (w : World) :
    Calls Tryz.prog 183 #[tx (n ++ List.replicate k 0), tx [0]] w fun e w' => e = .returned (tx n) ∧ w' = w := by
  have hT := trimByte_at n k hn (by omega) w
  obtain ⟨l, hl0⟩ : ∃ l, l = n ++ List.replicate k (0 : UInt8) := ⟨_, rfl⟩
  have hll : l.length = 8 := by rw [hl0]; simp; omega
  rw [← hl0] at hT ⊢
  have hne : l ≠ [] := fun e => by rw [e] at hll; simp at hll
  have hE : l.isEmpty = false := by simpa using hne
  have hs := text_same l
  have h1 : ∀ W, (binOp BinOp.eql 9 (tx l) (.string ⟨#[]⟩)).run Tryz.prog W = .ok (.bool false) W := fun W => by
    clear hl0 hll hl
    go_simp
  have h2 : ∀ W, (binOp BinOp.eql 9 (tx [0]) (.string ⟨#[]⟩)).run Tryz.prog W = .ok (.bool false) W := fun W => by kernel_rfl
  have h3 : ∀ W, (Instr.index 9 (tx [0]) (.int .i64 0)).run Tryz.prog W = .ok (.int .u8 0) W := fun W => tx_index [0] 0 (by simp) W
  clear hll hn hl hl0
  go_enter Tryz.func183, Tryz.ntmps183
  go_wp2_with fail
  refine hT.mono ?_
  rintro e w1 ⟨rfl, hw⟩
  rw [hw]
  clear hw w1 hT
  go_wp2
  go_ret
  exact ⟨rfl, rfl⟩
theorem and_low (n : Nat) (h : n < 4294967296) : bits .and .u64 (n : Int) 4294967295 = n := by
  have h1 := bits_and_u64_nat n 4294967295 (by omega) (by omega)
  have h2 : n &&& 4294967295 = n := by
    have := Nat.and_two_pow_sub_one_of_lt_two_pow (n := 32) (x := n) (by omega)
    simpa using this
  rw [h2] at h1
  exact h1
theorem mul64_at (n : Nat) (hn : n ≤ 1000000) (w : World) :
    Calls Tryz.prog 213 #[.int .u64 1, .int .u64 n] w fun e w' => e = .returned (.tuple #[.int .u64 0, .int .u64 n]) ∧ w' = w := by
  have h1 := and_low 1 (by omega)
  have h0 := and_low 0 (by omega)
  have hN := and_low n (by omega)
  have hd : (n : Int) / 4294967296 = 0 := by omega
  have hd2 : (n : Int) / 2 ^ 32 = 0 := by omega
  simp only [Int.cast_ofNat_Int] at h1 h0
  go_enter Tryz.func213, Tryz.ntmps213
  go_wp2
  go_ret2
  exact ⟨by simp, rfl⟩
theorem mul_at (n : Nat) (hn : n ≤ 1000000) (w : World) :
    Calls Tryz.prog 202 #[.int .u64 1, .int .u64 n] w fun e w' => e = .returned (.tuple #[.int .u64 0, .int .u64 n]) ∧ w' = w := by
  go_enter Tryz.func202, Tryz.ntmps202
  go_wp2_with fail
  refine (mul64_at n hn w).mono ?_
  rintro e w1 ⟨rfl, rfl⟩
  go_wp2
  go_ret2
  exact ⟨rfl, rfl⟩
/-- So many zeros. -/
def zs (k : Nat) : List UInt8 := List.replicate k 0
theorem zs_len (k : Nat) : (zs k).length = k := by simp [zs]
theorem zs_add (a b : Nat) : Lib.byteCells (zs a) ++ Lib.strCells ⟨(zs b).toArray⟩ = Lib.byteCells (zs (a + b)) := by
  show List.map _ _ ++ List.map _ _ = List.map _ _
  rw [← List.map_append]
  simp [zs]
theorem zs_take (a b : Nat) (h : b ≤ a) : (zs a).take b = zs b := by
  unfold zs
  rw [List.take_replicate, Nat.min_eq_left h]
theorem bytes_len (k : Nat) : (Lib.byteCells (zs k)).length = k := by rw [Lib.byteCells_length, zs_len]
set_option maxHeartbeats 2000000 in
set_option maxRecDepth 100000 in
theorem repeat_many (k : Nat) (h2 : 2 ≤ k) (h8 : k ≤ 8) (w : World) :
    Calls Tryz.prog 188 #[tx [0], .int .i64 (k : Int)] w fun e w' => e = .returned (tx (zs k)) ∧ Below w.heap.size w w' := by
  have hw1 : IntKind.u64.wrap (k : Int) = k := by simp [IntKind.wrap, IntKind.bits, IntKind.signed]; omega
  have hw2 : IntKind.i64.wrap (k : Int) = k := by simp [IntKind.wrap, IntKind.bits, IntKind.signed]; omega
  have hM := mul_at k (by omega) w
  have k0 : ((k : Int) == 0) = false := beq_false_of_ne (by omega)
  have k1 : ((k : Int) == 1) = false := beq_false_of_ne (by omega)
  have hk0 : ¬ (k : Int) < 0 := by omega
  have hk1 : ¬ (9223372036854775807 : Int) < (k : Int) := by omega
  have hk2 : ¬ (8192 : Int) < (k : Int) := by omega
  have h3 : ∀ W, (Instr.index 9 (tx [0]) (.int .i64 0)).run Tryz.prog W = .ok (.int .u8 0) W := fun W => tx_index [0] 0 (by simp) W
  obtain ⟨W0, hW0⟩ : ∃ W, W = w.alloc (.cells #[.pointer none, .slice none 0 0] 275) := ⟨_, rfl⟩
  have HW0 : Hid (W0 = w.alloc (.cells #[.pointer none, .slice none 0 0] 275)) := hW0
  have HB0 : Hid (Below w.heap.size w W0) := by rw [hW0]; exact below_alloc _ _
  obtain ⟨b, hb⟩ : ∃ b, b = w.heap.size := ⟨_, rfl⟩
  have Hb : Hid (b = w.heap.size) := hb
  have hG := grow_at w.heap.size b k W0 (by omega) (by rw [hb, hW0]; exact heap_alloc_new _ _) HB0.out.size (by omega) (by omega)
  clear hW0 hb
  go_enter Tryz.func188, Tryz.ntmps188
  go_wp2_with fail
  refine hM.mono ?_
  rintro e w1 ⟨rfl, hw⟩
  rw [hw]
  clear hw w1 hM
  go_wp2_with fail
  rw [← HW0.out, ← Hb.out]
  refine hG.mono ?_
  rintro e w1 ⟨rfl, hB1, hb1⟩
  have HB1 : Hid (Below w.heap.size w w1) := HB0.out.trans hb1
  have hS := writeString_at w.heap.size b [] [0] w1 hB1 (by simp) HB1.out.size
  clear hG hB1 hb1 HB0 HW0
  go_wp2_with fail
  refine hS.mono ?_
  rintro e w2 ⟨rfl, hB2, hb2⟩
  have HS2 : Hid (Bld w.heap.size b (Lib.byteCells (zs 1)) w2 ∧ Below w.heap.size w w2) := ⟨Or.inr hB2, HB1.out.trans hb2⟩
  clear hS hB2 hb2 HB1
  go_wp2
  go_loopg [10] k (fun gk s wr => ∃ (m : Nat) (v : Value), v = s ∧ 1 ≤ m ∧ m ≤ k ∧ k - m ≤ gk ∧ Hid (Bld w.heap.size b (Lib.byteCells (zs m)) wr ∧ Below w.heap.size w wr))
  case atStart => exact ⟨1, _, rfl, by omega, by omega, by omega, HS2⟩
  case round =>
    obtain ⟨m, v, rfl, hm1, hmk, hgk, HS⟩ := hrel
    clear HS2
    have hL := bldLen_at w.heap.size b _ wr HS.out.1
    rw [bytes_len] at hL
    go_wp2_with fail
    refine hL.mono ?_
    rintro e w3 ⟨rfl, hw⟩
    rw [hw]
    clear hw w3
    by_cases hlt : m < k
    · have g1 : (m : Int) < (k : Int) := by omega
      have hws : IntKind.i64.wrap ((k : Int) - (m : Int)) = (k : Int) - (m : Int) := by simp [IntKind.wrap, IntKind.bits, IntKind.signed]; omega
      have hSt := bldString_at w.heap.size b _ wr HS.out.1 HS.out.2.size
      rcases (by omega : m < k - m ∨ ¬ m < k - m) with hsp | hsp
      · have hcut := tx_to (zs m) (m) (by rw [zs_len]; omega)
        rw [zs_take m (m) (by omega)] at hcut
        have e9 : ((m : Nat) : Int) = (m : Int) := by omega
        rw [e9] at hcut
        have s1 : (m : Int) < (k : Int) - (m : Int) := by omega
        have s2 : ¬ (k : Int) < (m : Int) := by omega
        clear e9
        go_wp2_with fail
        refine hL.mono ?_
        rintro e w3 ⟨rfl, hw⟩
        rw [hw]
        clear hw w3
        go_wp2_with fail
        refine hL.mono ?_
        rintro e w3 ⟨rfl, hw⟩
        rw [hw]
        clear hw w3 hL
        go_wp2_with fail
        refine hSt.mono ?_
        rintro e w3 ⟨rfl, hB3, hb3⟩
        have HB3 : Hid (Below w.heap.size w w3) := HS.out.2.trans hb3
        have hWs := writeString_at w.heap.size b _ (zs (m)) w3 hB3 (by rw [bytes_len, zs_len]; omega) HB3.out.size
        rw [zs_add, zs_len] at hWs
        clear hSt hB3 hb3 HS
        go_wp2_with fail
        refine hWs.mono ?_
        rintro e w4 ⟨rfl, hB4, hb4⟩
        have HS4 : Hid (Bld w.heap.size b (Lib.byteCells (zs (m + (m)))) w4 ∧ Below w.heap.size w w4) := ⟨Or.inr hB4, HB3.out.trans hb4⟩
        clear hWs hB4 hb4 HB3
        go_wp2
        go_roundg (k - (m + (m)))
        case measure => omega
        case rel => exact ⟨m + (m), _, rfl, by omega, by omega, by omega, HS4⟩
      · have hcut := tx_to (zs m) (k - m) (by rw [zs_len]; omega)
        rw [zs_take m (k - m) (by omega)] at hcut
        have e9 : ((k - m : Nat) : Int) = (k : Int) - (m : Int) := by omega
        rw [e9] at hcut
        have s1 : ¬ (m : Int) < (k : Int) - (m : Int) := by omega
        have s2 : ¬ (k : Int) < (k : Int) - (m : Int) := by omega
        clear e9
        go_wp2_with fail
        refine hL.mono ?_
        rintro e w3 ⟨rfl, hw⟩
        rw [hw]
        clear hw w3
        go_wp2_with fail
        refine hL.mono ?_
        rintro e w3 ⟨rfl, hw⟩
        rw [hw]
        clear hw w3 hL
        go_wp2_with fail
        refine hSt.mono ?_
        rintro e w3 ⟨rfl, hB3, hb3⟩
        have HB3 : Hid (Below w.heap.size w w3) := HS.out.2.trans hb3
        have hWs := writeString_at w.heap.size b _ (zs (k - m)) w3 hB3 (by rw [bytes_len, zs_len]; omega) HB3.out.size
        rw [zs_add, zs_len] at hWs
        clear hSt hB3 hb3 HS
        go_wp2_with fail
        refine hWs.mono ?_
        rintro e w4 ⟨rfl, hB4, hb4⟩
        have HS4 : Hid (Bld w.heap.size b (Lib.byteCells (zs (m + (k - m)))) w4 ∧ Below w.heap.size w w4) := ⟨Or.inr hB4, HB3.out.trans hb4⟩
        clear hWs hB4 hb4 HB3
        go_wp2
        go_roundg (k - (m + (k - m)))
        case measure => omega
        case rel => exact ⟨m + (k - m), _, rfl, by omega, by omega, by omega, HS4⟩
    · have hmk2 : m = k := by omega
      have hSt := bldString_at w.heap.size b _ wr HS.out.1 HS.out.2.size
      have g1 : ¬ (m : Int) < (k : Int) := by omega
      rw [hmk2] at hSt
      have HB : Hid (Below w.heap.size w wr) := HS.out.2
      clear hL HS hmk2
      go_wp2_with fail
      refine hSt.mono ?_
      rintro e w3 ⟨rfl, hB3, hb3⟩
      have HB3 : Hid (Below w.heap.size w w3) := HB.out.trans hb3
      clear hSt hB3 hb3
      go_wp2
      go_ret
      exact ⟨rfl, HB3.out⟩
set_option maxRecDepth 100000 in
theorem repeat_at (k : Nat) (h8 : k ≤ 8) (w : World) :
    Calls Tryz.prog 188 #[tx [0], .int .i64 (k : Int)] w fun e w' => e = .returned (tx (zs k)) ∧ Below w.heap.size w w' := by
  rcases (by omega : k = 0 ∨ k = 1 ∨ 2 ≤ k) with rfl | rfl | h2
  · go_enter Tryz.func188, Tryz.ntmps188
    go_wp2
    go_ret
    exact ⟨rfl, Below.refl _ _⟩
  · go_enter Tryz.func188, Tryz.ntmps188
    go_wp2
    go_ret
    exact ⟨rfl, Below.refl _ _⟩
  · exact repeat_many k h2 h8 w
end Go.Proofs.YtcjpahnlckfgoaaGreatDoor
