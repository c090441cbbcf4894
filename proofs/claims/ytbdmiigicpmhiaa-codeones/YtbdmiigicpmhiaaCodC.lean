/- The contracts of Encode, of package code and of its reference. -/
import Derived.Test.YtbdmiigicpmhiaaCodB
import Derived.Deep.AppendLies
import Derived.Laws.IdiomStrings
import Derived.BigQuiet
namespace Go.Proofs.Ytbdmiigicpmhiaa
open Go.RowKit
set_option linter.unusedVariables false

/-- A slice at a0 holds these instructions. -/
def Row (w : World) (a0 : Option Addr) (l : List Ins) : Prop := ∀ j i, l[j]? = some i → ∃ gb off, a0 = some ⟨gb, off, none⟩ ∧
  w.cell? ⟨gb, off + j * 4, none⟩ = some (.int .i64 i.op) ∧ w.cell? ⟨gb, off + j * 4 + 1, none⟩ = some (.int .u64 i.arg) ∧ w.cell? ⟨gb, off + j * 4 + 2, none⟩ = some (.int .i64 i.pos) ∧ w.cell? ⟨gb, off + j * 4 + 3, none⟩ = some (.int .i64 i.len)
theorem Row.below {w w' : World} {a0 : Option Addr} {l : List Ins} (h : Row w a0 l) (hb : Below w.heap.size w w') : Row w' a0 l := by
  intro j i hj
  obtain ⟨gb, off, ha, c0, c1, c2, c3⟩ := h j i hj
  refine ⟨gb, off, ha, ?_, ?_, ?_, ?_⟩
  · rw [hb.cell (cell_lt c0)]; exact c0
  · rw [hb.cell (cell_lt c1)]; exact c1
  · rw [hb.cell (cell_lt c2)]; exact c2
  · rw [hb.cell (cell_lt c3)]; exact c3

/-- Encode's answer. -/
def encT (l : List Ins) : List UInt8 := if l.all good then encs l else []
def encE (l : List Ins) : Int := if l.all good then 0 else 101
theorem enc_yes {l : List Ins} (h : l.all good = true) : encT l = encs l ∧ encE l = 0 := by unfold encT encE; rw [if_pos h, if_pos h]; exact ⟨rfl, rfl⟩
theorem enc_no {l : List Ins} {j : Nat} {i : Ins} (hj : l[j]? = some i) (h : good i = false) : encT l = [] ∧ encE l = 101 := by
  have hn : l.all good = false := by
    rw [List.all_eq_false]
    exact ⟨i, List.mem_of_getElem? hj, by simp [h]⟩
  unfold encT encE
  rw [hn]
  exact ⟨rfl, rfl⟩
theorem take_snoc {l : List Ins} {k : Nat} {i : Ins} (hk : l[k]? = some i) : l.take (k + 1) = l.take k ++ [i] := by
  rw [List.take_add_one, hk]
  rfl
theorem take_good {l : List Ins} {k : Nat} {i : Ins} (hk : l[k]? = some i) (h : (l.take k).all good = true) (hi : good i = true) : (l.take (k + 1)).all good = true := by
  rw [take_snoc hk, List.all_append, h]
  simp [hi]
theorem byteCells_snoc (x : List UInt8) (b : UInt8) : Lib.byteCells x ++ [.int .u8 (b.toNat : Int)] = Lib.byteCells (x ++ [b]) := by simp [Lib.byteCells]
theorem wrapByte (a : Int) : IntKind.u8.wrap a = ((byteOf a).toNat : Int) := by
  rw [byteOf_toNat]
  simp [IntKind.wrap, IntKind.bits, IntKind.signed]
/-- What is written when j bytes of the operand stand. -/
def accT (l : List Ins) (k j : Nat) (i : Ins) : List UInt8 := encs (l.take k) ++ (byteOf i.op :: leB j i.arg)
theorem accT_zero (l : List Ins) (k : Nat) (i : Ins) : encs (l.take k) ++ [byteOf i.op] = accT l k 0 i := rfl
theorem accT_succ (l : List Ins) (k j : Nat) (i : Ins) : accT l k j i ++ [byteOf (i.arg / 256 ^ j)] = accT l k (j + 1) i := by
  unfold accT
  rw [leB_snoc]
  simp
theorem accT_full {l : List Ins} {k : Nat} {i : Ins} (hk : l[k]? = some i) : accT l k (opw i.op) i = encs (l.take (k + 1)) := by
  rw [take_snoc hk, encs_snoc]
  rfl
theorem accT_len (l : List Ins) (k j : Nat) (i : Ins) (hj : j ≤ 8) (hl : l.length ≤ 1000000) : (accT l k j i).length ≤ 10000000 := by
  have := encs_len (l.take k)
  have h2 : (l.take k).length ≤ l.length := by simp; omega
  unfold accT
  simp [leB_len]
  omega

set_option maxRecDepth 100000 in
set_option maxHeartbeats 2000000 in
theorem encode_at (l : List Ins) (a0 : Option Addr) (cap : Nat) (w : World) (hrow : Row w a0 l) (hfit : ∀ i ∈ l, i.Fit) (hn : l.length ≤ 1000000) :
    Calls Try.prog 9 #[.slice a0 l.length cap] w fun e w' => e = .returned (.tuple #[tx (encT l), .int .i64 (encE l)]) ∧ Below w.heap.size w w' := by
  have HR : Hid _ := hrow
  have HF : Hid _ := hfit
  clear hrow hfit
  go_enter Try.func9, Try.ntmps9
  go_wp2
  go_loopw [10] (fun s wr => ∃ (k : Nat), k ≤ l.length ∧ s = .int .i64 k ∧ Hid ((l.take k).all good = true) ∧ Bld w.heap.size w.heap.size (Lib.byteCells (encs (l.take k))) wr ∧ Below w.heap.size w wr) (fun s _ => l.length - (intOf s).toNat)
  case atStart => exact ⟨0, by omega, rfl, (show Hid _ from rfl), Lib.fresh_isBuilder _ _ _, (Below.refl _ _).alloc (Nat.le_refl _) _⟩
  case round =>
    obtain ⟨k, hk, rfl, hall, hB, hb⟩ := hrel
    have hbs := hb.size
    by_cases hlt : k < l.length
    · obtain ⟨i, hki⟩ : ∃ i, l[k]? = some i := ⟨l[k], List.getElem?_eq_getElem hlt⟩
      obtain ⟨gb, off, rfl, c0, c1, c2, c3⟩ := (Row.below HR.out hb) k i hki
      have hif := HF.out i (List.mem_of_getElem? hki)
      have HK : Hid _ := hki
      clear hki
      have hop := isOp_at i.op
      have hfi := fits_at i hif
      have hwi := width_at i.op
      have hw8 := opw_le i.op
      have hwb := wrapByte i.op
      have HG : Hid _ := (good_iff i)
      have hlk := accT_len l k 8 i (by omega) hn
      have hlk0 : (encs (l.take k)).length + 1 ≤ (accT l k 8 i).length := by simp [accT]
      obtain ⟨W, hW⟩ : ∃ W, W = wr.alloc (.cells (insRow i) 36) := ⟨_, rfl⟩
      have hbox : W.heap[wr.heap.size]? = some (.cells (insRow i) 36) := by rw [hW]; exact heap_alloc_new _ _
      have hbW : Below w.heap.size w W := by rw [hW]; exact hb.alloc hbs _
      have hBW : Bld w.heap.size w.heap.size (Lib.byteCells (encs (l.take k))) W := by rw [hW]; exact Bld.alloc hB _
      have hbm := Bld.lt hB
      dsimp only [insRow] at hW hfi
      have d0 : W.cell? ⟨wr.heap.size, 0, none⟩ = some (.int .i64 i.op) := by rw [cell_of_heap hbox]; rfl
      have d1 : W.cell? ⟨wr.heap.size, 1, none⟩ = some (.int .u64 i.arg) := by rw [cell_of_heap hbox]; rfl
      have d2 : W.cell? ⟨wr.heap.size, 2, none⟩ = some (.int .i64 i.pos) := by rw [cell_of_heap hbox]; rfl
      have d3 : W.cell? ⟨wr.heap.size, 3, none⟩ = some (.int .i64 i.len) := by rw [cell_of_heap hbox]; rfl
      have HX : Hid _ := hbox
      clear hbox
      cases ho : (decide (0 ≤ i.op) && decide (i.op ≤ 23)) with
      | false =>
        have hg : good i = false := by unfold good; rw [ho]; rfl
        obtain ⟨e1, e2⟩ := enc_no HK.out hg
        rw [ho] at hop
        have E1 : Hid _ := e1
        have E2 : Hid _ := e2
        clear ho hg e1 e2 hfi hwi hwb HG
        go_wp2_with fail
        rw [← hW]
        clear hW
        refine (hop W).mono ?_
        rintro e w1 ⟨rfl, rfl⟩
        go_wp2
        go_ret2
        exact ⟨by rw [E1.out, E2.out]; rfl, hbW⟩
      | true =>
        rw [ho] at hop
        cases hf : decide (i.arg / 256 ^ opw i.op = 0) with
        | false =>
          have hg : good i = false := by unfold good; rw [ho, hf]; rfl
          obtain ⟨e1, e2⟩ := enc_no HK.out hg
          rw [hf] at hfi
          have E1 : Hid _ := e1
          have E2 : Hid _ := e2
          clear ho hg e1 e2 hf hwi hwb HG
          go_wp2_with fail
          rw [← hW]
          clear hW
          refine (hop W).mono ?_
          rintro e w1 ⟨rfl, rfl⟩
          go_wp2_with fail
          refine (hfi w1).mono ?_
          rintro e w2 ⟨rfl, hb2⟩
          go_wp2
          go_ret2
          exact ⟨by rw [E1.out, E2.out]; rfl, hbW.trans (hb2.mono hbW.size)⟩
        | true =>
          have hg : good i = true := by unfold good; rw [ho, hf]; rfl
          have hall2 : Hid _ := take_good HK.out hall.out hg
          rw [hf] at hfi
          clear ho hg hf HG
          go_wp2_with fail
          rw [← hW]
          clear hW
          refine (hop W).mono ?_
          rintro e w1 ⟨rfl, rfl⟩
          go_wp2_with fail
          refine (hfi w1).mono ?_
          rintro e w2 ⟨rfl, hb2⟩
          have hb2w : Below w.heap.size w w2 := hbW.trans (hb2.mono hbW.size)
          have hbox2 : w2.heap[wr.heap.size]? = some (.cells (insRow i) 36) := by rw [hb2.block _ (lt_of_heap HX.out)]; exact HX.out
          have hB2 : Bld w.heap.size w.heap.size (Lib.byteCells (encs (l.take k))) w2 := Bld.below hBW hb2
          have HX2 : Hid _ := hbox2
          have f0 : w2.cell? ⟨wr.heap.size, 0, none⟩ = some (.int .i64 i.op) := by rw [cell_of_heap hbox2]; rfl
          clear hbox2 d0 d1 d2 d3 HX hop hfi hb2
          go_wp2_with fail
          refine (writeByte_at w.heap.size w.heap.size _ _ w2 hB2 (by rw [Lib.byteCells_length]; omega) hb2w.size).mono ?_
          rintro e w3 ⟨rfl, hB3, hb3, hk3⟩
          have hbox3 := hk3 _ _ _ _ (by omega) (by decide) HX2.out
          have HX3 : Hid _ := hbox3
          have f0 : w3.cell? ⟨wr.heap.size, 0, none⟩ = some (.int .i64 i.op) := by rw [cell_of_heap hbox3]; rfl
          rw [byteCells_snoc, accT_zero] at hB3
          have hb3w := hb2w.trans hb3
          clear hbox3 hk3 hb3 HX2 hB2
          go_wp2_with fail
          refine (hwi w3).mono ?_
          rintro e w4 ⟨rfl, rfl⟩
          go_wp2
          generalize hm : wr.heap.size = m at *
          have Hm : Hid _ := hm
          clear hm
          go_loopw [30] (fun s wr => ∃ (j : Nat), j ≤ opw i.op ∧ s = .int .i64 j ∧ Hid (wr.heap[m]? = some (.cells (insRow i) 36)) ∧ Bld w.heap.size w.heap.size (Lib.byteCells (accT l k j i)) wr ∧ Below w.heap.size w wr) (fun s _ => opw i.op - (intOf s).toNat)
          case atStart => exact ⟨0, by omega, rfl, HX3, Or.inr hB3, hb3w⟩
          case round =>
            obtain ⟨j, hj, rfl, HXq, hBq, hbq⟩ := hrel
            clear HX3 hB3 hb3w
            by_cases hjl : j < opw i.op
            · have g1 : wr.cell? ⟨m, 1, none⟩ = some (.int .u64 i.arg) := by rw [cell_of_heap HXq.out]; rfl
              have hjw := wrap8 j (by omega)
              have HJ : Hid (i.arg / 2 ^ (8 * j) % 256 = ((byteOf (i.arg / 256 ^ j)).toNat : Int)) := by show _ = _; rw [← pow256, byteOf_toNat]
              have hlq := accT_len l k j i (by omega) hn
              go_wp2_with fail
              refine (writeByte_at w.heap.size w.heap.size _ _ wr hBq (by rw [Lib.byteCells_length]; omega) hbq.size).mono ?_
              rintro e w5 ⟨rfl, hB5, hb5, hk5⟩
              rw [HJ.out, byteCells_snoc, accT_succ] at hB5
              have HX5 : Hid _ := hk5 _ _ _ _ (by omega) (by decide) HXq.out
              clear hk5
              go_wp2
              go_roundw
              case rel => exact ⟨j + 1, by omega, by go_num, HX5, Or.inr hB5, hbq.trans hb5⟩
              case measure => simp [intOf]; omega
            · obtain rfl : j = opw i.op := by omega
              rw [accT_full HK.out] at hBq
              clear HXq
              go_wp2
              go_roundw
              case rel => exact ⟨k + 1, by omega, by go_num, hall2, hBq, hbq⟩
              case measure => simp [intOf]; omega
    · obtain rfl : k = l.length := by omega
      have hall' := hall.out
      rw [List.take_length] at hall' hB
      obtain ⟨e1, e2⟩ := enc_yes hall'
      have E1 : Hid _ := e1
      have E2 : Hid _ := e2
      clear hall' e1 e2
      go_wp2_with fail
      refine (string_at _ _ _ wr hB hbs).mono ?_
      rintro e w1 ⟨rfl, hb1⟩
      go_wp2
      go_ret2
      exact ⟨by rw [E1.out, E2.out]; rfl, hb.trans hb1⟩

theorem wide_zero {i : Ins} (h : i.Fit) : i.arg / 256 ^ 8 = 0 := by
  have h8 : (256 : Int) ^ 8 = 18446744073709551616 := by decide
  obtain ⟨_, h2, _, _⟩ := h
  rw [h8]
  omega
theorem uwrap8 (k : Nat) (h : k ≤ 8) : IntKind.u64.wrap (8 * (k : Int)) = 8 * (k : Int) := by
  have : k = 0 ∨ k = 1 ∨ k = 2 ∨ k = 3 ∨ k = 4 ∨ k = 5 ∨ k = 6 ∨ k = 7 ∨ k = 8 := by omega
  rcases this with rfl | rfl | rfl | rfl | rfl | rfl | rfl | rfl | rfl <;> decide
theorem below_grown {B : Nat} {w w' : World} {v : Value} (h : w.grownBy w' v.ownBlock) (hs : B ≤ w.heap.size) (hv : ∀ g, v.ownBlock = some g → B ≤ g) : Below B w w' :=
  ⟨h.os, h.tape, h.output, h.size, fun k hk => h.block k (by omega) (fun e => by have := hv k e.symm; omega)⟩
theorem ownsRow_low {w : World} {base : Nat} {e : TypeId} {size : Nat} {v : Value} {n : Nat} {xs : List Value} (h : w.ownsRow base e size v n xs) : ∀ g, v.ownBlock = some g → base ≤ g := by
  intro g hg
  rcases h.2 with ⟨e2, _⟩ | ⟨g', cap, cur, e2, hb, _⟩
  · rw [e2] at hg; simp [Value.ownBlock] at hg
  · rw [e2] at hg; simp [Value.ownBlock] at hg; omega
theorem conv_text {w : World} {B : Nat} {v : Value} {out : List UInt8} (h : w.ownsRow B 5 1 v out.length (Lib.byteCells out)) : (convert 50 9 v).run Try.prog w = .ok (tx out) w := by
  rcases h.2 with ⟨rfl, e⟩ | ⟨g, cap, cur, rfl, hb, hh, h1, h2, h3, h4⟩
  · have : out = [] := List.length_eq_zero_iff.1 e
    subst this
    rw [run_convert_bytes_string w _ _ 5 none 0 0 Try.underlying50 Try.underlying5 Try.underlying9]
    rfl
  · refine run_convert_bytes_back w _ _ 5 ⟨g, 0, none⟩ cap out Try.underlying50 Try.underlying5 Try.underlying9 (fun j hj => ?_)
    refine h.cells (g := g) rfl j _ ?_
    simp [Lib.byteCells, hj]
theorem own_slice {w : World} {B : Nat} {e : TypeId} {size : Nat} {v : Value} {n : Nat} {xs : List Value} (h : w.ownsRow B e size v n xs) : ∃ a k c, v = .slice a k c := by
  rcases h.2 with ⟨rfl, _⟩ | ⟨g, cap, cur, rfl, _⟩ <;> exact ⟨_, _, _, rfl⟩

set_option maxRecDepth 100000 in
set_option maxHeartbeats 2000000 in
theorem rencode_at (l : List Ins) (a0 : Option Addr) (cap : Nat) (w : World) (hrow : Row w a0 l) (hfit : ∀ i ∈ l, i.Fit) (hn : l.length ≤ 1000000) :
    Calls Try.prog 10 #[.slice a0 l.length cap] w fun e w' => e = .returned (.tuple #[tx (encT l), .int .i64 (encE l)]) ∧ Below w.heap.size w w' := by
  obtain ⟨i0, hi0, hzz⟩ := Option.map_eq_some_iff.1 byteInfo
  simp only [Prod.mk.injEq] at hzz
  obtain ⟨hz0, hz1, hz2⟩ := hzz
  have HR : Hid _ := hrow
  have HF : Hid _ := hfit
  clear hrow hfit
  go_enter Try.func10, Try.ntmps10
  go_wp2
  go_loopw [4, 5] (fun b s wr => ∃ (k : Nat) (u : Value), k ≤ l.length ∧ s = .int .i64 k ∧ u = b ∧ Hid ((l.take k).all good = true) ∧ wr.ownsRow w.heap.size 5 1 u (encs (l.take k)).length (Lib.byteCells (encs (l.take k))) ∧ Below w.heap.size w wr) (fun _ s _ => l.length - (intOf s).toNat)
  case atStart => exact ⟨0, _, by omega, rfl, rfl, (show Hid _ from rfl), World.ownsRow_nil _ _ _ _, Below.refl _ _⟩
  case round =>
    obtain ⟨k, u, hk, rfl, rfl, hall, hB, hb⟩ := hrel
    have hbs := hb.size
    by_cases hlt : k < l.length
    · obtain ⟨i, hki⟩ : ∃ i, l[k]? = some i := ⟨l[k], List.getElem?_eq_getElem hlt⟩
      obtain ⟨gb, off, rfl, c0, c1, c2, c3⟩ := (Row.below HR.out hb) k i hki
      have hif := HF.out i (List.mem_of_getElem? hki)
      have HK : Hid _ := hki
      clear hki
      have hop := roperand_at i.op
      have hw8 := opw_le i.op
      have hwb := wrapByte i.op
      have hlk := accT_len l k 8 i (by omega) hn
      have hlk0 : (encs (l.take k)).length + 1 ≤ (accT l k 8 i).length := by simp [accT]
      cases ho : (decide (0 ≤ i.op) && decide (i.op ≤ 23)) with
      | false =>
        have hg : good i = false := by unfold good; rw [ho]; rfl
        obtain ⟨e1, e2⟩ := enc_no HK.out hg
        have E1 : Hid _ := e1
        have E2 : Hid _ := e2
        have hr : rop i.op = -1 := by unfold rop; rw [if_neg]; simp at ho; omega
        rw [hr] at hop
        clear ho hg e1 e2 hwb hr
        go_wp2_with fail
        refine (hop wr).mono ?_
        rintro e w1 ⟨rfl, rfl⟩
        go_wp2
        go_ret2
        exact ⟨by rw [E1.out, E2.out]; rfl, hb⟩
      | true =>
        have hr : rop i.op = opw i.op := by unfold rop; rw [if_pos]; simp at ho; omega
        rw [hr] at hop
        clear hr
        have hjw := wrap8 (opw i.op) hw8
        have hju := uwrap8 (opw i.op) hw8
        have HS := shr256 i.arg (opw i.op)
        cases hf : decide (i.arg / 256 ^ opw i.op = 0) with
        | false =>
          have hg : good i = false := by unfold good; rw [ho, hf]; rfl
          obtain ⟨e1, e2⟩ := enc_no HK.out hg
          have E1 : Hid _ := e1
          have E2 : Hid _ := e2
          have h8 : opw i.op < 8 := by
            rcases Nat.lt_or_ge (opw i.op) 8 with h | h
            · exact h
            · have h8 : opw i.op = 8 := by omega
              have hx := of_decide_eq_false hf
              rw [h8] at hx
              exact absurd (wide_zero hif) hx
          have hq : (i.arg / 2 ^ (8 * opw i.op) != 0) = true := by
            have hx := of_decide_eq_false hf
            rw [pow256] at hx
            simpa using hx
          clear ho hg e1 e2 hf hwb HS
          go_wp2_with fail
          refine (hop wr).mono ?_
          rintro e w1 ⟨rfl, rfl⟩
          go_wp2
          go_ret2
          exact ⟨by rw [E1.out, E2.out]; rfl, hb⟩
        | true =>
          have hg : good i = true := by unfold good; rw [ho, hf]; rfl
          have hall2 : Hid _ := take_good HK.out hall.out hg
          have hq : (i.arg / 2 ^ (8 * opw i.op) != 0) = false := by
            have hx := of_decide_eq_true hf
            rw [pow256] at hx
            simpa using hx
          clear ho hg hf HS
          go_wp2_with fail
          refine (hop wr).mono ?_
          rintro e w1 ⟨rfl, rfl⟩
          go_wp2_with (first
            | (at_builtin; refine wpList_append_lies _ rfl _ _ _ rfl w.heap.size 5 i0 _ 1 1 Try.underlying50 hi0 hz0 hz1 hz2 rfl (by omega) u _ _ rfl (hB.alloc _) ⟨w1.heap.size, 0, none⟩ 1 1 [.int .u8 ((byteOf i.op).toNat : Int)] rfl rfl (World.news_of_block (cs := #[.int .u8 ((byteOf i.op).toNat : Int)]) (t := 5) (fr := (0, 0)) (heap_alloc_new w1 _)) (by simp [Value.oneCell']) (by omega) (by unfold maxLen; omega) (by omega) (by simp; omega) _ rfl ?_; intro gg cap2 w2 hown2 hgrow hat hlt2)
            | go_in)
          all_goals
            have hb2w : Below w.heap.size w w2 := (hb.alloc hbs _).trans (below_grown hgrow (by simp; omega) (ownsRow_low hB))
            have hown3 : w2.ownsRow w.heap.size 5 1 (.slice (some ⟨gg, 0, none⟩) ((encs (l.take k)).length + 1) cap2) (accT l k 0 i).length (Lib.byteCells (accT l k 0 i)) := by
              rw [← accT_zero, ← byteCells_snoc, List.length_append]
              exact hown2
            have HC : Hid _ := And.intro c0 (And.intro c1 (And.intro c2 c3))
            clear c0 c1 c2 c3 hown2 hgrow hat hlt2 hop hq
            go_loopw [4, 7] (fun b s wr => ∃ (j : Nat) (u : Value), j ≤ opw i.op ∧ s = .int .i64 j ∧ u = b ∧ wr.ownsRow w.heap.size 5 1 u (accT l k j i).length (Lib.byteCells (accT l k j i)) ∧ Below w.heap.size w wr) (fun _ s _ => opw i.op - (intOf s).toNat)
            case atStart => exact ⟨0, _, by omega, rfl, rfl, hown3, hb2w⟩
            case round =>
              obtain ⟨j, v, hj, rfl, rfl, hBq, hbq⟩ := hrel
              have hbqs := hbq.size
              clear hown3 hb2w
              by_cases hjl : j < opw i.op
              · obtain ⟨gb2, off2, hge, g0, g1, g2, g3⟩ := (Row.below HR.out hbq) k i HK.out
                cases hge
                have hjw2 := wrap8 j (by omega)
                have hju2 := uwrap8 j (by omega)
                have hjb : i.arg / 2 ^ (8 * j) % 256 = ((byteOf (i.arg / 256 ^ j)).toNat : Int) := by rw [← pow256, byteOf_toNat]
                have hlq := accT_len l k j i (by omega) hn
                go_wp2_with (first
                | (at_builtin; refine wpList_append_lies _ rfl _ _ _ rfl w.heap.size 5 i0 _ 1 1 Try.underlying50 hi0 hz0 hz1 hz2 rfl (by omega) v _ _ rfl (hBq.alloc _) ⟨wr.heap.size, 0, none⟩ 1 1 [.int .u8 ((byteOf (i.arg / 256 ^ j)).toNat : Int)] rfl rfl (World.news_of_block (cs := #[.int .u8 ((byteOf (i.arg / 256 ^ j)).toNat : Int)]) (t := 5) (fr := (0, 0)) (heap_alloc_new wr _)) (by simp [Value.oneCell']) (by omega) (by unfold maxLen; omega) (by omega) (by simp; omega) _ rfl ?_; intro gg cap2 w2 hown2 hgrow hat hlt2)
                | go_in)
                go_roundw
                case rel =>
                  refine ⟨j + 1, _, by omega, by go_num, rfl, ?_, (hbq.alloc hbqs _).trans (below_grown hgrow (by simp; omega) (ownsRow_low hBq))⟩
                  rw [← accT_succ, ← byteCells_snoc, List.length_append]
                  exact hown2
                case measure => simp [intOf]; omega
              · obtain rfl : j = opw i.op := by omega
                rw [accT_full HK.out] at hBq
                go_wp2
                go_roundw
                case rel => exact ⟨k + 1, _, by omega, by go_num, rfl, hall2, hBq, hbq⟩
                case measure => simp [intOf]; omega
    · obtain rfl : k = l.length := by omega
      have hall' := hall.out
      rw [List.take_length] at hall' hB
      obtain ⟨e1, e2⟩ := enc_yes hall'
      have E1 : Hid _ := e1
      have E2 : Hid _ := e2
      clear hall' e1 e2
      have hle := encs_len l
      have hcv := conv_text hB
      obtain ⟨ua, un, uc, rfl⟩ := own_slice hB
      go_wp2
      go_ret2
      exact ⟨by rw [E1.out, E2.out]; rfl, hb⟩
end Go.Proofs.Ytbdmiigicpmhiaa
