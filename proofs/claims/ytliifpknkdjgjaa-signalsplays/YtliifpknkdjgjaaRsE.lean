/- The reference of package signals: Encode. -/
import Derived.Test.YtliifpknkdjgjaaRsD
namespace Go.Proofs.Ytliifpknkdjgjaa
open Go.RowKit Go.Lib
set_option linter.unusedVariables false

theorem UW.rb {B : Nat} {w w' : World} (h : UW B w w') {b : Nat} {row : Array Value} (hb : RB w b row) : RB w' b row := hb.keep (h.oth b _ _ _ hb (by decide))
/-- The bits of the first k signals. -/
def qlo (q k : Nat) : Nat := q % 2 ^ (k + 1)
theorem qlo_bit (q k j : Nat) : (qlo q k).testBit j = (decide (j < k + 1) && q.testBit j) := Nat.testBit_mod_two_pow q (k + 1) j
theorem qlo_zero {q : Nat} (h : QOk q) : qlo q 0 = 0 := by
  apply Nat.eq_of_testBit_eq
  intro j
  rw [qlo_bit, Nat.zero_testBit]
  by_cases e : j = 0
  · rw [e, h.2, Bool.and_false]
  · rw [decide_eq_false (show ¬ j < 0 + 1 by omega), Bool.false_and]
theorem qlo_all {q : Nat} (h : QOk q) : qlo q 15 = q := Nat.mod_eq_of_lt h.1
theorem qlo_on {q k : Nat} (hb : q.testBit (k + 1) = true) : qlo q k ||| 2 ^ (k + 1) = qlo q (k + 1) := by
  apply Nat.eq_of_testBit_eq
  intro j
  rw [Nat.testBit_or, Nat.testBit_two_pow, qlo_bit, qlo_bit]
  by_cases e : j = k + 1
  · subst e
    rw [hb]
    simp
  · rw [decide_eq_false (show ¬ k + 1 = j by omega), Bool.or_false]
    congr 1
    rw [decide_eq_decide]
    omega
theorem qlo_off {q k : Nat} (hb : q.testBit (k + 1) = false) : qlo q k = qlo q (k + 1) := by
  apply Nat.eq_of_testBit_eq
  intro j
  rw [qlo_bit, qlo_bit]
  by_cases e : j = k + 1
  · subst e
    rw [hb, Bool.and_false, Bool.and_false]
  · congr 1
    rw [decide_eq_decide]
    omega
theorem qlo_lt {q k : Nat} (h : QOk q) : qlo q k < 18446744073709551616 := by
  have : qlo q k ≤ q := Nat.mod_le _ _
  have := h.1
  omega
theorem take_snoc {α : Type} {l : List α} {k : Nat} {x : α} (h : l[k]? = some x) : l.take (k + 1) = l.take k ++ [x] := by
  rw [List.take_add_one, h]
  rfl
set_option maxRecDepth 100000 in
set_option maxHeartbeats 8000000 in
theorem xencode_at (b : Nat) (S : SS) (w : World) (h : RgAt w b S) (hok : SOk S) :
    Calls Try.prog 14 #[.pointer (some ⟨b, 0, none⟩)] w fun x w' => ∃ v, x = .returned v ∧ w'.ownsRow w.heap.size 27 1 v (encS S).length (uvs (encS S)) ∧ Below w.heap.size w w' := by
  have HF : Hid (SOk S) := hok
  obtain ⟨row, hP, hR⟩ := h
  have HP : Hid (RB w b row) := hP
  have HR : Hid (RgRow w row S) := hR
  have hzl := lit_fresh
  generalize hZ0 : frow tailR 0 = Z0 at *
  have HZs : Hid (Z0.size = 33) := by show _ = _; rw [← hZ0]; rfl
  clear hP hR hok hZ0
  go_enter Try.func14, Try.ntmps14
  go_wp2
  go_loopw [3, 4] (fun s i wr => ∃ (k : Nat) (ak : Option Addr) (nk ck : Nat), k ≤ 8 ∧ i = .int .i64 k ∧ .slice ak nk ck = s ∧ nk = (encK S k).length ∧ wr.ownsRow w.heap.size 27 1 (.slice ak nk ck) (encK S k).length (uvs (encK S k)) ∧ UW w.heap.size w wr) (fun _ i _ => 8 - (intOf i).toNat)
  case atStart => exact ⟨0, none, 0, 0, by omega, rfl, rfl, rfl, World.ownsRow_nil w _ _ 1, UW.refl _ _⟩
  case round =>
    obtain ⟨k, ak, nk, ck, hk, rfl, rfl, hnk, hown, hU⟩ := hrel
    have HU : Hid (UW w.heap.size w wr) := hU
    by_cases hlt : k < 8
    · have i1 : decide ((k : Int) < 8) = true := decide_eq_true (by omega)
      have hki : (k : Int) < 8 := by omega
      have hel := encK_len HF.out k (by omega)
      have hok := HF.out k hlt
      have hPr := HU.out.rb HP.out
      have hRi := HR.out.at' k hlt
      obtain ⟨sa, sc, e18, hcc, hT⟩ := hRi.stk
      obtain ⟨X0, hX0⟩ : ∃ X, X = (pvs (S k) (S k).q (.slice sa (S k).st.length sc)).toArray := ⟨_, rfl⟩
      have hrg : wr.rangeAt b (k * 33) X0.toList := by
        rw [hX0]
        intro j v hv
        rw [hPr.cell, ← HP.out.cell]
        exact pvs_range HP.out hRi e18 j v hv
      have hXs : X0.size = 33 := by rw [hX0, List.size_toArray]; exact pvs_len _ _ _
      have hXo : X0.all (·.oneCell') = true := by rw [hX0]; exact pvs_one _ _ _ _ _
      obtain ⟨W, hW⟩ : ∃ W, W = wr.alloc (.cells X0 69) := ⟨_, rfl⟩
      obtain ⟨q, hq⟩ : ∃ q, q = wr.heap.size := ⟨_, rfl⟩
      have hbW : Below wr.heap.size wr W := by rw [hW]; exact below_alloc _ _
      have hkq : W.heap[q]? = some (.cells X0 69 (0, 0)) := by rw [hW, hq]; exact heap_alloc_new _ _
      have HUW : Hid (UW w.heap.size w W) := hU.trans (UW.of_below hU.bel.size hbW)
      have HOw : Hid (W.ownsRow w.heap.size 27 1 (.slice ak nk ck) (encK S k ++ (S k).h.take 0).length (uvs (encK S k ++ (S k).h.take 0))) := by
        rw [List.take_zero, List.append_nil]
        exact ownsRow_below hown hbW
      have HKq : Hid (W.heap[q]? = some (.cells X0 69 (0, 0))) := hkq
      have HCell : Hid (∀ w' : World, w'.heap[q]? = some (.cells X0 69 (0, 0)) → (∀ j, j < 15 → w'.cell? ⟨q, j, none⟩ = some (.int .u64 ((S k).h.getD j 0)) ∧ w'.cell? ⟨q, 15 + j, none⟩ = some (.bool ((S k).q.testBit (j + 1)))) ∧ w'.cell? ⟨q, 30, none⟩ = some (.bool (S k).k.isSome) ∧ w'.cell? ⟨q, 31, none⟩ = some (.int .i64 (S k).pc) ∧ w'.cell? ⟨q, 32, none⟩ = some (.slice sa (S k).st.length sc)) := fun w' h' => by
        refine ⟨fun j hj => ⟨?_, ?_⟩, ?_, ?_, ?_⟩
        · rw [cell_of_heap h', hX0, List.getElem?_toArray]; exact pvs_hnd _ _ _ j hj
        · rw [cell_of_heap h', hX0, List.getElem?_toArray]; exact pvs_pen _ _ _ j hj
        · rw [cell_of_heap h', hX0, List.getElem?_toArray]; exact pvs_tail _ _ _ 0
        · rw [cell_of_heap h', hX0, List.getElem?_toArray]; exact pvs_tail _ _ _ 1
        · rw [cell_of_heap h', hX0, List.getElem?_toArray]; exact pvs_tail _ _ _ 2
      have HRg : Hid (wr.rangeAt b (k * 33) X0.toList) := hrg
      have HXs : Hid (X0.size = 33) := hXs
      have HXo : Hid (X0.all (·.oneCell') = true) := hXo
      have HOk : Hid (S k).Ok := hok
      have HNk : Hid (nk = (encK S k).length) := hnk
      have HSt : Hid (TRd w sa (S k).st) := hT
      have HW : Hid (W = wr.alloc (.cells X0 69)) := hW
      have HQ : Hid (q = wr.heap.size) := hq
      have hnk9 : nk ≤ 408 := by omega
      clear hown hU hnk hel hok hPr hRi e18 hcc hT hX0 hrg hXs hXo hW hq hbW hkq
      go_upto_region 6 with (first
        | (refine wpList_load_mid rfl 69 _ rfl b (k * 33) rfl X0.toList _ HRg.out Try.underlying69 rfl (by rw [Array.length_toList, HXs.out]; exact refSize) ?_)
        | (refine wpList_store_row rfl 69 _ _ rfl wr.heap.size X0 rfl rfl 69 Z0 (heap_alloc_new _ _) (by rw [HXs.out]; exact refSize) (by rw [HXs.out, HZs.out]) HXo.out ?_; rw [setRow_alloc_new])
        | go_in)
      rw [← HW.out, ← HQ.out]
      clear HW HRg
      go_wp2
      generalize hwx : wr = wq at *
      clear hwx
      go_loopw [3, 6, 7] (fun s bt i wr => ∃ (j : Nat) (aj : Option Addr) (nj cj : Nat), j ≤ 15 ∧ i = .int .i64 j ∧ bt = .int .u64 (qlo (S k).q j : Nat) ∧ .slice aj nj cj = s ∧ nj = nk + j ∧ wr.ownsRow w.heap.size 27 1 (.slice aj nj cj) (encK S k ++ (S k).h.take j).length (uvs (encK S k ++ (S k).h.take j)) ∧ UW w.heap.size W wr) (fun _ _ i _ => 15 - (intOf i).toNat)
      case atStart => exact ⟨0, ak, nk, ck, by omega, rfl, by rw [qlo_zero HOk.out.pend]; rfl, rfl, rfl, HOw.out, UW.refl _ _⟩
      case round =>
        clear HOw
        obtain ⟨j, aj, nj, cj, hj, rfl, rfl, rfl, hnj, hown, hU⟩ := hrel
        have HU2 : Hid (UW w.heap.size W wr) := hU
        have HNj : Hid (nj = nk + j) := hnj
        have hlen : (encK S k ++ (S k).h.take j).length = nj := by
          rw [List.length_append, List.length_take, HOk.out.len, ← HNk.out, hnj]
          omega
        have hBs : w.heap.size ≤ wr.heap.size := Nat.le_trans HUW.out.bel.size hU.bel.size
        by_cases hjl : j < 15
        · have j1 : decide ((j : Int) < 15) = true := decide_eq_true (by omega)
          have hji : (j : Int) < 15 := by omega
          obtain ⟨hc, -, -, -⟩ := HCell.out wr ((hU.oth q _ _ _ HKq.out (by decide)).trans HKq.out)
          obtain ⟨c0, c1⟩ := hc j hjl
          obtain ⟨a3, c3, w3, hrun, hown3, hU3⟩ := app1 hown hlen hBs (by omega) ((S k).h.getD j 0)
          have hT : (encK S k ++ (S k).h.take j) ++ [(S k).h.getD j 0] = encK S k ++ (S k).h.take (j + 1) := by
            rw [take_snoc (l := (S k).h) (k := j) (x := (S k).h.getD j 0) (by rw [List.getD_eq_getElem?_getD, List.getElem?_eq_getElem (by rw [HOk.out.len]; exact hjl)]; rfl), List.append_assoc]
          rw [hT] at hown3
          have HRun : Hid _ := hrun
          have HO3 : Hid (w3.ownsRow w.heap.size 27 1 (.slice a3 (nj + 1) c3) (encK S k ++ (S k).h.take (j + 1)).length (uvs (encK S k ++ (S k).h.take (j + 1)))) := hown3
          have HU3 : Hid (UW w.heap.size W w3) := hU.trans hU3
          obtain ⟨hc3, -, -, -⟩ := HCell.out w3 ((HU3.out.oth q _ _ _ HKq.out (by decide)).trans HKq.out)
          obtain ⟨-, d1⟩ := hc3 j hjl
          have hs1 : IntKind.i64.wrap ((j : Int) + 1) = ((j + 1 : Nat) : Int) := by simp [IntKind.wrap, IntKind.bits, IntKind.signed]; omega
          cases hb : (S k).q.testBit (j + 1) with
          | false =>
            rw [hb] at d1
            have HQl : Hid (qlo (S k).q j = qlo (S k).q (j + 1)) := qlo_off hb
            generalize (S k).h.getD j 0 = hx at *
            generalize hql : qlo (S k).q j = ql at *
            clear hrun hown3 hU3 hT hlen hown hU hnj hBs hc hc3 hb hql c1
            go_upto_region 11 with (at_builtin; refine wpList_append_eq rfl _ _ _ rfl _ _ _ rfl rfl HRun.out ?_)
            clear HRun c0
            go_wp2
            go_roundw
            case rel => exact ⟨j + 1, a3, nj + 1, c3, by omega, by go_num, by rw [← HQl.out], rfl, by have := HNj.out; omega, HO3.out, HU3.out⟩
            case measure => simp [intOf]; omega
          | true =>
            rw [hb] at d1
            have hlq := qlo_lt (k := j) HOk.out.pend
            have hor : bits .or .u64 (qlo (S k).q j : Int) ((2 : Int) ^ (j + 1)) = ((qlo (S k).q (j + 1) : Nat) : Int) := by
              rw [show ((2 : Int) ^ (j + 1)) = ((2 ^ (j + 1) : Nat) : Int) by simp, u64_or_nat _ _ hlq (bit_lt (by omega)), qlo_on hb]
            have hsh := shl_one (i := j + 1) (by omega)
            generalize (S k).h.getD j 0 = hx at *
            generalize hql : qlo (S k).q j = ql at *
            have HQl : Hid (qlo (S k).q (j + 1) = qlo (S k).q (j + 1)) := rfl
            generalize hql2 : qlo (S k).q (j + 1) = ql2 at hor
            have HQ2 : Hid (qlo (S k).q (j + 1) = ql2) := hql2
            clear hrun hown3 hU3 hT hlen hown hU hnj hBs hc hc3 hb hql c1 hql2 hlq HQl
            go_upto_region 11 with (at_builtin; refine wpList_append_eq rfl _ _ _ rfl _ _ _ rfl rfl HRun.out ?_)
            clear HRun c0
            go_wp2
            go_roundw
            case rel => exact ⟨j + 1, a3, nj + 1, c3, by omega, by go_num, by rw [HQ2.out], rfl, by have := HNj.out; omega, HO3.out, HU3.out⟩
            case measure => simp [intOf]; omega
        · obtain rfl : j = 15 := by omega
          have j1 : decide (((15 : Nat) : Int) < 15) = false := rfl
          rw [List.take_of_length_le (by rw [HOk.out.len]; omega)] at hown hlen
          rw [qlo_all HOk.out.pend]
          obtain ⟨a2, c2, w2, hrun2, hown2, hU2⟩ := app1 hown hlen hBs (by omega) ((S k).q : Int)
          have hn2 : ((encK S k ++ (S k).h) ++ [((S k).q : Int)]).length = nj + 1 := by rw [List.length_append, hlen]; rfl
          have hU12 := hU.trans hU2
          have hB2 : w.heap.size ≤ w2.heap.size := Nat.le_trans hBs hU2.bel.size
          have HRun2 : Hid _ := hrun2
          obtain ⟨-, d30, d31, d32⟩ := HCell.out w2 ((hU12.oth q _ _ _ HKq.out (by decide)).trans HKq.out)
          cases hk : (S k).k with
          | none =>
            rw [hk] at d30
            obtain ⟨a3, c3, w3, hrun3, hown3, hU3⟩ := app1 hown2 hn2 hB2 (by omega) 0
            have HRun3 : Hid _ := hrun3
            have HE : Hid (encK S (k + 1) = ((encK S k ++ (S k).h) ++ [((S k).q : Int)]) ++ [0]) := by show encK S k ++ encP (S k) = _; unfold encP; rw [hk]; simp [encV]
            have HO : Hid (w3.ownsRow w.heap.size 27 1 (.slice a3 (nj + 1 + 1) c3) (((encK S k ++ (S k).h) ++ [((S k).q : Int)]) ++ [0]).length (uvs (((encK S k ++ (S k).h) ++ [((S k).q : Int)]) ++ [0]))) := hown3
            have HU : Hid (UW w.heap.size w w3) := HUW.out.trans (hU12.trans hU3)
            have HN : Hid (nj + 1 + 1 = (((encK S k ++ (S k).h) ++ [((S k).q : Int)]) ++ [0]).length) := by show _ = _; rw [List.length_append, hn2]; rfl
            dsimp only [Option.isSome] at d30
            generalize ((S k).q : Int) = q0 at *
            generalize (S k).pc = kpc at *
            generalize (S k).st.length = kl at *
            clear hrun2 hown2 hU2 hU12 hB2 hk hrun3 hown3 hU3 hn2 hlen hown hU hnj hBs d31 d32 HU2 HNj
            go_upto_region 14 with (at_builtin; refine wpList_append_eq rfl _ _ _ rfl _ _ _ rfl rfl HRun2.out ?_)
            clear HRun2
            go_wp2_with (at_builtin; refine wpList_append_eq rfl _ _ _ rfl _ _ _ rfl rfl HRun3.out ?_)
            go_roundw
            case rel => exact ⟨k + 1, a3, nj + 1 + 1, c3, by omega, by go_num, rfl, by rw [HE.out]; exact HN.out, by rw [HE.out]; exact HO.out, HU.out⟩
            case measure => simp [intOf]; omega
          | some z =>
            obtain ⟨pc, st⟩ := z
            rw [hk] at d30
            dsimp only [Option.isSome] at d30
            obtain ⟨v1, v2, v3, v4⟩ := HOk.out.vm pc st hk
            have hpc : (S k).pc = pc := by unfold Sg.pc; rw [hk]; rfl
            have hst : (S k).st = st := by unfold Sg.st; rw [hk]; rfl
            have hT := HSt.out
            rw [hst] at hT d32
            rw [hpc] at d31
            obtain ⟨a3, c3, w3, hrun3, hown3, hU3⟩ := app3 hown2 hn2 hB2 (by omega) 1 pc (st.length : Int)
            have hn3 : (((encK S k ++ (S k).h) ++ [((S k).q : Int)]) ++ [1, pc, (st.length : Int)]).length = nj + 1 + 3 := by rw [List.length_append, hn2]; rfl
            have hU13 := hU12.trans hU3
            have hUw3 := HUW.out.trans hU13
            obtain ⟨-, -, -, e32⟩ := HCell.out w3 ((hU13.oth q _ _ _ HKq.out (by decide)).trans HKq.out)
            rw [hst] at e32
            obtain ⟨a4, c4, w4, hrun4, hown4, hU4⟩ := appS (cap := sc) hown3 hn3 hUw3.bel.size (by omega) (E := st) rfl (by omega) (hT.rd.below hUw3.bel)
            have HRun3 : Hid _ := hrun3
            have HRun4 : Hid _ := hrun4
            have HE : Hid (encK S (k + 1) = (((encK S k ++ (S k).h) ++ [((S k).q : Int)]) ++ [1, pc, (st.length : Int)]) ++ st) := by show encK S k ++ encP (S k) = _; unfold encP; rw [hk]; simp [encV]
            have HO : Hid (w4.ownsRow w.heap.size 27 1 (.slice a4 (nj + 1 + 3 + st.length) c4) ((((encK S k ++ (S k).h) ++ [((S k).q : Int)]) ++ [1, pc, (st.length : Int)]) ++ st).length (uvs ((((encK S k ++ (S k).h) ++ [((S k).q : Int)]) ++ [1, pc, (st.length : Int)]) ++ st))) := hown4
            have HU : Hid (UW w.heap.size w w4) := hUw3.trans hU4
            have HN : Hid (nj + 1 + 3 + st.length = ((((encK S k ++ (S k).h) ++ [((S k).q : Int)]) ++ [1, pc, (st.length : Int)]) ++ st).length) := by show _ = _; rw [List.length_append, hn3]
            have hwp : IntKind.u64.wrap pc = pc := by simp [IntKind.wrap, IntKind.bits, IntKind.signed]; omega
            have hwl : IntKind.u64.wrap (st.length : Int) = (st.length : Int) := by simp [IntKind.wrap, IntKind.bits, IntKind.signed]; omega
            generalize ((S k).q : Int) = q0 at *
            generalize hkl : st.length = kl at *
            clear hrun2 hown2 hU2 hU12 hB2 hk hrun3 hown3 hU3 hn2 hlen hown hU hnj hBs HU2 HNj hrun4 hown4 hU4 hT hpc hst hn3 hU13 hUw3 v1 v2 v3 v4 hkl
            go_upto_region 14 with (at_builtin; refine wpList_append_eq rfl _ _ _ rfl _ _ _ rfl rfl HRun2.out ?_)
            clear HRun2
            go_upto_region 17 with (at_builtin; refine wpList_append_eq rfl _ _ _ rfl _ _ _ rfl rfl HRun3.out ?_)
            clear HRun3 d30 d31 d32
            go_wp2_with (at_builtin; refine wpList_append_eq rfl _ _ _ rfl _ _ _ rfl rfl HRun4.out ?_)
            go_roundw
            case rel => exact ⟨k + 1, a4, nj + 1 + 3 + kl, c4, by omega, by go_num, rfl, by rw [HE.out]; exact HN.out, by rw [HE.out]; exact HO.out, HU.out⟩
            case measure => simp [intOf]; omega
    · have i1 : decide ((k : Int) < 8) = false := decide_eq_false (by omega)
      have hk8 : k = 8 := by omega
      rw [hk8] at hown
      have HO : Hid (wr.ownsRow w.heap.size 27 1 (.slice ak nk ck) (encS S).length (uvs (encS S))) := hown
      clear hown hU hnk hk8
      go_wp2
      go_ret
      exact ⟨_, rfl, HO.out, HU.out.bel⟩
end Go.Proofs.Ytliifpknkdjgjaa
