/- Proved: januslaw20.SignalsHandlers answers true for every machine, number and handler (while one is in a handler only the last signal comes; behind it all others, and the machine is what it was), at the commit of this claim; no condition beyond the row's own. -/
import Derived.Test.YtliifpknkdjgjaaOneM20
namespace Go.Proofs.Ytliifpknkdjgjaa
open Go.ChangeShapes Go.WideShapes Go.ChangeAt Go.RowKit Go.Lib Go.Joins
set_option linter.unusedVariables false

def hh (m : Nat) (h pc : Int) (st : List Int) : SS := sdS (enS (seS SS.first 1 ((m : Int) + 1) h) 1 pc st) 1 ((m : Int) + 1)
def hp (m : Nat) (h : Int) (q : Nat) (k : Option (Int × List Int)) : Sg := ⟨(List.replicate 15 dfl).set m h, q, k⟩
theorem hh_0 {m : Nat} (h pc : Int) (st : List Int) (hm : m < 15) (h8 : m ≠ 8) : (hh m h pc st) 0 = hp m h (addB 0 (m + 1)) (some (pc, st)) := by
  unfold hh
  rw [at1_sd hm, at1_en pc st (by rw [at1_se h hm h8]; rfl), at1_se h hm h8]
  rfl
theorem q_ok {m : Nat} (hm : m < 15) : QOk (addB 0 (m + 1)) := QOk.zero.add (by omega) (by omega)
theorem hh_nx {m : Nat} (h : Int) (z : Int × List Int) (hm : m < 15) (h8 : m ≠ 8) : (hp m h (addB 0 (m + 1)) (some z)).nx = (0, addB 0 (m + 1)) := by
  unfold Sg.nx
  rw [show (hp m h (addB 0 (m + 1)) (some z)).q = addB 0 (m + 1) from rfl, addB_bit, decide_eq_false (show ¬ m + 1 = 9 by omega), if_neg (by simp), show (hp m h (addB 0 (m + 1)) (some z)).k = some z from rfl, if_pos (by rfl)]
theorem hh_nx9 {m : Nat} (h : Int) (z : Int × List Int) : (hp m h (addB (addB 0 (m + 1)) 9) (some z)).nx = (9, clr (addB (addB 0 (m + 1)) 9) 9) := by
  unfold Sg.nx
  rw [show (hp m h (addB (addB 0 (m + 1)) 9) (some z)).q = addB (addB 0 (m + 1)) 9 from rfl, addB_bit, if_pos (by simp)]
theorem hh_last {m : Nat} (h : Int) (hm : m < 15) (h8 : m ≠ 8) (hi : h ≠ ign) : (hp m h (clr (addB (addB 0 (m + 1)) 9) 9) none).nx.1 = m + 1 := by
  have hq2 : QOk (addB (addB 0 (m + 1)) 9) := (q_ok hm).add (by omega) (by omega)
  have hb : ∀ j, (clr (addB (addB 0 (m + 1)) 9) 9).testBit j = if j = 9 then false else decide (m + 1 = j) := fun j => by
    rw [clr_bit hq2.1 (by omega)]
    by_cases e : j = 9
    · rw [if_pos e, if_pos e]
    · rw [if_neg e, if_neg e, addB_bit, addB_bit, decide_eq_false (show ¬ 9 = j by omega)]
      simp
  unfold Sg.nx
  rw [show (hp m h (clr (addB (addB 0 (m + 1)) 9) 9) none).q = clr (addB (addB 0 (m + 1)) 9) 9 from rfl, hb 9, if_pos rfl, if_neg (by simp), show (hp m h (clr (addB (addB 0 (m + 1)) 9) 9) none).k = none from rfl, if_neg (by simp)]
  rw [nx_take (n := m + 1) (h := (hp m h (clr (addB (addB 0 (m + 1)) 9) 9) none).h) ?_ 15 1 _ (by omega) (by omega) ?_ ?_]
  · show ((List.replicate 15 dfl).set m h).getD (m + 1 - 1) 0 ≠ ign
    rw [show m + 1 - 1 = m by omega, List.getD_eq_getElem?_getD, List.getElem?_set_self (by simpa using hm)]
    exact hi
  · rw [hb, if_neg (by omega), decide_eq_true rfl]
  · intro j h1 h2
    rw [hb]
    split
    · rfl
    · exact decide_eq_false (by omega)
theorem hp_hd {m : Nat} (h : Int) (q : Nat) (k : Option (Int × List Int)) (hm : m < 15) : (hp m h q k).hd (m + 1) = h := by
  show ((List.replicate 15 dfl).set m h).getD (m + 1 - 1) 0 = h
  rw [show m + 1 - 1 = m by omega, List.getD_eq_getElem?_getD, List.getElem?_set_self (by simpa using hm)]
  rfl
/-- The states that the law goes through. -/
def s1 (m : Nat) (h : Int) : SS := seS SS.first 1 ((m : Int) + 1) h
def s2 (m : Nat) (h pc : Int) (st : List Int) : SS := enS (s1 m h) 1 pc st
def s3 (m : Nat) (h pc : Int) (st : List Int) : SS := sdS (s2 m h pc st) 1 ((m : Int) + 1)
def s4 (m : Nat) (h pc : Int) (st : List Int) : SS := nxS (s3 m h pc st) 1
def s5 (m : Nat) (h pc : Int) (st : List Int) : SS := sdS (s4 m h pc st) 1 9
def s6 (m : Nat) (h pc : Int) (st : List Int) : SS := nxS (s5 m h pc st) 1
def s7 (m : Nat) (h pc : Int) (st : List Int) : SS := leS (s6 m h pc st) 1
structure Facts (m : Nat) (h pc : Int) (st : List Int) : Prop where
  o1 : SOk (s1 m h)
  o2 : SOk (s2 m h pc st)
  o3 : SOk (s3 m h pc st)
  o4 : SOk (s4 m h pc st)
  o5 : SOk (s5 m h pc st)
  o6 : SOk (s6 m h pc st)
  o7 : SOk (s7 m h pc st)
  a1 : seE 1 ((m : Int) + 1) = 0
  a2 : enE (s1 m h) 1 = 0
  a3 : sdE 1 ((m : Int) + 1) = 0
  a4 : nxB (s3 m h pc st) 1 = false
  a6 : nxI (s5 m h pc st) 1 = 9
  a6b : nxB (s5 m h pc st) 1 = true
  a7 : leE (s6 m h pc st) 1 = 0
  a7p : lePc (s6 m h pc st) 1 = pc
  a7s : leSt (s6 m h pc st) 1 = st
  a8 : nxI (s7 m h pc st) 1 = m + 1
  a8h : nxH (s7 m h pc st) 1 = h
  a8b : nxB (s7 m h pc st) 1 = true
theorem facts {m : Nat} {h pc : Int} {st : List Int} (hm : m < 15) (h8 : m ≠ 8) (hi : h ≠ ign) (h0 : 0 ≤ h ∧ h < 18446744073709551616) (hf : 0 ≤ pc ∧ pc ≤ 1048576 ∧ st.length ≤ 32) (hu : U64 st) : Facts m h pc st := by
  have e1 : (s1 m h) 0 = hp m h 0 none := by unfold s1; rw [at1_se h hm h8]; rfl
  have e3 : (s3 m h pc st) 0 = hp m h (addB 0 (m + 1)) (some (pc, st)) := hh_0 h pc st hm h8
  have e4 : (s4 m h pc st) 0 = hp m h (addB 0 (m + 1)) (some (pc, st)) := by unfold s4; rw [at1_nx, e3, hh_nx h (pc, st) hm h8]; rfl
  have e5 : (s5 m h pc st) 0 = hp m h (addB (addB 0 (m + 1)) 9) (some (pc, st)) := by
    have := at1_sd (S := s4 m h pc st) (m := 8) (by omega)
    rw [e4] at this
    exact this
  have e6 : (s6 m h pc st) 0 = hp m h (clr (addB (addB 0 (m + 1)) 9) 9) (some (pc, st)) := by unfold s6; rw [at1_nx, e5, hh_nx9]; rfl
  have e7 : (s7 m h pc st) 0 = hp m h (clr (addB (addB 0 (m + 1)) 9) 9) none := by unfold s7; rw [at1_le, e6]; rfl
  have o1 : SOk (s1 m h) := ok_se ok_first _ _ _ h0
  have o2 : SOk (s2 m h pc st) := ok_en o1 _ _ _ hf.1 hf.2.1 hf.2.2 hu
  have o3 : SOk (s3 m h pc st) := ok_sd o2 _ _
  have o4 : SOk (s4 m h pc st) := ok_nx o3 _
  have o5 : SOk (s5 m h pc st) := ok_sd o4 _ _
  have o6 : SOk (s6 m h pc st) := ok_nx o5 _
  have o7 : SOk (s7 m h pc st) := ok_le o6 _
  obtain ⟨l1, l2, l3⟩ := at1_leE (S := s6 m h pc st) (z := (pc, st)) (by rw [e6]; rfl)
  have hl := hh_last h hm h8 hi
  have x8 : nxI (s7 m h pc st) 1 = m + 1 := by rw [at1_nxI, e7, hl]
  refine ⟨o1, o2, o3, o4, o5, o6, o7, at1_seE hm h8, at1_enE (by rw [e1]; rfl), at1_sdE hm, ?_, ?_, ?_, l1, l2, l3, x8, ?_, ?_⟩
  · rw [at1_nxB, e3, hh_nx h (pc, st) hm h8]; rfl
  · rw [at1_nxI, e5, hh_nx9]
  · rw [at1_nxB, e5, hh_nx9]; rfl
  · rw [at1_nxH, e7, hl, if_neg (by omega), hp_hd h _ _ hm]
  · rw [at1_nxB, e7, hl]
    exact bne_iff_ne.2 (by omega)
set_option maxRecDepth 100000 in
set_option maxHeartbeats 8000000 in
theorem handlers_walk (pc : Int) (a : Option Addr) (n c : Nat) (st : List Int) (sig h : Int) (w : World) (hr : Rd w a st) (hu : U64 st) (hn : n = st.length) (hn9 : n ≤ 9223372036854775807) (hs1 : -9223372036854775808 ≤ sig) (hs2 : sig ≤ 9223372036854775807) (hh0 : 0 ≤ h ∧ h < 18446744073709551616) :
    Calls Try.prog 6 #[vmV pc a n c, .int .i64 sig, .int .u64 h] w fun e w' => e = .returned (.bool true) ∧ Below w.heap.size w w' := by
  obtain ⟨W, hW⟩ : ∃ W, W = w.alloc (.cells #[.int .i64 pc, .slice a n c] 30) := ⟨_, rfl⟩
  obtain ⟨g, hg⟩ : ∃ g, g = w.heap.size := ⟨_, rfl⟩
  have hb0 : Below w.heap.size w W := by rw [hW]; exact below_alloc _ _
  have k0 : W.heap[g]? = some (.cells #[.int .i64 pc, .slice a n c] 30 (0, 0)) := by rw [hW, hg]; exact heap_alloc_new _ _
  have z0 : W.cell? ⟨g, 0, none⟩ = some (.int .i64 pc) := by rw [cell_of_heap k0]; rfl
  have z1 : W.cell? ⟨g, 1, none⟩ = some (.slice a n c) := by rw [cell_of_heap k0]; rfl
  have hgl : g < W.heap.size := lt_of_heap k0
  have HB0 : Hid (Below w.heap.size w W) := hb0
  have HK0 : Hid (W.heap[g]? = some (.cells #[.int .i64 pc, .slice a n c] 30 (0, 0))) := k0
  have HRd : Hid (Rd W a st) := hr.below hb0
  have HBF : Hid (∀ V, Below W.heap.size W V → Below w.heap.size w V) := fun V hv => hb0.trans (hv.mono hb0.size)
  have HW : Hid _ := hW
  have HG : Hid (g = w.heap.size) := hg
  have HU : Hid (U64 st) := hu
  have HN : Hid (n = st.length) := hn
  have HH0 : Hid (0 ≤ h ∧ h < 18446744073709551616) := hh0
  have hF := fit_at pc a n c W
  clear hW hg hb0 k0 hr hu hn hh0
  cases hf : fitB pc n with
  | false =>
    rw [hf] at hF
    clear hf hs1 hs2
    go_enter Try.func6, Try.ntmps6
    go_upto_region 1 with fail
    rw [← HW.out, ← HG.out]
    clear HW
    go_wp2_with fail
    refine hF.mono ?_
    rintro e w1 ⟨rfl, hb1⟩
    have HB1 : Hid (Below w.heap.size w w1) := HB0.out.trans (hb1.mono HB0.out.size)
    clear hb1 hF z0 z1
    go_wp2_with fail
    refine (awake_at _).mono ?_
    rintro e w2 ⟨rfl, hb2⟩
    go_wp2
    go_ret
    exact ⟨rfl, HB1.out.trans (hb2.mono HB1.out.size)⟩
  | true =>
    have hfit : 0 ≤ pc ∧ pc ≤ 1048576 ∧ n ≤ 32 := by
      unfold fitB at hf
      simp only [Bool.and_eq_true, decide_eq_true_eq] at hf
      exact ⟨hf.1.1, hf.1.2, hf.2⟩
    rw [hf] at hF
    have HFit : Hid (0 ≤ pc ∧ pc ≤ 1048576 ∧ n ≤ 32) := hfit
    obtain ⟨r, hr⟩ : ∃ r, r = sig.tmod 15 := ⟨_, rfl⟩
    have hrb : -15 < r ∧ r < 15 := by
      have h1 := Int.lt_tmod_of_pos sig (b := 15) (by omega)
      have h2 := Int.tmod_lt_of_pos sig (b := 15) (by omega)
      omega
    obtain ⟨m, hm⟩ : ∃ m : Nat, (m : Int) = (r + 15) % 15 := ⟨((r + 15) % 15).toNat, by omega⟩
    have hm15 : m < 15 := by omega
    have hrem : sig.tmod 15 = r := hr.symm
    have hw1 : IntKind.i64.wrap r = r := by simp [IntKind.wrap, IntKind.bits, IntKind.signed]; omega
    have hw2 : IntKind.i64.wrap (r + 15) = r + 15 := by simp [IntKind.wrap, IntKind.bits, IntKind.signed]; omega
    have hrem2 : (r + 15).tmod 15 = (m : Int) := by rw [Int.tmod_eq_emod_of_nonneg (by omega)]; exact hm.symm
    have hrem3 : (r + 15) % 15 = (m : Int) := hm.symm
    have hw3 : IntKind.i64.wrap (m : Int) = (m : Int) := by simp [IntKind.wrap, IntKind.bits, IntKind.signed]; omega
    have hw4 : IntKind.i64.wrap ((m : Int) + 1) = (m : Int) + 1 := by simp [IntKind.wrap, IntKind.bits, IntKind.signed]; omega
    clear hf hs1 hs2 hfit hr hrb hm hn9
    go_enter Try.func6, Try.ntmps6
    go_upto_region 1 with fail
    rw [← HW.out, ← HG.out]
    clear HW
    go_wp2_with fail
    refine hF.mono ?_
    rintro e w1 ⟨rfl, hb1⟩
    have HB1 : Hid (Below w.heap.size w w1) := HB0.out.trans (hb1.mono HB0.out.size)
    have hN := new_at w1
    obtain ⟨b, hb⟩ : ∃ b, b = w1.heap.size := ⟨_, rfl⟩
    rw [← hb] at hN
    have HBb : Hid (b = w1.heap.size) := hb
    have hne := ptr_eq b 0
    have hgb : g ≠ b := by have := hb1.size; omega
    have HW1 : Hid (Below W.heap.size W w1) := hb1
    clear hb1 hF z0 z1 hb HB0
    go_wp2_with fail
    refine hN.mono ?_
    rintro e w2 ⟨rfl, hA, hb2⟩
    have hbl : W.heap.size ≤ b := by rw [HBb.out]; exact HW1.out.size
    have HW2 : Hid (Below W.heap.size W w2) := HW1.out.trans (hb2.mono hbl)
    have HA : Hid (SgAt w2 b SS.first) := hA
    clear hN hA hb2 HW1 HB1
    by_cases h8 : m = 8
    · have g0 : ((m : Int) + 1 == 9) = true := by rw [h8]; rfl
      clear HA h8
      go_wp2_with fail
      refine (awake_at _).mono ?_
      rintro e w3 ⟨rfl, hb3⟩
      go_wp2
      go_ret
      exact ⟨rfl, HBF.out _ (HW2.out.trans (hb3.mono HW2.out.size))⟩
    · have g0 : ((m : Int) + 1 == 9) = false := beq_false_of_ne (by omega)
      by_cases hi : h = ign
      · have g1 : (h == 18446744073709551614) = true := by rw [hi]; rfl
        clear HA h8 hi
        go_wp2_with fail
        refine (awake_at _).mono ?_
        rintro e w3 ⟨rfl, hb3⟩
        go_wp2
        go_ret
        exact ⟨rfl, HBF.out _ (HW2.out.trans (hb3.mono HW2.out.size))⟩
      · have g1 : (h == 18446744073709551614) = false := beq_false_of_ne hi
        have HX : Hid (Facts m h pc st) := facts hm15 h8 hi HH0.out ⟨HFit.out.1, HFit.out.2.1, by rw [← HN.out]; exact HFit.out.2.2⟩ HU.out
        have hc := set_at b SS.first 1 ((m : Int) + 1) h w2 HA.out ok_first
        rw [HX.out.a1] at hc
        clear hi h8 HA
        go_wp2_with fail
        refine hc.mono ?_
        rintro e w3 ⟨rfl, hA, hu⟩
        have HW3 : Hid (Below W.heap.size W w3) := upd_below HW2.out hu hbl
        have hA : SgAt w3 b (s1 m h) := hA
        have hk := (HW3.out.block g hgl).trans HK0.out
        have z0 : w3.cell? ⟨g, 0, none⟩ = some (.int .i64 pc) := by rw [cell_of_heap hk]; rfl
        have z1 : w3.cell? ⟨g, 1, none⟩ = some (.slice a n c) := by rw [cell_of_heap hk]; rfl
        clear hk
        have hd := enter_at b (s1 m h) 1 pc a n c st w3 hA (HRd.out.below HW3.out) HN.out (by have := HFit.out.2.2; omega)
        rw [HX.out.a2] at hd
        clear hc hA hu HW2
        have hc := hd
        clear hd
        go_wp2_with fail
        refine hc.mono ?_
        rintro e w4 ⟨rfl, hA, hu⟩
        have HW4 : Hid (Below W.heap.size W w4) := upd_below HW3.out hu hbl
        have hA : SgAt w4 b (s2 m h pc st) := hA
        have hd := send_at b (s2 m h pc st) 1 ((m : Int) + 1) w4 hA HX.out.o2
        rw [HX.out.a3] at hd
        clear hc hA hu HW3 z0 z1
        have hc := hd
        clear hd
        go_wp2_with fail
        refine hc.mono ?_
        rintro e w5 ⟨rfl, hA, hu⟩
        have HW5 : Hid (Below W.heap.size W w5) := upd_below HW4.out hu hbl
        have hA : SgAt w5 b (s3 m h pc st) := hA
        have hd := snext_at b (s3 m h pc st) 1 w5 hA HX.out.o3
        rw [HX.out.a4] at hd
        generalize nxI (s3 m h pc st) 1 = y3 at hd
        generalize nxH (s3 m h pc st) 1 = z3 at hd
        clear hc hA hu HW4
        have hc := hd
        clear hd
        go_wp2_with fail
        refine hc.mono ?_
        rintro e w6 ⟨rfl, hA, hu⟩
        have HW6 : Hid (Below W.heap.size W w6) := upd_below HW5.out hu hbl
        have hA : SgAt w6 b (s4 m h pc st) := hA
        have hd := send_at b (s4 m h pc st) 1 9 w6 hA HX.out.o4
        generalize sdE 1 9 = y4 at hd
        clear hc hA hu HW5
        have hc := hd
        clear hd
        go_wp2_with fail
        refine hc.mono ?_
        rintro e w7 ⟨rfl, hA, hu⟩
        have HW7 : Hid (Below W.heap.size W w7) := upd_below HW6.out hu hbl
        have hA : SgAt w7 b (s5 m h pc st) := hA
        have hd := snext_at b (s5 m h pc st) 1 w7 hA HX.out.o5
        rw [HX.out.a6, HX.out.a6b] at hd
        generalize nxH (s5 m h pc st) 1 = z5 at hd
        clear hc hA hu HW6
        have hc := hd
        clear hd
        go_wp2_with fail
        refine hc.mono ?_
        rintro e w8 ⟨rfl, hA, hu⟩
        have HW8 : Hid (Below W.heap.size W w8) := upd_below HW7.out hu hbl
        have hA : SgAt w8 b (s6 m h pc st) := hA
        have hd := leave_at b (s6 m h pc st) 1 w8 hA
        rw [HX.out.a7, HX.out.a7p, HX.out.a7s] at hd
        clear hc hA hu HW7
        have hc := hd
        clear hd
        go_wp2_with fail
        refine hc.mono ?_
        rintro e w9 ⟨a9, c9, rfl, hc9, hT9, hA, hu⟩
        have HW9 : Hid (Below W.heap.size W w9) := upd_below HW8.out hu hbl
        obtain ⟨V, hV⟩ : ∃ V, V = w9.alloc (.cells #[.int .i64 pc, .slice a9 st.length c9] 30) := ⟨_, rfl⟩
        obtain ⟨q, hq⟩ : ∃ q, q = w9.heap.size := ⟨_, rfl⟩
        have hbV : Below w9.heap.size w9 V := by rw [hV]; exact below_alloc _ _
        have kq : V.heap[q]? = some (.cells #[.int .i64 pc, .slice a9 st.length c9] 30 (0, 0)) := by rw [hV, hq]; exact heap_alloc_new _ _
        have HAV : Hid (SgAt V b (s7 m h pc st)) := SgAt.below hA hbV
        have HTV : Hid (TRd V a9 st) := hT9.kept (KeepW.below hbV)
        have HWV : Hid (Below W.heap.size W V) := HW9.out.trans (hbV.mono HW9.out.size)
        have HKq : Hid (V.heap[q]? = some (.cells #[.int .i64 pc, .slice a9 st.length c9] 30 (0, 0))) := kq
        have Hqb : Hid (q ≠ b) := by show q ≠ b; have := hA.lt; omega
        have hd := snext_at b (s7 m h pc st) 1 V HAV.out HX.out.o7
        rw [HX.out.a8, HX.out.a8h, HX.out.a8b] at hd
        have HV : Hid _ := hV
        have HQ : Hid (q = w9.heap.size) := hq
        rw [show ((m + 1 : Nat) : Int) = (m : Int) + 1 by omega] at hd
        clear hc hA hu HW8 HW9 hT9 hc9 hV hq hbV kq
        go_upto_region 16 with fail
        rw [← HV.out, ← HQ.out]
        clear HV
        go_wp2_with fail
        refine hd.mono ?_
        rintro e w10 ⟨rfl, hA, hu⟩
        have HW10 : Hid (Below W.heap.size W w10) := upd_below HWV.out hu hbl
        have k0 := (HW10.out.block g hgl).trans HK0.out
        have kq := (hu.block q (lt_of_heap HKq.out) Hqb.out).trans HKq.out
        have z0 : w10.cell? ⟨g, 0, none⟩ = some (.int .i64 pc) := by rw [cell_of_heap k0]; rfl
        have z1 : w10.cell? ⟨g, 1, none⟩ = some (.slice a n c) := by rw [cell_of_heap k0]; rfl
        have y0 : w10.cell? ⟨q, 0, none⟩ = some (.int .i64 pc) := by rw [cell_of_heap kq]; rfl
        have y1 : w10.cell? ⟨q, 1, none⟩ = some (.slice a9 st.length c9) := by rw [cell_of_heap kq]; rfl
        have hSa := same_at pc st a a9 n c c9 w10 HN.out (HRd.out.below HW10.out) ((HTV.out.kept (HAV.out.kw hu)).rd) (by have := HFit.out.2.2; omega)
        rw [← HN.out] at y1
        have gg : ((m : Int) + 1 == (m : Int) + 1) = true := by simp
        have hhq : (h == h) = true := by simp
        clear hd hA hu k0 kq HWV HKq
        go_wp2_with fail
        refine hSa.mono ?_
        rintro e w11 ⟨rfl, hb11⟩
        have HW11 : Hid (Below W.heap.size W w11) := HW10.out.trans (hb11.mono HW10.out.size)
        clear hSa hb11 HW10 z0 z1 y0 y1
        go_wp2_with fail
        refine (awake_at _).mono ?_
        rintro e w12 ⟨rfl, hb12⟩
        go_wp2
        go_ret
        exact ⟨rfl, HBF.out _ (HW11.out.trans (hb12.mono HW11.out.size))⟩

theorem own : ownKnob Try.prog.godebug = none := by kernel_rfl
theorem laidOut : laidOutB Try.prog = true := by kernel_rfl

set_option maxRecDepth 100000 in
theorem handlers_lifted (os : Os) (started : os.Started) (H : Type) (enc : TypeId × Value → H) :
    ReturnsInHanded {} Try.checked os 6 .any (Rows.signalsHandlersSpec.pre6 enc Try.prog Try.f6 Rows.signalsHandlersRow.domain false) (Rows.signalsHandlersSpec.post enc Try.prog Try.f6 false true false false) := by
  refine returnsInHanded_of_change (C := Try.checked) own started (by kernel_rfl) Try.func6
    (ChangeSpec.witness6 (enc := enc) (C := Try.checked) false ⟨#[], #[.agg #[.int .i64 0, .slice none 0 0], .int .i64 0, .int .u64 0], []⟩ 8 (by kernel_rfl) (by kernel_rfl) (by kernel_rfl) (by kernel_rfl)) ?_
  intro W base args ds gs before hval0 hW hcnd _
  have hval : ∀ (j : Nat) t v, Try.f6.params[j]? = some t → args[j]? = some v → Value.okWide Try.prog W .any base t v := hval0
  have hW' := hW
  obtain ⟨p, q, hA0, hV, rfl, hfz, hnd⟩ := hW
  have hA : DataW.TrodAll enc Try.prog W 0 (fun _ => true) true Try.f6.params.toList args.toList ds p := hA0
  rw [Try.params6] at hA hval
  obtain ⟨v0, vs0, d0, ds0, p0, q0, hargs, rfl, rfl, h0, r0⟩ := trodAll_cons hA
  obtain ⟨v1, vs1, d1, ds1, p1, q1, rfl, rfl, rfl, h1, r1⟩ := trodAll_cons r0
  obtain ⟨v2, vs2, d2, ds2, p2, q2, rfl, rfl, rfl, h2, r2⟩ := trodAll_cons r1
  obtain ⟨rfl, rfl, rfl⟩ := trodAll_nil r2
  obtain rfl : args = #[v0, v1, v2] := by cases args; simp_all
  obtain ⟨rfl, rfl⟩ := trodVars_none hV
  have k0 := h0
  have lt0 : ∀ x ∈ p0, x.block < W.heap.size := by obtain ⟨m, hm⟩ := k0; exact DataW.trod_lt m _ _ _ hm
  obtain ⟨a1, rfl, rfl, rfl, w1⟩ := open_int Try.underlying3 (hval 1 3 v1 rfl rfl) h1
  obtain ⟨a2, rfl, rfl, rfl, w2⟩ := open_int Try.underlying27 (hval 2 27 v2 rfl rfl) h2
  clear hA0 hval0
  obtain ⟨c0, c1, y0, y1, m, rfl, rfl, rfl, hy0, hy1⟩ := open_agg2 Try.underlying30 (by kernel_rfl) (by kernel_rfl) (hval 0 30 v0 rfl rfl) h0
  obtain ⟨pc, rfl, _⟩ := int_in hy0
  obtain ⟨aa, cc, st, rfl, hl9, hrd, hu64⟩ := words_in' hy1
  have b1 := bounds_i64 w1
  have b2 := bounds_u64 w2
  have hwalk : Calls Try.prog 6 #[vmV pc aa st.length cc, .int .i64 a1, .int .u64 a2] W fun e w' => e = .returned (.bool true) ∧ Below W.heap.size W w' := handlers_walk pc aa st.length cc st a1 a2 W hrd hu64 rfl hl9 b1.1 b1.2 ⟨b2.1, by have := b2.2; omega⟩
  refine hwalk.mono fun e W' ⟨he, bel⟩ => ?_
  subst he
  exact ⟨_, rfl, _, _, _, [], _, [], hW', trodAll_mk1 (shut_bool Try.underlying4 _), (trodAll_cons_mk (Below.trod laidOut (by kernel_rfl) (of_decide_eq_true (by kernel_rfl)) k0 bel lt0) (trodAll_cons_mk (shut_int Try.underlying3 w1) (trodAll_cons_mk (shut_int Try.underlying27 w2) trodAll_mk0))), rfl, bel.frame _, fun h => by cases h⟩

theorem handlers_holds : Rows.SignalsHandlersSaid :=
  OpenClaim.holds_of_wide 6 Try.f6 rfl rfl rfl rfl rfl rfl rfl ⟨rfl, rfl, rfl, rfl, rfl⟩ rfl rfl rfl rfl rfl (by kernel_rfl) Try.func6 (by kernel_rfl)
    (of_decide_eq_true (by kernel_rfl)) (by unfold Func.isWrapper; first | (rw [if_pos (by decide +kernel)]; kernel_rfl) | (rw [if_neg (by decide +kernel)]; exact ⟨rfl, rfl⟩))
    (fun os started H enc _ => handlers_lifted os started H enc)
#print axioms handlers_holds
end Go.Proofs.Ytliifpknkdjgjaa
