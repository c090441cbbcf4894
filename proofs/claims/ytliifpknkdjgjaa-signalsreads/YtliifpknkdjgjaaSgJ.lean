/- Package signals: readVm. -/
import Derived.Test.YtliifpknkdjgjaaSgI
namespace Go.Proofs.Ytliifpknkdjgjaa
open Go.RowKit Go.Lib
set_option linter.unusedVariables false

theorem elemW : Try.prog.elem 28 = 27 := by kernel_rfl
/-- Words that are words. -/
def U64 (ws : List Int) : Prop := ∀ x ∈ ws, 0 ≤ x ∧ x < 18446744073709551616
theorem u64_get {ws : List Int} (h : U64 ws) {j : Nat} {x : Int} (hx : ws[j]? = some x) : 0 ≤ x ∧ x < 18446744073709551616 := h x (List.mem_of_getElem? hx)
theorem U64.drop {ws : List Int} (h : U64 ws) (n : Nat) : U64 (ws.drop n) := fun x hx => h x (List.mem_of_mem_drop hx)
set_option maxRecDepth 100000 in
/-- l[j:] of words. -/
theorem cut_wl (D : List Int) (a : Option Addr) (len cap j : Nat) (hl : len = D.length) (hj : j ≤ len) (hcap : len ≤ cap) : ∃ a2 c2, (∀ V, (Instr.slice 28 (.slice a len cap) (some (.int .i64 (j : Int))) none none).run Try.prog V = .ok (.slice a2 (len - j) c2) V) ∧ len - j ≤ c2 ∧ (∀ W, Rd W a D → Rd W a2 (D.drop j)) := by
  obtain ⟨i0, hi0, hzz⟩ := Option.map_eq_some_iff.1 wordInfo
  simp only [Prod.mk.injEq] at hzz
  refine ⟨if cap = j then a else a.map (·.add (j * 1)), cap - j, fun V => ?_, by omega, fun W ha => ?_⟩
  · have hk0 : (j : Int) ≤ (len : Int) := by omega
    rw [run_slice_l V 28 _ _ _ Try.underlying28 _ _ (by omega) hk0]
    simp [sizeOf, typeInfo, elemW, hi0, sliced, hzz.2.1]
  · intro i x hx
    rw [List.getElem?_drop] at hx
    have hlt := (List.getElem?_eq_some_iff.1 hx).1
    obtain ⟨g, off, e, hc⟩ := ha (j + i) x hx
    refine ⟨g, off + j, ?_, ?_⟩
    · rw [if_neg (by omega), e]
      simp [Addr.add]
    · rw [Nat.add_assoc]
      exact hc
set_option maxRecDepth 100000 in
/-- l[:j] of words. -/
theorem cut_wh (D : List Int) (a : Option Addr) (len cap j : Nat) (k : IntKind) (hj : j ≤ len) (hcap : len ≤ cap) : (∃ c2, j ≤ c2 ∧ ∀ V, (Instr.slice 28 (.slice a len cap) none (some (.int k (j : Int))) none).run Try.prog V = .ok (.slice a j c2) V) ∧ (∀ W, Rd W a D → Rd W a (D.take j)) := by
  obtain ⟨i0, hi0, hzz⟩ := Option.map_eq_some_iff.1 wordInfo
  simp only [Prod.mk.injEq] at hzz
  refine ⟨⟨cap, by omega, fun V => ?_⟩, fun W ha => ?_⟩
  · simp [Instr.slice, Instr.sliceBounds, run_underlying Try.underlying28, run_sliceBound, go_sem, sizeOf, typeInfo, hi0, show j ≤ cap by omega]
  · intro i x hx
    have hlt := (List.getElem?_eq_some_iff.1 hx).1
    rw [List.length_take] at hlt
    rw [List.getElem?_take_of_lt (by omega)] at hx
    exact ha i x hx
theorem mask_bit (j : Nat) : (18446744073709486081 : Nat).testBit j = (decide (j < 64) && !(decide (j < 16) && !decide (j = 0))) := by
  have h1 := Nat.testBit_two_pow_sub_succ (n := 64) (x := 65534) (by decide) j
  have h2 := Nat.testBit_two_pow_sub_succ (n := 16) (x := 1) (by decide) j
  have e1 : (2 ^ 64 - (65534 + 1) : Nat) = 18446744073709486081 := by decide
  have e2 : (2 ^ 16 - (1 + 1) : Nat) = 65534 := by decide
  rw [e1] at h1
  rw [e2] at h2
  rw [h1, h2]
  have h3 : (1 : Nat).testBit j = decide (j = 0) := by
    have := Nat.testBit_two_pow (n := 0) (m := j)
    rw [show (2 ^ 0 : Nat) = 1 from rfl] at this
    rw [this]
    simp [eq_comm]
  rw [h3]
theorem other_bits (q : Nat) (hq : q < 18446744073709551616) : ((((q &&& 18446744073709486081 : Nat)) : Int) != 0) = !okQ (q : Int) := by
  have key : (q &&& 18446744073709486081 = 0) ↔ (q < 65536 ∧ q % 2 = 0) := by
    constructor
    · intro h
      have hb : ∀ j, (q.testBit j && (18446744073709486081 : Nat).testBit j) = false := fun j => by rw [← Nat.testBit_and, h]; simp
      refine ⟨?_, ?_⟩
      · refine Nat.lt_pow_two_of_testBit (n := 16) q (fun j hj => ?_)
        by_cases h64 : j < 64
        · have := hb j
          rw [mask_bit, decide_eq_true h64, decide_eq_false (show ¬ j < 16 by omega)] at this
          simpa using this
        · exact Nat.testBit_lt_two_pow (Nat.lt_of_lt_of_le hq (by have := Nat.pow_le_pow_right (n := 2) (by omega) (show 64 ≤ j by omega); simpa using this))
      · have := hb 0
        rw [mask_bit, Nat.testBit_zero] at this
        simp at this
        omega
    · rintro ⟨h1, h2⟩
      apply Nat.eq_of_testBit_eq
      intro j
      rw [Nat.testBit_and, mask_bit]
      by_cases h0 : j = 0
      · subst h0
        rw [Nat.testBit_zero]
        simp [h2]
      · by_cases h16 : j < 16
        · simp [h16, h0]
        · rw [low_bit h1 (by omega)]
          simp
  unfold okQ
  by_cases h : q &&& 18446744073709486081 = 0
  · obtain ⟨h1, h2⟩ := key.1 h
    rw [h, decide_eq_true (by omega), decide_eq_true (by omega)]
    rfl
  · have h1 : ¬ (q < 65536 ∧ q % 2 = 0) := fun x => h (key.2 x)
    rw [bne_iff_ne.2 (by omega)]
    by_cases h2 : q < 65536
    · rw [decide_eq_false (show ¬ ((q : Int) % 2 = 0) by omega)]
      simp
    · rw [decide_eq_false (show ¬ ((q : Int) < 65536) by omega)]
      simp
set_option maxRecDepth 100000 in
set_option maxHeartbeats 4000000 in
theorem readVm_at (a : Option Addr) (n cap : Nat) (D : List Int) (w : World) (hr : Rd w a D) (hn : n = D.length) (hcap : n ≤ cap) (hu : U64 D) (hn9 : n ≤ 2000) :
    Calls Try.prog 49 #[.slice a n cap] w fun x w' => (rdV D = none → x = .returned (.tuple #[vmV 0 none 0 0, .bool false])) ∧ (∀ z, rdV D = some z → ∃ a' c', x = .returned (.tuple #[vmV z.1 a' z.2.length c', .bool true]) ∧ z.2.length ≤ c' ∧ TRd w' a' z.2) ∧ Below w.heap.size w w' := by
  obtain ⟨W, hW⟩ : ∃ W, W = w.alloc (.cells #[.int .i64 0, .slice none 0 0] 30) := ⟨_, rfl⟩
  obtain ⟨g, hg⟩ : ∃ g, g = w.heap.size := ⟨_, rfl⟩
  have hb : Below w.heap.size w W := by rw [hW]; exact below_alloc _ _
  have h0 : W.heap[g]? = some (.cells #[.int .i64 0, .slice none 0 0] 30 (0, 0)) := by rw [hW, hg]; exact heap_alloc_new _ _
  have z0 : W.cell? ⟨g, 0, none⟩ = some (.int .i64 0) := by rw [cell_of_heap h0]; rfl
  have z1 : W.cell? ⟨g, 1, none⟩ = some (.slice none 0 0) := by rw [cell_of_heap h0]; rfl
  have f0 : W.frozen? ⟨g, 0, none⟩ = false := frozen_of_heap h0
  have f1 : W.frozen? ⟨g, 1, none⟩ = false := frozen_of_heap h0
  have hsz : W.heap.size = g + 1 := by rw [hW, hg]; simp
  have HB : Hid (Below w.heap.size w W) := hb
  have H0 : Hid (W.heap[g]? = some (.cells #[.int .i64 0, .slice none 0 0] 30 (0, 0))) := h0
  have HW : Hid _ := hW
  have HG : Hid (g = w.heap.size) := hg
  have hrW := hr.below hb
  clear hW hg hb h0 hr
  have fin : ∀ (a : Option Addr) (W2 : World) (k c : Nat) (x : Int) (er : Bool) (tm : Array Value), tm.getD 2 undef = .pointer (some ⟨g, 0, none⟩) → tm.getD 3 undef = .bool er → W2.heap[g]? = some (.cells #[.int .i64 x, .slice a k c] 30 (0, 0)) →
      (results Try.f49 tm).run Try.prog W2 = .ok (.tuple #[vmV x a k c, .bool er]) W2 := by
    intro a W2 k c x er tm h1 h2 h3
    rw [results_cell_tmp rfl, h1, h2]
    simp only [asAddr, Sem.run_pure, Result.andThen_ok]
    rw [run_loadVar_row _ g _ _ _ (0, 0) _ h3 Try.underlying30 rfl vmSize]
    rfl
  have HFin : Hid _ := fin
  clear fin
  have noP : ∀ tm : Array Value, tm.getD 2 undef = .pointer (some ⟨g, 0, none⟩) → tm.getD 3 undef = .bool false → rdV D = none →
      bodyPost Try.prog Try.f49 (fun x w' => (rdV D = none → x = .returned (.tuple #[vmV 0 none 0 0, .bool false])) ∧ (∀ z, rdV D = some z → ∃ a' c', x = .returned (.tuple #[vmV z.1 a' z.2.length c', .bool true]) ∧ z.2.length ≤ c' ∧ TRd w' a' z.2) ∧ Below w.heap.size w w') Exit.ret ⟨tm, []⟩ ((W.setCell ⟨g, 0, none⟩ (.int .i64 0)).setCell ⟨g, 1, none⟩ (.slice none 0 0)) := by
    intro tm t2 t3 hno
    have k1 := heap_set H0.out 0 (.int .i64 0)
    have k2 := heap_set k1 1 (.slice none 0 0)
    refine bodyPost_ret (v := .tuple #[vmV 0 none 0 0, .bool false]) (HFin.out none _ 0 0 0 false _ t2 t3 k2) rfl ⟨fun _ => rfl, fun z hz => (by rw [hno] at hz; cases hz), ?_⟩
    exact HB.out.trans (((Upd.setCell g 0 W _).trans (Upd.setCell g 1 _ _)).below (by have := HG.out; omega) HB.out.size)
  have HNo : Hid _ := noP
  clear noP
  by_cases h2 : n < 2
  · have g0 : decide ((n : Int) < 2) = true := decide_eq_true (by omega)
    have HN : Hid (rdV D = none) := by
      show _ = _
      match D, hn with
      | [], _ => rfl
      | [x], _ => rfl
      | x :: y :: r, hn => simp at hn; omega
    clear hn hu hn9 hrW
    go_enter Try.func49, Try.ntmps49
    go_upto_region 1 with fail
    rw [← HW.out, ← HG.out]
    clear HW
    go_wp2
    exact HNo.out _ rfl rfl HN.out
  · obtain ⟨pc, c, t, rfl⟩ : ∃ pc c t, D = pc :: c :: t := by
      match D, hn with
      | [], hn => simp at hn; omega
      | [x], hn => simp at hn; omega
      | x :: y :: r, _ => exact ⟨x, y, r, rfl⟩
    have hnl : n = t.length + 2 := hn
    obtain ⟨s, off, rfl, d0⟩ := hrW 0 pc rfl
    obtain ⟨_, _, e1, d1⟩ := hrW 1 c rfl
    simp only [Option.some.injEq, Addr.mk.injEq, and_true] at e1
    obtain ⟨rfl, rfl⟩ := e1
    rw [Nat.add_zero] at d0
    obtain ⟨p0, p1⟩ := u64_get hu (j := 0) (x := pc) rfl
    obtain ⟨q0, q1⟩ := u64_get hu (j := 1) (x := c) rfl
    have g0 : decide ((n : Int) < 2) = false := decide_eq_false (by omega)
    have n0 : (0 : Int) < (n : Int) := by omega
    have n1 : (1 : Int) < (n : Int) := by omega
    have hw1 : IntKind.i64.wrap ((n : Int) - 2) = (n : Int) - 2 := by simp [IntKind.wrap, IntKind.bits, IntKind.signed]; omega
    have hw2 : IntKind.u64.wrap ((n : Int) - 2) = (n : Int) - 2 := by simp [IntKind.wrap, IntKind.bits, IntKind.signed]; omega
    have HRd : Hid (Rd W (some ⟨s, off, none⟩) (pc :: c :: t)) := hrW
    have HNl : Hid (n = t.length + 2) := hnl
    by_cases hpc : 1048576 < pc
    · have HN : Hid (rdV (pc :: c :: t) = none) := by show _ = _; rw [rdV, if_pos (Or.inl hpc)]
      have g1 : decide (1048576 < pc) = true := decide_eq_true hpc
      clear hn hu hn9 hrW hnl h2 hpc p0 p1 q0 q1
      go_enter Try.func49, Try.ntmps49
      go_upto_region 1 with fail
      rw [← HW.out, ← HG.out]
      clear HW
      go_wp2
      exact HNo.out _ rfl rfl HN.out
    · have g1 : decide (1048576 < pc) = false := decide_eq_false hpc
      by_cases hc : 32 < c
      · have HN : Hid (rdV (pc :: c :: t) = none) := by show _ = _; rw [rdV, if_pos (Or.inr (Or.inl hc))]
        have g2 : decide (32 < c) = true := decide_eq_true hc
        clear hn hu hn9 hrW hnl h2 hpc p0 p1 q0 q1 hc
        go_enter Try.func49, Try.ntmps49
        go_upto_region 1 with fail
        rw [← HW.out, ← HG.out]
        clear HW
        go_wp2
        exact HNo.out _ rfl rfl HN.out
      · have g2 : decide (32 < c) = false := decide_eq_false hc
        by_cases hl : (n : Int) - 2 < c
        · have HN : Hid (rdV (pc :: c :: t) = none) := by show _ = _; rw [rdV, if_pos (Or.inr (Or.inr (by omega)))]
          have g3 : decide ((n : Int) - 2 < c) = true := decide_eq_true hl
          clear hn hu hn9 hrW hnl h2 hpc p0 p1 q0 q1 hc hl
          go_enter Try.func49, Try.ntmps49
          go_upto_region 1 with fail
          rw [← HW.out, ← HG.out]
          clear HW
          go_wp2
          exact HNo.out _ rfl rfl HN.out
        · have g3 : decide ((n : Int) - 2 < c) = false := decide_eq_false hl
          obtain ⟨m, rfl⟩ : ∃ m : Nat, c = (m : Int) := ⟨c.toNat, by omega⟩
          obtain ⟨a2, c2, hcut, hc2, hrd⟩ := cut_wl (pc :: (m : Int) :: t) (some ⟨s, off, none⟩) n cap 2 hn (by omega) hcap
          obtain ⟨⟨c3, hc3, hcut2⟩, hrd2⟩ := cut_wh t a2 (n - 2) c2 m .u64 (by omega) hc2
          have hcut' : ∀ V, (Instr.slice 28 (.slice (some ⟨s, off, none⟩) n cap) (some (.int .i64 2)) none none).run Try.prog V = .ok (.slice a2 (n - 2) c2) V := hcut
          have hml : m = (t.take m).length := by rw [List.length_take]; omega
          have hC := fun (q : Nat) => copyOf_at pc a2 m c3 (t.take m) (W.drewN q) ((hrd2 W (hrd W hrW)).below (drewN_below ⟨q, rfl⟩)) hml (by omega)
          have HV : Hid (rdV (pc :: (m : Int) :: t) = some (pc, t.take m)) := by show _ = _; rw [rdV, if_neg (by omega), Int.toNat_natCast]
          have hwp : IntKind.i64.wrap pc = pc := by simp [IntKind.wrap, IntKind.bits, IntKind.signed]; omega
          have HMl : Hid (m = (t.take m).length) := hml
          generalize n - 2 = n2 at *
          clear hn hu hn9 hrW hnl h2 hpc p0 p1 q0 q1 hc hl hcut hrd hrd2 hml
          go_enter Try.func49, Try.ntmps49
          go_upto_region 1 with fail
          rw [← HW.out, ← HG.out]
          clear HW
          go_upto_region 3 with fail
          go_quiet (fail)
          go_upto_region 4 with fail
          have e0 : (W.drewN nq).cell? ⟨s, off, none⟩ = some (.int .u64 pc) := d0
          have hC1 := hC nq
          have k0 : (W.drewN nq).heap[g]? = some (.cells #[.int .i64 0, .slice none 0 0] 30 (0, 0)) := H0.out
          have K0 : Hid _ := k0
          have HBq : Hid (Below w.heap.size w (W.drewN nq)) := HB.out.trans ((drewN_below ⟨nq, rfl⟩).mono HB.out.size)
          generalize W.drewN nq = V at *
          clear k0 d0 d1 hC z0 z1 f0 f1 hcut' hcut2
          go_wp2_with fail
          refine hC1.mono ?_
          rintro x w1 ⟨a', c', rfl, hc', hT, hb1⟩
          have k1 := (hb1.block g (lt_of_heap K0.out)).trans K0.out
          have z0 : w1.cell? ⟨g, 0, none⟩ = some (.int .i64 0) := by rw [cell_of_heap k1]; rfl
          have z1 : w1.cell? ⟨g, 1, none⟩ = some (.slice none 0 0) := by rw [cell_of_heap k1]; rfl
          have f0 : w1.frozen? ⟨g, 0, none⟩ = false := frozen_of_heap k1
          have f1 : w1.frozen? ⟨g, 1, none⟩ = false := frozen_of_heap k1
          have K1 : Hid (w1.heap[g]? = some (.cells #[.int .i64 0, .slice none 0 0] 30 (0, 0))) := k1
          have HB1 : Hid (Below w.heap.size w w1) := HBq.out.trans (hb1.mono HBq.out.size)
          have HT : Hid (TRd w1 a' (t.take m)) := hT
          have HCc : Hid (m ≤ c') := hc'
          clear k1 hT hc' hb1 hC1 e0
          go_wp2
          have k2 := heap_set K1.out 0 (.int .i64 pc)
          have k3 := heap_set k2 1 (.slice a' m c')
          refine bodyPost_ret (v := .tuple #[vmV pc a' m c', .bool true]) (HFin.out a' _ m c' pc true _ rfl rfl k3) rfl ⟨fun h => (by rw [HV.out] at h; cases h), fun z hz => ?_, ?_⟩
          · rw [HV.out] at hz
            cases hz
            refine ⟨a', c', ?_, ?_, ?_⟩
            · show _ = Ending.returned (.tuple #[vmV pc a' (t.take m).length c', .bool true])
              rw [← HMl.out]
            · show (t.take m).length ≤ c'
              rw [← HMl.out]
              exact HCc.out
            · exact (HT.out.kept (kw_set K1.out (by decide) _ _)).kept (kw_set k2 (by decide) _ _)
          · exact HB1.out.trans (((Upd.setCell g 0 w1 _).trans (Upd.setCell g 1 _ _)).below (by have := HG.out; omega) HB1.out.size)
end Go.Proofs.Ytliifpknkdjgjaa
