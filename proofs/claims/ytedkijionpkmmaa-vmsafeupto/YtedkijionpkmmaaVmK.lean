/- The contracts of vm.Step, vm.Done, janusref01.Words at two equal rows of words. -/
import Derived.Test.YtedkijionpkmmaaVmJ
import Derived.BigQuiet
namespace Go.Proofs.Ytedkijionpkmmaa
open Go.RowKit
set_option linter.unusedVariables false

theorem results_cc {P : Program} {fn : Func} {p q : Tmp} {t1 t2 : TypeId} (h : fn.results = #[.cell p t1, .cell q t2]) (tmps : Array Value) (w : World) (g1 g2 : Nat) (c1 c2 : Array Value) (f1 f2 : Nat × Nat) (d1 d2 : TypeDesc)
    (hp : tmps.getD p undef = .pointer (some ⟨g1, 0, none⟩)) (hg1 : w.heap[g1]? = some (.cells c1 t1 f1)) (hu1 : P.underlying t1 = some d1) (hd1 : (match d1 with | .struct _ | .array _ _ => true | _ => false) = true) (hi1 : (P.info? t1).map (·.size) = some c1.size)
    (hq : tmps.getD q undef = .pointer (some ⟨g2, 0, none⟩)) (hg2 : w.heap[g2]? = some (.cells c2 t2 f2)) (hu2 : P.underlying t2 = some d2) (hd2 : (match d2 with | .struct _ | .array _ _ => true | _ => false) = true) (hi2 : (P.info? t2).map (·.size) = some c2.size) :
    (results fn tmps).run P w = .ok (.tuple #[.agg c1, .agg c2]) w := by
  have hp' : tmps[p]?.getD undef = .pointer (some ⟨g1, 0, none⟩) := by simpa using hp
  have hq' : tmps[q]?.getD undef = .pointer (some ⟨g2, 0, none⟩) := by simpa using hq
  simp [results, h, hp', hq', asAddr, run_loadVar_row w g1 t1 t1 c1 f1 d1 hg1 hu1 hd1 hi1, run_loadVar_row w g2 t2 t2 c2 f2 d2 hg2 hu2 hd2 hi2]

theorem results_ctt {P : Program} {fn : Func} {p u v : Tmp} {t1 : TypeId} (h : fn.results = #[.cell p t1, .tmp u, .tmp v]) (tmps : Array Value) (w : World) (g1 : Nat) (c1 : Array Value) (f1 : Nat × Nat) (d1 : TypeDesc)
    (hp : tmps.getD p undef = .pointer (some ⟨g1, 0, none⟩)) (hg1 : w.heap[g1]? = some (.cells c1 t1 f1)) (hu1 : P.underlying t1 = some d1) (hd1 : (match d1 with | .struct _ | .array _ _ => true | _ => false) = true) (hi1 : (P.info? t1).map (·.size) = some c1.size) :
    (results fn tmps).run P w = .ok (.tuple #[.agg c1, tmps.getD u undef, tmps.getD v undef]) w := by
  have hp' : tmps[p]?.getD undef = .pointer (some ⟨g1, 0, none⟩) := by simpa using hp
  simp [results, h, hp', asAddr, run_loadVar_row w g1 t1 t1 c1 f1 d1 hg1 hu1 hd1 hi1]
theorem insSize : (Try.prog.info? 48).map (·.size) = some 4 := by kernel_rfl
theorem below_put4 {B : Nat} {w w' : World} (h : Below B w w') {R : Nat} (hR : B ≤ R) (k a v y : Value) : Below B w (put4 w' R k a v y) :=
  ⟨h.os, h.tape, h.output, by rw [put4_size]; exact h.size, fun j hj => (put4_heap j (by omega)).trans (h.block j hj)⟩
theorem words_same (xs : List Int) (u v : Value) (w : World) (hu : URd w u xs) (hv : URd w v xs) (hl : xs.length ≤ 1000000) :
    Calls Try.prog 14 #[u, v] w fun e w' => e = .returned (.bool true) ∧ Below w.heap.size w w' := by
  have HU : Hid (URd w u xs) := hu
  have HV : Hid (URd w v xs) := hv
  obtain ⟨a, ca, rfl⟩ := hu.form
  obtain ⟨b, cb, rfl⟩ := hv.form
  clear hu hv
  go_enter Try.func14, Try.ntmps14
  go_wp2
  go_loopw [5] (fun s wr => ∃ (k : Nat), k ≤ xs.length ∧ s = .int .i64 k ∧ Below w.heap.size w wr) (fun s _ => xs.length - (intOf s).toNat)
  case atStart => exact ⟨0, by omega, rfl, Below.refl _ _⟩
  case round =>
    obtain ⟨k, hk, rfl, hbw⟩ := hrel
    by_cases hlt : k < xs.length
    · obtain ⟨x, hx⟩ : ∃ x, xs[k]? = some x := ⟨xs[k], List.getElem?_eq_getElem hlt⟩
      rcases URd.below HU.out hbw with ⟨e1, e2⟩ | ⟨ga, oa, ca', e1, hc1, hx1⟩ | ⟨_, _, _, e2⟩
      · rw [e2] at hlt; simp at hlt
      rotate_left
      · rw [e2] at hlt; simp at hlt
      rcases URd.below HV.out hbw with ⟨e3, e4⟩ | ⟨gb, ob, cb', e3, hc2, hx2⟩ | ⟨_, _, _, e4⟩
      · rw [e4] at hlt; simp at hlt
      rotate_left
      · rw [e4] at hlt; simp at hlt
      simp only [Value.slice.injEq] at e1 e3
      obtain ⟨rfl, _, rfl⟩ := e1
      obtain ⟨rfl, _, rfl⟩ := e3
      have a0 := hx1 k x hx
      have b0 := hx2 k x hx
      clear hx hx1 hx2
      go_wp2_with fail
      go_region
      all_goals
        go_wp2
        go_roundw
        case rel => exact ⟨k + 1, by omega, by go_num, hbw.drew⟩
        case measure => simp [intOf]; omega
    · obtain rfl : k = xs.length := by omega
      go_wp2
      go_ret
      exact ⟨rfl, hbw⟩

theorem fin2 {w wr : World} {pc : Int} {sv : Value} {st : List Int} (own : wr.ownsRow w.heap.size 25 1 sv st.length (uvs st.reverse)) (r8 : wr.heap[w.heap.size + 1]? = some (.cells #[.int .i64 0, .slice none 0 0] 24))
    (r10 : wr.heap[w.heap.size + 1 + 1]? = some (.cells (actRow actNo) 30)) (bel : Below w.heap.size w wr) (k a v y : Value) :
    (put4 (put2 wr (w.heap.size + 1) (.int .i64 pc) sv) (w.heap.size + 1 + 1) k a v y).heap[w.heap.size + 1]? = some (.cells #[.int .i64 pc, sv] 24) ∧ (put4 (put2 wr (w.heap.size + 1) (.int .i64 pc) sv) (w.heap.size + 1 + 1) k a v y).heap[w.heap.size + 1 + 1]? = some (.cells #[k, a, v, y] 30) ∧
    (put4 (put2 wr (w.heap.size + 1) (.int .i64 pc) sv) (w.heap.size + 1 + 1) k a v y).ownsRow w.heap.size 25 1 sv st.length (uvs st.reverse) ∧
    Below w.heap.size w (put4 (put2 wr (w.heap.size + 1) (.int .i64 pc) sv) (w.heap.size + 1 + 1) k a v y) := by
  have h2 : ∀ j, j ≠ w.heap.size + 1 → (put2 wr (w.heap.size + 1) (.int .i64 pc) sv).heap[j]? = wr.heap[j]? := fun j hj => by
    unfold put2
    rw [Below.heap_setCell _ _ _ _ hj, Below.heap_setCell _ _ _ _ hj]
  have h4 : ∀ j, j ≠ w.heap.size + 1 → j ≠ w.heap.size + 1 + 1 → (put4 (put2 wr (w.heap.size + 1) (.int .i64 pc) sv) (w.heap.size + 1 + 1) k a v y).heap[j]? = wr.heap[j]? := fun j hj hk => (put4_heap j hk).trans (h2 j hj)
  refine ⟨?_, ?_, ?_, ?_⟩
  · rw [put4_heap _ (by omega)]
    exact set_row (set_row r8 0 _) 1 _
  · exact put4_row ((h2 _ (by omega)).trans r10)
  · exact ownsRow_at own (fun g hg => h4 g (fun e => own_apart own r8 (by decide) (by rw [← e]; exact hg)) (fun e => own_apart own r10 (by decide) (by rw [← e]; exact hg)))
  · have hsz : (put4 (put2 wr (w.heap.size + 1) (.int .i64 pc) sv) (w.heap.size + 1 + 1) k a v y).heap.size = wr.heap.size := by rw [put4_size]; simp [put2, World.setCell]
    have e1 : ∀ (w : World) (a : Addr) (v : Value), (w.setCell a v).os = w.os := fun _ _ _ => rfl
    have e2 : ∀ (w : World) (a : Addr) (v : Value), (w.setCell a v).tape = w.tape := fun _ _ _ => rfl
    have e3 : ∀ (w : World) (a : Addr) (v : Value), (w.setCell a v).output = w.output := fun _ _ _ => rfl
    exact ⟨by simp only [put4, put2, e1]; exact bel.os, by simp only [put4, put2, e2]; exact bel.tape, by simp only [put4, put2, e3]; exact bel.output, by rw [hsz]; exact bel.size, fun j hj => (h4 j (by omega) (by omega)).trans (bel.block j hj)⟩
/-- What Step answers. -/
def StepOut (r : Int × List Int × Act4) (B : Nat) (e : Ending) (w' : World) : Prop :=
  ∃ sv, e = .returned (.tuple #[.agg #[.int .i64 r.1, sv], .agg (actRow r.2.2)]) ∧ w'.ownsRow B 25 1 sv r.2.1.length (uvs r.2.1.reverse)
set_option maxHeartbeats 2000000 in
theorem stepc_at (s : List UInt8) (hs : s.length ≤ 1000000000) (pc : Int) (sv0 : Value) (st : List Int) (w : World) (hsv : URd w sv0 st.reverse) (hf : Fine7 99990 pc st []) :
    Calls Try.prog 10 #[tx s, .agg #[.int .i64 pc, sv0]] w fun e w' => StepOut (vstep s pc st) w.heap.size e w' ∧ Below w.heap.size w w' := by
  obtain ⟨a0, k0, ca0, rfl⟩ : ∃ a k c, sv0 = .slice a k c := by obtain ⟨a, c, e⟩ := hsv.form; exact ⟨a, _, c, e⟩
  obtain ⟨W, hW⟩ : ∃ W, W = ((w.alloc (.cells #[.int .i64 pc, .slice a0 k0 ca0] 24)).alloc (.cells #[.int .i64 0, .slice none 0 0] 24)).alloc (.cells (actRow actNo) 30) := ⟨_, rfl⟩
  have HB : Hid (Below w.heap.size w W) := by rw [hW]; exact three_allocs _ _ _ _
  have HbW : Hid (W.heap[w.heap.size]? = some (.cells #[.int .i64 pc, .slice a0 k0 ca0] 24)) := by
    show _ = _
    rw [hW, Below.heap_alloc _ _ _ (by simp; omega), Below.heap_alloc _ _ _ (by simp), heap_alloc_new]
  have H8 : Hid (W.heap[w.heap.size + 1]? = some (.cells #[.int .i64 0, .slice none 0 0] 24)) := by
    show _ = _
    rw [hW, Below.heap_alloc _ _ _ (by simp)]
    exact heap_alloc2_new _ _ _
  have H10 : Hid (W.heap[w.heap.size + 1 + 1]? = some (.cells (actRow actNo) 30)) := by
    show _ = _
    rw [hW]
    simpa using heap_alloc_new ((w.alloc (.cells #[.int .i64 pc, .slice a0 k0 ca0] 24)).alloc (.cells #[.int .i64 0, .slice none 0 0] 24)) (.cells (actRow actNo) 30)
  have hcl1 := clone_at _ st.reverse W (hsv.below HB.out) (by have := hf.len; simp; omega)
  have HF : Hid (Fine7 99990 pc st []) := hf
  have hWs : w.heap.size + 1 + 1 < W.heap.size := lt_of_heap H10.out
  clear hsv hf
  unfold actRow actNo at hW
  dsimp only at hW
  go_enter Try.func10, Try.ntmps10
  go_wp2_with fail
  rw [← hW]
  clear hW
  refine hcl1.mono ?_
  clear hcl1
  rintro e w2 ⟨sv1, rfl, ho1, hBW⟩
  obtain ⟨a1, k1, c1, rfl⟩ := own_slice ho1
  have Hb2 : Hid _ := (hBW.block _ (lt_of_heap HbW.out)).trans HbW.out
  have d1 : w2.cell? ⟨w.heap.size, 1, none⟩ = some (.slice a0 k0 ca0) := by rw [cell_of_heap Hb2.out]; rfl
  have f1 : w2.frozen? ⟨w.heap.size, 1, none⟩ = false := frozen_of_heap Hb2.out
  go_wp2_with fail
  refine (all_at (w2.setCell ⟨w.heap.size, 1, none⟩ (.slice a1 k1 c1))).mono ?_
  rintro e w3 ⟨rfl, hb3⟩
  have hs3 : w2.heap.size ≤ w3.heap.size := by have := hb3.size; simpa [World.setCell] using this
  have hlow1 : ∀ g, (Value.slice a1 k1 c1).ownBlock = some g → W.heap.size ≤ g ∧ g < w2.heap.size := fun g hg => ho1.lt g hg
  have hss : (w2.setCell ⟨w.heap.size, 1, none⟩ (.slice a1 k1 c1)).heap.size = w2.heap.size := by simp [World.setCell]
  have hkeep : ∀ k, k < w2.heap.size → k ≠ w.heap.size → w3.heap[k]? = w2.heap[k]? := fun k hk hne => by
    rw [hb3.block k (by omega), Below.heap_setCell _ _ _ _ hne]
  have hW1 := hBW.size
  have hbw := HB.out.size
  have hM : MachV w.heap.size w3 w.heap.size pc (.slice a1 k1 c1) st := by
    refine ⟨?_, ?_, Nat.le_refl _⟩
    · rw [hb3.block _ (by omega)]
      exact head1 Hb2.out _
    · have := ownsRow_mono (ownsRow_at ho1 (fun g hg => hkeep g (by have := hlow1 g hg; omega) (by have := hlow1 g hg; omega))) (show w.heap.size ≤ W.heap.size by omega)
      rwa [List.length_reverse] at this
  have H83 : Hid _ := (hkeep _ (by omega) (by omega)).trans ((hBW.block _ (lt_of_heap H8.out)).trans H8.out)
  have H103 : Hid _ := (hkeep _ (by omega) (by omega)).trans ((hBW.block _ (lt_of_heap H10.out)).trans H10.out)
  have HB3 : Hid (Below w.heap.size w w3) := by
    refine ⟨?_, ?_, ?_, ?_, fun k hk => (hkeep k (by omega) (by omega)).trans ((hBW.block k (by omega)).trans (HB.out.block k hk))⟩
    · exact hb3.os.trans (hBW.os.trans HB.out.os)
    · exact hb3.tape.trans (hBW.tape.trans HB.out.tape)
    · exact hb3.output.trans (hBW.output.trans HB.out.output)
    · omega
  have hst := step_at s hs w.heap.size w.heap.size pc HF.out.pc (.slice a1 k1 c1) st w3 hM HF.out.len HF.out.st
  clear hkeep hlow1 hss ho1 hBW hb3 hs3 d1 f1 Hb2 hW1 hbw hWs H8 H10 HbW HB
  generalize hr : vstep s pc st = r at *
  have HRr : Hid _ := hr
  clear hr
  obtain ⟨pc2, st2, k2, ad2, vl2, sy2⟩ := r
  dsimp only at *
  go_wp2_with fail
  refine hst.mono ?_
  clear hst
  rintro e w5 ⟨rfl, sv5, hm5, hg5⟩
  have HG5 : Hid _ := hg5
  have H85 : Hid (w5.heap[w.heap.size + 1]? = some (.cells #[.int .i64 0, .slice none 0 0] 24)) := (hg5.block _ (lt_of_heap H83.out) (by omega) (own_apart hM.own H83.out (by decide))).trans H83.out
  have H105 : Hid (w5.heap[w.heap.size + 1 + 1]? = some (.cells (actRow actNo) 30)) := Went.stays hg5 hM H103.out (by decide) (by decide)
  have HB5 : Hid (Below w.heap.size w w5) := by
    refine HB3.out.trans ⟨hg5.os, hg5.tape, hg5.output, hg5.size, fun k hk => hg5.block k (Nat.lt_of_lt_of_le hk HB3.out.size) (by omega) (fun x => ?_)⟩
    have := (hM.own.lt k x).1
    omega
  obtain ⟨a5, cap5, rfl⟩ := hm5.form
  have c0 := hm5.c0
  have c1 := hm5.c1
  have HM5 : Hid _ := hm5
  have hl5 := lt_of_heap hm5.head
  have hl8 := lt_of_heap H85.out
  have hl10 := lt_of_heap H105.out
  have d0 : w5.cell? ⟨w.heap.size + 1, 0, none⟩ = some (.int .i64 0) := by rw [cell_of_heap H85.out]; rfl
  have d1 : w5.cell? ⟨w.heap.size + 1, 1, none⟩ = some (.slice none 0 0) := by rw [cell_of_heap H85.out]; rfl
  have g0 : w5.frozen? ⟨w.heap.size + 1, 0, none⟩ = false := frozen_of_heap H85.out
  have g1 : w5.frozen? ⟨w.heap.size + 1, 1, none⟩ = false := frozen_of_heap H85.out
  obtain ⟨⟨p0, p1, p2, p3⟩, q0, q1, q2, q3⟩ := cells4 H105.out
  clear hg5 hM hm5
  dsimp only [actRow]
  go_wp2_with fail
  go_region
  go_wp2
  (try simp only [Exit.inBlock, Exit.then])
  obtain ⟨z1, z2, z3, z5⟩ := fin2 (pc := pc2) HM5.out.own H85.out H105.out HB5.out (.int .i64 k2) (.int .u64 ad2) (.int .u64 vl2) (.int .i64 sy2)
  have z6 : Below (put4 (put2 w5 (w.heap.size + 1) (.int .i64 pc2) (.slice a5 st2.length cap5)) (w.heap.size + 1 + 1) (.int .i64 k2) (.int .u64 ad2) (.int .u64 vl2) (.int .i64 sy2)).heap.size _ _ := (below_alloc _ (.cells #[.int .i64 k2, .int .u64 ad2, .int .u64 vl2, .int .i64 sy2] 30)).drew
  refine bodyPost_ret (results_cc rfl _ _ (w.heap.size + 1) (w.heap.size + 1 + 1) _ _ (0, 0) (0, 0) _ _ rfl ((z6.block _ (lt_of_heap z1)).trans z1) Try.underlying24 rfl vmSize rfl ((z6.block _ (lt_of_heap z2)).trans z2) Try.underlying30 rfl actSize) rfl ⟨?_, z5.trans (z6.mono z5.size)⟩
  rw [HRr.out]
  exact ⟨_, rfl, ownsRow_below z3 z6⟩

/-- A machine as a value. -/
theorem callAt_yes (s : List UInt8) (hs : s.length ≤ 1000000000) (pc : Int) (hpc : -9223372036854775808 ≤ pc ∧ pc ≤ 9223372036854775807) (a0 : Option Addr) (n ca : Nat) (hn : n ≤ 1000000) (he : (one s pc).2 = 0) (ho : (one s pc).1.op = 23) (h0 : 0 ≤ argsOf (one s pc).1.arg) (h1 : argsOf (one s pc).1.arg ≤ n) (w : World) :
    Calls Try.prog 30 #[tx s, .agg #[.int .i64 pc, .slice a0 n ca]] w fun e w' => e = .returned (.tuple #[.agg (insRow (one s pc).1), .int .i64 (argsOf (one s pc).1.arg), .bool true]) ∧ Below w.heap.size w w' := by
  have hone := one_at s pc hs hpc
  have hsy := (one_good hs he).2.2.2.2.2.2 ho
  have hr := argsOf_low (one s pc).1.arg
  have har := args_at (one s pc).1.arg
  generalize one s pc = o at *
  obtain ⟨⟨op, arg, pos, len⟩, er⟩ := o
  dsimp only [insRow] at *
  subst he
  subst ho
  obtain ⟨hs1, hs2⟩ := hsy
  obtain ⟨hr1, hr2⟩ := hr
  generalize argsOf arg = k at *
  obtain ⟨W, hW⟩ : ∃ W, W = (w.alloc (.cells #[.int .i64 pc, .slice a0 n ca] 24)).alloc (.cells #[.int .i64 0, .int .u64 0, .int .i64 0, .int .i64 0] 48) := ⟨_, rfl⟩
  have HB : Hid (Below w.heap.size w W) := by rw [hW]; exact two_allocs _ _ _
  have HV : Hid (W.heap[w.heap.size]? = some (.cells #[.int .i64 pc, .slice a0 n ca] 24)) := by show _ = _; rw [hW, Below.heap_alloc _ _ _ (by simp), heap_alloc_new]
  have HR : Hid (W.heap[w.heap.size + 1]? = some (.cells #[.int .i64 0, .int .u64 0, .int .i64 0, .int .i64 0] 48)) := by rw [hW]; exact heap_alloc2_new _ _ _
  go_enter Try.func30, Try.ntmps30
  go_wp2_with fail
  rw [← hW]
  clear hW
  refine (hone W).mono ?_
  clear hone
  rintro e w1 ⟨rfl, hb1⟩
  go_wp2_with fail
  refine (har _).mono ?_
  clear har
  rintro e w2 ⟨rfl, rfl⟩
  obtain ⟨w2, hw2⟩ : ∃ w2, w2 = w1.alloc (.cells #[.int .i64 23, .int .u64 arg, .int .i64 pos, .int .i64 len] 48) := ⟨_, rfl⟩
  rw [← hw2]
  have HB2 : Hid (Below W.heap.size W w2) := by rw [hw2]; exact hb1.trans ((below_alloc w1 _).mono hb1.size)
  have HI2 : Hid (w2.heap[w1.heap.size]? = some (.cells #[.int .i64 23, .int .u64 arg, .int .i64 pos, .int .i64 len] 48)) := by rw [hw2]; exact heap_alloc_new _ _
  clear hw2
  have HV2 : Hid _ := (HB2.out.block _ (lt_of_heap HV.out)).trans HV.out
  have HR2 : Hid _ := (HB2.out.block _ (lt_of_heap HR.out)).trans HR.out
  obtain ⟨⟨c0, c1, c2, c3⟩, f0, f1, f2, f3⟩ := cells4 HR2.out
  obtain ⟨⟨d0, d1, d2, d3⟩, _⟩ := cells4 HI2.out
  have v1 : w2.cell? ⟨w.heap.size, 1, none⟩ = some (.slice a0 n ca) := by rw [cell_of_heap HV2.out]; rfl
  have hd0 : decide (0 ≤ k) = true := decide_eq_true h0
  have hd1 : decide (k ≤ (n : Int)) = true := decide_eq_true h1
  have hw1 : W.heap.size ≤ w1.heap.size := hb1.size
  have hRlt : w.heap.size + 1 < W.heap.size := lt_of_heap HR.out
  go_wp2_with fail
  go_region
  all_goals
    go_wp2
    (try simp only [Exit.inBlock, Exit.then])
    exact bodyPost_ret (results_ctt rfl _ _ (w.heap.size + 1) _ (0, 0) _ rfl (show (put4 w2 (w.heap.size + 1) (.int .i64 23) (.int .u64 arg) (.int .i64 pos) (.int .i64 len)).drew.heap[w.heap.size + 1]? = _ from put4_row HR2.out) Try.underlying48 rfl insSize) rfl ⟨rfl, (below_put4 (HB.out.trans (HB2.out.mono HB.out.size)) (by omega) _ _ _ _).drew⟩

/-- A slice cut to its first numbers. -/
theorem URd.take {w : World} {a : Option Addr} {n c : Nat} {xs : List Int} (h : URd w (.slice a n c) xs) (k : Nat) (hk : k ≤ n) : URd w (.slice a k c) (xs.take k) := by
  rcases h with ⟨e, rfl⟩ | ⟨g, o, c', e, hc, hx⟩ | ⟨ad, c', e, rfl⟩
  · simp only [Value.slice.injEq] at e
    obtain ⟨rfl, rfl, rfl⟩ := e
    obtain rfl : k = 0 := by omega
    exact Or.inl ⟨rfl, rfl⟩
  rotate_left
  · simp only [Value.slice.injEq] at e
    obtain ⟨rfl, rfl, rfl⟩ := e
    obtain rfl : k = 0 := by omega
    exact Or.inr (Or.inr ⟨ad, c, rfl, rfl⟩)
  · simp only [Value.slice.injEq] at e
    obtain ⟨rfl, rfl, rfl⟩ := e
    refine Or.inr (Or.inl ⟨g, o, c, by simp; omega, by simp; omega, fun j x hj => hx j x ?_⟩)
    rw [List.getElem?_take] at hj
    split at hj
    · exact hj
    · cases hj

set_option maxHeartbeats 1000000 in
theorem with_at (pc : Int) (a : Option Addr) (n c : Nat) (xs : List Int) (k : Nat) (x : Int) (w : World) (h : URd w (.slice a n c) xs) (hn : n = xs.length) (hk : k ≤ n) (hl : n ≤ 100000) (hc : n ≤ c) :
    Calls Try.prog 29 #[.agg #[.int .i64 pc, .slice a n c], .int .i64 k, .int .u64 x] w fun e w' => ∃ u, e = .returned (.agg #[.int .i64 pc, u]) ∧ w'.ownsRow w.heap.size 25 1 u (k + 1) (uvs (xs.take k ++ [x])) ∧ Below w.heap.size w w' := by
  obtain ⟨i0, hi0, hzz⟩ := Option.map_eq_some_iff.1 wordInfo
  simp only [Prod.mk.injEq] at hzz
  obtain ⟨hz0, hz1, hz2⟩ := hzz
  obtain ⟨W, hW⟩ : ∃ W, W = (w.alloc (.cells #[.int .i64 pc, .slice a n c] 24)).alloc (.cells #[.int .i64 0, .slice none 0 0] 24) := ⟨_, rfl⟩
  have HB : Hid (Below w.heap.size w W) := by rw [hW]; exact two_allocs _ _ _
  have HV : Hid (W.heap[w.heap.size]? = some (.cells #[.int .i64 pc, .slice a n c] 24)) := by show _ = _; rw [hW, Below.heap_alloc _ _ _ (by simp), heap_alloc_new]
  have HR : Hid (W.heap[w.heap.size + 1]? = some (.cells #[.int .i64 0, .slice none 0 0] 24)) := by rw [hW]; exact heap_alloc2_new _ _ _
  have hcl := clone_at _ (xs.take k) W ((h.take k hk).below HB.out) (by simp; omega)
  have hlen : (xs.take k).length = k := by simp; omega
  rw [hlen] at hcl
  have HL : Hid _ := hlen
  have hRlt : w.heap.size + 1 < W.heap.size := lt_of_heap HR.out
  clear h hlen hn
  go_enter Try.func29, Try.ntmps29
  go_wp2_with fail
  rw [← hW]
  clear hW
  refine hcl.mono ?_
  clear hcl
  rintro e w1 ⟨u, rfl, ho1, hb1⟩
  have hb1s := hb1.size
  go_wp2_with (at_builtin; refine wpList_append_lies _ rfl _ _ _ rfl W.heap.size 25 i0 _ 1 8 Try.underlying22 hi0 hz0 hz1 hz2 rfl (by omega) u k _ rfl (ho1.alloc _) ⟨w1.heap.size, 0, none⟩ 1 1 [.int .u64 x] rfl rfl (World.news_of_block (cs := #[.int .u64 x]) (t := 25) (fr := (0, 0)) (heap_alloc_new w1 _)) (by simp [Value.oneCell']) (by omega) (by unfold maxLen; omega) (by omega) (by simp; omega) _ rfl ?_)
  intro gg cap2 w2 hown2 hgrow hat hlt2
  have HB2 : Hid (Below W.heap.size W w2) := hb1.trans (((below_alloc w1 _).mono hb1.size).trans (below_grown hgrow (by simp; omega) (ownsRow_low ho1)))
  have HV2 : Hid _ := (HB2.out.block _ (lt_of_heap HV.out)).trans HV.out
  have HR2 : Hid _ := (HB2.out.block _ (lt_of_heap HR.out)).trans HR.out
  have v0 : w2.cell? ⟨w.heap.size, 0, none⟩ = some (.int .i64 pc) := by rw [cell_of_heap HV2.out]; rfl
  have v1 : w2.cell? ⟨w.heap.size, 1, none⟩ = some (.slice a n c) := by rw [cell_of_heap HV2.out]; rfl
  have f1 : w2.frozen? ⟨w.heap.size, 1, none⟩ = false := frozen_of_heap HV2.out
  have r0 : w2.cell? ⟨w.heap.size + 1, 0, none⟩ = some (.int .i64 0) := by rw [cell_of_heap HR2.out]; rfl
  have r1 : w2.cell? ⟨w.heap.size + 1, 1, none⟩ = some (.slice none 0 0) := by rw [cell_of_heap HR2.out]; rfl
  have g0 : w2.frozen? ⟨w.heap.size + 1, 0, none⟩ = false := frozen_of_heap HR2.out
  have g1 : w2.frozen? ⟨w.heap.size + 1, 1, none⟩ = false := frozen_of_heap HR2.out
  have HO2 : Hid _ := hown2
  clear hown2 hgrow hat ho1
  go_wp2
  (try simp only [Exit.inBlock, Exit.then])
  have e1 : ((w2.setCell ⟨w.heap.size, 1, none⟩ (.slice (some ⟨gg, 0, none⟩) (k + 1) cap2)).heap[w.heap.size + 1]?) = some (.cells #[.int .i64 0, .slice none 0 0] 24) := (Below.heap_setCell _ _ _ _ (by show w.heap.size + 1 ≠ w.heap.size; omega)).trans HR2.out
  have e2 : ∀ j, j ≠ w.heap.size → j ≠ w.heap.size + 1 → (put2 (w2.setCell ⟨w.heap.size, 1, none⟩ (.slice (some ⟨gg, 0, none⟩) (k + 1) cap2)) (w.heap.size + 1) (.int .i64 pc) (.slice (some ⟨gg, 0, none⟩) (k + 1) cap2)).heap[j]? = w2.heap[j]? := fun j h1 h2 => by
    unfold put2
    rw [Below.heap_setCell _ _ _ _ h2, Below.heap_setCell _ _ _ _ h2, Below.heap_setCell _ _ _ _ h1]
  refine bodyPost_ret (results_cell_row rfl _ _ (w.heap.size + 1) 24 _ (0, 0) _ rfl (set_row (set_row e1 0 _) 1 _) Try.underlying24 rfl vmSize) rfl ⟨_, rfl, ?_, ?_⟩
  · have h5 := ownsRow_mono (ownsRow_at (w' := put2 (w2.setCell ⟨w.heap.size, 1, none⟩ (.slice (some ⟨gg, 0, none⟩) (k + 1) cap2)) (w.heap.size + 1) (.int .i64 pc) (.slice (some ⟨gg, 0, none⟩) (k + 1) cap2)) HO2.out (fun g hg => e2 g (fun e => own_apart HO2.out HV2.out (by decide) (by rw [← e]; exact hg)) (fun e => own_apart HO2.out HR2.out (by decide) (by rw [← e]; exact hg)))) HB.out.size
    have e6 : uvs (xs.take k ++ [x]) = uvs (xs.take k) ++ [.int .u64 x] := by simp [uvs]
    rw [e6]
    exact h5
  · refine HB.out.trans ⟨HB2.out.os, HB2.out.tape, HB2.out.output, ?_, fun j hj => ?_⟩
    · simpa [World.setCell] using HB2.out.size
    · exact (e2 j (by omega) (by omega)).trans (HB2.out.block j (by omega))

end Go.Proofs.Ytedkijionpkmmaa
