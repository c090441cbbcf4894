/- The contract of vm.Run. -/
import Derived.Test.YtedkijionpkmmaaVmI
import Derived.Lib.MinMax
import Derived.Lib.SmallJoins
namespace Go.Proofs.Ytedkijionpkmmaa
open Go.RowKit
set_option linter.unusedVariables false

theorem results_ctct {P : Program} {fn : Func} {p q u v : Tmp} {t1 t2 : TypeId} (h : fn.results = #[.cell p t1, .tmp u, .cell q t2, .tmp v]) (tmps : Array Value) (w : World) (g1 g2 : Nat) (c1 c2 : Array Value) (f1 f2 : Nat × Nat) (d1 d2 : TypeDesc)
    (hp : tmps.getD p undef = .pointer (some ⟨g1, 0, none⟩)) (hg1 : w.heap[g1]? = some (.cells c1 t1 f1)) (hu1 : P.underlying t1 = some d1) (hd1 : (match d1 with | .struct _ | .array _ _ => true | _ => false) = true) (hi1 : (P.info? t1).map (·.size) = some c1.size)
    (hq : tmps.getD q undef = .pointer (some ⟨g2, 0, none⟩)) (hg2 : w.heap[g2]? = some (.cells c2 t2 f2)) (hu2 : P.underlying t2 = some d2) (hd2 : (match d2 with | .struct _ | .array _ _ => true | _ => false) = true) (hi2 : (P.info? t2).map (·.size) = some c2.size) :
    (results fn tmps).run P w = .ok (.tuple #[.agg c1, tmps.getD u undef, .agg c2, tmps.getD v undef]) w := by
  have hp' : tmps[p]?.getD undef = .pointer (some ⟨g1, 0, none⟩) := by simpa using hp
  have hq' : tmps[q]?.getD undef = .pointer (some ⟨g2, 0, none⟩) := by simpa using hq
  simp [results, h, hp', hq', asAddr, run_loadVar_row w g1 t1 t1 c1 f1 d1 hg1 hu1 hd1 hi1, run_loadVar_row w g2 t2 t2 c2 f2 d2 hg2 hu2 hd2 hi2]
theorem vmSize : (Try.prog.info? 24).map (·.size) = some 2 := by kernel_rfl

/-- What Run answers. -/
def RunOut (r : Ran) (B : Nat) (e : Ending) (w' : World) : Prop :=
  ∃ sv mv, e = .returned (.tuple #[.agg #[.int .i64 r.pc, sv], mv, .agg (actRow r.act), .int .i64 r.n]) ∧ w'.ownsRow B 25 1 sv r.st.length (uvs r.st.reverse) ∧ w'.ownsRow B 25 1 mv r.ms.length (uvs r.ms)
/-- What stands while it runs. -/
structure Runs (w wr : World) (b : Nat) (mv : Value) (pc : Int) (sv : Value) (st ms : List Int) (T : Nat) : Prop where
  duo : Duo w.heap.size wr b pc sv st mv ms
  eb : b = w.heap.size
  r8 : wr.heap[w.heap.size + 1]? = some (.cells #[.int .i64 0, .slice none 0 0] 24)
  r10 : wr.heap[w.heap.size + 1 + 1]? = some (.cells (actRow actNo) 30)
  tab : wr.heap[T]? = some (.cells opTable 62)
  bel : Below w.heap.size w wr
theorem Runs.gone {w wr w' : World} {b : Nat} {mv : Value} {pc pc' : Int} {sv sv' : Value} {st ms st' ms' : List Int} {T : Nat} (h : Runs w wr b mv pc sv st ms T) (hd : Duo w.heap.size w' b pc' sv' st' mv ms') (hg : Gone b mv wr sv w' sv') : Runs w w' b mv pc' sv' st' ms' T := by
  have e := h.eb
  refine ⟨hd, h.eb, ?_, ?_, ?_, ?_⟩
  · refine (hg.block _ (lt_of_heap h.r8) (by omega) (fun x => ?_) (own_apart h.duo.mem h.r8 (by decide))).trans h.r8
    exact own_apart h.duo.mach.own h.r8 (by decide) x
  · exact (hg.block _ (lt_of_heap h.r10) (h.duo.mach.other h.r10 (by decide) (by decide)).1 (h.duo.mach.other h.r10 (by decide) (by decide)).2 (own_apart h.duo.mem h.r10 (by decide))).trans h.r10
  · exact (hg.block _ (lt_of_heap h.tab) (h.duo.mach.other h.tab (by decide) (by decide)).1 (h.duo.mach.other h.tab (by decide) (by decide)).2 (own_apart h.duo.mem h.tab (by decide))).trans h.tab
  · refine h.bel.trans ⟨hg.os, hg.tape, hg.output, hg.size, fun k hk => hg.block k (Nat.lt_of_lt_of_le hk h.bel.size) (by omega) (fun x => ?_) (fun x => ?_)⟩
    · have := (h.duo.mach.own.lt k x).1; omega
    · have := (h.duo.mem.lt k x).1; omega

theorem Runs.below {w wr w' : World} {b : Nat} {mv : Value} {pc : Int} {sv : Value} {st ms : List Int} {T : Nat} (h : Runs w wr b mv pc sv st ms T) (hb : Below wr.heap.size wr w') : Runs w w' b mv pc sv st ms T :=
  ⟨h.duo.below hb, h.eb, (hb.block _ (lt_of_heap h.r8)).trans h.r8, (hb.block _ (lt_of_heap h.r10)).trans h.r10, (hb.block _ (lt_of_heap h.tab)).trans h.tab, h.bel.trans (hb.mono h.bel.size)⟩
abbrev put2 (w : World) (R : Nat) (a c : Value) : World := (w.setCell ⟨R, 0, none⟩ a).setCell ⟨R, 1, none⟩ c
theorem Runs.fin {w wr : World} {mv : Value} {pc : Int} {sv : Value} {st ms : List Int} {T : Nat} (h : Runs w wr w.heap.size mv pc sv st ms T) (k a v y : Value) :
    (put4 (put2 wr (w.heap.size + 1) (.int .i64 pc) sv) (w.heap.size + 1 + 1) k a v y).heap[w.heap.size + 1]? = some (.cells #[.int .i64 pc, sv] 24) ∧ (put4 (put2 wr (w.heap.size + 1) (.int .i64 pc) sv) (w.heap.size + 1 + 1) k a v y).heap[w.heap.size + 1 + 1]? = some (.cells #[k, a, v, y] 30) ∧
    (put4 (put2 wr (w.heap.size + 1) (.int .i64 pc) sv) (w.heap.size + 1 + 1) k a v y).ownsRow w.heap.size 25 1 sv st.length (uvs st.reverse) ∧ (put4 (put2 wr (w.heap.size + 1) (.int .i64 pc) sv) (w.heap.size + 1 + 1) k a v y).ownsRow w.heap.size 25 1 mv ms.length (uvs ms) ∧
    Below w.heap.size w (put4 (put2 wr (w.heap.size + 1) (.int .i64 pc) sv) (w.heap.size + 1 + 1) k a v y) := by
  have h2 : ∀ j, j ≠ w.heap.size + 1 → (put2 wr (w.heap.size + 1) (.int .i64 pc) sv).heap[j]? = wr.heap[j]? := fun j hj => by
    unfold put2
    rw [Below.heap_setCell _ _ _ _ hj, Below.heap_setCell _ _ _ _ hj]
  have h4 : ∀ j, j ≠ w.heap.size + 1 → j ≠ w.heap.size + 1 + 1 → (put4 (put2 wr (w.heap.size + 1) (.int .i64 pc) sv) (w.heap.size + 1 + 1) k a v y).heap[j]? = wr.heap[j]? := fun j hj hk => (put4_heap j hk).trans (h2 j hj)
  refine ⟨?_, ?_, ?_, ?_, ?_⟩
  · rw [put4_heap _ (by omega)]
    exact set_row (set_row h.r8 0 _) 1 _
  · exact put4_row ((h2 _ (by omega)).trans h.r10)
  · exact ownsRow_at h.duo.mach.own (fun g hg => h4 g (fun e => own_apart h.duo.mach.own h.r8 (by decide) (by rw [← e]; exact hg)) (fun e => own_apart h.duo.mach.own h.r10 (by decide) (by rw [← e]; exact hg)))
  · exact ownsRow_at h.duo.mem (fun g hg => h4 g (fun e => own_apart h.duo.mem h.r8 (by decide) (by rw [← e]; exact hg)) (fun e => own_apart h.duo.mem h.r10 (by decide) (by rw [← e]; exact hg)))
  · have hsz : (put4 (put2 wr (w.heap.size + 1) (.int .i64 pc) sv) (w.heap.size + 1 + 1) k a v y).heap.size = wr.heap.size := by rw [put4_size]; simp [put2, World.setCell]
    have e1 : ∀ (w : World) (a : Addr) (v : Value), (w.setCell a v).os = w.os := fun _ _ _ => rfl
    have e2 : ∀ (w : World) (a : Addr) (v : Value), (w.setCell a v).tape = w.tape := fun _ _ _ => rfl
    have e3 : ∀ (w : World) (a : Addr) (v : Value), (w.setCell a v).output = w.output := fun _ _ _ => rfl
    exact ⟨by simp only [put4, put2, e1]; exact h.bel.os, by simp only [put4, put2, e2]; exact h.bel.tape, by simp only [put4, put2, e3]; exact h.bel.output, by rw [hsz]; exact h.bel.size, fun j hj => (h4 j (by omega) (by omega)).trans (h.bel.block j hj)⟩
theorem run_next {s : List UInt8} {F k : Nat} {pc : Int} {st ms : List Int} {R : Ran} (hk : k < F) (h : R = (vrun s (F - k) pc st ms).up k) (hz : (von s pc st ms).2.2.2.kind = 0) : R = (vrun s (F - (k + 1)) (von s pc st ms).1 (von s pc st ms).2.1 (von s pc st ms).2.2.1).up (k + 1) := by
  have e : F - k = F - (k + 1) + 1 := by omega
  rw [h, e, vrun_go hz, Ran.up_up]
theorem run_stops {s : List UInt8} {F k : Nat} {pc : Int} {st ms : List Int} {R : Ran} (hk : k < F) (h : R = (vrun s (F - k) pc st ms).up k) (hz : (von s pc st ms).2.2.2.kind ≠ 0) : R = ⟨(von s pc st ms).1, (von s pc st ms).2.1, (von s pc st ms).2.2.1, (von s pc st ms).2.2.2, k⟩ := by
  have e : F - k = F - (k + 1) + 1 := by omega
  rw [h, e, vrun_stop hz]
  unfold Ran.up
  simp
theorem run_ends {s : List UInt8} {F : Nat} {pc : Int} {st ms : List Int} {R : Ran} (h : R = (vrun s (F - F) pc st ms).up F) : R = ⟨pc, st, ms, actNo, F⟩ := by
  rw [h, Nat.sub_self, vrun]
  unfold Ran.up
  simp

set_option maxHeartbeats 2000000 in
theorem run_at (s : List UInt8) (hs : s.length ≤ 1000000000) (pc : Int) (sv0 : Value) (st : List Int) (mv0 : Value) (ms : List Int) (fuel : Int) (w : World) (hsv : URd w sv0 st.reverse) (hmv : URd w mv0 ms) (hf : Fine7 99990 pc st ms) (hml : ms.length ≤ 99990) (hfu : fuel ≤ 1000000) :
    Calls Try.prog 21 #[tx s, .agg #[.int .i64 pc, sv0], mv0, .int .i64 fuel] w fun e w' => RunOut (vrun s fuel.toNat pc st ms) w.heap.size e w' ∧ Below w.heap.size w w' := by
  obtain ⟨a0, k0, ca0, rfl⟩ : ∃ a k c, sv0 = .slice a k c := by obtain ⟨a, c, e⟩ := hsv.form; exact ⟨a, _, c, e⟩
  obtain ⟨ma0, mca0, rfl⟩ := hmv.form
  obtain ⟨W, hW⟩ : ∃ W, W = ((w.alloc (.cells #[.int .i64 pc, .slice a0 k0 ca0] 24)).alloc (.cells #[.int .i64 0, .slice none 0 0] 24)).alloc (.cells (actRow actNo) 30) := ⟨_, rfl⟩
  have HB : Hid (Below w.heap.size w W) := by rw [hW]; exact three_allocs _ _ _ _
  have HbW : Hid (W.heap[w.heap.size]? = some (.cells #[.int .i64 pc, .slice a0 k0 ca0] 24)) := by
    show _ = _
    rw [hW, Below.heap_alloc _ _ _ (by simp; omega), Below.heap_alloc _ _ _ (by simp), heap_alloc_new]
  have H8 : Hid (W.heap[w.heap.size + 1]? = some (.cells #[.int .i64 0, .slice none 0 0] 24)) := by
    show _ = _
    rw [hW, Below.heap_alloc _ _ _ (by simp)]
    exact heap_alloc2_new _ _ _
  have H10 : Hid (W.heap[w.heap.size + 1 + 1]? = some (.cells (actRow actNo) 30)) := by
    show _ = _
    rw [hW]
    simpa using heap_alloc_new ((w.alloc (.cells #[.int .i64 pc, .slice a0 k0 ca0] 24)).alloc (.cells #[.int .i64 0, .slice none 0 0] 24)) (.cells (actRow actNo) 30)
  have hcl1 := clone_at _ st.reverse W (hsv.below HB.out) (by have := hf.len; simp; omega)
  have HMV : Hid (URd W (.slice ma0 ms.length mca0) ms) := hmv.below HB.out
  have HF : Hid (Fine7 99990 pc st ms) := hf
  have hWs : w.heap.size + 1 + 1 < W.heap.size := lt_of_heap H10.out
  clear hsv hmv hf
  unfold actRow actNo at hW
  dsimp only at hW
  go_enter Try.func21, Try.ntmps21
  go_wp2_with fail
  rw [← hW]
  clear hW
  refine hcl1.mono ?_
  clear hcl1
  rintro e w1 ⟨sv1, rfl, ho1, hb1⟩
  have hcl2 := clone_at _ ms w1 (URd.below HMV.out hb1) (by omega)
  go_wp2_with fail
  refine hcl2.mono ?_
  clear hcl2
  rintro e w2 ⟨mv1, rfl, ho2, hb2⟩
  obtain ⟨a1, k1, c1, rfl⟩ := own_slice ho1
  have hBW : Hid (Below W.heap.size W w2) := hb1.trans (hb2.mono hb1.size)
  have Hb2 : Hid _ := (hBW.out.block _ (lt_of_heap HbW.out)).trans HbW.out
  have d1 : w2.cell? ⟨w.heap.size, 1, none⟩ = some (.slice a0 k0 ca0) := by rw [cell_of_heap Hb2.out]; rfl
  have f1 : w2.frozen? ⟨w.heap.size, 1, none⟩ = false := frozen_of_heap Hb2.out
  go_wp2_with fail
  have hal := all_at (w2.setCell ⟨w.heap.size, 1, none⟩ (.slice a1 k1 c1))
  obtain ⟨T, hT⟩ : ∃ T, opTable = T := ⟨_, rfl⟩
  have HT : Hid _ := hT
  have hts : (Try.prog.info? 62).map (·.size) = some T.size := by rw [← hT]; exact tableSize
  have hto : T.all (·.oneCell') = true := by rw [← hT]; exact tableOne
  have htz : 48 = T.size := by rw [← hT]; rfl
  rw [hT] at hal
  clear hT
  refine hal.mono ?_
  clear hal
  rintro e w3 ⟨rfl, hb3⟩
  have hs3 : w2.heap.size ≤ w3.heap.size := by have := hb3.size; simpa [World.setCell] using this
  go_wp2_with (first
    | (refine wpList_store_row rfl 62 (.tmp 12) (.tmp 21) rfl w3.heap.size T rfl rfl 62 _ (heap_alloc_new w3 _) hts htz hto ?_)
    | fail)
  rw [setRow_alloc_new]
  have hlow1 : ∀ g, (Value.slice a1 k1 c1).ownBlock = some g → W.heap.size ≤ g ∧ g < w1.heap.size := fun g hg => ho1.lt g hg
  have hlow2 : ∀ g, mv1.ownBlock = some g → w1.heap.size ≤ g ∧ g < w2.heap.size := fun g hg => ho2.lt g hg
  have hss : (w2.setCell ⟨w.heap.size, 1, none⟩ (.slice a1 k1 c1)).heap.size = w2.heap.size := by simp [World.setCell]
  have hkeep : ∀ k, k < w2.heap.size → k ≠ w.heap.size → (w3.alloc (.cells T 62)).heap[k]? = w2.heap[k]? := fun k hk hne => by
    rw [Below.heap_alloc _ _ _ (by omega), hb3.block k (by omega), Below.heap_setCell _ _ _ _ hne]
  have h12 := hb2.size
  have hW1 := hb1.size
  have hbw := HB.out.size
  have HS : Hid (Runs w (w3.alloc (.cells T 62)) w.heap.size mv1 pc (.slice a1 k1 c1) st ms w3.heap.size) := by
    refine ⟨⟨⟨?_, ?_, Nat.le_refl _⟩, ?_, ?_⟩, rfl, ?_, ?_, ?_, ?_⟩
    · rw [Below.heap_alloc _ _ _ (by omega), hb3.block _ (by omega)]
      exact head1 Hb2.out _
    · have := ownsRow_mono (ownsRow_at (ownsRow_below ho1 hb2) (fun g hg => hkeep g (by have := hlow1 g hg; omega) (by have := hlow1 g hg; omega))) (show w.heap.size ≤ W.heap.size by omega)
      rwa [List.length_reverse] at this
    · exact ownsRow_mono (ownsRow_at ho2 (fun g hg => hkeep g (by have := hlow2 g hg; omega) (by have := hlow2 g hg; omega))) (by omega)
    · intro g hg e
      have := hlow1 g e
      have := hlow2 g hg
      omega
    · exact (hkeep _ (by omega) (by omega)).trans ((hBW.out.block _ (lt_of_heap H8.out)).trans H8.out)
    · exact (hkeep _ (by omega) (by omega)).trans ((hBW.out.block _ (lt_of_heap H10.out)).trans H10.out)
    · rw [heap_alloc_new, HT.out]
    · refine ⟨?_, ?_, ?_, ?_, fun k hk => (hkeep k (by omega) (by omega)).trans ((hBW.out.block k (by omega)).trans (HB.out.block k hk))⟩
      · exact hb3.os.trans (hBW.out.os.trans HB.out.os)
      · exact hb3.tape.trans (hBW.out.tape.trans HB.out.tape)
      · exact hb3.output.trans (hBW.out.output.trans HB.out.output)
      · simp; omega
  generalize hw4 : w3.alloc (.cells T 62) = w4 at *
  generalize ht3 : w3.heap.size = t3 at *
  clear hw4 hkeep hlow1 hlow2 hss ho1 ho2 hb1 hb2 hb3 hs3 d1 f1 Hb2 hBW h12 hW1 hbw hWs H8 H10 HbW HB HMV ht3 hto htz
  generalize hR0 : vrun s fuel.toNat pc st ms = R0 at *
  have HE0 : Hid (R0 = (vrun s (fuel.toNat - 0) pc st ms).up 0) := by show _ = _; rw [← hR0]; rfl
  have HR0 : Hid _ := hR0
  clear hR0
  generalize hF : fuel.toNat = F at *
  have HFF : Hid _ := hF
  have hF1 : fuel ≤ F ∧ (0 ≤ fuel → fuel = F) ∧ F ≤ 1000000 ∧ (fuel < 0 → F = 0) := by omega
  have HF1 : Hid _ := hF1
  clear hF
  go_loopw [23] (fun i wr => ∃ (k : Nat) (pc' : Int) (st' ms' : List Int) (sv' : Value), i = .int .i64 k ∧ k ≤ F ∧ Hid (Runs w wr w.heap.size mv1 pc' sv' st' ms' t3) ∧ Hid (Fine7 99990 pc' st' ms') ∧ Hid (ms'.length = ms.length) ∧ Hid (R0 = (vrun s (F - k) pc' st' ms').up k)) (fun i _ => F - (intOf i).toNat)
  case atStart => exact ⟨0, pc, st, ms, _, rfl, Nat.zero_le _, HS, HF, rfl, HE0⟩
  case round =>
    obtain ⟨k, pc', st', ms', sv', rfl, hk, HR, HF', HL, HE⟩ := hrel
    by_cases hlt : k < F
    · have hkf : (k : Int) < fuel := by omega
      have hst := stepOn_at s hs w.heap.size w.heap.size pc' sv' st' mv1 ms' wr HR.out.duo HF'.out (by rw [HL.out]; exact hml)
      have hrow := HR.out.tab
      rw [HT.out] at hst hrow
      have HN1 : Hid _ := @run_next s F k pc' st' ms' R0 hlt HE.out
      have HN2 : Hid _ := @run_stops s F k pc' st' ms' R0 hlt HE.out
      have HF2 : Hid _ := von_fine s hs (by omega) HF'.out
      generalize von s pc' st' ms' = r at *
      obtain ⟨pc2, st2, ms2, act2⟩ := r
      dsimp only at *
      go_wp2_with (first
        | (refine wpList_load_row rfl 62 (.tmp 12) rfl t3 rfl 62 T (0, 0) _ hrow Try.underlying62 rfl hts ?_)
        | fail)
      refine hst.mono ?_
      clear hst
      rintro e w5 ⟨rfl, sv5, hd5, hg5⟩
      have HR5 : Hid (Runs w w5 w.heap.size mv1 pc2 sv5 st2 ms2 t3) := HR.out.gone hd5 hg5
      have hm5 := hd5.mach
      obtain ⟨a5, cap5, rfl⟩ := hm5.form
      have c0 := hm5.c0
      have c1 := hm5.c1
      have hl5 := lt_of_heap hm5.head
      have hl8 := lt_of_heap HR5.out.r8
      have hl10 := lt_of_heap HR5.out.r10
      clear hg5 hd5 hm5 hrow
      obtain ⟨k2, ad2, vl2, sy2⟩ := act2
      dsimp only [actRow] at *
      by_cases hz : k2 = 0
      · have hz1 : (k2 == 0) = true := by simp [hz]
        have hz2 : (k2 != 0) = false := by simp [hz]
        have HE2 : Hid _ := HN1.out hz
        clear hz
        go_wp2
        go_roundw
        case rel => exact ⟨k + 1, pc2, st2, ms2, _, by go_num, by omega, HR5.out.below (below_alloc _ _), HF2.out.1, HF2.out.2.trans HL.out, HE2⟩
        case measure => simp [intOf]; omega
      · have hz1 : (k2 == 0) = false := by simpa using hz
        have hz2 : (k2 != 0) = true := by simpa using hz
        have HE2 : Hid _ := HN2.out hz
        have d0 : w5.cell? ⟨w.heap.size + 1, 0, none⟩ = some (.int .i64 0) := by rw [cell_of_heap HR5.out.r8]; rfl
        have d1 : w5.cell? ⟨w.heap.size + 1, 1, none⟩ = some (.slice none 0 0) := by rw [cell_of_heap HR5.out.r8]; rfl
        have g0 : w5.frozen? ⟨w.heap.size + 1, 0, none⟩ = false := frozen_of_heap HR5.out.r8
        have g1 : w5.frozen? ⟨w.heap.size + 1, 1, none⟩ = false := frozen_of_heap HR5.out.r8
        obtain ⟨⟨p0, p1, p2, p3⟩, q0, q1, q2, q3⟩ := cells4 HR5.out.r10
        clear hz
        go_wp2_with fail
        go_region
        go_wp2
        (try simp only [Exit.inBlock, Exit.then])
        have hfin : vrun s fuel.toNat pc st ms = _ := (by rw [HFF.out]; exact HR0.out : _ = R0).trans HE2.out
        obtain ⟨z1, z2, z3, z4, z5⟩ := HR5.out.fin (.int .i64 k2) (.int .u64 ad2) (.int .u64 vl2) (.int .i64 sy2)
        have z6 : Below (put4 (put2 w5 (w.heap.size + 1) (.int .i64 pc2) (.slice a5 st2.length cap5)) (w.heap.size + 1 + 1) (.int .i64 k2) (.int .u64 ad2) (.int .u64 vl2) (.int .i64 sy2)).heap.size _ _ := (below_alloc _ (.cells #[.int .i64 k2, .int .u64 ad2, .int .u64 vl2, .int .i64 sy2] 30)).drew
        refine bodyPost_ret (results_ctct rfl _ _ (w.heap.size + 1) (w.heap.size + 1 + 1) _ _ (0, 0) (0, 0) _ _ rfl ((z6.block _ (lt_of_heap z1)).trans z1) Try.underlying24 rfl vmSize rfl ((z6.block _ (lt_of_heap z2)).trans z2) Try.underlying30 rfl actSize) rfl ⟨?_, z5.trans (z6.mono z5.size)⟩
        rw [hfin]
        exact ⟨_, _, rfl, ownsRow_below z3 z6, ownsRow_below z4 z6⟩
    · obtain rfl : k = F := by omega
      have hkf : ¬ ((k : Int) < fuel) := by omega
      have HE2 : Hid _ := run_ends HE.out
      have hm5 := HR.out.duo.mach
      obtain ⟨a5, cap5, rfl⟩ := hm5.form
      have c0 := hm5.c0
      have c1 := hm5.c1
      have hl5 := lt_of_heap hm5.head
      have hl8 := lt_of_heap HR.out.r8
      have hl10 := lt_of_heap HR.out.r10
      have d0 : wr.cell? ⟨w.heap.size + 1, 0, none⟩ = some (.int .i64 0) := by rw [cell_of_heap HR.out.r8]; rfl
      have d1 : wr.cell? ⟨w.heap.size + 1, 1, none⟩ = some (.slice none 0 0) := by rw [cell_of_heap HR.out.r8]; rfl
      have g0 : wr.frozen? ⟨w.heap.size + 1, 0, none⟩ = false := frozen_of_heap HR.out.r8
      have g1 : wr.frozen? ⟨w.heap.size + 1, 1, none⟩ = false := frozen_of_heap HR.out.r8
      obtain ⟨⟨p0, p1, p2, p3⟩, q0, q1, q2, q3⟩ := cells4 HR.out.r10
      clear hm5
      have hmx : max fuel 0 = (k : Int) := by omega
      have HMX : Hid _ := hmx
      clear hmx
      go_wp2
      (try simp only [Exit.inBlock, Exit.then])
      have hfin : vrun s fuel.toNat pc st ms = _ := (by rw [HFF.out]; exact HR0.out : _ = R0).trans HE2.out
      obtain ⟨z1, z2, z3, z4, z5⟩ := HR.out.fin (.int .i64 0) (.int .u64 0) (.int .u64 0) (.int .i64 0)
      refine bodyPost_ret (results_ctct rfl _ _ (w.heap.size + 1) (w.heap.size + 1 + 1) _ _ (0, 0) (0, 0) _ _ rfl z1 Try.underlying24 rfl vmSize rfl z2 Try.underlying30 rfl actSize) rfl ⟨?_, z5⟩
      rw [hfin, HMX.out]
      exact ⟨_, _, rfl, z3, z4⟩
end Go.Proofs.Ytedkijionpkmmaa
