/- One step on a memory: loads and stores. -/
import Derived.Test.YtedkijionpkmmaaVmG
namespace Go.Proofs.Ytedkijionpkmmaa
open Go.RowKit
set_option linter.unusedVariables false

theorem eff_short (i : Ins) (st : List Int) (h : i.op = 19 ∨ i.op = 20) : (eff i st).2.1.length ≤ st.length := by
  rcases h with h | h
  · have e : eff i st = (i.pos + i.len, st.drop 1, ⟨1, st.headD 0, 0, 0⟩) := by unfold eff; rw [h]; rfl
    rw [e]
    simp
  · have e : eff i st = (i.pos + i.len, st.drop 2, ⟨2, st.headD 0, st.tail.headD 0, 0⟩) := by unfold eff; rw [h]; rfl
    rw [e]
    simp
theorem vstep_short (s : List UInt8) (pc : Int) (st : List Int) (hk : (vstep s pc st).2.2.kind = 1 ∨ (vstep s pc st).2.2.kind = 2) : (vstep s pc st).2.1.length ≤ st.length := by
  unfold vstep at hk ⊢
  split
  · rename_i h
    rw [if_pos h] at hk
    exact eff_short _ st ((eff_kind _ st).2 hk)
  · exact Nat.le_refl _
theorem MachV.back {M : Nat} {W w1 : World} {b : Nat} {pc pc' : Int} {sv sv' : Value} {st st' : List Int} (h1 : MachV M w1 b pc' sv' st') (h2 : MachV M W b pc sv st) (hu : Upd b W w1) : MachV M ((w1.setCell ⟨b, 0, none⟩ (.int .i64 pc)).setCell ⟨b, 1, none⟩ sv) b pc sv st := by
  refine ⟨set_row (set_row h1.head 0 _) 1 _, ownsRow_at h2.own (fun g hg => ?_), h2.low⟩
  have hne : g ≠ b := fun e => h2.apart (by rw [← e]; exact hg)
  rw [Below.heap_setCell _ _ _ _ hne, Below.heap_setCell _ _ _ _ hne]
  exact hu.block g (h2.own.lt g hg).2 hne
theorem Gone.trans {b : Nat} {mv : Value} {w w1 w2 : World} {sv sv1 sv2 : Value} (h : Gone b mv w sv w1 sv1) (k : Gone b mv w1 sv1 w2 sv2) : Gone b mv w sv w2 sv2 := by
  refine ⟨k.os.trans h.os, k.tape.trans h.tape, k.output.trans h.output, Nat.le_trans h.size k.size, fun i hi hb hn hm => ?_, ?_⟩
  · refine (k.block i (Nat.lt_of_lt_of_le hi h.size) hb (fun e => ?_) hm).trans (h.block i hi hb hn hm)
    rcases h.lies with hl | hl
    · rw [hl] at e; exact hn e
    · have := hl i e; omega
  · rcases k.lies with kl | kl
    · rw [kl]; exact h.lies
    · exact Or.inr (fun g hg => Nat.le_trans h.size (kl g hg))
theorem Gone.set {b : Nat} {mv : Value} {w : World} {sv : Value} {mg : Nat} (hm : mv.ownBlock = some mg) (n : Nat) (v : Value) : Gone b mv w sv (w.setCell ⟨mg, n, none⟩ v) sv :=
  ⟨rfl, rfl, rfl, by simp [World.setCell], fun k _ _ _ hk => Below.heap_setCell _ _ _ _ (fun e => hk (by have e' : k = mg := e; rw [e']; exact hm)), Or.inl rfl⟩
theorem Duo.put {M : Nat} {w : World} {b : Nat} {pc : Int} {sv : Value} {st : List Int} {mg mcap : Nat} {ms : List Int} (h : Duo M w b pc sv st (.slice (some ⟨mg, 0, none⟩) ms.length mcap) ms) (n : Nat) (vl : Int) :
    Duo M (w.setCell ⟨mg, n, none⟩ (.int .u64 vl)) b pc sv st (.slice (some ⟨mg, 0, none⟩) ms.length mcap) (ms.set n vl) := by
  refine ⟨h.mach.keep (Below.heap_setCell _ _ _ _ (fun e => ?_)) (fun g hg => Below.heap_setCell _ _ _ _ (fun e => ?_)), ?_, h.apart⟩
  · have e' : b = mg := e
    exact own_apart h.mem h.mach.head (by decide) (by rw [e']; rfl)
  · have e' : g = mg := e
    exact h.apart mg rfl (by rw [← e']; exact hg)
  · have h1 := (h.mem.stored n (.int .u64 vl)).1
    have e : (uvs ms).set n (.int .u64 vl) = uvs (ms.set n vl) := by simp [uvs, List.map_set]
    rw [e] at h1
    rw [List.length_set]
    exact h1
theorem Duo.put4 {M : Nat} {w : World} {b : Nat} {pc : Int} {sv : Value} {st : List Int} {mv : Value} {ms : List Int} (h : Duo M w b pc sv st mv ms) {R : Nat} {cs : Array Value} {t : TypeId} (hR : w.heap[R]? = some (.cells cs t)) (h1 : t ≠ 24) (h2 : t ≠ 25) (k a v y : Value) : Duo M (put4 w R k a v y) b pc sv st mv ms :=
  ⟨h.mach.put4 hR h1 h2 k a v y, ownsRow_at h.mem (fun g hg => put4_heap g (fun e => own_apart h.mem hR h2 (by rw [← e]; exact hg))), h.apart⟩
theorem Duo.below {M : Nat} {w w' : World} {b : Nat} {pc : Int} {sv : Value} {st : List Int} {mv : Value} {ms : List Int} (h : Duo M w b pc sv st mv ms) (hb : Below w.heap.size w w') : Duo M w' b pc sv st mv ms :=
  ⟨h.mach.below hb, ownsRow_below h.mem hb, h.apart⟩
theorem Gone.put4 {b : Nat} {mv : Value} {w w' : World} {sv sv' : Value} (h : Gone b mv w sv w' sv') {R : Nat} (hR : w.heap.size ≤ R) (k a v y : Value) : Gone b mv w sv (put4 w' R k a v y) sv' :=
  ⟨h.os, h.tape, h.output, by rw [put4_size]; exact h.size, fun j hj hb hs hm => (put4_heap j (by omega)).trans (h.block j hj hb hs hm), h.lies⟩
set_option maxHeartbeats 1000000 in
theorem stepOn_fault (s : List UInt8) (hs : s.length ≤ 1000000000) (M b : Nat) (pc : Int) (hpc : -9223372036854775808 ≤ pc ∧ pc ≤ 9223372036854775807) (sv : Value) (st : List Int) (mv : Value) (ms : List Int) (w : World) (h : Duo M w b pc sv st mv ms) (hl : st.length ≤ 99990) (hml : ms.length ≤ 99990) (hws : Wds st)
    (hk : (vstep s pc st).2.2.kind = 1 ∨ (vstep s pc st).2.2.kind = 2) (ha : (ms.length : Int) ≤ (vstep s pc st).2.2.addr) :
    Calls Try.prog 33 #[tx s, .pointer (some ⟨b, 0, none⟩), mv, .agg opTable] w fun e w' => e = .returned (.agg (actRow actFault)) ∧ ∃ sv', Duo M w' b pc sv' st mv ms ∧ Gone b mv w sv w' sv' := by
  have hst := fun W h => step_ls s hs M b pc hpc sv st W h hl hws hk
  have hwd := vstep_wds s hs pc st hws
  have HH : Hid _ := h
  have hm := h.mach
  obtain ⟨a, cap, rfl⟩ := hm.form
  obtain ⟨ma, mcap, rfl⟩ := h.form
  have c0 := hm.c0
  have c1 := hm.c1
  have hlt := lt_of_heap hm.head
  clear h
  obtain ⟨T, hT⟩ : ∃ T, opTable = T := ⟨_, rfl⟩
  have HT : Hid _ := hT
  have hts : (Try.prog.info? 62).map (·.size) = some T.size := by rw [← hT]; exact tableSize
  rw [hT] at hst ⊢
  clear hT
  generalize vstep s pc st = r at *
  obtain ⟨pc', st', act⟩ := r
  obtain ⟨k, ad, vl, sy⟩ := act
  dsimp only at *
  obtain ⟨W, hW⟩ : ∃ W, W = ((w.alloc (.cells T 62)).alloc (.cells (actRow actNo) 30)).alloc (.cells #[.int .i64 pc, .slice a st.length cap] 24) := ⟨_, rfl⟩
  have HB : Hid (Below w.heap.size w W) := by rw [hW]; exact three_allocs _ _ _ _
  have HR : Hid (W.heap[w.heap.size + 1]? = some (.cells (actRow actNo) 30)) := by rw [hW, Below.heap_alloc _ _ _ (by simp)]; exact heap_alloc2_new _ _ _
  have HA : Hid (W.heap[w.heap.size + 1 + 1]? = some (.cells #[.int .i64 pc, .slice a st.length cap] 24)) := by
    show _ = _
    rw [hW]
    simpa using heap_alloc_new ((w.alloc (.cells T 62)).alloc (.cells (actRow actNo) 30)) (.cells #[.int .i64 pc, .slice a st.length cap] 24)
  have h2 := hm.below HB.out
  have hstW := hst W h2
  clear hst hm
  unfold actRow actNo at hW
  dsimp only at hW
  go_enter Try.func33, Try.ntmps33
  go_wp2_with (refine wpList_load_row rfl 62 (.tmp 7) rfl w.heap.size rfl 62 T (0, 0) _ (by first | exact heap_alloc_new _ _ | (rw [Below.heap_alloc _ _ _ (by simp; omega), Below.heap_alloc _ _ _ (by simp), heap_alloc_new])) Try.underlying62 rfl hts ?_)
  go_wp2_with fail
  rw [← hW]
  clear hW
  refine hstW.mono ?_
  clear hstW
  rintro e w1 ⟨rfl, sv1, hm1, ho1, hu1⟩
  have HR1 : Hid (w1.heap[w.heap.size + 1]? = some (.cells (actRow actNo) 30)) := (hu1.block _ (lt_of_heap HR.out) (by omega)).trans HR.out
  have HA1 : Hid (w1.heap[w.heap.size + 1 + 1]? = some (.cells #[.int .i64 pc, .slice a st.length cap] 24)) := (hu1.block _ (lt_of_heap HA.out) (by omega)).trans HA.out
  have HU1 : Hid (Upd b w w1) := (Upd.of_below HB.out).trans hu1
  have hlt1 := lt_of_heap HR1.out
  have hlt2 := lt_of_heap HA1.out
  have a0 : w1.cell? ⟨w.heap.size + 1 + 1, 0, none⟩ = some (.int .i64 pc) := by rw [cell_of_heap HA1.out]; rfl
  have a1 : w1.cell? ⟨w.heap.size + 1 + 1, 1, none⟩ = some (.slice a st.length cap) := by rw [cell_of_heap HA1.out]; rfl
  have b0 := hm1.c0
  have b1 := hm1.c1
  have g0 := hm1.free 0
  have g1 := hm1.free 1
  have hge : decide ((ms.length : Int) ≤ ad) = true := decide_eq_true ha
  have hblt : b < w1.heap.size := by omega
  obtain ⟨hq1, hq2, hq3⟩ := hwd
  have HM1 : Hid _ := hm1
  have HH2 : Hid _ := h2
  have HU2 : Hid _ := hu1
  have HO1 : Hid _ := ho1
  clear hm1 h2 hu1 ho1
  obtain ⟨⟨c0, c1, c2, c3⟩, f0, f1, f2, f3⟩ := cells4 HR1.out
  dsimp only [actRow]
  rcases hk with rfl | rfl
  all_goals
    go_wp2
    (try simp only [Exit.inBlock, Exit.then])
    have hz : ((w1.setCell ⟨b, 0, none⟩ (.int .i64 pc)).setCell ⟨b, 1, none⟩ (.slice a st.length cap)).heap[w.heap.size + 1]? = some (.cells (actRow actNo) 30) := (Below.heap_setCell _ _ _ _ (by show w.heap.size + 1 ≠ b; omega)).trans ((Below.heap_setCell _ _ _ _ (by show w.heap.size + 1 ≠ b; omega)).trans HR1.out)
    refine bodyPost_ret (results_cell_row rfl _ _ (w.heap.size + 1) 30 _ (0, 0) _ rfl ((Below.heap_alloc _ _ _ (by rw [put4_size]; exact lt_of_heap hz)).trans (put4_row hz)) Try.underlying30 rfl actSize) rfl ?_
    have hg : ∀ o : Obj, Went b w (.slice a st.length cap) ((put4 ((w1.setCell ⟨b, 0, none⟩ (.int .i64 pc)).setCell ⟨b, 1, none⟩ (.slice a st.length cap)) (w.heap.size + 1) (.int .i64 4) (.int .u64 0) (.int .u64 0) (.int .i64 0)).alloc o) (.slice a st.length cap) := fun o => (Went.of_upd ((((HU1.out.trans (Upd.setCell _ _ _ _)).trans (Upd.setCell _ _ _ _)).put4 (by omega) _ _ _ _).trans (Upd.alloc _ _ _)) rfl)
    exact ⟨rfl, _, HH.out.went (((HM1.out.back HH2.out HU2.out).put4 hz (by decide) (by decide) _ _ _ _).below (below_alloc _ _)) (hg _), Gone.of_went (hg _)⟩
set_option maxHeartbeats 1000000 in
theorem stepOn_load (s : List UInt8) (hs : s.length ≤ 1000000000) (M b : Nat) (pc : Int) (hpc : -9223372036854775808 ≤ pc ∧ pc ≤ 9223372036854775807) (sv : Value) (st : List Int) (mv : Value) (ms : List Int) (w : World) (h : Duo M w b pc sv st mv ms) (hl : st.length ≤ 99990) (hml : ms.length ≤ 99990) (hws : Wds st)
    (hk : (vstep s pc st).2.2.kind = 1) (ha : (vstep s pc st).2.2.addr < ms.length) :
    Calls Try.prog 33 #[tx s, .pointer (some ⟨b, 0, none⟩), mv, .agg opTable] w fun e w' => e = .returned (.agg (actRow actNo)) ∧ ∃ sv', Duo M w' b (vstep s pc st).1 sv' (ms.getD (vstep s pc st).2.2.addr.toNat 0 :: (vstep s pc st).2.1) mv ms ∧ Gone b mv w sv w' sv' := by
  have hst := fun W h => step_ls s hs M b pc hpc sv st W h hl hws (Or.inl hk)
  have hwd := vstep_wds s hs pc st hws
  have hl2 : (vstep s pc st).2.1.length ≤ 99990 := Nat.le_trans (vstep_short s pc st (Or.inl hk)) hl
  have HH : Hid _ := h
  have hm := h.mach
  obtain ⟨a, cap, rfl⟩ := hm.form
  obtain ⟨ma, mcap, rfl⟩ := h.form
  have c0 := hm.c0
  have c1 := hm.c1
  have hlt := lt_of_heap hm.head
  clear h
  obtain ⟨T, hT⟩ : ∃ T, opTable = T := ⟨_, rfl⟩
  have HT : Hid _ := hT
  have hts : (Try.prog.info? 62).map (·.size) = some T.size := by rw [← hT]; exact tableSize
  rw [hT] at hst ⊢
  clear hT
  generalize vstep s pc st = r at *
  obtain ⟨pc', st', act⟩ := r
  obtain ⟨k, ad, vl, sy⟩ := act
  dsimp only at *
  obtain ⟨W, hW⟩ : ∃ W, W = ((w.alloc (.cells T 62)).alloc (.cells (actRow actNo) 30)).alloc (.cells #[.int .i64 pc, .slice a st.length cap] 24) := ⟨_, rfl⟩
  have HB : Hid (Below w.heap.size w W) := by rw [hW]; exact three_allocs _ _ _ _
  have HR : Hid (W.heap[w.heap.size + 1]? = some (.cells (actRow actNo) 30)) := by rw [hW, Below.heap_alloc _ _ _ (by simp)]; exact heap_alloc2_new _ _ _
  have HA : Hid (W.heap[w.heap.size + 1 + 1]? = some (.cells #[.int .i64 pc, .slice a st.length cap] 24)) := by
    show _ = _
    rw [hW]
    simpa using heap_alloc_new ((w.alloc (.cells T 62)).alloc (.cells (actRow actNo) 30)) (.cells #[.int .i64 pc, .slice a st.length cap] 24)
  have h2 := hm.below HB.out
  have hstW := hst W h2
  clear hst hm
  unfold actRow actNo at hW
  dsimp only at hW
  go_enter Try.func33, Try.ntmps33
  go_wp2_with (refine wpList_load_row rfl 62 (.tmp 7) rfl w.heap.size rfl 62 T (0, 0) _ (by first | exact heap_alloc_new _ _ | (rw [Below.heap_alloc _ _ _ (by simp; omega), Below.heap_alloc _ _ _ (by simp), heap_alloc_new])) Try.underlying62 rfl hts ?_)
  go_wp2_with fail
  rw [← hW]
  clear hW
  refine hstW.mono ?_
  clear hstW
  rintro e w1 ⟨rfl, sv1, hm1, ho1, hu1⟩
  have HR1 : Hid (w1.heap[w.heap.size + 1]? = some (.cells (actRow actNo) 30)) := (hu1.block _ (lt_of_heap HR.out) (by omega)).trans HR.out
  have HA1 : Hid (w1.heap[w.heap.size + 1 + 1]? = some (.cells #[.int .i64 pc, .slice a st.length cap] 24)) := (hu1.block _ (lt_of_heap HA.out) (by omega)).trans HA.out
  have HU1 : Hid (Upd b w w1) := (Upd.of_below HB.out).trans hu1
  have hlt1 := lt_of_heap HR1.out
  have hlt2 := lt_of_heap HA1.out
  obtain ⟨n, rfl⟩ : ∃ n : Nat, ad = n := ⟨ad.toNat, by have := hwd.2.1.1; omega⟩
  have hn : n < ms.length := by omega
  have hge : decide ((ms.length : Int) ≤ n) = false := decide_eq_false (by omega)
  obtain ⟨mg, mc, rfl, hmc⟩ : ∃ mg mc, ma = some ⟨mg, 0, none⟩ ∧ (w1.cell? ⟨mg, n, none⟩ = some (.int .u64 (ms.getD n 0)) ∧ mc = mcap) := by
    rcases HH.out.mem.2 with ⟨e2, e3⟩ | ⟨g, cap2, cur, e2, _⟩
    · omega
    · simp only [Value.slice.injEq] at e2
      obtain ⟨rfl, _, rfl⟩ := e2
      refine ⟨g, _, rfl, ?_, rfl⟩
      have hD := HH.out.went hm1 ((Went.of_below HB.out).trans (Went.of_upd hu1 ho1))
      have := hD.mem.cells (g := g) rfl n (.int .u64 (ms.getD n 0)) (by simp [uvs, hn])
      rwa [add0, Nat.zero_add] at this
  obtain ⟨hmc, _⟩ := hmc
  obtain ⟨x, hx⟩ : ∃ x, ms.getD n 0 = x := ⟨_, rfl⟩
  rw [hx] at hmc
  have hmlt : mg < w1.heap.size := cell_lt hmc
  have hblt : b < w1.heap.size := by omega
  have hge2 : decide (ms.length ≤ n) = false := decide_eq_false (by omega)
  have HX : Hid _ := hx
  clear hx
  have HM1 : Hid _ := hm1
  have HH2 : Hid _ := h2
  have HU2 : Hid _ := hu1
  have HO1 : Hid _ := ho1
  have hl' : st'.length ≤ 99990 := hl2
  clear h2 hu1 ho1
  subst hk
  dsimp only [actRow]
  go_wp2_with fail
  refine (push_at M b pc' sv1 st' [x] 1 (w1.heap.size + 1) _ (hm1.below (two_allocs _ _ _)) (by omega) rfl (by omega) (by omega) (heap_alloc2_new w1 _ _)).mono ?_
  rintro e w2 ⟨rfl, sv2, hm2, hg2⟩
  have HG2 : Hid (Went b w _ w2 sv2) := (Went.of_upd HU1.out HO1.out).trans ((Went.of_below (two_allocs _ _ _)).trans hg2)
  have HR2 : Hid (w2.heap[w.heap.size + 1]? = some (.cells (actRow actNo) 30)) := Went.stays ((Went.of_below (two_allocs _ _ _)).trans hg2) hm1 HR1.out (by decide) (by decide)
  clear hg2
  obtain ⟨⟨c0, c1, c2, c3⟩, f0, f1, f2, f3⟩ := cells4 HR2.out
  go_wp2
  (try simp only [Exit.inBlock, Exit.then])
  refine bodyPost_ret (results_cell_row rfl _ _ (w.heap.size + 1) 30 _ (0, 0) _ rfl (put4_row HR2.out) Try.underlying30 rfl actSize) rfl ?_
  have hg := HG2.out.put4 (R := w.heap.size + 1) (by omega) (.int .i64 0) (.int .u64 0) (.int .u64 0) (.int .i64 0)
  rw [Int.toNat_natCast, HX.out]
  exact ⟨rfl, _, HH.out.went (hm2.put4 HR2.out (by decide) (by decide) _ _ _ _) hg, Gone.of_went hg⟩
set_option maxHeartbeats 1000000 in
theorem stepOn_store (s : List UInt8) (hs : s.length ≤ 1000000000) (M b : Nat) (pc : Int) (hpc : -9223372036854775808 ≤ pc ∧ pc ≤ 9223372036854775807) (sv : Value) (st : List Int) (mv : Value) (ms : List Int) (w : World) (h : Duo M w b pc sv st mv ms) (hl : st.length ≤ 99990) (hml : ms.length ≤ 99990) (hws : Wds st)
    (hk : (vstep s pc st).2.2.kind = 2) (ha : (vstep s pc st).2.2.addr < ms.length) :
    Calls Try.prog 33 #[tx s, .pointer (some ⟨b, 0, none⟩), mv, .agg opTable] w fun e w' => e = .returned (.agg (actRow actNo)) ∧ ∃ sv', Duo M w' b (vstep s pc st).1 sv' (vstep s pc st).2.1 mv (ms.set (vstep s pc st).2.2.addr.toNat (vstep s pc st).2.2.val) ∧ Gone b mv w sv w' sv' := by
  have hst := fun W h => step_ls s hs M b pc hpc sv st W h hl hws (Or.inr hk)
  have hwd := vstep_wds s hs pc st hws
  have HH : Hid _ := h
  have hm := h.mach
  obtain ⟨a, cap, rfl⟩ := hm.form
  obtain ⟨ma, mcap, rfl⟩ := h.form
  have c0 := hm.c0
  have c1 := hm.c1
  have hlt := lt_of_heap hm.head
  clear h
  obtain ⟨T, hT⟩ : ∃ T, opTable = T := ⟨_, rfl⟩
  have HT : Hid _ := hT
  have hts : (Try.prog.info? 62).map (·.size) = some T.size := by rw [← hT]; exact tableSize
  rw [hT] at hst ⊢
  clear hT
  generalize vstep s pc st = r at *
  obtain ⟨pc', st', act⟩ := r
  obtain ⟨k, ad, vl, sy⟩ := act
  dsimp only at *
  obtain ⟨W, hW⟩ : ∃ W, W = ((w.alloc (.cells T 62)).alloc (.cells (actRow actNo) 30)).alloc (.cells #[.int .i64 pc, .slice a st.length cap] 24) := ⟨_, rfl⟩
  have HB : Hid (Below w.heap.size w W) := by rw [hW]; exact three_allocs _ _ _ _
  have HR : Hid (W.heap[w.heap.size + 1]? = some (.cells (actRow actNo) 30)) := by rw [hW, Below.heap_alloc _ _ _ (by simp)]; exact heap_alloc2_new _ _ _
  have HA : Hid (W.heap[w.heap.size + 1 + 1]? = some (.cells #[.int .i64 pc, .slice a st.length cap] 24)) := by
    show _ = _
    rw [hW]
    simpa using heap_alloc_new ((w.alloc (.cells T 62)).alloc (.cells (actRow actNo) 30)) (.cells #[.int .i64 pc, .slice a st.length cap] 24)
  have h2 := hm.below HB.out
  have hstW := hst W h2
  clear hst hm
  unfold actRow actNo at hW
  dsimp only at hW
  go_enter Try.func33, Try.ntmps33
  go_wp2_with (refine wpList_load_row rfl 62 (.tmp 7) rfl w.heap.size rfl 62 T (0, 0) _ (by first | exact heap_alloc_new _ _ | (rw [Below.heap_alloc _ _ _ (by simp; omega), Below.heap_alloc _ _ _ (by simp), heap_alloc_new])) Try.underlying62 rfl hts ?_)
  go_wp2_with fail
  rw [← hW]
  clear hW
  refine hstW.mono ?_
  clear hstW
  rintro e w1 ⟨rfl, sv1, hm1, ho1, hu1⟩
  have HR1 : Hid (w1.heap[w.heap.size + 1]? = some (.cells (actRow actNo) 30)) := (hu1.block _ (lt_of_heap HR.out) (by omega)).trans HR.out
  have HA1 : Hid (w1.heap[w.heap.size + 1 + 1]? = some (.cells #[.int .i64 pc, .slice a st.length cap] 24)) := (hu1.block _ (lt_of_heap HA.out) (by omega)).trans HA.out
  have HU1 : Hid (Upd b w w1) := (Upd.of_below HB.out).trans hu1
  have hlt1 := lt_of_heap HR1.out
  have hlt2 := lt_of_heap HA1.out
  obtain ⟨n, rfl⟩ : ∃ n : Nat, ad = n := ⟨ad.toNat, by have := hwd.2.1.1; omega⟩
  have hn : n < ms.length := by omega
  have hge : decide ((ms.length : Int) ≤ n) = false := decide_eq_false (by omega)
  have hge2 : decide (ms.length ≤ n) = false := decide_eq_false (by omega)
  have HD : Hid _ := HH.out.went hm1 ((Went.of_below HB.out).trans (Went.of_upd hu1 ho1))
  obtain ⟨mg, rfl⟩ : ∃ mg, ma = some ⟨mg, 0, none⟩ := by
    rcases HH.out.mem.2 with ⟨e2, e3⟩ | ⟨g, cap2, cur, e2, _⟩
    · omega
    · simp only [Value.slice.injEq] at e2
      exact ⟨g, e2.1⟩
  have hmc : w1.cell? ⟨mg, n, none⟩ = some (.int .u64 (ms.getD n 0)) := by
    have := HD.out.mem.cells (g := mg) rfl n (.int .u64 (ms.getD n 0)) (by simp [uvs, hn])
    rwa [add0, Nat.zero_add] at this
  have hmf : w1.frozen? ⟨mg, n, none⟩ = false := HD.out.mem.frozenAt n
  have hmlt : mg < w1.heap.size := cell_lt hmc
  have hblt : b < w1.heap.size := by omega
  have HMR : Hid (w.heap.size + 1 ≠ mg) := fun e => own_apart HD.out.mem HR1.out (by decide) (by rw [e]; rfl)
  have hmr : w.heap.size + 1 ≠ mg := HMR.out
  have HH2 : Hid _ := h2
  have HU2 : Hid _ := hu1
  have HO1 : Hid _ := ho1
  clear h2 hu1 ho1 hm1
  obtain ⟨⟨c0, c1, c2, c3⟩, f0, f1, f2, f3⟩ := cells4 HR1.out
  subst hk
  dsimp only [actRow]
  go_wp2
  (try simp only [Exit.inBlock, Exit.then])
  have hz : (w1.setCell ⟨mg, n, none⟩ (.int .u64 vl)).heap[w.heap.size + 1]? = some (.cells (actRow actNo) 30) := (Below.heap_setCell _ _ _ _ (show w.heap.size + 1 ≠ mg from hmr)).trans HR1.out
  refine bodyPost_ret (results_cell_row rfl _ _ (w.heap.size + 1) 30 _ (0, 0) _ rfl ((Below.heap_alloc _ _ _ (by rw [put4_size]; exact lt_of_heap hz)).trans (put4_row hz)) Try.underlying30 rfl actSize) rfl ?_
  rw [Int.toNat_natCast]
  exact ⟨rfl, sv1, ((HD.out.put n vl).put4 hz (by decide) (by decide) _ _ _ _).below (below_alloc _ _), (((Gone.of_went (Went.of_upd HU1.out HO1.out)).trans (Gone.set rfl n (.int .u64 vl))).put4 (by omega) _ _ _ _).trans (Gone.of_went (Went.of_below (below_alloc _ _)))⟩
end Go.Proofs.Ytedkijionpkmmaa
