/- januslaw07.VmPieces: so many steps at once are as many one by one. -/
import Derived.Test.YtedkijionpkmmaaVmP
import Derived.Laws.StructEq
namespace Go.Proofs.Ytedkijionpkmmaa
open Go.RowKit
set_option linter.unusedVariables false

/-- A slice that can be read, in another block than these two. -/
def URdF (b : Nat) (w : World) (v : Value) (xs : List Int) : Prop := URd w v xs ∧ (xs ≠ [] → ∀ g, v.ownBlock = some g → g ≠ b ∧ g ≠ b + 1)
theorem URdF.keep {b : Nat} {w w' : World} {v : Value} {xs : List Int} (h : URdF b w v xs) (hk : ∀ j, j < w.heap.size → j ≠ b → j ≠ b + 1 → w'.heap[j]? = w.heap[j]?) : URdF b w' v xs := by
  refine ⟨?_, h.2⟩
  rcases h.1 with h1 | ⟨g, o, c, e, hc, hx⟩ | h1
  · exact Or.inl h1
  rotate_left
  · exact Or.inr (Or.inr h1)
  · refine Or.inr (Or.inl ⟨g, o, c, e, hc, fun j x hj => ?_⟩)
    have hne : xs ≠ [] := fun e => by rw [e] at hj; simp at hj
    obtain ⟨n1, n2⟩ := h.2 hne g (by rw [e]; rfl)
    have hc := hx j x hj
    rw [World.cell?_of_block (a := ⟨g, o + j, none⟩) (hk g (cell_lt hc) n1 n2)]
    exact hc
theorem URdF.of_own {b M : Nat} {w : World} {v : Value} {xs : List Int} (h : w.ownsRow M 25 1 v xs.length (uvs xs)) (hM : b + 1 < M) : URdF b w v xs :=
  ⟨URd.of_own h, fun _ g hg => by have := (h.lt g hg).1; omega⟩
theorem URdF.of_old {b : Nat} {w0 w : World} {v : Value} {xs : List Int} (h : URd w0 v xs) (hb : Below w0.heap.size w0 w) (hlt : w0.heap.size ≤ b) : URdF b w v xs := by
  refine ⟨h.below hb, fun hne g hg => ?_⟩
  rcases h with ⟨_, e⟩ | ⟨g', o, c, e, hc, hx⟩ | ⟨_, _, _, e⟩
  · exact absurd e hne
  rotate_left
  · exact absurd e hne
  · rw [e] at hg
    simp [Value.ownBlock] at hg
    subst hg
    cases xs with
    | nil => exact absurd rfl hne
    | cons x r =>
      have h := cell_lt (hx 0 x rfl)
      have h' : g' < w0.heap.size := h
      omega
/-- What VmPieces has in hand. -/
structure PK (w wr : World) (b9 b13 : Nat) (R : Ran) (sva mvb : Value) (pck : Int) (svk : Value) (stk : List Int) (mvk : Value) (msk : List Int) (zk : Act4) : Prop where
  h9 : wr.heap[b9]? = some (.cells #[.int .i64 R.pc, sva] 24)
  h11 : wr.heap[b9 + 1]? = some (.cells (actRow R.act) 30)
  h13 : wr.heap[b13]? = some (.cells #[.int .i64 pck, svk] 24)
  h16 : wr.heap[b13 + 1]? = some (.cells (actRow zk) 30)
  ua : URdF b13 wr sva R.st.reverse
  ub : URdF b13 wr mvb R.ms
  uk : URdF b13 wr svk stk.reverse
  um : URdF b13 wr mvk msk
  lt : b9 + 1 < b13
  low : w.heap.size ≤ b13
  bel : Below w.heap.size w wr
theorem PK.next {w wr w' : World} {b9 b13 : Nat} {R : Ran} {sva mvb : Value} {pck : Int} {svk : Value} {stk : List Int} {mvk : Value} {msk : List Int} {zk : Act4} (h : PK w wr b9 b13 R sva mvb pck svk stk mvk msk zk) (hb : Below wr.heap.size wr w')
    {pc' : Int} {sv' mv' : Value} {st' ms' : List Int} {z' : Act4} (ho : w'.ownsRow wr.heap.size 25 1 sv' st'.length (uvs st'.reverse)) (hm : w'.ownsRow wr.heap.size 25 1 mv' ms'.length (uvs ms')) :
    PK w (put4 (put2 w' b13 (.int .i64 pc') sv') (b13 + 1) (.int .i64 z'.kind) (.int .u64 z'.addr) (.int .u64 z'.val) (.int .i64 z'.sys)) b9 b13 R sva mvb pc' sv' st' mv' ms' z' := by
  have l16 := lt_of_heap h.h16
  have hlt := h.lt
  have hlow := h.low
  have e2 : ∀ j, j ≠ b13 → (put2 w' b13 (.int .i64 pc') sv').heap[j]? = w'.heap[j]? := fun j hj => by
    unfold put2
    rw [Below.heap_setCell _ _ _ _ hj, Below.heap_setCell _ _ _ _ hj]
  have e4 : ∀ j, j ≠ b13 → j ≠ b13 + 1 → (put4 (put2 w' b13 (.int .i64 pc') sv') (b13 + 1) (.int .i64 z'.kind) (.int .u64 z'.addr) (.int .u64 z'.val) (.int .i64 z'.sys)).heap[j]? = w'.heap[j]? := fun j h1 h2 => (put4_heap j h2).trans (e2 j h1)
  have e5 : ∀ j, j < wr.heap.size → j ≠ b13 → j ≠ b13 + 1 → (put4 (put2 w' b13 (.int .i64 pc') sv') (b13 + 1) (.int .i64 z'.kind) (.int .u64 z'.addr) (.int .u64 z'.val) (.int .i64 z'.sys)).heap[j]? = wr.heap[j]? := fun j h0 h1 h2 => (e4 j h1 h2).trans (hb.block j h0)
  have ho' : w'.ownsRow wr.heap.size 25 1 sv' st'.reverse.length (uvs st'.reverse) := by rw [List.length_reverse]; exact ho
  have r13 : w'.heap[b13]? = some (.cells #[.int .i64 pck, svk] 24) := (hb.block _ (by omega)).trans h.h13
  have r16 : w'.heap[b13 + 1]? = some (.cells (actRow zk) 30) := (hb.block _ (by omega)).trans h.h16
  refine ⟨(e5 _ (lt_of_heap h.h9) (by omega) (by omega)).trans h.h9, (e5 _ (lt_of_heap h.h11) (by omega) (by omega)).trans h.h11, ?_, ?_, h.ua.keep e5, h.ub.keep e5, ?_, ?_, h.lt, h.low, ?_⟩
  · rw [put4_heap _ (by omega)]
    exact set_row (set_row r13 0 _) 1 _
  · exact put4_row ((e2 _ (by omega)).trans r16)
  · exact (URdF.of_own ho' l16).keep (fun j _ h1 h2 => e4 j h1 h2)
  · exact (URdF.of_own hm l16).keep (fun j _ h1 h2 => e4 j h1 h2)
  · have hsz : (put4 (put2 w' b13 (.int .i64 pc') sv') (b13 + 1) (.int .i64 z'.kind) (.int .u64 z'.addr) (.int .u64 z'.val) (.int .i64 z'.sys)).heap.size = w'.heap.size := by rw [put4_size]; simp [put2, World.setCell]
    have q1 : ∀ (w : World) (a : Addr) (v : Value), (w.setCell a v).os = w.os := fun _ _ _ => rfl
    have q2 : ∀ (w : World) (a : Addr) (v : Value), (w.setCell a v).tape = w.tape := fun _ _ _ => rfl
    have q3 : ∀ (w : World) (a : Addr) (v : Value), (w.setCell a v).output = w.output := fun _ _ _ => rfl
    have hbs := h.bel.size
    exact ⟨by simp only [put4, put2, q1]; exact hb.os.trans h.bel.os, by simp only [put4, put2, q2]; exact hb.tape.trans h.bel.tape, by simp only [put4, put2, q3]; exact hb.output.trans h.bel.output, by rw [hsz]; exact Nat.le_trans h.bel.size hb.size, fun j hj => (e5 j (by omega) (by omega) (by omega)).trans (h.bel.block j hj)⟩
/-- One step as a run. -/
theorem one_go {s : List UInt8} {pc : Int} {st ms : List Int} (h : (von s pc st ms).2.2.2.kind = 0) : vrun s 1 pc st ms = ⟨(von s pc st ms).1, (von s pc st ms).2.1, (von s pc st ms).2.2.1, actNo, 1⟩ := by
  rw [vrun_go h]
  rfl
theorem one_stop {s : List UInt8} {pc : Int} {st ms : List Int} (h : (von s pc st ms).2.2.2.kind ≠ 0) : vrun s 1 pc st ms = ⟨(von s pc st ms).1, (von s pc st ms).2.1, (von s pc st ms).2.2.1, (von s pc st ms).2.2.2, 0⟩ := vrun_stop h
theorem four_allocs (w : World) (A B C D : Obj) : Below w.heap.size w ((((w.alloc A).alloc B).alloc C).alloc D) ∧ ((((w.alloc A).alloc B).alloc C).alloc D).heap[w.heap.size]? = some A ∧ ((((w.alloc A).alloc B).alloc C).alloc D).heap[w.heap.size + 1]? = some B ∧
    ((((w.alloc A).alloc B).alloc C).alloc D).heap[w.heap.size + 1 + 1]? = some C ∧ ((((w.alloc A).alloc B).alloc C).alloc D).heap[w.heap.size + 1 + 1 + 1]? = some D := by
  refine ⟨(three_allocs w A B C).alloc (by simp; omega) _, ?_, ?_, ?_, ?_⟩
  · rw [Below.heap_alloc _ _ _ (by simp; omega), Below.heap_alloc _ _ _ (by simp; omega), Below.heap_alloc _ _ _ (by simp), heap_alloc_new]
  · rw [Below.heap_alloc _ _ _ (by first | (simp; done) | (simp; omega)), Below.heap_alloc _ _ _ (by first | (simp; done) | (simp; omega))]
    exact heap_alloc2_new _ _ _
  · rw [Below.heap_alloc _ _ _ (by simp)]
    simpa using heap_alloc_new ((w.alloc A).alloc B) C
  · simpa using heap_alloc_new (((w.alloc A).alloc B).alloc C) D

set_option maxHeartbeats 4000000 in
theorem pieces_yes (s : List UInt8) (hs : s.length ≤ 2000) (pc : Int) (hpc : 0 ≤ pc ∧ pc ≤ 1048576) (sv : Value) (st : List Int) (hl : st.length ≤ 32) (mv : Value) (ms : List Int) (hml : ms.length ≤ 500) (fuel : Int) (w : World)
    (hsv : URd w sv st.reverse) (hmv : URd w mv ms) (hst : Wds st) (hms : Wds ms) :
    Calls Try.prog 5 #[tx s, .agg #[.int .i64 pc, sv], .agg #[mv, .int .i64 fuel]] w fun e w' => e = .returned (.bool true) ∧ Below w.heap.size w w' := by
  have hsz : (ByteArray.mk s.toArray).size = s.length := by simp [ByteArray.size]
  have hf : Fine7 99990 pc st ms := ⟨by omega, by omega, hst, hms⟩
  obtain ⟨F, hF⟩ : ∃ F : Nat, max 0 (min fuel 100) = (F : Int) := ⟨(max 0 (min fuel 100)).toNat, by omega⟩
  have hF100 : F ≤ 100 := by omega
  have HFX : Hid _ := hF
  clear hF
  obtain ⟨a0, k0, c0, rfl, hk0⟩ : ∃ a k c, sv = .slice a k c ∧ k = st.length := by
    obtain ⟨a, c, e⟩ := hsv.form
    exact ⟨a, _, c, e, by simp⟩
  have hk32 : k0 ≤ 32 := by omega
  have hsmall : smallB pc k0 = true := by simp [smallB, hk32, hpc.1, hpc.2]
  clear hk0
  obtain ⟨ma, mn, mc, rfl, hmn⟩ : ∃ a k c, mv = .slice a k c ∧ k = ms.length := by
    obtain ⟨a, c, e⟩ := hmv.form
    exact ⟨a, _, c, e, rfl⟩
  have hmn500 : mn ≤ 500 := by omega
  clear hmn
  obtain ⟨W, hW⟩ : ∃ W, W = (w.alloc (.cells #[.int .i64 pc, .slice a0 k0 c0] 24)).alloc (.cells #[.slice ma mn mc, .int .i64 fuel] 51) := ⟨_, rfl⟩
  obtain ⟨xb, x1, x2, x3⟩ := laidAB hW
  have HB : Hid (Below w.heap.size w W) := xb
  have H1 : Hid (W.heap[w.heap.size]? = some (.cells #[.int .i64 pc, .slice a0 k0 c0] 24)) := x1
  have H2 : Hid (W.heap[w.heap.size + 1]? = some (.cells #[.slice ma mn mc, .int .i64 fuel] 51)) := x2
  have HSV : Hid (URd w (.slice a0 k0 c0) st.reverse) := hsv
  have HMV : Hid (URd w (.slice ma mn mc) ms) := hmv
  have HF : Hid (Fine7 99990 pc st ms) := hf
  have HSM : Hid _ := hsmall
  clear xb x1 x2 x3 hsv hmv hf hsmall hst hms
  obtain ⟨hpc1, hpc2⟩ := hpc
  set_option maxRecDepth 20000 in
  go_enter Try.func5, Try.ntmps5
  go_wp2_with fail
  rw [← hW]
  clear hW
  have y0 : W.cell? ⟨w.heap.size + 1, 0, none⟩ = some (.slice ma mn mc) := by rw [cell_of_heap H2.out]; rfl
  have y1 : W.cell? ⟨w.heap.size + 1, 1, none⟩ = some (.int .i64 fuel) := by rw [cell_of_heap H2.out]; rfl
  go_quiet (fail)
  obtain ⟨V, hV⟩ : ∃ V, V = W.drewN nq := ⟨_, rfl⟩
  rw [← hV]
  have HBV : Hid (Below W.heap.size W V) := by rw [hV]; exact below_drewN (Below.refl _ _) nq
  clear hV y0 y1
  have HV1 : Hid (V.heap[w.heap.size]? = some (.cells #[.int .i64 pc, .slice a0 k0 c0] 24)) := (HBV.out.block _ (lt_of_heap H1.out)).trans H1.out
  have x0 : V.cell? ⟨w.heap.size, 0, none⟩ = some (.int .i64 pc) := by rw [cell_of_heap HV1.out]; rfl
  have x1 : V.cell? ⟨w.heap.size, 1, none⟩ = some (.slice a0 k0 c0) := by rw [cell_of_heap HV1.out]; rfl
  go_wp2_with fail
  have hsa := small_at pc a0 k0 c0 (by omega) V
  rw [HSM.out] at hsa
  refine hsa.mono ?_
  clear hsa x0 x1
  rintro e w1 ⟨rfl, hb1⟩
  have HBw1 : Hid (Below w.heap.size w w1) := HB.out.trans ((HBV.out.trans (hb1.mono HBV.out.size)).mono HB.out.size)
  have HV2 : Hid (w1.heap[w.heap.size]? = some (.cells #[.int .i64 pc, .slice a0 k0 c0] 24)) := (hb1.block _ (lt_of_heap HV1.out)).trans HV1.out
  have x0 : w1.cell? ⟨w.heap.size, 0, none⟩ = some (.int .i64 pc) := by rw [cell_of_heap HV2.out]; rfl
  have x1 : w1.cell? ⟨w.heap.size, 1, none⟩ = some (.slice a0 k0 c0) := by rw [cell_of_heap HV2.out]; rfl
  clear hb1
  go_wp2_with fail
  rw [HFX.out]
  have hra := run_at s (by omega) pc (.slice a0 k0 c0) st (.slice ma mn mc) ms F w1 (URd.below HSV.out HBw1.out) (URd.below HMV.out HBw1.out) HF.out (by omega) (by omega)
  rw [Int.toNat_natCast] at hra
  obtain ⟨R, hR⟩ : ∃ R, vrun s F pc st ms = R := ⟨_, rfl⟩
  rw [hR] at hra
  have HR0 : Hid (R = (vrun s (F - 0) pc st ms).up 0) := by show _ = _; rw [← hR]; rfl
  clear hR
  refine hra.mono ?_
  clear hra x0 x1
  rintro e w2 ⟨⟨sva, mvb, rfl, hoa, hob⟩, hb2⟩
  obtain ⟨aa, ka, ca, rfl⟩ := own_slice hoa
  have HB2 : Hid (Below w1.heap.size w1 w2) := hb2
  have HBw2 : Hid (Below w.heap.size w w2) := HBw1.out.trans (hb2.mono HBw1.out.size)
  have HV3 : Hid (w2.heap[w.heap.size]? = some (.cells #[.int .i64 pc, .slice a0 k0 c0] 24)) := (hb2.block _ (lt_of_heap HV2.out)).trans HV2.out
  have x0 : w2.cell? ⟨w.heap.size, 0, none⟩ = some (.int .i64 pc) := by rw [cell_of_heap HV3.out]; rfl
  have x1 : w2.cell? ⟨w.heap.size, 1, none⟩ = some (.slice a0 k0 c0) := by rw [cell_of_heap HV3.out]; rfl
  have xl : w.heap.size < w2.heap.size := lt_of_heap HV3.out
  clear hb2
  dsimp only [actRow]
  go_wp2_with fail
  obtain ⟨W4, hW4⟩ : ∃ V, V = (((w2.alloc (.cells #[.int .i64 R.pc, .slice aa ka ca] 24)).alloc (.cells #[.int .i64 R.act.kind, .int .u64 R.act.addr, .int .u64 R.act.val, .int .i64 R.act.sys] 30)).alloc (.cells #[.int .i64 pc, .slice a0 k0 c0] 24)).alloc (.cells #[.int .i64 0, .int .u64 0, .int .u64 0, .int .i64 0] 30) := ⟨_, rfl⟩
  rw [← hW4]
  have HPK : Hid (PK w W4 w2.heap.size (w2.heap.size + 1 + 1) R (.slice aa ka ca) mvb pc (.slice a0 k0 c0) st (.slice ma mn mc) ms actNo) := by
    obtain ⟨q0, q1, q2, q3, q4⟩ := four_allocs w2 (.cells #[.int .i64 R.pc, .slice aa ka ca] 24) (.cells #[.int .i64 R.act.kind, .int .u64 R.act.addr, .int .u64 R.act.val, .int .i64 R.act.sys] 30) (.cells #[.int .i64 pc, .slice a0 k0 c0] 24) (.cells #[.int .i64 0, .int .u64 0, .int .u64 0, .int .i64 0] 30)
    rw [← hW4] at q0 q1 q2 q3 q4
    have hoa' : w2.ownsRow w1.heap.size 25 1 (.slice aa ka ca) R.st.reverse.length (uvs R.st.reverse) := by rw [List.length_reverse]; exact hoa
    have hbb : Below w.heap.size w W4 := HBw2.out.trans (q0.mono HBw2.out.size)
    exact ⟨q1, q2, q3, q4, ⟨(URd.of_own hoa').below q0, fun _ g hg => by have := (hoa.lt g hg).2; omega⟩, ⟨(URd.of_own hob).below q0, fun _ g hg => by have := (hob.lt g hg).2; omega⟩, URdF.of_old HSV.out hbb (by omega), URdF.of_old HMV.out hbb (by omega), by omega, by omega, hbb⟩
  clear hW4 x0 x1 xl hoa hob HV3 HV2 HV1 H1 H2 HB HBV HBw1 HB2 HBw2
  generalize w2.heap.size = b9 at *
  generalize b9 + 1 + 1 = b13 at *
  go_loopw [14, 15] (fun y k wr => ∃ (i : Nat) (pck : Int) (svk : Value) (stk msk : List Int) (zk : Act4) (mvk : Value), mvk = y ∧ k = .int .i64 i ∧ i ≤ F ∧ Hid (PK w wr b9 b13 R (.slice aa ka ca) mvb pck svk stk mvk msk zk) ∧ Hid (Fine7 99990 pck stk msk) ∧ Hid (msk.length = ms.length) ∧ Hid (R = (vrun s (F - i) pck stk msk).up i)) (fun _ k _ => F - (intOf k).toNat)
  case atStart => exact ⟨0, pc, _, st, ms, actNo, _, rfl, rfl, Nat.zero_le _, HPK, HF, rfl, HR0⟩
  case round =>
    clear HPK HR0
    obtain ⟨i, pck, svk, stk, msk, zk, mvk, rfl, rfl, hi, HP, HFk, HLk, HE⟩ := hrel
    obtain ⟨az, kz, cz, rfl⟩ : ∃ a k c, svk = .slice a k c := by obtain ⟨a, c, e⟩ := HP.out.uk.1.form; exact ⟨a, _, c, e⟩
    by_cases hlt : i < F
    · have x0 : wr.cell? ⟨b13, 0, none⟩ = some (.int .i64 pck) := by rw [cell_of_heap HP.out.h13]; rfl
      have x1 : wr.cell? ⟨b13, 1, none⟩ = some (.slice az kz cz) := by rw [cell_of_heap HP.out.h13]; rfl
      have hra := run_at s (by omega) pck (.slice az kz cz) stk mvk msk 1 wr HP.out.uk.1 HP.out.um.1 HFk.out (by have := HLk.out; omega) (by omega)
      have e1 : (1 : Int).toNat = 1 := rfl
      rw [e1] at hra
      have HN1 : Hid _ := @run_next s F i pck stk msk R hlt HE.out
      have HN2 : Hid _ := @run_stops s F i pck stk msk R hlt HE.out
      have HO1 : Hid _ := @one_go s pck stk msk
      have HO2 : Hid _ := @one_stop s pck stk msk
      have HF2 : Hid _ := von_fine s (by omega) (by omega) HFk.out
      generalize von s pck stk msk = r at *
      obtain ⟨pc2, st2, ms2, k2, ad2, vl2, sy2⟩ := r
      dsimp only at *
      by_cases hz : k2 = 0
      · rw [HO1.out hz] at hra
        have HE2 : Hid _ := HN1.out hz
        clear HN1 HN2 HO1 HO2 hz
        go_wp2_with fail
        refine hra.mono ?_
        clear hra x0 x1
        rintro e w3 ⟨⟨sv3, mv3, rfl, ho3, hm3⟩, hb3⟩
        obtain ⟨a3, k3, c3, rfl⟩ := own_slice ho3
        have HP3 : Hid _ := HP.out.next (pc' := pc2) (z' := actNo) hb3 ho3 hm3
        have HP3' : Hid (PK w (put4 (put2 w3 b13 (.int .i64 pc2) (.slice a3 k3 c3)) (b13 + 1) (.int .i64 0) (.int .u64 0) (.int .u64 0) (.int .i64 0)) b9 b13 R (.slice aa ka ca) mvb pc2 (.slice a3 k3 c3) st2 mv3 ms2 actNo) := HP3.out
        have r13 : w3.heap[b13]? = _ := (hb3.block _ (lt_of_heap HP.out.h13)).trans HP.out.h13
        have r16 : w3.heap[b13 + 1]? = _ := (hb3.block _ (lt_of_heap HP.out.h16)).trans HP.out.h16
        have s0 : w3.cell? ⟨b13, 0, none⟩ = some (.int .i64 pck) := by rw [cell_of_heap r13]; rfl
        have s1 : w3.cell? ⟨b13, 1, none⟩ = some (.slice az kz cz) := by rw [cell_of_heap r13]; rfl
        have f0 : w3.frozen? ⟨b13, 0, none⟩ = false := frozen_of_heap r13
        have f1 : w3.frozen? ⟨b13, 1, none⟩ = false := frozen_of_heap r13
        obtain ⟨⟨p0, p1, p2, p3⟩, q0, q1, q2, q3⟩ := cells4 r16
        clear hb3 ho3 hm3 r13 r16 HP3
        dsimp only [actRow, actNo]
        go_wp2
        go_roundw
        case rel => exact ⟨i + 1, pc2, _, st2, ms2, actNo, _, rfl, by go_num, by omega, HP3', HF2.out.1, HF2.out.2.trans HLk.out, HE2⟩
        case measure => simp [intOf]; omega
      · rw [HO2.out hz] at hra
        have HE2 : Hid _ := HN2.out hz
        clear HN1 HN2 HO1 HO2 hz
        go_wp2_with fail
        refine hra.mono ?_
        clear hra x0 x1
        rintro e w3 ⟨⟨sv3, mv3, rfl, ho3, hm3⟩, hb3⟩
        obtain ⟨a3, k3, c3, rfl⟩ := own_slice ho3
        have HP3 : Hid (PK w (put4 (put2 w3 b13 (.int .i64 pc2) (.slice a3 k3 c3)) (b13 + 1) (.int .i64 k2) (.int .u64 ad2) (.int .u64 vl2) (.int .i64 sy2)) b9 b13 R (.slice aa ka ca) mvb pc2 (.slice a3 k3 c3) st2 mv3 ms2 ⟨k2, ad2, vl2, sy2⟩) := HP.out.next (pc' := pc2) (z' := ⟨k2, ad2, vl2, sy2⟩) hb3 ho3 hm3
        have r13 : w3.heap[b13]? = _ := (hb3.block _ (lt_of_heap HP.out.h13)).trans HP.out.h13
        have r16 : w3.heap[b13 + 1]? = _ := (hb3.block _ (lt_of_heap HP.out.h16)).trans HP.out.h16
        have s0 : w3.cell? ⟨b13, 0, none⟩ = some (.int .i64 pck) := by rw [cell_of_heap r13]; rfl
        have s1 : w3.cell? ⟨b13, 1, none⟩ = some (.slice az kz cz) := by rw [cell_of_heap r13]; rfl
        have f0 : w3.frozen? ⟨b13, 0, none⟩ = false := frozen_of_heap r13
        have f1 : w3.frozen? ⟨b13, 1, none⟩ = false := frozen_of_heap r13
        obtain ⟨⟨p0, p1, p2, p3⟩, q0, q1, q2, q3⟩ := cells4 r16
        have HFz : Hid _ := HF2.out.1
        have HLz : Hid (ms2.length ≤ 500) := by have := HF2.out.2.trans HLk.out; show _ ≤ _; omega
        have m9 : w3.heap[b9]? = _ := (hb3.block _ (lt_of_heap HP.out.h9)).trans HP.out.h9
        have hltb := HP.out.lt
        have hn1 : b9 ≠ b13 := by omega
        have hn2 : b9 ≠ b13 + 1 := by omega
        have hn3 : b13 ≠ b9 := by omega
        have hn4 : b13 + 1 ≠ b9 := by omega
        obtain rfl : R = ⟨pc2, st2, ms2, ⟨k2, ad2, vl2, sy2⟩, i⟩ := HE2.out
        have x9 : w3.cell? ⟨b9, 0, none⟩ = some (.int .i64 pc2) := by rw [cell_of_heap m9]; rfl
        have x9b : w3.cell? ⟨b9, 1, none⟩ = some (.slice aa ka ca) := by rw [cell_of_heap m9]; rfl
        clear hb3 ho3 hm3 r13 r16 m9 HE2
        obtain ⟨wz, hwz⟩ : ∃ wz, wz = put4 (put2 w3 b13 (.int .i64 pc2) (.slice a3 k3 c3)) (b13 + 1) (.int .i64 k2) (.int .u64 ad2) (.int .u64 vl2) (.int .i64 sy2) := ⟨_, rfl⟩
        rw [← hwz] at HP3
        unfold put4 put2 at hwz
        dsimp only [actRow]
        go_wp2_with fail
        rw [← hwz]
        clear hwz s0 s1 f0 f1 p0 p1 p2 p3 q0 q1 q2 q3 x9 x9b
        refine (same_at (pc2) (st2).reverse (.slice aa ka ca) (.slice a3 k3 c3) wz HP3.out.ua.1 HP3.out.uk.1 (by have := HFz.out.len; simp; omega)).mono ?_
        rintro e wu ⟨rfl, hbu⟩
        go_wp2_with fail
        refine (words_same (ms2) mvb mv3 wu (URd.below HP3.out.ub.1 hbu) (URd.below HP3.out.um.1 hbu) (by have := HLz.out; omega)).mono ?_
        rintro e wv ⟨rfl, hbv⟩
        have HBv : Hid (Below w.heap.size w wv) := HP3.out.bel.trans ((hbu.trans (hbv.mono hbu.size)).mono HP3.out.bel.size)
        obtain ⟨⟨o0, o1, o2, o3⟩, _⟩ := cells4 ((((hbu.trans (hbv.mono hbu.size)).block _ (lt_of_heap HP3.out.h11))).trans HP3.out.h11)
        obtain ⟨⟨n0, n1, n2, n3⟩, _⟩ := cells4 ((((hbu.trans (hbv.mono hbu.size)).block _ (lt_of_heap HP3.out.h16))).trans HP3.out.h16)
        dsimp only at o0 o1 o2 o3 n0 n1 n2 n3
        have heq : ∀ w : World, (binOp BinOp.eql 30 (.agg #[.int .i64 k2, .int .u64 ad2, .int .u64 vl2, .int .i64 sy2]) (.agg #[.int .i64 k2, .int .u64 ad2, .int .u64 vl2, .int .i64 sy2])).run Try.prog w = .ok (.bool true) w := fun w => by go_simp
        have hne : ((i : Int) == (F : Int)) = false := beq_false_of_ne (by omega)
        have hbr : ((i : Int) == (i : Int)) = true := by simp
        clear hbu hbv
        go_wp2_with fail
        refine (awake_at _).mono ?_
        rintro e wx ⟨rfl, hbx⟩
        have HBx : Hid (Below w.heap.size w wx) := HBv.out.trans (hbx.mono HBv.out.size)
        go_wp2
        go_ret
        exact ⟨rfl, HBx.out⟩
    · obtain rfl : i = F := by omega
      have HE2 : Hid _ := run_ends HE.out
      obtain rfl : R = ⟨pck, stk, msk, actNo, i⟩ := HE2.out
      have x9 : wr.cell? ⟨b9, 0, none⟩ = some (.int .i64 pck) := by rw [cell_of_heap HP.out.h9]; rfl
      have x9b : wr.cell? ⟨b9, 1, none⟩ = some (.slice aa ka ca) := by rw [cell_of_heap HP.out.h9]; rfl
      have y9 : wr.cell? ⟨b13, 0, none⟩ = some (.int .i64 pck) := by rw [cell_of_heap HP.out.h13]; rfl
      have y9b : wr.cell? ⟨b13, 1, none⟩ = some (.slice az kz cz) := by rw [cell_of_heap HP.out.h13]; rfl
      have HFz : Hid _ := HFk.out
      have HLz : Hid (msk.length ≤ 500) := by have := HLk.out; show _ ≤ _; omega
      clear HE HE2
      go_wp2_with fail
      clear x9 x9b y9 y9b
      refine (same_at (pck) (stk).reverse (.slice aa ka ca) (.slice az kz cz) wr HP.out.ua.1 HP.out.uk.1 (by have := HFz.out.len; simp; omega)).mono ?_
      rintro e wu ⟨rfl, hbu⟩
      go_wp2_with fail
      refine (words_same (msk) mvb mvk wu (URd.below HP.out.ub.1 hbu) (URd.below HP.out.um.1 hbu) (by have := HLz.out; omega)).mono ?_
      rintro e wv ⟨rfl, hbv⟩
      have HBv : Hid (Below w.heap.size w wv) := HP.out.bel.trans ((hbu.trans (hbv.mono hbu.size)).mono HP.out.bel.size)
      have hbr : ((i : Int) == (i : Int)) = true := by simp
      clear hbu hbv
      go_wp2_with fail
      refine (awake_at _).mono ?_
      rintro e wx ⟨rfl, hbx⟩
      have HBx : Hid (Below w.heap.size w wx) := HBv.out.trans (hbx.mono HBv.out.size)
      go_wp2
      go_ret
      exact ⟨rfl, HBx.out⟩
end Go.Proofs.Ytedkijionpkmmaa
