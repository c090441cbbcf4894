/- The reference of layer 15: inodes, blocks, keep, Left, Used. -/
/- The reference of layer 15: Get. -/
/- Plain: a resize as the document has it: blocks are taken and cleared, or given back; what is no data any more is 0. -/
/- The reference of layer 15: need; what is kept while Resize goes on. -/
import Derived.Test.YtcaofdbcgdgbbaaGreatDoorReAB
import Derived.Test.YtcaofdbcgdgbbaaGreatDoorBitRef
import Derived.Test.YtcaofdbcgdgbbaaGreatDoorLwAll
import Derived.Test.YtcaofdbcgdgbbaaGreatDoorInoYZ
import Derived.Test.YtcaofdbcgdgbbaaGreatDoorApBC
namespace Go.Proofs.YtcaofdbcgdgbbaaGreatDoor
open Go.RowKit
set_option linter.unusedVariables false

section
variable {w w' : World} {bx gx cap n m : Nat} {vs : List Int} {F : FS}
/-- What has another type than the disk's blocks may change. -/
theorem Rk.typed (h : Rk w bx gx cap n vs m) (hk : ∀ (g : Nat) (cs : Array Value) (t : TypeId) (fz : Nat × Nat), w.heap[g]? = some (.cells cs t fz) → (t = 112 ∨ t = 113 ∨ t = 120) → w'.heap[g]? = w.heap[g]?) : Rk w' bx gx cap n vs m := by
  obtain ⟨gt, pt, h, h1, h2⟩ := h
  obtain ⟨cur, hh, ht⟩ := h.tab
  refine ⟨gt, pt, ⟨(hk _ _ _ _ h.head (Or.inl rfl)).trans h.head, ⟨cur, (hk _ _ _ _ hh (Or.inr (Or.inl rfl))).trans hh, fun i hi => ?_⟩, h.len, h.low⟩, h1, h2⟩
  obtain ⟨r, c, row, q1, q2, q3, q4⟩ := ht i hi
  exact ⟨r, c, row, q1, (hk _ _ _ _ q2 (Or.inr (Or.inr rfl))).trans q2, q3, q4⟩
theorem Rk.other {g : Nat} {cs : Array Value} {t : TypeId} {fz : Nat × Nat} (h : Rk w bx gx cap n vs m) (hu : Upd g w w') (hg : w.heap[g]? = some (.cells cs t fz)) (ht : ¬ (t = 112 ∨ t = 113 ∨ t = 120)) : Rk w' bx gx cap n vs m :=
  h.typed fun g' cs' t' fz' hg' ht' => hu.block g' (lt_of_heap hg') (fun e => by
    subst e
    rw [hg] at hg'
    injection hg' with q1
    injection q1 with _ q2
    rw [← q2] at ht'
    exact ht ht')
theorem Rk.bools {hh : Nat} {L : List Bool} (h : Rk w bx gx cap n vs m) (hu : Upd hh w w') (hb : Bi.BlAt w hh L) : Rk w' bx gx cap n vs m := h.other hu hb.row (by decide)
theorem Rk.lt (h : Rk w bx gx cap n vs m) : bx < w.heap.size ∧ gx < w.heap.size ∧ bx < gx := by
  obtain ⟨gt, pt, h, h1, h2⟩ := h
  exact ⟨lt_of_heap h.head, h.glt, h.low⟩
theorem words_one (g c l : Nat) (hl : l < 32) (hc : 32 ≤ c) (W : World) : (Instr.slice 113 (.slice (some ⟨g, 0, none⟩) 32 c) (some (.int .i64 (l : Int))) (some (.int .i64 ((l + 1 : Nat) : Int))) none).run Tryz.prog W = .ok (.slice (some ⟨g, l, none⟩) 1 (c - l)) W := by
  rw [run_slice_lh W _ _ _ _ words_arr .i64 .i64 l ((l + 1 : Nat) : Int) (by omega) (by omega) (by omega), words_e]
  show Result.ok (sliced _ _ _ _ _) W = _
  unfold sliced
  simp only [Int.toNat_natCast, Nat.mul_one]
  rw [if_neg (by omega)]
  simp [add0]
theorem Rw.nrd {g c l : Nat} {xs : List Int} {ws : List Nat} (h : Rw w g c xs) (hl : l + ws.length ≤ 32) (hw : ∀ j, j < ws.length → xs.getD (l + j) 0 = ((ws.getD j 0 : Nat) : Int)) : Bi.NRd w (.slice (some ⟨g, l, none⟩) ws.length (c - l)) ws := by
  refine ⟨_, _, rfl, by have := h.2.1; omega, fun j x hj => ⟨g, l, rfl, ?_⟩⟩
  have hjl := (List.getElem?_eq_some_iff.1 hj).1
  rw [h.cell (by omega), hw j hjl, List.getD_eq_getElem?_getD, hj]
  rfl
theorem RmMono {base base' c hh nn : Nat} {L : List Bool} {ws : List Nat} (k : Bi.RmAt w base c hh nn L ws) (h : base' ≤ base) : Bi.RmAt w base' c hh nn L ws := ⟨k.at_, k.len, k.same, k.wf, by have := k.lo; omega, by have := k.lo; omega⟩
set_option maxHeartbeats 1000000 in
theorem einodes_at (h : Rk w bx gx cap n vs m) (hm : m ≤ 940000000000) (hn : 13 ≤ n) (hH : Holds vs F) (hF : FInv F) :
    Calls Tryz.prog 38 #[ptr bx] w fun e w' => ∃ c, e = .returned (ptr c) ∧ (∃ hh L, Bi.RmAt w' w.heap.size c hh 32 L F.iw) ∧ Rk w' bx gx cap n vs (m + 1) ∧ Upd bx w w' := by
  have hA := eget_at h (by omega) 0 (by omega)
  rw [hH.head] at hA
  have HF : Hid (FInv F) := hF
  clear h hH hF
  go_enter Tryz.func38, Tryz.ntmps38
  go_wp2_with fail
  refine hA.mono ?_
  rintro e w1 ⟨g, c, rfl, ⟨hg, hrw, gt, pt, hru, hg1, hg2⟩, hu1⟩
  have hc32 : 32 ≤ c := hrw.2.1
  have hsl : ∀ W, (Instr.slice 113 (.slice (some ⟨g, 0, none⟩) 32 c) (some (.int .i64 2)) (some (.int .i64 3)) none).run Tryz.prog W = .ok (.slice (some ⟨g, 2, none⟩) 1 (c - 2)) W := fun W => words_one g c 2 (by omega) hc32 W
  have hl1 : F.iw.length = 1 := HF.out.iw.len
  have hO := Bi.rof_yes 32 (by omega) (by omega) F.iw _ w1 (hrw.nrd (l := 2) (ws := F.iw) (by omega) (fun j hj => by
    have : j = 0 := by omega
    subst this
    exact head_iw HF.out)) HF.out.iw
  rw [hl1] at hO
  obtain ⟨c1, hc1⟩ : ∃ k, k = c - 2 := ⟨_, rfl⟩
  rw [← hc1] at hsl hO
  have HR1 : Hid (Rk w1 bx gx cap n vs (m + 1)) := ⟨gt, pt, hru.ref, hg1, hg2⟩
  have HU1 : Hid (Upd bx w w1) := hu1
  clear hA hg hrw hru hg1 hg2 hu1 hc1 hl1
  go_wp2_with fail
  refine hO.mono ?_
  rintro e w2 ⟨c2, rfl, ⟨hh, L, hrm⟩, hb2⟩
  have HE : Hid ((∃ hh L, Bi.RmAt w2 w.heap.size c2 hh 32 L F.iw) ∧ Rk w2 bx gx cap n vs (m + 1) ∧ Upd bx w w2) := ⟨⟨hh, L, RmMono hrm HU1.out.size⟩, HR1.out.below hb2, HU1.out.trans (Upd.of_below hb2)⟩
  clear hO hrm hb2 hsl
  go_wp2
  go_ret
  exact ⟨c2, rfl, HE.out.1, HE.out.2.1, HE.out.2.2⟩
set_option maxHeartbeats 1000000 in
theorem eblocks_at (h : Rk w bx gx cap n vs m) (hm : m ≤ 940000000000) (hn : 13 ≤ n) (hH : Holds vs F) (hF : FInv F) (h64 : F.n ≤ 64) :
    Calls Tryz.prog 90 #[ptr bx] w fun e w' => ∃ c, e = .returned (ptr c) ∧ (∃ hh L, Bi.RmAt w' w.heap.size c hh F.n L F.bw) ∧ Rk w' bx gx cap n vs (m + 1) ∧ Upd bx w w' := by
  have hA := eget_at h (by omega) 0 (by omega)
  rw [hH.head] at hA
  have HF : Hid (FInv F) := hF
  have h13 : 13 ≤ F.n := hF.n1
  clear h hH hF
  go_enter Tryz.func90, Tryz.ntmps90
  go_wp2_with fail
  refine hA.mono ?_
  rintro e w1 ⟨g, c, rfl, ⟨hg, hrw, gt, pt, hru, hg1, hg2⟩, hu1⟩
  have hc32 : 32 ≤ c := hrw.2.1
  have hsl : ∀ W, (Instr.slice 113 (.slice (some ⟨g, 0, none⟩) 32 c) (some (.int .i64 3)) (some (.int .i64 4)) none).run Tryz.prog W = .ok (.slice (some ⟨g, 3, none⟩) 1 (c - 3)) W := fun W => words_one g c 3 (by omega) hc32 W
  have hl1 : F.bw.length = 1 := by rw [HF.out.bw.len]; omega
  have hO := Bi.rof_yes F.n (by omega) (by omega) F.bw _ w1 (hrw.nrd (l := 3) (ws := F.bw) (by omega) (fun j hj => head_bw HF.out hj)) HF.out.bw
  rw [hl1] at hO
  have c1' := hrw.cell (j := 1) (by omega)
  rw [head_n] at c1'
  obtain ⟨N, hN⟩ : ∃ N, N = F.n := ⟨_, rfl⟩
  rw [← hN] at c1' hO h64 h13
  have hw1 : IntKind.i64.wrap ((N : Nat) : Int) = (N : Int) := Bi.wrap_small N (by omega)
  have hd : ((N : Int) + 63).tdiv 64 = 1 := by rw [Int.tdiv_eq_ediv_of_nonneg (by omega)]; omega
  obtain ⟨c1, hc1⟩ : ∃ k, k = c - 3 := ⟨_, rfl⟩
  rw [← hc1] at hsl hO
  have HR1 : Hid (Rk w1 bx gx cap n vs (m + 1)) := ⟨gt, pt, hru.ref, hg1, hg2⟩
  have HU1 : Hid (Upd bx w w1) := hu1
  have HN : Hid _ := hN
  clear hA hg hrw hru hg1 hg2 hu1 hc1 hl1 hN
  go_wp2_with fail
  refine hO.mono ?_
  rintro e w2 ⟨c2, rfl, ⟨hh, L, hrm⟩, hb2⟩
  have HE : Hid ((∃ hh L, Bi.RmAt w2 w.heap.size c2 hh F.n L F.bw) ∧ Rk w2 bx gx cap n vs (m + 1) ∧ Upd bx w w2) := ⟨⟨hh, L, by rw [← HN.out]; exact RmMono hrm HU1.out.size⟩, HR1.out.below hb2, HU1.out.trans (Upd.of_below hb2)⟩
  clear hO hrm hb2 hsl c1'
  go_wp2
  go_ret
  exact ⟨c2, rfl, HE.out.1, HE.out.2.1, HE.out.2.2⟩
theorem eused_at (h : Rk w bx gx cap n vs m) (hm : m ≤ 940000000000) (hn : 13 ≤ n) (hH : Holds vs F) (hF : FInv F) (i : Nat) (hi : i < 32) :
    Calls Tryz.prog 13 #[ptr bx, .int .i64 (i : Int)] w fun e w' => e = .returned (.bool (Bi.bt F.iw i)) ∧ Rk w' bx gx cap n vs (m + 1) ∧ Upd bx w w' := by
  have hA := einodes_at h hm hn hH hF
  clear h hH hF
  go_enter Tryz.func13, Tryz.ntmps13
  go_wp2_with fail
  refine hA.mono ?_
  rintro e w1 ⟨c, rfl, ⟨hh, L, hrm⟩, hr1, hu1⟩
  have hU := Bi.rm_used hrm i hi
  have HE : Hid (Rk w1 bx gx cap n vs (m + 1) ∧ Upd bx w w1) := ⟨hr1, hu1⟩
  clear hA hrm hr1 hu1
  go_wp2_with fail
  refine hU.mono ?_
  rintro e w2 ⟨rfl, hw⟩
  rw [hw]
  clear hw w2 hU
  go_wp2
  go_ret
  exact ⟨rfl, HE.out.1, HE.out.2⟩
set_option maxHeartbeats 1000000 in
theorem ekeep_at {base c hh nn : Nat} {L : List Bool} {x : Nat} (h : Rk w bx gx cap n vs m) (hm : m ≤ 940000000000) (hn : 13 ≤ n) (a : Nat) (ha : a < 32) (k : Bi.RmAt w base c hh nn L [x]) (hb : bx < base) :
    Calls Tryz.prog 46 #[ptr bx, .int .i64 (a : Int), ptr c] w fun e w' => e = .returned (.tuple #[]) ∧ Rk w' bx gx cap n (splice vs 0 ((frameOf vs 0).set a (x : Int))) (m + 2) ∧ UpdP (fun k => k = bx ∨ k = gx) w w' := by
  have hA := eget_at h (by omega) 0 (by omega)
  have HK : Hid (Bi.RmAt w base c hh nn L [x]) := k
  clear h k
  go_enter Tryz.func46, Tryz.ntmps46
  go_wp2_with fail
  refine hA.mono ?_
  rintro e w1 ⟨g, cc, rfl, ⟨hg, hrw, gt, pt, hru, hg1, hg2⟩, hu1⟩
  have hW := Bi.rm_words (HK.out.keep (P := fun _ => False) (w' := w1) (fun g hg hl => hu1.block g hl (by omega)))
  have HU1 : Hid (Upd bx w w1) := hu1
  have HRu : Hid (RefU w.heap.size w1 bx gx cap n vs gt pt) := hru
  have HG : Hid (w.heap.size ≤ g ∧ gt ≤ m + 1 ∧ pt ≤ m + 1) := ⟨hg, hg1, hg2⟩
  have HRw : Hid (Rw w1 g cc (frameOf vs 0)) := hrw
  clear hA hg hrw hru hg1 hg2 hu1
  go_wp2_with fail
  refine hW.mono ?_
  rintro e w2 ⟨v, rfl, hn2, hb2⟩
  obtain ⟨gw, ow, cw, rfl, hcw⟩ := hn2.has (by simp)
  have hc0 : w2.cell? ⟨gw, ow, none⟩ = some (.int .u64 ((x : Nat) : Int)) := hcw 0 x rfl
  have hrw := HRw.out.below hb2
  have c1 := hrw.cell (j := a) ha
  have f1 := hrw.free (j := a)
  have HR2 : Hid (Rw w2 g cc (frameOf vs 0)) := hrw
  have HB2 : Hid (Below w1.heap.size w1 w2) := hb2
  generalize (frameOf vs 0).getD a 0 = y at *
  simp only [List.length_cons, List.length_nil, Nat.zero_add]
  clear hW hn2 hcw hrw hb2
  go_wp2_with fail
  go_loopw [8] (fun z wr => (z = .int .i64 0 ∧ wr = w2) ∨ (z = .int .i64 1 ∧ wr = w2.setCell ⟨g, a, none⟩ (.int .u64 ((x : Nat) : Int)))) (fun z _ => 1 - (intOf z).toNat)
  case atStart => exact Or.inl ⟨rfl, rfl⟩
  case round =>
    rcases hrel with ⟨rfl, rfl⟩ | ⟨rfl, hw⟩
    · go_wp2
      go_roundw
      case rel => simp
      case measure => simp [intOf]
    · have hu := Upd.setCell g a w2 (.int .u64 ((x : Nat) : Int))
      have hr3 := HR2.out.set (j := a) (x := ((x : Nat) : Int))
      have hbz := HB2.out.size
      have hz := HU1.out.size
      have hru3 := ((HRu.out.below (HB2.out.mono hz)).upd hu HG.out.1 (by omega)).ref
      rw [← hw] at hu hr3 hru3
      have hP := eput_at (m := m + 1) ⟨gt, pt, hru3, HG.out.2.1, HG.out.2.2⟩ (by omega) 0 (by omega) hr3
      rw [Nat.zero_mul] at hP
      have HUa : Hid (UpdP (fun k => k = bx ∨ k = gx) w wr) := ⟨hu.os.trans (HB2.out.os.trans HU1.out.os), hu.tape.trans (HB2.out.tape.trans HU1.out.tape), hu.output.trans (HB2.out.output.trans HU1.out.output), by have := hu.size; omega, fun k hk hne => by
        rw [hu.block k (by omega) (by have := HG.out.1; omega), HB2.out.block k (by omega), HU1.out.block k hk (fun e => hne (Or.inl e))]⟩
      clear hw hu hr3 hru3 hbz hz c1 f1 hc0
      go_wp2_with fail
      refine hP.mono ?_
      rintro e w3 ⟨rfl, hr3, hu3⟩
      have HE : Hid (Rk w3 bx gx cap n (splice vs 0 ((frameOf vs 0).set a (x : Int))) (m + 2) ∧ UpdP (fun k => k = bx ∨ k = gx) w w3) := ⟨hr3, HUa.out.trans hu3⟩
      clear hP hr3 hu3
      go_wp2
      go_end0
      exact ⟨rfl, HE.out.1, HE.out.2⟩
end
end Go.Proofs.YtcaofdbcgdgbbaaGreatDoor

namespace Go.Proofs.YtcaofdbcgdgbbaaGreatDoor
open Go.RowKit
set_option linter.all false

section
variable {w w' : World} {bx gx cap n m : Nat} {vs : List Int} {F : FS}
set_option maxHeartbeats 2000000 in
set_option maxRecDepth 100000 in
theorem eGet_at (h : Rk w bx gx cap n vs m) (hm : m ≤ 940000000000) (hn : 13 ≤ n) (i : Nat) (hi : i < 32) (hf : ∀ x ∈ rowW vs i, Fit x) :
    Calls Tryz.prog 87 #[ptr bx, .int .i64 (i : Int)] w fun e w' => e = .returned (.tuple #[.agg (irow (rowW vs i)), .int .i64 0]) ∧ Rk w' bx gx cap n vs (m + 1) ∧ Upd bx w w' := by
  have hl := rowW_len (i := i) h.len (by omega)
  have HBl : Hid (bx < w.heap.size) := h.lt.1
  obtain ⟨W0, hW0⟩ : ∃ W, W = w.alloc (.cells zi 88) := ⟨_, rfl⟩
  have hb0 : Below w.heap.size w W0 := by rw [hW0]; exact below_alloc _ _
  have hr0 : W0.heap[w.heap.size]? = some (.cells zi 88) := by rw [hW0]; exact heap_alloc_new _ _
  have hA := eget_at (h.below hb0) (by omega) (1 + i / 3) (by omega)
  have hli := lit_zi
  have HB0 : Hid (Below w.heap.size w W0) := hb0
  have HR0 : Hid _ := hr0
  have HW0 : Hid _ := hW0
  have HL : Hid ((rowW vs i).length = 9) := hl
  have HF : Hid (∀ j, j < 9 → Fit ((rowW vs i).getD j 0)) := fun j hj => hf _ (by
    rw [List.getD_eq_getElem?_getD, List.getElem?_eq_getElem (by omega)]
    exact List.getElem_mem _)
  obtain ⟨r, hr⟩ : ∃ r, r = i % 3 := ⟨_, rfl⟩
  obtain ⟨d, hd⟩ : ∃ d, d = i / 3 := ⟨_, rfl⟩
  have Hrd : Hid (r = i % 3 ∧ d = i / 3) := ⟨hr, hd⟩
  have ht : (i : Int).tmod 3 = (r : Int) := by rw [Int.tmod_eq_emod_of_nonneg (by omega)]; omega
  have hq : (i : Int).tdiv 3 = (d : Int) := by rw [Int.tdiv_eq_ediv_of_nonneg (by omega)]; omega
  have hr3 : r < 3 := by omega
  have hd11 : d < 11 := by omega
  have hw1 : IntKind.i64.wrap ((d : Nat) : Int) = (d : Int) := Bi.wrap_small d (by omega)
  have hw2 : IntKind.i64.wrap ((r : Nat) : Int) = (r : Int) := Bi.wrap_small r (by omega)
  rw [← hd, show ((1 + d : Nat) : Int) = 1 + (d : Int) by omega] at hA
  have hi0 : ¬ (i : Int) < 0 := by omega
  have hi1 : ¬ (32 : Int) ≤ (i : Int) := by omega
  clear h hf hb0 hr0 hW0 hl hr hd
  go_enter Tryz.func87, Tryz.ntmps87
  go_wp2_with fail
  rw [← HW0.out]
  refine hA.mono ?_
  rintro e w1 ⟨q, cq, rfl, ⟨hg, hrw, gt, pt, hru, hg1, hg2⟩, hu1⟩
  have hc32 : 32 ≤ cq := hrw.2.1
  have hsl : ∀ W, (Instr.slice 113 (.slice (some ⟨q, 0, none⟩) 32 cq) (some (.int .i64 ((r : Int) * 9))) none none).run Tryz.prog W = .ok (.slice (some ⟨q, r * 9, none⟩) (32 - r * 9) (cq - r * 9)) W := fun W => by
    have := words_l q cq (r * 9) (by omega) hc32 W
    rw [Int.natCast_mul] at this
    exact this
  obtain ⟨o, ho⟩ : ∃ o, o = r * 9 := ⟨_, rfl⟩
  obtain ⟨c, hc⟩ : ∃ c, c = 32 - o := ⟨_, rfl⟩
  obtain ⟨c', hc'⟩ : ∃ c, c = cq - o := ⟨_, rfl⟩
  rw [← ho, ← hc, ← hc'] at hsl
  have hc9 : 9 ≤ c := by omega
  have hz0 : 0 < c := by omega
  have hz1 : (1 : Int) < (c : Int) := by omega
  have hz2 : (2 : Int) < (c : Int) := by omega
  have HK : Hid (Rk w1 bx gx cap n vs (m + 1)) := ⟨gt, pt, hru.ref, hg1, hg2⟩
  have HT1 : Hid (Upd bx w w1) := (Upd.of_below HB0.out).trans hu1
  have hr1 : w1.heap[w.heap.size]? = some (.cells zi 88) := (hu1.block _ (lt_of_heap HR0.out) (by have := HBl.out; omega)).trans HR0.out
  have HR1 : Hid _ := hr1
  have HC : Hid (∀ j, j < 9 → w1.cell? ⟨q, o + j, none⟩ = some (.int .u64 ((rowW vs i).getD j 0))) := fun j hj => by
    rw [rowW_get vs i j hj, ho, ← Hrd.out.1, ← Hrd.out.2]
    exact hrw.cell (by omega)
  obtain ⟨xs, hxs⟩ : ∃ xs, xs = rowW vs i := ⟨_, rfl⟩
  rw [← hxs] at HC HF HL
  have HXs : Hid (xs = rowW vs i) := hxs
  have c0 : w1.cell? ⟨q, o, none⟩ = some (.int .u64 (xs.getD 0 0)) := HC.out 0 (by omega)
  have c1 := HC.out 1 (by omega)
  have c2 := HC.out 2 (by omega)
  have f0 := (HF.out 0 (by omega)).si
  have f1 := (HF.out 1 (by omega)).si
  have f2 := (HF.out 2 (by omega)).si
  have hql := cell_lt c0
  dsimp only at hql
  clear hA hg hrw hru hg1 hg2 hu1 hr1 ho hc hc' hxs
  obtain ⟨x0, hx0⟩ : ∃ x, x = xs.getD 0 0 := ⟨_, rfl⟩
  obtain ⟨x1, hx1⟩ : ∃ x, x = xs.getD 1 0 := ⟨_, rfl⟩
  obtain ⟨x2, hx2⟩ : ∃ x, x = xs.getD 2 0 := ⟨_, rfl⟩
  rw [← hx0] at c0 f0
  rw [← hx1] at c1 f1
  rw [← hx2] at c2 f2
  have HX : Hid (upTo xs 0 = [x0, x1, x2, 0, 0, 0, 0, 0, 0]) := by rw [upTo_none HL.out, hx0, hx1, hx2]; rfl
  clear hx0 hx1 hx2
  have hs : w1.cell? ⟨q, o, none⟩ = some (.int .u64 x0) ∧ w1.cell? ⟨q, o + 1, none⟩ = some (.int .u64 x1) ∧ w1.cell? ⟨q, o + 2, none⟩ = some (.int .u64 x2) := ⟨c0, c1, c2⟩
  clear c0 c1 c2
  clear hli
  go_wp2_with fail
  refine wp_region_held_drew (S := fun w' => w'.cell? ⟨q, o, none⟩ = some (.int .u64 x0) ∧ w'.cell? ⟨q, o + 1, none⟩ = some (.int .u64 x1) ∧ w'.cell? ⟨q, o + 2, none⟩ = some (.int .u64 x2)) (by kernel_rfl) hs (fun hHeld => ?_)
  refine wpAnyH_take (i := 0) (v := ?_) rfl (by kernel_rfl) (by kernel_rfl) (by kernel_rfl) (fun _ _ _ h => h) (Or.inl ⟨by kernel_rfl, ?_⟩) (by assumption) ?_
  rotate_left
  · (intro w hSw; (try dsimp only at hSw); go_simp) <;> with_reducible rfl
  (try simp only [Act.put, List.getElem_toArray, List.getElem_cons_zero, List.setIfInBounds_toArray, List.set_cons_zero, List.set_cons_succ])
  refine wpAnyH_take (i := 1) (v := ?_) rfl (by kernel_rfl) (by kernel_rfl) (by kernel_rfl) (fun _ _ _ h => h) (Or.inl ⟨by kernel_rfl, ?_⟩) (by assumption) ?_
  rotate_left
  · (intro w hSw; (try dsimp only at hSw); go_simp) <;> with_reducible rfl
  (try simp only [Act.put, List.getElem_toArray, List.getElem_cons_zero, List.getElem_cons_succ, List.setIfInBounds_toArray, List.set_cons_zero, List.set_cons_succ])
  refine wpAnyH_take (i := 2) (v := ?_) rfl (by kernel_rfl) (by kernel_rfl) (by kernel_rfl) (fun _ _ _ h => h) (Or.inl ⟨by kernel_rfl, ?_⟩) (by assumption) ?_
  rotate_left
  · (intro w hSw; (try dsimp only at hSw); go_simp) <;> with_reducible rfl
  (try simp only [Act.put, List.getElem_toArray, List.getElem_cons_zero, List.getElem_cons_succ, List.setIfInBounds_toArray, List.set_cons_zero, List.set_cons_succ])
  refine wpAnyH_take (i := 3) (v := ?_) rfl (by kernel_rfl) (by kernel_rfl) (by kernel_rfl) (fun _ _ _ h => h) (Or.inl ⟨by kernel_rfl, ?_⟩) (by assumption) ?_
  rotate_left
  · (intro w hSw; (try dsimp only at hSw); go_simp) <;> with_reducible rfl
  (try simp only [Act.put, List.getElem_toArray, List.getElem_cons_zero, List.getElem_cons_succ, List.setIfInBounds_toArray, List.set_cons_zero, List.set_cons_succ])
  refine wpAnyH_take (i := 4) (v := ?_) rfl (by kernel_rfl) (by kernel_rfl) (by kernel_rfl) (fun _ _ _ h => h) (Or.inl ⟨by kernel_rfl, ?_⟩) (by assumption) ?_
  rotate_left
  · (intro w hSw; (try dsimp only at hSw); go_simp) <;> with_reducible rfl
  (try simp only [Act.put, List.getElem_toArray, List.getElem_cons_zero, List.getElem_cons_succ, List.setIfInBounds_toArray, List.set_cons_zero, List.set_cons_succ])
  refine wpAnyH_take (i := 5) (v := ?_) rfl (by kernel_rfl) (by kernel_rfl) (by kernel_rfl) (fun _ _ _ h => h) (Or.inl ⟨by kernel_rfl, ?_⟩) (by assumption) ?_
  rotate_left
  · (intro w hSw; (try dsimp only at hSw); go_simp) <;> with_reducible rfl
  (try simp only [Act.put, List.getElem_toArray, List.getElem_cons_zero, List.getElem_cons_succ, List.setIfInBounds_toArray, List.set_cons_zero, List.set_cons_succ])
  refine wpAnyH_take (i := 6) (v := ?_) rfl (by kernel_rfl) (by kernel_rfl) (by kernel_rfl) (fun _ _ _ h => h) (Or.inl ⟨by kernel_rfl, ?_⟩) (by assumption) ?_
  rotate_left
  · (intro w hSw; (try dsimp only at hSw); go_simp) <;> with_reducible rfl
  (try simp only [Act.put, List.getElem_toArray, List.getElem_cons_zero, List.getElem_cons_succ, List.setIfInBounds_toArray, List.set_cons_zero, List.set_cons_succ])
  refine wpAnyH_take (i := 7) (v := ?_) rfl (by kernel_rfl) (by kernel_rfl) (by kernel_rfl) (fun _ _ _ h => h) (Or.inl ⟨by kernel_rfl, ?_⟩) (by assumption) ?_
  rotate_left
  · (intro w hSw; (try dsimp only at hSw); go_simp) <;> with_reducible rfl
  (try simp only [Act.put, List.getElem_toArray, List.getElem_cons_zero, List.getElem_cons_succ, List.setIfInBounds_toArray, List.set_cons_zero, List.set_cons_succ])
  refine wpAnyH_take (i := 8) (v := ?_) rfl (by kernel_rfl) (by kernel_rfl) (by kernel_rfl) (fun _ _ _ h => h) (Or.inl ⟨by kernel_rfl, ?_⟩) (by assumption) ?_
  rotate_left
  · (intro w hSw; (try dsimp only at hSw); go_simp) <;> with_reducible rfl
  (try simp only [Act.put, List.getElem_toArray, List.getElem_cons_zero, List.getElem_cons_succ, List.setIfInBounds_toArray, List.set_cons_zero, List.set_cons_succ])
  refine wpAnyH_take (i := 9) (v := ?_) rfl (by kernel_rfl) (by kernel_rfl) (by kernel_rfl) (fun _ _ _ h => h) (Or.inl ⟨by kernel_rfl, ?_⟩) (by assumption) ?_
  rotate_left
  · (intro w hSw; (try dsimp only at hSw); go_simp) <;> with_reducible rfl
  (try simp only [Act.put, List.getElem_toArray, List.getElem_cons_zero, List.getElem_cons_succ, List.setIfInBounds_toArray, List.set_cons_zero, List.set_cons_succ])
  refine wpAnyH_take (i := 10) (v := ?_) rfl (by kernel_rfl) (by kernel_rfl) (by kernel_rfl) (fun _ _ _ h => h) (Or.inl ⟨by kernel_rfl, ?_⟩) (by assumption) ?_
  rotate_left
  · (intro w hSw; (try dsimp only at hSw); go_simp) <;> with_reducible rfl
  (try simp only [Act.put, List.getElem_toArray, List.getElem_cons_zero, List.getElem_cons_succ, List.setIfInBounds_toArray, List.set_cons_zero, List.set_cons_succ])
  refine wpAnyH_take (i := 11) (v := ?_) rfl (by kernel_rfl) (by kernel_rfl) (by kernel_rfl) (fun _ _ _ h => h) (Or.inl ⟨by kernel_rfl, ?_⟩) (by assumption) ?_
  rotate_left
  · (intro w hSw; (try dsimp only at hSw); go_simp) <;> with_reducible rfl
  (try simp only [Act.put, List.getElem_toArray, List.getElem_cons_zero, List.getElem_cons_succ, List.setIfInBounds_toArray, List.set_cons_zero, List.set_cons_succ])
  refine wpAnyH_take (i := 12) (v := ?_) rfl (by kernel_rfl) (by kernel_rfl) (by kernel_rfl) (fun _ _ _ h => h) (Or.inl ⟨by kernel_rfl, ?_⟩) (by assumption) ?_
  rotate_left
  · (intro w hSw; (try dsimp only at hSw); go_simp) <;> with_reducible rfl
  (try simp only [Act.put, List.getElem_toArray, List.getElem_cons_zero, List.getElem_cons_succ, List.setIfInBounds_toArray, List.set_cons_zero, List.set_cons_succ])
  refine wpAnyH_ready (rs := [13]) (by kernel_rfl) (by simp) ?_
  refine AllReadyH.cons rfl (fun K hK => ?_) AllReadyH.nil
  go_simp
  have hs2 : ∀ ob, (w1.alloc ob).drew.cell? ⟨q, o, none⟩ = some (.int .u64 x0) ∧ (w1.alloc ob).drew.cell? ⟨q, o + 1, none⟩ = some (.int .u64 x1) ∧ (w1.alloc ob).drew.cell? ⟨q, o + 2, none⟩ = some (.int .u64 x2) := fun ob => by
    have hb := below_alloc w1 ob
    exact ⟨(hb.cell hql).trans hs.1, (hb.cell hql).trans hs.2.1, (hb.cell hql).trans hs.2.2⟩
  refine hK.out _ _ (hs2 _) (fun hHeld => ?_)
  clear hK K
  (try simp only [Act.put, List.getElem_toArray, List.getElem_cons_zero, List.getElem_cons_succ, List.setIfInBounds_toArray, List.set_cons_zero, List.set_cons_succ])
  refine wpAnyH_ready (rs := [14]) (by kernel_rfl) (by simp) ?_
  refine AllReadyH.cons rfl (fun K hK => ?_) AllReadyH.nil
  have hwd : ∀ Z R : Array Value, (w1.alloc (.cells Z 88)).drew.setRow w1.heap.size R = (w1.alloc (.cells R 88)).drew := fun Z R => congrArg World.drew (setRow_alloc_new w1 Z R _)
  refine step_store_row rfl 88 _ _ rfl w1.heap.size #[.int .i64 x0, .int .i64 x1, .int .i64 x2, .int .i64 0, .int .i64 0, .int .i64 0, .int .i64 0, .int .i64 0, .int .i64 0] rfl rfl 88 _ (heap_alloc_new w1 _) (by kernel_rfl) rfl (irow_one [x0, x1, x2, 0, 0, 0, 0, 0, 0]) ?_
  rw [hwd]
  clear hwd
  obtain ⟨W3, hW3⟩ : ∃ W, W = (w1.alloc (.cells #[.int .i64 x0, .int .i64 x1, .int .i64 x2, .int .i64 0, .int .i64 0, .int .i64 0, .int .i64 0, .int .i64 0, .int .i64 0] 88)).drew := ⟨_, rfl⟩
  have h3 := hs2 (.cells #[.int .i64 x0, .int .i64 x1, .int .i64 x2, .int .i64 0, .int .i64 0, .int .i64 0, .int .i64 0, .int .i64 0, .int .i64 0] 88)
  rw [← hW3] at h3 ⊢
  have HB3 : Hid (Below w1.heap.size w1 W3) := by rw [hW3]; have := below_alloc w1 (.cells #[.int .i64 x0, .int .i64 x1, .int .i64 x2, .int .i64 0, .int .i64 0, .int .i64 0, .int .i64 0, .int .i64 0, .int .i64 0] 88); exact ⟨this.os, this.tape, this.output, this.size, this.block⟩
  obtain ⟨p, hp⟩ : ∃ p, p = w1.heap.size := ⟨_, rfl⟩
  have HP : Hid (p = w1.heap.size) := hp
  have HP3 : Hid (W3.heap[p]? = some (.cells (irow (upTo xs 0)) 88)) := by rw [HX.out, hp, hW3]; exact heap_alloc_new w1 _
  refine hK.out _ _ h3 (fun hHeld => ?_)
  clear hK K
  (try simp only [Act.put, List.getElem_toArray, List.getElem_cons_zero, List.getElem_cons_succ, List.setIfInBounds_toArray, List.set_cons_zero, List.set_cons_succ])
  refine wpAnyH_done (by kernel_rfl) ?_ _
  have hpd : w1.heap.size = p := hp.symm
  rw [hpd]
  obtain ⟨r0, hr0⟩ : ∃ r, r = w.heap.size := ⟨_, rfl⟩
  have Hr0 : Hid (r0 = w.heap.size) := hr0
  have HR3 : Hid (W3.heap[r0]? = some (.cells zi 88)) := by rw [hr0]; exact (HB3.out.block _ (lt_of_heap HR1.out)).trans HR1.out
  have HRP : Hid (r0 ≠ p) := by have := lt_of_heap HR1.out; show _ ≠ _; omega
  rw [← hr0]
  clear hr0 hpd hp hW3 hs hs2 h3 f0 f1 f2 HX
  go_wp2
  go_loopw [8] (fun s wr => ∃ (k : Nat), k ≤ 6 ∧ s = .int .i64 k ∧ wr.heap[p]? = some (.cells (irow (upTo xs k)) 88) ∧ Upd p W3 wr) (fun s _ => 6 - (intOf s).toNat)
  case atStart => exact ⟨0, by omega, rfl, HP3.out, Upd.refl _ _⟩
  case round =>
    obtain ⟨k, hk, rfl, hrow, hu⟩ := hrel
    have HU : Hid (Upd p W3 wr) := hu
    by_cases hlt : k < 6
    · have hki : decide ((k : Int) < 6) = true := by simp; omega
      have hk6 : (k : Int) < 6 := by omega
      have hqp : q ≠ p := by have := HP.out; omega
      have hcq : wr.cell? ⟨q, o + (3 + k), none⟩ = some (.int .u64 (xs.getD (3 + k) 0)) := by
        rw [World.cell?_of_block (w := w1) (a := ⟨q, o + (3 + k), none⟩) ((hu.block q (by have := HB3.out.size; omega) hqp).trans (HB3.out.block q hql))]
        exact HC.out (3 + k) (by omega)
      have hf := (HF.out (3 + k) (by omega)).si
      have hcp : wr.cell? ⟨p, 3 + k, none⟩ = some (.int .i64 ((upTo xs k).getD (3 + k) 0)) := by
        rw [cell_of_heap hrow]
        exact irow_get _ _ (by rw [upTo_len HL.out (by omega)]; omega)
      have hfz : wr.frozen? ⟨p, 3 + k, none⟩ = false := frozen_of_heap hrow
      have HN : Hid ((wr.setCell ⟨p, 3 + k, none⟩ (.int .i64 (xs.getD (3 + k) 0))).heap[p]? = some (.cells (irow (upTo xs (k + 1))) 88)) := by
        show _ = _
        rw [setCell_eq_setRow wr p (3 + k) _ _ _ _ hrow, setRow_heap wr p _ _ _ _ hrow, irow_set, upTo_set HL.out hlt]
      clear hrow hu
      generalize xs.getD (3 + k) 0 = y at *
      generalize (upTo xs k).getD (3 + k) 0 = z at *
      go_wp2
      go_roundw
      case rel => exact ⟨k + 1, by omega, by go_num, HN.out, HU.out.trans (Upd.setCell _ _ _ _)⟩
      case measure => simp [intOf]; omega
    · have hki : decide ((k : Int) < 6) = false := by simp; omega
      have hk6 : ¬ (k : Int) < 6 := by omega
      have hk0 : k = 6 := by omega
      rw [hk0, upTo_all HL.out] at hrow
      obtain ⟨R, hR⟩ : ∃ R, R = irow xs := ⟨_, rfl⟩
      rw [← hR] at hrow
      have HRow : Hid _ := hrow
      have HRs : Hid (R.size = 9) := by rw [hR]; show _ = _; rw [irow_size]; exact HL.out
      have HRo : Hid (R.all (·.oneCell') = true) := by rw [hR]; exact irow_one _
      have HRq : Hid (R = irow xs) := hR
      have HR4 : Hid (wr.heap[r0]? = some (.cells zi 88)) := (hu.block _ (lt_of_heap HR3.out) HRP.out).trans HR3.out
      have HR5 : Hid ((wr.setRow r0 R).heap[r0]? = some (.cells R 88)) := setRow_heap wr r0 _ _ _ _ HR4.out
      clear hk0 hrow hu hR
      go_wp2_with (first
        | (refine wpList_load_row rfl 88 _ rfl p rfl 88 R (0, 0) _ HRow.out Tryz.underlying88 rfl (by rw [HRs.out]; exact inoSize) ?_)
        | (refine wpList_store_row rfl 88 _ _ rfl r0 R rfl rfl 88 zi HR4.out (by rw [HRs.out]; exact inoSize) (by rw [HRs.out]; rfl) HRo.out ?_)
        | go_in)
      have hU2 : Upd p W3 wr := HU.out
      have hp := HP.out
      have hr := Hr0.out
      have hK3 := HK.out.below HB3.out
      have hK4 : Rk wr bx gx cap n vs (m + 1) := hK3.other hU2 HP3.out (by decide)
      have hs13 := HB3.out.size
      have hsT := HT1.out.size
      refine bodyPost_ret (v := .tuple #[.agg R, .int .i64 0]) ?_ rfl ⟨by rw [HRq.out, HXs.out], hK4.other (Upd.setRow r0 wr R) HR4.out (by decide), ?_⟩
      · rw [results_cell_tmp rfl]
        show ((asAddr (.pointer (some ⟨r0, 0, none⟩))).run _ _).andThen _ = _
        simp only [asAddr, Sem.run_pure, Result.andThen_ok]
        rw [run_loadVar_row _ r0 _ _ R (0, 0) _ HR5.out Tryz.underlying88 rfl (by rw [HRs.out]; exact inoSize)]
        rfl
      · exact ⟨hU2.os.trans (HB3.out.os.trans HT1.out.os), hU2.tape.trans (HB3.out.tape.trans HT1.out.tape), hU2.output.trans (HB3.out.output.trans HT1.out.output), by have := hU2.size; simp; omega, fun k hk hB => ((setRow_other _ _ _ _ (by omega)).trans (hU2.block k (by omega) (by omega))).trans ((HB3.out.block k (by omega)).trans (HT1.out.block k hk hB))⟩
end
end Go.Proofs.YtcaofdbcgdgbbaaGreatDoor

namespace Go.Proofs.YtcaofdbcgdgbbaaGreatDoor
open Go.RowKit
set_option linter.unusedVariables false

theorem RS.up {n : Nat} {l bw : List Nat} {nd : Nat} (h : l.length ≤ nd) : RS n l bw nd l.length (six (fun j => l.getD j 0)) bw [] := by
  have e : min l.length nd - l.length = 0 := by omega
  refine Or.inl ⟨h, ?_, ?_, ?_⟩ <;> rw [e] <;> simp [grow]
theorem RS.down {n : Nat} {l bw : List Nat} {nd : Nat} (h : nd < l.length) : RS n l bw nd nd (six (fun j => l.getD j 0)) bw [] := by
  refine Or.inr ⟨h, six_congr fun j _ => ?_, by simp [back], by simp⟩
  rw [if_neg (by omega)]
theorem RS.fin {n nd : Nat} {l bw bl bw' Z : List Nat} (h : RS n l bw nd (max nd l.length) bl bw' Z) (h6 : nd ≤ 6) (hl : l.length ≤ 6) : RS n l bw nd 6 bl bw' Z := by
  rcases h with ⟨q, rfl, rfl, rfl⟩ | ⟨q, rfl, rfl, rfl⟩
  · have e : min (max nd l.length) nd = min 6 nd := by omega
    rw [e]
    exact Or.inl ⟨q, rfl, rfl, rfl⟩
  · have e : max nd l.length = l.length := by omega
    have e2 : (l.drop nd).take (l.length - nd) = (l.drop nd).take (6 - nd) := by
      rw [List.take_of_length_le (by simp), List.take_of_length_le (by simp; omega)]
    rw [e, e2]
    refine Or.inr ⟨q, six_congr fun j hj => ?_, rfl, rfl⟩
    by_cases a : nd ≤ j
    · by_cases b : j < l.length
      · rw [if_pos ⟨a, b⟩, if_pos ⟨a, hj⟩]
      · rw [if_neg (by omega), if_pos ⟨a, hj⟩, List.getD_eq_getElem?_getD, List.getElem?_eq_none (by omega)]
        rfl
    · rw [if_neg (by omega), if_neg (by omega)]
/-- The words of one block from a on, so many, are 0; the others are as they were. -/
structure CR (n b a j : Nat) (u1 us : List Int) : Prop where
  len : us.length = u1.length
  fr : ∀ c, c < n → ∀ x, x < 32 → (frameOf us c).getD x 0 = if c = b ∧ a ≤ x ∧ x < a + j then 0 else (frameOf u1 c).getD x 0
theorem CR.refl (n b a : Nat) (u1 : List Int) : CR n b a 0 u1 u1 := ⟨rfl, fun c _ x _ => by rw [if_neg (by omega)]⟩
theorem CR.step {n b a j : Nat} {u1 us : List Int} (h : CR n b a j u1 us) (hl : u1.length = n * 32) (hb : b < n) (hj : a + j < 32) : CR n b a (j + 1) u1 (splice us (b * 32) ((frameOf us b).set (a + j) 0)) := by
  have hul : us.length = n * 32 := h.len.trans hl
  have hfl := frameOf_length us b n hul hb
  refine ⟨(splice_length _ _ _ (by rw [List.length_set, hfl, hul]; omega)).trans h.len, fun c hc x hx => ?_⟩
  rw [frame_splice us _ n b c hul hb hc (by rw [List.length_set]; exact hfl)]
  by_cases e : c = b
  · subst e
    rw [if_pos rfl]
    by_cases q : x = a + j
    · subst q
      rw [if_pos (by omega), List.getD_eq_getElem?_getD, List.getElem?_set_self (by omega)]
      rfl
    · have : ((frameOf us c).set (a + j) 0).getD x 0 = (frameOf us c).getD x 0 := by
        simp only [List.getD_eq_getElem?_getD]
        rw [List.getElem?_set_ne (fun z => q z.symm)]
      rw [this, h.fr c hc x hx]
      by_cases q2 : a ≤ x ∧ x < a + j
      · rw [if_pos ⟨rfl, q2⟩, if_pos ⟨rfl, by omega⟩]
      · rw [if_neg (fun z => q2 z.2), if_neg (fun z => q2 (by omega))]
  · rw [if_neg e, h.fr c hc x hx, if_neg (fun z => e z.1), if_neg (fun z => e z.1)]
theorem getD_mem {l : List Nat} {k : Nat} (h : k < l.length) : l.getD k 0 ∈ l := by
  rw [List.getD_eq_getElem?_getD, List.getElem?_eq_getElem h]
  exact List.getElem_mem h
theorem rz_ref {F : FS} (hF : FInv F) {vs u1 us : List Int} (hH : Holds vs F) {i s j : Nat} (hi : i < 32) (hu : Bi.bt F.iw i = true) (hs : s ≤ 192) (hr : roomB F i s = true)
    (h1 : ZW F.n vs (grow F.n F.bw (need s - (F.ino i).blk.length)).1 u1) (hj : s + j = max s (min (need s * 32) (F.ino i).txt.length))
    (h2 : CR F.n ((newBlk F i s).getD (s / 32) 0) (s % 32) j u1 us) : RZ F i s vs us := by
  have hG := hF.resize hi hu hs hr
  have hok := hG.ok hi
  have e0 : (resizeF F i s).ino i = ⟨(F.ino i).kind, (F.ino i).links, sized (F.ino i).txt s, newBlk F i s⟩ := FS.put_same _ _ _ _
  rw [e0] at hok
  have hnl := newBlk_len hF hi hr
  have hlen := hF.len i hi
  have hvl := hH.len
  obtain ⟨g1, g2, g3, g4, g5, g6⟩ := grow_ok hF.bw (of_decide_eq_true hr)
  have hul : us.length = F.n * 32 := h2.len.trans (h1.len.trans hvl)
  have hinj : ∀ j k b, (newBlk F i s)[j]? = some b → (newBlk F i s)[k]? = some b → j = k := fun j k b h1 h2 => by
    have hj := (List.getElem?_eq_some_iff.1 h1).1
    exact (List.getElem?_inj hj hok.nd).1 (h1.trans h2.symm)
  have hnd : need s = (s + 31) / 32 := rfl
  have hnt : need (F.ino i).txt.length = ((F.ino i).txt.length + 31) / 32 := rfl
  have hnz : (newBlk F i s) = (F.ino i).blk.take (need s) ++ (grow F.n F.bw (need s - (F.ino i).blk.length)).1 := rfl
  refine ⟨h2.len.trans h1.len, fun k b hkb => ?_, fun b hb hn hd => ?_⟩
  · have hk : k < need s := by have := (List.getElem?_eq_some_iff.1 hkb).1; omega
    have hbd := hok.data b (List.mem_of_getElem? hkb)
    refine list_ext_getD _ _ (by rw [frameOf_length us b F.n hul hbd.2.1, chunk_len]) fun x hx => ?_
    rw [frameOf_length us b F.n hul hbd.2.1] at hx
    rw [h2.fr b hbd.2.1 x hx, chunk_get _ _ _ hx, sized_get, h1.fr b hbd.2.1]
    by_cases hz : b ∈ (grow F.n F.bw (need s - (F.ino i).blk.length)).1
    · rw [if_pos hz, zero_get]
      have hnb : b ∉ (F.ino i).blk := fun hm => by
        have a1 := (g3 b hz).2.1
        rw [(hF.data i hi b hm).2.2] at a1
        cases a1
      have hkl : (F.ino i).blk.length ≤ k := by
        rcases Nat.lt_or_ge k ((F.ino i).blk.take (need s)).length with q | q
        · rw [hnz, List.getElem?_append_left q] at hkb
          exact absurd (List.mem_of_mem_take (List.mem_of_getElem? hkb)) hnb
        · rw [List.length_take] at q
          rcases Nat.lt_or_ge (need s) (F.ino i).blk.length with q2 | q2
          · omega
          · omega
      rw [if_neg (show ¬ 32 * k + x < min s (F.ino i).txt.length by omega)]
      split <;> rfl
    · rw [if_neg hz]
      have hbk : (F.ino i).blk[k]? = some b := by
        rcases Nat.lt_or_ge k ((F.ino i).blk.take (need s)).length with q | q
        · rw [hnz, List.getElem?_append_left q, List.getElem?_take_of_lt hk] at hkb
          exact hkb
        · rw [hnz, List.getElem?_append_right q] at hkb
          exact absurd (List.mem_of_getElem? hkb) hz
      rw [hH.data i hi k b hbk, chunk_get _ _ _ hx]
      by_cases hc : b = (newBlk F i s).getD (s / 32) 0 ∧ s % 32 ≤ x ∧ x < s % 32 + j
      · rw [if_pos hc]
        have hsl : s / 32 < (newBlk F i s).length := by omega
        have ek : k = s / 32 := hinj k (s / 32) b hkb (by rw [hc.1, List.getD_eq_getElem?_getD, List.getElem?_eq_getElem hsl]; rfl)
        rw [if_neg (by omega)]
      · rw [if_neg hc]
        by_cases q : 32 * k + x < min s (F.ino i).txt.length
        · rw [if_pos q]
        · rw [if_neg q]
          rcases Nat.lt_or_ge (32 * k + x) (F.ino i).txt.length with q2 | q2
          · exfalso
            have ek : k = s / 32 := by omega
            refine hc ⟨?_, by omega, by omega⟩
            rw [← ek, List.getD_eq_getElem?_getD, hkb]
            rfl
          · rw [List.getD_eq_getElem?_getD, List.getElem?_eq_none q2]
            rfl
  · refine list_ext_getD _ _ (by rw [frameOf_length us b F.n hul hb, frameOf_length vs b F.n hvl hb]) fun x hx => ?_
    rw [frameOf_length us b F.n hul hb] at hx
    rw [h2.fr b hb x hx, h1.fr b hb]
    by_cases hc : b = (newBlk F i s).getD (s / 32) 0 ∧ s % 32 ≤ x ∧ x < s % 32 + j
    · exfalso
      have hsl : s / 32 < (newBlk F i s).length := by omega
      exact hn (by rw [hc.1]; exact getD_mem hsl)
    · rw [if_neg hc, if_neg (fun hm => hn (by rw [hnz]; exact List.mem_append_right _ hm))]
/-- One word of the two lists is laid anew. -/
theorem head_set_bw {F : FS} (hF : FInv F) (h64 : F.n ≤ 64) (x : Nat) : F.head.set 3 (x : Int) = hdW F.n F.iw [x] := by
  have h1 : F.iw.length = 1 := hF.iw.len
  have h2 : F.bw.length = 1 := by have := hF.bw.len; have := hF.n1; omega
  obtain ⟨a, ha⟩ := List.length_eq_one_iff.1 h1
  obtain ⟨b, hb⟩ := List.length_eq_one_iff.1 h2
  unfold FS.head
  rw [ha, hb]
  rfl
theorem head_set_iw {F : FS} (hF : FInv F) (x : Nat) : F.head.set 2 (x : Int) = hdW F.n [x] F.bw := by
  have h1 : F.iw.length = 1 := hF.iw.len
  obtain ⟨a, ha⟩ := List.length_eq_one_iff.1 h1
  unfold FS.head
  rw [ha]
  rfl
/-- While blocks are taken. -/
def L1P (n : Nat) (l bw : List Nat) (nd : Nat) (vs : List Int) (k : Nat) (bl bw' Z : List Nat) (us : List Int) : Prop := ZW n vs Z us ∧ ((l.length ≤ nd ∧ RS n l bw nd k bl bw' Z) ∨ (nd < l.length ∧ RS n l bw nd nd bl bw' Z ∧ Z = []))
theorem L1P.start (n : Nat) (l bw : List Nat) (nd : Nat) (vs : List Int) : L1P n l bw nd vs l.length (six (fun j => l.getD j 0)) bw [] vs := by
  refine ⟨ZW.refl _ _, ?_⟩
  rcases Nat.lt_or_ge nd l.length with q | q
  · exact Or.inr ⟨q, RS.down q, rfl⟩
  · exact Or.inl ⟨q, RS.up q⟩
theorem L1P.rs {n nd k : Nat} {l bw bl bw' Z : List Nat} {vs us : List Int} (h : L1P n l bw nd vs k bl bw' Z us) (h1 : l.length ≤ k) (h2 : k < nd) : RS n l bw nd k bl bw' Z := by
  rcases h.2 with ⟨_, q⟩ | ⟨q, _⟩
  · exact q
  · omega
theorem L1P.next {n nd k : Nat} {l bw bl bw' Z : List Nat} {vs us : List Int} (h : ZW n vs Z us) (hr : RS n l bw nd k bl bw' Z) (hl : l.length ≤ nd) : L1P n l bw nd vs k bl bw' Z us := ⟨h, Or.inl ⟨hl, hr⟩⟩
theorem L1P.fin {n nd k : Nat} {l bw bl bw' Z : List Nat} {vs us : List Int} (h : L1P n l bw nd vs k bl bw' Z us) (h1 : l.length ≤ k) (h2 : k ≤ max nd l.length) (h3 : nd ≤ k) : ZW n vs (grow n bw (nd - l.length)).1 us ∧ RS n l bw nd nd bl bw' Z := by
  rcases h.2 with ⟨q, hr⟩ | ⟨q, hr, rfl⟩
  · have e : k = nd := by omega
    subst e
    refine ⟨?_, hr⟩
    rcases hr with ⟨_, _, _, rfl⟩ | ⟨q2, _⟩
    · have := h.1
      rwa [Nat.min_self] at this
    · omega
  · refine ⟨?_, hr⟩
    rw [show nd - l.length = 0 by omega]
    exact h.1
end Go.Proofs.YtcaofdbcgdgbbaaGreatDoor

namespace Go.Proofs.YtcaofdbcgdgbbaaGreatDoor
open Go.RowKit
set_option linter.unusedVariables false

theorem eneed_at (s : Nat) (hs : s ≤ 192) (W : World) : Calls Tryz.prog 91 #[.int .i64 (s : Int)] W fun e w' => e = .returned (.int .i64 ((need s : Nat) : Int)) ∧ w' = W := by
  have hd : ((s : Int) + 32 - 1).tdiv 32 = ((need s : Nat) : Int) := by unfold need; rw [Int.tdiv_eq_ediv_of_nonneg (by omega)]; omega
  have hw : IntKind.i64.wrap ((need s : Nat) : Int) = ((need s : Nat) : Int) := Bi.wrap_small _ (by have := need_le hs; omega)
  generalize need s = nd at *
  go_enter Tryz.func91, Tryz.ntmps91
  go_wp2
  go_ret
  exact ⟨rfl, rfl⟩
theorem Holds.row {vs : List Int} {F : FS} (hH : Holds vs F) (hF : FInv F) {i : Nat} (hi : i < 32) : rowW vs i = (F.ino i).row := by
  have hb := hF.n1
  have hl := hH.len
  refine list_ext_getD _ _ (by rw [rowW_len hl (by omega), Ino.row_len (hF.six hi)]) fun j hj => ?_
  rw [rowW_len hl (by omega)] at hj
  rw [rowW_get vs i j hj, hH.tab (i / 3) (by omega), tab_word hF hi hj]
theorem rowOf_set {kd lk sz : Int} {bl : List Nat} (h : bl.length = 6) {k : Nat} (hk : k < 6) (b : Nat) : (rowOf kd lk sz bl).set (3 + k) (b : Int) = rowOf kd lk sz (bl.set k b) := by
  obtain ⟨a, b, c, d, e, f, rfl⟩ := list6 h
  match k, hk with
  | 0, _ => rfl
  | 1, _ => rfl
  | 2, _ => rfl
  | 3, _ => rfl
  | 4, _ => rfl
  | 5, _ => rfl
theorem rowOf_get {kd lk sz : Int} {bl : List Nat} (h : bl.length = 6) {k : Nat} (hk : k < 6) : (rowOf kd lk sz bl).getD (3 + k) 0 = ((bl.getD k 0 : Nat) : Int) := by
  obtain ⟨a, b, c, d, e, f, rfl⟩ := list6 h
  match k, hk with
  | 0, _ => rfl
  | 1, _ => rfl
  | 2, _ => rfl
  | 3, _ => rfl
  | 4, _ => rfl
  | 5, _ => rfl
/-- The reference's disk, an inode in its box, a map. -/
structure RzAt (w wr : World) (bx gx cap n : Nat) (us : List Int) (m p : Nat) (row : List Int) (c hh : Nat) (L : List Bool) (bw : List Nat) : Prop where
  rk : Rk wr bx gx cap n us m
  box : wr.heap[p]? = some (.cells (irow row) 88)
  map : Bi.RmAt wr w.heap.size c hh n L bw
  upd : UpdP (fun k => k = bx ∨ k = gx) w wr
  lo : bx < w.heap.size ∧ gx < w.heap.size ∧ w.heap.size ≤ p
section
variable {w wr w' : World} {bx gx cap n m p c hh : Nat} {us row : List Int} {L : List Bool} {bw : List Nat}
theorem RzAt.below (h : RzAt w wr bx gx cap n us m p row c hh L bw) (hb : Below wr.heap.size wr w') : RzAt w w' bx gx cap n us m p row c hh L bw :=
  ⟨h.rk.below hb, (hb.block p (lt_of_heap h.box)).trans h.box, h.map.below hb, h.upd.trans (UpdP.of_below hb), h.lo⟩
theorem RzAt.mono {m' : Nat} (h : RzAt w wr bx gx cap n us m p row c hh L bw) (hm : m ≤ m') : RzAt w wr bx gx cap n us m' p row c hh L bw := ⟨h.rk.mono hm, h.box, h.map, h.upd, h.lo⟩
theorem RzAt.ne1 (h : RzAt w wr bx gx cap n us m p row c hh L bw) : hh ≠ p := by
  intro e
  have a := h.map.at_.bl.row
  rw [e, h.box] at a
  simp only [Option.some.injEq, Obj.cells.injEq] at a
  exact absurd a.2.1 (by decide)
theorem RzAt.ne2 (h : RzAt w wr bx gx cap n us m p row c hh L bw) : c ≠ p := by
  intro e
  have a := h.map.at_.head
  rw [e, h.box] at a
  simp only [Option.some.injEq, Obj.cells.injEq] at a
  exact absurd a.2.1 (by decide)
theorem RzAt.took {L' : List Bool} {bw' : List Nat} (h : RzAt w wr bx gx cap n us m p row c hh L bw) (hm : Bi.RmAt w' w.heap.size c hh n L' bw') (hu : Upd hh wr w') : RzAt w w' bx gx cap n us m p row c hh L' bw' := by
  have h1 := h.upd.size
  have h2 := h.map.lo.2
  exact ⟨h.rk.bools hu h.map.at_.bl, (hu.block p (lt_of_heap h.box) (Ne.symm h.ne1)).trans h.box, hm, ⟨hu.os.trans h.upd.os, hu.tape.trans h.upd.tape, hu.output.trans h.upd.output, Nat.le_trans h1 hu.size, fun k hk hn => (hu.block k (by omega) (by omega)).trans (h.upd.block k hk hn)⟩, h.lo⟩
theorem RzAt.put {us' : List Int} {m' : Nat} (h : RzAt w wr bx gx cap n us m p row c hh L bw) (hr : Rk w' bx gx cap n us' m') (hu : UpdP (fun k => k = bx ∨ k = gx) wr w') : RzAt w w' bx gx cap n us' m' p row c hh L bw := by
  have hl := h.lo
  exact ⟨hr, (hu.block p (lt_of_heap h.box) (by rintro (e | e) <;> omega)).trans h.box, h.map.keep (P := fun _ => False) (fun g hg hk => hu.block g hk (by rintro (e | e) <;> omega)), h.upd.trans hu, hl⟩
theorem RzAt.set (h : RzAt w wr bx gx cap n us m p row c hh L bw) (j : Nat) (x : Int) : RzAt w (wr.setCell ⟨p, j, none⟩ (.int .i64 x)) bx gx cap n us m p (row.set j x) c hh L bw := by
  have hu := Upd.setCell p j wr (.int .i64 x)
  have hl := h.lo
  have h1 := h.upd.size
  refine ⟨h.rk.other hu h.box (by decide), ?_, ⟨h.map.at_.upd hu h.ne2 h.ne1, h.map.len, h.map.same, h.map.wf, h.map.lo⟩, ⟨hu.os.trans h.upd.os, hu.tape.trans h.upd.tape, hu.output.trans h.upd.output, Nat.le_trans h1 hu.size, fun k hk hn => (hu.block k (by omega) (by omega)).trans (h.upd.block k hk hn)⟩, hl⟩
  rw [setCell_eq_setRow wr p _ _ _ _ _ h.box, setRow_heap wr p _ _ _ _ h.box, irow_set]
theorem RzAt.cell (h : RzAt w wr bx gx cap n us m p row c hh L bw) (j : Nat) (hj : j < row.length) : wr.cell? ⟨p, j, none⟩ = some (.int .i64 (row.getD j 0)) := by
  rw [cell_of_heap h.box]
  exact irow_get _ _ hj
theorem RzAt.free (h : RzAt w wr bx gx cap n us m p row c hh L bw) (j : Nat) : wr.frozen? ⟨p, j, none⟩ = false := frozen_of_heap h.box
end
end Go.Proofs.YtcaofdbcgdgbbaaGreatDoor
