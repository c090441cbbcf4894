/- Proved: januslaw15.InodeBounds answers true for every deed (an inode that is none, and numbers below 0, are refused), at the commit of this claim; no condition beyond the row's own. -/
import Derived.Test.YtinjllnoonbjmaaLwG
import Derived.Test.YtinjllnoonbjmaaKinds
import Derived.ProofKit
import Derived.OpenShut
import Derived.ChangeOld
import Derived.ChangeSlices
import Derived.Below
namespace Go.Proofs.Ytinjllnoonbjmaa
open Go.ChangeShapes Go.WideShapes Go.ChangeAt Go.RowKit Go.Lib
set_option linter.unusedVariables false

abbrev deedCK : List CK := [.i .i64, .i .i64, .i .i64, .i .i64, .s]
theorem deedKinds : kindsOf Try.prog 9 28 = some deedCK := by kernel_rfl
theorem deedSize : Try.prog.cellsOf 28 = 5 := by kernel_rfl
theorem i64_of {n : Int} (h : (Lit.int .i64 n).wf = true) : I64 n := bounds_i64 h
theorem text_of (s : ByteArray) : ∃ l : List UInt8, s = ⟨l.toArray⟩ ∧ s.size = l.length := ⟨s.data.toList, by simp, by show s.data.size = s.data.toList.length; simp⟩
theorem deedOf {l : List Value} (h : Fits deedCK l) : ∃ d : Deed, d.Fit ∧ l = (deedRow d).toList := by
  obtain ⟨_, _, rfl, ⟨a, rfl, ha⟩, _, _, rfl, ⟨b, rfl, hb⟩, _, _, rfl, ⟨c, rfl, hc⟩, _, _, rfl, ⟨d, rfl, hd⟩, _, _, rfl, ⟨s, rfl, hs⟩, rfl⟩ := h
  obtain ⟨t, rfl, ht⟩ := text_of s
  exact ⟨⟨a, b, c, d, t⟩, ⟨i64_of hb, i64_of hc, i64_of hd, by show t.length ≤ _; unfold maxLen at hs; omega⟩, rfl⟩
theorem gtR_arg (i : Int) : (gtR i == 101) = (decide (i < 0) || decide (32 ≤ i)) := by
  unfold gtR
  cases h : isI i with
  | true =>
    obtain ⟨k, rfl, hk⟩ := isI_of h
    rw [if_pos rfl, decide_eq_false (by omega), decide_eq_false (by omega)]
    rfl
  | false =>
    have : i < 0 ∨ 32 ≤ i := by
      simp only [isI, Bool.and_eq_false_iff, decide_eq_false_iff_not] at h
      omega
    rcases this with q | q <;> simp [q]
theorem rdR_arg (i o n : Int) : (rdR i o n == 101) = ((decide (i < 0) || decide (32 ≤ i)) || decide (o < 0) || decide (n < 0)) := by
  have hi := gtR_arg i
  unfold gtR at hi
  unfold rdR
  cases h : isI i with
  | true =>
    rw [h, if_pos rfl] at hi
    rw [← hi]
    by_cases h1 : 0 ≤ o
    · by_cases h2 : 0 ≤ n
      · rw [if_pos ⟨rfl, h1, h2⟩, decide_eq_false (show ¬ o < 0 by omega), decide_eq_false (show ¬ n < 0 by omega)]
        rfl
      · rw [if_neg (fun q => h2 q.2.2), decide_eq_true (show n < 0 by omega)]
        simp
    · rw [if_neg (fun q => h1 q.2.1), decide_eq_true (show o < 0 by omega)]
      simp
  | false =>
    rw [h, if_neg (by simp)] at hi
    rw [← hi, if_neg (by simp)]
    simp
set_option maxHeartbeats 4000000 in
set_option maxRecDepth 100000 in
theorem bounds_walk (d : Deed) (hd : d.Fit) (w : World) :
    Calls Try.prog 6 #[.agg (deedRow d)] w fun e w' => e = .returned (.bool true) ∧ Below w.heap.size w w' := by
  obtain ⟨W, hW⟩ : ∃ W, W = w.alloc (.cells (deedRow d) 28) := ⟨_, rfl⟩
  have hbox : W.heap[w.heap.size]? = some (.cells (deedRow d) 28) := by rw [hW]; exact heap_alloc_new _ _
  have HO : Hid (Below w.heap.size w W) := by rw [hW]; exact below_alloc _ _
  have HX : Hid _ := hbox
  have HW : Hid _ := hW
  have hP := pair_at 20 W (by omega) (by omega)
  obtain ⟨D, hD⟩ : ∃ D, D = w.heap.size := ⟨_, rfl⟩
  rw [← hD] at HX
  have HDq : Hid (D = w.heap.size) := hD
  have HDl : Hid (D < W.heap.size) := lt_of_heap HX.out
  obtain ⟨k, i, o, n, s⟩ := d
  have HFt : Hid (I64 i ∧ I64 o ∧ I64 n) := ⟨hd.i, hd.off, hd.n⟩
  dsimp only [deedRow] at *
  have HCl : Hid (∀ V : World, Below W.heap.size W V → V.cell? ⟨D, 1, none⟩ = some (.int .i64 i) ∧ V.cell? ⟨D, 2, none⟩ = some (.int .i64 o) ∧ V.cell? ⟨D, 3, none⟩ = some (.int .i64 n)) := fun V hV => by
    have hx : V.heap[D]? = some (.cells #[.int .i64 k, .int .i64 i, .int .i64 o, .int .i64 n, tx s] 28) := (hV.block D HDl.out).trans HX.out
    obtain ⟨_, q1, q2, q3, _⟩ := deedCells (d := ⟨k, i, o, n, s⟩) hx
    exact ⟨q1, q2, q3⟩
  clear hbox hW hD hd
  go_enter Try.func6, Try.ntmps6
  go_wp2_with fail
  rw [← HW.out]
  clear HW
  refine hP.mono ?_
  rintro e w1 ⟨B, bx, rfl, ⟨G, gx, hpr⟩, hb1⟩
  have HL : Hid (W.heap.size ≤ B ∧ W.heap.size ≤ G) := ⟨hpr.lo.1, hpr.lo.2.1⟩
  have H1 : Hid (Fs w1 B G (F0 20) 2000) := hpr.fs
  have HB1 : Hid (Below W.heap.size W w1) := hb1
  obtain ⟨c1, c2, c3⟩ := HCl.out w1 hb1
  rw [← HDq.out]
  clear hP hpr hb1
  have hC := get_all H1.out (by omega) i
  obtain ⟨R, hR⟩ : ∃ R, R = irow (gtX (F0 20) i) := ⟨_, rfl⟩
  have HRs : Hid (R.size = 9) := by rw [hR]; show _ = _; rw [irow_size]; exact gtX_len H1.out.inv i
  have HRo : Hid (R.all (·.oneCell') = true) := by rw [hR]; exact irow_one _
  rw [← hR] at hC
  have hra := gtR_arg i
  generalize gtR i = ra at *
  clear hR
  have hz := lit_zi
  have hout : (i < 0 ∧ (ra == 101) = true) ∨ (¬ i < 0 ∧ 32 ≤ i ∧ (ra == 101) = true) ∨ (¬ i < 0 ∧ ¬ 32 ≤ i ∧ (ra == 101) = false) := by
    rw [hra]
    by_cases q : i < 0
    · exact Or.inl ⟨q, by simp [q]⟩
    · by_cases q2 : 32 ≤ i
      · exact Or.inr (Or.inl ⟨q, q2, by simp [q2]⟩)
      · exact Or.inr (Or.inr ⟨q, q2, by simp [q, q2]⟩)
  clear hra
  rcases hout with ⟨hi1, hra⟩ | ⟨hi1, hi2, hra⟩ | ⟨hi1, hi2, hra⟩
  all_goals
    go_wp2_with fail
    refine hC.mono ?_
    rintro e w2 ⟨rfl, hf, hbg⟩
    obtain ⟨W3, hW3⟩ : ∃ W, W = w2.alloc (.cells R 47) := ⟨_, rfl⟩
    have hb3 : Below w2.heap.size w2 W3 := by rw [hW3]; exact below_alloc _ _
    have HB2 : Hid (Below W.heap.size W w2) := HB1.out.trans (bg_below hbg HL.out.1 HL.out.2 HB1.out.size)
    have HB3 : Hid (Below W.heap.size W W3) := HB2.out.trans (hb3.mono HB2.out.size)
    have H3 : Hid (Fs W3 B G (F0 20) 4000) := hf.below hb3
    have HW3 : Hid _ := hW3
    clear hC hf hbg H1 HB1 hW3 hb3
    clear c1 c2 c3
    obtain ⟨c1, c2, c3⟩ := HCl.out w2 HB2.out
    have hDl : D < w2.heap.size := Nat.lt_of_lt_of_le HDl.out HB2.out.size
    have hC := read_all H3.out (by omega) i o n (by have := HFt.out.2.1.2; omega) (by have := HFt.out.2.2.2; omega)
    have hrb := rdR_arg i o n
    generalize rdR i o n = rb at *
    generalize rdT (F0 20) i o n = rt at *
    go_wp2_with (first
      | (refine wpList_store_row rfl 47 _ _ rfl w2.heap.size R rfl rfl 47 zi (heap_alloc_new _ _) (by rw [HRs.out]; exact inoSize) (by rw [HRs.out]; rfl) HRo.out ?_; rw [setRow_alloc_new])
      | fail)
    rw [← HW3.out]
    clear HW3 c1 c2 c3 hDl
    refine hC.mono ?_
    rintro e w4 ⟨rfl, hf, hbg⟩
    have HB4 : Hid (Below W.heap.size W w4) := HB3.out.trans (bg_below hbg HL.out.1 HL.out.2 HB3.out.size)
    have H4 : Hid (Fs w4 B G (F0 20) 6000) := hf
    clear hC hf hbg H3 HB3 HB2
    obtain ⟨c1, c2, c3⟩ := HCl.out w4 HB4.out
    have hC := write_all H4.out (by omega) 0 (by omega) H4.out.inv.root o [120] (by simp)
    have hc1 := wrR_arg (F0 20) 0 o [120]
    have hc2 := wrR_big (F0 20) 0 o [120]
    have HIw : Hid ((wrF (F0 20) 0 o [120]).iw = (F0 20).iw) := (wrF_iw _ _ _ _).1
    generalize wrR (F0 20) 0 o [120] = rc at *
    generalize wrF (F0 20) 0 o [120] = F1 at *
    go_wp2_with fail
    refine hC.mono ?_
    rintro e w5 ⟨rfl, hf, hbg⟩
    have HB5 : Hid (Below W.heap.size W w5) := HB4.out.trans (bg_below hbg HL.out.1 HL.out.2 HB4.out.size)
    have H5 : Hid (Fs w5 B G F1 8000) := hf
    clear hC hf hbg H4 HB4 c1 c2 c3
    obtain ⟨c1, c2, c3⟩ := HCl.out w5 HB5.out
    have hC := resize_all H5.out (by omega) 0 (by omega) H5.out.inv.root n
    have he1 := rsR_arg F1 0 n
    have he2 := rsR_big F1 0 n
    generalize rsR F1 0 n = re at *
    generalize rsF F1 0 n = F2 at *
    go_wp2_with fail
    refine hC.mono ?_
    rintro e w6 ⟨rfl, hf, hbg⟩
    have HB6 : Hid (Below W.heap.size W w6) := HB5.out.trans (bg_below hbg HL.out.1 HL.out.2 HB5.out.size)
    clear hC hf hbg H5 HB5 c1 c2 c3
    obtain ⟨c1, c2, c3⟩ := HCl.out w6 HB6.out
    have hA := awake_at w6
    have hc3 : (rc == 27) = decide (192 ≤ o) := by
      rw [hc2]
      by_cases q : 0 ≤ o
      · rw [decide_eq_true q, Bool.true_and]
        congr 1
        simp
        omega
      · rw [decide_eq_false q, decide_eq_false (show ¬ 192 ≤ o by omega)]
        rfl
    clear hc2
    go_wp2_with (first | (go_at_call 26; refine hA.mono ?_; rintro e w7 ⟨rfl, hb7⟩) | go_in)
    all_goals
      first
        | (go_ret; exact ⟨rfl, HO.out.trans ((HB6.out.trans (hb7.mono HB6.out.size)).mono HO.out.size)⟩)
        | (go_ret
           refine ⟨?_, HO.out.trans ((HB6.out.trans (hb7.mono HB6.out.size)).mono HO.out.size)⟩
           show Ending.returned (.bool (!decide (i < 0) && !decide (32 ≤ i))) = _
           rw [decide_eq_false (show ¬ i < 0 by omega), decide_eq_false (show ¬ 32 ≤ i by omega)]
           rfl)

theorem own : ownKnob Try.prog.godebug = none := by kernel_rfl
theorem laidOut : laidOutB Try.prog = true := by kernel_rfl

set_option maxRecDepth 100000 in
theorem bounds_lifted (os : Os) (started : os.Started) (H : Type) (enc : TypeId × Value → H) :
    ReturnsInHanded {} Try.checked os 6 .any (Rows.inodeBoundsSpec.pre6 enc Try.prog Try.f6 Rows.inodeBoundsRow.domain false) (Rows.inodeBoundsSpec.post enc Try.prog Try.f6 false true false false) := by
  refine returnsInHanded_of_change (C := Try.checked) own started (by kernel_rfl) Try.func6
    (ChangeSpec.witness6 (enc := enc) (C := Try.checked) false ⟨#[], #[.agg #[.int .i64 0, .int .i64 0, .int .i64 0, .int .i64 0, .string ⟨#[]⟩]], []⟩ 8 (by kernel_rfl) (by kernel_rfl) (by kernel_rfl) (by kernel_rfl)) ?_
  intro W base args ds gs before hval0 hW hcnd _
  have hval : ∀ (j : Nat) t v, Try.f6.params[j]? = some t → args[j]? = some v → Value.okWide Try.prog W .any base t v := hval0
  have hW' := hW
  obtain ⟨p, q, hA0, hV, rfl, hfz, hnd⟩ := hW
  have hA : DataW.TrodAll enc Try.prog W 0 (fun _ => true) true Try.f6.params.toList args.toList ds p := hA0
  rw [Try.params6] at hA hval
  obtain ⟨v0, vs0, d0, ds0, p0, q0, hargs, rfl, rfl, h0, r0⟩ := trodAll_cons hA
  obtain ⟨rfl, rfl, rfl⟩ := trodAll_nil r0
  obtain rfl : args = #[v0] := by cases args; simp_all
  obtain ⟨rfl, rfl⟩ := trodVars_none hV
  have k0 := h0
  have lt0 : ∀ x ∈ p0, x.block < W.heap.size := by obtain ⟨m, hm⟩ := k0; exact DataW.trod_lt m _ _ _ hm
  obtain ⟨cs0, rfl, fit0⟩ := agg_fits Try.underlying28 deedKinds (hval 0 28 v0 rfl rfl) h0
  clear hA0 hval0
  obtain ⟨d, hd, hcs⟩ := deedOf fit0
  obtain rfl : cs0 = deedRow d := Array.toList_inj.1 hcs
  have hwalk : Calls Try.prog 6 #[.agg (deedRow d)] W fun e w' => e = .returned (.bool true) ∧ Below W.heap.size W w' := bounds_walk d hd W
  refine hwalk.mono fun e W' ⟨he, bel⟩ => ?_
  subst he
  exact ⟨_, rfl, _, _, _, [], _, [], hW', trodAll_mk1 (shut_bool Try.underlying4 _), (trodAll_cons_mk (Below.trod laidOut (by kernel_rfl) (of_decide_eq_true (by kernel_rfl)) k0 bel lt0) trodAll_mk0), rfl, bel.frame _, fun h => by cases h⟩

theorem bounds_holds : Rows.InodeBoundsSaid :=
  OpenClaim.holds_of_wide 6 Try.f6 rfl rfl rfl rfl rfl rfl rfl ⟨rfl, rfl, rfl, rfl, rfl⟩ rfl rfl rfl rfl rfl (by kernel_rfl) Try.func6 (by kernel_rfl)
    (of_decide_eq_true (by kernel_rfl)) (by unfold Func.isWrapper; first | (rw [if_pos (by decide +kernel)]; kernel_rfl) | (rw [if_neg (by decide +kernel)]; exact ⟨rfl, rfl⟩))
    (fun os started H enc _ => bounds_lifted os started H enc)
#print axioms bounds_holds
end Go.Proofs.Ytinjllnoonbjmaa
