/- Proved: januslaw09.ExomemShares answers true for all rights, words and numbers (who was given a capability sees what its giver writes, and what it may not it may not), at the commit of this claim; no condition beyond the row's own. -/
import Derived.Test.YtfnafjddajgahaaExW
import Derived.ProofKit
import Derived.OpenShut
import Derived.ChangeOld
import Derived.Below
namespace Go.Proofs.Ytfnafjddajgahaa
open Go.ChangeShapes Go.WideShapes Go.ChangeAt Go.RowKit Go.Lib Ca
set_option linter.unusedVariables false

/-- The slots behind a Grant of these rights. -/
def Tr (r : Int) : Tab := T1.set 128 ⟨⟨1, 0, 1, r⟩, 1, 1⟩
theorem T1_get : getT T1 1 1 = ⟨1, 0, 1, 7⟩ := by kernel_rfl
theorem T1_free : freeT T1 2 = 0 := by kernel_rfl
theorem sh_no (r : Int) (h : r < 1 ∨ 7 < r) : giveA T1 1 1 2 r = 0 ∧ giveR T1 1 1 2 r = 104 ∧ giveT T1 1 1 2 r = T1 := by
  have hg : giveOK T1 1 1 r = false := by
    unfold giveOK
    rw [T1_get]
    have : areR r = false := by simp [areR]; omega
    simp [mayG, this]
  unfold giveA giveR giveT
  rw [hg]
  exact ⟨rfl, rfl, rfl⟩
theorem r7 {r : Int} (h1 : 1 ≤ r) (h2 : r ≤ 7) : r = 1 ∨ r = 2 ∨ r = 3 ∨ r = 4 ∨ r = 5 ∨ r = 6 ∨ r = 7 := by omega
theorem sh_yes (r : Int) (h1 : 1 ≤ r) (h2 : r ≤ 7) : giveA T1 1 1 2 r = 1 ∧ giveR T1 1 1 2 r = 0 ∧ giveT T1 1 1 2 r = Tr r := by
  have hg : giveOK T1 1 1 r = true := by
    unfold giveOK
    rw [T1_get]
    rcases r7 h1 h2 with rfl | rfl | rfl | rfl | rfl | rfl | rfl <;> rfl
  have he : isE 2 = true := rfl
  have e : Int.toNat 2 = 2 := rfl
  unfold giveA giveR giveT
  rw [if_pos hg, if_pos hg, if_pos hg, if_pos he, if_pos he, if_pos he, e]
  unfold putA putE putT giveH
  rw [T1_free, T1_get]
  exact ⟨rfl, rfl, rfl⟩

theorem sh_word (word : Int) : 0 ≤ (wrap64 (word.tmod 32 + 32)).tmod 32 ∧ (wrap64 (word.tmod 32 + 32)).tmod 32 < 32 := by
  have h1 := Int.tmod_lt_of_pos word (by decide : (0 : Int) < 32)
  have h2 := Int.lt_tmod_of_pos word (by decide : (0 : Int) < 32)
  generalize word.tmod 32 = y at *
  have h3 : wrap64 (y + 32) = y + 32 := by unfold wrap64; omega
  rw [h3, Int.tmod_eq_emod_of_nonneg (by omega)]
  omega
theorem Tr1 (r : Int) : getT (Tr r) 1 1 = ⟨1, 0, 1, 7⟩ := by kernel_rfl
theorem Tr2 (r : Int) : getT (Tr r) 2 1 = ⟨1, 0, 1, r⟩ := by kernel_rfl
theorem frm1 (r : Int) : frm (Tr r) 1 1 2 = some 0 := by
  unfold frm
  rw [Tr1]
  rfl
theorem frm2 (r q : Int) : frm (Tr r) 2 1 q = if among q r = true then some 0 else none := by
  unfold frm
  rw [Tr2]
  have : Cp.is ⟨1, 0, 1, r⟩ = true := rfl
  rw [this]
  rfl
theorem sh_among {r : Int} (h1 : 1 ≤ r) (h2 : r ≤ 7) {rd wr : Bool} (c1 : bits .and .i64 r 1 = if rd then 1 else 0) (c2 : bits .and .i64 r 2 = if wr then 2 else 0) : among 1 r = rd ∧ among 2 r = wr ∧ among 3 r = (rd && wr) := by
  rcases r7 h1 h2 with rfl | rfl | rfl | rfl | rfl | rfl | rfl <;> cases rd <;> cases wr <;> first | exact ⟨rfl, rfl, rfl⟩ | (exfalso; revert c1; decide) | (exfalso; revert c2; decide)
theorem sh_bits {r : Int} (h1 : 1 ≤ r) (h2 : r ≤ 7) : ∃ rd wr : Bool, (bits .and .i64 r 1 = if rd then 1 else 0) ∧ (bits .and .i64 r 2 = if wr then 2 else 0) := by
  rcases r7 h1 h2 with rfl | rfl | rfl | rfl | rfl | rfl | rfl
  · exact ⟨true, false, rfl, rfl⟩
  · exact ⟨false, true, rfl, rfl⟩
  · exact ⟨true, true, rfl, rfl⟩
  · exact ⟨false, false, rfl, rfl⟩
  · exact ⟨true, false, rfl, rfl⟩
  · exact ⟨false, true, rfl, rfl⟩
  · exact ⟨true, true, rfl, rfl⟩
section
variable {r X v : Int} {vs : List Int} {rd wr : Bool}
theorem sh_write1 (r : Int) (h0 : 0 ≤ X) (hX : X < 32) : kwriteR (Tr r) 2 1 1 X = 0 ∧ kwriteV (Tr r) 2 vs 1 1 X v = vs.set X.toNat v := by
  have hc : (0 : Int) ≤ 0 ∧ (0 : Int) < (2 : Nat) ∧ 0 ≤ X ∧ X < 32 := ⟨by decide, by decide, h0, hX⟩
  unfold kwriteR kwriteV
  rw [frm1]
  unfold Me.errW Me.putW
  dsimp only
  rw [if_pos hc, if_pos hc]
  refine ⟨rfl, ?_⟩
  congr 1
  simp
theorem sh_read (h0 : 0 ≤ X) (hX : X < 32) (hl : vs.length = 2 * 32) (ha : among 1 r = rd) : kreadR (Tr r) 2 (vs.set X.toNat v) 2 1 X = if rd = true then (v, 0) else (0, 104) := by
  have hc : (0 : Int) ≤ 0 ∧ (0 : Int) < (2 : Nat) ∧ 0 ≤ X ∧ X < 32 := ⟨by decide, by decide, h0, hX⟩
  unfold kreadR
  rw [frm2, ha]
  cases rd with
  | false => rfl
  | true =>
    unfold Me.errW Me.valR
    simp only [if_true]
    rw [if_pos hc, if_pos hc]
    have : X.toNat < vs.length := by rw [hl]; omega
    simp [this]
theorem sh_write2 (h0 : 0 ≤ X) (hX : X < 32) (ha : among 2 r = wr) : kwriteR (Tr r) 2 2 1 X = if wr = true then 0 else 104 := by
  have hc : (0 : Int) ≤ 0 ∧ (0 : Int) < (2 : Nat) ∧ 0 ≤ X ∧ X < 32 := ⟨by decide, by decide, h0, hX⟩
  unfold kwriteR
  rw [frm2, ha]
  cases wr with
  | false => rfl
  | true =>
    unfold Me.errW
    simp only [if_true]
    rw [if_pos hc]
theorem sh_map (b : Bool) {q : Bool} (ha : among (prt b) r = q) : kmapR (Tr r) 2 1 1 b = if q = true then 0 else 104 := by
  have : (isE 2 && Mu.isPg 1) = true := rfl
  unfold kmapR
  rw [if_pos this, frm2, ha]
  cases q <;> rfl
end

set_option maxRecDepth 100000 in
set_option maxHeartbeats 4000000 in
theorem shares_yes (r word v : Int) (w : World) (h1 : 1 ≤ r) (h2 : r ≤ 7) :
    Calls Try.prog 3 #[.int .i64 r, .int .i64 word, .int .u64 v] w fun e w' => e = .returned (.bool true) ∧ Below w.heap.size w w' := by
  obtain ⟨rd, wr, c1, c2⟩ := sh_bits h1 h2
  obtain ⟨a1, a2, a3⟩ := sh_among h1 h2 c1 c2
  have hX := sh_word word
  obtain ⟨X, hXe⟩ : ∃ X, X = (wrap64 (word.tmod 32 + 32)).tmod 32 := ⟨_, rfl⟩
  rw [← hXe] at hX
  have HG : Hid (giveA T1 1 1 2 r = 1 ∧ giveR T1 1 1 2 r = 0 ∧ giveT T1 1 1 2 r = Tr r) := sh_yes r h1 h2
  have HW1 : Hid _ := fun vs => sh_write1 (X := X) (v := v) (vs := vs) r hX.1 hX.2
  have HR : Hid _ := fun vs hl => sh_read (X := X) (v := v) (vs := vs) (r := r) hX.1 hX.2 hl a1
  have HW2 : Hid _ := sh_write2 (X := X) (r := r) hX.1 hX.2 a2
  have HM1 : Hid _ := sh_map (r := r) true a3
  have HM2 : Hid _ := sh_map (r := r) false a1
  have i1 : decide (r < 1) = false := decide_eq_false (by omega)
  have i2 : decide (7 < r) = false := decide_eq_false (by omega)
  have HXE : Hid _ := hXe
  clear h1 h2 a1 a2 a3 hX hXe
  cases rd <;> cases wr
  all_goals
    simp only [Bool.false_eq_true, if_false, if_true] at c1 c2 HR HW2 HM1 HM2
    go_enter Try.func3, Try.ntmps3
    go_wp2_with fail
    refine (knew_at 2 w (by decide) (by decide)).mono ?_
    rintro x w1 ⟨K, Y, rfl, hK0, hb, _, hft⟩
    have hK1 : KerAt w1 K Y 2 (List.replicate 64 0) T0 F0 := hK0
    have HB1 : Hid _ := hb
    have HF : Hid _ := hft
    clear hK0 hb hft
    have g1 := kalloc_at hK1 1
    obtain ⟨e1, e2, e3⟩ := aw_alloc 2 (by omega)
    rw [e1, e2, e3] at g1
    clear e1 e2 e3 hK1
    go_wp2_with fail
    refine g1.mono ?_
    rintro x w2 ⟨rfl, hK2, hu2⟩
    have HB2 : Hid _ := feet_below HB1.out HF.out hu2
    have g2 := kgrant_at hK2 1 1 2 r
    obtain ⟨e1, e2, e3⟩ := HG.out
    rw [e1, e2, e3] at g2
    clear HB1 hu2 hK2 g1 e1 e2 e3
    go_wp2_with fail
    refine g2.mono ?_
    rintro x w3 ⟨rfl, hK3, hu3⟩
    have HB3 : Hid _ := feet_below HB2.out HF.out hu3
    clear hu3 HB2 g2
    generalize allocV T0 2 1 (List.replicate 64 0) = vs at *
    have hl := hK3.mem.len
    have g3 := kwrite_at hK3 1 1 X v
    rw [(HW1.out vs).1, (HW1.out vs).2] at g3
    have hR := HR.out vs hl
    clear hl hK3
    go_wp2_with fail
    rw [← HXE.out]
    refine g3.mono ?_
    rintro x w4 ⟨rfl, hK4, hu4⟩
    have HB4 : Hid _ := feet_below HB3.out HF.out hu4
    have g4 := kread_at hK4 2 1 X
    rw [hR] at g4
    dsimp only at g4
    have HK4 : Hid _ := hK4
    clear hu4 HB3 g3 hK4 hR
    go_wp2_with fail
    refine g4.mono ?_
    rintro x w5 ⟨rfl, hb5⟩
    have HB5 : Hid (Below w.heap.size w w5) := HB4.out.trans (hb5.mono HB4.out.size)
    have hK5 := HK4.out.below hb5
    have g5 := fun u => kwrite_at hK5 2 1 X u
    rw [HW2.out] at g5
    clear hb5 HB4 HK4 hK5 g4
    go_wp2_with fail
    refine (g5 _).mono ?_
    rintro x w6 ⟨rfl, hK6, hu6⟩
    have HB6 : Hid _ := feet_below HB5.out HF.out hu6
    have g6 := kmap_at hK6 2 1 1 true
    rw [HM1.out] at g6
    clear hu6 HB5 hK6 g5
    go_wp2_with fail
    refine g6.mono ?_
    rintro x w7 ⟨rfl, hK7, hu7⟩
    have HB7 : Hid _ := feet_below HB6.out HF.out hu7
    have g7 := kmap_at hK7 2 1 1 false
    rw [HM2.out] at g7
    clear hu7 HB6 hK7 g6
    go_wp2_with fail
    refine g7.mono ?_
    rintro x w8 ⟨rfl, hK8, hu8⟩
    have HB8 : Hid _ := feet_below HB7.out HF.out hu8
    clear hu8 HB7 hK8 g7
    go_wp2_with fail
    refine (Go.Proofs.Ytfnafjddajgahaa.awake_at _).mono ?_
    rintro x w9 ⟨rfl, hb9⟩
    go_wp2_with fail
    go_ret
    exact ⟨rfl, HB8.out.trans (hb9.mono HB8.out.size)⟩

set_option maxHeartbeats 4000000 in
theorem shares_no (r word v : Int) (w : World) (h : r < 1 ∨ 7 < r) :
    Calls Try.prog 3 #[.int .i64 r, .int .i64 word, .int .u64 v] w fun e w' => e = .returned (.bool true) ∧ Below w.heap.size w w' := by
  have HG : Hid _ := sh_no r h
  rcases h with h | h
  · have i1 : decide (r < 1) = true := decide_eq_true h
    clear h
    go_enter Try.func3, Try.ntmps3
    go_wp2_with fail
    refine (knew_at 2 w (by decide) (by decide)).mono ?_
    rintro x w1 ⟨K, Y, rfl, hK0, hb, _, hft⟩
    have hK1 : KerAt w1 K Y 2 (List.replicate 64 0) T0 F0 := hK0
    have HB1 : Hid _ := hb
    have HF : Hid _ := hft
    clear hK0 hb hft
    have g1 := kalloc_at hK1 1
    obtain ⟨e1, e2, e3⟩ := aw_alloc 2 (by omega)
    rw [e1, e2, e3] at g1
    clear e1 e2 e3 hK1
    go_wp2_with fail
    refine g1.mono ?_
    rintro x w2 ⟨rfl, hK2, hu2⟩
    have HB2 : Hid _ := feet_below HB1.out HF.out hu2
    have g2 := kgrant_at hK2 1 1 2 r
    obtain ⟨e1, e2, e3⟩ := HG.out
    rw [e1, e2, e3] at g2
    clear HB1 hu2 hK2 g1 e1 e2 e3
    go_wp2_with fail
    refine g2.mono ?_
    rintro x w3 ⟨rfl, hK3, hu3⟩
    have HB3 : Hid _ := feet_below HB2.out HF.out hu3
    clear hu3 HB2 g2 hK3
    go_wp2_with fail
    refine (Go.Proofs.Ytfnafjddajgahaa.awake_at _).mono ?_
    rintro x w9 ⟨rfl, hb9⟩
    go_wp2_with fail
    go_ret
    exact ⟨rfl, HB3.out.trans (hb9.mono HB3.out.size)⟩
  · have i1 : decide (r < 1) = false := decide_eq_false (by omega)
    have i2 : decide (7 < r) = true := decide_eq_true h
    clear h
    go_enter Try.func3, Try.ntmps3
    go_wp2_with fail
    refine (knew_at 2 w (by decide) (by decide)).mono ?_
    rintro x w1 ⟨K, Y, rfl, hK0, hb, _, hft⟩
    have hK1 : KerAt w1 K Y 2 (List.replicate 64 0) T0 F0 := hK0
    have HB1 : Hid _ := hb
    have HF : Hid _ := hft
    clear hK0 hb hft
    have g1 := kalloc_at hK1 1
    obtain ⟨e1, e2, e3⟩ := aw_alloc 2 (by omega)
    rw [e1, e2, e3] at g1
    clear e1 e2 e3 hK1
    go_wp2_with fail
    refine g1.mono ?_
    rintro x w2 ⟨rfl, hK2, hu2⟩
    have HB2 : Hid _ := feet_below HB1.out HF.out hu2
    have g2 := kgrant_at hK2 1 1 2 r
    obtain ⟨e1, e2, e3⟩ := HG.out
    rw [e1, e2, e3] at g2
    clear HB1 hu2 hK2 g1 e1 e2 e3
    go_wp2_with fail
    refine g2.mono ?_
    rintro x w3 ⟨rfl, hK3, hu3⟩
    have HB3 : Hid _ := feet_below HB2.out HF.out hu3
    clear hu3 HB2 g2 hK3
    go_wp2_with fail
    refine (Go.Proofs.Ytfnafjddajgahaa.awake_at _).mono ?_
    rintro x w9 ⟨rfl, hb9⟩
    go_wp2_with fail
    go_ret
    exact ⟨rfl, HB3.out.trans (hb9.mono HB3.out.size)⟩

theorem own : ownKnob Try.prog.godebug = none := by kernel_rfl
theorem laidOut : laidOutB Try.prog = true := by kernel_rfl

set_option maxRecDepth 100000 in
theorem shares_lifted (os : Os) (started : os.Started) (H : Type) (enc : TypeId × Value → H) :
    ReturnsInHanded {} Try.checked os 3 .any (Rows.exomemSharesSpec.pre6 enc Try.prog Try.f3 Rows.exomemSharesRow.domain false) (Rows.exomemSharesSpec.post enc Try.prog Try.f3 false true false false) := by
  refine returnsInHanded_of_change (C := Try.checked) own started (by kernel_rfl) Try.func3
    (ChangeSpec.witness6 (enc := enc) (C := Try.checked) false ⟨#[], #[.int .i64 0, .int .i64 0, .int .u64 0], []⟩ 8 (by kernel_rfl) (by kernel_rfl) (by kernel_rfl) (by kernel_rfl)) ?_
  intro W base args ds gs before hval0 hW hcnd _
  have hval : ∀ (j : Nat) t v, Try.f3.params[j]? = some t → args[j]? = some v → Value.okWide Try.prog W .any base t v := hval0
  have hW' := hW
  obtain ⟨p, q, hA0, hV, rfl, hfz, hnd⟩ := hW
  have hA : DataW.TrodAll enc Try.prog W 0 (fun _ => true) true Try.f3.params.toList args.toList ds p := hA0
  rw [Try.params3] at hA hval
  obtain ⟨v0, vs0, d0, ds0, p0, q0, hargs, rfl, rfl, h0, r0⟩ := trodAll_cons hA
  obtain ⟨v1, vs1, d1, ds1, p1, q1, rfl, rfl, rfl, h1, r1⟩ := trodAll_cons r0
  obtain ⟨v2, vs2, d2, ds2, p2, q2, rfl, rfl, rfl, h2, r2⟩ := trodAll_cons r1
  obtain ⟨rfl, rfl, rfl⟩ := trodAll_nil r2
  obtain rfl : args = #[v0, v1, v2] := by cases args; simp_all
  obtain ⟨rfl, rfl⟩ := trodVars_none hV
  obtain ⟨a0, rfl, rfl, rfl, w0⟩ := open_int Try.underlying3 (hval 0 3 v0 rfl rfl) h0
  obtain ⟨a1, rfl, rfl, rfl, w1⟩ := open_int Try.underlying3 (hval 1 3 v1 rfl rfl) h1
  obtain ⟨a2, rfl, rfl, rfl, w2⟩ := open_int Try.underlying22 (hval 2 22 v2 rfl rfl) h2
  clear hA0 hval0
  have hwalk : Calls Try.prog 3 #[.int .i64 a0, .int .i64 a1, .int .u64 a2] W fun e w' => e = .returned (.bool true) ∧ Below W.heap.size W w' := by
    by_cases h : a0 < 1 ∨ 7 < a0
    · exact shares_no a0 a1 a2 W h
    · exact shares_yes a0 a1 a2 W (by omega) (by omega)
  refine hwalk.mono fun e W' ⟨he, bel⟩ => ?_
  subst he
  exact ⟨_, rfl, _, _, _, [], _, [], hW', trodAll_mk1 (shut_bool Try.underlying4 _), (trodAll_cons_mk (shut_int Try.underlying3 w0) (trodAll_cons_mk (shut_int Try.underlying3 w1) (trodAll_cons_mk (shut_int Try.underlying22 w2) trodAll_mk0))), rfl, bel.frame _, fun h => by cases h⟩

theorem shares_holds : Rows.ExomemSharesSaid :=
  OpenClaim.holds_of_wide 3 Try.f3 rfl rfl rfl rfl rfl rfl rfl ⟨rfl, rfl, rfl, rfl, rfl⟩ rfl rfl rfl rfl rfl (by kernel_rfl) Try.func3 (by kernel_rfl)
    (of_decide_eq_true (by kernel_rfl)) (by unfold Func.isWrapper; first | (rw [if_pos (by decide +kernel)]; kernel_rfl) | (rw [if_neg (by decide +kernel)]; exact ⟨rfl, rfl⟩))
    (fun os started H enc _ => shares_lifted os started H enc)
#print axioms shares_holds
end Go.Proofs.Ytfnafjddajgahaa
