/- Proved: januslaw18.FdsShares answers true for every number (descriptors that name one file share its place, others do not), at the commit of this claim; no condition beyond the row's own. -/
import Derived.Test.YtkdbmfckfbmbiaaDeed18
import Derived.ProofKit
import Derived.OpenShut
import Derived.ChangeOld
import Derived.Below
namespace Go.Proofs.Ytkdbmfckfbmbiaa
open Go.ChangeShapes Go.WideShapes Go.ChangeAt Go.RowKit Go.Lib
set_option linter.unusedVariables false

def x27 : Fl := ⟨2, 7, 0, false, 0⟩
def s1 : FS := openT FS.zero 1 x27
def s2 : FS := openT s1 1 x27
def s3 : FS := dupT s2 1 0
def s4 : FS := forkT s3 1 2
theorem s1_inv : Inv s1 := Inv.zero.openT 1 _
theorem s2_inv : Inv s2 := s1_inv.openT 1 _
theorem s3_inv : Inv s3 := s2_inv.dupT 1 0
theorem s4_inv : Inv s4 := s3_inv.forkT 1 2
theorem s4_nm : nm s4 2 2 = 1 := by kernel_rfl
theorem s4_10 : nm s4 1 0 = 1 := by kernel_rfl
theorem s4_11 : nm s4 1 1 = 2 := by kernel_rfl
theorem s4_f0 : s4.f 0 = ⟨2, 7, 0, false, 4⟩ := by kernel_rfl
theorem s4_f1 : s4.f 1 = ⟨2, 7, 0, false, 2⟩ := by kernel_rfl
theorem seek_no {o : Int} (h : o < 0) : seekE s4 2 2 o = 22 ∧ seekT s4 2 2 o = s4 := by
  unfold seekE seekT
  rw [s4_nm, if_neg (by omega), if_pos h, if_pos (Or.inr h)]
  exact ⟨rfl, rfl⟩
theorem seek_of {S : FS} {a c o : Int} (h : nm S a c = 1) (ho : ¬ o < 0) : seekE S a c o = 0 ∧ seekT S a c o = S.setF 0 ((S.f 0).at o) := by
  unfold seekE seekT
  rw [h, if_neg (by omega), if_neg ho, if_neg (by omega)]
  exact ⟨rfl, rfl⟩
theorem seek_yes {o : Int} (h : ¬ o < 0) : seekE s4 2 2 o = 0 ∧ seekT s4 2 2 o = s4.setF 0 ((s4.f 0).at o) := seek_of s4_nm h
theorem nm_setF (S : FS) (p : Nat) (x : Fl) (a c : Int) : nm (S.setF p x) a c = nm S a c := rfl
theorem get_s4 : getX s4 1 0 = ⟨2, 7, 0, false, 4⟩ ∧ getE s4 1 0 = 0 ∧ getX s4 1 1 = ⟨2, 7, 0, false, 2⟩ ∧ getE s4 1 1 = 0 := ⟨by kernel_rfl, by kernel_rfl, by kernel_rfl, by kernel_rfl⟩
theorem get_s5 (o : Int) : getX (s4.setF 0 ((s4.f 0).at o)) 1 0 = ⟨2, 7, o, false, 4⟩ ∧ getE (s4.setF 0 ((s4.f 0).at o)) 1 0 = 0 ∧ getX (s4.setF 0 ((s4.f 0).at o)) 1 1 = ⟨2, 7, 0, false, 2⟩ ∧ getE (s4.setF 0 ((s4.f 0).at o)) 1 1 = 0 := by
  have e0 : nm (s4.setF 0 ((s4.f 0).at o)) 1 0 = 1 := by rw [nm_setF]; exact s4_10
  have e1 : nm (s4.setF 0 ((s4.f 0).at o)) 1 1 = 2 := by rw [nm_setF]; exact s4_11
  unfold getX getE
  rw [e0, e1, if_neg (by omega), if_neg (by omega), if_neg (by omega), if_neg (by omega)]
  refine ⟨?_, rfl, ?_, rfl⟩
  · rw [show 1 - 1 = 0 from rfl, FS.setF_same, s4_f0]
    rfl
  · rw [show 2 - 1 = 1 from rfl, FS.setF_other _ _ _ _ (by omega), s4_f1]

/-- Two gets' answers. -/
def twoRow (o : Int) (n : Int) : Array Value := #[.int .i64 2, .int .i64 7, .int .i64 o, .bool false, .int .i64 n]
set_option maxHeartbeats 4000000 in
theorem shares_walk (o : Int) (w : World) :
    Calls Try.prog 6 #[.int .i64 o] w fun e w' => e = .returned (.bool true) ∧ Below w.heap.size w w' := by
  obtain ⟨S5, se, o5, hS5, hI5, hT5, hE5, hX, hcase⟩ : ∃ (S5 : FS) (se o5 : Int), seekT s4 2 2 o = S5 ∧ Inv S5 ∧ True ∧ seekE s4 2 2 o = se ∧ (getX S5 1 0 = ⟨2, 7, o5, false, 4⟩ ∧ getE S5 1 0 = 0 ∧ getX S5 1 1 = ⟨2, 7, 0, false, 2⟩ ∧ getE S5 1 1 = 0) ∧ ((o < 0 ∧ se = 22 ∧ o5 = 0) ∨ (¬ o < 0 ∧ se = 0 ∧ o5 = o)) := by
    by_cases h : o < 0
    · exact ⟨s4, 22, 0, (seek_no h).2, s4_inv, trivial, (seek_no h).1, get_s4, Or.inl ⟨h, rfl, rfl⟩⟩
    · exact ⟨_, 0, o, (seek_yes h).2, by rw [← (seek_yes h).2]; exact s4_inv.seekT 2 2 o, trivial, (seek_yes h).1, get_s5 o, Or.inr ⟨h, rfl, rfl⟩⟩
  obtain ⟨gx0, ge0, gx1, ge1⟩ := hX
  have HS5 : Hid (seekT s4 2 2 o = S5) := hS5
  have HE5 : Hid (seekE s4 2 2 o = se) := hE5
  have HC : Hid ((o < 0 ∧ se = 22 ∧ o5 = 0) ∨ (¬ o < 0 ∧ se = 0 ∧ o5 = o)) := hcase
  have HG : Hid (getX S5 1 0 = ⟨2, 7, o5, false, 4⟩ ∧ getE S5 1 0 = 0 ∧ getX S5 1 1 = ⟨2, 7, 0, false, 2⟩ ∧ getE S5 1 1 = 0) := ⟨gx0, ge0, gx1, ge1⟩
  clear hS5 hE5 hcase gx0 ge0 gx1 ge1 hT5
  go_enter Try.func6, Try.ntmps6
  go_wp2_with fail
  refine (new_at w).mono ?_
  rintro e w1 ⟨rfl, hF, hB, hsz⟩
  obtain ⟨b, hbq⟩ : ∃ b, b = w.heap.size := ⟨_, rfl⟩
  rw [← hbq] at hF ⊢
  have hbb : w.heap.size ≤ b := by omega
  have HF1 : Hid (FdAt w1 b FS.zero) := hF
  have HB1 : Hid (Below w.heap.size w w1) := hB
  have hne := ptr_eq b
  clear hF hB hsz hbq
  go_wp2_with fail
  refine (open_at b FS.zero 1 x27 w1 HF1.out).mono ?_
  rintro e w2 ⟨rfl, hF, hU⟩
  have HF2 : Hid (FdAt w2 b s1) := hF
  have HB2 : Hid (Below w.heap.size w w2) := upd_below HB1.out hU hbb
  clear hF hU HF1 HB1
  go_wp2_with fail
  refine (open_at b s1 1 x27 w2 HF2.out).mono ?_
  rintro e w3 ⟨rfl, hF, hU⟩
  have HF3 : Hid (FdAt w3 b s2) := hF
  have HB3 : Hid (Below w.heap.size w w3) := upd_below HB2.out hU hbb
  clear hF hU HF2 HB2
  go_wp2_with fail
  refine (dup_at b s2 1 0 w3 HF3.out s2_inv).mono ?_
  rintro e w4 ⟨rfl, hF, hU⟩
  have HF4 : Hid (FdAt w4 b s3) := hF
  have HB4 : Hid (Below w.heap.size w w4) := upd_below HB3.out hU hbb
  clear hF hU HF3 HB3
  go_wp2_with fail
  refine (fork_at b s3 1 2 w4 HF4.out s3_inv).mono ?_
  rintro e w5 ⟨rfl, hF, hU⟩
  have HF5 : Hid (FdAt w5 b s4) := hF
  have HB5 : Hid (Below w.heap.size w w5) := upd_below HB4.out hU hbb
  clear hF hU HF4 HB4
  go_wp2_with fail
  refine (seek_at b s4 2 2 o w5 HF5.out s4_inv).mono ?_
  rw [HE5.out, HS5.out]
  rintro e w6 ⟨rfl, hF, hU⟩
  have HF6 : Hid (FdAt w6 b S5) := hF
  have HB6 : Hid (Below w.heap.size w w6) := upd_below HB5.out hU hbb
  clear hF hU HF5 HB5
  go_wp2_with fail
  refine (get_at b S5 1 0 w6 HF6.out hI5).mono ?_
  rw [HG.out.1, HG.out.2.1]
  rintro e w7 ⟨rfl, hb7⟩
  unfold Fl.row
  dsimp only
  obtain ⟨W7, hW7⟩ : ∃ W, W = w7.alloc (.cells #[.int .i64 2, .int .i64 7, .int .i64 o5, .bool false, .int .i64 4] 30) := ⟨_, rfl⟩
  have HX7 : Hid (W7.heap[w7.heap.size]? = some (.cells #[.int .i64 2, .int .i64 7, .int .i64 o5, .bool false, .int .i64 4] 30)) := by show W7.heap[w7.heap.size]? = _; rw [hW7]; exact heap_alloc_new _ _
  have hb67 : Below w6.heap.size w6 W7 := by rw [hW7]; exact hb7.alloc hb7.size _
  have HF7 : Hid (FdAt W7 b S5) := HF6.out.below hb67
  have HB7 : Hid (Below w.heap.size w W7) := HB6.out.trans (hb67.mono HB6.out.size)
  have HW7 : Hid _ := hW7
  obtain ⟨g7, hg7⟩ : ∃ g, g = w7.heap.size := ⟨_, rfl⟩
  rw [← hg7] at HX7
  have HG7 : Hid _ := hg7
  clear HF6 HB6 hb7 hb67 hW7 hg7
  go_wp2_with fail
  rw [← Hid.out HW7, ← Hid.out HG7]
  clear HW7 HG7
  refine (get_at b S5 1 1 W7 HF7.out hI5).mono ?_
  rw [HG.out.2.2.1, HG.out.2.2.2]
  rintro e w8 ⟨rfl, hb8⟩
  unfold Fl.row
  dsimp only
  have hX7 := (hb8.block _ (lt_of_heap HX7.out)).trans HX7.out
  have HB8 : Hid (Below w.heap.size w w8) := HB7.out.trans (hb8.mono HB7.out.size)
  have hs8 := HB8.out.size
  have x71 : w8.cell? ⟨g7, 1, none⟩ = some (.int .i64 7) := by rw [cell_of_heap hX7]; rfl
  have x72 : w8.cell? ⟨g7, 2, none⟩ = some (.int .i64 o5) := by rw [cell_of_heap hX7]; rfl
  have x74 : w8.cell? ⟨g7, 4, none⟩ = some (.int .i64 4) := by rw [cell_of_heap hX7]; rfl
  have hlt7 := lt_of_heap hX7
  clear HF7 HB7 hb8 hX7 HX7 HG HS5 HE5 hI5
  have hc := HC.out
  rcases hc with ⟨h1, h2, h3⟩ | ⟨h1, h2, h3⟩
  · have g0 : decide (o < 0) = true := decide_eq_true h1
    subst h2 h3
    clear HC h1
    go_wp2_with fail
    refine (awake_at _).mono ?_
    rintro e w9 ⟨rfl, hb9⟩
    have HB9 : Hid (Below w.heap.size w w9) := (HB8.out.alloc hs8 _).trans (hb9.mono (by simp; omega))
    clear hb9
    go_wp2
    go_ret
    exact ⟨rfl, HB9.out⟩
  · have g0 : decide (o < 0) = false := decide_eq_false (by omega)
    subst h2 h3
    clear HC h1
    go_wp2_with fail
    refine (awake_at _).mono ?_
    rintro e w9 ⟨rfl, hb9⟩
    have HB9 : Hid (Below w.heap.size w w9) := (HB8.out.alloc hs8 _).trans (hb9.mono (by simp; omega))
    clear hb9
    go_wp2
    go_ret
    exact ⟨rfl, HB9.out⟩

theorem own : ownKnob Try.prog.godebug = none := by kernel_rfl
theorem laidOut : laidOutB Try.prog = true := by kernel_rfl

set_option maxRecDepth 100000 in
theorem shares_lifted (os : Os) (started : os.Started) (H : Type) (enc : TypeId × Value → H) :
    ReturnsInHanded {} Try.checked os 6 .any (Rows.fdsSharesSpec.pre6 enc Try.prog Try.f6 Rows.fdsSharesRow.domain false) (Rows.fdsSharesSpec.post enc Try.prog Try.f6 false true false false) := by
  refine returnsInHanded_of_change (C := Try.checked) own started (by kernel_rfl) Try.func6
    (ChangeSpec.witness6 (enc := enc) (C := Try.checked) false ⟨#[], #[.int .i64 0], []⟩ 8 (by kernel_rfl) (by kernel_rfl) (by kernel_rfl) (by kernel_rfl)) ?_
  intro W base args ds gs before hval0 hW hcnd _
  have hval : ∀ (j : Nat) t v, Try.f6.params[j]? = some t → args[j]? = some v → Value.okWide Try.prog W .any base t v := hval0
  have hW' := hW
  obtain ⟨p, q, hA0, hV, rfl, hfz, hnd⟩ := hW
  have hA : DataW.TrodAll enc Try.prog W 0 (fun _ => true) true Try.f6.params.toList args.toList ds p := hA0
  rw [Try.params6] at hA hval
  obtain ⟨v0, vs0, d0, ds0, p0, q0, hargs, rfl, rfl, h0, r0⟩ := trodAll_cons hA
  obtain ⟨rfl, rfl, rfl⟩ := trodAll_nil r0
  obtain rfl : args = #[v0] := by cases args; simp_all
  obtain ⟨rfl, rfl⟩ := trodVars_none hV
  obtain ⟨a0, rfl, rfl, rfl, w0⟩ := open_int Try.underlying3 (hval 0 3 v0 rfl rfl) h0
  clear hA0 hval0
  have hwalk : Calls Try.prog 6 #[.int .i64 a0] W fun e w' => e = .returned (.bool true) ∧ Below W.heap.size W w' := shares_walk a0 W
  refine hwalk.mono fun e W' ⟨he, bel⟩ => ?_
  subst he
  exact ⟨_, rfl, _, _, _, [], _, [], hW', trodAll_mk1 (shut_bool Try.underlying4 _), (trodAll_cons_mk (shut_int Try.underlying3 w0) trodAll_mk0), rfl, bel.frame _, fun h => by cases h⟩

theorem shares_holds : Rows.FdsSharesSaid :=
  OpenClaim.holds_of_wide 6 Try.f6 rfl rfl rfl rfl rfl rfl rfl ⟨rfl, rfl, rfl, rfl, rfl⟩ rfl rfl rfl rfl rfl (by kernel_rfl) Try.func6 (by kernel_rfl)
    (of_decide_eq_true (by kernel_rfl)) (by unfold Func.isWrapper; first | (rw [if_pos (by decide +kernel)]; kernel_rfl) | (rw [if_neg (by decide +kernel)]; exact ⟨rfl, rfl⟩))
    (fun os started H enc _ => shares_lifted os started H enc)
#print axioms shares_holds
end Go.Proofs.Ytkdbmfckfbmbiaa
