/- Proved: januslaw21.ProcsOrphans answers true for every status and whether or not the first child ends ahead of its parent (zombies without a parent are gone, living children are nobody's), at the commit of this claim; no condition beyond the row's own. (Written by Orphans21.py.) -/
import Derived.Test.YtfcpcncafopobaaPcW
import Derived.ProofKit
import Derived.OpenShut
import Derived.ChangeOld
import Derived.Below
namespace Go.Proofs.Ytfcpcncafopobaa
open Go.ChangeShapes Go.WideShapes Go.ChangeAt Go.RowKit Go.Lib
set_option linter.unusedVariables false

def or3 : St := fkS aw2 2
def or4 : St := fkS or3 2
def or5 (s : Int) : St := exS or4 3 s
def or6a (s : Int) : St := exS (or5 s) 2 s
def or7a (s : Int) : St := exS (or6a s) 4 s
def or8a (s : Int) : St := wtS (or7a s) 1
def or6b (s : Int) : St := exS (or4) 2 s
def or7b (s : Int) : St := exS (or6b s) 4 s
def or8b (s : Int) : St := wtS (or7b s) 1
theorem or_0 : fkN aw2 2 = 3 := by kernel_rfl
theorem or_1 : fkE aw2 2 = 0 := by kernel_rfl
theorem or_2 : fkN or3 2 = 4 := by kernel_rfl
theorem or_3 : fkE or3 2 = 0 := by kernel_rfl
theorem or_4 : exE or4 3 = 0 := by kernel_rfl
theorem or_5a (s : Int) : exE (or5 s) 2 = 0 := by kernel_rfl
theorem or_6a (s : Int) : parI (or6a s) 3 = -1 := by kernel_rfl
theorem or_7a (s : Int) : parI (or6a s) 4 = 0 := by kernel_rfl
theorem or_8a (s : Int) : exE (or6a s) 4 = 0 := by kernel_rfl
theorem or_9a (s : Int) : wtN (or7a s) 1 = 2 := by kernel_rfl
theorem or_10a (s : Int) : wtT (or7a s) 1 = s := by kernel_rfl
theorem or_11a (s : Int) : wtE (or7a s) 1 = 0 := by kernel_rfl
theorem or_12a (s : Int) : wtB (or7a s) 1 = true := by kernel_rfl
theorem or_13a (s : Int) : parI (or8a s) 4 = -1 := by kernel_rfl
theorem or_5b : exE or4 2 = 0 := by kernel_rfl
theorem or_6b (s : Int) : parI (or6b s) 3 = 0 := by kernel_rfl
theorem or_7b (s : Int) : parI (or6b s) 4 = 0 := by kernel_rfl
theorem or_8b (s : Int) : exE (or6b s) 4 = 0 := by kernel_rfl
theorem or_9b (s : Int) : wtN (or7b s) 1 = 2 := by kernel_rfl
theorem or_10b (s : Int) : wtT (or7b s) 1 = s := by kernel_rfl
theorem or_11b (s : Int) : wtE (or7b s) 1 = 0 := by kernel_rfl
theorem or_12b (s : Int) : wtB (or7b s) 1 = true := by kernel_rfl
theorem or_13b (s : Int) : parI (or8b s) 4 = -1 := by kernel_rfl
set_option maxRecDepth 100000 in
set_option maxHeartbeats 8000000 in
theorem orphans_walk (s : Int) (f : Bool) (w : World) : Calls Try.prog 6 #[.int .i64 s, .bool f] w fun e w' => e = .returned (.bool true) ∧ Below w.heap.size w w' := by
  have hNew := new_at w
  obtain ⟨B, hB⟩ : ∃ B, B = w.heap.size := ⟨_, rfl⟩
  rw [← hB] at hNew ⊢
  have hq := eq_procs B
  have HBs : Hid (B = w.heap.size) := hB
  clear hB
  cases f with
  | true =>
    go_enter Try.func6, Try.ntmps6
    go_wp2_with fail
    refine hNew.mono ?_
    rintro e w0 ⟨rfl, hA, hb⟩
    have HA0 : Hid (PrAt w0 B B St0) := hA
    have HB0 : Hid (Below B w w0) := hb
    clear hNew hA hb
    have h := begin_at B B (St0) w0 HA0.out
    rw [aw_0] at h
    go_wp2_with fail
    refine h.mono ?_
    rintro e w1 ⟨rfl, hA, hT⟩
    have HA1 : Hid (PrAt w1 B B (beS (St0))) := hA
    have HB1 : Hid (Below B w w1) := HB0.out.trans (hT.below (by have := HA0.out.low; omega))
    clear h hA hT HA0 HB0
    have h := fork_at B B (aw1) 1 w1 HA1.out
    rw [aw_1, aw_2] at h
    go_wp2_with fail
    refine h.mono ?_
    rintro e w2 ⟨rfl, hA, hT⟩
    have HA2 : Hid (PrAt w2 B B (fkS (aw1) 1)) := hA
    have HB2 : Hid (Below B w w2) := HB1.out.trans (hT.below (by have := HA1.out.low; omega))
    clear h hA hT HA1 HB1
    have h := fork_at B B (aw2) 2 w2 HA2.out
    rw [or_0, or_1] at h
    go_wp2_with fail
    refine h.mono ?_
    rintro e w3 ⟨rfl, hA, hT⟩
    have HA3 : Hid (PrAt w3 B B (fkS (aw2) 2)) := hA
    have HB3 : Hid (Below B w w3) := HB2.out.trans (hT.below (by have := HA2.out.low; omega))
    clear h hA hT HA2 HB2
    have h := fork_at B B (or3) 2 w3 HA3.out
    rw [or_2, or_3] at h
    go_wp2_with fail
    refine h.mono ?_
    rintro e w4 ⟨rfl, hA, hT⟩
    have HA4 : Hid (PrAt w4 B B (fkS (or3) 2)) := hA
    have HB4 : Hid (Below B w w4) := HB3.out.trans (hT.below (by have := HA3.out.low; omega))
    clear h hA hT HA3 HB3
    have h := exit_at B B (or4) 3 s w4 HA4.out
    rw [or_4] at h
    go_wp2_with fail
    refine h.mono ?_
    rintro e w5 ⟨rfl, hA, hT⟩
    have HA5 : Hid (PrAt w5 B B (exS (or4) 3 s)) := hA
    have HB5 : Hid (Below B w w5) := HB4.out.trans (hT.below (by have := HA4.out.low; omega))
    clear h hA hT HA4 HB4
    have h := exit_at B B (or5 s) 2 s w5 HA5.out
    rw [or_5a] at h
    go_wp2_with fail
    refine h.mono ?_
    rintro e w6 ⟨rfl, hA, hT⟩
    have HA6 : Hid (PrAt w6 B B (exS (or5 s) 2 s)) := hA
    have HB6 : Hid (Below B w w6) := HB5.out.trans (hT.below (by have := HA5.out.low; omega))
    clear h hA hT HA5 HB5
    have h := parent_at B B (or6a s) 3 w6 HA6.out
    rw [or_6a] at h
    go_wp2_with fail
    refine h.mono ?_
    rintro e wx ⟨rfl, hw⟩
    rw [hw]
    clear hw wx h
    have h := parent_at B B (or6a s) 4 w6 HA6.out
    rw [or_7a] at h
    go_wp2_with fail
    refine h.mono ?_
    rintro e wx ⟨rfl, hw⟩
    rw [hw]
    clear hw wx h
    have h := exit_at B B (or6a s) 4 s w6 HA6.out
    rw [or_8a] at h
    go_wp2_with fail
    refine h.mono ?_
    rintro e w7 ⟨rfl, hA, hT⟩
    have HA7 : Hid (PrAt w7 B B (exS (or6a s) 4 s)) := hA
    have HB7 : Hid (Below B w w7) := HB6.out.trans (hT.below (by have := HA6.out.low; omega))
    clear h hA hT HA6 HB6
    have h := wait_at B B (or7a s) 1 w7 HA7.out
    rw [or_9a, or_10a, or_11a, or_12a] at h
    go_wp2_with fail
    refine h.mono ?_
    rintro e w8 ⟨rfl, hA, hT⟩
    have HA8 : Hid (PrAt w8 B B (wtS (or7a s) 1)) := hA
    have HB8 : Hid (Below B w w8) := HB7.out.trans (hT.below (by have := HA7.out.low; omega))
    clear h hA hT HA7 HB7
    have h := parent_at B B (or8a s) 4 w8 HA8.out
    rw [or_13a] at h
    go_wp2_with fail
    refine h.mono ?_
    rintro e wx ⟨rfl, hw⟩
    rw [hw]
    clear hw wx h
    go_wp2_with fail
    refine (awake_at _).mono ?_
    rintro e wz ⟨rfl, hbz⟩
    have HZ : Hid (Below B w wz) := HB8.out.trans (hbz.mono (by have := HB8.out.size; have := HBs.out; omega))
    clear hbz
    go_wp2
    go_ret
    exact ⟨rfl, HZ.out⟩
  | false =>
    go_enter Try.func6, Try.ntmps6
    go_wp2_with fail
    refine hNew.mono ?_
    rintro e w0 ⟨rfl, hA, hb⟩
    have HA0 : Hid (PrAt w0 B B St0) := hA
    have HB0 : Hid (Below B w w0) := hb
    clear hNew hA hb
    have h := begin_at B B (St0) w0 HA0.out
    rw [aw_0] at h
    go_wp2_with fail
    refine h.mono ?_
    rintro e w1 ⟨rfl, hA, hT⟩
    have HA1 : Hid (PrAt w1 B B (beS (St0))) := hA
    have HB1 : Hid (Below B w w1) := HB0.out.trans (hT.below (by have := HA0.out.low; omega))
    clear h hA hT HA0 HB0
    have h := fork_at B B (aw1) 1 w1 HA1.out
    rw [aw_1, aw_2] at h
    go_wp2_with fail
    refine h.mono ?_
    rintro e w2 ⟨rfl, hA, hT⟩
    have HA2 : Hid (PrAt w2 B B (fkS (aw1) 1)) := hA
    have HB2 : Hid (Below B w w2) := HB1.out.trans (hT.below (by have := HA1.out.low; omega))
    clear h hA hT HA1 HB1
    have h := fork_at B B (aw2) 2 w2 HA2.out
    rw [or_0, or_1] at h
    go_wp2_with fail
    refine h.mono ?_
    rintro e w3 ⟨rfl, hA, hT⟩
    have HA3 : Hid (PrAt w3 B B (fkS (aw2) 2)) := hA
    have HB3 : Hid (Below B w w3) := HB2.out.trans (hT.below (by have := HA2.out.low; omega))
    clear h hA hT HA2 HB2
    have h := fork_at B B (or3) 2 w3 HA3.out
    rw [or_2, or_3] at h
    go_wp2_with fail
    refine h.mono ?_
    rintro e w4 ⟨rfl, hA, hT⟩
    have HA4 : Hid (PrAt w4 B B (fkS (or3) 2)) := hA
    have HB4 : Hid (Below B w w4) := HB3.out.trans (hT.below (by have := HA3.out.low; omega))
    clear h hA hT HA3 HB3
    have h := exit_at B B (or4) 2 s w4 HA4.out
    rw [or_5b] at h
    go_wp2_with fail
    refine h.mono ?_
    rintro e w5 ⟨rfl, hA, hT⟩
    have HA5 : Hid (PrAt w5 B B (exS (or4) 2 s)) := hA
    have HB5 : Hid (Below B w w5) := HB4.out.trans (hT.below (by have := HA4.out.low; omega))
    clear h hA hT HA4 HB4
    have h := parent_at B B (or6b s) 3 w5 HA5.out
    rw [or_6b] at h
    go_wp2_with fail
    refine h.mono ?_
    rintro e wx ⟨rfl, hw⟩
    rw [hw]
    clear hw wx h
    have h := parent_at B B (or6b s) 4 w5 HA5.out
    rw [or_7b] at h
    go_wp2_with fail
    refine h.mono ?_
    rintro e wx ⟨rfl, hw⟩
    rw [hw]
    clear hw wx h
    have h := exit_at B B (or6b s) 4 s w5 HA5.out
    rw [or_8b] at h
    go_wp2_with fail
    refine h.mono ?_
    rintro e w6 ⟨rfl, hA, hT⟩
    have HA6 : Hid (PrAt w6 B B (exS (or6b s) 4 s)) := hA
    have HB6 : Hid (Below B w w6) := HB5.out.trans (hT.below (by have := HA5.out.low; omega))
    clear h hA hT HA5 HB5
    have h := wait_at B B (or7b s) 1 w6 HA6.out
    rw [or_9b, or_10b, or_11b, or_12b] at h
    go_wp2_with fail
    refine h.mono ?_
    rintro e w7 ⟨rfl, hA, hT⟩
    have HA7 : Hid (PrAt w7 B B (wtS (or7b s) 1)) := hA
    have HB7 : Hid (Below B w w7) := HB6.out.trans (hT.below (by have := HA6.out.low; omega))
    clear h hA hT HA6 HB6
    have h := parent_at B B (or8b s) 4 w7 HA7.out
    rw [or_13b] at h
    go_wp2_with fail
    refine h.mono ?_
    rintro e wx ⟨rfl, hw⟩
    rw [hw]
    clear hw wx h
    go_wp2_with fail
    refine (awake_at _).mono ?_
    rintro e wz ⟨rfl, hbz⟩
    have HZ : Hid (Below B w wz) := HB7.out.trans (hbz.mono (by have := HB7.out.size; have := HBs.out; omega))
    clear hbz
    go_wp2
    go_ret
    exact ⟨rfl, HZ.out⟩

theorem own : ownKnob Try.prog.godebug = none := by kernel_rfl
theorem laidOut : laidOutB Try.prog = true := by kernel_rfl

set_option maxRecDepth 100000 in
theorem orphans_lifted (os : Os) (started : os.Started) (H : Type) (enc : TypeId × Value → H) :
    ReturnsInHanded {} Try.checked os 6 .any (Rows.procsOrphansSpec.pre6 enc Try.prog Try.f6 Rows.procsOrphansRow.domain false) (Rows.procsOrphansSpec.post enc Try.prog Try.f6 false true false false) := by
  refine returnsInHanded_of_change (C := Try.checked) own started (by kernel_rfl) Try.func6
    (ChangeSpec.witness6 (enc := enc) (C := Try.checked) false ⟨#[], #[.int .i64 0, .bool false], []⟩ 8 (by kernel_rfl) (by kernel_rfl) (by kernel_rfl) (by kernel_rfl)) ?_
  intro W base args ds gs before hval0 hW hcnd _
  have hval : ∀ (j : Nat) t v, Try.f6.params[j]? = some t → args[j]? = some v → Value.okWide Try.prog W .any base t v := hval0
  have hW' := hW
  obtain ⟨p, q, hA0, hV, rfl, hfz, hnd⟩ := hW
  have hA : DataW.TrodAll enc Try.prog W 0 (fun _ => true) true Try.f6.params.toList args.toList ds p := hA0
  rw [Try.params6] at hA hval
  obtain ⟨v0, vs0, d0, ds0, p0, q0, hargs, rfl, rfl, h0, r0⟩ := trodAll_cons hA
  obtain ⟨v1, vs1, d1, ds1, p1, q1, rfl, rfl, rfl, h1, r1⟩ := trodAll_cons r0
  obtain ⟨rfl, rfl, rfl⟩ := trodAll_nil r1
  obtain rfl : args = #[v0, v1] := by cases args; simp_all
  obtain ⟨rfl, rfl⟩ := trodVars_none hV
  obtain ⟨a0, rfl, rfl, rfl, w0⟩ := open_int Try.underlying3 (hval 0 3 v0 rfl rfl) h0
  obtain ⟨a1, rfl, rfl, rfl⟩ := open_bool Try.underlying4 (hval 1 4 v1 rfl rfl) h1
  clear hA0 hval0
  have hwalk : Calls Try.prog 6 #[.int .i64 a0, .bool a1] W fun e w' => e = .returned (.bool true) ∧ Below W.heap.size W w' := orphans_walk a0 a1 W
  refine hwalk.mono fun e W' ⟨he, bel⟩ => ?_
  subst he
  exact ⟨_, rfl, _, _, _, [], _, [], hW', trodAll_mk1 (shut_bool Try.underlying4 _), (trodAll_cons_mk (shut_int Try.underlying3 w0) (trodAll_cons_mk (shut_bool Try.underlying4 _) trodAll_mk0)), rfl, bel.frame _, fun h => by cases h⟩

theorem orphans_holds : Rows.ProcsOrphansSaid :=
  OpenClaim.holds_of_wide 6 Try.f6 rfl rfl rfl rfl rfl rfl rfl ⟨rfl, rfl, rfl, rfl, rfl⟩ rfl rfl rfl rfl rfl (by kernel_rfl) Try.func6 (by kernel_rfl)
    (of_decide_eq_true (by kernel_rfl)) (by unfold Func.isWrapper; first | (rw [if_pos (by decide +kernel)]; kernel_rfl) | (rw [if_neg (by decide +kernel)]; exact ⟨rfl, rfl⟩))
    (fun os started H enc _ => orphans_lifted os started H enc)
#print axioms orphans_holds
end Go.Proofs.Ytfcpcncafopobaa
