/- Proved: januslaw03.BlocksOwn answers true for every number (words that were handed in or out are not the disk's), at the commit of this claim; no condition beyond the row's own. -/
import Derived.Test.YtoceadcifgkimaaDiskC
import Derived.ProofKit
import Derived.OpenShut
import Derived.ChangeOld
import Derived.Below
namespace Go.Proofs.Ytoceadcifgkimaa
open Go.ChangeShapes Go.WideShapes Go.ChangeAt Go.RowKit
set_option linter.unusedVariables false

theorem blk_zero (v : Int) (h0 : 0 ≤ v) (h1 : v < 18446744073709551616) : (blk v (cnt 32)).getD 0 0 = v := by
  show IntKind.u64.wrap (v + ((0 : Nat) : Int)) = v
  rw [show v + ((0 : Nat) : Int) = v by simp]
  simp [IntKind.wrap, IntKind.bits, IntKind.signed]
  omega

set_option maxHeartbeats 2000000 in
theorem own_walk (v : Int) (w : World) (h0 : 0 ≤ v) (h1 : v < 18446744073709551616) :
    Calls Try.prog 5 #[.int .u64 v] w fun e w' => e = .returned (.bool true) ∧ Below w.heap.size w w' := by
  have HZ : Hid _ := blk_zero v h0 h1
  clear h0 h1
  go_enter Try.func5, Try.ntmps5
  go_wp2_with fail
  refine (new_at 1 _ (by omega) (by omega)).mono ?_
  rintro e w1 ⟨rfl, hm1, hb1, hs1⟩
  have HS1 : Hid _ := hs1
  clear hs1
  go_wp2_with fail
  refine (block_row 32 v _).mono ?_
  rintro e w2 ⟨u2, rfl, hr2, hb2⟩
  have hm2 := hm1.below hb2
  obtain ⟨a2, c2, e2, _, _, hf2⟩ := id hr2
  obtain ⟨g2, cur2, rfl, hg2, hh2, hc2⟩ := hf2 (by intro e; have := blk32 v; rw [e] at this; simp at this)
  rw [blk32] at e2
  subst e2
  go_wp2_with fail
  refine (put_at w1.heap.size _ _ _ _ _ _ _ 0 _ _ hm2 (by omega) (by simp) (by omega) hr2 (blk32 v) (by have := HS1.out; omega)).mono ?_
  rintro e w3 ⟨rfl, hm3, hu3⟩
  have hh3 : w3.heap[g2]? = _ := (hu3.block g2 (lt_of_heap hh2) (by have := HS1.out; omega)).trans hh2
  obtain ⟨x0, d0⟩ : ∃ x0, w3.cell? ⟨g2, 0, none⟩ = some (.int .u64 x0) := ⟨_, by rw [cell_of_heap hh3]; exact hc2 0 _ rfl⟩
  have f0 : w3.frozen? ⟨g2, 0, none⟩ = false := frozen_of_heap hh3
  have hg2' : g2 ≠ w.heap.size ∧ g2 ≠ w.heap.size + 1 := by have := HS1.out; omega
  clear hf2 hh2 hc2 hh3 hr2
  go_wp2_with fail
  have hm4 : DiskAt (w3.setCell ⟨g2, 0, none⟩ (.int .u64 (IntKind.u64.wrap (x0 + 1)))) _ _ _ _ _ _ := hm3.keep (Below.heap_setCell _ _ _ _ (Ne.symm hg2'.2)) (Below.heap_setCell _ _ _ _ (Ne.symm hg2'.1))
  have hs4 : (w3.setCell ⟨g2, 0, none⟩ (.int .u64 (IntKind.u64.wrap (x0 + 1)))).heap.size = w3.heap.size := by simp [World.setCell]
  have HB4 : Hid (Below w.heap.size w (w3.setCell ⟨g2, 0, none⟩ (.int .u64 (IntKind.u64.wrap (x0 + 1))))) := by
    have hs1 := HS1.out
    have s2 := hb2.size
    have b3 := hu3.below2 (B := w.heap.size) (by omega) (by omega) (by omega)
    exact ((hb1.trans (hb2.mono (by omega))).trans b3).setCell (p := ⟨g2, 0, none⟩) (by show w.heap.size ≤ g2; omega) _
  obtain ⟨W4, hW4⟩ : ∃ W, W = w3.setCell ⟨g2, 0, none⟩ (.int .u64 (IntKind.u64.wrap (x0 + 1))) := ⟨_, rfl⟩
  rw [← hW4] at hm4 hs4 HB4 ⊢
  have e4 : frameOf (splice (List.replicate ((1 : Int).toNat * 32) 0) ((0 : Int).toNat * 32) (blk v (cnt 32))) (0 : Int).toNat = blk v (cnt 32) := splice_frame _ _ 1 0 (by simp) (by omega) (blk32 v)
  have E4 : Hid _ := e4
  have HS4 : Hid _ := hs4
  have HS3 : Hid (w1.heap.size ≤ w3.heap.size) := Nat.le_trans hb2.size hu3.size
  clear hW4 hs4 e4 d0 f0 hm3 hu3 hm2 hb2 hm1 hb1
  refine (get_at _ _ _ _ _ _ 0 _ hm4 (by omega) (by simp) (by omega)).mono ?_
  rintro e w5 ⟨g5, rfl, hr5, hm5, hu5⟩
  rw [E4.out] at hr5
  have c50 := hr5.cell 0 (by rw [blk32]; omega)
  rw [HZ.out] at c50
  have c51 := hr5.cell 1 (by rw [blk32]; omega)
  obtain ⟨x1, hx1⟩ : ∃ x1, x1 = (blk v (cnt 32)).getD 1 0 := ⟨_, rfl⟩
  rw [← hx1] at c51
  clear hx1
  obtain ⟨f51, hg5⟩ : w5.frozen? ⟨g5, 1, none⟩ = false ∧ W4.heap.size ≤ g5 := by
    obtain ⟨a, c, e, _, _, hf⟩ := hr5
    obtain ⟨g', cur, e2, hg, hh, _⟩ := hf (by intro e; have := blk32 v; rw [e] at this; simp at this)
    simp only [Value.slice.injEq] at e
    obtain ⟨e3, _⟩ := e
    rw [← e3] at e2
    simp only [Option.some.injEq, Addr.mk.injEq] at e2
    obtain ⟨rfl, _⟩ := e2
    exact ⟨frozen_of_heap hh, hg⟩
  have hg5' : g5 ≠ w.heap.size ∧ g5 ≠ w.heap.size + 1 ∧ w.heap.size ≤ g5 := by have := HS1.out; have := HS3.out; have := HS4.out; omega
  go_wp2_with fail
  have hm6 : DiskAt (w5.setCell ⟨g5, 1, none⟩ (.int .u64 (IntKind.u64.wrap (x1 + 1)))) _ _ _ _ _ _ := hm5.keep (Below.heap_setCell _ _ _ _ (Ne.symm hg5'.2.1)) (Below.heap_setCell _ _ _ _ (Ne.symm hg5'.1))
  have HB6 : Hid (Below w.heap.size w (w5.setCell ⟨g5, 1, none⟩ (.int .u64 (IntKind.u64.wrap (x1 + 1))))) :=
    ((HB4.out).trans (hu5.below (by omega) (HB4.out).size)).setCell (p := ⟨g5, 1, none⟩) hg5'.2.2 _
  obtain ⟨W6, hW6⟩ : ∃ W, W = w5.setCell ⟨g5, 1, none⟩ (.int .u64 (IntKind.u64.wrap (x1 + 1))) := ⟨_, rfl⟩
  rw [← hW6] at hm6 HB6 ⊢
  clear hW6 c50 c51 f51 hm5 hu5 hr5 hm4
  refine (get_at _ _ _ _ _ _ 0 _ hm6 (by omega) (by simp) (by omega)).mono ?_
  rintro e w7 ⟨g7, rfl, hr7, hm7, hu7⟩
  rw [E4.out] at hr7
  go_wp2_with fail
  refine (block_row 32 v _).mono ?_
  rintro e w8 ⟨u8, rfl, hr8, hb8⟩
  have hr7' := hr7.keep (Keeps.of_below hb8)
  go_wp2_with fail
  refine (words_same _ _ _ _ _ _ hr7' hr8 (by rw [blk32]; omega)).mono ?_
  rintro e w9 ⟨rfl, hq9⟩
  have hb9 := drewN_below hq9
  have HQ : Hid _ := hq9
  clear hq9
  go_wp2_with fail
  refine (awake_any _).mono ?_
  rintro e w10 ⟨rfl, hb10⟩
  go_wp2_with fail
  go_ret
  have b7 := (HB6.out).trans (hu7.below (B := w.heap.size) (by omega) (HB6.out).size)
  have s7 := b7.size
  have s8 := hb8.size
  have s9 := hb9.size
  exact ⟨rfl, ((b7.trans (hb8.mono (by omega))).trans (hb9.mono (by omega))).trans (hb10.mono (by omega))⟩

theorem own : ownKnob Try.prog.godebug = none := by kernel_rfl
theorem laidOut : laidOutB Try.prog = true := by kernel_rfl

set_option maxRecDepth 100000 in
theorem own_lifted (os : Os) (started : os.Started) (H : Type) (enc : TypeId × Value → H) :
    ReturnsInHanded {} Try.checked os 5 .any (Rows.blocksOwnSpec.pre6 enc Try.prog Try.f5 Rows.blocksOwnRow.domain false) (Rows.blocksOwnSpec.post enc Try.prog Try.f5 false true false false) := by
  refine returnsInHanded_of_change (C := Try.checked) own started (by kernel_rfl) Try.func5
    (ChangeSpec.witness6 (enc := enc) (C := Try.checked) false ⟨#[], #[.int .u64 0], []⟩ 8 (by kernel_rfl) (by kernel_rfl) (by kernel_rfl) (by kernel_rfl)) ?_
  intro W base args ds gs before hval0 hW hcnd _
  have hval : ∀ (j : Nat) t v, Try.f5.params[j]? = some t → args[j]? = some v → Value.okWide Try.prog W .any base t v := hval0
  have hW' := hW
  obtain ⟨p, q, hA0, hV, rfl, hfz, hnd⟩ := hW
  have hA : DataW.TrodAll enc Try.prog W 0 (fun _ => true) true Try.f5.params.toList args.toList ds p := hA0
  rw [Try.params5] at hA hval
  obtain ⟨v0, vs0, d0, ds0, p0, q0, hargs, rfl, rfl, h0, r0⟩ := trodAll_cons hA
  obtain ⟨rfl, rfl, rfl⟩ := trodAll_nil r0
  obtain rfl : args = #[v0] := by cases args; simp_all
  obtain ⟨rfl, rfl⟩ := trodVars_none hV
  obtain ⟨a0, rfl, rfl, rfl, w0⟩ := open_int Try.underlying27 (hval 0 27 v0 rfl rfl) h0
  clear hA0 hval0
  have hwalk : Calls Try.prog 5 #[.int .u64 a0] W fun e w' => e = .returned (.bool true) ∧ Below W.heap.size W w' := own_walk a0 W (bounds_u64 w0).1 (by have := (bounds_u64 w0).2; omega)
  refine hwalk.mono fun e W' ⟨he, bel⟩ => ?_
  subst he
  exact ⟨_, rfl, _, _, _, [], _, [], hW', trodAll_mk1 (shut_bool Try.underlying4 _), (trodAll_cons_mk (shut_int Try.underlying27 w0) trodAll_mk0), rfl, bel.frame _, fun h => by cases h⟩

theorem own_holds : Rows.BlocksOwnSaid :=
  OpenClaim.holds_of_wide 5 Try.f5 rfl rfl rfl rfl rfl rfl rfl ⟨rfl, rfl, rfl, rfl, rfl⟩ rfl rfl rfl rfl rfl (by kernel_rfl) Try.func5 (by kernel_rfl)
    (of_decide_eq_true (by kernel_rfl)) (by unfold Func.isWrapper; first | (rw [if_pos (by decide +kernel)]; kernel_rfl) | (rw [if_neg (by decide +kernel)]; exact ⟨rfl, rfl⟩))
    (fun os started H enc _ => own_lifted os started H enc)
#print axioms own_holds
end Go.Proofs.Ytoceadcifgkimaa
