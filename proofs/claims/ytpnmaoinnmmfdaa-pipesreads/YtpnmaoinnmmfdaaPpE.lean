/- Package pipes: Make, an append of words. -/
import Derived.Test.YtpnmaoinnmmfdaaPpD
import Derived.Deep.RegionLaw
namespace Go.Proofs.Ytpnmaoinnmmfdaa
open Go.RowKit Go.Lib
set_option linter.unusedVariables false

/-- Which are made, as cells. -/
def mvs (S : PS) : List Value := (List.range 16).map (fun i => Value.bool (S i).isSome)
theorem mvs_len (S : PS) : (mvs S).length = 16 := by simp [mvs]
theorem mvs_get (S : PS) (i : Nat) (hi : i < 16) : (mvs S)[i]? = some (.bool (S i).isSome) := by
  unfold mvs
  rw [List.getElem?_map, List.getElem?_range hi]
  rfl
theorem mvs_range {w : World} {b : Nat} {row : Array Value} {S : PS} (hP : PB w b row) (hR : PpR row S) : w.rangeAt b 0 (mvs S) := by
  intro j v hv
  have hj : j < 16 := by have := (List.getElem?_eq_some_iff.1 hv).1; rwa [mvs_len] at this
  rw [mvs_get S j hj] at hv
  rw [Nat.zero_add, hP.cell, hR.made j hj]
  exact hv
theorem bools16 : (Try.prog.info? 26).map (·.size) = some 16 := by kernel_rfl
theorem made_index (S : PS) (p : Nat) (hp : p < 16) (W : World) : (Instr.index 26 (.agg (mvs S).toArray) (.int .i64 p)).run Try.prog W = .ok (.bool (S p).isSome) W := by
  have h1 : (mvs S).toArray[p * 1]? = some (.bool (S p).isSome) := by
    rw [Nat.mul_one, List.getElem?_toArray, mvs_get S p hp]
  have hs : (sizeOf 4).run Try.prog W = .ok 1 W := by kernel_rfl
  have ha : (isAgg 4).run Try.prog W = .ok false W := by kernel_rfl
  have hi : 0 ≤ (p : Int) ∧ (p : Int) < (16 : Nat) := by omega
  simp only [Instr.index, Sem.run_bind, asIntOf, Sem.run_pure, Result.andThen_ok, run_underlying Try.underlying26, if_pos hi, hs, part, ha, Int.toNat_natCast, h1, Bool.false_eq_true, if_false]
theorem make_nil (w : World) :
    Calls Try.prog 9 #[.pointer none] w fun x w' => x = .returned (.tuple #[.int .i64 0, .int .i64 11]) ∧ w' = w := by
  go_enter Try.func9, Try.ntmps9
  go_wp2
  go_ret2
  exact ⟨rfl, rfl⟩
set_option maxHeartbeats 2000000 in
theorem make_at (b : Nat) (S : PS) (w : World) (h : PpAt w b S) :
    Calls Try.prog 9 #[.pointer (some ⟨b, 0, none⟩)] w fun x w' => x = .returned (.tuple #[.int .i64 (mkI S), .int .i64 (mkE S)]) ∧ PpAt w' b (mkS S) ∧ Upd b w w' := by
  obtain ⟨row, hP, hR⟩ := h
  have hne := ptr_eq b
  have HL : Hid (w.rangeAt b 0 (mvs S)) := mvs_range hP hR
  have HP : Hid (PB w b row) := hP
  have HR : Hid (PpR row S) := hR
  have hll : (mvs S).length = 16 := mvs_len S
  clear hP hR
  go_enter Try.func9, Try.ntmps9
  go_wp2_with (first | (refine wpList_load_mid rfl 26 _ rfl b 0 rfl (mvs S) _ HL.out Try.underlying26 rfl (by rw [hll]; exact bools16) ?_) | go_in)
  clear HL hll
  go_loopw [12] (fun s wr => ∃ (k : Nat), k ≤ 16 ∧ s = .int .i64 k ∧ free S = lowF S k (16 - k) ∧ wr = w) (fun s _ => 16 - (intOf s).toNat)
  case atStart => exact ⟨0, by omega, rfl, rfl, rfl⟩
  case round =>
    obtain ⟨k, hk, rfl, hf, hw⟩ := hrel
    subst hw
    have HF : Hid (free S = lowF S k (16 - k)) := hf
    clear hf
    by_cases hlt : k < 16
    · have i1 : decide ((k : Int) < 16) = true := decide_eq_true (by omega)
      have hki : (k : Int) < 16 := by omega
      have hix := made_index S k hlt
      have c0 := (HP.out.cell k).trans (HR.out.made k hlt)
      have f0 := HP.out.free k
      have h16 : 16 - k = (16 - (k + 1)) + 1 := by omega
      rw [h16] at HF
      clear h16
      cases hs : S k with
      | none =>
        rw [hs] at hix c0
        dsimp only [Option.isSome] at hix c0
        have HFk : Hid (free S = k) := HF.out.trans (lowF_here hs)
        have HR2 : Hid (PpR (row.setIfInBounds k (.bool true)) (S.set k (some []))) := HR.out.mk' hlt hs
        clear hs HF
        go_wp2
        go_ret2
        refine ⟨?_, ⟨_, HP.out.set _ _, ?_⟩, Upd.setCell _ _ _ _⟩
        · unfold mkI mkE
          rw [HFk.out, if_pos hlt, if_pos hlt]
          rfl
        · unfold mkS
          rw [HFk.out, if_pos hlt]
          exact HR2.out
      | some l =>
        rw [hs] at hix c0
        dsimp only [Option.isSome] at hix c0
        have HF2 : Hid (free S = lowF S (k + 1) (16 - (k + 1))) := HF.out.trans (lowF_next hs)
        clear hs HF
        go_wp2
        go_roundw
        case rel => exact ⟨k + 1, by omega, by go_num, HF2.out, by first | rfl | trivial⟩
        case measure => simp [intOf]; omega
    · have i1 : decide ((k : Int) < 16) = false := decide_eq_false (by omega)
      have HFk : Hid (¬ free S < 16) := by
        show ¬ _
        rw [HF.out, show 16 - k = 0 by omega]
        unfold lowF
        omega
      clear HF
      go_wp2
      go_ret2
      refine ⟨?_, ?_, Upd.refl _ _⟩
      · unfold mkI mkE
        rw [if_neg HFk.out, if_neg HFk.out]
        rfl
      · unfold mkS
        rw [if_neg HFk.out]
        exact ⟨row, HP.out, HR.out⟩
/-- What an append of words may touch. -/
structure UW (B : Nat) (w w' : World) : Prop where
  bel : Below B w w'
  oth : ∀ (k : Nat) (cs : Array Value) (t : TypeId) (fz : Nat × Nat), w.heap[k]? = some (.cells cs t fz) → t ≠ 67 → w'.heap[k]? = w.heap[k]?
theorem UW.refl (B : Nat) (w : World) : UW B w w := ⟨Below.refl _ _, fun _ _ _ _ _ _ => rfl⟩
theorem UW.trans {B : Nat} {a b c : World} (h : UW B a b) (k : UW B b c) : UW B a c :=
  ⟨h.bel.trans k.bel, fun i cs t fz hi ht => by
    have h1 := h.oth i cs t fz hi ht
    exact (k.oth i cs t fz (h1.trans hi) ht).trans h1⟩
theorem UW.of_below {B : Nat} {w w' : World} (hB : B ≤ w.heap.size) (h : Below w.heap.size w w') : UW B w w' := ⟨h.mono hB, fun i cs t fz hi ht => h.block i (lt_of_heap hi)⟩
theorem UW.pb {B : Nat} {w w' : World} (h : UW B w w') {b : Nat} {row : Array Value} (hb : PB w b row) : PB w' b row := hb.keep (h.oth b _ _ _ hb (by decide))
theorem UW.bt {B : Nat} {w w' : World} (h : UW B w w') {g : Nat} {l : List UInt8} (hb : Bt w g l) : Bt w' g l := by
  obtain ⟨cur, h1, h2⟩ := hb
  exact ⟨cur, (h.oth g _ _ _ h1 (by decide)).trans h1, h2⟩
theorem UW.own {w w' : World} {B : Nat} {v : Value} {n : Nat} {xs : List Value} (h : w.ownsRow B 67 1 v n xs) (hs : B ≤ w.heap.size) (hg : w.grownBy w' v.ownBlock) : UW B w w' := by
  refine ⟨below_grown hg hs (ownsRow_low h), fun i cs t fz hi ht => hg.block i (lt_of_heap hi) (fun e => ?_)⟩
  obtain ⟨c2, k2⟩ := own_type h e.symm
  rw [hi] at k2
  simp only [Option.some.injEq, Obj.cells.injEq] at k2
  exact ht k2.2.1
/-- append(v, x). -/
theorem app1 {w : World} {B n c : Nat} {a : Option Addr} {D : List Int} (ho : w.ownsRow B 67 1 (.slice a n c) D.length (uvs D)) (hn : D.length = n) (hB : B ≤ w.heap.size) (hl : n ≤ 2000) (x0 : Int) :
    ∃ a' c' w', (∀ ty, (Builtin.append_ #[43, 43] ty #[.slice a n c, .slice (some ⟨w.heap.size, 0, none⟩) 1 1]).run Try.prog (w.alloc (.cells #[.int .u64 x0] 67)) = .ok (.slice a' (n + 1) c') w') ∧ w'.ownsRow B 67 1 (.slice a' (n + 1) c') (D ++ [x0]).length (uvs (D ++ [x0])) ∧ UW B w w' := by
  obtain ⟨i0, hi0, hzz⟩ := Option.map_eq_some_iff.1 wordInfo
  simp only [Prod.mk.injEq] at hzz
  obtain ⟨hz0, hz1, hz2⟩ := hzz
  have hbe : Below w.heap.size w (w.alloc (.cells #[.int .u64 x0] 67)) := below_alloc _ _
  have hnew : (w.alloc (.cells #[.int .u64 x0] 67)).heap[w.heap.size]? = some (.cells #[.int .u64 x0] 67) := heap_alloc_new _ _
  have ho1 := ownsRow_below ho hbe
  obtain ⟨g', cap', w', hr', hown, hgrow, _, _⟩ := run_append_lies (P := Try.prog) _ 43 0 B 67 i0 _ 1 8 Try.underlying43 hi0 hz0 hz1 hz2 rfl (by omega) _ D.length (uvs D) ho1
    ⟨w.heap.size, 0, none⟩ 1 1 (uvs [x0]) rfl (fun j x hx => by
      rw [add0, Nat.zero_add, cell_of_heap hnew, ← hx]
      simp [uvs]) (uvs_one _) (by omega) (by unfold maxLen; omega) (by omega) (Nat.le_trans hB hbe.size) _ rfl
  rw [hn] at hr' hown
  refine ⟨some ⟨g', 0, none⟩, cap', w', fun ty => hr', ?_, (UW.of_below hB hbe).trans (UW.own ho1 (Nat.le_trans hB hbe.size) hgrow)⟩
  rw [List.length_append, uvs_app, hn]
  exact hown
/-- append(v, x, y). -/
theorem app2 {w : World} {B n c : Nat} {a : Option Addr} {D : List Int} (ho : w.ownsRow B 67 1 (.slice a n c) D.length (uvs D)) (hn : D.length = n) (hB : B ≤ w.heap.size) (hl : n ≤ 2000) (x0 x1 : Int) :
    ∃ a' c' w', (∀ ty, (Builtin.append_ #[43, 43] ty #[.slice a n c, .slice (some ⟨w.heap.size, 0, none⟩) 2 2]).run Try.prog (w.alloc (.cells #[.int .u64 x0, .int .u64 x1] 67)) = .ok (.slice a' (n + 2) c') w') ∧ w'.ownsRow B 67 1 (.slice a' (n + 2) c') (D ++ [x0, x1]).length (uvs (D ++ [x0, x1])) ∧ UW B w w' := by
  obtain ⟨i0, hi0, hzz⟩ := Option.map_eq_some_iff.1 wordInfo
  simp only [Prod.mk.injEq] at hzz
  obtain ⟨hz0, hz1, hz2⟩ := hzz
  have hbe : Below w.heap.size w (w.alloc (.cells #[.int .u64 x0, .int .u64 x1] 67)) := below_alloc _ _
  have hnew : (w.alloc (.cells #[.int .u64 x0, .int .u64 x1] 67)).heap[w.heap.size]? = some (.cells #[.int .u64 x0, .int .u64 x1] 67) := heap_alloc_new _ _
  have ho1 := ownsRow_below ho hbe
  obtain ⟨g', cap', w', hr', hown, hgrow, _, _⟩ := run_append_lies (P := Try.prog) _ 43 0 B 67 i0 _ 1 8 Try.underlying43 hi0 hz0 hz1 hz2 rfl (by omega) _ D.length (uvs D) ho1
    ⟨w.heap.size, 0, none⟩ 2 2 (uvs [x0, x1]) rfl (fun j x hx => by
      rw [add0, Nat.zero_add, cell_of_heap hnew, ← hx]
      simp [uvs]) (uvs_one _) (by omega) (by unfold maxLen; omega) (by omega) (Nat.le_trans hB hbe.size) _ rfl
  rw [hn] at hr' hown
  refine ⟨some ⟨g', 0, none⟩, cap', w', fun ty => hr', ?_, (UW.of_below hB hbe).trans (UW.own ho1 (Nat.le_trans hB hbe.size) hgrow)⟩
  rw [List.length_append, uvs_app, hn]
  exact hown
end Go.Proofs.Ytpnmaoinnmmfdaa
