/- The reference of package signals: fresh, New, Set, Send, Next. -/
/- The reference core of layer 22: New, Begin; what its calls may touch. -/
/- Package inode over a store: get, put; what is read and laid by value, 32 words at once. -/
import Derived.Test.YtikjfdihocgfpaaGreatDoorKindsTRsA
import Derived.Test.YtikjfdihocgfpaaGreatDoorUxLTRfN18
import Derived.Test.YtikjfdihocgfpaaGreatDoorRfW18
import Derived.Test.YtikjfdihocgfpaaGreatDoorInoDTOwnR
set_option linter.all false
namespace Go.Proofs.YtikjfdihocgfpaaGreatDoor
open Go.RowKit Go.Lib
namespace Ow
end Ow
namespace Sg
open Ow
def tailR : List Value := List.replicate 15 (.bool false) ++ [.bool false, .int .i64 0, .slice none 0 0]
theorem lit_fresh : (#[.int .u64 0, .int .u64 0, .int .u64 0, .int .u64 0, .int .u64 0, .int .u64 0, .int .u64 0, .int .u64 0, .int .u64 0, .int .u64 0, .int .u64 0, .int .u64 0, .int .u64 0, .int .u64 0, .int .u64 0, .bool false, .bool false, .bool false, .bool false, .bool false, .bool false, .bool false, .bool false, .bool false, .bool false, .bool false, .bool false, .bool false, .bool false, .bool false, .bool false, .int .i64 0, .slice none 0 0] : Array Value) = frow tailR 0 := rfl
theorem refSize : (Tryz.prog.info? 162).map (·.size) = some 33 := by kernel_rfl
theorem tailR_one : ∀ v ∈ tailR, v.oneCell' = true := fun v hv => by
  simp only [tailR, List.mem_append, List.mem_cons, List.not_mem_nil, or_false] at hv
  rcases hv with hv | rfl | rfl | rfl
  · rw [List.eq_of_mem_replicate hv]; rfl
  · rfl
  · rfl
  · rfl
theorem freshO : (frow tailR 15).all (·.oneCell') = true := frow_one tailR_one
theorem fresh_R {w : World} {row : Array Value} {o : Nat} (h : o + 33 ≤ row.size) (h1 : ∀ j, j < 33 → row[o + j]? = (frow tailR 15)[j]?) : RgR w row o Sg.first := by
  refine ⟨h, fun j hj => ?_, fun j hj => ?_, ?_, ?_, none, 0, ?_, Nat.le_refl _, TRd.nil _ _⟩
  · rw [h1 j (by omega), frow_hnd hj]
    show _ = some (Value.int .u64 ((List.replicate 15 dfl).getD j 0))
    rw [List.getD_eq_getElem?_getD, List.getElem?_replicate, if_pos hj]
    rfl
  · rw [Nat.add_assoc, h1 (15 + j) (by omega), frow_tail j]
    unfold tailR
    rw [List.getElem?_append_left (by simpa using hj), List.getElem?_replicate, if_pos hj]
    show _ = some (Value.bool ((0 : Nat).testBit (j + 1)))
    simp
  · rw [h1 30 (by omega)]; exact frow_tail 15
  · rw [h1 31 (by omega)]; exact frow_tail 16
  · rw [h1 32 (by omega)]; exact frow_tail 17
set_option maxRecDepth 100000 in
set_option maxHeartbeats 2000000 in
theorem xfresh_at (w : World) :
    Calls Tryz.prog 126 #[] w fun x w' => x = .returned (.agg (frow tailR 15)) ∧ Below w.heap.size w w' := by
  have hz := lit_fresh
  have HSz : Hid (∀ k, k ≤ 15 → (frow tailR k).size = 33) := fun k hk => frow_size hk
  have HSet : Hid (∀ k, k < 15 → (frow tailR k).setIfInBounds k (.int .u64 18446744073709551615) = frow tailR (k + 1)) := fun k hk => frow_set hk
  have HGet : Hid (∀ k, k < 15 → (frow tailR k)[k]? = some (.int .u64 0)) := fun k hk => frow_get hk
  have HOne : Hid ((frow tailR 15).all (·.oneCell') = true) := freshO
  generalize hF : frow tailR = F at *
  clear hF
  go_enter Tryz.func126, Tryz.ntmps126
  go_wp2
  clear hz
  obtain ⟨W, hW⟩ : ∃ W, W = (w.alloc (.cells (F 0) 162)).alloc (.cells (F 0) 162) := ⟨_, rfl⟩
  obtain ⟨r, hr⟩ : ∃ r, r = w.heap.size := ⟨_, rfl⟩
  obtain ⟨g, hg⟩ : ∃ g, g = w.heap.size + 1 := ⟨_, rfl⟩
  have HN : Hid (W.heap[g]? = some (.cells (F 0) 162 (0, 0))) := by
    show _ = _
    have := heap_alloc_new (w.alloc (.cells (F 0) 162)) (.cells (F 0) 162)
    rw [hW, hg]
    simpa using this
  have HM : Hid (W.heap[r]? = some (.cells (F 0) 162 (0, 0))) := by
    rw [hW, hr, Below.heap_alloc _ _ _ (by simp)]
    exact heap_alloc_new _ _
  have HB : Hid (Below w.heap.size w W) := by rw [hW]; exact below_alloc2 _ _ _
  have HG : Hid (g = r + 1) := by show _ = _; rw [hg, hr]
  have HRw : Hid (r = w.heap.size) := hr
  rw [← hW, ← hg, ← hr]
  clear hW hg hr
  go_loopw [2] (fun s wr => ∃ (k : Nat), k ≤ 15 ∧ s = .int .i64 k ∧ wr.heap[g]? = some (.cells (F k) 162 (0, 0)) ∧ wr.heap[r]? = some (.cells (F 0) 162 (0, 0)) ∧ Below w.heap.size w wr) (fun s _ => 15 - (intOf s).toNat)
  case atStart => exact ⟨0, by omega, rfl, HN.out, HM.out, HB.out⟩
  case round =>
    clear HN HM HB
    obtain ⟨k, hk, rfl, hN, hM, hB⟩ := hrel
    have HN : Hid (wr.heap[g]? = some (.cells (F k) 162 (0, 0))) := hN
    have HM : Hid (wr.heap[r]? = some (.cells (F 0) 162 (0, 0))) := hM
    have HB : Hid (Below w.heap.size w wr) := hB
    by_cases hlt : k < 15
    · have i1 : decide ((k : Int) < 15) = true := decide_eq_true (by omega)
      have hki : (k : Int) < 15 := by omega
      have c0 : wr.cell? ⟨g, k, none⟩ = some (.int .u64 0) := (cell_of_heap hN).trans (HGet.out k hlt)
      have f0 : wr.frozen? ⟨g, k, none⟩ = false := frozen_of_heap hN
      have HN2 : Hid ((wr.setCell ⟨g, k, none⟩ (.int .u64 18446744073709551615)).heap[g]? = some (.cells (F (k + 1)) 162 (0, 0))) := by
        show _ = _
        rw [setCell_eq_setRow wr g k _ _ _ _ hN, setRow_heap wr g _ _ _ _ hN, HSet.out k hlt]
      have HM2 : Hid ((wr.setCell ⟨g, k, none⟩ (.int .u64 18446744073709551615)).heap[r]? = some (.cells (F 0) 162 (0, 0))) :=
        (Below.heap_setCell _ _ _ _ (by have := HG.out; show r ≠ g; omega)).trans hM
      have HB2 : Hid (Below w.heap.size w (wr.setCell ⟨g, k, none⟩ (.int .u64 18446744073709551615))) := hB.trans ((Upd.setCell g k _ _).below (by have := HG.out; have := HRw.out; omega) hB.size)
      clear hN hM hB
      go_wp2
      go_roundw
      case rel => exact ⟨k + 1, by omega, by go_num, HN2.out, HM2.out, HB2.out⟩
      case measure => simp [intOf]; omega
    · obtain rfl : k = 15 := by omega
      have i1 : decide (((15 : Nat) : Int) < 15) = false := rfl
      have HQ : Hid ((wr.setRow r (F 15)).heap[r]? = some (.cells (F 15) 162 (0, 0))) := setRow_heap _ r _ _ _ _ hM
      have HB2 : Hid (Below w.heap.size w (wr.setRow r (F 15))) := hB.trans ((Upd.setRow r _ _).below (by have := HRw.out; omega) hB.size)
      clear hN hM hB
      generalize hR : F 15 = R at *
      have HRs : Hid (R.size = 33) := by show _ = _; rw [← hR]; exact HSz.out 15 (by omega)
      have HR15 : Hid (F 15 = R) := hR
      clear hR
      go_wp2_with (first
        | (refine wpList_load_row rfl 162 _ rfl g rfl 162 R (0, 0) _ HN.out Tryz.underlying162 rfl (by rw [HRs.out]; exact refSize) ?_)
        | (refine wpList_store_row rfl 162 _ _ rfl r R rfl rfl 162 (F 0) HM.out (by rw [HRs.out]; exact refSize) (by rw [HRs.out, HSz.out 0 (by omega)]) HOne.out ?_)
        | go_in)
      refine bodyPost_ret (v := .agg R) ?_ rfl ⟨by rw [HR15.out], HB2.out⟩
      exact results_cell_row rfl _ _ r 162 R (0, 0) _ rfl HQ.out Tryz.underlying162 rfl (by rw [HRs.out]; exact refSize)
/-- The cells of zeroed signals. -/
def rrow : Array Value := ((List.replicate 8 (frow tailR 0).toList).flatten).toArray
theorem rrow_size : rrow.size = 264 := by kernel_rfl
theorem rrow_zero : (Tryz.prog.info? 165).map (·.zero) = some (some (.agg rrow)) := by kernel_rfl
theorem zero_ref (W : World) : (zeroValue 165).run Tryz.prog W = .ok (.agg rrow) W := by
  obtain ⟨i, hi, hz⟩ := Option.map_eq_some_iff.1 rrow_zero
  simp [zeroValue, typeInfo, hi, hz]
/-- The first k processes are as at first. -/
structure FreshK (w : World) (row : Array Value) (k : Nat) : Prop where
  size : row.size = 264
  at' : ∀ i, i < k → RgR w row (i * 33) Sg.first
theorem FreshK.next {w w' : World} {row : Array Value} {k : Nat} (h : FreshK w row k) (hk : k < 8) (hw : KeepW w w') : FreshK w' (putA row (k * 33) (frow tailR 15).toList) (k + 1) := by
  have hs := h.size
  have hl : (frow tailR 15).toList.length = 33 := rfl
  have hsm := putA_sameR (k * 33) row hl
  refine ⟨hsm.1.trans hs, fun i hi => ?_⟩
  by_cases e : i = k
  · subst e
    refine fresh_R (by rw [hsm.1]; omega) (fun j hj => ?_)
    rw [putA_in _ _ _ j (by omega) (by omega), Array.getElem?_toList]
  · exact (h.at' i (by omega)).keep hsm.1 (fun q h1 h2 => hsm.2 q (by omega)) hw
set_option maxRecDepth 100000 in
set_option maxHeartbeats 2000000 in
theorem xnew_at (w : World) :
    Calls Tryz.prog 64 #[] w fun x w' => x = .returned (.pointer (some ⟨w.heap.size, 0, none⟩)) ∧ RgAt w' w.heap.size SS.first ∧ Below w.heap.size w w' := by
  have HR : Hid (rrow.size = 264) := rrow_size
  have hz := zero_ref
  generalize rrow = R at *
  obtain ⟨b, hb⟩ : ∃ b, b = w.heap.size := ⟨_, rfl⟩
  have HBb : Hid (b = w.heap.size) := hb
  go_enter Tryz.func64, Tryz.ntmps64
  go_wp2
  have HN : Hid (RB (w.alloc (.cells R 165)) b R) := by rw [hb]; exact heap_alloc_new _ _
  have HB : Hid (Below w.heap.size w (w.alloc (.cells R 165))) := below_alloc _ _
  rw [← hb]
  generalize w.alloc (.cells R 165) = W at *
  clear hz hb
  go_loopw [2] (fun s wr => ∃ (k : Nat) (row : Array Value), k ≤ 8 ∧ s = .int .i64 k ∧ RB wr b row ∧ FreshK wr row k ∧ Below w.heap.size w wr) (fun s _ => 8 - (intOf s).toNat)
  case atStart => exact ⟨0, R, by omega, rfl, HN.out, ⟨HR.out, fun i hi => by omega⟩, HB.out⟩
  case round =>
    clear HN HB
    obtain ⟨k, row, hk, rfl, hS, hF, hB⟩ := hrel
    have HS : Hid (RB wr b row) := hS
    have HF : Hid (FreshK wr row k) := hF
    have HB : Hid (Below w.heap.size w wr) := hB
    by_cases hlt : k < 8
    · have i1 : decide ((k : Int) < 8) = true := decide_eq_true (by omega)
      have hki : (k : Int) < 8 := by omega
      have hAF := xfresh_at wr.drew
      have HFs : Hid ((frow tailR 15).size = 33) := rfl
      have HFo : Hid ((frow tailR 15).all (·.oneCell') = true) := freshO
      have HNx : Hid (∀ w', KeepW wr w' → FreshK w' (putA row (k * 33) (frow tailR 15).toList) (k + 1)) := fun w' hw => hF.next hlt hw
      generalize frow tailR 15 = F at *
      clear hS hF hB
      go_wp2_with fail
      refine wp_region_held_drew (S := fun w' => True) (by kernel_rfl) trivial (fun hHeld => ?_)
      refine wpAnyH_take (i := 0) (v := ?_) rfl (by kernel_rfl) (by kernel_rfl) (by kernel_rfl) (fun _ _ _ h => h) (Or.inl ⟨by kernel_rfl, ?_⟩) (by assumption) ?_
      rotate_left
      · (intro w hSw; (try dsimp only at hSw); go_simp) <;> with_reducible rfl
      (try simp only [Act.put, List.getElem_toArray, List.getElem_cons_zero, List.setIfInBounds_toArray, List.set_cons_zero, List.set_cons_succ])
      refine wpAnyH_take (i := 1) (v := ?_) rfl (by kernel_rfl) (by kernel_rfl) (by kernel_rfl) (fun _ _ _ h => h) (Or.inl ⟨by kernel_rfl, ?_⟩) (by assumption) ?_
      rotate_left
      · (intro w hSw; (try dsimp only at hSw); go_simp) <;> with_reducible rfl
      (try simp only [Act.put, List.getElem_toArray, List.getElem_cons_zero, List.getElem_cons_succ, List.setIfInBounds_toArray, List.set_cons_zero, List.set_cons_succ])
      refine wpAnyH_take (i := 3) (v := ?_) rfl (by kernel_rfl) (by kernel_rfl) (by kernel_rfl) (fun _ _ _ h => h) (Or.inl ⟨by kernel_rfl, ?_⟩) (by assumption) ?_
      rotate_left
      · (intro w hSw; (try dsimp only at hSw); go_simp) <;> with_reducible rfl
      (try simp only [Act.put, List.getElem_toArray, List.getElem_cons_zero, List.getElem_cons_succ, List.setIfInBounds_toArray, List.set_cons_zero, List.set_cons_succ])
      refine wpAnyH_take (i := 4) (v := ?_) rfl (by kernel_rfl) (by kernel_rfl) (by kernel_rfl) (fun _ _ _ h => h) (Or.inl ⟨by kernel_rfl, ?_⟩) (by assumption) ?_
      rotate_left
      · (intro w hSw; (try dsimp only at hSw); go_simp) <;> with_reducible rfl
      (try simp only [Act.put, List.getElem_toArray, List.getElem_cons_zero, List.getElem_cons_succ, List.setIfInBounds_toArray, List.set_cons_zero, List.set_cons_succ])
      refine wpAnyH_ready (rs := [2]) (by kernel_rfl) (by simp) ?_
      refine AllReadyH.cons rfl (fun K hK => ?_) AllReadyH.nil
      go_simp
      refine hAF.mono ?_
      rintro e w1 ⟨rfl, hb1⟩
      have HS1 : Hid (RB w1 b row) := (RB.drew HS.out).below hb1
      have HK1 : Hid (KeepW wr w1) := (KeepW.below (Below.refl wr.heap.size wr).drew).trans (KeepW.below hb1)
      have HB1 : Hid (Below w.heap.size w w1) := HB.out.drew.trans (hb1.mono (by have := HB.out.size; simpa using this))
      clear hb1 hAF
      refine hK.out _ _ trivial (fun hHeld => ?_)
      clear hK K
      (try simp only [Act.put, List.getElem_toArray, List.getElem_cons_zero, List.getElem_cons_succ, List.setIfInBounds_toArray, List.set_cons_zero, List.set_cons_succ])
      refine wpAnyH_take (i := 5) (v := ?_) rfl (by kernel_rfl) (by kernel_rfl) (by kernel_rfl) (fun _ _ _ h => h) (Or.inl ⟨by kernel_rfl, ?_⟩) (by assumption) ?_
      rotate_left
      · (intro w hSw; (try dsimp only at hSw); go_simp) <;> with_reducible rfl
      (try simp only [Act.put, List.getElem_toArray, List.getElem_cons_zero, List.getElem_cons_succ, List.setIfInBounds_toArray, List.set_cons_zero, List.set_cons_succ])
      refine wpAnyH_ready (rs := [6]) (by kernel_rfl) (by simp) ?_
      refine AllReadyH.cons rfl (fun K hK => ?_) AllReadyH.nil
      refine wp_store_mid 162 _ _ rfl b (k * 33) F rfl rfl (HS1.out.there _ _ (by have := HF.out.size; rw [HFs.out]; omega)) (by rw [HFs.out]; exact refSize) HFo.out ?_
      have HS2 : Hid (RB (w1.setCells b (k * 33) F.toList) b (putA row (k * 33) F.toList)) := RB.sets _ _ _ _ HS1.out
      have HU2 : Hid (Upd b w1 (w1.setCells b (k * 33) F.toList)) := upd_sets _ _ _ _
      generalize w1.setCells b (k * 33) F.toList = w2 at *
      have HF2 : Hid (FreshK w2 (putA row (k * 33) F.toList) (k + 1)) := HNx.out _ (HK1.out.trans (HS1.out.kw HU2.out))
      have HB2 : Hid (Below w.heap.size w w2) := HB1.out.trans (HU2.out.below (by have := HBb.out; omega) HB1.out.size)
      refine hK.out _ _ trivial (fun hHeld => ?_)
      clear hK K
      simp only [Act.put, List.getElem_toArray, List.getElem_cons_zero, List.getElem_cons_succ]
      refine wpAnyH_done (by kernel_rfl) ?_ _
      clear hHeld
      go_wp2
      go_roundw
      case rel => exact ⟨k + 1, _, by omega, by go_num, HS2.out, HF2.out, HB2.out⟩
      case measure => simp [intOf]; omega
    · obtain rfl : k = 8 := by omega
      have i1 : decide (((8 : Nat) : Int) < 8) = false := rfl
      clear hS hF hB
      go_wp2
      go_ret
      exact ⟨by rw [HBb.out]; rfl, ⟨row, by rw [← HBb.out]; exact HS.out, HF.out.size, HF.out.at'⟩, HB.out⟩
end Sg
end Go.Proofs.YtikjfdihocgfpaaGreatDoor
namespace Go.Proofs.YtikjfdihocgfpaaGreatDoor
open Go.RowKit
def rxT : List TypeId := [150, 153, 171]
/-- All blocks below lo, all of other types and all maps are as they were. -/
structure RG (lo : Nat) (w w' : World) : Prop where
  os : w'.os = w.os
  tape : w'.tape = w.tape
  output : w'.output = w.output
  size : w.heap.size ≤ w'.heap.size
  low : ∀ k, k < lo → w'.heap[k]? = w.heap[k]?
  other : ∀ (k : Nat) (cs : Array Value) (t : TypeId) (fr : Nat × Nat), w.heap[k]? = some (.cells cs t fr) → rxT.contains t = false → w'.heap[k]? = some (.cells cs t fr)
  mp : ∀ (k : Nat) es cl, w.heap[k]? = some (.map es cl) → w'.heap[k]? = some (.map es cl)
section
variable {lo : Nat} {a b c : World}
theorem RG.refl (lo : Nat) (a : World) : RG lo a a := ⟨rfl, rfl, rfl, Nat.le_refl _, fun _ _ => rfl, fun _ _ _ _ h _ => h, fun _ _ _ h => h⟩
theorem RG.trans (h : RG lo a b) (k : RG lo b c) : RG lo a c :=
  ⟨k.os.trans h.os, k.tape.trans h.tape, k.output.trans h.output, Nat.le_trans h.size k.size, fun i hi => (k.low i hi).trans (h.low i hi), fun i cs t fr hi ht => k.other i cs t fr (h.other i cs t fr hi ht) ht, fun i es cl hi => k.mp i es cl (h.mp i es cl hi)⟩
theorem RG.of_below (h : Below a.heap.size a b) (hl : lo ≤ a.heap.size) : RG lo a b :=
  ⟨h.os, h.tape, h.output, h.size, fun i hi => h.block i (by omega), fun i cs t fr hi _ => (h.block i (lt_of_heap hi)).trans hi, fun i es cl hi => (h.block i (lt_of_heap hi)).trans hi⟩
theorem RG.of_ru {B : Nat} (h : Fd.RU B a b) (hl : lo ≤ B) : RG lo a b := by
  refine ⟨h.os, h.tape, h.output, h.size, fun i hi => h.low i (by omega), fun i cs t fr hi ht => h.other i cs t fr hi ?_ ?_, h.mp⟩
  · rintro rfl
    revert ht
    decide
  · rintro rfl
    revert ht
    decide
theorem RG.of_upd {t : Nat} {cs : Array Value} {fr : Nat × Nat} (h : Upd t a b) (ht : a.heap[t]? = some (.cells cs 171 fr)) (hl : lo ≤ t) : RG lo a b := by
  refine ⟨h.os, h.tape, h.output, h.size, fun i hi => ?_, fun i cs' t' fr' hi hT => (h.block i (lt_of_heap hi) ?_).trans hi, fun i es cl hi => (h.block i (lt_of_heap hi) ?_).trans hi⟩
  · have := lt_of_heap ht
    exact h.block i (by omega) (by omega)
  · rintro rfl
    rw [ht] at hi
    simp only [Option.some.injEq, Obj.cells.injEq] at hi
    rw [← hi.2.1] at hT
    revert hT
    decide
  · rintro rfl
    rw [ht] at hi
    cases hi
theorem RG.below {M : Nat} (h : RG lo a b) (hM : M ≤ lo) : Below M a b := ⟨h.os, h.tape, h.output, h.size, fun k hk => h.low k (by omega)⟩
theorem un_rx {t : TypeId} (h : unB t = true) : rxT.contains t = false := by
  have h3 : t ∈ unT := List.contains_iff_mem.1 h
  simp only [unT, List.mem_cons, List.not_mem_nil, or_false] at h3
  rcases h3 with rfl | rfl | rfl | rfl | rfl <;> decide
theorem st_rx {t : TypeId} (h : stB t = true) : rxT.contains t = false := by
  have h3 : t ∈ stT := List.contains_iff_mem.1 h
  simp only [stT, List.mem_cons, List.not_mem_nil, or_false] at h3
  rcases h3 with rfl | rfl | rfl | rfl | rfl <;> decide
theorem UnAt.rg {L : Pl} {U : Un} (h : UnAt a L U) (hu : RG lo a b) : UnAt b L U := h.keep
  (fun k hk => by
    rcases hk with ⟨es, cl, e⟩ | ⟨cs, t, fr, e, ht⟩
    · exact (hu.mp _ _ _ e).trans e.symm
    · exact (hu.other _ _ _ _ e (un_rx ht)).trans e.symm)
  (fun g cs fr hg => (hu.other _ _ _ _ hg (by decide)).trans hg.symm)
  ((hu.other _ _ _ _ h.head (by decide)).trans h.head.symm)
theorem RG.isSt {k : Nat} (h : RG lo a b) (hk : IsSt a k) : b.heap[k]? = a.heap[k]? := by
  obtain ⟨cs, t, fr, e, ht⟩ := hk
  exact (h.other _ _ _ _ e (st_rx ht)).trans e.symm
end
/-- The reference core, new. -/
structure RXA (w : World) (B x f p s t : Nat) (L : List Fd.En) (F : Fd.FS) : Prop where
  head : w.heap[x]? = some (.cells #[ptr f, ptr p, ptr s, ptr t] 98)
  fds : ∃ v, Fd.RIs w B f v L
  rl : Fd.RL L F
  inv : Fd.Inv F
  tB : B ≤ t
  Bw : B ≤ w.heap.size
section
variable {w w' : World} {B x f p s t : Nat} {L : List Fd.En} {F : Fd.FS}
theorem RXA.c0 (h : RXA w B x f p s t L F) : w.cell? ⟨x, 0, none⟩ = some (ptr f) := by rw [cell_of_heap h.head]; rfl
theorem RXA.c3 (h : RXA w B x f p s t L F) : w.cell? ⟨x, 3, none⟩ = some (ptr t) := by rw [cell_of_heap h.head]; rfl
end
theorem rl_zero : Fd.RL [] Fd.FS.zero := by
  unfold Fd.RL Fd.refL
  have : Fd.ord Fd.FS.zero.t = [] := by kernel_rfl
  rw [this]
  rfl
theorem lit24 : (#[.int .i64 0, .int .i64 0, .int .i64 0, .int .i64 0, .int .i64 0, .int .i64 0, .int .i64 0, .int .i64 0, .int .i64 0, .int .i64 0, .int .i64 0, .int .i64 0, .int .i64 0, .int .i64 0, .int .i64 0, .int .i64 0, .int .i64 0, .int .i64 0, .int .i64 0, .int .i64 0, .int .i64 0, .int .i64 0, .int .i64 0, .int .i64 0] : Array Value) = Ow.irow (Pc.rqL (Pc.trS Pc.St0)) := by kernel_rfl
theorem rbegin21_at (c : Nat) (w : World) (h : Pc.RT w c (Pc.trS Pc.St0)) :
    Calls Tryz.prog 84 #[ptr c] w fun e w' => e = .returned (.int .i64 1) ∧ Upd c w w' := by
  have hlo : w.rangeAt c 0 (Ow.ivs (Pc.rqL (Pc.trS Pc.St0))) := fun j v hv => by
    rw [cell_of_heap h, Nat.zero_add]
    simpa [Ow.irow, Ow.ivs] using hv
  have hne : ∀ W, (binOp .neq 169 (.agg (Ow.ivs (Pc.rqL (Pc.trS Pc.St0))).toArray) (.agg #[.int .i64 0, .int .i64 0, .int .i64 0, .int .i64 0, .int .i64 0, .int .i64 0, .int .i64 0, .int .i64 0, .int .i64 0, .int .i64 0, .int .i64 0, .int .i64 0, .int .i64 0, .int .i64 0, .int .i64 0, .int .i64 0, .int .i64 0, .int .i64 0, .int .i64 0, .int .i64 0, .int .i64 0, .int .i64 0, .int .i64 0, .int .i64 0])).run Tryz.prog W = .ok (.bool false) W := fun W => by kernel_rfl
  have c0 : w.cell? ⟨c, 0, none⟩ = some (.int .i64 0) := by rw [cell_of_heap h]; kernel_rfl
  have f0 := h.free 0
  have HL : Hid (w.rangeAt c 0 (Ow.ivs (Pc.rqL (Pc.trS Pc.St0)))) := hlo
  generalize hiv : Ow.ivs (Pc.rqL (Pc.trS Pc.St0)) = V at *
  have hsz : (Tryz.prog.info? 169).map (·.size) = some V.length := by rw [← hiv]; kernel_rfl
  clear h hlo hiv
  go_enter Tryz.func84, Tryz.ntmps84
  go_wp2_with (first | (refine wpList_load_mid rfl 169 _ rfl c 0 rfl V _ HL.out Tryz.underlying169 rfl hsz ?_) | go_in)
  go_ret
  exact ⟨rfl, Upd.setCell _ _ _ _⟩
set_option maxHeartbeats 1000000 in
set_option maxRecDepth 100000 in
theorem xnew_at (w : World) : Calls Tryz.prog 36 #[] w fun e w' => ∃ x f p s t, e = .returned (ptr x) ∧ RXA w' w.heap.size x f p s t [] Fd.FS.zero ∧ Pc.RT w' t (Pc.trS Pc.St0) ∧ Below w.heap.size w w' := by
  have h3 := Sg.xnew_at
  have hs : ∀ o1 o2, ((w.alloc o1).alloc o2).heap.size = w.heap.size + 2 := fun o1 o2 => by simp
  have hx : ∀ o1 o2, ((w.alloc o1).alloc o2).heap[w.heap.size]? = some o1 := fun o1 o2 => by rw [Below.heap_alloc _ _ _ (by simp)]; exact heap_alloc_new _ _
  have hB : ∀ o1 o2, Below w.heap.size w ((w.alloc o1).alloc o2) := fun o1 o2 => (below_alloc w o1).trans ((below_alloc (w.alloc o1) o2).mono (by simp))
  go_enter Tryz.func36, Tryz.ntmps36
  go_wp2_with fail
  refine (h3 _).mono ?_
  rintro e w2 ⟨rfl, -, hb⟩
  have HB2 : Hid (Below w.heap.size w w2) := (hB _ _).trans (hb.mono (hB _ _).size)
  have HF2 : Hid (w2.heap[w.heap.size]? = some (.cells #[.slice none 0 0] 150)) := (hb.block _ (by rw [hs]; omega)).trans (hx _ _)
  clear hb h3 hs hx hB
  go_wp2
  go_ret
  have hz := lit24
  have bb : ∀ o1 o2, Below w2.heap.size w2 ((w2.alloc o1).alloc o2) := fun o1 o2 => (below_alloc w2 o1).trans ((below_alloc (w2.alloc o1) o2).mono (by simp))
  refine ⟨w2.heap.size + 1, w.heap.size, w.heap.size + 1, w.heap.size + 1 + 1, w2.heap.size, rfl, ⟨?_, ⟨.slice none 0 0, ?_, World.ownsRow_nil _ _ _ _, fun e he => (by simp at he), Nat.le_refl _⟩, rl_zero, Fd.Inv.zero, HB2.out.size, ?_⟩, ?_, HB2.out.trans ((bb _ _).mono HB2.out.size)⟩
  · simpa using heap_alloc_new (w2.alloc _) _
  · exact ((bb _ _).block _ (lt_of_heap HF2.out)).trans HF2.out
  · have := HB2.out.size
    simp
    omega
  · unfold Pc.RT
    rw [← hz, Below.heap_alloc _ _ _ (by simp)]
    exact heap_alloc_new _ _
set_option maxHeartbeats 1000000 in
set_option maxRecDepth 100000 in
theorem xbegin_at {w : World} {B x f p s t : Nat} (h : RXA w B x f p s t [] Fd.FS.zero) (ht : Pc.RT w t (Pc.trS Pc.St0)) :
    Calls Tryz.prog 40 #[ptr x, .int .i64 1] w fun e w' => e = .returned (.int .i64 0) ∧ RG B w w' := by
  have c0 := h.c0
  have c3 := h.c3
  have hb := rbegin21_at t w ht
  have HX : Hid (RXA w B x f p s t [] Fd.FS.zero ∧ Pc.RT w t (Pc.trS Pc.St0)) := ⟨h, ht⟩
  clear h ht
  go_enter Tryz.func40, Tryz.ntmps40
  go_wp2_with fail
  refine hb.mono ?_
  rintro e w1 ⟨rfl, hu⟩
  have HE1 : Hid (∃ L F, RXA w1 B x f p s t L F ∧ RG B w w1) := by
    obtain ⟨hX, hT⟩ := HX.out
    have hg := RG.of_upd hu hT hX.tB
    obtain ⟨v, hv⟩ := hX.fds
    have hk : ∀ (k : Nat) (cs : Array Value) (ty : TypeId) (fr : Nat × Nat), w.heap[k]? = some (.cells cs ty fr) → ty ≠ 171 → w1.heap[k]? = some (.cells cs ty fr) := fun k cs ty fr hk hne => (hu.block k (lt_of_heap hk) (fun e => by
      subst e
      rw [hT] at hk
      simp only [Option.some.injEq, Obj.cells.injEq] at hk
      exact hne hk.2.1.symm)).trans hk
    exact ⟨[], Fd.FS.zero, ⟨hk _ _ _ _ hX.head (by decide), ⟨v, hv.keep (fun k cs ty fr hh hty => hk _ _ _ _ hh (by rcases hty with rfl | rfl | rfl <;> decide))⟩, hX.rl, hX.inv, hX.tB, Nat.le_trans hX.Bw hu.size⟩, hg⟩
  clear hb hu c0 c3
  go_wp2_with fail
  go_loopw [5] (fun s' wr => ∃ k : Nat, k ≤ 3 ∧ s' = .int .i64 k ∧ Hid (∃ L F, RXA wr B x f p s t L F ∧ RG B w wr)) (fun s' _ => 3 - (intOf s').toNat)
  case atStart => exact ⟨0, by omega, rfl, HE1⟩
  case round =>
    obtain ⟨k, hk, rfl, HR⟩ := hrel
    clear HE1
    obtain ⟨L, F, hX, hG⟩ := HR.out
    have c0 := hX.c0
    by_cases hlt : k < 3
    · have hl : decide ((k : Int) < 3) = true := decide_eq_true (by omega)
      obtain ⟨v, hv⟩ := hX.fds
      have hO := Fd.ropen_at B f v L F 1 conF wr hv hX.rl hX.inv hX.Bw
      have HXo : Hid (RXA wr B x f p s t L F ∧ RG B w wr) := ⟨hX, hG⟩
      generalize Fd.openA F 1 = oa at hO
      generalize Fd.openE F 1 = oe at hO
      clear hX hG hv HR
      go_wp2_with fail
      refine hO.mono ?_
      rintro e w2 ⟨rfl, ⟨v', L', hv', hl'⟩, hu⟩
      have HE2 : Hid (∃ L F, RXA w2 B x f p s t L F ∧ RG B w w2) := by
        obtain ⟨hX, hG⟩ := HXo.out
        exact ⟨L', _, ⟨hu.other _ _ _ _ hX.head (by decide) (by decide), ⟨v', hv'⟩, hl', hX.inv.openT _ _, hX.tB, Nat.le_trans hX.Bw hu.size⟩, hG.trans (RG.of_ru hu (Nat.le_refl _))⟩
      clear hO hv' hl' hu c0 HXo
      go_wp2
      go_roundw
      case rel => exact ⟨k + 1, by omega, by go_num, HE2⟩
      case measure => simp [intOf]; omega
    · obtain rfl : k = 3 := by omega
      have HG : Hid (RG B w wr) := hG
      clear hX hG HR
      go_wp2
      go_ret
      exact ⟨rfl, HG.out⟩
end Go.Proofs.YtikjfdihocgfpaaGreatDoor
namespace Go.Proofs.YtikjfdihocgfpaaGreatDoor
open Go.RowKit
/-- 32 words that are 0. -/
def zc : Array Value := urow (List.replicate 32 0)
theorem lit_zc : (#[.int .u64 0, .int .u64 0, .int .u64 0, .int .u64 0, .int .u64 0, .int .u64 0, .int .u64 0, .int .u64 0, .int .u64 0, .int .u64 0, .int .u64 0, .int .u64 0, .int .u64 0, .int .u64 0, .int .u64 0, .int .u64 0, .int .u64 0, .int .u64 0, .int .u64 0, .int .u64 0, .int .u64 0, .int .u64 0, .int .u64 0, .int .u64 0, .int .u64 0, .int .u64 0, .int .u64 0, .int .u64 0, .int .u64 0, .int .u64 0, .int .u64 0, .int .u64 0] : Array Value) = zc := rfl
theorem contSize : (Tryz.prog.info? 311).map (·.size) = some 32 := by kernel_rfl
theorem urow_one (xs : List Int) : (urow xs).all (·.oneCell') = true := by
  unfold urow
  refine all_oneCell_toArray (fun v hv => ?_)
  simp only [List.mem_map] at hv
  obtain ⟨x, _, rfl⟩ := hv
  rfl
theorem urow_get (xs : List Int) (j : Nat) (h : j < xs.length) : (urow xs)[j]? = some (.int .u64 (xs.getD j 0)) := by simp [urow, h]
/-- A copy of 32 words over 32, at a place of a block. -/
theorem copy_cont {w : World} {g : Nat} {t : TypeId} {us ws : List Int} (h : w.heap[g]? = some (.cells (urow us) t)) (hu : us.length = 32) (hl : ws.length = 32) (p : Nat)
    (hw : ∀ (j : Nat) (x : Int), ws[j]? = some x → w.cell? ⟨p, j, none⟩ = some (.int .u64 x)) (ty : TypeId) (c1 c2 : Nat) :
    (Builtin.copy_ #[22, 22] ty #[.slice (some ⟨g, 0, none⟩) 32 c1, .slice (some ⟨p, 0, none⟩) 32 c2]).run Tryz.prog w = .ok (goInt 32) (w.setRow g (urow ws)) := by
  have hr := run_copy_row Tryz.prog w 22 22 ty 46 g 0 32 c1 ⟨p, 0, none⟩ 32 c2 (urow us) t (uvs ws) Tryz.underlying22 (by kernel_rfl) h
    (by simp [uvs_len, hl])
    (fun j v hv => by
      obtain ⟨x, hx, rfl⟩ := uvs_get hv
      rw [add0, Nat.zero_add]
      exact hw j x hx)
    (by simp [uvs_len, hl, urow_size, hu]) (uvs_one ws)
  rw [hr, urow_splice us 0 ws (uvs ws) rfl (by omega)]
  have e : splice us 0 ws = ws := by
    unfold splice
    rw [List.take_zero, List.nil_append, List.drop_eq_nil_of_le (by omega), List.append_nil]
  simp [uvs_len, hl, e]
section
variable {w w' : World} {B : Sto} {n m : Nat} {vs : List Int}
set_option maxHeartbeats 1000000 in
set_option maxRecDepth 100000 in
theorem iget_at (h : Dk w B n vs m) (b : Nat) (hb : b < n) (hm : m ≤ 1000000000000) :
    Calls Tryz.prog 246 #[sto B, .int .i64 b] w fun e w' => e = .returned (.tuple #[.agg (urow (frameOf vs b)), .int .i64 0]) ∧ Dk w' B n vs (m + 1) ∧ ST B.lo w w' := by
  have HOk : Hid (SOk B) := h.ok
  have hme := h.ok.mget
  have hcf := h.ok.cget
  obtain ⟨W2, hW2⟩ : ∃ W, W = (w.alloc (.cells zc 311)).alloc (.cells zc 311) := ⟨_, rfl⟩
  have hb2 : Below w.heap.size w W2 := by rw [hW2]; exact (below_alloc w _).trans ((below_alloc _ _).mono (by simp))
  have HB2 : Hid (Below w.heap.size w W2) := hb2
  have HL : Hid _ := frameOf_length vs b n h.len hb
  obtain ⟨-, P, hat⟩ := h.below hb2
  have hg2 := HOk.out.get hat b hb hm
  have HFo : Hid (∀ k, P k → B.lo ≤ k ∧ IsSt W2 k) := HOk.out.foot hat
  have hR0 : W2.heap[w.heap.size]? = some (.cells zc 311) := by rw [hW2]; exact heap_alloc2_old w _ _
  have hR1 : W2.heap[w.heap.size + 1]? = some (.cells zc 311) := by rw [hW2]; exact heap_alloc2_new w _ _
  have HR0 : Hid _ := hR0
  have HR1 : Hid _ := hR1
  have HW : Hid _ := hW2
  have hz := lit_zc
  obtain ⟨bb, hbb⟩ : ∃ x, x = B.x := ⟨_, rfl⟩
  obtain ⟨gf, hgf⟩ : ∃ x, x = B.gf := ⟨_, rfl⟩
  obtain ⟨ti, hti⟩ : ∃ x, x = B.t := ⟨_, rfl⟩
  unfold sto
  rw [← hbb, ← hgf] at hg2
  rw [← hbb, ← hgf, ← hti] at hme
  rw [← hgf] at hcf
  rw [← hbb, ← hti]
  clear h hb2 hW2 hR0 hR1 hat hbb hgf hti
  go_enter Tryz.func246, Tryz.ntmps246
  go_wp2_with fail
  rw [← HW.out]
  refine hg2.mono ?_
  rintro e w1 ⟨gg, gcap, rfl, hr1, P', hat1, hP', hu1⟩
  have HSt : Hid (ST B.lo W2 w1) := SU.of_updP hu1 HFo.out
  have HD1 : Hid (Dk w1 B n vs (m + 1)) := ⟨HOk.out, P', hat1⟩
  have hR0 : w1.heap[w.heap.size]? = some (.cells zc 311) := HSt.out.other HR0.out (by decide)
  have hR1 : w1.heap[w.heap.size + 1]? = some (.cells zc 311) := HSt.out.other HR1.out (by decide)
  have HU1 : Hid (ST B.lo w w1) := SU.trans (SU.of_below HB2.out) HSt.out
  obtain ⟨a, cap, e, -, -, hf⟩ := hr1
  obtain ⟨g', cur, e2, -, hh, hcell⟩ := hf (by intro e; have := HL.out; rw [e] at this; simp at this)
  rw [HL.out] at e
  simp only [Value.slice.injEq] at e
  obtain ⟨e3, -, -⟩ := e
  rw [e2] at e3
  simp only [Option.some.injEq, Addr.mk.injEq] at e3
  have e4 : gg = g' := e3.1
  subst e4
  have hcp := fun ty c1 c2 => copy_cont (w := w1) (g := w.heap.size + 1) (us := List.replicate 32 0) (ws := frameOf vs b) hR1 (by simp) HL.out gg (fun j x hx => by rw [cell_of_heap hh]; exact hcell j x hx) ty c1 c2
  obtain ⟨R, hR⟩ : ∃ R, R = urow (frameOf vs b) := ⟨_, rfl⟩
  have HRq : Hid _ := hR
  have HRs : Hid (R.size = 32) := by show _ = _; rw [hR, urow_size]; exact HL.out
  have HRo : Hid (R.all (·.oneCell') = true) := by show _ = _; rw [hR]; exact urow_one _
  rw [← hR] at hcp
  obtain ⟨c1, hc1⟩ : ∃ c, c = w.heap.size + 1 := ⟨_, rfl⟩
  obtain ⟨c0, hc0⟩ : ∃ c, c = w.heap.size := ⟨_, rfl⟩
  have HC : Hid (c0 ≠ c1) := by show _ ≠ _; omega
  have HC0 : Hid (w.heap.size ≤ c0 ∧ w.heap.size ≤ c1) := by show _ ∧ _; omega
  have HT1 : Hid (¬ IsSt w1 c1) := by rw [← hc1] at hR1; exact not_isSt hR1 (by decide)
  have H2 : Hid ((w1.setRow c1 R).heap[c1]? = some (.cells R 311 (0, 0))) := by rw [← hc1] at hR1; exact setRow_heap w1 c1 _ _ _ _ hR1
  have H3 : Hid ((w1.setRow c1 R).heap[c0]? = some (.cells zc 311 (0, 0))) := by rw [← hc0] at hR0; exact (setRow_other _ _ _ _ HC.out).trans hR0
  have H4 : Hid (((w1.setRow c1 R).setRow c0 R).heap[c0]? = some (.cells R 311 (0, 0))) := setRow_heap _ c0 _ _ _ _ H3.out
  rw [← hc1] at hcp ⊢
  rw [← hc0]
  clear hR hR0 hR1 hu1 hat1 hP' hg2 hf hh hcell e2 e3 hc1 hc0 hz hme hcf
  go_wp2_with (first
    | (refine wpList_load_row rfl 311 _ rfl c1 rfl 311 R (0, 0) _ H2.out Tryz.underlying311 rfl (by rw [HRs.out]; exact contSize) ?_)
    | (refine wpList_store_row rfl 311 _ _ rfl c0 R rfl rfl 311 zc H3.out (by rw [HRs.out]; exact contSize) (by rw [HRs.out]; rfl) HRo.out ?_)
    | go_in)
  refine bodyPost_ret (v := .tuple #[.agg R, .int .i64 0]) ?_ rfl ⟨by rw [← HRq.out], ?_, ?_⟩
  · rw [results_cell_tmp rfl]
    show ((asAddr (.pointer (some ⟨c0, 0, none⟩))).run _ _).andThen _ = _
    simp only [asAddr, Sem.run_pure, Result.andThen_ok]
    rw [run_loadVar_row _ c0 _ _ R (0, 0) _ H4.out Tryz.underlying311 rfl (by rw [HRs.out]; exact contSize)]
    rfl
  · exact (Dk.other HD1.out (Upd.setRow c1 w1 R) HT1.out).other (Upd.setRow c0 _ R) (not_isSt H3.out (by decide))
  · exact ((HU1.out).far HC0.out.2).far HC0.out.1
set_option maxHeartbeats 1000000 in
set_option maxRecDepth 100000 in
theorem iput_at (h : Dk w B n vs m) (b : Nat) (hb : b < n) (hm : m ≤ 1000000000000) (ws : List Int) (hl : ws.length = 32) :
    Calls Tryz.prog 251 #[sto B, .int .i64 b, .agg (urow ws)] w fun e w' => e = .returned (.int .i64 0) ∧ Dk w' B n (splice vs (b * 32) ws) (m + 1) ∧ ST B.lo w w' := by
  have HOk : Hid (SOk B) := h.ok
  have hme := h.ok.mput
  have hcf := h.ok.cput
  have hah := h.ok.aput
  obtain ⟨R, hR⟩ : ∃ R, R = urow ws := ⟨_, rfl⟩
  obtain ⟨W, hW⟩ : ∃ W, W = w.alloc (.cells R 311) := ⟨_, rfl⟩
  have hb1 : Below w.heap.size w W := by rw [hW]; exact below_alloc _ _
  have HB1 : Hid (Below w.heap.size w W) := hb1
  have hrow : W.heap[w.heap.size]? = some (.cells R 311) := by rw [hW]; exact heap_alloc_new _ _
  have HP : Hid (∀ q, Calls Tryz.prog B.pf #[B.x, .int .i64 b, .slice (some ⟨w.heap.size, 0, none⟩) 32 32] (W.drewN q) fun e w' => e = .returned (.int .i64 0) ∧ Dk w' B n (splice vs (b * 32) ws) (m + 1) ∧ ST B.lo (W.drewN q) w') := fun q => by
    obtain ⟨hk, P, hat⟩ := (h.below hb1).below (Di.drewN_below (w := W) ⟨q, rfl⟩)
    refine (hk.put hat b hb hm w.heap.size ws 32 (not_isSt (w := W.drewN q) hrow (by decide)) hl (fun j x hx => by
      have hj : j < ws.length := (List.getElem?_eq_some_iff.1 hx).1
      show W.cell? _ = _
      rw [cell_of_heap hrow, hR, urow_get ws j hj, List.getD_eq_getElem?_getD, hx]
      rfl)).mono ?_
    rintro e w1 ⟨rfl, P', h1, -, h3⟩
    exact ⟨rfl, ⟨hk, P', h1⟩, SU.of_updP h3 (hk.foot hat)⟩
  have HRs : Hid (R.size = 32) := by show _ = _; rw [hR, urow_size]; exact hl
  have HW : Hid _ := hW
  rw [← hR]
  obtain ⟨bb, hbb⟩ : ∃ x, x = B.x := ⟨_, rfl⟩
  obtain ⟨pf, hpf⟩ : ∃ x, x = B.pf := ⟨_, rfl⟩
  obtain ⟨ti, hti⟩ : ∃ x, x = B.t := ⟨_, rfl⟩
  unfold sto
  rw [← hbb, ← hpf] at HP
  rw [← hbb, ← hpf, ← hti] at hme
  rw [← hpf] at hcf
  rw [← hbb, ← hti] at hah
  rw [← hbb, ← hti]
  clear hR hb1 hrow hW h hl hbb hpf hti
  go_enter Tryz.func251, Tryz.ntmps251
  go_wp2_with fail
  rw [← HW.out]
  clear HW
  refine wp_region_held_drew (S := fun _ => True) (by kernel_rfl) trivial (fun hHeld => ?_)
  refine wpAnyH_take (i := 0) (v := ?_) rfl (by kernel_rfl) (by kernel_rfl) (by kernel_rfl) (fun _ _ _ h => h) (Or.inl ⟨by kernel_rfl, ?_⟩) (by assumption) ?_
  rotate_left
  · (intro w hSw; (try dsimp only at hSw); go_simp) <;> with_reducible rfl
  (try simp only [Act.put, List.getElem_toArray, List.getElem_cons_zero, List.setIfInBounds_toArray, List.set_cons_zero, List.set_cons_succ])
  refine wpAnyH_take (i := 1) (v := ?_) rfl (by kernel_rfl) (by kernel_rfl) (by kernel_rfl) (fun _ _ _ h => h) (Or.inl ⟨by kernel_rfl, ?_⟩) (by assumption) ?_
  rotate_left
  · (intro w hSw; (try dsimp only at hSw); go_simp) <;> with_reducible rfl
  (try simp only [Act.put, List.getElem_toArray, List.getElem_cons_zero, List.getElem_cons_succ, List.setIfInBounds_toArray, List.set_cons_zero, List.set_cons_succ])
  refine wpAnyH_take (i := 2) (v := ?_) rfl (by kernel_rfl) (by kernel_rfl) (by kernel_rfl) (fun _ _ _ h => h) (Or.inl ⟨by kernel_rfl, ?_⟩) (by assumption) ?_
  rotate_left
  · (intro w hSw; (try dsimp only at hSw); go_simp) <;> with_reducible rfl
  (try simp only [Act.put, List.getElem_toArray, List.getElem_cons_zero, List.getElem_cons_succ, List.setIfInBounds_toArray, List.set_cons_zero, List.set_cons_succ])
  refine wpAnyH_take (i := 3) (v := ?_) rfl (by kernel_rfl) (by kernel_rfl) (by kernel_rfl) (fun _ _ _ h => h) (Or.inl ⟨by kernel_rfl, ?_⟩) (by assumption) ?_
  rotate_left
  · (intro w hSw; (try dsimp only at hSw); go_simp) <;> with_reducible rfl
  (try simp only [Act.put, List.getElem_toArray, List.getElem_cons_zero, List.getElem_cons_succ, List.setIfInBounds_toArray, List.set_cons_zero, List.set_cons_succ])
  refine wpAnyH_take (i := 4) (v := ?_) rfl (by kernel_rfl) (by kernel_rfl) (by kernel_rfl) (fun _ _ _ h => h) (Or.inl ⟨by kernel_rfl, ?_⟩) (by assumption) ?_
  rotate_left
  · (intro w hSw; (try dsimp only at hSw); go_simp) <;> with_reducible rfl
  (try simp only [Act.put, List.getElem_toArray, List.getElem_cons_zero, List.getElem_cons_succ, List.setIfInBounds_toArray, List.set_cons_zero, List.set_cons_succ])
  refine wpAnyH_take (i := 5) (v := ?_) rfl (by kernel_rfl) (by kernel_rfl) (by kernel_rfl) (fun _ _ _ h => h) (Or.inl ⟨by kernel_rfl, ?_⟩) (by assumption) ?_
  rotate_left
  · (intro w hSw; (try dsimp only at hSw); go_simp) <;> with_reducible rfl
  (try simp only [Act.put, List.getElem_toArray, List.getElem_cons_zero, List.getElem_cons_succ, List.setIfInBounds_toArray, List.set_cons_zero, List.set_cons_succ])
  refine wpAnyH_ready (rs := [6]) (by kernel_rfl) (by simp) ?_
  refine AllReadyH.cons rfl (fun K hK => ?_) AllReadyH.nil
  go_simp
  refine (HP.out 1).mono ?_
  rintro e w1 ⟨rfl, hd1, hu1⟩
  have HD1 : Hid (Dk w1 B n (splice vs (b * 32) ws) (m + 1)) := hd1
  have HU1 : Hid (ST B.lo w w1) := SU.trans (SU.trans (SU.of_below HB1.out) (SU.of_below (Di.drewN_below ⟨1, rfl⟩))) hu1
  clear hd1 hu1 HP
  refine hK.out _ _ trivial (fun hHeld => ?_)
  clear hK K
  (try simp only [Act.put, List.getElem_toArray, List.getElem_cons_zero, List.getElem_cons_succ, List.setIfInBounds_toArray, List.set_cons_zero, List.set_cons_succ])
  refine wpAnyH_take (i := 7) (v := ?_) rfl (by kernel_rfl) (by kernel_rfl) (by kernel_rfl) (fun _ _ _ h => h) (Or.inl ⟨by kernel_rfl, ?_⟩) (by assumption) ?_
  rotate_left
  · (intro w hSw; (try dsimp only at hSw); go_simp) <;> with_reducible rfl
  (try simp only [Act.put, List.getElem_toArray, List.getElem_cons_zero, List.getElem_cons_succ, List.setIfInBounds_toArray, List.set_cons_zero, List.set_cons_succ])
  refine wpAnyH_done (by kernel_rfl) ?_ _
  go_wp2
  go_ret
  exact ⟨rfl, HD1.out, HU1.out⟩
end
end Go.Proofs.YtikjfdihocgfpaaGreatDoor
