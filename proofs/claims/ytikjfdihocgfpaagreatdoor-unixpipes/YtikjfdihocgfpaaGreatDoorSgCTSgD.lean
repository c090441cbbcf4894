/- Package signals: the signals in the heap; atFirst, New, process. -/
/- Package signals: New, process, Set, Send, Next. -/
import Derived.Test.YtikjfdihocgfpaaGreatDoorSgMTSgA
set_option linter.all false
namespace Go.Proofs.YtikjfdihocgfpaaGreatDoor
open Go.RowKit
namespace Ow
end Ow
namespace Sg
open Ow
/-- A row in which these cells are laid from place o on. -/
def putA : Array Value → Nat → List Value → Array Value
  | row, _, [] => row
  | row, o, v :: r => putA (row.setIfInBounds o v) (o + 1) r
theorem putA_size : ∀ (vs : List Value) (o : Nat) (row : Array Value), (putA row o vs).size = row.size
  | [], _, _ => rfl
  | v :: r, o, row => by unfold putA; rw [putA_size r]; simp
theorem putA_out : ∀ (vs : List Value) (o : Nat) (row : Array Value) (k : Nat), k < o ∨ o + vs.length ≤ k → (putA row o vs)[k]? = row[k]?
  | [], _, _, _, _ => rfl
  | v :: r, o, row, k, h => by
    rw [List.length_cons] at h
    unfold putA
    rw [putA_out r (o + 1) _ k (by omega), Array.getElem?_setIfInBounds, if_neg (by omega)]
theorem putA_in : ∀ (vs : List Value) (o : Nat) (row : Array Value) (j : Nat), j < vs.length → o + vs.length ≤ row.size → (putA row o vs)[o + j]? = vs[j]?
  | [], _, _, _, h, _ => by simp at h
  | v :: r, o, row, j, h, hs => by
    rw [List.length_cons] at h hs
    unfold putA
    cases j with
    | zero => rw [putA_out r (o + 1) _ _ (by omega), Array.getElem?_setIfInBounds, if_pos (by omega), if_pos (by omega)]; rfl
    | succ j =>
      have := putA_in r (o + 1) (row.setIfInBounds o v) j (by omega) (by simp; omega)
      rw [show o + (j + 1) = o + 1 + j by omega, this]
      rfl
theorem SB.sets {b : Nat} : ∀ (vs : List Value) (o : Nat) (w : World) (row : Array Value), SB w b row → SB (w.setCells b o vs) b (putA row o vs)
  | [], _, _, _, h => h
  | v :: r, o, w, row, h => SB.sets r (o + 1) _ _ (h.set o v)
theorem upd_sets (b : Nat) : ∀ (vs : List Value) (o : Nat) (w : World), Upd b w (w.setCells b o vs)
  | [], _, w => Upd.refl b w
  | v :: r, o, w => (Upd.setCell b o w v).trans (upd_sets b r (o + 1) _)
theorem SB.there {w : World} {b : Nat} {row : Array Value} (h : SB w b row) (o n : Nat) (hn : o + n ≤ row.size) : w.there b o n := fun j hj => by
  refine ⟨?_, h.free _⟩
  rw [h.cell, Array.getElem?_eq_getElem (by omega)]
  rfl
theorem putA_same {vs : List Value} (o : Nat) (row : Array Value) (h : vs.length = 19) : Same o row (putA row o vs) := ⟨putA_size _ _ _, fun k hk => putA_out vs o row k (by omega)⟩
/-- What is told of the processes in the row. -/
structure SgRow (w : World) (row : Array Value) (S : SS) : Prop where
  size : row.size = 152
  at' : ∀ i, i < 8 → SgR w row (i * 19) (S i)
theorem SgRow.kept {w w' : World} {row : Array Value} {S : SS} (h : SgRow w row S) (hw : KeepW w w') : SgRow w' row S := ⟨h.size, fun i hi => (h.at' i hi).kept hw⟩
/-- Block b holds the signals S. -/
def SgAt (w : World) (b : Nat) (S : SS) : Prop := ∃ row, SB w b row ∧ SgRow w row S
section
variable {w w' : World} {b : Nat} {S : SS}
theorem SgAt.lt (h : SgAt w b S) : b < w.heap.size := by
  obtain ⟨row, hr, _⟩ := h
  exact hr.lt
theorem SgAt.keep (h : SgAt w b S) (hb : w'.heap[b]? = w.heap[b]?) (hw : KeepW w w') : SgAt w' b S := by
  obtain ⟨row, hr, h1⟩ := h
  exact ⟨row, hr.keep hb, h1.kept hw⟩
theorem SgAt.below (h : SgAt w b S) (hb : Below w.heap.size w w') : SgAt w' b S := h.keep (hb.block _ h.lt) (KeepW.below hb)
end
/-- 15 handlers, k of them by default, and more cells. -/
def frow (t : List Value) (k : Nat) : Array Value := (List.replicate k (Value.int .u64 18446744073709551615) ++ (List.replicate (15 - k) (Value.int .u64 0) ++ t)).toArray
theorem frow_size {t : List Value} {k : Nat} (h : k ≤ 15) : (frow t k).size = 15 + t.length := by simp [frow]; omega
theorem frow_set {t : List Value} {k : Nat} (h : k < 15) : (frow t k).setIfInBounds k (.int .u64 18446744073709551615) = frow t (k + 1) := by
  apply Array.ext'
  unfold frow
  rw [Array.toList_setIfInBounds, List.toList_toArray, List.toList_toArray, List.set_append_right _ _ (by simp)]
  rw [show 15 - k = (15 - (k + 1)) + 1 by omega, List.replicate_succ (n := 15 - (k + 1)), List.replicate_succ' (n := k), List.append_assoc]
  simp
theorem frow_get {t : List Value} {k : Nat} (h : k < 15) : (frow t k)[k]? = some (.int .u64 0) := by
  unfold frow
  rw [List.getElem?_toArray, List.getElem?_append_right (by simp), List.getElem?_append_left (by simp; omega), List.length_replicate, Nat.sub_self, List.getElem?_replicate, if_pos (by omega)]
theorem frow_hnd {t : List Value} {j : Nat} (h : j < 15) : (frow t 15)[j]? = some (.int .u64 18446744073709551615) := by
  unfold frow
  rw [List.getElem?_toArray, List.getElem?_append_left (by simpa using h), List.getElem?_replicate, if_pos h]
theorem frow_tail {t : List Value} (j : Nat) : (frow t 15)[15 + j]? = t[j]? := by
  unfold frow
  rw [List.getElem?_toArray, List.getElem?_append_right (by simp), List.getElem?_append_right (by simp)]
  simp
theorem frow_one {t : List Value} (ht : ∀ v ∈ t, v.oneCell' = true) : (frow t 15).all (·.oneCell') = true := by
  refine all_oneCell_toArray (fun v hv => ?_)
  simp only [List.mem_append] at hv
  rcases hv with hv | hv | hv
  · rw [List.eq_of_mem_replicate hv]; rfl
  · rw [List.eq_of_mem_replicate hv]; rfl
  · exact ht v hv
def tailS : List Value := [.int .u64 0, .bool false, .int .i64 0, .slice none 0 0]
theorem lit_first : (#[.int .u64 0, .int .u64 0, .int .u64 0, .int .u64 0, .int .u64 0, .int .u64 0, .int .u64 0, .int .u64 0, .int .u64 0, .int .u64 0, .int .u64 0, .int .u64 0, .int .u64 0, .int .u64 0, .int .u64 0, .int .u64 0, .bool false, .int .i64 0, .slice none 0 0] : Array Value) = frow tailS 0 := rfl
theorem procSize : (Tryz.prog.info? 141).map (·.size) = some 19 := by kernel_rfl
theorem first_R {w : World} {row : Array Value} {o : Nat} (h : o + 19 ≤ row.size) (h1 : ∀ j, j < 19 → row[o + j]? = (frow tailS 15)[j]?) : SgR w row o Sg.first := by
  refine ⟨h, fun j hj => ?_, ?_, ?_, ?_, none, 0, ?_, Nat.le_refl _, TRd.nil _ _⟩
  · rw [h1 j (by omega), frow_hnd hj]
    show _ = some (Value.int .u64 ((List.replicate 15 dfl).getD j 0))
    rw [List.getD_eq_getElem?_getD, List.getElem?_replicate, if_pos hj]
    rfl
  · rw [h1 15 (by omega)]; exact frow_tail 0
  · rw [h1 16 (by omega)]; exact frow_tail 1
  · rw [h1 17 (by omega)]; exact frow_tail 2
  · rw [h1 18 (by omega)]; exact frow_tail 3
set_option maxRecDepth 100000 in
set_option maxHeartbeats 2000000 in
theorem atFirst_at (w : World) :
    Calls Tryz.prog 130 #[] w fun x w' => x = .returned (.agg (frow tailS 15)) ∧ Below w.heap.size w w' := by
  have hz := lit_first
  have HSz : Hid (∀ k, k ≤ 15 → (frow tailS k).size = 19) := fun k hk => frow_size hk
  have HSet : Hid (∀ k, k < 15 → (frow tailS k).setIfInBounds k (.int .u64 18446744073709551615) = frow tailS (k + 1)) := fun k hk => frow_set hk
  have HGet : Hid (∀ k, k < 15 → (frow tailS k)[k]? = some (.int .u64 0)) := fun k hk => frow_get hk
  have HOne : Hid ((frow tailS 15).all (·.oneCell') = true) := frow_one (fun v hv => by simp [tailS] at hv; rcases hv with rfl | rfl | rfl | rfl <;> rfl)
  generalize hF : frow tailS = F at *
  clear hF
  go_enter Tryz.func130, Tryz.ntmps130
  go_wp2
  clear hz
  obtain ⟨W, hW⟩ : ∃ W, W = (w.alloc (.cells (F 0) 141)).alloc (.cells (F 0) 141) := ⟨_, rfl⟩
  obtain ⟨r, hr⟩ : ∃ r, r = w.heap.size := ⟨_, rfl⟩
  obtain ⟨g, hg⟩ : ∃ g, g = w.heap.size + 1 := ⟨_, rfl⟩
  have HN : Hid (W.heap[g]? = some (.cells (F 0) 141 (0, 0))) := by
    show _ = _
    have := heap_alloc_new (w.alloc (.cells (F 0) 141)) (.cells (F 0) 141)
    rw [hW, hg]
    simpa using this
  have HM : Hid (W.heap[r]? = some (.cells (F 0) 141 (0, 0))) := by
    rw [hW, hr, Below.heap_alloc _ _ _ (by simp)]
    exact heap_alloc_new _ _
  have HB : Hid (Below w.heap.size w W) := by rw [hW]; exact below_alloc2 _ _ _
  have HG : Hid (g = r + 1) := by show _ = _; rw [hg, hr]
  have HRw : Hid (r = w.heap.size) := hr
  rw [← hW, ← hg, ← hr]
  clear hW hg hr
  go_loopw [3] (fun s wr => ∃ (k : Nat), k ≤ 15 ∧ s = .int .i64 k ∧ wr.heap[g]? = some (.cells (F k) 141 (0, 0)) ∧ wr.heap[r]? = some (.cells (F 0) 141 (0, 0)) ∧ Below w.heap.size w wr) (fun s _ => 15 - (intOf s).toNat)
  case atStart => exact ⟨0, by omega, rfl, HN.out, HM.out, HB.out⟩
  case round =>
    clear HN HM HB
    obtain ⟨k, hk, rfl, hN, hM, hB⟩ := hrel
    have HN : Hid (wr.heap[g]? = some (.cells (F k) 141 (0, 0))) := hN
    have HM : Hid (wr.heap[r]? = some (.cells (F 0) 141 (0, 0))) := hM
    have HB : Hid (Below w.heap.size w wr) := hB
    by_cases hlt : k < 15
    · have i1 : decide ((k : Int) < 15) = true := decide_eq_true (by omega)
      have hki : (k : Int) < 15 := by omega
      have c0 : wr.cell? ⟨g, k, none⟩ = some (.int .u64 0) := (cell_of_heap hN).trans (HGet.out k hlt)
      have f0 : wr.frozen? ⟨g, k, none⟩ = false := frozen_of_heap hN
      have HN2 : Hid ((wr.setCell ⟨g, k, none⟩ (.int .u64 18446744073709551615)).heap[g]? = some (.cells (F (k + 1)) 141 (0, 0))) := by
        show _ = _
        rw [setCell_eq_setRow wr g k _ _ _ _ hN, setRow_heap wr g _ _ _ _ hN, HSet.out k hlt]
      have HM2 : Hid ((wr.setCell ⟨g, k, none⟩ (.int .u64 18446744073709551615)).heap[r]? = some (.cells (F 0) 141 (0, 0))) :=
        (Below.heap_setCell _ _ _ _ (by have := HG.out; show r ≠ g; omega)).trans hM
      have HB2 : Hid (Below w.heap.size w (wr.setCell ⟨g, k, none⟩ (.int .u64 18446744073709551615))) := hB.trans ((Upd.setCell g k _ _).below (by have := HG.out; have := HRw.out; omega) hB.size)
      clear hN hM hB
      go_wp2
      go_roundw
      case rel => exact ⟨k + 1, by omega, by go_num, HN2.out, HM2.out, HB2.out⟩
      case measure => simp [intOf]; omega
    · obtain rfl : k = 15 := by omega
      have i1 : decide (((15 : Nat) : Int) < 15) = false := rfl
      have HQ : Hid ((wr.setRow r (F 15)).heap[r]? = some (.cells (F 15) 141 (0, 0))) := setRow_heap _ r _ _ _ _ hM
      have HB2 : Hid (Below w.heap.size w (wr.setRow r (F 15))) := hB.trans ((Upd.setRow r _ _).below (by have := HRw.out; omega) hB.size)
      clear hN hM hB
      generalize hR : F 15 = R at *
      have HRs : Hid (R.size = 19) := by show _ = _; rw [← hR]; exact HSz.out 15 (by omega)
      have HR15 : Hid (F 15 = R) := hR
      clear hR
      go_wp2_with (first
        | (refine wpList_load_row rfl 141 _ rfl g rfl 141 R (0, 0) _ HN.out Tryz.underlying141 rfl (by rw [HRs.out]; exact procSize) ?_)
        | (refine wpList_store_row rfl 141 _ _ rfl r R rfl rfl 141 (F 0) HM.out (by rw [HRs.out]; exact procSize) (by rw [HRs.out, HSz.out 0 (by omega)]) HOne.out ?_)
        | go_in)
      refine bodyPost_ret (v := .agg R) ?_ rfl ⟨by rw [HR15.out], HB2.out⟩
      exact results_cell_row rfl _ _ r 141 R (0, 0) _ rfl HQ.out Tryz.underlying141 rfl (by rw [HRs.out]; exact procSize)
end Sg
end Go.Proofs.YtikjfdihocgfpaaGreatDoor
namespace Go.Proofs.YtikjfdihocgfpaaGreatDoor
open Go.RowKit
namespace Ow
end Ow
namespace Sg
open Ow
/-- The cells of zeroed signals. -/
def srow : Array Value := ((List.replicate 8 (frow tailS 0).toList).flatten).toArray
theorem srow_size : srow.size = 152 := by kernel_rfl
theorem srow_zero : (Tryz.prog.info? 144).map (·.zero) = some (some (.agg srow)) := by kernel_rfl
theorem zero_sig (W : World) : (zeroValue 144).run Tryz.prog W = .ok (.agg srow) W := by
  obtain ⟨i, hi, hz⟩ := Option.map_eq_some_iff.1 srow_zero
  simp [zeroValue, typeInfo, hi, hz]
/-- The first k processes are as at first. -/
structure FirstK (w : World) (row : Array Value) (k : Nat) : Prop where
  size : row.size = 152
  at' : ∀ i, i < k → SgR w row (i * 19) Sg.first
theorem FirstK.next {w w' : World} {row : Array Value} {k : Nat} (h : FirstK w row k) (hk : k < 8) (hw : KeepW w w') : FirstK w' (putA row (k * 19) (frow tailS 15).toList) (k + 1) := by
  have hs := h.size
  have hl : (frow tailS 15).toList.length = 19 := rfl
  have hsm := putA_same (k * 19) row hl
  refine ⟨hsm.1.trans hs, fun i hi => ?_⟩
  by_cases e : i = k
  · subst e
    refine first_R (by rw [hsm.1]; omega) (fun j hj => ?_)
    rw [putA_in _ _ _ j (by omega) (by omega), Array.getElem?_toList]
  · exact (h.at' i (by omega)).keep hsm.1 (fun q h1 h2 => hsm.2 q (by omega)) hw
set_option maxRecDepth 100000 in
set_option maxHeartbeats 2000000 in
theorem new_at (w : World) :
    Calls Tryz.prog 75 #[] w fun x w' => x = .returned (.pointer (some ⟨w.heap.size, 0, none⟩)) ∧ SgAt w' w.heap.size SS.first ∧ Below w.heap.size w w' := by
  have HR : Hid (srow.size = 152) := srow_size
  have hz := zero_sig
  generalize srow = R at *
  obtain ⟨b, hb⟩ : ∃ b, b = w.heap.size := ⟨_, rfl⟩
  have HBb : Hid (b = w.heap.size) := hb
  go_enter Tryz.func75, Tryz.ntmps75
  go_wp2
  have HN : Hid (SB (w.alloc (.cells R 144)) b R) := by rw [hb]; exact heap_alloc_new _ _
  have HB : Hid (Below w.heap.size w (w.alloc (.cells R 144))) := below_alloc _ _
  rw [← hb]
  generalize w.alloc (.cells R 144) = W at *
  clear hz hb
  go_loopw [5] (fun s wr => ∃ (k : Nat) (row : Array Value), k ≤ 8 ∧ s = .int .i64 k ∧ SB wr b row ∧ FirstK wr row k ∧ Below w.heap.size w wr) (fun s _ => 8 - (intOf s).toNat)
  case atStart => exact ⟨0, R, by omega, rfl, HN.out, ⟨HR.out, fun i hi => by omega⟩, HB.out⟩
  case round =>
    clear HN HB
    obtain ⟨k, row, hk, rfl, hS, hF, hB⟩ := hrel
    have HS : Hid (SB wr b row) := hS
    have HF : Hid (FirstK wr row k) := hF
    have HB : Hid (Below w.heap.size w wr) := hB
    by_cases hlt : k < 8
    · have i1 : decide ((k : Int) < 8) = true := decide_eq_true (by omega)
      have hki : (k : Int) < 8 := by omega
      have hAF := atFirst_at wr.drew
      have HFs : Hid ((frow tailS 15).size = 19) := rfl
      have HFo : Hid ((frow tailS 15).all (·.oneCell') = true) := frow_one (fun v hv => by simp [tailS] at hv; rcases hv with rfl | rfl | rfl | rfl <;> rfl)
      have HNx : Hid (∀ w', KeepW wr w' → FirstK w' (putA row (k * 19) (frow tailS 15).toList) (k + 1)) := fun w' hw => hF.next hlt hw
      generalize frow tailS 15 = F at *
      clear hS hF hB
      go_wp2_with fail
      refine wp_region_held_drew (S := fun w' => True) (by kernel_rfl) trivial (fun hHeld => ?_)
      refine wpAnyH_take (i := 0) (v := ?_) rfl (by kernel_rfl) (by kernel_rfl) (by kernel_rfl) (fun _ _ _ h => h) (Or.inl ⟨by kernel_rfl, ?_⟩) (by assumption) ?_
      rotate_left
      · (intro w hSw; (try dsimp only at hSw); go_simp) <;> with_reducible rfl
      (try simp only [Act.put, List.getElem_toArray, List.getElem_cons_zero, List.setIfInBounds_toArray, List.set_cons_zero, List.set_cons_succ])
      refine wpAnyH_take (i := 1) (v := ?_) rfl (by kernel_rfl) (by kernel_rfl) (by kernel_rfl) (fun _ _ _ h => h) (Or.inl ⟨by kernel_rfl, ?_⟩) (by assumption) ?_
      rotate_left
      · (intro w hSw; (try dsimp only at hSw); go_simp) <;> with_reducible rfl
      (try simp only [Act.put, List.getElem_toArray, List.getElem_cons_zero, List.getElem_cons_succ, List.setIfInBounds_toArray, List.set_cons_zero, List.set_cons_succ])
      refine wpAnyH_take (i := 3) (v := ?_) rfl (by kernel_rfl) (by kernel_rfl) (by kernel_rfl) (fun _ _ _ h => h) (Or.inl ⟨by kernel_rfl, ?_⟩) (by assumption) ?_
      rotate_left
      · (intro w hSw; (try dsimp only at hSw); go_simp) <;> with_reducible rfl
      (try simp only [Act.put, List.getElem_toArray, List.getElem_cons_zero, List.getElem_cons_succ, List.setIfInBounds_toArray, List.set_cons_zero, List.set_cons_succ])
      refine wpAnyH_take (i := 4) (v := ?_) rfl (by kernel_rfl) (by kernel_rfl) (by kernel_rfl) (fun _ _ _ h => h) (Or.inl ⟨by kernel_rfl, ?_⟩) (by assumption) ?_
      rotate_left
      · (intro w hSw; (try dsimp only at hSw); go_simp) <;> with_reducible rfl
      (try simp only [Act.put, List.getElem_toArray, List.getElem_cons_zero, List.getElem_cons_succ, List.setIfInBounds_toArray, List.set_cons_zero, List.set_cons_succ])
      refine wpAnyH_ready (rs := [2]) (by kernel_rfl) (by simp) ?_
      refine AllReadyH.cons rfl (fun K hK => ?_) AllReadyH.nil
      go_simp
      refine hAF.mono ?_
      rintro e w1 ⟨rfl, hb1⟩
      have HS1 : Hid (SB w1 b row) := (SB.drew HS.out).below hb1
      have HK1 : Hid (KeepW wr w1) := (KeepW.below (Below.refl wr.heap.size wr).drew).trans (KeepW.below hb1)
      have HB1 : Hid (Below w.heap.size w w1) := HB.out.drew.trans (hb1.mono (by have := HB.out.size; simpa using this))
      clear hb1 hAF
      refine hK.out _ _ trivial (fun hHeld => ?_)
      clear hK K
      (try simp only [Act.put, List.getElem_toArray, List.getElem_cons_zero, List.getElem_cons_succ, List.setIfInBounds_toArray, List.set_cons_zero, List.set_cons_succ])
      refine wpAnyH_take (i := 5) (v := ?_) rfl (by kernel_rfl) (by kernel_rfl) (by kernel_rfl) (fun _ _ _ h => h) (Or.inl ⟨by kernel_rfl, ?_⟩) (by assumption) ?_
      rotate_left
      · (intro w hSw; (try dsimp only at hSw); go_simp) <;> with_reducible rfl
      (try simp only [Act.put, List.getElem_toArray, List.getElem_cons_zero, List.getElem_cons_succ, List.setIfInBounds_toArray, List.set_cons_zero, List.set_cons_succ])
      refine wpAnyH_ready (rs := [6]) (by kernel_rfl) (by simp) ?_
      refine AllReadyH.cons rfl (fun K hK => ?_) AllReadyH.nil
      refine wp_store_mid 141 _ _ rfl b (k * 19) F rfl rfl (HS1.out.there _ _ (by have := HF.out.size; rw [HFs.out]; omega)) (by rw [HFs.out]; exact procSize) HFo.out ?_
      have HS2 : Hid (SB (w1.setCells b (k * 19) F.toList) b (putA row (k * 19) F.toList)) := SB.sets _ _ _ _ HS1.out
      have HU2 : Hid (Upd b w1 (w1.setCells b (k * 19) F.toList)) := upd_sets _ _ _ _
      generalize w1.setCells b (k * 19) F.toList = w2 at *
      have HF2 : Hid (FirstK w2 (putA row (k * 19) F.toList) (k + 1)) := HNx.out _ (HK1.out.trans (HS1.out.kw HU2.out))
      have HB2 : Hid (Below w.heap.size w w2) := HB1.out.trans (HU2.out.below (by have := HBb.out; omega) HB1.out.size)
      refine hK.out _ _ trivial (fun hHeld => ?_)
      clear hK K
      simp only [Act.put, List.getElem_toArray, List.getElem_cons_zero, List.getElem_cons_succ]
      refine wpAnyH_done (by kernel_rfl) ?_ _
      clear hHeld
      go_wp2
      go_roundw
      case rel => exact ⟨k + 1, _, by omega, by go_num, HS2.out, HF2.out, HB2.out⟩
      case measure => simp [intOf]; omega
    · obtain rfl : k = 8 := by omega
      have i1 : decide (((8 : Nat) : Int) < 8) = false := rfl
      clear hS hF hB
      go_wp2
      go_ret
      exact ⟨by rw [HBb.out]; rfl, ⟨row, by rw [← HBb.out]; exact HS.out, HF.out.size, HF.out.at'⟩, HB.out⟩
end Sg
end Go.Proofs.YtikjfdihocgfpaaGreatDoor
