/- Package signals: the signals in the heap; atFirst, New, process. -/
import Derived.Test.YtliifpknkdjgjaaSgB
namespace Go.Proofs.Ytliifpknkdjgjaa
open Go.RowKit
set_option linter.unusedVariables false

/-- A row in which these cells are laid from place o on. -/
def putA : Array Value → Nat → List Value → Array Value
  | row, _, [] => row
  | row, o, v :: r => putA (row.setIfInBounds o v) (o + 1) r
theorem putA_size : ∀ (vs : List Value) (o : Nat) (row : Array Value), (putA row o vs).size = row.size
  | [], _, _ => rfl
  | v :: r, o, row => by unfold putA; rw [putA_size r]; simp
theorem putA_out : ∀ (vs : List Value) (o : Nat) (row : Array Value) (k : Nat), k < o ∨ o + vs.length ≤ k → (putA row o vs)[k]? = row[k]?
  | [], _, _, _, _ => rfl
  | v :: r, o, row, k, h => by
    rw [List.length_cons] at h
    unfold putA
    rw [putA_out r (o + 1) _ k (by omega), Array.getElem?_setIfInBounds, if_neg (by omega)]
theorem putA_in : ∀ (vs : List Value) (o : Nat) (row : Array Value) (j : Nat), j < vs.length → o + vs.length ≤ row.size → (putA row o vs)[o + j]? = vs[j]?
  | [], _, _, _, h, _ => by simp at h
  | v :: r, o, row, j, h, hs => by
    rw [List.length_cons] at h hs
    unfold putA
    cases j with
    | zero => rw [putA_out r (o + 1) _ _ (by omega), Array.getElem?_setIfInBounds, if_pos (by omega), if_pos (by omega)]; rfl
    | succ j =>
      have := putA_in r (o + 1) (row.setIfInBounds o v) j (by omega) (by simp; omega)
      rw [show o + (j + 1) = o + 1 + j by omega, this]
      rfl
theorem SB.sets {b : Nat} : ∀ (vs : List Value) (o : Nat) (w : World) (row : Array Value), SB w b row → SB (w.setCells b o vs) b (putA row o vs)
  | [], _, _, _, h => h
  | v :: r, o, w, row, h => SB.sets r (o + 1) _ _ (h.set o v)
theorem upd_sets (b : Nat) : ∀ (vs : List Value) (o : Nat) (w : World), Upd b w (w.setCells b o vs)
  | [], _, w => Upd.refl b w
  | v :: r, o, w => (Upd.setCell b o w v).trans (upd_sets b r (o + 1) _)
theorem SB.there {w : World} {b : Nat} {row : Array Value} (h : SB w b row) (o n : Nat) (hn : o + n ≤ row.size) : w.there b o n := fun j hj => by
  refine ⟨?_, h.free _⟩
  rw [h.cell, Array.getElem?_eq_getElem (by omega)]
  rfl
theorem putA_same {vs : List Value} (o : Nat) (row : Array Value) (h : vs.length = 19) : Same o row (putA row o vs) := ⟨putA_size _ _ _, fun k hk => putA_out vs o row k (by omega)⟩

/-- What is told of the processes in the row. -/
structure SgRow (w : World) (row : Array Value) (S : SS) : Prop where
  size : row.size = 152
  at' : ∀ i, i < 8 → SgR w row (i * 19) (S i)
theorem SgRow.put {w w' : World} {row row' : Array Value} {S : SS} {i : Nat} {p : Sg} (h : SgRow w row S) (hs : Same (i * 19) row row') (hr : SgR w' row' (i * 19) p) (hw : KeepW w w') : SgRow w' row' (S.set i p) := by
  refine ⟨hs.1.trans h.size, fun j hj => ?_⟩
  by_cases e : j = i
  · rw [e, SS.set_same]; exact hr
  · rw [SS.set_other _ _ _ _ e]
    exact (h.at' j hj).keep hs.1 (fun k h1 h2 => hs.2 k (by omega)) hw
theorem SgRow.kept {w w' : World} {row : Array Value} {S : SS} (h : SgRow w row S) (hw : KeepW w w') : SgRow w' row S := ⟨h.size, fun i hi => (h.at' i hi).kept hw⟩
theorem SgRow.ext {w : World} {row : Array Value} {S T : SS} (h : SgRow w row S) (he : ∀ i, i < 8 → T i = S i) : SgRow w row T := ⟨h.size, fun i hi => by rw [he i hi]; exact h.at' i hi⟩
/-- Block b holds the signals S. -/
def SgAt (w : World) (b : Nat) (S : SS) : Prop := ∃ row, SB w b row ∧ SgRow w row S
section
variable {w w' : World} {b : Nat} {S : SS}
theorem SgAt.lt (h : SgAt w b S) : b < w.heap.size := by
  obtain ⟨row, hr, _⟩ := h
  exact hr.lt
theorem SgAt.keep (h : SgAt w b S) (hb : w'.heap[b]? = w.heap[b]?) (hw : KeepW w w') : SgAt w' b S := by
  obtain ⟨row, hr, h1⟩ := h
  exact ⟨row, hr.keep hb, h1.kept hw⟩
theorem SgAt.below (h : SgAt w b S) (hb : Below w.heap.size w w') : SgAt w' b S := h.keep (hb.block _ h.lt) (KeepW.below hb)
theorem SgAt.ext {T : SS} (h : SgAt w b S) (he : ∀ i, i < 8 → T i = S i) : SgAt w b T := by
  obtain ⟨row, hr, h1⟩ := h
  exact ⟨row, hr, h1.ext he⟩
theorem SgAt.kw (h : SgAt w b S) (hu : Upd b w w') : KeepW w w' := by
  obtain ⟨row, hr, _⟩ := h
  exact hr.kw hu
end

/-- 15 handlers, k of them by default, and more cells. -/
def frow (t : List Value) (k : Nat) : Array Value := (List.replicate k (Value.int .u64 18446744073709551615) ++ (List.replicate (15 - k) (Value.int .u64 0) ++ t)).toArray
theorem frow_size {t : List Value} {k : Nat} (h : k ≤ 15) : (frow t k).size = 15 + t.length := by simp [frow]; omega
theorem frow_set {t : List Value} {k : Nat} (h : k < 15) : (frow t k).setIfInBounds k (.int .u64 18446744073709551615) = frow t (k + 1) := by
  apply Array.ext'
  unfold frow
  rw [Array.toList_setIfInBounds, List.toList_toArray, List.toList_toArray, List.set_append_right _ _ (by simp)]
  rw [show 15 - k = (15 - (k + 1)) + 1 by omega, List.replicate_succ (n := 15 - (k + 1)), List.replicate_succ' (n := k), List.append_assoc]
  simp
theorem frow_get {t : List Value} {k : Nat} (h : k < 15) : (frow t k)[k]? = some (.int .u64 0) := by
  unfold frow
  rw [List.getElem?_toArray, List.getElem?_append_right (by simp), List.getElem?_append_left (by simp; omega), List.length_replicate, Nat.sub_self, List.getElem?_replicate, if_pos (by omega)]
theorem frow_hnd {t : List Value} {j : Nat} (h : j < 15) : (frow t 15)[j]? = some (.int .u64 18446744073709551615) := by
  unfold frow
  rw [List.getElem?_toArray, List.getElem?_append_left (by simpa using h), List.getElem?_replicate, if_pos h]
theorem frow_tail {t : List Value} (j : Nat) : (frow t 15)[15 + j]? = t[j]? := by
  unfold frow
  rw [List.getElem?_toArray, List.getElem?_append_right (by simp), List.getElem?_append_right (by simp)]
  simp
theorem frow_one {t : List Value} (ht : ∀ v ∈ t, v.oneCell' = true) : (frow t 15).all (·.oneCell') = true := by
  refine all_oneCell_toArray (fun v hv => ?_)
  simp only [List.mem_append] at hv
  rcases hv with hv | hv | hv
  · rw [List.eq_of_mem_replicate hv]; rfl
  · rw [List.eq_of_mem_replicate hv]; rfl
  · exact ht v hv
def tailS : List Value := [.int .u64 0, .bool false, .int .i64 0, .slice none 0 0]
theorem lit_first : (#[.int .u64 0, .int .u64 0, .int .u64 0, .int .u64 0, .int .u64 0, .int .u64 0, .int .u64 0, .int .u64 0, .int .u64 0, .int .u64 0, .int .u64 0, .int .u64 0, .int .u64 0, .int .u64 0, .int .u64 0, .int .u64 0, .bool false, .int .i64 0, .slice none 0 0] : Array Value) = frow tailS 0 := rfl
theorem procSize : (Try.prog.info? 62).map (·.size) = some 19 := by kernel_rfl
theorem first_R {w : World} {row : Array Value} {o : Nat} (h : o + 19 ≤ row.size) (h1 : ∀ j, j < 19 → row[o + j]? = (frow tailS 15)[j]?) : SgR w row o Sg.first := by
  refine ⟨h, fun j hj => ?_, ?_, ?_, ?_, none, 0, ?_, Nat.le_refl _, TRd.nil _ _⟩
  · rw [h1 j (by omega), frow_hnd hj]
    show _ = some (Value.int .u64 ((List.replicate 15 dfl).getD j 0))
    rw [List.getD_eq_getElem?_getD, List.getElem?_replicate, if_pos hj]
    rfl
  · rw [h1 15 (by omega)]; exact frow_tail 0
  · rw [h1 16 (by omega)]; exact frow_tail 1
  · rw [h1 17 (by omega)]; exact frow_tail 2
  · rw [h1 18 (by omega)]; exact frow_tail 3
set_option maxRecDepth 100000 in
set_option maxHeartbeats 2000000 in
theorem atFirst_at (w : World) :
    Calls Try.prog 27 #[] w fun x w' => x = .returned (.agg (frow tailS 15)) ∧ Below w.heap.size w w' := by
  have hz := lit_first
  have HSz : Hid (∀ k, k ≤ 15 → (frow tailS k).size = 19) := fun k hk => frow_size hk
  have HSet : Hid (∀ k, k < 15 → (frow tailS k).setIfInBounds k (.int .u64 18446744073709551615) = frow tailS (k + 1)) := fun k hk => frow_set hk
  have HGet : Hid (∀ k, k < 15 → (frow tailS k)[k]? = some (.int .u64 0)) := fun k hk => frow_get hk
  have HOne : Hid ((frow tailS 15).all (·.oneCell') = true) := frow_one (fun v hv => by simp [tailS] at hv; rcases hv with rfl | rfl | rfl | rfl <;> rfl)
  generalize hF : frow tailS = F at *
  clear hF
  go_enter Try.func27, Try.ntmps27
  go_wp2
  clear hz
  obtain ⟨W, hW⟩ : ∃ W, W = (w.alloc (.cells (F 0) 62)).alloc (.cells (F 0) 62) := ⟨_, rfl⟩
  obtain ⟨r, hr⟩ : ∃ r, r = w.heap.size := ⟨_, rfl⟩
  obtain ⟨g, hg⟩ : ∃ g, g = w.heap.size + 1 := ⟨_, rfl⟩
  have HN : Hid (W.heap[g]? = some (.cells (F 0) 62 (0, 0))) := by
    show _ = _
    have := heap_alloc_new (w.alloc (.cells (F 0) 62)) (.cells (F 0) 62)
    rw [hW, hg]
    simpa using this
  have HM : Hid (W.heap[r]? = some (.cells (F 0) 62 (0, 0))) := by
    rw [hW, hr, Below.heap_alloc _ _ _ (by simp)]
    exact heap_alloc_new _ _
  have HB : Hid (Below w.heap.size w W) := by rw [hW]; exact below_alloc2 _ _ _
  have HG : Hid (g = r + 1) := by show _ = _; rw [hg, hr]
  have HRw : Hid (r = w.heap.size) := hr
  rw [← hW, ← hg, ← hr]
  clear hW hg hr
  go_loopw [3] (fun s wr => ∃ (k : Nat), k ≤ 15 ∧ s = .int .i64 k ∧ wr.heap[g]? = some (.cells (F k) 62 (0, 0)) ∧ wr.heap[r]? = some (.cells (F 0) 62 (0, 0)) ∧ Below w.heap.size w wr) (fun s _ => 15 - (intOf s).toNat)
  case atStart => exact ⟨0, by omega, rfl, HN.out, HM.out, HB.out⟩
  case round =>
    clear HN HM HB
    obtain ⟨k, hk, rfl, hN, hM, hB⟩ := hrel
    have HN : Hid (wr.heap[g]? = some (.cells (F k) 62 (0, 0))) := hN
    have HM : Hid (wr.heap[r]? = some (.cells (F 0) 62 (0, 0))) := hM
    have HB : Hid (Below w.heap.size w wr) := hB
    by_cases hlt : k < 15
    · have i1 : decide ((k : Int) < 15) = true := decide_eq_true (by omega)
      have hki : (k : Int) < 15 := by omega
      have c0 : wr.cell? ⟨g, k, none⟩ = some (.int .u64 0) := (cell_of_heap hN).trans (HGet.out k hlt)
      have f0 : wr.frozen? ⟨g, k, none⟩ = false := frozen_of_heap hN
      have HN2 : Hid ((wr.setCell ⟨g, k, none⟩ (.int .u64 18446744073709551615)).heap[g]? = some (.cells (F (k + 1)) 62 (0, 0))) := by
        show _ = _
        rw [setCell_eq_setRow wr g k _ _ _ _ hN, setRow_heap wr g _ _ _ _ hN, HSet.out k hlt]
      have HM2 : Hid ((wr.setCell ⟨g, k, none⟩ (.int .u64 18446744073709551615)).heap[r]? = some (.cells (F 0) 62 (0, 0))) :=
        (Below.heap_setCell _ _ _ _ (by have := HG.out; show r ≠ g; omega)).trans hM
      have HB2 : Hid (Below w.heap.size w (wr.setCell ⟨g, k, none⟩ (.int .u64 18446744073709551615))) := hB.trans ((Upd.setCell g k _ _).below (by have := HG.out; have := HRw.out; omega) hB.size)
      clear hN hM hB
      go_wp2
      go_roundw
      case rel => exact ⟨k + 1, by omega, by go_num, HN2.out, HM2.out, HB2.out⟩
      case measure => simp [intOf]; omega
    · obtain rfl : k = 15 := by omega
      have i1 : decide (((15 : Nat) : Int) < 15) = false := rfl
      have HQ : Hid ((wr.setRow r (F 15)).heap[r]? = some (.cells (F 15) 62 (0, 0))) := setRow_heap _ r _ _ _ _ hM
      have HB2 : Hid (Below w.heap.size w (wr.setRow r (F 15))) := hB.trans ((Upd.setRow r _ _).below (by have := HRw.out; omega) hB.size)
      clear hN hM hB
      generalize hR : F 15 = R at *
      have HRs : Hid (R.size = 19) := by show _ = _; rw [← hR]; exact HSz.out 15 (by omega)
      have HR15 : Hid (F 15 = R) := hR
      clear hR
      go_wp2_with (first
        | (refine wpList_load_row rfl 62 _ rfl g rfl 62 R (0, 0) _ HN.out Try.underlying62 rfl (by rw [HRs.out]; exact procSize) ?_)
        | (refine wpList_store_row rfl 62 _ _ rfl r R rfl rfl 62 (F 0) HM.out (by rw [HRs.out]; exact procSize) (by rw [HRs.out, HSz.out 0 (by omega)]) HOne.out ?_)
        | go_in)
      refine bodyPost_ret (v := .agg R) ?_ rfl ⟨by rw [HR15.out], HB2.out⟩
      exact results_cell_row rfl _ _ r 62 R (0, 0) _ rfl HQ.out Try.underlying62 rfl (by rw [HRs.out]; exact procSize)
end Go.Proofs.Ytliifpknkdjgjaa
