/- The kernel of blocks: a View's Get and Put. -/
import Derived.Test.YtfnafjddajgahabXdF
namespace Go.Proofs.Ytfnafjddajgahab
open Go.RowKit Ca
set_option linter.unusedVariables false

section
variable {w w' : World} {K0 : Nat} {Y : Yd} {n m : Nat} {vs : List Int} {l : Lines} {T : Tab} {V : Nat} {e s : Int}
theorem find_may (hI : XInv T n) (hn : n ≤ 1024) {b r : Int} (h : findR T e s b r = 0) : mayX T e s (findA T e s b r) r = true ∧ 0 ≤ findA T e s b r ∧ findA T e s b r < n ∧ I64 (findA T e s b r) := by
  have h2 : findA T e s b r = (getT T e s).id + b ∧ hasR T e s r = true ∧ 0 ≤ b ∧ b < (getT T e s).len := by
    unfold findR at h
    unfold findA
    split at h
    · rename_i hr
      split at h
      · rename_i hb
        exact ⟨by rw [if_pos hr, if_pos hb], hr, hb.1, hb.2⟩
      · cases h
    · cases h
  obtain ⟨h3, h4, h5, h6⟩ := h2
  have hm : mayX T e s (findA T e s b r) r = true := by
    unfold mayX
    rw [h4, h3]
    simp
    omega
  obtain ⟨q1, q2⟩ := mayX_in hI hm
  exact ⟨hm, q1, q2, by omega, by omega⟩
theorem xvget_no (h : KAt w K0 Y n m vs l T) (hV : VAt w V K0 e s) (b : Int) (hb : I64 b) (hno : findR T e s b 1 ≠ 0) :
    Calls Try.prog 17 #[ptr V, .int .i64 b] w fun x w' => x = .returned (.tuple #[.slice none 0 0, .int .i64 (findR T e s b 1)]) ∧ Below w.heap.size w w' := by
  have hf := xfind_at h hV b 1 hb
  have hne : (findR T e s b 1 != 0) = true := by simpa using hno
  clear h hV hno
  generalize findA T e s b 1 = A at *
  generalize findR T e s b 1 = R at *
  go_enter Try.func17, Try.ntmps17
  go_wp2_with fail
  refine hf.mono ?_
  rintro x w1 ⟨rfl, hb1⟩
  go_wp2
  go_ret2
  exact ⟨rfl, hb1⟩
theorem xvput_no (h : KAt w K0 Y n m vs l T) (hV : VAt w V K0 e s) (b : Int) (hb : I64 b) (v : Value) (hno : findR T e s b 2 ≠ 0) :
    Calls Try.prog 21 #[ptr V, .int .i64 b, v] w fun x w' => x = .returned (.int .i64 (findR T e s b 2)) ∧ Below w.heap.size w w' := by
  have hf := xfind_at h hV b 2 hb
  have hne : (findR T e s b 2 != 0) = true := by simpa using hno
  clear h hV hno
  generalize findA T e s b 2 = A at *
  generalize findR T e s b 2 = R at *
  go_enter Try.func21, Try.ntmps21
  go_wp2_with fail
  refine hf.mono ?_
  rintro x w1 ⟨rfl, hb1⟩
  go_wp2
  go_ret
  exact ⟨rfl, hb1⟩
theorem VAt.keepP {P : Nat → Prop} (hV : VAt w V K0 e s) (hu : UpdP P w w') (hp : ¬ P V) : VAt w' V K0 e s := (hu.block _ (lt_of_heap hV) hp).trans hV
theorem KAt.noV (h : KAt w K0 Y n m vs l T) (hV : VAt w V K0 e s) : ¬ XFoot Y V := by
  obtain ⟨gt, pt, hd, _⟩ := h.disk
  obtain ⟨row, hr, _⟩ := h.lines
  obtain ⟨row2, hr2, _⟩ := h.caps.head
  rintro (q | q | q | q)
  · exact apart hV hr (by decide) q
  · exact apart hV hd.head (by decide) q
  · exact apart hV hd.row (by decide) q
  · exact apart hV hr2 (by decide) q
theorem VAt.cells (hV : VAt w V K0 e s) : w.cell? ⟨V, 0, none⟩ = some (ptr K0) ∧ w.cell? ⟨V, 1, none⟩ = some (.int .i64 e) ∧ w.cell? ⟨V, 2, none⟩ = some (.int .i64 s) := by
  have v0 := cell_of_heap (i := 0) hV
  have v1 := cell_of_heap (i := 1) hV
  have v2 := cell_of_heap (i := 2) hV
  simp only [List.getElem?_toArray, List.getElem?_cons_zero, List.getElem?_cons_succ] at v0 v1 v2
  exact ⟨v0, v1, v2⟩
set_option maxRecDepth 100000 in
set_option maxHeartbeats 4000000 in
theorem xvget_yes (h : KAt w K0 Y n m vs l T) (hV : VAt w V K0 e s) (b : Int) (hb : I64 b) (hm : m ≤ 900000) (hyes : findR T e s b 1 = 0) :
    Calls Try.prog 17 #[ptr V, .int .i64 b] w fun x w' => ∃ v, x = .returned (.tuple #[v, .int .i64 0]) ∧ URow w.heap.size w' v (lookW l vs (findA T e s b 1).toNat) ∧ KAt w' K0 Y n (m + 1) vs (getL l vs (findA T e s b 1).toNat) T ∧ UpdP (XFoot Y) w w' := by
  have hf := xfind_at h hV b 1 hb
  rw [hyes] at hf
  obtain ⟨q1, q2, q3, q4⟩ := find_may h.inv h.n2 hyes
  have HH : Hid _ := h
  have HV : Hid (VAt w V K0 e s) := hV
  have HM : Hid _ := q1
  have HI : Hid (I64 (findA T e s b 1)) := q4
  have HNV : Hid _ := h.noV hV
  clear h hV hyes q1 q2 q3 q4
  generalize findA T e s b 1 = A at *
  go_enter Try.func17, Try.ntmps17
  go_wp2_with fail
  refine hf.mono ?_
  rintro x w1 ⟨rfl, hb1⟩
  have hV1 : VAt w1 V K0 e s := (hb1.block _ (lt_of_heap HV.out)).trans HV.out
  have hK1 := HH.out.below hb1
  have hg := xget_at (hK1.below (w' := w1.drew) ⟨rfl, rfl, rfl, Nat.le_refl _, fun _ _ => rfl⟩) e s A HI.out hm
  have HA : Hid (getRr T e s A = 0 ∧ getWw T l vs e s A = lookW l vs A.toNat ∧ getLl T l vs e s A = getL l vs A.toNat) := by
    show _ ∧ _
    have := HM.out
    simp [getRr, getWw, getLl, this]
  rw [HA.out.1, HA.out.2.1, HA.out.2.2] at hg
  obtain ⟨v0, v1, v2⟩ := hV1.cells
  have HV1 : Hid (VAt w1 V K0 e s) := hV1
  have HB1 : Hid _ := hb1
  clear hV1 hK1 hb1 hf HA
  go_wp2_with fail
  refine wp_region_held_drew (S := fun w' => w'.cell? ⟨V, 0, none⟩ = some (ptr K0) ∧ w'.cell? ⟨V, 1, none⟩ = some (.int .i64 e) ∧ w'.cell? ⟨V, 2, none⟩ = some (.int .i64 s)) (by kernel_rfl) ⟨v0, v1, v2⟩ (fun hHeld => ?_)
  refine wpAnyH_take (i := 0) (v := ?_) rfl (by kernel_rfl) (by kernel_rfl) (by kernel_rfl) (fun _ _ _ h => h) (Or.inl ⟨by kernel_rfl, ?_⟩) (by assumption) ?_
  rotate_left
  · (intro w hSw; (try dsimp only at hSw); go_simp) <;> with_reducible rfl
  (try simp only [Act.put, List.getElem_toArray, List.getElem_cons_zero, List.setIfInBounds_toArray, List.set_cons_zero, List.set_cons_succ])
  refine wpAnyH_take (i := 1) (v := ?_) rfl (by kernel_rfl) (by kernel_rfl) (by kernel_rfl) (fun _ _ _ h => h) (Or.inl ⟨by kernel_rfl, ?_⟩) (by assumption) ?_
  rotate_left
  · (intro w hSw; (try dsimp only at hSw); go_simp) <;> with_reducible rfl
  (try simp only [Act.put, List.getElem_toArray, List.getElem_cons_zero, List.getElem_cons_succ, List.setIfInBounds_toArray, List.set_cons_zero, List.set_cons_succ])
  refine wpAnyH_take (i := 2) (v := ?_) rfl (by kernel_rfl) (by kernel_rfl) (by kernel_rfl) (fun _ _ _ h => h) (Or.inl ⟨by kernel_rfl, ?_⟩) (by assumption) ?_
  rotate_left
  · (intro w hSw; (try dsimp only at hSw); go_simp) <;> with_reducible rfl
  (try simp only [Act.put, List.getElem_toArray, List.getElem_cons_zero, List.getElem_cons_succ, List.setIfInBounds_toArray, List.set_cons_zero, List.set_cons_succ])
  refine wpAnyH_take (i := 3) (v := ?_) rfl (by kernel_rfl) (by kernel_rfl) (by kernel_rfl) (fun _ _ _ h => h) (Or.inl ⟨by kernel_rfl, ?_⟩) (by assumption) ?_
  rotate_left
  · (intro w hSw; (try dsimp only at hSw); go_simp) <;> with_reducible rfl
  (try simp only [Act.put, List.getElem_toArray, List.getElem_cons_zero, List.getElem_cons_succ, List.setIfInBounds_toArray, List.set_cons_zero, List.set_cons_succ])
  refine wpAnyH_take (i := 4) (v := ?_) rfl (by kernel_rfl) (by kernel_rfl) (by kernel_rfl) (fun _ _ _ h => h) (Or.inl ⟨by kernel_rfl, ?_⟩) (by assumption) ?_
  rotate_left
  · (intro w hSw; (try dsimp only at hSw); go_simp) <;> with_reducible rfl
  (try simp only [Act.put, List.getElem_toArray, List.getElem_cons_zero, List.getElem_cons_succ, List.setIfInBounds_toArray, List.set_cons_zero, List.set_cons_succ])
  refine wpAnyH_take (i := 5) (v := ?_) rfl (by kernel_rfl) (by kernel_rfl) (by kernel_rfl) (fun _ _ _ h => h) (Or.inl ⟨by kernel_rfl, ?_⟩) (by assumption) ?_
  rotate_left
  · (intro w hSw; (try dsimp only at hSw); go_simp) <;> with_reducible rfl
  (try simp only [Act.put, List.getElem_toArray, List.getElem_cons_zero, List.getElem_cons_succ, List.setIfInBounds_toArray, List.set_cons_zero, List.set_cons_succ])
  refine wpAnyH_take (i := 6) (v := ?_) rfl (by kernel_rfl) (by kernel_rfl) (by kernel_rfl) (fun _ _ _ h => h) (Or.inl ⟨by kernel_rfl, ?_⟩) (by assumption) ?_
  rotate_left
  · (intro w hSw; (try dsimp only at hSw); go_simp) <;> with_reducible rfl
  (try simp only [Act.put, List.getElem_toArray, List.getElem_cons_zero, List.getElem_cons_succ, List.setIfInBounds_toArray, List.set_cons_zero, List.set_cons_succ])
  refine wpAnyH_take (i := 7) (v := ?_) rfl (by kernel_rfl) (by kernel_rfl) (by kernel_rfl) (fun _ _ _ h => h) (Or.inl ⟨by kernel_rfl, ?_⟩) (by assumption) ?_
  rotate_left
  · (intro w hSw; (try dsimp only at hSw); go_simp) <;> with_reducible rfl
  (try simp only [Act.put, List.getElem_toArray, List.getElem_cons_zero, List.getElem_cons_succ, List.setIfInBounds_toArray, List.set_cons_zero, List.set_cons_succ])
  refine wpAnyH_take (i := 8) (v := ?_) rfl (by kernel_rfl) (by kernel_rfl) (by kernel_rfl) (fun _ _ _ h => h) (Or.inl ⟨by kernel_rfl, ?_⟩) (by assumption) ?_
  rotate_left
  · (intro w hSw; (try dsimp only at hSw); go_simp) <;> with_reducible rfl
  (try simp only [Act.put, List.getElem_toArray, List.getElem_cons_zero, List.getElem_cons_succ, List.setIfInBounds_toArray, List.set_cons_zero, List.set_cons_succ])
  refine wpAnyH_take (i := 9) (v := ?_) rfl (by kernel_rfl) (by kernel_rfl) (by kernel_rfl) (fun _ _ _ h => h) (Or.inl ⟨by kernel_rfl, ?_⟩) (by assumption) ?_
  rotate_left
  · (intro w hSw; (try dsimp only at hSw); go_simp) <;> with_reducible rfl
  (try simp only [Act.put, List.getElem_toArray, List.getElem_cons_zero, List.getElem_cons_succ, List.setIfInBounds_toArray, List.set_cons_zero, List.set_cons_succ])
  refine wpAnyH_take (i := 10) (v := ?_) rfl (by kernel_rfl) (by kernel_rfl) (by kernel_rfl) (fun _ _ _ h => h) (Or.inl ⟨by kernel_rfl, ?_⟩) (by assumption) ?_
  rotate_left
  · (intro w hSw; (try dsimp only at hSw); go_simp) <;> with_reducible rfl
  (try simp only [Act.put, List.getElem_toArray, List.getElem_cons_zero, List.getElem_cons_succ, List.setIfInBounds_toArray, List.set_cons_zero, List.set_cons_succ])
  refine wpAnyH_take (i := 11) (v := ?_) rfl (by kernel_rfl) (by kernel_rfl) (by kernel_rfl) (fun _ _ _ h => h) (Or.inl ⟨by kernel_rfl, ?_⟩) (by assumption) ?_
  rotate_left
  · (intro w hSw; (try dsimp only at hSw); go_simp) <;> with_reducible rfl
  (try simp only [Act.put, List.getElem_toArray, List.getElem_cons_zero, List.getElem_cons_succ, List.setIfInBounds_toArray, List.set_cons_zero, List.set_cons_succ])
  refine wpAnyH_take (i := 12) (v := ?_) rfl (by kernel_rfl) (by kernel_rfl) (by kernel_rfl) (fun _ _ _ h => h) (Or.inl ⟨by kernel_rfl, ?_⟩) (by assumption) ?_
  rotate_left
  · (intro w hSw; (try dsimp only at hSw); go_simp) <;> with_reducible rfl
  (try simp only [Act.put, List.getElem_toArray, List.getElem_cons_zero, List.getElem_cons_succ, List.setIfInBounds_toArray, List.set_cons_zero, List.set_cons_succ])
  refine wpAnyH_ready (rs := [13]) (by kernel_rfl) (by simp) ?_
  refine AllReadyH.cons rfl (fun K hK => ?_) AllReadyH.nil
  go_simp
  refine hg.mono ?_
  rintro x w2 ⟨v, rfl, hr2, hK2, hu2⟩
  have hu2' : UpdP (XFoot Y) w1 w2 := UpdP.trans (b := w1.drew) ⟨rfl, rfl, rfl, Nat.le_refl _, fun _ _ _ => rfl⟩ hu2
  have hV2 := (VAt.keepP HV1.out hu2' HNV.out).cells
  have HR : Hid (URow w.heap.size w2 v (lookW l vs A.toNat)) := hr2.mono HB1.out.size
  have HK : Hid _ := hK2
  have HU : Hid (UpdP (XFoot Y) w w2) := (UpdP.of_below HB1.out).trans hu2'
  clear hr2 hK2 hu2 hu2' hg
  refine hK.out _ _ hV2 (fun hHeld => ?_)
  clear hK K
  (try simp only [Act.put, List.getElem_toArray, List.getElem_cons_zero, List.getElem_cons_succ, List.setIfInBounds_toArray, List.set_cons_zero, List.set_cons_succ])
  refine wpAnyH_take (i := 14) (v := ?_) rfl (by kernel_rfl) (by kernel_rfl) (by kernel_rfl) (fun _ _ _ h => h) (Or.inl ⟨by kernel_rfl, ?_⟩) (by assumption) ?_
  rotate_left
  · (intro w hSw; (try dsimp only at hSw); go_simp) <;> with_reducible rfl
  (try simp only [Act.put, List.getElem_toArray, List.getElem_cons_zero, List.getElem_cons_succ, List.setIfInBounds_toArray, List.set_cons_zero, List.set_cons_succ])
  refine wpAnyH_take (i := 15) (v := ?_) rfl (by kernel_rfl) (by kernel_rfl) (by kernel_rfl) (fun _ _ _ h => h) (Or.inl ⟨by kernel_rfl, ?_⟩) (by assumption) ?_
  rotate_left
  · (intro w hSw; (try dsimp only at hSw); go_simp) <;> with_reducible rfl
  (try simp only [Act.put, List.getElem_toArray, List.getElem_cons_zero, List.getElem_cons_succ, List.setIfInBounds_toArray, List.set_cons_zero, List.set_cons_succ])
  refine wpAnyH_take (i := 16) (v := ?_) rfl (by kernel_rfl) (by kernel_rfl) (by kernel_rfl) (fun _ _ _ h => h) (Or.inl ⟨by kernel_rfl, ?_⟩) (by assumption) ?_
  rotate_left
  · (intro w hSw; (try dsimp only at hSw); go_simp) <;> with_reducible rfl
  (try simp only [Act.put, List.getElem_toArray, List.getElem_cons_zero, List.getElem_cons_succ, List.setIfInBounds_toArray, List.set_cons_zero, List.set_cons_succ])
  refine wpAnyH_take (i := 17) (v := ?_) rfl (by kernel_rfl) (by kernel_rfl) (by kernel_rfl) (fun _ _ _ h => h) (Or.inl ⟨by kernel_rfl, ?_⟩) (by assumption) ?_
  rotate_left
  · (intro w hSw; (try dsimp only at hSw); go_simp) <;> with_reducible rfl
  (try simp only [Act.put, List.getElem_toArray, List.getElem_cons_zero, List.getElem_cons_succ, List.setIfInBounds_toArray, List.set_cons_zero, List.set_cons_succ])
  refine wpAnyH_done (by kernel_rfl) ?_ _
  go_wp2
  go_ret2
  exact ⟨v, rfl, HR.out, HK.out, HU.out⟩
set_option maxRecDepth 100000 in
set_option maxHeartbeats 4000000 in
theorem xvput_yes {M : Nat} {v : Value} {ws : List Int} (h : KAt w K0 Y n m vs l T) (hV : VAt w V K0 e s) (b : Int) (hb : I64 b) (hv : URow M w v ws) (hyes : findR T e s b 2 = 0) :
    Calls Try.prog 21 #[ptr V, .int .i64 b, v] w fun x w' => x = .returned (.int .i64 (putRr T e s (findA T e s b 2) ws.length)) ∧ KAt w' K0 Y n m vs (putLl T l e s (findA T e s b 2) ws) T ∧ UpdP (XFoot Y) w w' := by
  have hf := xfind_at h hV b 2 hb
  rw [hyes] at hf
  obtain ⟨q1, q2, q3, q4⟩ := find_may h.inv h.n2 hyes
  have HH : Hid _ := h
  have HV : Hid (VAt w V K0 e s) := hV
  have HI : Hid (I64 (findA T e s b 2)) := q4
  have HNV : Hid _ := h.noV hV
  have Hv : Hid (URow M w v ws) := hv
  clear h hV hyes q1 q2 q3 q4 hv
  generalize findA T e s b 2 = A at *
  go_enter Try.func21, Try.ntmps21
  go_wp2_with fail
  refine hf.mono ?_
  rintro x w1 ⟨rfl, hb1⟩
  have hV1 : VAt w1 V K0 e s := (hb1.block _ (lt_of_heap HV.out)).trans HV.out
  have hK1 := HH.out.below hb1
  have hv1 : URow M w1.drew v ws := URow.keepT Hv.out (UpdP.of_below (P := fun _ => False) (hb1.trans (b := w1) (c := w1.drew) ⟨rfl, rfl, rfl, Nat.le_refl _, fun _ _ => rfl⟩)) (fun _ q => q.elim)
  have hg := xput_at (hK1.below (w' := w1.drew) ⟨rfl, rfl, rfl, Nat.le_refl _, fun _ _ => rfl⟩) e s A HI.out hv1
  obtain ⟨v0, v1, v2⟩ := hV1.cells
  have HV1 : Hid (VAt w1 V K0 e s) := hV1
  have HB1 : Hid _ := hb1
  clear hV1 hK1 hb1 hf hv1 Hv
  go_wp2_with fail
  refine wp_region_held_drew (S := fun w' => w'.cell? ⟨V, 0, none⟩ = some (ptr K0) ∧ w'.cell? ⟨V, 1, none⟩ = some (.int .i64 e) ∧ w'.cell? ⟨V, 2, none⟩ = some (.int .i64 s)) (by kernel_rfl) ⟨v0, v1, v2⟩ (fun hHeld => ?_)
  refine wpAnyH_take (i := 0) (v := ?_) rfl (by kernel_rfl) (by kernel_rfl) (by kernel_rfl) (fun _ _ _ h => h) (Or.inl ⟨by kernel_rfl, ?_⟩) (by assumption) ?_
  rotate_left
  · (intro w hSw; (try dsimp only at hSw); go_simp) <;> with_reducible rfl
  (try simp only [Act.put, List.getElem_toArray, List.getElem_cons_zero, List.setIfInBounds_toArray, List.set_cons_zero, List.set_cons_succ])
  refine wpAnyH_take (i := 1) (v := ?_) rfl (by kernel_rfl) (by kernel_rfl) (by kernel_rfl) (fun _ _ _ h => h) (Or.inl ⟨by kernel_rfl, ?_⟩) (by assumption) ?_
  rotate_left
  · (intro w hSw; (try dsimp only at hSw); go_simp) <;> with_reducible rfl
  (try simp only [Act.put, List.getElem_toArray, List.getElem_cons_zero, List.getElem_cons_succ, List.setIfInBounds_toArray, List.set_cons_zero, List.set_cons_succ])
  refine wpAnyH_take (i := 2) (v := ?_) rfl (by kernel_rfl) (by kernel_rfl) (by kernel_rfl) (fun _ _ _ h => h) (Or.inl ⟨by kernel_rfl, ?_⟩) (by assumption) ?_
  rotate_left
  · (intro w hSw; (try dsimp only at hSw); go_simp) <;> with_reducible rfl
  (try simp only [Act.put, List.getElem_toArray, List.getElem_cons_zero, List.getElem_cons_succ, List.setIfInBounds_toArray, List.set_cons_zero, List.set_cons_succ])
  refine wpAnyH_take (i := 3) (v := ?_) rfl (by kernel_rfl) (by kernel_rfl) (by kernel_rfl) (fun _ _ _ h => h) (Or.inl ⟨by kernel_rfl, ?_⟩) (by assumption) ?_
  rotate_left
  · (intro w hSw; (try dsimp only at hSw); go_simp) <;> with_reducible rfl
  (try simp only [Act.put, List.getElem_toArray, List.getElem_cons_zero, List.getElem_cons_succ, List.setIfInBounds_toArray, List.set_cons_zero, List.set_cons_succ])
  refine wpAnyH_take (i := 4) (v := ?_) rfl (by kernel_rfl) (by kernel_rfl) (by kernel_rfl) (fun _ _ _ h => h) (Or.inl ⟨by kernel_rfl, ?_⟩) (by assumption) ?_
  rotate_left
  · (intro w hSw; (try dsimp only at hSw); go_simp) <;> with_reducible rfl
  (try simp only [Act.put, List.getElem_toArray, List.getElem_cons_zero, List.getElem_cons_succ, List.setIfInBounds_toArray, List.set_cons_zero, List.set_cons_succ])
  refine wpAnyH_take (i := 5) (v := ?_) rfl (by kernel_rfl) (by kernel_rfl) (by kernel_rfl) (fun _ _ _ h => h) (Or.inl ⟨by kernel_rfl, ?_⟩) (by assumption) ?_
  rotate_left
  · (intro w hSw; (try dsimp only at hSw); go_simp) <;> with_reducible rfl
  (try simp only [Act.put, List.getElem_toArray, List.getElem_cons_zero, List.getElem_cons_succ, List.setIfInBounds_toArray, List.set_cons_zero, List.set_cons_succ])
  refine wpAnyH_take (i := 6) (v := ?_) rfl (by kernel_rfl) (by kernel_rfl) (by kernel_rfl) (fun _ _ _ h => h) (Or.inl ⟨by kernel_rfl, ?_⟩) (by assumption) ?_
  rotate_left
  · (intro w hSw; (try dsimp only at hSw); go_simp) <;> with_reducible rfl
  (try simp only [Act.put, List.getElem_toArray, List.getElem_cons_zero, List.getElem_cons_succ, List.setIfInBounds_toArray, List.set_cons_zero, List.set_cons_succ])
  refine wpAnyH_take (i := 7) (v := ?_) rfl (by kernel_rfl) (by kernel_rfl) (by kernel_rfl) (fun _ _ _ h => h) (Or.inl ⟨by kernel_rfl, ?_⟩) (by assumption) ?_
  rotate_left
  · (intro w hSw; (try dsimp only at hSw); go_simp) <;> with_reducible rfl
  (try simp only [Act.put, List.getElem_toArray, List.getElem_cons_zero, List.getElem_cons_succ, List.setIfInBounds_toArray, List.set_cons_zero, List.set_cons_succ])
  refine wpAnyH_take (i := 8) (v := ?_) rfl (by kernel_rfl) (by kernel_rfl) (by kernel_rfl) (fun _ _ _ h => h) (Or.inl ⟨by kernel_rfl, ?_⟩) (by assumption) ?_
  rotate_left
  · (intro w hSw; (try dsimp only at hSw); go_simp) <;> with_reducible rfl
  (try simp only [Act.put, List.getElem_toArray, List.getElem_cons_zero, List.getElem_cons_succ, List.setIfInBounds_toArray, List.set_cons_zero, List.set_cons_succ])
  refine wpAnyH_take (i := 9) (v := ?_) rfl (by kernel_rfl) (by kernel_rfl) (by kernel_rfl) (fun _ _ _ h => h) (Or.inl ⟨by kernel_rfl, ?_⟩) (by assumption) ?_
  rotate_left
  · (intro w hSw; (try dsimp only at hSw); go_simp) <;> with_reducible rfl
  (try simp only [Act.put, List.getElem_toArray, List.getElem_cons_zero, List.getElem_cons_succ, List.setIfInBounds_toArray, List.set_cons_zero, List.set_cons_succ])
  refine wpAnyH_take (i := 10) (v := ?_) rfl (by kernel_rfl) (by kernel_rfl) (by kernel_rfl) (fun _ _ _ h => h) (Or.inl ⟨by kernel_rfl, ?_⟩) (by assumption) ?_
  rotate_left
  · (intro w hSw; (try dsimp only at hSw); go_simp) <;> with_reducible rfl
  (try simp only [Act.put, List.getElem_toArray, List.getElem_cons_zero, List.getElem_cons_succ, List.setIfInBounds_toArray, List.set_cons_zero, List.set_cons_succ])
  refine wpAnyH_take (i := 11) (v := ?_) rfl (by kernel_rfl) (by kernel_rfl) (by kernel_rfl) (fun _ _ _ h => h) (Or.inl ⟨by kernel_rfl, ?_⟩) (by assumption) ?_
  rotate_left
  · (intro w hSw; (try dsimp only at hSw); go_simp) <;> with_reducible rfl
  (try simp only [Act.put, List.getElem_toArray, List.getElem_cons_zero, List.getElem_cons_succ, List.setIfInBounds_toArray, List.set_cons_zero, List.set_cons_succ])
  refine wpAnyH_take (i := 12) (v := ?_) rfl (by kernel_rfl) (by kernel_rfl) (by kernel_rfl) (fun _ _ _ h => h) (Or.inl ⟨by kernel_rfl, ?_⟩) (by assumption) ?_
  rotate_left
  · (intro w hSw; (try dsimp only at hSw); go_simp) <;> with_reducible rfl
  (try simp only [Act.put, List.getElem_toArray, List.getElem_cons_zero, List.getElem_cons_succ, List.setIfInBounds_toArray, List.set_cons_zero, List.set_cons_succ])
  refine wpAnyH_take (i := 13) (v := ?_) rfl (by kernel_rfl) (by kernel_rfl) (by kernel_rfl) (fun _ _ _ h => h) (Or.inl ⟨by kernel_rfl, ?_⟩) (by assumption) ?_
  rotate_left
  · (intro w hSw; (try dsimp only at hSw); go_simp) <;> with_reducible rfl
  (try simp only [Act.put, List.getElem_toArray, List.getElem_cons_zero, List.getElem_cons_succ, List.setIfInBounds_toArray, List.set_cons_zero, List.set_cons_succ])
  refine wpAnyH_ready (rs := [14]) (by kernel_rfl) (by simp) ?_
  refine AllReadyH.cons rfl (fun K hK => ?_) AllReadyH.nil
  go_simp
  refine hg.mono ?_
  rintro x w2 ⟨rfl, hK2, hu2⟩
  have hu2' : UpdP (XFoot Y) w1 w2 := UpdP.trans (b := w1.drew) ⟨rfl, rfl, rfl, Nat.le_refl _, fun _ _ _ => rfl⟩ hu2
  have hV2 := (VAt.keepP HV1.out hu2' HNV.out).cells
  have HK : Hid _ := hK2
  have HU : Hid (UpdP (XFoot Y) w w2) := (UpdP.of_below HB1.out).trans hu2'
  clear hK2 hu2 hu2' hg
  refine hK.out _ _ hV2 (fun hHeld => ?_)
  clear hK K
  (try simp only [Act.put, List.getElem_toArray, List.getElem_cons_zero, List.getElem_cons_succ, List.setIfInBounds_toArray, List.set_cons_zero, List.set_cons_succ])
  refine wpAnyH_take (i := 15) (v := ?_) rfl (by kernel_rfl) (by kernel_rfl) (by kernel_rfl) (fun _ _ _ h => h) (Or.inl ⟨by kernel_rfl, ?_⟩) (by assumption) ?_
  rotate_left
  · (intro w hSw; (try dsimp only at hSw); go_simp) <;> with_reducible rfl
  (try simp only [Act.put, List.getElem_toArray, List.getElem_cons_zero, List.getElem_cons_succ, List.setIfInBounds_toArray, List.set_cons_zero, List.set_cons_succ])
  refine wpAnyH_done (by kernel_rfl) ?_ _
  go_wp2
  go_ret
  exact ⟨rfl, HK.out, HU.out⟩
end
end Go.Proofs.Ytfnafjddajgahab
