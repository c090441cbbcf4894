/- The reference of package signals: fresh, New, Set, Send, Next. -/
import Derived.Test.YtliifpknkdjgjaaRsA
namespace Go.Proofs.Ytliifpknkdjgjaa
open Go.RowKit Go.Lib
set_option linter.unusedVariables false

def tailR : List Value := List.replicate 15 (.bool false) ++ [.bool false, .int .i64 0, .slice none 0 0]
theorem lit_fresh : (#[.int .u64 0, .int .u64 0, .int .u64 0, .int .u64 0, .int .u64 0, .int .u64 0, .int .u64 0, .int .u64 0, .int .u64 0, .int .u64 0, .int .u64 0, .int .u64 0, .int .u64 0, .int .u64 0, .int .u64 0, .bool false, .bool false, .bool false, .bool false, .bool false, .bool false, .bool false, .bool false, .bool false, .bool false, .bool false, .bool false, .bool false, .bool false, .bool false, .bool false, .int .i64 0, .slice none 0 0] : Array Value) = frow tailR 0 := rfl
theorem refSize : (Try.prog.info? 69).map (·.size) = some 33 := by kernel_rfl
theorem tailR_one : ∀ v ∈ tailR, v.oneCell' = true := fun v hv => by
  simp only [tailR, List.mem_append, List.mem_cons, List.not_mem_nil, or_false] at hv
  rcases hv with hv | rfl | rfl | rfl
  · rw [List.eq_of_mem_replicate hv]; rfl
  · rfl
  · rfl
  · rfl
theorem freshS : (frow tailR 15).size = 33 := rfl
theorem freshO : (frow tailR 15).all (·.oneCell') = true := frow_one tailR_one
theorem fresh_R {w : World} {row : Array Value} {o : Nat} (h : o + 33 ≤ row.size) (h1 : ∀ j, j < 33 → row[o + j]? = (frow tailR 15)[j]?) : RgR w row o Sg.first := by
  refine ⟨h, fun j hj => ?_, fun j hj => ?_, ?_, ?_, none, 0, ?_, Nat.le_refl _, TRd.nil _ _⟩
  · rw [h1 j (by omega), frow_hnd hj]
    show _ = some (Value.int .u64 ((List.replicate 15 dfl).getD j 0))
    rw [List.getD_eq_getElem?_getD, List.getElem?_replicate, if_pos hj]
    rfl
  · rw [Nat.add_assoc, h1 (15 + j) (by omega), frow_tail j]
    unfold tailR
    rw [List.getElem?_append_left (by simpa using hj), List.getElem?_replicate, if_pos hj]
    show _ = some (Value.bool ((0 : Nat).testBit (j + 1)))
    simp
  · rw [h1 30 (by omega)]; exact frow_tail 15
  · rw [h1 31 (by omega)]; exact frow_tail 16
  · rw [h1 32 (by omega)]; exact frow_tail 17
set_option maxRecDepth 100000 in
set_option maxHeartbeats 2000000 in
theorem xfresh_at (w : World) :
    Calls Try.prog 28 #[] w fun x w' => x = .returned (.agg (frow tailR 15)) ∧ Below w.heap.size w w' := by
  have hz := lit_fresh
  have HSz : Hid (∀ k, k ≤ 15 → (frow tailR k).size = 33) := fun k hk => frow_size hk
  have HSet : Hid (∀ k, k < 15 → (frow tailR k).setIfInBounds k (.int .u64 18446744073709551615) = frow tailR (k + 1)) := fun k hk => frow_set hk
  have HGet : Hid (∀ k, k < 15 → (frow tailR k)[k]? = some (.int .u64 0)) := fun k hk => frow_get hk
  have HOne : Hid ((frow tailR 15).all (·.oneCell') = true) := freshO
  generalize hF : frow tailR = F at *
  clear hF
  go_enter Try.func28, Try.ntmps28
  go_wp2
  clear hz
  obtain ⟨W, hW⟩ : ∃ W, W = (w.alloc (.cells (F 0) 69)).alloc (.cells (F 0) 69) := ⟨_, rfl⟩
  obtain ⟨r, hr⟩ : ∃ r, r = w.heap.size := ⟨_, rfl⟩
  obtain ⟨g, hg⟩ : ∃ g, g = w.heap.size + 1 := ⟨_, rfl⟩
  have HN : Hid (W.heap[g]? = some (.cells (F 0) 69 (0, 0))) := by
    show _ = _
    have := heap_alloc_new (w.alloc (.cells (F 0) 69)) (.cells (F 0) 69)
    rw [hW, hg]
    simpa using this
  have HM : Hid (W.heap[r]? = some (.cells (F 0) 69 (0, 0))) := by
    rw [hW, hr, Below.heap_alloc _ _ _ (by simp)]
    exact heap_alloc_new _ _
  have HB : Hid (Below w.heap.size w W) := by rw [hW]; exact below_alloc2 _ _ _
  have HG : Hid (g = r + 1) := by show _ = _; rw [hg, hr]
  have HRw : Hid (r = w.heap.size) := hr
  rw [← hW, ← hg, ← hr]
  clear hW hg hr
  go_loopw [2] (fun s wr => ∃ (k : Nat), k ≤ 15 ∧ s = .int .i64 k ∧ wr.heap[g]? = some (.cells (F k) 69 (0, 0)) ∧ wr.heap[r]? = some (.cells (F 0) 69 (0, 0)) ∧ Below w.heap.size w wr) (fun s _ => 15 - (intOf s).toNat)
  case atStart => exact ⟨0, by omega, rfl, HN.out, HM.out, HB.out⟩
  case round =>
    clear HN HM HB
    obtain ⟨k, hk, rfl, hN, hM, hB⟩ := hrel
    have HN : Hid (wr.heap[g]? = some (.cells (F k) 69 (0, 0))) := hN
    have HM : Hid (wr.heap[r]? = some (.cells (F 0) 69 (0, 0))) := hM
    have HB : Hid (Below w.heap.size w wr) := hB
    by_cases hlt : k < 15
    · have i1 : decide ((k : Int) < 15) = true := decide_eq_true (by omega)
      have hki : (k : Int) < 15 := by omega
      have c0 : wr.cell? ⟨g, k, none⟩ = some (.int .u64 0) := (cell_of_heap hN).trans (HGet.out k hlt)
      have f0 : wr.frozen? ⟨g, k, none⟩ = false := frozen_of_heap hN
      have HN2 : Hid ((wr.setCell ⟨g, k, none⟩ (.int .u64 18446744073709551615)).heap[g]? = some (.cells (F (k + 1)) 69 (0, 0))) := by
        show _ = _
        rw [setCell_eq_setRow wr g k _ _ _ _ hN, setRow_heap wr g _ _ _ _ hN, HSet.out k hlt]
      have HM2 : Hid ((wr.setCell ⟨g, k, none⟩ (.int .u64 18446744073709551615)).heap[r]? = some (.cells (F 0) 69 (0, 0))) :=
        (Below.heap_setCell _ _ _ _ (by have := HG.out; show r ≠ g; omega)).trans hM
      have HB2 : Hid (Below w.heap.size w (wr.setCell ⟨g, k, none⟩ (.int .u64 18446744073709551615))) := hB.trans ((Upd.setCell g k _ _).below (by have := HG.out; have := HRw.out; omega) hB.size)
      clear hN hM hB
      go_wp2
      go_roundw
      case rel => exact ⟨k + 1, by omega, by go_num, HN2.out, HM2.out, HB2.out⟩
      case measure => simp [intOf]; omega
    · obtain rfl : k = 15 := by omega
      have i1 : decide (((15 : Nat) : Int) < 15) = false := rfl
      have HQ : Hid ((wr.setRow r (F 15)).heap[r]? = some (.cells (F 15) 69 (0, 0))) := setRow_heap _ r _ _ _ _ hM
      have HB2 : Hid (Below w.heap.size w (wr.setRow r (F 15))) := hB.trans ((Upd.setRow r _ _).below (by have := HRw.out; omega) hB.size)
      clear hN hM hB
      generalize hR : F 15 = R at *
      have HRs : Hid (R.size = 33) := by show _ = _; rw [← hR]; exact HSz.out 15 (by omega)
      have HR15 : Hid (F 15 = R) := hR
      clear hR
      go_wp2_with (first
        | (refine wpList_load_row rfl 69 _ rfl g rfl 69 R (0, 0) _ HN.out Try.underlying69 rfl (by rw [HRs.out]; exact refSize) ?_)
        | (refine wpList_store_row rfl 69 _ _ rfl r R rfl rfl 69 (F 0) HM.out (by rw [HRs.out]; exact refSize) (by rw [HRs.out, HSz.out 0 (by omega)]) HOne.out ?_)
        | go_in)
      refine bodyPost_ret (v := .agg R) ?_ rfl ⟨by rw [HR15.out], HB2.out⟩
      exact results_cell_row rfl _ _ r 69 R (0, 0) _ rfl HQ.out Try.underlying69 rfl (by rw [HRs.out]; exact refSize)
/-- The cells of zeroed signals. -/
def rrow : Array Value := ((List.replicate 8 (frow tailR 0).toList).flatten).toArray
theorem rrow_size : rrow.size = 264 := by kernel_rfl
theorem rrow_zero : (Try.prog.info? 72).map (·.zero) = some (some (.agg rrow)) := by kernel_rfl
theorem zero_ref (W : World) : (zeroValue 72).run Try.prog W = .ok (.agg rrow) W := by
  obtain ⟨i, hi, hz⟩ := Option.map_eq_some_iff.1 rrow_zero
  simp [zeroValue, typeInfo, hi, hz]
/-- The first k processes are as at first. -/
structure FreshK (w : World) (row : Array Value) (k : Nat) : Prop where
  size : row.size = 264
  at' : ∀ i, i < k → RgR w row (i * 33) Sg.first
theorem FreshK.next {w w' : World} {row : Array Value} {k : Nat} (h : FreshK w row k) (hk : k < 8) (hw : KeepW w w') : FreshK w' (putA row (k * 33) (frow tailR 15).toList) (k + 1) := by
  have hs := h.size
  have hl : (frow tailR 15).toList.length = 33 := rfl
  have hsm := putA_sameR (k * 33) row hl
  refine ⟨hsm.1.trans hs, fun i hi => ?_⟩
  by_cases e : i = k
  · subst e
    refine fresh_R (by rw [hsm.1]; omega) (fun j hj => ?_)
    rw [putA_in _ _ _ j (by omega) (by omega), Array.getElem?_toList]
  · exact (h.at' i (by omega)).keep hsm.1 (fun q h1 h2 => hsm.2 q (by omega)) hw
set_option maxRecDepth 100000 in
set_option maxHeartbeats 2000000 in
theorem xnew_at (w : World) :
    Calls Try.prog 9 #[] w fun x w' => x = .returned (.pointer (some ⟨w.heap.size, 0, none⟩)) ∧ RgAt w' w.heap.size SS.first ∧ Below w.heap.size w w' := by
  have HR : Hid (rrow.size = 264) := rrow_size
  have hz := zero_ref
  generalize rrow = R at *
  obtain ⟨b, hb⟩ : ∃ b, b = w.heap.size := ⟨_, rfl⟩
  have HBb : Hid (b = w.heap.size) := hb
  go_enter Try.func9, Try.ntmps9
  go_wp2
  have HN : Hid (RB (w.alloc (.cells R 72)) b R) := by rw [hb]; exact heap_alloc_new _ _
  have HB : Hid (Below w.heap.size w (w.alloc (.cells R 72))) := below_alloc _ _
  rw [← hb]
  generalize w.alloc (.cells R 72) = W at *
  clear hz hb
  go_loopw [2] (fun s wr => ∃ (k : Nat) (row : Array Value), k ≤ 8 ∧ s = .int .i64 k ∧ RB wr b row ∧ FreshK wr row k ∧ Below w.heap.size w wr) (fun s _ => 8 - (intOf s).toNat)
  case atStart => exact ⟨0, R, by omega, rfl, HN.out, ⟨HR.out, fun i hi => by omega⟩, HB.out⟩
  case round =>
    clear HN HB
    obtain ⟨k, row, hk, rfl, hS, hF, hB⟩ := hrel
    have HS : Hid (RB wr b row) := hS
    have HF : Hid (FreshK wr row k) := hF
    have HB : Hid (Below w.heap.size w wr) := hB
    by_cases hlt : k < 8
    · have i1 : decide ((k : Int) < 8) = true := decide_eq_true (by omega)
      have hki : (k : Int) < 8 := by omega
      have hAF := xfresh_at wr.drew
      have HFs : Hid ((frow tailR 15).size = 33) := rfl
      have HFo : Hid ((frow tailR 15).all (·.oneCell') = true) := freshO
      have HNx : Hid (∀ w', KeepW wr w' → FreshK w' (putA row (k * 33) (frow tailR 15).toList) (k + 1)) := fun w' hw => hF.next hlt hw
      generalize frow tailR 15 = F at *
      clear hS hF hB
      go_wp2_with fail
      refine wp_region_held_drew (S := fun w' => True) (by kernel_rfl) trivial (fun hHeld => ?_)
      refine wpAnyH_take (i := 0) (v := ?_) rfl (by kernel_rfl) (by kernel_rfl) (by kernel_rfl) (fun _ _ _ h => h) (Or.inl ⟨by kernel_rfl, ?_⟩) (by assumption) ?_
      rotate_left
      · (intro w hSw; (try dsimp only at hSw); go_simp) <;> with_reducible rfl
      (try simp only [Act.put, List.getElem_toArray, List.getElem_cons_zero, List.setIfInBounds_toArray, List.set_cons_zero, List.set_cons_succ])
      refine wpAnyH_take (i := 1) (v := ?_) rfl (by kernel_rfl) (by kernel_rfl) (by kernel_rfl) (fun _ _ _ h => h) (Or.inl ⟨by kernel_rfl, ?_⟩) (by assumption) ?_
      rotate_left
      · (intro w hSw; (try dsimp only at hSw); go_simp) <;> with_reducible rfl
      (try simp only [Act.put, List.getElem_toArray, List.getElem_cons_zero, List.getElem_cons_succ, List.setIfInBounds_toArray, List.set_cons_zero, List.set_cons_succ])
      refine wpAnyH_take (i := 3) (v := ?_) rfl (by kernel_rfl) (by kernel_rfl) (by kernel_rfl) (fun _ _ _ h => h) (Or.inl ⟨by kernel_rfl, ?_⟩) (by assumption) ?_
      rotate_left
      · (intro w hSw; (try dsimp only at hSw); go_simp) <;> with_reducible rfl
      (try simp only [Act.put, List.getElem_toArray, List.getElem_cons_zero, List.getElem_cons_succ, List.setIfInBounds_toArray, List.set_cons_zero, List.set_cons_succ])
      refine wpAnyH_take (i := 4) (v := ?_) rfl (by kernel_rfl) (by kernel_rfl) (by kernel_rfl) (fun _ _ _ h => h) (Or.inl ⟨by kernel_rfl, ?_⟩) (by assumption) ?_
      rotate_left
      · (intro w hSw; (try dsimp only at hSw); go_simp) <;> with_reducible rfl
      (try simp only [Act.put, List.getElem_toArray, List.getElem_cons_zero, List.getElem_cons_succ, List.setIfInBounds_toArray, List.set_cons_zero, List.set_cons_succ])
      refine wpAnyH_ready (rs := [2]) (by kernel_rfl) (by simp) ?_
      refine AllReadyH.cons rfl (fun K hK => ?_) AllReadyH.nil
      go_simp
      refine hAF.mono ?_
      rintro e w1 ⟨rfl, hb1⟩
      have HS1 : Hid (RB w1 b row) := (RB.drew HS.out).below hb1
      have HK1 : Hid (KeepW wr w1) := (KeepW.below (Below.refl wr.heap.size wr).drew).trans (KeepW.below hb1)
      have HB1 : Hid (Below w.heap.size w w1) := HB.out.drew.trans (hb1.mono (by have := HB.out.size; simpa using this))
      clear hb1 hAF
      refine hK.out _ _ trivial (fun hHeld => ?_)
      clear hK K
      (try simp only [Act.put, List.getElem_toArray, List.getElem_cons_zero, List.getElem_cons_succ, List.setIfInBounds_toArray, List.set_cons_zero, List.set_cons_succ])
      refine wpAnyH_take (i := 5) (v := ?_) rfl (by kernel_rfl) (by kernel_rfl) (by kernel_rfl) (fun _ _ _ h => h) (Or.inl ⟨by kernel_rfl, ?_⟩) (by assumption) ?_
      rotate_left
      · (intro w hSw; (try dsimp only at hSw); go_simp) <;> with_reducible rfl
      (try simp only [Act.put, List.getElem_toArray, List.getElem_cons_zero, List.getElem_cons_succ, List.setIfInBounds_toArray, List.set_cons_zero, List.set_cons_succ])
      refine wpAnyH_ready (rs := [6]) (by kernel_rfl) (by simp) ?_
      refine AllReadyH.cons rfl (fun K hK => ?_) AllReadyH.nil
      refine wp_store_mid 69 _ _ rfl b (k * 33) F rfl rfl (HS1.out.there _ _ (by have := HF.out.size; rw [HFs.out]; omega)) (by rw [HFs.out]; exact refSize) HFo.out ?_
      have HS2 : Hid (RB (w1.setCells b (k * 33) F.toList) b (putA row (k * 33) F.toList)) := RB.sets _ _ _ _ HS1.out
      have HU2 : Hid (Upd b w1 (w1.setCells b (k * 33) F.toList)) := upd_sets _ _ _ _
      generalize w1.setCells b (k * 33) F.toList = w2 at *
      have HF2 : Hid (FreshK w2 (putA row (k * 33) F.toList) (k + 1)) := HNx.out _ (HK1.out.trans (HS1.out.kw HU2.out))
      have HB2 : Hid (Below w.heap.size w w2) := HB1.out.trans (HU2.out.below (by have := HBb.out; omega) HB1.out.size)
      refine hK.out _ _ trivial (fun hHeld => ?_)
      clear hK K
      simp only [Act.put, List.getElem_toArray, List.getElem_cons_zero, List.getElem_cons_succ]
      refine wpAnyH_done (by kernel_rfl) ?_ _
      clear hHeld
      go_wp2
      go_roundw
      case rel => exact ⟨k + 1, _, by omega, by go_num, HS2.out, HF2.out, HB2.out⟩
      case measure => simp [intOf]; omega
    · obtain rfl : k = 8 := by omega
      have i1 : decide (((8 : Nat) : Int) < 8) = false := rfl
      clear hS hF hB
      go_wp2
      go_ret
      exact ⟨by rw [HBb.out]; rfl, ⟨row, by rw [← HBb.out]; exact HS.out, HF.out.size, HF.out.at'⟩, HB.out⟩


theorem RgR.handler {w w' : World} {row : Array Value} {o m : Nat} {p : Sg} (h : RgR w row o p) (x : Int) (hm : m < 15) (hl : p.h.length = 15) (hw : KeepW w w') : RgR w' (row.setIfInBounds (o + m) (.int .u64 x)) o ⟨p.h.set m x, p.q, p.k⟩ := by
  have hs := h.size
  obtain ⟨a, c, h1, h2, h3⟩ := h.stk
  refine ⟨by simpa using hs, fun j hj => ?_, fun j hj => ?_, ?_, ?_, ⟨a, c, ?_, h2, h3.kept hw⟩⟩
  · rw [Array.getElem?_setIfInBounds]
    show _ = some (Value.int .u64 ((p.h.set m x).getD j 0))
    by_cases e : m = j
    · subst e
      rw [if_pos rfl, if_pos (by omega), List.getD_eq_getElem?_getD, List.getElem?_set_self (by omega)]
      rfl
    · rw [if_neg (by omega), h.hnd j hj, List.getD_eq_getElem?_getD, List.getD_eq_getElem?_getD, List.getElem?_set_ne e]
  · rw [Array.getElem?_setIfInBounds, if_neg (by omega)]; exact h.pen j hj
  · rw [Array.getElem?_setIfInBounds, if_neg (by omega)]; exact h.inh
  · rw [Array.getElem?_setIfInBounds, if_neg (by omega)]; exact h.pc
  · rw [Array.getElem?_setIfInBounds, if_neg (by omega)]; exact h1
theorem RgR.bit {w w' : World} {row : Array Value} {o m q : Nat} {p : Sg} (h : RgR w row o p) (on : Bool) (hm : m < 15) (hq : ∀ j, j < 15 → q.testBit (j + 1) = if j = m then on else p.q.testBit (j + 1)) (hw : KeepW w w') : RgR w' (row.setIfInBounds (o + 15 + m) (.bool on)) o (p.q' q) := by
  have hs := h.size
  obtain ⟨a, c, h1, h2, h3⟩ := h.stk
  refine ⟨by simpa using hs, fun j hj => ?_, fun j hj => ?_, ?_, ?_, ⟨a, c, ?_, h2, h3.kept hw⟩⟩
  · rw [Array.getElem?_setIfInBounds, if_neg (by omega)]; exact h.hnd j hj
  · rw [Array.getElem?_setIfInBounds]
    show _ = some (Value.bool (q.testBit (j + 1)))
    rw [hq j hj]
    by_cases e : m = j
    · subst e
      rw [if_pos rfl, if_pos (by omega), if_pos rfl]
    · rw [if_neg (by omega), if_neg (fun x => e x.symm)]; exact h.pen j hj
  · rw [Array.getElem?_setIfInBounds, if_neg (by omega)]; exact h.inh
  · rw [Array.getElem?_setIfInBounds, if_neg (by omega)]; exact h.pc
  · rw [Array.getElem?_setIfInBounds, if_neg (by omega)]; exact h1
theorem SameR.bit {o m : Nat} (row : Array Value) (v : Value) (h : m < 15) : SameR o row (row.setIfInBounds (o + 15 + m) v) := ⟨by simp, fun k hk => by rw [Array.getElem?_setIfInBounds, if_neg (by omega)]⟩
theorem wr_pred (i : Nat) (h : i < 16) : IntKind.i64.wrap ((i : Int) + 1 - 1) = (i : Int) := by simp [IntKind.wrap, IntKind.bits, IntKind.signed]; omega
set_option maxHeartbeats 1000000 in
theorem xset_at (b : Nat) (S : SS) (pid sig x : Int) (w : World) (h : RgAt w b S) (hok : SOk S) :
    Calls Try.prog 29 #[.pointer (some ⟨b, 0, none⟩), .int .i64 pid, .int .i64 sig, .int .u64 x] w fun e w' => e = .returned (.int .i64 (seE pid sig)) ∧ RgAt w' b (seS S pid sig x) ∧ Upd b w w' := by
  have hP := xPid_at pid w
  cases hp : isP pid with
  | false =>
    have HE : Hid (seE pid sig = 3) := by show _ = _; unfold seE; rw [hp]; rfl
    have HS : Hid (seS S pid sig x = S) := by show _ = _; unfold seS; rw [hp]; rfl
    have HH : Hid (RgAt w b S) := h
    rw [hp] at hP
    clear h hp
    go_enter Try.func29, Try.ntmps29
    go_wp2_with fail
    refine hP.mono ?_
    rintro e w1 ⟨rfl, hw⟩
    rw [hw]
    clear hw w1 hP
    go_wp2
    go_ret
    exact ⟨by rw [HE.out]; rfl, by rw [HS.out]; exact HH.out, Upd.refl _ _⟩
  | true =>
    obtain ⟨i, rfl, hi⟩ := isP_nat hp
    rw [hp] at hP
    cases hs : (isS sig && sig != 9) with
    | false =>
      have HE : Hid (seE ((i : Int) + 1) sig = 22) := by show _ = _; unfold seE; rw [hp, hs]; rfl
      have HS : Hid (seS S ((i : Int) + 1) sig x = S) := by show _ = _; unfold seS; rw [hp, hs]; rfl
      have HH : Hid (RgAt w b S) := h
      have cs : decide (sig < 1) = true ∨ (decide (sig < 1) = false ∧ decide (15 < sig) = true) ∨ (decide (sig < 1) = false ∧ decide (15 < sig) = false ∧ (sig == 9) = true) := by
        cases hq : isS sig with
        | false =>
          rcases isS_no hq with q | q
          · exact Or.inl (decide_eq_true q)
          · exact Or.inr (Or.inl ⟨decide_eq_false (by omega), decide_eq_true q⟩)
        | true =>
          rw [hq] at hs
          obtain ⟨m, rfl, hm⟩ := isS_nat hq
          refine Or.inr (Or.inr ⟨decide_eq_false (by omega), decide_eq_false (by omega), ?_⟩)
          simpa using hs
      clear h hp hs
      rcases cs with g0 | ⟨g0, g1⟩ | ⟨g0, g1, g2⟩
      all_goals
        go_enter Try.func29, Try.ntmps29
        go_wp2_with fail
        refine hP.mono ?_
        rintro e w1 ⟨rfl, hw⟩
        rw [hw]
        clear hw w1 hP
        go_wp2
        go_ret
        exact ⟨by rw [HE.out]; rfl, by rw [HS.out]; exact HH.out, Upd.refl _ _⟩
    | true =>
      have hs2 := hs
      rw [Bool.and_eq_true, bne_iff_ne] at hs2
      obtain ⟨m, rfl, hm⟩ := isS_nat hs2.1
      have HE : Hid (seE ((i : Int) + 1) ((m : Int) + 1) = 0) := by show _ = _; unfold seE; rw [hp, hs]; rfl
      have HS : Hid (seS S ((i : Int) + 1) ((m : Int) + 1) x = S.set i ⟨(S i).h.set m x, (S i).q, (S i).k⟩) := by
        show _ = _
        unfold seS
        rw [hp, hs, if_pos (by rfl), show ((i : Int) + 1 - 1).toNat = i by omega, show ((m : Int) + 1 - 1).toNat = m by omega]
      have g0 : decide ((m : Int) + 1 < 1) = false := decide_eq_false (by omega)
      have g1 : decide (15 < (m : Int) + 1) = false := decide_eq_false (by omega)
      have g2 : ((m : Int) + 1 == 9) = false := beq_false_of_ne hs2.2
      have hw1 := wr_pred i (by omega)
      have hw2 := wr_pred m (by omega)
      have hii : (i : Int) < 8 := by omega
      have hmi : (m : Int) < 15 := by omega
      obtain ⟨row, hB, hR⟩ := h
      have hRi := hR.at' i hi
      have c0 := (hB.cell (i * 33 + m)).trans (hRi.hnd m hm)
      have f0 := hB.free (i * 33 + m)
      have HF : Hid (RgAt (w.setCell ⟨b, i * 33 + m, none⟩ (.int .u64 x)) b (S.set i ⟨(S i).h.set m x, (S i).q, (S i).k⟩) ∧ Upd b w (w.setCell ⟨b, i * 33 + m, none⟩ (.int .u64 x))) := by
        have hu : Upd b w (w.setCell ⟨b, i * 33 + m, none⟩ (.int .u64 x)) := Upd.setCell _ _ _ _
        exact ⟨⟨_, hB.set _ _, hR.put (SameR.set _ _ (by omega)) (hRi.handler x hm (hok i hi).len (hB.kw hu)) (hB.kw hu)⟩, hu⟩
      clear hp hs hs2 hB hR hRi
      generalize (i : Int) + 1 = pd at *
      generalize (m : Int) + 1 = sg at *
      go_enter Try.func29, Try.ntmps29
      go_wp2_with fail
      refine hP.mono ?_
      rintro e w1 ⟨rfl, hw⟩
      rw [hw]
      clear hw w1 hP
      go_wp2
      go_ret
      exact ⟨by rw [HE.out]; rfl, by rw [HS.out]; exact HF.out.1, HF.out.2⟩
set_option maxHeartbeats 1000000 in
theorem xsend_at (b : Nat) (S : SS) (pid sig : Int) (w : World) (h : RgAt w b S) (hok : SOk S) :
    Calls Try.prog 30 #[.pointer (some ⟨b, 0, none⟩), .int .i64 pid, .int .i64 sig] w fun e w' => e = .returned (.int .i64 (sdE pid sig)) ∧ RgAt w' b (sdS S pid sig) ∧ Upd b w w' := by
  have hP := xPid_at pid w
  cases hp : isP pid with
  | false =>
    have HE : Hid (sdE pid sig = 3) := by show _ = _; unfold sdE; rw [hp]; rfl
    have HS : Hid (sdS S pid sig = S) := by show _ = _; unfold sdS; rw [hp]; rfl
    have HH : Hid (RgAt w b S) := h
    rw [hp] at hP
    clear h hp
    go_enter Try.func30, Try.ntmps30
    go_wp2_with fail
    refine hP.mono ?_
    rintro e w1 ⟨rfl, hw⟩
    rw [hw]
    clear hw w1 hP
    go_wp2
    go_ret
    exact ⟨by rw [HE.out]; rfl, by rw [HS.out]; exact HH.out, Upd.refl _ _⟩
  | true =>
    obtain ⟨i, rfl, hi⟩ := isP_nat hp
    rw [hp] at hP
    cases hs : isS sig with
    | false =>
      have HE : Hid (sdE ((i : Int) + 1) sig = 22) := by show _ = _; unfold sdE; rw [hp, hs]; rfl
      have HS : Hid (sdS S ((i : Int) + 1) sig = S) := by show _ = _; unfold sdS; rw [hp, hs]; rfl
      have HH : Hid (RgAt w b S) := h
      have cs : decide (sig < 1) = true ∨ (decide (sig < 1) = false ∧ decide (15 < sig) = true) := by
        rcases isS_no hs with q | q
        · exact Or.inl (decide_eq_true q)
        · exact Or.inr ⟨decide_eq_false (by omega), decide_eq_true q⟩
      clear h hp hs
      rcases cs with g0 | ⟨g0, g1⟩
      all_goals
        go_enter Try.func30, Try.ntmps30
        go_wp2_with fail
        refine hP.mono ?_
        rintro e w1 ⟨rfl, hw⟩
        rw [hw]
        clear hw w1 hP
        go_wp2
        go_ret
        exact ⟨by rw [HE.out]; rfl, by rw [HS.out]; exact HH.out, Upd.refl _ _⟩
    | true =>
      obtain ⟨m, rfl, hm⟩ := isS_nat hs
      have HE : Hid (sdE ((i : Int) + 1) ((m : Int) + 1) = 0) := by show _ = _; unfold sdE; rw [hp, hs]; rfl
      have HS : Hid (sdS S ((i : Int) + 1) ((m : Int) + 1) = S.set i ((S i).q' (addB (S i).q (m + 1)))) := by
        show _ = _
        unfold sdS
        rw [hp, hs, if_pos (by rfl), show ((i : Int) + 1 - 1).toNat = i by omega, show ((m : Int) + 1).toNat = m + 1 by omega]
      have g0 : decide ((m : Int) + 1 < 1) = false := decide_eq_false (by omega)
      have g1 : decide (15 < (m : Int) + 1) = false := decide_eq_false (by omega)
      have hw1 := wr_pred i (by omega)
      have hw2 := wr_pred m (by omega)
      have hii : (i : Int) < 8 := by omega
      have hmi : (m : Int) < 15 := by omega
      obtain ⟨row, hB, hR⟩ := h
      have hRi := hR.at' i hi
      have c0 := (hB.cell (i * 33 + 15 + m)).trans (hRi.pen m hm)
      have f0 := hB.free (i * 33 + 15 + m)
      have HF : Hid (RgAt (w.setCell ⟨b, i * 33 + 15 + m, none⟩ (.bool true)) b (S.set i ((S i).q' (addB (S i).q (m + 1)))) ∧ Upd b w (w.setCell ⟨b, i * 33 + 15 + m, none⟩ (.bool true))) := by
        have hu : Upd b w (w.setCell ⟨b, i * 33 + 15 + m, none⟩ (.bool true)) := Upd.setCell _ _ _ _
        refine ⟨⟨_, hB.set _ _, hR.put (SameR.bit _ _ hm) (hRi.bit true hm (fun j hj => ?_) (hB.kw hu)) (hB.kw hu)⟩, hu⟩
        rw [addB_bit]
        by_cases e : j = m
        · rw [if_pos e, e]; simp
        · rw [if_neg e, decide_eq_false (by omega), Bool.or_false]
      clear hp hs hB hR hRi
      generalize (S i).q.testBit (m + 1) = ob at *
      generalize (i : Int) + 1 = pd at *
      generalize (m : Int) + 1 = sg at *
      go_enter Try.func30, Try.ntmps30
      go_wp2_with fail
      refine hP.mono ?_
      rintro e w1 ⟨rfl, hw⟩
      rw [hw]
      clear hw w1 hP
      go_wp2
      go_ret
      exact ⟨by rw [HE.out]; rfl, by rw [HS.out]; exact HF.out.1, HF.out.2⟩
end Go.Proofs.Ytliifpknkdjgjaa
