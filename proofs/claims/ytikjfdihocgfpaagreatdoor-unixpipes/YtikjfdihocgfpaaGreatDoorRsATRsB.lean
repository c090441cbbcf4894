/- The reference of package signals: its processes in the heap; Pid, Copy, fresh, New. -/
/- The reference of package signals: fresh, New, Set, Send, Next. -/
import Derived.Test.YtikjfdihocgfpaaGreatDoorSgCTSgD
import Derived.Test.YtikjfdihocgfpaaGreatDoorKinds
import Derived.Maps.AppendAt
import Derived.Laws.ResultCell
import Derived.Deep.CutBlock
import Derived.Laws.Tables
import Derived.LaidEqlPtr
import Derived.Deep.RegionLaw
import Derived.Laws.IdiomCopy
import Derived.ProofKit
import Derived.OpenShut
import Derived.ChangeOld
import Derived.ChangeSlices
import Derived.Lib.SmallJoins
import Derived.Deep.Slices
import Derived.Below
set_option linter.all false
namespace Go.Proofs.YtikjfdihocgfpaaGreatDoor
open Go.RowKit Go.Lib
namespace Ow
end Ow
namespace Sg
open Ow
/-- The reference's process at place o of a row. -/
structure RgR (w : World) (row : Array Value) (o : Nat) (p : Sg) : Prop where
  size : o + 33 ≤ row.size
  hnd : ∀ j, j < 15 → row[o + j]? = some (.int .u64 (p.h.getD j 0))
  pen : ∀ j, j < 15 → row[o + 15 + j]? = some (.bool (p.q.testBit (j + 1)))
  inh : row[o + 30]? = some (.bool p.k.isSome)
  pc : row[o + 31]? = some (.int .i64 p.pc)
  stk : ∃ a c, row[o + 32]? = some (.slice a p.st.length c) ∧ p.st.length ≤ c ∧ TRd w a p.st
theorem RgR.keep {w w' : World} {row row' : Array Value} {o : Nat} {p : Sg} (h : RgR w row o p) (hs : row'.size = row.size) (hk : ∀ k, o ≤ k → k < o + 33 → row'[k]? = row[k]?) (hw : KeepW w w') : RgR w' row' o p := by
  obtain ⟨a, c, h1, h2, h3⟩ := h.stk
  refine ⟨by rw [hs]; exact h.size, fun j hj => ?_, fun j hj => ?_, ?_, ?_, ⟨a, c, ?_, h2, h3.kept hw⟩⟩
  · rw [hk _ (by omega) (by omega)]; exact h.hnd j hj
  · rw [hk _ (by omega) (by omega)]; exact h.pen j hj
  · rw [hk _ (by omega) (by omega)]; exact h.inh
  · rw [hk _ (by omega) (by omega)]; exact h.pc
  · rw [hk _ (by omega) (by omega)]; exact h1
/-- Outside of the process at place o nothing changed. -/
def SameR (o : Nat) (row row' : Array Value) : Prop := row'.size = row.size ∧ ∀ k, k < o ∨ o + 33 ≤ k → row'[k]? = row[k]?
theorem SameR.trans {o : Nat} {r1 r2 r3 : Array Value} (h : SameR o r1 r2) (k : SameR o r2 r3) : SameR o r1 r3 := ⟨k.1.trans h.1, fun i hi => (k.2 i hi).trans (h.2 i hi)⟩
theorem SameR.set {o i : Nat} (row : Array Value) (v : Value) (h : i < 33) : SameR o row (row.setIfInBounds (o + i) v) := ⟨by simp, fun k hk => by rw [Array.getElem?_setIfInBounds, if_neg (by omega)]⟩
/-- Block b holds this row of the reference. -/
def RB (w : World) (b : Nat) (row : Array Value) : Prop := w.heap[b]? = some (.cells row 165)
section
variable {w w' : World} {b : Nat} {row : Array Value}
theorem RB.lt (h : RB w b row) : b < w.heap.size := lt_of_heap h
theorem RB.keep (h : RB w b row) (hb : w'.heap[b]? = w.heap[b]?) : RB w' b row := hb.trans h
theorem RB.below (h : RB w b row) (hb : Below w.heap.size w w') : RB w' b row := h.keep (hb.block _ h.lt)
theorem RB.drew (h : RB w b row) : RB w.drew b row := h
theorem RB.cell (h : RB w b row) (i : Nat) : w.cell? ⟨b, i, none⟩ = row[i]? := cell_of_heap h
theorem RB.free (h : RB w b row) (i : Nat) : w.frozen? ⟨b, i, none⟩ = false := frozen_of_heap h
theorem RB.set (h : RB w b row) (i : Nat) (v : Value) : RB (w.setCell ⟨b, i, none⟩ v) b (row.setIfInBounds i v) := by
  unfold RB at *
  rw [setCell_eq_setRow w b i _ _ _ _ h, setRow_heap w b _ _ _ _ h]
theorem RB.kw (h : RB w b row) (hu : Upd b w w') : KeepW w w' := KeepW.upd h (by decide) hu
end
theorem RB.sets {b : Nat} : ∀ (vs : List Value) (o : Nat) (w : World) (row : Array Value), RB w b row → RB (w.setCells b o vs) b (putA row o vs)
  | [], _, _, _, h => h
  | v :: r, o, w, row, h => RB.sets r (o + 1) _ _ (h.set o v)
theorem RB.there {w : World} {b : Nat} {row : Array Value} (h : RB w b row) (o n : Nat) (hn : o + n ≤ row.size) : w.there b o n := fun j hj => by
  refine ⟨?_, h.free _⟩
  rw [h.cell, Array.getElem?_eq_getElem (by omega)]
  rfl
theorem putA_sameR {vs : List Value} (o : Nat) (row : Array Value) (h : vs.length = 33) : SameR o row (putA row o vs) := ⟨putA_size _ _ _, fun k hk => putA_out vs o row k (by omega)⟩
/-- What is told of the processes in the row. -/
structure RgRow (w : World) (row : Array Value) (S : SS) : Prop where
  size : row.size = 264
  at' : ∀ i, i < 8 → RgR w row (i * 33) (S i)
/-- Block b holds the reference's signals S. -/
def RgAt (w : World) (b : Nat) (S : SS) : Prop := ∃ row, RB w b row ∧ RgRow w row S
section
variable {w w' : World} {b : Nat} {S : SS}
end
end Sg
end Go.Proofs.YtikjfdihocgfpaaGreatDoor
namespace Go.Proofs.YtikjfdihocgfpaaGreatDoor
open Go.RowKit Go.Lib
namespace Ow
end Ow
namespace Sg
open Ow
def tailR : List Value := List.replicate 15 (.bool false) ++ [.bool false, .int .i64 0, .slice none 0 0]
theorem lit_fresh : (#[.int .u64 0, .int .u64 0, .int .u64 0, .int .u64 0, .int .u64 0, .int .u64 0, .int .u64 0, .int .u64 0, .int .u64 0, .int .u64 0, .int .u64 0, .int .u64 0, .int .u64 0, .int .u64 0, .int .u64 0, .bool false, .bool false, .bool false, .bool false, .bool false, .bool false, .bool false, .bool false, .bool false, .bool false, .bool false, .bool false, .bool false, .bool false, .bool false, .bool false, .int .i64 0, .slice none 0 0] : Array Value) = frow tailR 0 := rfl
theorem refSize : (Tryz.prog.info? 162).map (·.size) = some 33 := by kernel_rfl
theorem tailR_one : ∀ v ∈ tailR, v.oneCell' = true := fun v hv => by
  simp only [tailR, List.mem_append, List.mem_cons, List.not_mem_nil, or_false] at hv
  rcases hv with hv | rfl | rfl | rfl
  · rw [List.eq_of_mem_replicate hv]; rfl
  · rfl
  · rfl
  · rfl
theorem freshO : (frow tailR 15).all (·.oneCell') = true := frow_one tailR_one
theorem fresh_R {w : World} {row : Array Value} {o : Nat} (h : o + 33 ≤ row.size) (h1 : ∀ j, j < 33 → row[o + j]? = (frow tailR 15)[j]?) : RgR w row o Sg.first := by
  refine ⟨h, fun j hj => ?_, fun j hj => ?_, ?_, ?_, none, 0, ?_, Nat.le_refl _, TRd.nil _ _⟩
  · rw [h1 j (by omega), frow_hnd hj]
    show _ = some (Value.int .u64 ((List.replicate 15 dfl).getD j 0))
    rw [List.getD_eq_getElem?_getD, List.getElem?_replicate, if_pos hj]
    rfl
  · rw [Nat.add_assoc, h1 (15 + j) (by omega), frow_tail j]
    unfold tailR
    rw [List.getElem?_append_left (by simpa using hj), List.getElem?_replicate, if_pos hj]
    show _ = some (Value.bool ((0 : Nat).testBit (j + 1)))
    simp
  · rw [h1 30 (by omega)]; exact frow_tail 15
  · rw [h1 31 (by omega)]; exact frow_tail 16
  · rw [h1 32 (by omega)]; exact frow_tail 17
set_option maxRecDepth 100000 in
set_option maxHeartbeats 2000000 in
theorem xfresh_at (w : World) :
    Calls Tryz.prog 126 #[] w fun x w' => x = .returned (.agg (frow tailR 15)) ∧ Below w.heap.size w w' := by
  have hz := lit_fresh
  have HSz : Hid (∀ k, k ≤ 15 → (frow tailR k).size = 33) := fun k hk => frow_size hk
  have HSet : Hid (∀ k, k < 15 → (frow tailR k).setIfInBounds k (.int .u64 18446744073709551615) = frow tailR (k + 1)) := fun k hk => frow_set hk
  have HGet : Hid (∀ k, k < 15 → (frow tailR k)[k]? = some (.int .u64 0)) := fun k hk => frow_get hk
  have HOne : Hid ((frow tailR 15).all (·.oneCell') = true) := freshO
  generalize hF : frow tailR = F at *
  clear hF
  go_enter Tryz.func126, Tryz.ntmps126
  go_wp2
  clear hz
  obtain ⟨W, hW⟩ : ∃ W, W = (w.alloc (.cells (F 0) 162)).alloc (.cells (F 0) 162) := ⟨_, rfl⟩
  obtain ⟨r, hr⟩ : ∃ r, r = w.heap.size := ⟨_, rfl⟩
  obtain ⟨g, hg⟩ : ∃ g, g = w.heap.size + 1 := ⟨_, rfl⟩
  have HN : Hid (W.heap[g]? = some (.cells (F 0) 162 (0, 0))) := by
    show _ = _
    have := heap_alloc_new (w.alloc (.cells (F 0) 162)) (.cells (F 0) 162)
    rw [hW, hg]
    simpa using this
  have HM : Hid (W.heap[r]? = some (.cells (F 0) 162 (0, 0))) := by
    rw [hW, hr, Below.heap_alloc _ _ _ (by simp)]
    exact heap_alloc_new _ _
  have HB : Hid (Below w.heap.size w W) := by rw [hW]; exact below_alloc2 _ _ _
  have HG : Hid (g = r + 1) := by show _ = _; rw [hg, hr]
  have HRw : Hid (r = w.heap.size) := hr
  rw [← hW, ← hg, ← hr]
  clear hW hg hr
  go_loopw [2] (fun s wr => ∃ (k : Nat), k ≤ 15 ∧ s = .int .i64 k ∧ wr.heap[g]? = some (.cells (F k) 162 (0, 0)) ∧ wr.heap[r]? = some (.cells (F 0) 162 (0, 0)) ∧ Below w.heap.size w wr) (fun s _ => 15 - (intOf s).toNat)
  case atStart => exact ⟨0, by omega, rfl, HN.out, HM.out, HB.out⟩
  case round =>
    clear HN HM HB
    obtain ⟨k, hk, rfl, hN, hM, hB⟩ := hrel
    have HN : Hid (wr.heap[g]? = some (.cells (F k) 162 (0, 0))) := hN
    have HM : Hid (wr.heap[r]? = some (.cells (F 0) 162 (0, 0))) := hM
    have HB : Hid (Below w.heap.size w wr) := hB
    by_cases hlt : k < 15
    · have i1 : decide ((k : Int) < 15) = true := decide_eq_true (by omega)
      have hki : (k : Int) < 15 := by omega
      have c0 : wr.cell? ⟨g, k, none⟩ = some (.int .u64 0) := (cell_of_heap hN).trans (HGet.out k hlt)
      have f0 : wr.frozen? ⟨g, k, none⟩ = false := frozen_of_heap hN
      have HN2 : Hid ((wr.setCell ⟨g, k, none⟩ (.int .u64 18446744073709551615)).heap[g]? = some (.cells (F (k + 1)) 162 (0, 0))) := by
        show _ = _
        rw [setCell_eq_setRow wr g k _ _ _ _ hN, setRow_heap wr g _ _ _ _ hN, HSet.out k hlt]
      have HM2 : Hid ((wr.setCell ⟨g, k, none⟩ (.int .u64 18446744073709551615)).heap[r]? = some (.cells (F 0) 162 (0, 0))) :=
        (Below.heap_setCell _ _ _ _ (by have := HG.out; show r ≠ g; omega)).trans hM
      have HB2 : Hid (Below w.heap.size w (wr.setCell ⟨g, k, none⟩ (.int .u64 18446744073709551615))) := hB.trans ((Upd.setCell g k _ _).below (by have := HG.out; have := HRw.out; omega) hB.size)
      clear hN hM hB
      go_wp2
      go_roundw
      case rel => exact ⟨k + 1, by omega, by go_num, HN2.out, HM2.out, HB2.out⟩
      case measure => simp [intOf]; omega
    · obtain rfl : k = 15 := by omega
      have i1 : decide (((15 : Nat) : Int) < 15) = false := rfl
      have HQ : Hid ((wr.setRow r (F 15)).heap[r]? = some (.cells (F 15) 162 (0, 0))) := setRow_heap _ r _ _ _ _ hM
      have HB2 : Hid (Below w.heap.size w (wr.setRow r (F 15))) := hB.trans ((Upd.setRow r _ _).below (by have := HRw.out; omega) hB.size)
      clear hN hM hB
      generalize hR : F 15 = R at *
      have HRs : Hid (R.size = 33) := by show _ = _; rw [← hR]; exact HSz.out 15 (by omega)
      have HR15 : Hid (F 15 = R) := hR
      clear hR
      go_wp2_with (first
        | (refine wpList_load_row rfl 162 _ rfl g rfl 162 R (0, 0) _ HN.out Tryz.underlying162 rfl (by rw [HRs.out]; exact refSize) ?_)
        | (refine wpList_store_row rfl 162 _ _ rfl r R rfl rfl 162 (F 0) HM.out (by rw [HRs.out]; exact refSize) (by rw [HRs.out, HSz.out 0 (by omega)]) HOne.out ?_)
        | go_in)
      refine bodyPost_ret (v := .agg R) ?_ rfl ⟨by rw [HR15.out], HB2.out⟩
      exact results_cell_row rfl _ _ r 162 R (0, 0) _ rfl HQ.out Tryz.underlying162 rfl (by rw [HRs.out]; exact refSize)
/-- The cells of zeroed signals. -/
def rrow : Array Value := ((List.replicate 8 (frow tailR 0).toList).flatten).toArray
theorem rrow_size : rrow.size = 264 := by kernel_rfl
theorem rrow_zero : (Tryz.prog.info? 165).map (·.zero) = some (some (.agg rrow)) := by kernel_rfl
theorem zero_ref (W : World) : (zeroValue 165).run Tryz.prog W = .ok (.agg rrow) W := by
  obtain ⟨i, hi, hz⟩ := Option.map_eq_some_iff.1 rrow_zero
  simp [zeroValue, typeInfo, hi, hz]
/-- The first k processes are as at first. -/
structure FreshK (w : World) (row : Array Value) (k : Nat) : Prop where
  size : row.size = 264
  at' : ∀ i, i < k → RgR w row (i * 33) Sg.first
theorem FreshK.next {w w' : World} {row : Array Value} {k : Nat} (h : FreshK w row k) (hk : k < 8) (hw : KeepW w w') : FreshK w' (putA row (k * 33) (frow tailR 15).toList) (k + 1) := by
  have hs := h.size
  have hl : (frow tailR 15).toList.length = 33 := rfl
  have hsm := putA_sameR (k * 33) row hl
  refine ⟨hsm.1.trans hs, fun i hi => ?_⟩
  by_cases e : i = k
  · subst e
    refine fresh_R (by rw [hsm.1]; omega) (fun j hj => ?_)
    rw [putA_in _ _ _ j (by omega) (by omega), Array.getElem?_toList]
  · exact (h.at' i (by omega)).keep hsm.1 (fun q h1 h2 => hsm.2 q (by omega)) hw
set_option maxRecDepth 100000 in
set_option maxHeartbeats 2000000 in
theorem xnew_at (w : World) :
    Calls Tryz.prog 64 #[] w fun x w' => x = .returned (.pointer (some ⟨w.heap.size, 0, none⟩)) ∧ RgAt w' w.heap.size SS.first ∧ Below w.heap.size w w' := by
  have HR : Hid (rrow.size = 264) := rrow_size
  have hz := zero_ref
  generalize rrow = R at *
  obtain ⟨b, hb⟩ : ∃ b, b = w.heap.size := ⟨_, rfl⟩
  have HBb : Hid (b = w.heap.size) := hb
  go_enter Tryz.func64, Tryz.ntmps64
  go_wp2
  have HN : Hid (RB (w.alloc (.cells R 165)) b R) := by rw [hb]; exact heap_alloc_new _ _
  have HB : Hid (Below w.heap.size w (w.alloc (.cells R 165))) := below_alloc _ _
  rw [← hb]
  generalize w.alloc (.cells R 165) = W at *
  clear hz hb
  go_loopw [2] (fun s wr => ∃ (k : Nat) (row : Array Value), k ≤ 8 ∧ s = .int .i64 k ∧ RB wr b row ∧ FreshK wr row k ∧ Below w.heap.size w wr) (fun s _ => 8 - (intOf s).toNat)
  case atStart => exact ⟨0, R, by omega, rfl, HN.out, ⟨HR.out, fun i hi => by omega⟩, HB.out⟩
  case round =>
    clear HN HB
    obtain ⟨k, row, hk, rfl, hS, hF, hB⟩ := hrel
    have HS : Hid (RB wr b row) := hS
    have HF : Hid (FreshK wr row k) := hF
    have HB : Hid (Below w.heap.size w wr) := hB
    by_cases hlt : k < 8
    · have i1 : decide ((k : Int) < 8) = true := decide_eq_true (by omega)
      have hki : (k : Int) < 8 := by omega
      have hAF := xfresh_at wr.drew
      have HFs : Hid ((frow tailR 15).size = 33) := rfl
      have HFo : Hid ((frow tailR 15).all (·.oneCell') = true) := freshO
      have HNx : Hid (∀ w', KeepW wr w' → FreshK w' (putA row (k * 33) (frow tailR 15).toList) (k + 1)) := fun w' hw => hF.next hlt hw
      generalize frow tailR 15 = F at *
      clear hS hF hB
      go_wp2_with fail
      refine wp_region_held_drew (S := fun w' => True) (by kernel_rfl) trivial (fun hHeld => ?_)
      refine wpAnyH_take (i := 0) (v := ?_) rfl (by kernel_rfl) (by kernel_rfl) (by kernel_rfl) (fun _ _ _ h => h) (Or.inl ⟨by kernel_rfl, ?_⟩) (by assumption) ?_
      rotate_left
      · (intro w hSw; (try dsimp only at hSw); go_simp) <;> with_reducible rfl
      (try simp only [Act.put, List.getElem_toArray, List.getElem_cons_zero, List.setIfInBounds_toArray, List.set_cons_zero, List.set_cons_succ])
      refine wpAnyH_take (i := 1) (v := ?_) rfl (by kernel_rfl) (by kernel_rfl) (by kernel_rfl) (fun _ _ _ h => h) (Or.inl ⟨by kernel_rfl, ?_⟩) (by assumption) ?_
      rotate_left
      · (intro w hSw; (try dsimp only at hSw); go_simp) <;> with_reducible rfl
      (try simp only [Act.put, List.getElem_toArray, List.getElem_cons_zero, List.getElem_cons_succ, List.setIfInBounds_toArray, List.set_cons_zero, List.set_cons_succ])
      refine wpAnyH_take (i := 3) (v := ?_) rfl (by kernel_rfl) (by kernel_rfl) (by kernel_rfl) (fun _ _ _ h => h) (Or.inl ⟨by kernel_rfl, ?_⟩) (by assumption) ?_
      rotate_left
      · (intro w hSw; (try dsimp only at hSw); go_simp) <;> with_reducible rfl
      (try simp only [Act.put, List.getElem_toArray, List.getElem_cons_zero, List.getElem_cons_succ, List.setIfInBounds_toArray, List.set_cons_zero, List.set_cons_succ])
      refine wpAnyH_take (i := 4) (v := ?_) rfl (by kernel_rfl) (by kernel_rfl) (by kernel_rfl) (fun _ _ _ h => h) (Or.inl ⟨by kernel_rfl, ?_⟩) (by assumption) ?_
      rotate_left
      · (intro w hSw; (try dsimp only at hSw); go_simp) <;> with_reducible rfl
      (try simp only [Act.put, List.getElem_toArray, List.getElem_cons_zero, List.getElem_cons_succ, List.setIfInBounds_toArray, List.set_cons_zero, List.set_cons_succ])
      refine wpAnyH_ready (rs := [2]) (by kernel_rfl) (by simp) ?_
      refine AllReadyH.cons rfl (fun K hK => ?_) AllReadyH.nil
      go_simp
      refine hAF.mono ?_
      rintro e w1 ⟨rfl, hb1⟩
      have HS1 : Hid (RB w1 b row) := (RB.drew HS.out).below hb1
      have HK1 : Hid (KeepW wr w1) := (KeepW.below (Below.refl wr.heap.size wr).drew).trans (KeepW.below hb1)
      have HB1 : Hid (Below w.heap.size w w1) := HB.out.drew.trans (hb1.mono (by have := HB.out.size; simpa using this))
      clear hb1 hAF
      refine hK.out _ _ trivial (fun hHeld => ?_)
      clear hK K
      (try simp only [Act.put, List.getElem_toArray, List.getElem_cons_zero, List.getElem_cons_succ, List.setIfInBounds_toArray, List.set_cons_zero, List.set_cons_succ])
      refine wpAnyH_take (i := 5) (v := ?_) rfl (by kernel_rfl) (by kernel_rfl) (by kernel_rfl) (fun _ _ _ h => h) (Or.inl ⟨by kernel_rfl, ?_⟩) (by assumption) ?_
      rotate_left
      · (intro w hSw; (try dsimp only at hSw); go_simp) <;> with_reducible rfl
      (try simp only [Act.put, List.getElem_toArray, List.getElem_cons_zero, List.getElem_cons_succ, List.setIfInBounds_toArray, List.set_cons_zero, List.set_cons_succ])
      refine wpAnyH_ready (rs := [6]) (by kernel_rfl) (by simp) ?_
      refine AllReadyH.cons rfl (fun K hK => ?_) AllReadyH.nil
      refine wp_store_mid 162 _ _ rfl b (k * 33) F rfl rfl (HS1.out.there _ _ (by have := HF.out.size; rw [HFs.out]; omega)) (by rw [HFs.out]; exact refSize) HFo.out ?_
      have HS2 : Hid (RB (w1.setCells b (k * 33) F.toList) b (putA row (k * 33) F.toList)) := RB.sets _ _ _ _ HS1.out
      have HU2 : Hid (Upd b w1 (w1.setCells b (k * 33) F.toList)) := upd_sets _ _ _ _
      generalize w1.setCells b (k * 33) F.toList = w2 at *
      have HF2 : Hid (FreshK w2 (putA row (k * 33) F.toList) (k + 1)) := HNx.out _ (HK1.out.trans (HS1.out.kw HU2.out))
      have HB2 : Hid (Below w.heap.size w w2) := HB1.out.trans (HU2.out.below (by have := HBb.out; omega) HB1.out.size)
      refine hK.out _ _ trivial (fun hHeld => ?_)
      clear hK K
      simp only [Act.put, List.getElem_toArray, List.getElem_cons_zero, List.getElem_cons_succ]
      refine wpAnyH_done (by kernel_rfl) ?_ _
      clear hHeld
      go_wp2
      go_roundw
      case rel => exact ⟨k + 1, _, by omega, by go_num, HS2.out, HF2.out, HB2.out⟩
      case measure => simp [intOf]; omega
    · obtain rfl : k = 8 := by omega
      have i1 : decide (((8 : Nat) : Int) < 8) = false := rfl
      clear hS hF hB
      go_wp2
      go_ret
      exact ⟨by rw [HBb.out]; rfl, ⟨row, by rw [← HBb.out]; exact HS.out, HF.out.size, HF.out.at'⟩, HB.out⟩
end Sg
end Go.Proofs.YtikjfdihocgfpaaGreatDoor
