/- Package signals: New, process, Set, Send, Next. -/
/- Package signals: slices.Clone, copyOf. -/
/- Package signals: Gone, Clear. -/
import Derived.Test.YtnlhedpfhgoncabGreatDoorSgBTSgC
import Derived.Maps.AppendAt
import Derived.Laws.ResultCell
import Derived.Deep.CutBlock
set_option linter.all false
namespace Go.Proofs.YtnlhedpfhgoncabGreatDoor
open Go.RowKit
namespace Ow
end Ow
namespace Sg
open Ow
/-- The cells of zeroed signals. -/
def srow : Array Value := ((List.replicate 8 (frow tailS 0).toList).flatten).toArray
theorem srow_size : srow.size = 152 := by kernel_rfl
theorem srow_zero : (Tryz.prog.info? 160).map (·.zero) = some (some (.agg srow)) := by kernel_rfl
theorem zero_sig (W : World) : (zeroValue 160).run Tryz.prog W = .ok (.agg srow) W := by
  obtain ⟨i, hi, hz⟩ := Option.map_eq_some_iff.1 srow_zero
  simp [zeroValue, typeInfo, hi, hz]
/-- The first k processes are as at first. -/
structure FirstK (w : World) (row : Array Value) (k : Nat) : Prop where
  size : row.size = 152
  at' : ∀ i, i < k → SgR w row (i * 19) Sg.first
theorem FirstK.next {w w' : World} {row : Array Value} {k : Nat} (h : FirstK w row k) (hk : k < 8) (hw : KeepW w w') : FirstK w' (putA row (k * 19) (frow tailS 15).toList) (k + 1) := by
  have hs := h.size
  have hl : (frow tailS 15).toList.length = 19 := rfl
  have hsm := putA_same (k * 19) row hl
  refine ⟨hsm.1.trans hs, fun i hi => ?_⟩
  by_cases e : i = k
  · subst e
    refine first_R (by rw [hsm.1]; omega) (fun j hj => ?_)
    rw [putA_in _ _ _ j (by omega) (by omega), Array.getElem?_toList]
  · exact (h.at' i (by omega)).keep hsm.1 (fun q h1 h2 => hsm.2 q (by omega)) hw
set_option maxRecDepth 100000 in
set_option maxHeartbeats 2000000 in
theorem new_at (w : World) :
    Calls Tryz.prog 29 #[] w fun x w' => x = .returned (.pointer (some ⟨w.heap.size, 0, none⟩)) ∧ SgAt w' w.heap.size SS.first ∧ Below w.heap.size w w' := by
  have HR : Hid (srow.size = 152) := srow_size
  have hz := zero_sig
  generalize srow = R at *
  obtain ⟨b, hb⟩ : ∃ b, b = w.heap.size := ⟨_, rfl⟩
  have HBb : Hid (b = w.heap.size) := hb
  go_enter Tryz.func29, Tryz.ntmps29
  go_wp2
  have HN : Hid (SB (w.alloc (.cells R 160)) b R) := by rw [hb]; exact heap_alloc_new _ _
  have HB : Hid (Below w.heap.size w (w.alloc (.cells R 160))) := below_alloc _ _
  rw [← hb]
  generalize w.alloc (.cells R 160) = W at *
  clear hz hb
  go_loopw [5] (fun s wr => ∃ (k : Nat) (row : Array Value), k ≤ 8 ∧ s = .int .i64 k ∧ SB wr b row ∧ FirstK wr row k ∧ Below w.heap.size w wr) (fun s _ => 8 - (intOf s).toNat)
  case atStart => exact ⟨0, R, by omega, rfl, HN.out, ⟨HR.out, fun i hi => by omega⟩, HB.out⟩
  case round =>
    clear HN HB
    obtain ⟨k, row, hk, rfl, hS, hF, hB⟩ := hrel
    have HS : Hid (SB wr b row) := hS
    have HF : Hid (FirstK wr row k) := hF
    have HB : Hid (Below w.heap.size w wr) := hB
    by_cases hlt : k < 8
    · have i1 : decide ((k : Int) < 8) = true := decide_eq_true (by omega)
      have hki : (k : Int) < 8 := by omega
      have hAF := atFirst_at wr.drew
      have HFs : Hid ((frow tailS 15).size = 19) := rfl
      have HFo : Hid ((frow tailS 15).all (·.oneCell') = true) := frow_one (fun v hv => by simp [tailS] at hv; rcases hv with rfl | rfl | rfl | rfl <;> rfl)
      have HNx : Hid (∀ w', KeepW wr w' → FirstK w' (putA row (k * 19) (frow tailS 15).toList) (k + 1)) := fun w' hw => hF.next hlt hw
      generalize frow tailS 15 = F at *
      clear hS hF hB
      go_wp2_with fail
      refine wp_region_held_drew (S := fun w' => True) (by kernel_rfl) trivial (fun hHeld => ?_)
      refine wpAnyH_take (i := 0) (v := ?_) rfl (by kernel_rfl) (by kernel_rfl) (by kernel_rfl) (fun _ _ _ h => h) (Or.inl ⟨by kernel_rfl, ?_⟩) (by assumption) ?_
      rotate_left
      · (intro w hSw; (try dsimp only at hSw); go_simp) <;> with_reducible rfl
      (try simp only [Act.put, List.getElem_toArray, List.getElem_cons_zero, List.setIfInBounds_toArray, List.set_cons_zero, List.set_cons_succ])
      refine wpAnyH_take (i := 1) (v := ?_) rfl (by kernel_rfl) (by kernel_rfl) (by kernel_rfl) (fun _ _ _ h => h) (Or.inl ⟨by kernel_rfl, ?_⟩) (by assumption) ?_
      rotate_left
      · (intro w hSw; (try dsimp only at hSw); go_simp) <;> with_reducible rfl
      (try simp only [Act.put, List.getElem_toArray, List.getElem_cons_zero, List.getElem_cons_succ, List.setIfInBounds_toArray, List.set_cons_zero, List.set_cons_succ])
      refine wpAnyH_take (i := 3) (v := ?_) rfl (by kernel_rfl) (by kernel_rfl) (by kernel_rfl) (fun _ _ _ h => h) (Or.inl ⟨by kernel_rfl, ?_⟩) (by assumption) ?_
      rotate_left
      · (intro w hSw; (try dsimp only at hSw); go_simp) <;> with_reducible rfl
      (try simp only [Act.put, List.getElem_toArray, List.getElem_cons_zero, List.getElem_cons_succ, List.setIfInBounds_toArray, List.set_cons_zero, List.set_cons_succ])
      refine wpAnyH_take (i := 4) (v := ?_) rfl (by kernel_rfl) (by kernel_rfl) (by kernel_rfl) (fun _ _ _ h => h) (Or.inl ⟨by kernel_rfl, ?_⟩) (by assumption) ?_
      rotate_left
      · (intro w hSw; (try dsimp only at hSw); go_simp) <;> with_reducible rfl
      (try simp only [Act.put, List.getElem_toArray, List.getElem_cons_zero, List.getElem_cons_succ, List.setIfInBounds_toArray, List.set_cons_zero, List.set_cons_succ])
      refine wpAnyH_ready (rs := [2]) (by kernel_rfl) (by simp) ?_
      refine AllReadyH.cons rfl (fun K hK => ?_) AllReadyH.nil
      go_simp
      refine hAF.mono ?_
      rintro e w1 ⟨rfl, hb1⟩
      have HS1 : Hid (SB w1 b row) := (SB.drew HS.out).below hb1
      have HK1 : Hid (KeepW wr w1) := (KeepW.below (Below.refl wr.heap.size wr).drew).trans (KeepW.below hb1)
      have HB1 : Hid (Below w.heap.size w w1) := HB.out.drew.trans (hb1.mono (by have := HB.out.size; simpa using this))
      clear hb1 hAF
      refine hK.out _ _ trivial (fun hHeld => ?_)
      clear hK K
      (try simp only [Act.put, List.getElem_toArray, List.getElem_cons_zero, List.getElem_cons_succ, List.setIfInBounds_toArray, List.set_cons_zero, List.set_cons_succ])
      refine wpAnyH_take (i := 5) (v := ?_) rfl (by kernel_rfl) (by kernel_rfl) (by kernel_rfl) (fun _ _ _ h => h) (Or.inl ⟨by kernel_rfl, ?_⟩) (by assumption) ?_
      rotate_left
      · (intro w hSw; (try dsimp only at hSw); go_simp) <;> with_reducible rfl
      (try simp only [Act.put, List.getElem_toArray, List.getElem_cons_zero, List.getElem_cons_succ, List.setIfInBounds_toArray, List.set_cons_zero, List.set_cons_succ])
      refine wpAnyH_ready (rs := [6]) (by kernel_rfl) (by simp) ?_
      refine AllReadyH.cons rfl (fun K hK => ?_) AllReadyH.nil
      refine wp_store_mid 135 _ _ rfl b (k * 19) F rfl rfl (HS1.out.there _ _ (by have := HF.out.size; rw [HFs.out]; omega)) (by rw [HFs.out]; exact procSize) HFo.out ?_
      have HS2 : Hid (SB (w1.setCells b (k * 19) F.toList) b (putA row (k * 19) F.toList)) := SB.sets _ _ _ _ HS1.out
      have HU2 : Hid (Upd b w1 (w1.setCells b (k * 19) F.toList)) := upd_sets _ _ _ _
      generalize w1.setCells b (k * 19) F.toList = w2 at *
      have HF2 : Hid (FirstK w2 (putA row (k * 19) F.toList) (k + 1)) := HNx.out _ (HK1.out.trans (HS1.out.kw HU2.out))
      have HB2 : Hid (Below w.heap.size w w2) := HB1.out.trans (HU2.out.below (by have := HBb.out; omega) HB1.out.size)
      refine hK.out _ _ trivial (fun hHeld => ?_)
      clear hK K
      simp only [Act.put, List.getElem_toArray, List.getElem_cons_zero, List.getElem_cons_succ]
      refine wpAnyH_done (by kernel_rfl) ?_ _
      clear hHeld
      go_wp2
      go_roundw
      case rel => exact ⟨k + 1, _, by omega, by go_num, HS2.out, HF2.out, HB2.out⟩
      case measure => simp [intOf]; omega
    · obtain rfl : k = 8 := by omega
      have i1 : decide (((8 : Nat) : Int) < 8) = false := rfl
      clear hS hF hB
      go_wp2
      go_ret
      exact ⟨by rw [HBb.out]; rfl, ⟨row, by rw [← HBb.out]; exact HS.out, HF.out.size, HF.out.at'⟩, HB.out⟩
theorem process_no (b : Nat) (n : Int) (w : World) (hn : isP n = false) :
    Calls Tryz.prog 61 #[.pointer (some ⟨b, 0, none⟩), .int .i64 n] w fun x w' => x = .returned (.pointer none) ∧ w' = w := by
  have hne := ptr_eq b 0
  rcases isP_no hn with h | h
  · have g0 : decide (n < 1) = true := decide_eq_true (by omega)
    clear hn
    go_enter Tryz.func61, Tryz.ntmps61
    go_wp2
    go_ret
    exact ⟨rfl, rfl⟩
  · have g0 : decide (n < 1) = false := decide_eq_false (by omega)
    have g1 : decide (8 < n) = true := decide_eq_true h
    clear hn
    go_enter Tryz.func61, Tryz.ntmps61
    go_wp2
    go_ret
    exact ⟨rfl, rfl⟩
theorem process_yes (b i : Nat) (w : World) (hi : i < 8) :
    Calls Tryz.prog 61 #[.pointer (some ⟨b, 0, none⟩), .int .i64 ((i : Int) + 1)] w fun x w' => x = .returned (.pointer (some ⟨b, i * 19, none⟩)) ∧ w' = w := by
  have hne := ptr_eq b 0
  have g0 : decide ((i : Int) + 1 < 1) = false := decide_eq_false (by omega)
  have g1 : decide (8 < (i : Int) + 1) = false := decide_eq_false (by omega)
  have hw : IntKind.i64.wrap ((i : Int) + 1 - 1) = (i : Int) := by simp [IntKind.wrap, IntKind.bits, IntKind.signed]; omega
  have hii : (i : Int) < 8 := by omega
  generalize (i : Int) + 1 = n at *
  go_enter Tryz.func61, Tryz.ntmps61
  go_wp2
  go_ret
  exact ⟨by simp, rfl⟩
set_option maxHeartbeats 1000000 in
theorem send_at (b : Nat) (S : SS) (pid sig : Int) (w : World) (h : SgAt w b S) (hok : SOk S) :
    Calls Tryz.prog 127 #[.pointer (some ⟨b, 0, none⟩), .int .i64 pid, .int .i64 sig] w fun e w' => e = .returned (.int .i64 (sdE pid sig)) ∧ SgAt w' b (sdS S pid sig) ∧ Upd b w w' := by
  cases hp : isP pid with
  | false =>
    have hP := process_no b pid w hp
    have HE : Hid (sdE pid sig = 3) := by show _ = _; unfold sdE; rw [hp]; rfl
    have HS : Hid (sdS S pid sig = S) := by show _ = _; unfold sdS; rw [hp]; rfl
    have HH : Hid (SgAt w b S) := h
    clear h hp
    go_enter Tryz.func127, Tryz.ntmps127
    go_wp2_with fail
    refine hP.mono ?_
    rintro e w1 ⟨rfl, hw⟩
    rw [hw]
    clear hw w1 hP
    go_wp2
    go_ret
    exact ⟨by rw [HE.out]; rfl, by rw [HS.out]; exact HH.out, Upd.refl _ _⟩
  | true =>
    obtain ⟨i, rfl, hi⟩ := isP_nat hp
    have hP := process_yes b i w hi
    have hI := isSignal_at sig w
    have hnn := pptr_eq b (i * 19)
    cases hs : isS sig with
    | false =>
      have HE : Hid (sdE ((i : Int) + 1) sig = 22) := by show _ = _; unfold sdE; rw [hp, hs]; rfl
      have HS : Hid (sdS S ((i : Int) + 1) sig = S) := by show _ = _; unfold sdS; rw [hp, hs]; rfl
      have HH : Hid (SgAt w b S) := h
      rw [hs] at hI
      clear h hp hs
      go_enter Tryz.func127, Tryz.ntmps127
      go_wp2_with fail
      refine hP.mono ?_
      rintro e w1 ⟨rfl, hw⟩
      rw [hw]
      clear hw w1 hP
      go_wp2_with fail
      refine hI.mono ?_
      rintro e w1 ⟨rfl, hw⟩
      rw [hw]
      clear hw w1 hI
      go_wp2
      go_ret
      exact ⟨by rw [HE.out]; rfl, by rw [HS.out]; exact HH.out, Upd.refl _ _⟩
    | true =>
      rw [hs] at hI
      obtain ⟨m, rfl, hm⟩ := isS_nat hs
      have HE : Hid (sdE ((i : Int) + 1) ((m : Int) + 1) = 0) := by show _ = _; unfold sdE; rw [hp, hs]; rfl
      have HS : Hid (sdS S ((i : Int) + 1) ((m : Int) + 1) = S.set i ((S i).q' (addB (S i).q (m + 1)))) := by
        show _ = _
        unfold sdS
        rw [hp, hs, if_pos (by rfl), show ((i : Int) + 1 - 1).toNat = i by omega, show ((m : Int) + 1).toNat = m + 1 by omega]
      obtain ⟨row, hB, hR⟩ := h
      have hRi := hR.at' i hi
      have hq := (hok i hi).pend.1
      have c0 := (hB.cell (i * 19 + 15)).trans hRi.pen
      have c1 := (hB.drew.cell (i * 19 + 15)).trans hRi.pen
      have f0 := hB.free (i * 19 + 15)
      have f1 := hB.drew.free (i * 19 + 15)
      have hcast : ((m : Int) + 1) = ((m + 1 : Nat) : Int) := by omega
      have hK1 : Calls Tryz.prog 133 #[.int .i64 ((m : Int) + 1)] w.drew fun x w' => x = .returned (.int .u64 ((2 ^ (m + 1) : Nat) : Int)) ∧ w' = w.drew := by
        rw [hcast]
        exact bit_at (m + 1) (by omega) _
      have ha : bits .or .u64 ((S i).q : Int) ((2 ^ (m + 1) : Nat) : Int) = ((addB (S i).q (m + 1) : Nat) : Int) := u64_or_nat _ _ (by omega) (bit_lt (by omega))
      have HF : Hid (SgAt (w.drew.setCell ⟨b, i * 19 + 15, none⟩ (.int .u64 ((addB (S i).q (m + 1) : Nat) : Int))) b (S.set i ((S i).q' (addB (S i).q (m + 1)))) ∧ Upd b w (w.drew.setCell ⟨b, i * 19 + 15, none⟩ (.int .u64 ((addB (S i).q (m + 1) : Nat) : Int)))) := by
        have hu : Upd b w (w.drew.setCell ⟨b, i * 19 + 15, none⟩ (.int .u64 ((addB (S i).q (m + 1) : Nat) : Int))) := (Upd.drew b w).trans (Upd.setCell _ _ _ _)
        exact ⟨⟨_, hB.drew.set _ _, hR.put (Same.set _ _ (by omega)) (hRi.pend _ (hB.kw hu)) (hB.kw hu)⟩, hu⟩
      clear hp hs hB hR hRi hcast
      generalize hz : addB (S i).q (m + 1) = r at *
      clear hz
      generalize (S i).q = q0 at *
      generalize 2 ^ (m + 1) = M at *
      generalize (m : Int) + 1 = sg at *
      go_enter Tryz.func127, Tryz.ntmps127
      go_wp2_with fail
      refine hP.mono ?_
      rintro e w1 ⟨rfl, hw⟩
      rw [hw]
      clear hw w1 hP
      go_wp2_with fail
      refine hI.mono ?_
      rintro e w1 ⟨rfl, hw⟩
      rw [hw]
      clear hw w1 hI
      go_wp2_with fail
      go_region_with (go_at_call 133; refine hK1.mono ?_; rintro e w2 ⟨rfl, hw⟩; rw [hw]; clear hw w2)
      all_goals
        go_wp2
        go_ret
        exact ⟨by rw [HE.out]; rfl, by rw [HS.out]; exact HF.out.1, HF.out.2⟩
set_option maxHeartbeats 1000000 in
theorem snext_at (b : Nat) (S : SS) (pid : Int) (w : World) (h : SgAt w b S) (hok : SOk S) :
    Calls Tryz.prog 22 #[.pointer (some ⟨b, 0, none⟩), .int .i64 pid] w fun e w' => e = .returned (.tuple #[.int .i64 (nxI S pid : Nat), .int .u64 (nxH S pid), .bool (nxB S pid)]) ∧ SgAt w' b (nxS S pid) ∧ Upd b w w' := by
  cases hp : isP pid with
  | false =>
    have hP := process_no b pid w hp
    have HE : Hid (nxI S pid = 0) := by show _ = _; unfold nxI; rw [hp]; rfl
    have HS : Hid (nxS S pid = S) := by show _ = _; unfold nxS; rw [hp]; rfl
    have HH : Hid (SgAt w b S) := h
    clear h hp
    go_enter Tryz.func22, Tryz.ntmps22
    go_wp2_with fail
    refine hP.mono ?_
    rintro e w1 ⟨rfl, hw⟩
    rw [hw]
    clear hw w1 hP
    go_wp2
    go_ret3
    refine ⟨?_, by rw [HS.out]; exact HH.out, Upd.refl _ _⟩
    unfold nxH nxB
    rw [HE.out]
    rfl
  | true =>
    obtain ⟨i, rfl, hi⟩ := isP_nat hp
    have hP := process_yes b i w hi
    have hnn := pptr_eq b (i * 19)
    have HI : Hid (nxI S ((i : Int) + 1) = (S i).nx.1) := by show _ = _; unfold nxI; rw [hp, if_pos rfl, show ((i : Int) + 1 - 1).toNat = i by omega]
    have HS : Hid (nxS S ((i : Int) + 1) = S.set i ((S i).q' (S i).nx.2)) := by show _ = _; unfold nxS; rw [hp, if_pos rfl, show ((i : Int) + 1 - 1).toNat = i by omega]
    have HH : Hid (nxI S ((i : Int) + 1) ≠ 0 → nxH S ((i : Int) + 1) = (S i).hd (nxI S ((i : Int) + 1))) := fun h0 => by unfold nxH; rw [if_neg h0, show ((i : Int) + 1 - 1).toNat = i by omega]
    obtain ⟨row, hB, hR⟩ := h
    have hNx := next_at b (i * 19) (S i) row w hB (hR.at' i hi) (hok i hi).pend
    have HB : Hid (SB w b row) := hB
    have HR : Hid (SgRow w row S) := hR
    have HLen : Hid ((S i).h.length = 15) := (hok i hi).len
    clear hp hB hR
    go_enter Tryz.func22, Tryz.ntmps22
    go_wp2_with fail
    refine hP.mono ?_
    rintro e w1 ⟨rfl, hw⟩
    rw [hw]
    clear hw w1 hP
    go_wp2_with fail
    refine hNx.mono ?_
    rintro e w1 ⟨s, q, row', rfl, hB2, hR2, hS2, hU2, hNE⟩
    obtain ⟨hne, hqk, hs15⟩ := hNE
    by_cases h0 : s = 0
    · subst h0
      rw [if_pos rfl] at hne
      have HE : Hid (nxI S ((i : Int) + 1) = 0) := by show _ = _; rw [HI.out, hne]
      have HF : Hid (SgAt w1 b (nxS S ((i : Int) + 1))) := by rw [HS.out, hne]; exact ⟨row', hB2, HR.out.put hS2 hR2 (HB.out.kw hU2)⟩
      have HU : Hid (Upd b w w1) := hU2
      clear hNx hB2 hR2 hS2 hU2 hne hqk hs15
      go_wp2
      go_ret3
      refine ⟨?_, HF.out, HU.out⟩
      unfold nxH nxB
      rw [HE.out]
      rfl
    · rw [if_neg h0] at hne
      obtain ⟨m, rfl⟩ : ∃ m, s = m + 1 := ⟨s - 1, by omega⟩
      have g0 : (((m + 1 : Nat) : Int) == 0) = false := beq_false_of_ne (by omega)
      have HE : Hid (nxI S ((i : Int) + 1) = m + 1) := by show _ = _; rw [HI.out, hne]
      have HHd : Hid (nxH S ((i : Int) + 1) = (S i).h.getD m 0) := by
        show _ = _
        rw [HH.out (by rw [HE.out]; omega), HE.out]
        rfl
      have HS2 : Hid (nxS S ((i : Int) + 1) = S.set i ((S i).q' (clr q (m + 1)))) := by show _ = _; rw [HS.out, hne]
      have hDr := drop_at b (i * 19) (m + 1) ((S i).q' q) row' w1 hB2 hR2 hqk.1 (by omega)
      have HKw : Hid (KeepW w w1) := HB.out.kw hU2
      have HSm : Hid (Same (i * 19) row row') := hS2
      have HU : Hid (Upd b w w1) := hU2
      have HB2 : Hid (SB w1 b row') := hB2
      have hcast : ((m + 1 : Nat) : Int) = (m : Int) + 1 := by omega
      clear hNx hB2 hR2 hS2 hU2 hne
      go_wp2_with fail
      refine hDr.mono ?_
      rintro e w2 ⟨rfl, row2, hB3, hR3, hS3, hU3⟩
      have hHa := handler_at b (i * 19) m _ row2 w2 hB3 hR3 (by omega)
      have HF : Hid (SgAt w2 b (nxS S ((i : Int) + 1))) := by rw [HS2.out]; exact ⟨row2, hB3, HR.out.put (HSm.out.trans hS3) hR3 (HKw.out.trans (HB2.out.kw hU3))⟩
      have HU3 : Hid (Upd b w w2) := HU.out.trans hU3
      rw [← hcast] at hHa
      rw [show (((S i).q' q).q' (clr ((S i).q' q).q (m + 1))).h = (S i).h from rfl] at hHa
      clear hDr hB3 hR3 hS3 hU3 hcast
      go_wp2_with fail
      refine hHa.mono ?_
      rintro e w3 ⟨rfl, hw⟩
      rw [hw]
      clear hw w3 hHa
      go_wp2
      go_ret3
      refine ⟨?_, HF.out, HU3.out⟩
      rw [HHd.out]
      unfold nxB
      rw [HE.out]
      rfl
end Sg
end Go.Proofs.YtnlhedpfhgoncabGreatDoor
namespace Go.Proofs.YtnlhedpfhgoncabGreatDoor
open Go.RowKit
namespace Ow
end Ow
namespace Sg
open Ow
theorem nil_none (n c : Nat) (w : World) : (binOp BinOp.eql 46 (.slice none n c) (.slice none 0 0)).run Tryz.prog w = .ok (.bool true) w := by kernel_rfl
theorem nil_some (ad : Addr) (n c : Nat) (w : World) : (binOp BinOp.eql 46 (.slice (some ad) n c) (.slice none 0 0)).run Tryz.prog w = .ok (.bool false) w := by kernel_rfl
set_option maxHeartbeats 400000 in
theorem clone_at (a : Option Addr) (n c : Nat) (xs : List Int) (w : World) (h : Rd w a xs) (hn : n = xs.length) (hl : n ≤ 1000000) :
    Calls Tryz.prog 134 #[.slice a n c] w fun e w' => ∃ u, e = .returned u ∧ w'.ownsRow w.heap.size 40 1 u xs.length (uvs xs) ∧ Below w.heap.size w w' := by
  cases a with
  | none =>
    have heq := nil_none n c
    have HX : Hid (xs = []) := by
      show xs = []
      cases xs with
      | nil => rfl
      | cons x r => obtain ⟨g, off, e, _⟩ := h 0 x rfl; cases e
    clear h hn
    go_enter Tryz.func134, Tryz.ntmps134
    go_wp2
    go_ret
    exact ⟨_, rfl, by rw [HX.out]; exact World.ownsRow_nil _ _ _ _, Below.refl _ _⟩
  | some ad =>
    obtain ⟨i0, hi0, hzz⟩ := Option.map_eq_some_iff.1 wordInfo
    simp only [Prod.mk.injEq] at hzz
    obtain ⟨hz0, hz1, hz2⟩ := hzz
    have hown : (w.alloc (.cells #[] 40)).ownsRow w.heap.size 40 1 (.slice (some ⟨w.heap.size, 0, none⟩) 0 0) 0 [] :=
      ⟨rfl, Or.inr ⟨w.heap.size, 0, #[], rfl, Nat.le_refl _, heap_alloc_new _ _, Nat.le_refl _, by unfold maxLen; omega, rfl, rfl⟩⟩
    have heq := nil_some ad n c
    have HX : Hid (∀ (j : Nat) (x : Int), xs[j]? = some x → w.cell? (ad.add j) = some (.int .u64 x)) := fun j x hx => by
      obtain ⟨g, off, e, hc⟩ := h j x hx
      obtain rfl := Option.some.inj e
      have : (⟨g, off, none⟩ : Addr).add j = ⟨g, off + j, none⟩ := by simp [Addr.add]
      rw [this]
      exact hc
    have HL : Hid (n = xs.length) := hn
    clear h hn
    go_enter Tryz.func134, Tryz.ntmps134
    go_wp2_with (first
      | (at_builtin; refine wpList_append_own_at _ rfl _ _ _ rfl w.heap.size 40 i0 _ 1 8 Tryz.underlying46 hi0 hz0 hz1 hz2 rfl (by omega) _ _ _ rfl hown ad n c (uvs xs) rfl (by rw [uvs_len, ← HL.out]; omega)
          (fun j u hu => by obtain ⟨x, hx, rfl⟩ := uvs_get hu; exact (((Below.refl w.heap.size w).alloc (Nat.le_refl _) _).cell (cell_lt (HX.out j x hx))).trans (HX.out j x hx)) (uvs_one xs) (by unfold maxLen; omega) (by omega) (by simp) ?_; intro u w2 hown2 hgrow hnil hat)
      | go_in)
    go_ret
    refine ⟨u, by simp, by rw [← HL.out]; simpa using hown2, (below_alloc _ _).trans (below_grown hgrow (by simp) (ownsRow_low hown))⟩
theorem heap_set {w : World} {b : Nat} {row : Array Value} {t : TypeId} (h : w.heap[b]? = some (.cells row t (0, 0))) (i : Nat) (v : Value) : (w.setCell ⟨b, i, none⟩ v).heap[b]? = some (.cells (row.setIfInBounds i v) t (0, 0)) := by
  rw [setCell_eq_setRow w b i _ _ _ _ h, setRow_heap w b _ _ _ _ h]
theorem kw_set {w : World} {b : Nat} {row : Array Value} {t : TypeId} (h : w.heap[b]? = some (.cells row t (0, 0))) (ht : t ≠ 40) (i : Nat) (v : Value) : KeepW w (w.setCell ⟨b, i, none⟩ v) := KeepW.upd h ht (Upd.setCell _ _ _ _)
theorem vmSize : (Tryz.prog.info? 48).map (·.size) = some 2 := by kernel_rfl
abbrev vmV (pc : Int) (a : Option Addr) (n c : Nat) : Value := .agg #[.int .i64 pc, .slice a n c]
set_option maxHeartbeats 1000000 in
theorem copyOf_at (pc : Int) (a : Option Addr) (n c : Nat) (xs : List Int) (w : World) (h : Rd w a xs) (hn : n = xs.length) (hl : n ≤ 1000000) :
    Calls Tryz.prog 65 #[vmV pc a n c] w fun e w' => ∃ a' c', e = .returned (vmV pc a' n c') ∧ n ≤ c' ∧ TRd w' a' xs ∧ Below w.heap.size w w' := by
  obtain ⟨W, hW⟩ : ∃ W, W = (w.alloc (.cells #[.int .i64 pc, .slice a n c] 48)).alloc (.cells #[.int .i64 0, .slice none 0 0] 48) := ⟨_, rfl⟩
  have hb : Below w.heap.size w W := by rw [hW]; exact below_alloc2 _ _ _
  have hC := clone_at a n c xs W (h.below hb) hn hl
  have HB : Hid (Below w.heap.size w W) := hb
  have HN : Hid (n = xs.length) := hn
  have hs : W.heap.size = w.heap.size + 1 + 1 := by rw [hW]; simp
  have HS : Hid (W.heap.size = w.heap.size + 1 + 1) := hs
  have H0 : Hid (W.heap[w.heap.size]? = some (.cells #[.int .i64 pc, .slice a n c] 48 (0, 0))) := by
    show _ = _
    rw [hW, Below.heap_alloc _ _ _ (by simp)]
    exact heap_alloc_new _ _
  have H1 : Hid (W.heap[w.heap.size + 1]? = some (.cells #[.int .i64 0, .slice none 0 0] 48 (0, 0))) := by
    show _ = _
    rw [hW]
    have := heap_alloc_new (w.alloc (.cells #[.int .i64 pc, .slice a n c] 48)) (.cells #[.int .i64 0, .slice none 0 0] 48)
    simpa using this
  have HW : Hid _ := hW
  clear h hb hW hn hs
  go_enter Tryz.func65, Tryz.ntmps65
  go_wp2_with fail
  rw [← HW.out]
  refine hC.mono ?_
  rintro e w1 ⟨u, rfl, hown, hb1⟩
  obtain ⟨a', c', rfl, hc', hrd⟩ := own_trd hown
  obtain ⟨q, hq⟩ : ∃ q, q = w.heap.size := ⟨_, rfl⟩
  have k0 := (hb1.block w.heap.size (by have := HS.out; omega)).trans H0.out
  have k1 := (hb1.block (w.heap.size + 1) (by have := HS.out; omega)).trans H1.out
  have hsz : q + 1 < w1.heap.size := by have := HS.out; have := hb1.size; omega
  rw [← hq] at k0 k1 ⊢
  have c0 : w1.cell? ⟨q, 0, none⟩ = some (.int .i64 pc) := by rw [cell_of_heap k0]; rfl
  have c1 : w1.cell? ⟨q, 1, none⟩ = some (.slice a n c) := by rw [cell_of_heap k0]; rfl
  have f1 : w1.frozen? ⟨q, 1, none⟩ = false := frozen_of_heap k0
  have d0 : w1.cell? ⟨q + 1, 0, none⟩ = some (.int .i64 0) := by rw [cell_of_heap k1]; rfl
  have d1 : w1.cell? ⟨q + 1, 1, none⟩ = some (.slice none 0 0) := by rw [cell_of_heap k1]; rfl
  have e0 : w1.frozen? ⟨q + 1, 0, none⟩ = false := frozen_of_heap k1
  have e1 : w1.frozen? ⟨q + 1, 1, none⟩ = false := frozen_of_heap k1
  have HB1 : Hid (Below w.heap.size w w1) := HB.out.trans (hb1.mono HB.out.size)
  have HT : Hid (TRd w1 a' xs) := hrd
  have HQ : Hid (q = w.heap.size) := hq
  have HCc : Hid (xs.length ≤ c') := hc'
  have HK0 : Hid (w1.heap[q]? = some (.cells #[.int .i64 pc, .slice a n c] 48 (0, 0))) := k0
  have HK1 : Hid (w1.heap[q + 1]? = some (.cells #[.int .i64 0, .slice none 0 0] 48 (0, 0))) := k1
  rw [← HN.out]
  clear hown hb1 k0 k1 hrd hq hC hc' HS H0 H1 HW HB
  go_wp2
  have k0 := heap_set HK0.out 1 (.slice a' n c')
  have k1 : (w1.setCell ⟨q, 1, none⟩ (.slice a' n c')).heap[q + 1]? = _ := (Below.heap_setCell _ _ _ _ (by show q + 1 ≠ q; omega)).trans HK1.out
  have k2 := heap_set k1 0 (.int .i64 pc)
  have k3 := heap_set k2 1 (.slice a' n c')
  refine bodyPost_ret (v := vmV pc a' n c') (results_cell_row rfl _ _ (q + 1) 48 _ (0, 0) _ rfl k3 Tryz.underlying48 rfl vmSize) rfl ⟨a', c', rfl, by rw [HN.out]; exact HCc.out, ?_, ?_⟩
  · exact ((HT.out.kept (kw_set HK0.out (by decide) _ _)).kept (kw_set k1 (by decide) _ _)).kept (kw_set k2 (by decide) _ _)
  · have hq := HQ.out
    exact ((HB1.out.trans ((Upd.setCell q 1 w1 _).below (by omega) HB1.out.size)).trans ((Upd.setCell (q + 1) 0 _ _).below (by omega) (by have := HB1.out.size; simpa [World.setCell] using this))).trans ((Upd.setCell (q + 1) 1 _ _).below (by omega) (by have := HB1.out.size; simpa [World.setCell] using this))
end Sg
end Go.Proofs.YtnlhedpfhgoncabGreatDoor
namespace Go.Proofs.YtnlhedpfhgoncabGreatDoor
open Go.RowKit
namespace Ow
end Ow
namespace Sg
open Ow
/-- The handlers as cells. -/
def hvs (p : Sg) : List Value := (List.range 15).map (fun j => Value.int .u64 (p.h.getD j 0))
theorem hvs_len (p : Sg) : (hvs p).length = 15 := by simp [hvs]
theorem hvs_get (p : Sg) (j : Nat) (hj : j < 15) : (hvs p)[j]? = some (.int .u64 (p.h.getD j 0)) := by
  unfold hvs
  rw [List.getElem?_map, List.getElem?_range hj]
  rfl
theorem hvs_range {w : World} {b o : Nat} {row : Array Value} {p : Sg} (hB : SB w b row) (hR : SgR w row o p) : w.rangeAt b o (hvs p) := by
  intro j v hv
  have hj : j < 15 := by have := (List.getElem?_eq_some_iff.1 hv).1; rwa [hvs_len] at this
  rw [hvs_get p j hj] at hv
  rw [hB.cell, hR.hnd j hj]
  exact hv
theorem words15 : (Tryz.prog.info? 133).map (·.size) = some 15 := by kernel_rfl
end Sg
end Go.Proofs.YtnlhedpfhgoncabGreatDoor
