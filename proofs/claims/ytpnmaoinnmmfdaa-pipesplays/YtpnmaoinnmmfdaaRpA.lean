/- The reference of package pipes: its pipes in the heap; has, Make, Put, Take, Len, Drop. -/
import Derived.Test.YtpnmaoinnmmfdaaDeed19
namespace Go.Proofs.Ytpnmaoinnmmfdaa
open Go.RowKit Go.Lib
set_option linter.unusedVariables false

/-- A row of the reference that says S. -/
structure RpR (row : Array Value) (S : PS) : Prop where
  size : row.size = 32
  made : ∀ i, i < 16 → row[i]? = some (.bool (S i).isSome)
  txt : ∀ i, i < 16 → row[16 + i]? = some (tx ((S i).getD []))
theorem RpR.put {row : Array Value} {S : PS} (h : RpR row S) {i : Nat} {l' : List UInt8} (hi : i < 16) (hm : (S i).isSome = true) : RpR (row.setIfInBounds (16 + i) (tx l')) (S.set i (some l')) := by
  have hs := h.size
  refine ⟨by rw [Array.size_setIfInBounds]; exact hs, fun j hj => ?_, fun j hj => ?_⟩
  · rw [Array.getElem?_setIfInBounds, if_neg (by omega), h.made j hj]
    by_cases e : j = i
    · subst e; rw [PS.set_same, hm]; rfl
    · rw [PS.set_other _ _ _ _ e]
  · rw [Array.getElem?_setIfInBounds]
    by_cases e : i = j
    · subst e; rw [if_pos rfl, if_pos (by omega), PS.set_same]; rfl
    · rw [if_neg (by omega), PS.set_other _ _ _ _ (fun q => e q.symm)]; exact h.txt j hj
theorem RpR.both {row : Array Value} {S : PS} (h : RpR row S) {i : Nat} {o : Option (List UInt8)} (hi : i < 16) : RpR ((row.setIfInBounds i (.bool o.isSome)).setIfInBounds (16 + i) (tx (o.getD []))) (S.set i o) := by
  have hs := h.size
  refine ⟨by rw [Array.size_setIfInBounds, Array.size_setIfInBounds]; exact hs, fun j hj => ?_, fun j hj => ?_⟩
  · rw [Array.getElem?_setIfInBounds, if_neg (by omega), Array.getElem?_setIfInBounds]
    by_cases e : i = j
    · subst e; rw [if_pos rfl, if_pos (by omega), PS.set_same]
    · rw [if_neg e, PS.set_other _ _ _ _ (fun q => e q.symm)]; exact h.made j hj
  · rw [Array.getElem?_setIfInBounds]
    by_cases e : i = j
    · subst e; rw [if_pos rfl, if_pos (by rw [Array.size_setIfInBounds]; omega), PS.set_same]
    · rw [if_neg (by omega), Array.getElem?_setIfInBounds, if_neg (by omega), PS.set_other _ _ _ _ (fun q => e q.symm)]; exact h.txt j hj
/-- Block b holds this row of the reference. -/
def RB (w : World) (b : Nat) (row : Array Value) : Prop := w.heap[b]? = some (.cells row 29)
section
variable {w w' : World} {b : Nat} {row : Array Value}
theorem RB.lt (h : RB w b row) : b < w.heap.size := lt_of_heap h
theorem RB.keep (h : RB w b row) (hb : w'.heap[b]? = w.heap[b]?) : RB w' b row := hb.trans h
theorem RB.below (h : RB w b row) (hb : Below w.heap.size w w') : RB w' b row := h.keep (hb.block _ h.lt)
theorem RB.drew (h : RB w b row) : RB w.drew b row := h
theorem RB.cell (h : RB w b row) (i : Nat) : w.cell? ⟨b, i, none⟩ = row[i]? := cell_of_heap h
theorem RB.free (h : RB w b row) (i : Nat) : w.frozen? ⟨b, i, none⟩ = false := frozen_of_heap h
theorem RB.set (h : RB w b row) (i : Nat) (v : Value) : RB (w.setCell ⟨b, i, none⟩ v) b (row.setIfInBounds i v) := by
  unfold RB at *
  rw [setCell_eq_setRow w b i _ _ _ _ h, setRow_heap w b _ _ _ _ h]
end
/-- Block b holds the reference's pipes S. -/
def RpAt (w : World) (b : Nat) (S : PS) : Prop := ∃ row, RB w b row ∧ RpR row S
section
variable {w w' : World} {b : Nat} {S : PS}
theorem RpAt.lt (h : RpAt w b S) : b < w.heap.size := by
  obtain ⟨row, hr, _⟩ := h
  exact hr.lt
theorem RpAt.keep (h : RpAt w b S) (hb : w'.heap[b]? = w.heap[b]?) : RpAt w' b S := by
  obtain ⟨row, hr, h1⟩ := h
  exact ⟨row, hr.keep hb, h1⟩
theorem RpAt.below (h : RpAt w b S) (hb : Below w.heap.size w w') : RpAt w' b S := h.keep (hb.block _ h.lt)
theorem RpAt.ne {c : Nat} {T : PS} (h : RpAt w b S) (hc : PpAt w c T) : b ≠ c := by
  obtain ⟨row, hr, _⟩ := h
  obtain ⟨row2, hp, _⟩ := hc
  intro e
  unfold RB at hr
  unfold PB at hp
  rw [e, hp] at hr
  simp only [Option.some.injEq, Obj.cells.injEq] at hr
  exact absurd hr.2.1 (by decide)
end
theorem cut_from (l : List UInt8) (k : Nat) (h : k ≤ l.length) (w : World) : (Instr.slice 9 (tx l) (some (.int .i64 k)) none none).run Try.prog w = .ok (tx (l.drop k)) w := by
  rw [run_slice_string_from_if w _ _ _ _ Try.underlying9, if_pos (by simp [ByteArray.size]; omega), ByteArray.extract_mk]
  have : (ByteArray.mk l.toArray).size = l.length := by simp [ByteArray.size]
  rw [this, List.take_of_length_le (by simp)]
  simp
theorem xhas_at (b : Nat) (S : PS) (n : Int) (w : World) (h : RpAt w b S) :
    Calls Try.prog 27 #[.pointer (some ⟨b, 0, none⟩), .int .i64 n] w fun x w' => x = .returned (.bool (has S n)) ∧ w' = w := by
  obtain ⟨row, hP, hR⟩ := h
  cases hh : has S n with
  | false =>
    rcases has_no hh with hc | hc | ⟨i, rfl, hi, hs⟩
    · have g0 : decide (0 ≤ n) = false := decide_eq_false (by omega)
      clear hP hR hh
      go_enter Try.func27, Try.ntmps27
      go_wp2
      go_ret
      exact ⟨rfl, rfl⟩
    · have g0 : decide (0 ≤ n) = true := decide_eq_true (by omega)
      have g1 : decide (n < 16) = false := decide_eq_false (by omega)
      clear hP hR hh
      go_enter Try.func27, Try.ntmps27
      go_wp2
      go_ret
      exact ⟨rfl, rfl⟩
    · have g0 : decide (0 ≤ (i : Int)) = true := decide_eq_true (by omega)
      have g1 : decide ((i : Int) < 16) = true := decide_eq_true (by omega)
      have hii : (i : Int) < 16 := by omega
      have c0 := (hP.cell i).trans (hR.made i hi)
      rw [hs] at c0
      dsimp only [Option.isSome] at c0
      clear hP hR hs hh
      go_enter Try.func27, Try.ntmps27
      go_wp2
      go_ret
      exact ⟨rfl, rfl⟩
  | true =>
    obtain ⟨i, l, rfl, hi, hs⟩ := has_nat hh
    have g0 : decide (0 ≤ (i : Int)) = true := decide_eq_true (by omega)
    have g1 : decide ((i : Int) < 16) = true := decide_eq_true (by omega)
    have hii : (i : Int) < 16 := by omega
    have c0 := (hP.cell i).trans (hR.made i hi)
    rw [hs] at c0
    dsimp only [Option.isSome] at c0
    clear hP hR hs hh
    go_enter Try.func27, Try.ntmps27
    go_wp2
    go_ret
    exact ⟨rfl, rfl⟩
set_option maxHeartbeats 2000000 in
theorem xmake_at (b : Nat) (S : PS) (w : World) (h : RpAt w b S) :
    Calls Try.prog 10 #[.pointer (some ⟨b, 0, none⟩)] w fun x w' => x = .returned (.tuple #[.int .i64 (mkI S), .int .i64 (mkE S)]) ∧ RpAt w' b (mkS S) ∧ Upd b w w' := by
  obtain ⟨row, hP, hR⟩ := h
  have HP : Hid (RB w b row) := hP
  have HR : Hid (RpR row S) := hR
  clear hP hR
  go_enter Try.func10, Try.ntmps10
  go_wp2
  go_loopw [4] (fun s wr => ∃ (k : Nat), k ≤ 16 ∧ s = .int .i64 k ∧ free S = lowF S k (16 - k) ∧ wr = w) (fun s _ => 16 - (intOf s).toNat)
  case atStart => exact ⟨0, by omega, rfl, rfl, rfl⟩
  case round =>
    obtain ⟨k, hk, rfl, hf, hw⟩ := hrel
    subst hw
    have HF : Hid (free S = lowF S k (16 - k)) := hf
    clear hf
    by_cases hlt : k < 16
    · have i1 : decide ((k : Int) < 16) = true := decide_eq_true (by omega)
      have hki : (k : Int) < 16 := by omega
      have c0 := (HP.out.cell k).trans (HR.out.made k hlt)
      have f0 := HP.out.free k
      have c1 := (HP.out.cell (16 + k)).trans (HR.out.txt k hlt)
      have f1 := HP.out.free (16 + k)
      have h16 : 16 - k = (16 - (k + 1)) + 1 := by omega
      rw [h16] at HF
      clear h16
      cases hs : S k with
      | none =>
        rw [hs] at c0 c1
        dsimp only [Option.isSome, Option.getD] at c0 c1
        have HFk : Hid (free S = k) := HF.out.trans (lowF_here hs)
        have HR2 : Hid (RpR ((row.setIfInBounds k (.bool true)).setIfInBounds (16 + k) (tx [])) (S.set k (some []))) := HR.out.both (o := some []) hlt
        have c0' : wr.drew.cell? ⟨b, k, none⟩ = some (.bool false) := c0
        have c1' : wr.drew.cell? ⟨b, 16 + k, none⟩ = some (tx []) := c1
        have f0' : wr.drew.frozen? ⟨b, k, none⟩ = false := f0
        have f1' : wr.drew.frozen? ⟨b, 16 + k, none⟩ = false := f1
        have hnn : k ≠ 16 + k := by omega
        clear hs HF
        go_wp2_with fail
        go_region
        all_goals
          go_wp2
          go_ret2
          refine ⟨?_, ⟨_, RB.set (RB.set (RB.drew HP.out) _ _) _ _, ?_⟩, ((Upd.drew b _).trans (Upd.setCell _ _ _ _)).trans (Upd.setCell _ _ _ _)⟩
          · unfold mkI mkE
            rw [HFk.out, if_pos hlt, if_pos hlt]
            rfl
          · unfold mkS
            rw [HFk.out, if_pos hlt]
            exact HR2.out
      | some l =>
        rw [hs] at c0
        dsimp only [Option.isSome] at c0
        have HF2 : Hid (free S = lowF S (k + 1) (16 - (k + 1))) := HF.out.trans (lowF_next hs)
        clear hs HF c1
        go_wp2
        go_roundw
        case rel => exact ⟨k + 1, by omega, by go_num, HF2.out, by first | rfl | trivial⟩
        case measure => simp [intOf]; omega
    · have i1 : decide ((k : Int) < 16) = false := decide_eq_false (by omega)
      have HFk : Hid (¬ free S < 16) := by
        show ¬ _
        rw [HF.out, show 16 - k = 0 by omega]
        unfold lowF
        omega
      clear HF
      go_wp2
      go_ret2
      refine ⟨?_, ?_, Upd.refl _ _⟩
      · unfold mkI mkE
        rw [if_neg HFk.out, if_neg HFk.out]
        rfl
      · unfold mkS
        rw [if_neg HFk.out]
        exact ⟨row, HP.out, HR.out⟩
set_option maxHeartbeats 2000000 in
theorem xput_at (b : Nat) (S : PS) (n : Int) (s : List UInt8) (w : World) (h : RpAt w b S) (hF : Fit8 S) (hs9 : s.length ≤ 9223372036854775807) :
    Calls Try.prog 12 #[.pointer (some ⟨b, 0, none⟩), .int .i64 n, tx s] w fun x w' => x = .returned (.int .i64 (puI S n s)) ∧ RpAt w' b (puS S n s) ∧ Upd b w w' := by
  have hH := xhas_at b S n w h
  cases hh : has S n with
  | false =>
    have HH : Hid (RpAt w b S) := h
    have HI : Hid (puI S n s = 0) := by show _ = _; unfold puI; rw [hh]; rfl
    have HS : Hid (puS S n s = S) := by show _ = _; unfold puS; rw [hh]; rfl
    rw [hh] at hH
    clear h hh hF
    go_enter Try.func12, Try.ntmps12
    go_wp2_with fail
    refine hH.mono ?_
    rintro x w1 ⟨rfl, hw⟩
    rw [hw]
    clear hw w1 hH
    go_wp2
    go_ret
    exact ⟨by rw [HI.out]; rfl, by rw [HS.out]; exact HH.out, Upd.refl _ _⟩
  | true =>
    obtain ⟨i, l, rfl, hi, hl⟩ := has_nat hh
    have hl8 := hF i l hi hl
    obtain ⟨row, hP, hR⟩ := h
    have HI : Hid (puI S i s = (putN l s : Int)) := by show _ = _; unfold puI; rw [if_pos hh, inn_of hi hl]
    have HS : Hid (puS S i s = S.set i (some (putL l s))) := by show _ = _; unfold puS; rw [if_pos hh, inn_of hi hl, Int.toNat_natCast]
    have HR2 : Hid (RpR (row.setIfInBounds (16 + i) (tx (putL l s))) (S.set i (some (putL l s)))) := hR.put hi (by rw [hl]; rfl)
    have hPL : putL l s = l ++ s.take (putN l s) := by
      unfold putL putN
      rw [List.append_cancel_left_eq]
      rcases Nat.le_total s.length (8 - l.length) with q | q
      · rw [Nat.min_eq_left q, List.take_of_length_le q, List.take_length]
      · rw [Nat.min_eq_right q]
    have c0 := (hP.cell (16 + i)).trans (hR.txt i hi)
    have f0 := hP.free (16 + i)
    rw [hl] at c0
    dsimp only [Option.getD] at c0
    have c0' : w.drew.cell? ⟨b, 16 + i, none⟩ = some (tx l) := c0
    have f0' : w.drew.frozen? ⟨b, 16 + i, none⟩ = false := f0
    have hii : (i : Int) < 16 := by omega
    have hsz : (ByteArray.mk s.toArray).size = s.length := by simp [ByteArray.size]
    have hszl : (ByteArray.mk l.toArray).size = l.length := by simp [ByteArray.size]
    have hN : min (s.length : Int) (8 - (l.length : Int)) = (putN l s : Int) := by unfold putN; omega
    have hwl : IntKind.i64.wrap (8 - (l.length : Int)) = 8 - (l.length : Int) := by simp [IntKind.wrap, IntKind.bits, IntKind.signed]; omega
    have hns : putN l s ≤ s.length := by unfold putN; omega
    have hn8 : putN l s ≤ 8 := by unfold putN; omega
    have hcut := cut_to s (putN l s) hns
    have hgl := glue l (s.take (putN l s))
    rw [← hPL] at hgl
    have hXl : (s.take (putN l s)).length = putN l s := by rw [List.length_take]; omega
    have hno : ¬ 9223372036854775807 < l.length + (s.take (putN l s)).length := by rw [hXl]; omega
    have HP : Hid (RB w b row) := hP
    rw [hh] at hH
    generalize putL l s = Z at *
    generalize putN l s = m at *
    generalize s.take m = X at *
    clear hP hR hh hl hPL hF hXl
    go_enter Try.func12, Try.ntmps12
    go_wp2_with fail
    refine hH.mono ?_
    rintro x w1 ⟨rfl, hw⟩
    rw [hw]
    clear hw w1 hH
    go_wp2_with fail
    go_region
    all_goals
      go_wp2
      go_ret
      exact ⟨by rw [HI.out]; rfl, by rw [HS.out]; exact ⟨_, RB.set (RB.drew HP.out) _ _, HR2.out⟩, (Upd.drew b _).trans (Upd.setCell _ _ _ _)⟩
set_option maxHeartbeats 2000000 in
theorem xtake_at (b : Nat) (S : PS) (n k : Int) (w : World) (h : RpAt w b S) :
    Calls Try.prog 14 #[.pointer (some ⟨b, 0, none⟩), .int .i64 n, .int .i64 k] w fun x w' => x = .returned (tx (taT S n k)) ∧ RpAt w' b (taS S n k) ∧ Upd b w w' := by
  have hH := xhas_at b S n w h
  cases hh : has S n with
  | false =>
    have HH : Hid (RpAt w b S) := h
    have HI : Hid (taT S n k = []) := by show _ = _; unfold taT; rw [inn_no hh]; exact List.take_nil
    have HS : Hid (taS S n k = S) := by show _ = _; unfold taS; rw [hh]; rfl
    rw [hh] at hH
    clear h hh
    go_enter Try.func14, Try.ntmps14
    go_wp2_with fail
    refine hH.mono ?_
    rintro x w1 ⟨rfl, hw⟩
    rw [hw]
    clear hw w1 hH
    go_wp2
    go_ret
    exact ⟨by rw [HI.out]; rfl, by rw [HS.out]; exact HH.out, Upd.refl _ _⟩
  | true =>
    obtain ⟨i, l, rfl, hi, hl⟩ := has_nat hh
    obtain ⟨row, hP, hR⟩ := h
    have HI : Hid (taT S i k = l.take (tk l k)) := by show _ = _; unfold taT; rw [inn_of hi hl]
    have HS : Hid (taS S i k = S.set i (some (l.drop (tk l k)))) := by show _ = _; unfold taS; rw [if_pos hh, inn_of hi hl, Int.toNat_natCast]
    have HR2 : Hid (RpR (row.setIfInBounds (16 + i) (tx (l.drop (tk l k)))) (S.set i (some (l.drop (tk l k))))) := hR.put hi (by rw [hl]; rfl)
    have c0 := (hP.cell (16 + i)).trans (hR.txt i hi)
    have f0 := hP.free (16 + i)
    rw [hl] at c0
    dsimp only [Option.getD] at c0
    have c0' : w.drew.cell? ⟨b, 16 + i, none⟩ = some (tx l) := c0
    have f0' : w.drew.frozen? ⟨b, 16 + i, none⟩ = false := f0
    have hii : (i : Int) < 16 := by omega
    have hszl : (ByteArray.mk l.toArray).size = l.length := by simp [ByteArray.size]
    have hN : max 0 (min k (l.length : Int)) = (tk l k : Int) := by unfold tk; omega
    have hcut := cut_to l (tk l k) (tk_le l k)
    have hcut2 := cut_from l (tk l k) (tk_le l k)
    have HP : Hid (RB w b row) := hP
    rw [hh] at hH
    generalize tk l k = m at *
    generalize l.drop m = Y at *
    generalize l.take m = X at *
    clear hP hR hh hl
    go_enter Try.func14, Try.ntmps14
    go_wp2_with fail
    refine hH.mono ?_
    rintro x w1 ⟨rfl, hw⟩
    rw [hw]
    clear hw w1 hH
    go_wp2_with fail
    go_region
    all_goals
      go_wp2
      go_ret
      exact ⟨by rw [HI.out]; rfl, by rw [HS.out]; exact ⟨_, RB.set (RB.drew HP.out) _ _, HR2.out⟩, (Upd.drew b _).trans (Upd.setCell _ _ _ _)⟩
theorem xlen_at (b : Nat) (S : PS) (n : Int) (w : World) (h : RpAt w b S) :
    Calls Try.prog 20 #[.pointer (some ⟨b, 0, none⟩), .int .i64 n] w fun x w' => x = .returned (.int .i64 ((inn S n).length : Nat)) ∧ w' = w := by
  have hH := xhas_at b S n w h
  cases hh : has S n with
  | false =>
    have HI : Hid (inn S n = []) := inn_no hh
    rw [hh] at hH
    clear h hh
    go_enter Try.func20, Try.ntmps20
    go_wp2_with fail
    refine hH.mono ?_
    rintro x w1 ⟨rfl, hw⟩
    rw [hw]
    clear hw w1 hH
    go_wp2
    go_ret
    exact ⟨by rw [HI.out]; rfl, rfl⟩
  | true =>
    obtain ⟨i, l, rfl, hi, hl⟩ := has_nat hh
    obtain ⟨row, hP, hR⟩ := h
    have HI : Hid (inn S i = l) := inn_of hi hl
    have c0 := (hP.cell (16 + i)).trans (hR.txt i hi)
    rw [hl] at c0
    dsimp only [Option.getD] at c0
    have hii : (i : Int) < 16 := by omega
    have hszl : (ByteArray.mk l.toArray).size = l.length := by simp [ByteArray.size]
    rw [hh] at hH
    clear hP hR hh hl
    go_enter Try.func20, Try.ntmps20
    go_wp2_with fail
    refine hH.mono ?_
    rintro x w1 ⟨rfl, hw⟩
    rw [hw]
    clear hw w1 hH
    go_wp2
    go_ret
    exact ⟨by rw [HI.out]; first | rfl | simp, rfl⟩
set_option maxHeartbeats 2000000 in
theorem xdrop_at (b : Nat) (S : PS) (n : Int) (w : World) (h : RpAt w b S) :
    Calls Try.prog 16 #[.pointer (some ⟨b, 0, none⟩), .int .i64 n] w fun x w' => x = .returned (.int .i64 (drE S n)) ∧ RpAt w' b (drS S n) ∧ Upd b w w' := by
  have hH := xhas_at b S n w h
  cases hh : has S n with
  | false =>
    have HH : Hid (RpAt w b S) := h
    have HI : Hid (drE S n = 106) := by show _ = _; unfold drE; rw [hh]; rfl
    have HS : Hid (drS S n = S) := by show _ = _; unfold drS; rw [hh]; rfl
    rw [hh] at hH
    clear h hh
    go_enter Try.func16, Try.ntmps16
    go_wp2_with fail
    refine hH.mono ?_
    rintro x w1 ⟨rfl, hw⟩
    rw [hw]
    clear hw w1 hH
    go_wp2
    go_ret
    exact ⟨by rw [HI.out]; rfl, by rw [HS.out]; exact HH.out, Upd.refl _ _⟩
  | true =>
    obtain ⟨i, l, rfl, hi, hl⟩ := has_nat hh
    obtain ⟨row, hP, hR⟩ := h
    have HI : Hid (drE S i = 0) := by show _ = _; unfold drE; rw [if_pos hh]
    have HS : Hid (drS S i = S.set i none) := by show _ = _; unfold drS; rw [if_pos hh, Int.toNat_natCast]
    have HR2 : Hid (RpR ((row.setIfInBounds i (.bool false)).setIfInBounds (16 + i) (tx [])) (S.set i none)) := hR.both (o := none) hi
    have c0 := (hP.cell i).trans (hR.made i hi)
    have f0 := hP.free i
    have c1 := (hP.cell (16 + i)).trans (hR.txt i hi)
    have f1 := hP.free (16 + i)
    have c0' : w.drew.cell? ⟨b, i, none⟩ = _ := c0
    have c1' : w.drew.cell? ⟨b, 16 + i, none⟩ = _ := c1
    have f0' : w.drew.frozen? ⟨b, i, none⟩ = false := f0
    have f1' : w.drew.frozen? ⟨b, 16 + i, none⟩ = false := f1
    have hnn : i ≠ 16 + i := by omega
    have hii : (i : Int) < 16 := by omega
    have HP : Hid (RB w b row) := hP
    rw [hh] at hH
    clear hP hR hh hl
    go_enter Try.func16, Try.ntmps16
    go_wp2_with fail
    refine hH.mono ?_
    rintro x w1 ⟨rfl, hw⟩
    rw [hw]
    clear hw w1 hH
    go_wp2_with fail
    go_region
    all_goals
      go_wp2
      go_ret
      exact ⟨by rw [HI.out]; rfl, by rw [HS.out]; exact ⟨_, RB.set (RB.set (RB.drew HP.out) _ _) _ _, HR2.out⟩, ((Upd.drew b _).trans (Upd.setCell _ _ _ _)).trans (Upd.setCell _ _ _ _)⟩
end Go.Proofs.Ytpnmaoinnmmfdaa
