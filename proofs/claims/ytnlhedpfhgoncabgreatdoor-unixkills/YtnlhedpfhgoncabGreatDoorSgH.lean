/- Package signals: Fork. -/
import Derived.Test.YtnlhedpfhgoncabGreatDoorSgDTSgG
import Derived.Laws.Tables
import Derived.LaidEqlPtr
set_option linter.all false
namespace Go.Proofs.YtnlhedpfhgoncabGreatDoor
open Go.RowKit
namespace Ow
end Ow
namespace Sg
open Ow
theorem procInfo : ∃ j, Tryz.prog.info? 135 = some j ∧ j.size ≠ 0 := by
  obtain ⟨j, hj, hs⟩ := Option.map_eq_some_iff.1 procSize
  exact ⟨j, hj, by omega⟩
theorem ptrs_ne {w : World} {b : Nat} {row : Array Value} (hB : SB w b row) (x y : Nat) (h : x ≠ y) : (binOp .eql 129 (.pointer (some ⟨b, x, none⟩)) (.pointer (some ⟨b, y, none⟩))).run Tryz.prog w = .ok (.bool false) w := by
  obtain ⟨j, hj, hs⟩ := procInfo
  exact run_eql_ptr_other w Tryz.underlying129 hj hs (fun e => h (congrArg Addr.off e)) hB hB
theorem ptrs_eq (b x : Nat) (w : World) : (binOp .eql 129 (.pointer (some ⟨b, x, none⟩)) (.pointer (some ⟨b, x, none⟩))).run Tryz.prog w = .ok (.bool true) w := by
  obtain ⟨j, hj, hs⟩ := procInfo
  exact run_eql_ptr_same w _ Tryz.underlying129 hj
theorem list15 (h : List Value) (hl : h.length = 15) : ∃ a0 a1 a2 a3 a4 a5 a6 a7 a8 a9 a10 a11 a12 a13 a14, h = [a0, a1, a2, a3, a4, a5, a6, a7, a8, a9, a10, a11, a12, a13, a14] := by
  match h, hl with
  | [a0, a1, a2, a3, a4, a5, a6, a7, a8, a9, a10, a11, a12, a13, a14], _ => exact ⟨a0, a1, a2, a3, a4, a5, a6, a7, a8, a9, a10, a11, a12, a13, a14, rfl⟩
theorem built15 (a0 a1 a2 a3 a4 a5 a6 a7 a8 a9 a10 a11 a12 a13 a14 : Value) (kb : Bool) (pc : Int) (a : Option Addr) (n c : Nat) : Tryz.prog.built 135 [(0, Value.agg #[a0, a1, a2, a3, a4, a5, a6, a7, a8, a9, a10, a11, a12, a13, a14]), (2, Value.bool kb), (3, Value.agg #[Value.int .i64 pc, Value.slice a n c])] = some #[a0, a1, a2, a3, a4, a5, a6, a7, a8, a9, a10, a11, a12, a13, a14, Value.int .u64 0, Value.bool kb, Value.int .i64 pc, Value.slice a n c] := by kernel_rfl
theorem built_proc (h : List Value) (hl : h.length = 15) (kb : Bool) (pc : Int) (a : Option Addr) (n c : Nat) : Tryz.prog.built 135 [(0, Value.agg h.toArray), (2, Value.bool kb), (3, Value.agg #[Value.int .i64 pc, Value.slice a n c])] = some (h ++ [Value.int .u64 0, Value.bool kb, Value.int .i64 pc, Value.slice a n c]).toArray := by
  obtain ⟨a0, a1, a2, a3, a4, a5, a6, a7, a8, a9, a10, a11, a12, a13, a14, rfl⟩ := list15 h hl
  exact built15 a0 a1 a2 a3 a4 a5 a6 a7 a8 a9 a10 a11 a12 a13 a14 kb pc a n c
theorem Sg.Ok.st32 {p : Sg} (h : p.Ok) : p.st.length ≤ 32 := by
  unfold Sg.st
  cases hk : p.k with
  | none => exact Nat.zero_le _
  | some z => exact (h.vm z.1 z.2 hk).2.2.1
theorem yieldsIf_build {P : Program} {ops : Array Oper} {S : World → Prop} {op : Oper} {a : Act} (hw : Region.wanted op (yielded ops a.tmps) = true) (t : TypeId) (parts : Array (Nat × Operand)) (ho : op.op = .build t parts) (cells : Array Value)
    (hb : P.built t (parts.map fun (i, x) => (i, a.eval x)).toList = some cells) : YieldsIf P ops S op (.agg cells) a :=
  .inl ⟨hw, fun w _ => by
    have := run_build (P := P) w t (parts.map fun (i, x) => (i, a.eval x)) cells hb
    unfold execOp
    simp only [ho, Sem.run_bind, this, Sem.run_pure, Result.andThen_ok]⟩
/-- The cells of a forked process. -/
def fkRow (p : Sg) (sl : Value) : List Value := hvs p ++ [.int .u64 0, .bool p.k.isSome, .int .i64 p.pc, sl]
theorem fkRow_len (p : Sg) (sl : Value) : (fkRow p sl).length = 19 := by simp [fkRow, hvs_len]
theorem fkRow_one (p : Sg) (a : Option Addr) (n c : Nat) : ((fkRow p (.slice a n c)).toArray).all (·.oneCell') = true := by
  refine all_oneCell_toArray (fun v hv => ?_)
  simp only [fkRow, hvs, List.mem_append, List.mem_map, List.mem_cons, List.not_mem_nil, or_false] at hv
  rcases hv with ⟨j, _, rfl⟩ | rfl | rfl | rfl | rfl <;> rfl
theorem fkRow_R {w : World} {row : Array Value} {o c : Nat} {p : Sg} {a : Option Addr} (h : o + 19 ≤ row.size) (h1 : ∀ j, j < 19 → row[o + j]? = (fkRow p (.slice a p.st.length c))[j]?) (hc : p.st.length ≤ c) (hT : TRd w a p.st) : SgR w row o ⟨p.h, 0, p.k⟩ := by
  have hl := hvs_len p
  have ht : ∀ i, (fkRow p (.slice a p.st.length c))[15 + i]? = [Value.int .u64 0, .bool p.k.isSome, .int .i64 p.pc, .slice a p.st.length c][i]? := fun i => by
    unfold fkRow
    rw [List.getElem?_append_right (by omega), hl]
    congr 1
    omega
  refine ⟨h, fun j hj => ?_, ?_, ?_, ?_, a, c, ?_, hc, hT⟩
  · rw [h1 j (by omega)]
    unfold fkRow
    rw [List.getElem?_append_left (by omega), hvs_get p j hj]
  · rw [h1 15 (by omega)]; exact ht 0
  · rw [h1 16 (by omega)]; exact ht 1
  · rw [h1 17 (by omega)]; exact ht 2
  · rw [h1 18 (by omega)]; exact ht 3
set_option maxRecDepth 100000 in
set_option maxHeartbeats 2000000 in
theorem fork_at (b : Nat) (S : SS) (pid child : Int) (w : World) (h : SgAt w b S) (hok : SOk S) :
    Calls Tryz.prog 102 #[.pointer (some ⟨b, 0, none⟩), .int .i64 pid, .int .i64 child] w fun e w' => e = .returned (.tuple #[]) ∧ SgAt w' b (fkS S pid child) ∧ Upd b w w' := by
  have HH : Hid (SgAt w b S) := h
  cases hp : isP pid with
  | false =>
    have hP := process_no b pid w hp
    have HS : Hid (fkS S pid child = S) := by show _ = _; unfold fkS; rw [hp]; rfl
    have hQ : ∃ q, Calls Tryz.prog 61 #[.pointer (some ⟨b, 0, none⟩), .int .i64 child] w fun x w' => x = .returned (.pointer q) ∧ w' = w := by
      cases hc : isP child with
      | false => exact ⟨_, process_no b child w hc⟩
      | true => obtain ⟨j, rfl, hj⟩ := isP_nat hc; exact ⟨_, process_yes b j w hj⟩
    obtain ⟨q, hQ⟩ := hQ
    clear h hp
    go_enter Tryz.func102, Tryz.ntmps102
    go_wp2_with fail
    refine hP.mono ?_
    rintro e w1 ⟨rfl, hw⟩
    rw [hw]
    clear hw w1 hP
    go_wp2_with fail
    refine hQ.mono ?_
    rintro e w1 ⟨rfl, hw⟩
    rw [hw]
    clear hw w1 hQ
    go_wp2
    refine bodyPost_ret (results_none rfl _ _ _) rfl ?_
    exact ⟨rfl, by rw [HS.out]; exact HH.out, Upd.refl _ _⟩
  | true =>
    obtain ⟨i, rfl, hi⟩ := isP_nat hp
    have hP := process_yes b i w hi
    have hnn := pptr_eq b (i * 19)
    cases hc : isP child with
    | false =>
      have hQ := process_no b child w hc
      have HS : Hid (fkS S ((i : Int) + 1) child = S) := by show _ = _; unfold fkS; rw [hp, hc]; rfl
      clear h hp hc
      go_enter Tryz.func102, Tryz.ntmps102
      go_wp2_with fail
      refine hP.mono ?_
      rintro e w1 ⟨rfl, hw⟩
      rw [hw]
      clear hw w1 hP
      go_wp2_with fail
      refine hQ.mono ?_
      rintro e w1 ⟨rfl, hw⟩
      rw [hw]
      clear hw w1 hQ
      go_wp2
      refine bodyPost_ret (results_none rfl _ _ _) rfl ?_
      exact ⟨rfl, by rw [HS.out]; exact HH.out, Upd.refl _ _⟩
    | true =>
      obtain ⟨j, rfl, hj⟩ := isP_nat hc
      have hQ := process_yes b j w hj
      have hnj := pptr_eq b (j * 19)
      by_cases hij : i = j
      · have HS : Hid (fkS S ((i : Int) + 1) ((j : Int) + 1) = S) := by show _ = _; unfold fkS; rw [hij]; simp
        have heq : (binOp .eql 129 (.pointer (some ⟨b, i * 19, none⟩)) (.pointer (some ⟨b, j * 19, none⟩))).run Tryz.prog w = .ok (.bool true) w := by rw [hij]; exact ptrs_eq _ _ _
        clear h hp hc hij
        go_enter Tryz.func102, Tryz.ntmps102
        go_wp2_with fail
        refine hP.mono ?_
        rintro e w1 ⟨rfl, hw⟩
        rw [hw]
        clear hw w1 hP
        go_wp2_with fail
        refine hQ.mono ?_
        rintro e w1 ⟨rfl, hw⟩
        rw [hw]
        clear hw w1 hQ
        go_wp2
        refine bodyPost_ret (results_none rfl _ _ _) rfl ?_
        exact ⟨rfl, by rw [HS.out]; exact HH.out, Upd.refl _ _⟩
      · have HS : Hid (fkS S ((i : Int) + 1) ((j : Int) + 1) = S.set j ⟨(S i).h, 0, (S i).k⟩) := by
          show _ = _
          unfold fkS
          rw [hp, hc, bne_iff_ne.2 (show ((i : Int) + 1) ≠ (j : Int) + 1 by omega), if_pos (by rfl), show ((i : Int) + 1 - 1).toNat = i by omega, show ((j : Int) + 1 - 1).toNat = j by omega]
        obtain ⟨row, hB, hR⟩ := h
        have heq := ptrs_ne hB (i * 19) (j * 19) (by omega)
        have hRi := hR.at' i hi
        obtain ⟨a, c, e18, hcc, hT⟩ := hRi.stk
        have HBl : Hid (∀ w', SB w' b row → w'.rangeAt b (i * 19) (hvs (S i)) ∧ w'.cell? ⟨b, i * 19 + 16, none⟩ = some (.bool (S i).k.isSome) ∧ w'.cell? ⟨b, i * 19 + 17, none⟩ = some (.int .i64 (S i).pc) ∧ w'.cell? ⟨b, i * 19 + 18, none⟩ = some (.slice a (S i).st.length c)) :=
          fun w' h' => ⟨fun q v hv => by rw [h'.cell, ← hB.cell]; exact hvs_range hB hRi q v hv, (h'.cell _).trans hRi.inh, (h'.cell _).trans hRi.pc, (h'.cell _).trans e18⟩
        have hC := copyOf_at (S i).pc a (S i).st.length c (S i).st w.drew hT.rd rfl (by have := (hok i hi).st32; omega)
        have HB : Hid (SB w b row) := hB
        have HR : Hid (SgRow w row S) := hR
        have hll : (hvs (S i)).length = 15 := hvs_len _
        have HBt : Hid (∀ a' n' c', Tryz.prog.built 135 [(0, .agg (hvs (S i)).toArray), (2, .bool (S i).k.isSome), (3, .agg #[.int .i64 (S i).pc, .slice a' n' c'])] = some (fkRow (S i) (.slice a' n' c')).toArray) := fun a' n' c' => built_proc _ (hvs_len _) _ _ _ _ _
        have HFin : Hid (∀ w' row' a' c', j * 19 + 19 ≤ Array.size row' → (∀ q, q < 19 → row'[j * 19 + q]? = (fkRow (S i) (.slice a' (S i).st.length c'))[q]?) → (S i).st.length ≤ c' → TRd w' a' (S i).st → SgR w' row' (j * 19) ⟨(S i).h, 0, (S i).k⟩) := fun w' row' a' c' h1 h2 h3 h4 => fkRow_R h1 h2 h3 h4
        have HFl : Hid (∀ sl, (fkRow (S i) sl).length = 19) := fun sl => fkRow_len _ _
        have HFo : Hid (∀ a' c', ((fkRow (S i) (.slice a' (S i).st.length c')).toArray).all (·.oneCell') = true) := fun a' c' => fkRow_one _ _ _ _
        clear hp hc hB hR hRi hT e18 hcc
        go_enter Tryz.func102, Tryz.ntmps102
        go_wp2_with fail
        refine hP.mono ?_
        rintro e w1 ⟨rfl, hw⟩
        rw [hw]
        clear hw w1 hP
        go_wp2_with fail
        refine hQ.mono ?_
        rintro e w1 ⟨rfl, hw⟩
        rw [hw]
        clear hw w1 hQ
        go_wp2_with fail
        generalize hvs (S i) = hs at *
        generalize fkRow (S i) = FR at *
        generalize (S i).k.isSome = kb at *
        generalize (S i).pc = kpc at *
        generalize hkl : (S i).st.length = kl at *
        have HKl : Hid ((S i).st.length = kl) := hkl
        clear hkl
        refine wp_region_held_drew (S := fun w' => w'.rangeAt b (i * 19) hs ∧ w'.cell? ⟨b, i * 19 + 16, none⟩ = some (.bool kb) ∧ w'.cell? ⟨b, i * 19 + 17, none⟩ = some (.int .i64 kpc) ∧ w'.cell? ⟨b, i * 19 + 18, none⟩ = some (.slice a kl c)) (by kernel_rfl) (HBl.out _ (SB.drew HB.out)) (fun hHeld => ?_)
        refine wpAnyH_take (i := 0) (v := ?_) rfl (by kernel_rfl) (by kernel_rfl) (by kernel_rfl) (fun _ _ _ h => h) (Or.inl ⟨by kernel_rfl, ?_⟩) (by assumption) ?_
        rotate_left
        · (intro w hSw; (try dsimp only at hSw); go_simp) <;> with_reducible rfl
        (try simp only [Act.put, List.getElem_toArray, List.getElem_cons_zero, List.setIfInBounds_toArray, List.set_cons_zero, List.set_cons_succ])
        refine wpAnyH_take (i := 1) (v := ?_) rfl (by kernel_rfl) (by kernel_rfl) (by kernel_rfl) (fun _ _ _ h => h) (Or.inl ⟨by kernel_rfl, ?_⟩) (by assumption) ?_
        rotate_left
        · (intro w hSw; (try dsimp only at hSw); go_simp) <;> with_reducible rfl
        (try simp only [Act.put, List.getElem_toArray, List.getElem_cons_zero, List.getElem_cons_succ, List.setIfInBounds_toArray, List.set_cons_zero, List.set_cons_succ])
        refine wpAnyH_take (i := 2) (v := ?_) rfl (by kernel_rfl) (by kernel_rfl) (by kernel_rfl) (fun _ _ _ h => h) (Or.inl ⟨by kernel_rfl, ?_⟩) (by assumption) ?_
        rotate_left
        · (intro w hSw; (try dsimp only at hSw); go_simp) <;> with_reducible rfl
        (try simp only [Act.put, List.getElem_toArray, List.getElem_cons_zero, List.getElem_cons_succ, List.setIfInBounds_toArray, List.set_cons_zero, List.set_cons_succ])
        refine wpAnyH_take (i := 3) (v := ?_) rfl (by kernel_rfl) (by kernel_rfl) (by kernel_rfl) (fun _ _ _ h => h) (Or.inl ⟨by kernel_rfl, ?_⟩) (by assumption) ?_
        rotate_left
        · (intro w hSw; (try dsimp only at hSw); go_simp) <;> with_reducible rfl
        (try simp only [Act.put, List.getElem_toArray, List.getElem_cons_zero, List.getElem_cons_succ, List.setIfInBounds_toArray, List.set_cons_zero, List.set_cons_succ])
        refine wpAnyH_take (i := 4) (v := .agg (hs).toArray) rfl (by kernel_rfl) (by kernel_rfl) (by kernel_rfl) (fun _ _ _ h => h) (yieldsIf_load_mid (by kernel_rfl) 133 _ rfl b (i * 19) rfl (hs) _ (fun _ hS => hS.1) Tryz.underlying133 rfl (by rw [hll]; exact words15)) (by assumption) ?_
        (try simp only [Act.put, List.getElem_toArray, List.getElem_cons_zero, List.getElem_cons_succ, List.setIfInBounds_toArray, List.set_cons_zero, List.set_cons_succ])
        refine wpAnyH_take (i := 5) (v := ?_) rfl (by kernel_rfl) (by kernel_rfl) (by kernel_rfl) (fun _ _ _ h => h) (Or.inl ⟨by kernel_rfl, ?_⟩) (by assumption) ?_
        rotate_left
        · (intro w hSw; (try dsimp only at hSw); go_simp) <;> with_reducible rfl
        (try simp only [Act.put, List.getElem_toArray, List.getElem_cons_zero, List.getElem_cons_succ, List.setIfInBounds_toArray, List.set_cons_zero, List.set_cons_succ])
        refine wpAnyH_take (i := 6) (v := ?_) rfl (by kernel_rfl) (by kernel_rfl) (by kernel_rfl) (fun _ _ _ h => h) (Or.inl ⟨by kernel_rfl, ?_⟩) (by assumption) ?_
        rotate_left
        · (intro w hSw; (try dsimp only at hSw); go_simp) <;> with_reducible rfl
        (try simp only [Act.put, List.getElem_toArray, List.getElem_cons_zero, List.getElem_cons_succ, List.setIfInBounds_toArray, List.set_cons_zero, List.set_cons_succ])
        refine wpAnyH_take (i := 7) (v := ?_) rfl (by kernel_rfl) (by kernel_rfl) (by kernel_rfl) (fun _ _ _ h => h) (Or.inl ⟨by kernel_rfl, ?_⟩) (by assumption) ?_
        rotate_left
        · (intro w hSw; (try dsimp only at hSw); go_simp) <;> with_reducible rfl
        (try simp only [Act.put, List.getElem_toArray, List.getElem_cons_zero, List.getElem_cons_succ, List.setIfInBounds_toArray, List.set_cons_zero, List.set_cons_succ])
        refine wpAnyH_take (i := 8) (v := ?_) rfl (by kernel_rfl) (by kernel_rfl) (by kernel_rfl) (fun _ _ _ h => h) (Or.inl ⟨by kernel_rfl, ?_⟩) (by assumption) ?_
        rotate_left
        · (intro w hSw; (try dsimp only at hSw); go_simp) <;> with_reducible rfl
        (try simp only [Act.put, List.getElem_toArray, List.getElem_cons_zero, List.getElem_cons_succ, List.setIfInBounds_toArray, List.set_cons_zero, List.set_cons_succ])
        refine wpAnyH_take (i := 9) (v := ?_) rfl (by kernel_rfl) (by kernel_rfl) (by kernel_rfl) (fun _ _ _ h => h) (Or.inl ⟨by kernel_rfl, ?_⟩) (by assumption) ?_
        rotate_left
        · (intro w hSw; (try dsimp only at hSw); go_simp) <;> with_reducible rfl
        (try simp only [Act.put, List.getElem_toArray, List.getElem_cons_zero, List.getElem_cons_succ, List.setIfInBounds_toArray, List.set_cons_zero, List.set_cons_succ])
        refine wpAnyH_take (i := 10) (v := ?_) rfl (by kernel_rfl) (by kernel_rfl) (by kernel_rfl) (fun _ _ _ h => h) (Or.inl ⟨by kernel_rfl, ?_⟩) (by assumption) ?_
        rotate_left
        · (intro w hSw; (try dsimp only at hSw); go_simp) <;> with_reducible rfl
        (try simp only [Act.put, List.getElem_toArray, List.getElem_cons_zero, List.getElem_cons_succ, List.setIfInBounds_toArray, List.set_cons_zero, List.set_cons_succ])
        refine wpAnyH_take (i := 11) (v := ?_) rfl (by kernel_rfl) (by kernel_rfl) (by kernel_rfl) (fun _ _ _ h => h) (Or.inl ⟨by kernel_rfl, ?_⟩) (by assumption) ?_
        rotate_left
        · (intro w hSw; (try dsimp only at hSw); go_simp) <;> with_reducible rfl
        (try simp only [Act.put, List.getElem_toArray, List.getElem_cons_zero, List.getElem_cons_succ, List.setIfInBounds_toArray, List.set_cons_zero, List.set_cons_succ])
        refine wpAnyH_take (i := 12) (v := ?_) rfl (by kernel_rfl) (by kernel_rfl) (by kernel_rfl) (fun _ _ _ h => h) (Or.inl ⟨by kernel_rfl, ?_⟩) (by assumption) ?_
        rotate_left
        · (intro w hSw; (try dsimp only at hSw); go_simp) <;> with_reducible rfl
        (try simp only [Act.put, List.getElem_toArray, List.getElem_cons_zero, List.getElem_cons_succ, List.setIfInBounds_toArray, List.set_cons_zero, List.set_cons_succ])
        refine wpAnyH_ready (rs := [13]) (by kernel_rfl) (by simp) ?_
        refine AllReadyH.cons rfl (fun K hK => ?_) AllReadyH.nil
        go_simp
        refine hC.mono ?_
        rintro e w1 ⟨a', c', rfl, hc', hT', hb1⟩
        have HB1 : Hid (SB w1 b row) := (SB.drew HB.out).below hb1
        have HK1 : Hid (KeepW w w1) := (KeepW.below (Below.refl w.heap.size w).drew).trans (KeepW.below hb1)
        have HBw : Hid (Below w.heap.size w w1) := ((Below.refl w.heap.size w).drew).trans (hb1.mono (Nat.le_refl _))
        have HT1 : Hid (TRd w1 a' (S i).st) := hT'
        have HC1 : Hid (kl ≤ c') := hc'
        have hS1 := HBl.out _ HB1.out
        clear hb1 hC hT' hc'
        refine hK.out _ _ hS1 (fun hHeld => ?_)
        clear hK K
        (try simp only [Act.put, List.getElem_toArray, List.getElem_cons_zero, List.getElem_cons_succ, List.setIfInBounds_toArray, List.set_cons_zero, List.set_cons_succ])
        clear hS1
        have hbt := HBt.out a' kl c'
        have hfl := HFl.out (.slice a' kl c')
        have hfo := HFo.out a' c'
        generalize hX : (FR (.slice a' kl c')).toArray = X at *
        have HX : Hid ((FR (.slice a' kl c')).toArray = X) := hX
        have HXs : Hid (X.size = 19) := by show _ = _; rw [← hX, List.size_toArray]; exact hfl
        clear hX
        refine wpAnyH_take (i := 14) (v := .agg X) rfl (by kernel_rfl) (by kernel_rfl) (by kernel_rfl) (fun _ _ _ h => h) (yieldsIf_build (by kernel_rfl) 135 _ rfl X (by rw [← hbt]; go_simp)) (by assumption) ?_
        simp only [Act.put, List.getElem_toArray, List.getElem_cons_zero, List.getElem_cons_succ, List.setIfInBounds_toArray, List.set_cons_zero, List.set_cons_succ]
        clear hbt
        refine wpAnyH_take (i := 15) (v := ?_) rfl (by kernel_rfl) (by kernel_rfl) (by kernel_rfl) (fun _ _ _ h => h) (Or.inl ⟨by kernel_rfl, ?_⟩) (by assumption) ?_
        rotate_left
        · (intro w hSw; (try dsimp only at hSw); go_simp) <;> with_reducible rfl
        (try simp only [Act.put, List.getElem_toArray, List.getElem_cons_zero, List.getElem_cons_succ, List.setIfInBounds_toArray, List.set_cons_zero, List.set_cons_succ])
        refine wpAnyH_ready (rs := [16]) (by kernel_rfl) (by simp) ?_
        refine AllReadyH.cons rfl (fun K hK => ?_) AllReadyH.nil
        refine wp_store_mid 135 _ _ rfl b (j * 19) X rfl rfl (HB1.out.there _ _ (by have := HR.out.size; rw [HXs.out]; omega)) (by rw [HXs.out]; exact procSize) hfo ?_
        have hu := upd_sets b X.toList (j * 19) w1
        have hB2 := HB1.out.sets X.toList (j * 19) _ _
        have hl : X.toList.length = 19 := by rw [Array.length_toList]; exact HXs.out
        have HF : Hid (SgAt (w1.setCells b (j * 19) X.toList) b (S.set j ⟨(S i).h, 0, (S i).k⟩)) := by
          refine ⟨_, hB2, HR.out.put (putA_same (j * 19) row hl) (HFin.out _ _ a' c' ?_ (fun q hq => ?_) HC1.out (HT1.out.kept (HB1.out.kw hu))) (HK1.out.trans (HB1.out.kw hu))⟩
          · rw [putA_size]; have := HR.out.size; omega
          · rw [putA_in _ _ _ q (by omega) (by have := HR.out.size; omega), Array.getElem?_toList, ← HX.out, List.getElem?_toArray]
        have HU : Hid (Upd b w (w1.setCells b (j * 19) X.toList)) := (Upd.of_below HBw.out).trans hu
        have hS2 : (w1.setCells b (j * 19) X.toList).rangeAt b (i * 19) hs ∧ (w1.setCells b (j * 19) X.toList).cell? ⟨b, i * 19 + 16, none⟩ = some (.bool kb) ∧ (w1.setCells b (j * 19) X.toList).cell? ⟨b, i * 19 + 17, none⟩ = some (.int .i64 kpc) ∧ (w1.setCells b (j * 19) X.toList).cell? ⟨b, i * 19 + 18, none⟩ = some (.slice a kl c) := by
          have h1 := HBl.out _ HB1.out
          have hsm := putA_same (j * 19) row hl
          refine ⟨fun q v hv => ?_, ?_, ?_, ?_⟩
          · have hq : q < 15 := by have := (List.getElem?_eq_some_iff.1 hv).1; omega
            rw [hB2.cell, hsm.2 _ (by omega), ← HB1.out.cell]
            exact h1.1 q v hv
          · rw [hB2.cell, hsm.2 _ (by omega), ← HB1.out.cell]; exact h1.2.1
          · rw [hB2.cell, hsm.2 _ (by omega), ← HB1.out.cell]; exact h1.2.2.1
          · rw [hB2.cell, hsm.2 _ (by omega), ← HB1.out.cell]; exact h1.2.2.2
        clear hu hB2 hl
        generalize w1.setCells b (j * 19) X.toList = w2 at *
        refine hK.out _ _ hS2 (fun hHeld => ?_)
        clear hK K
        simp only [Act.put, List.getElem_toArray, List.getElem_cons_zero, List.getElem_cons_succ]
        refine wpAnyH_done (by kernel_rfl) ?_ _
        clear hHeld
        go_wp2
        go_end0
        exact ⟨rfl, by rw [HS.out]; exact HF.out, HU.out⟩
end Sg
end Go.Proofs.YtnlhedpfhgoncabGreatDoor
