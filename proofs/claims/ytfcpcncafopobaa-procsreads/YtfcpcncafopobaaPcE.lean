/- Package procs: appendTo, Encode. -/
import Derived.Test.YtfcpcncafopobaaPcB
import Derived.Deep.RegionHeld3
namespace Go.Proofs.Ytfcpcncafopobaa
open Go.RowKit Go.Lib
set_option linter.unusedVariables false

theorem eq_nil (W : World) : (binOp .eql 70 (.pointer none) (.pointer none)).run Try.prog W = .ok (.bool true) W := by kernel_rfl
theorem appendTo_none (n c : Nat) (a : Option Addr) (D : List Int) (w0 w : World) (ho : w.ownsRow w0.heap.size 76 1 (.slice a n c) D.length (uvs D)) (hn : D.length = n) (h0 : UW w0.heap.size w0 w) (hD : n ≤ 1000) :
    Calls Try.prog 39 #[.pointer none, .slice a n c] w fun x w' => ∃ a' n' c', x = .returned (.slice a' n' c') ∧ n' = (D ++ encP none).length ∧ w'.ownsRow w0.heap.size 76 1 (.slice a' n' c') (D ++ encP none).length (uvs (D ++ encP none)) ∧ UW w0.heap.size w0 w' := by
  obtain ⟨a1, c1, w1, hrun1, hown1, hU1⟩ := app3 ho hn h0.bel.size (by omega) 0 0 0
  have HRun1 : Hid _ := hrun1
  have HE : Hid (n + 3 = (D ++ encP none).length ∧ w1.ownsRow w0.heap.size 76 1 (.slice a1 (n + 3) c1) (D ++ encP none).length (uvs (D ++ encP none)) ∧ UW w0.heap.size w0 w1) := ⟨by rw [List.length_append, hn]; rfl, hown1, h0.trans hU1⟩
  have hq := eq_nil
  clear ho hn h0 hrun1 hown1 hU1
  go_enter Try.func39, Try.ntmps39
  go_wp2_with (at_builtin; refine wpList_append_eq rfl _ _ _ rfl _ _ _ rfl rfl HRun1.out ?_)
  go_ret
  exact ⟨_, _, _, rfl, HE.out⟩
set_option maxRecDepth 100000 in
set_option maxHeartbeats 4000000 in
theorem appendTo_some (n c cc : Nat) (a : Option Addr) (D : List Int) (p : Pr) (w0 w : World) (ho : w.ownsRow w0.heap.size 76 1 (.slice a n c) D.length (uvs D)) (hn : D.length = n) (h0 : UW w0.heap.size w0 w) (hD : n ≤ 1000) (hc : w0.heap[cc]? = some (.cells (prow p) 69)) :
    Calls Try.prog 39 #[ptr cc, .slice a n c] w fun x w' => ∃ a' n' c', x = .returned (.slice a' n' c') ∧ n' = (D ++ encP (some p)).length ∧ w'.ownsRow w0.heap.size 76 1 (.slice a' n' c') (D ++ encP (some p)).length (uvs (D ++ encP (some p))) ∧ UW w0.heap.size w0 w' := by
  obtain ⟨zz, hzz⟩ : ∃ zz : Int, (if p.zom = true then 2 else 1) = zz := ⟨_, rfl⟩
  have hwd : w.drew.ownsRow w0.heap.size 76 1 (.slice a n c) D.length (uvs D) := ho
  have hUd : UW w0.heap.size w0 w.drew := h0.trans (UW.of_below h0.bel.size (Below.refl w.heap.size w).drew)
  obtain ⟨a1, c1, w1, hrun1, hown1, hU1⟩ := app3 hwd hn hUd.bel.size (by omega) zz (IntKind.u64.wrap p.par) (IntKind.u64.wrap p.st)
  have hcw : ∀ V, Below w0.heap.size w0 V → V.cell? ⟨cc, 0, none⟩ = some (.int .i64 p.par) ∧ V.cell? ⟨cc, 1, none⟩ = some (.bool p.zom) ∧ V.cell? ⟨cc, 2, none⟩ = some (.int .i64 p.st) := fun V hb => by
    have := (hb.block cc (lt_of_heap hc)).trans hc
    refine ⟨?_, ?_, ?_⟩ <;> rw [cell_of_heap this] <;> rfl
  obtain ⟨e0, e1, e2⟩ := hcw w h0.bel
  obtain ⟨d0, d1, d2⟩ := hcw w.drew hUd.bel
  have hbA : Below w0.heap.size w0 (w.drew.alloc (.cells #[.int .u64 zz, .int .u64 (IntKind.u64.wrap p.par), .int .u64 (IntKind.u64.wrap p.st)] 76)) := hUd.bel.alloc hUd.bel.size _
  have hs1 : (w.drew.alloc (.cells #[.int .u64 zz, .int .u64 (IntKind.u64.wrap p.par), .int .u64 (IntKind.u64.wrap p.st)] 76)).cell? ⟨cc, 0, none⟩ = some (.int .i64 p.par) ∧ (w.drew.alloc (.cells #[.int .u64 zz, .int .u64 (IntKind.u64.wrap p.par), .int .u64 (IntKind.u64.wrap p.st)] 76)).cell? ⟨cc, 2, none⟩ = some (.int .i64 p.st) := ⟨(hcw _ hbA).1, (hcw _ hbA).2.2⟩
  have hs2 : w1.cell? ⟨cc, 0, none⟩ = some (.int .i64 p.par) ∧ w1.cell? ⟨cc, 2, none⟩ = some (.int .i64 p.st) := ⟨(hcw w1 (hUd.bel.trans hU1.bel)).1, (hcw w1 (hUd.bel.trans hU1.bel)).2.2⟩
  have HRun1 : ∀ ty, (Builtin.append_ #[47, 47] ty #[.slice a n c, .slice (some ⟨w.heap.size, 0, none⟩) 3 3]).run Try.prog (w.drew.alloc (.cells #[.int .u64 zz, .int .u64 (IntKind.u64.wrap p.par), .int .u64 (IntKind.u64.wrap p.st)] 76)) = .ok (.slice a1 (n + 3) c1) w1 := hrun1
  have HE0 : (n + 3 = (D ++ encP (some p)).length ∧ w1.ownsRow w0.heap.size 76 1 (.slice a1 (n + 3) c1) (D ++ encP (some p)).length (uvs (D ++ encP (some p))) ∧ UW w0.heap.size w0 w1) := by
    have e : encP (some p) = [zz, IntKind.u64.wrap p.par, IntKind.u64.wrap p.st] := by
      show [(if p.zom = true then (2 : Int) else 1), IntKind.u64.wrap p.par, IntKind.u64.wrap p.st] = _
      rw [hzz]
    rw [e]
    exact ⟨by rw [List.length_append, hn]; rfl, hown1, hUd.trans hU1⟩
  have HE : Hid _ := HE0
  clear HE0
  have hq := eq_proc cc
  clear ho hn h0 hrun1 hown1 hU1 hwd hUd hc hcw hbA
  obtain ⟨pa, z, s⟩ := p
  dsimp only at *
  go_enter Try.func39, Try.ntmps39
  cases z with
  | false =>
    obtain rfl : (1 : Int) = zz := hzz
    go_upto_region 6 with fail
    refine wp_region_held_drew (S := fun w' => w'.cell? ⟨cc, 0, none⟩ = some (.int .i64 pa) ∧ w'.cell? ⟨cc, 2, none⟩ = some (.int .i64 s)) (by kernel_rfl) ⟨d0, d2⟩ (fun hHeld => ?_)
    refine wpAnyH_take (i := 0) (v := ?_) rfl (by kernel_rfl) (by kernel_rfl) (by kernel_rfl) (fun _ _ _ h => h) (Or.inl ⟨by kernel_rfl, ?_⟩) (by assumption) ?_
    rotate_left
    · (intro w hSw; (try dsimp only at hSw); go_simp) <;> with_reducible rfl
    (try simp only [Act.put, List.getElem_toArray, List.getElem_cons_zero, List.setIfInBounds_toArray, List.set_cons_zero, List.set_cons_succ])
    refine wpAnyH_take (i := 1) (v := ?_) rfl (by kernel_rfl) (by kernel_rfl) (by kernel_rfl) (fun _ _ _ h => h) (Or.inl ⟨by kernel_rfl, ?_⟩) (by assumption) ?_
    rotate_left
    · (intro w hSw; (try dsimp only at hSw); go_simp) <;> with_reducible rfl
    (try simp only [Act.put, List.getElem_toArray, List.getElem_cons_zero, List.getElem_cons_succ, List.setIfInBounds_toArray, List.set_cons_zero, List.set_cons_succ])
    refine wpAnyH_take (i := 2) (v := ?_) rfl (by kernel_rfl) (by kernel_rfl) (by kernel_rfl) (fun _ _ _ h => h) (Or.inl ⟨by kernel_rfl, ?_⟩) (by assumption) ?_
    rotate_left
    · (intro w hSw; (try dsimp only at hSw); go_simp) <;> with_reducible rfl
    (try simp only [Act.put, List.getElem_toArray, List.getElem_cons_zero, List.getElem_cons_succ, List.setIfInBounds_toArray, List.set_cons_zero, List.set_cons_succ])
    refine wpAnyH_take (i := 3) (v := ?_) rfl (by kernel_rfl) (by kernel_rfl) (by kernel_rfl) (fun _ _ _ h => h) (Or.inl ⟨by kernel_rfl, ?_⟩) (by assumption) ?_
    rotate_left
    · (intro w hSw; (try dsimp only at hSw); go_simp) <;> with_reducible rfl
    (try simp only [Act.put, List.getElem_toArray, List.getElem_cons_zero, List.getElem_cons_succ, List.setIfInBounds_toArray, List.set_cons_zero, List.set_cons_succ])
    refine wpAnyH_take (i := 4) (v := ?_) rfl (by kernel_rfl) (by kernel_rfl) (by kernel_rfl) (fun _ _ _ h => h) (Or.inl ⟨by kernel_rfl, ?_⟩) (by assumption) ?_
    rotate_left
    · (intro w hSw; (try dsimp only at hSw); go_simp) <;> with_reducible rfl
    (try simp only [Act.put, List.getElem_toArray, List.getElem_cons_zero, List.getElem_cons_succ, List.setIfInBounds_toArray, List.set_cons_zero, List.set_cons_succ])
    refine wpAnyH_take (i := 5) (v := ?_) rfl (by kernel_rfl) (by kernel_rfl) (by kernel_rfl) (fun _ _ _ h => h) (Or.inl ⟨by kernel_rfl, ?_⟩) (by assumption) ?_
    rotate_left
    · (intro w hSw; (try dsimp only at hSw); go_simp) <;> with_reducible rfl
    (try simp only [Act.put, List.getElem_toArray, List.getElem_cons_zero, List.getElem_cons_succ, List.setIfInBounds_toArray, List.set_cons_zero, List.set_cons_succ])
    refine wpAnyH_take (i := 6) (v := ?_) rfl (by kernel_rfl) (by kernel_rfl) (by kernel_rfl) (fun _ _ _ h => h) (Or.inl ⟨by kernel_rfl, ?_⟩) (by assumption) ?_
    rotate_left
    · (intro w hSw; (try dsimp only at hSw); go_simp) <;> with_reducible rfl
    (try simp only [Act.put, List.getElem_toArray, List.getElem_cons_zero, List.getElem_cons_succ, List.setIfInBounds_toArray, List.set_cons_zero, List.set_cons_succ])
    refine wpAnyH_take (i := 7) (v := ?_) rfl (by kernel_rfl) (by kernel_rfl) (by kernel_rfl) (fun _ _ _ h => h) (Or.inl ⟨by kernel_rfl, ?_⟩) (by assumption) ?_
    rotate_left
    · (intro w hSw; (try dsimp only at hSw); go_simp) <;> with_reducible rfl
    (try simp only [Act.put, List.getElem_toArray, List.getElem_cons_zero, List.getElem_cons_succ, List.setIfInBounds_toArray, List.set_cons_zero, List.set_cons_succ])
    refine wpAnyH_take (i := 8) (v := ?_) rfl (by kernel_rfl) (by kernel_rfl) (by kernel_rfl) (fun _ _ _ h => h) (Or.inl ⟨by kernel_rfl, ?_⟩) (by assumption) ?_
    rotate_left
    · (intro w hSw; (try dsimp only at hSw); go_simp) <;> with_reducible rfl
    (try simp only [Act.put, List.getElem_toArray, List.getElem_cons_zero, List.getElem_cons_succ, List.setIfInBounds_toArray, List.set_cons_zero, List.set_cons_succ])
    refine wpAnyH_take (i := 9) (v := ?_) rfl (by kernel_rfl) (by kernel_rfl) (by kernel_rfl) (fun _ _ _ h => h) (Or.inl ⟨by kernel_rfl, ?_⟩) (by assumption) ?_
    rotate_left
    · (intro w hSw; (try dsimp only at hSw); go_simp) <;> with_reducible rfl
    (try simp only [Act.put, List.getElem_toArray, List.getElem_cons_zero, List.getElem_cons_succ, List.setIfInBounds_toArray, List.set_cons_zero, List.set_cons_succ])
    refine wpAnyH_take (i := 10) (v := ?_) rfl (by kernel_rfl) (by kernel_rfl) (by kernel_rfl) (fun _ _ _ h => h) (Or.inl ⟨by kernel_rfl, ?_⟩) (by assumption) ?_
    rotate_left
    · (intro w hSw; (try dsimp only at hSw); go_simp) <;> with_reducible rfl
    (try simp only [Act.put, List.getElem_toArray, List.getElem_cons_zero, List.getElem_cons_succ, List.setIfInBounds_toArray, List.set_cons_zero, List.set_cons_succ])
    refine wpAnyH_take (i := 11) (v := ?_) rfl (by kernel_rfl) (by kernel_rfl) (by kernel_rfl) (fun _ _ _ h => h) (Or.inl ⟨by kernel_rfl, ?_⟩) (by assumption) ?_
    rotate_left
    · (intro w hSw; (try dsimp only at hSw); go_simp) <;> with_reducible rfl
    (try simp only [Act.put, List.getElem_toArray, List.getElem_cons_zero, List.getElem_cons_succ, List.setIfInBounds_toArray, List.set_cons_zero, List.set_cons_succ])
    refine wpAnyH_ready (rs := [12]) (by kernel_rfl) (by simp) ?_
    refine AllReadyH.cons rfl (fun K hK => ?_) AllReadyH.nil
    go_simp
    refine hK.out _ _ hs1 (fun hHeld => ?_)
    clear hK K
    (try simp only [Act.put, List.getElem_toArray, List.getElem_cons_zero, List.getElem_cons_succ, List.setIfInBounds_toArray, List.set_cons_zero, List.set_cons_succ])
    refine wpAnyH_ready (rs := [13]) (by kernel_rfl) (by simp) ?_
    refine AllReadyH.cons rfl (fun K hK => ?_) AllReadyH.nil
    refine wp_append_eq _ _ _ rfl _ _ _ rfl rfl HRun1 ?_
    refine hK.out _ _ hs2 (fun hHeld => ?_)
    clear hK K
    (try simp only [Act.put, List.getElem_toArray, List.getElem_cons_zero, List.getElem_cons_succ, List.setIfInBounds_toArray, List.set_cons_zero, List.set_cons_succ])
    refine wpAnyH_take (i := 14) (v := ?_) rfl (by kernel_rfl) (by kernel_rfl) (by kernel_rfl) (fun _ _ _ h => h) (Or.inl ⟨by kernel_rfl, ?_⟩) (by assumption) ?_
    rotate_left
    · (intro w hSw; (try dsimp only at hSw); go_simp) <;> with_reducible rfl
    (try simp only [Act.put, List.getElem_toArray, List.getElem_cons_zero, List.getElem_cons_succ, List.setIfInBounds_toArray, List.set_cons_zero, List.set_cons_succ])
    refine wpAnyH_done (by kernel_rfl) ?_ _
    go_wp2
    go_ret
    exact ⟨a1, n + 3, c1, rfl, HE.out⟩
  | true =>
    obtain rfl : (2 : Int) = zz := hzz
    go_upto_region 6 with fail
    refine wp_region_held_drew (S := fun w' => w'.cell? ⟨cc, 0, none⟩ = some (.int .i64 pa) ∧ w'.cell? ⟨cc, 2, none⟩ = some (.int .i64 s)) (by kernel_rfl) ⟨d0, d2⟩ (fun hHeld => ?_)
    refine wpAnyH_take (i := 0) (v := ?_) rfl (by kernel_rfl) (by kernel_rfl) (by kernel_rfl) (fun _ _ _ h => h) (Or.inl ⟨by kernel_rfl, ?_⟩) (by assumption) ?_
    rotate_left
    · (intro w hSw; (try dsimp only at hSw); go_simp) <;> with_reducible rfl
    (try simp only [Act.put, List.getElem_toArray, List.getElem_cons_zero, List.setIfInBounds_toArray, List.set_cons_zero, List.set_cons_succ])
    refine wpAnyH_take (i := 1) (v := ?_) rfl (by kernel_rfl) (by kernel_rfl) (by kernel_rfl) (fun _ _ _ h => h) (Or.inl ⟨by kernel_rfl, ?_⟩) (by assumption) ?_
    rotate_left
    · (intro w hSw; (try dsimp only at hSw); go_simp) <;> with_reducible rfl
    (try simp only [Act.put, List.getElem_toArray, List.getElem_cons_zero, List.getElem_cons_succ, List.setIfInBounds_toArray, List.set_cons_zero, List.set_cons_succ])
    refine wpAnyH_take (i := 2) (v := ?_) rfl (by kernel_rfl) (by kernel_rfl) (by kernel_rfl) (fun _ _ _ h => h) (Or.inl ⟨by kernel_rfl, ?_⟩) (by assumption) ?_
    rotate_left
    · (intro w hSw; (try dsimp only at hSw); go_simp) <;> with_reducible rfl
    (try simp only [Act.put, List.getElem_toArray, List.getElem_cons_zero, List.getElem_cons_succ, List.setIfInBounds_toArray, List.set_cons_zero, List.set_cons_succ])
    refine wpAnyH_take (i := 3) (v := ?_) rfl (by kernel_rfl) (by kernel_rfl) (by kernel_rfl) (fun _ _ _ h => h) (Or.inl ⟨by kernel_rfl, ?_⟩) (by assumption) ?_
    rotate_left
    · (intro w hSw; (try dsimp only at hSw); go_simp) <;> with_reducible rfl
    (try simp only [Act.put, List.getElem_toArray, List.getElem_cons_zero, List.getElem_cons_succ, List.setIfInBounds_toArray, List.set_cons_zero, List.set_cons_succ])
    refine wpAnyH_take (i := 4) (v := ?_) rfl (by kernel_rfl) (by kernel_rfl) (by kernel_rfl) (fun _ _ _ h => h) (Or.inl ⟨by kernel_rfl, ?_⟩) (by assumption) ?_
    rotate_left
    · (intro w hSw; (try dsimp only at hSw); go_simp) <;> with_reducible rfl
    (try simp only [Act.put, List.getElem_toArray, List.getElem_cons_zero, List.getElem_cons_succ, List.setIfInBounds_toArray, List.set_cons_zero, List.set_cons_succ])
    refine wpAnyH_take (i := 5) (v := ?_) rfl (by kernel_rfl) (by kernel_rfl) (by kernel_rfl) (fun _ _ _ h => h) (Or.inl ⟨by kernel_rfl, ?_⟩) (by assumption) ?_
    rotate_left
    · (intro w hSw; (try dsimp only at hSw); go_simp) <;> with_reducible rfl
    (try simp only [Act.put, List.getElem_toArray, List.getElem_cons_zero, List.getElem_cons_succ, List.setIfInBounds_toArray, List.set_cons_zero, List.set_cons_succ])
    refine wpAnyH_take (i := 6) (v := ?_) rfl (by kernel_rfl) (by kernel_rfl) (by kernel_rfl) (fun _ _ _ h => h) (Or.inl ⟨by kernel_rfl, ?_⟩) (by assumption) ?_
    rotate_left
    · (intro w hSw; (try dsimp only at hSw); go_simp) <;> with_reducible rfl
    (try simp only [Act.put, List.getElem_toArray, List.getElem_cons_zero, List.getElem_cons_succ, List.setIfInBounds_toArray, List.set_cons_zero, List.set_cons_succ])
    refine wpAnyH_take (i := 7) (v := ?_) rfl (by kernel_rfl) (by kernel_rfl) (by kernel_rfl) (fun _ _ _ h => h) (Or.inl ⟨by kernel_rfl, ?_⟩) (by assumption) ?_
    rotate_left
    · (intro w hSw; (try dsimp only at hSw); go_simp) <;> with_reducible rfl
    (try simp only [Act.put, List.getElem_toArray, List.getElem_cons_zero, List.getElem_cons_succ, List.setIfInBounds_toArray, List.set_cons_zero, List.set_cons_succ])
    refine wpAnyH_take (i := 8) (v := ?_) rfl (by kernel_rfl) (by kernel_rfl) (by kernel_rfl) (fun _ _ _ h => h) (Or.inl ⟨by kernel_rfl, ?_⟩) (by assumption) ?_
    rotate_left
    · (intro w hSw; (try dsimp only at hSw); go_simp) <;> with_reducible rfl
    (try simp only [Act.put, List.getElem_toArray, List.getElem_cons_zero, List.getElem_cons_succ, List.setIfInBounds_toArray, List.set_cons_zero, List.set_cons_succ])
    refine wpAnyH_take (i := 9) (v := ?_) rfl (by kernel_rfl) (by kernel_rfl) (by kernel_rfl) (fun _ _ _ h => h) (Or.inl ⟨by kernel_rfl, ?_⟩) (by assumption) ?_
    rotate_left
    · (intro w hSw; (try dsimp only at hSw); go_simp) <;> with_reducible rfl
    (try simp only [Act.put, List.getElem_toArray, List.getElem_cons_zero, List.getElem_cons_succ, List.setIfInBounds_toArray, List.set_cons_zero, List.set_cons_succ])
    refine wpAnyH_take (i := 10) (v := ?_) rfl (by kernel_rfl) (by kernel_rfl) (by kernel_rfl) (fun _ _ _ h => h) (Or.inl ⟨by kernel_rfl, ?_⟩) (by assumption) ?_
    rotate_left
    · (intro w hSw; (try dsimp only at hSw); go_simp) <;> with_reducible rfl
    (try simp only [Act.put, List.getElem_toArray, List.getElem_cons_zero, List.getElem_cons_succ, List.setIfInBounds_toArray, List.set_cons_zero, List.set_cons_succ])
    refine wpAnyH_take (i := 11) (v := ?_) rfl (by kernel_rfl) (by kernel_rfl) (by kernel_rfl) (fun _ _ _ h => h) (Or.inl ⟨by kernel_rfl, ?_⟩) (by assumption) ?_
    rotate_left
    · (intro w hSw; (try dsimp only at hSw); go_simp) <;> with_reducible rfl
    (try simp only [Act.put, List.getElem_toArray, List.getElem_cons_zero, List.getElem_cons_succ, List.setIfInBounds_toArray, List.set_cons_zero, List.set_cons_succ])
    refine wpAnyH_ready (rs := [12]) (by kernel_rfl) (by simp) ?_
    refine AllReadyH.cons rfl (fun K hK => ?_) AllReadyH.nil
    go_simp
    refine hK.out _ _ hs1 (fun hHeld => ?_)
    clear hK K
    (try simp only [Act.put, List.getElem_toArray, List.getElem_cons_zero, List.getElem_cons_succ, List.setIfInBounds_toArray, List.set_cons_zero, List.set_cons_succ])
    refine wpAnyH_ready (rs := [13]) (by kernel_rfl) (by simp) ?_
    refine AllReadyH.cons rfl (fun K hK => ?_) AllReadyH.nil
    refine wp_append_eq _ _ _ rfl _ _ _ rfl rfl HRun1 ?_
    refine hK.out _ _ hs2 (fun hHeld => ?_)
    clear hK K
    (try simp only [Act.put, List.getElem_toArray, List.getElem_cons_zero, List.getElem_cons_succ, List.setIfInBounds_toArray, List.set_cons_zero, List.set_cons_succ])
    refine wpAnyH_take (i := 14) (v := ?_) rfl (by kernel_rfl) (by kernel_rfl) (by kernel_rfl) (fun _ _ _ h => h) (Or.inl ⟨by kernel_rfl, ?_⟩) (by assumption) ?_
    rotate_left
    · (intro w hSw; (try dsimp only at hSw); go_simp) <;> with_reducible rfl
    (try simp only [Act.put, List.getElem_toArray, List.getElem_cons_zero, List.getElem_cons_succ, List.setIfInBounds_toArray, List.set_cons_zero, List.set_cons_succ])
    refine wpAnyH_done (by kernel_rfl) ?_ _
    go_wp2
    go_ret
    exact ⟨a1, n + 3, c1, rfl, HE.out⟩
theorem encode_nil (w : World) : Calls Try.prog 18 #[.pointer none] w fun x w' => x = .returned (.slice none 0 0) ∧ w' = w := by
  go_enter Try.func18, Try.ntmps18
  go_wp2
  go_ret
  exact ⟨rfl, rfl⟩
set_option maxRecDepth 100000 in
set_option maxHeartbeats 4000000 in
theorem encode_at (B b : Nat) (S : St) (w : World) (h : PrAt w B b S) :
    Calls Try.prog 18 #[ptr b] w fun x w' => ∃ v, x = .returned v ∧ w'.ownsRow w.heap.size 76 1 v (encW S).length (uvs (encW S)) ∧ Below w.heap.size w w' := by
  obtain ⟨mo, c, h⟩ := h
  have HH : Hid (PrIs w B b mo c S) := h
  have hq := eq_procs b
  clear h
  go_enter Try.func18, Try.ntmps18
  go_wp2
  go_loopw [3, 4] (fun s i wr => ∃ (k : Nat) (ak : Option Addr) (nk ck : Nat), k ≤ 8 ∧ i = .int .i64 ((k : Int) + 1) ∧ .slice ak nk ck = s ∧ nk = (encK S k).length ∧ wr.ownsRow w.heap.size 76 1 (.slice ak nk ck) (encK S k).length (uvs (encK S k)) ∧ UW w.heap.size w wr) (fun _ i _ => 9 - (intOf i).toNat)
  case atStart => exact ⟨0, none, 0, 0, by omega, rfl, rfl, rfl, World.ownsRow_nil w _ _ 1, UW.refl _ _⟩
  case round =>
    obtain ⟨k, ak, nk, ck, hk, rfl, rfl, hnk, hown, hU⟩ := hrel
    have HU : Hid (UW w.heap.size w wr) := hU
    have hPr := HH.out.below hU.bel
    have c0 := hPr.cell
    by_cases hlt : k < 8
    · have i1 : decide ((k : Int) + 1 ≤ 8) = true := decide_eq_true (by omega)
      have hki : (k : Int) + 1 ≤ 8 := by omega
      have hel := encK_len S k
      have HE : Hid (encK S k ++ encP (S ((k : Int) + 1)) = encK S (k + 1)) := rfl
      have hAp : ∃ pv, (Instr.lookup 64 (.map mo) (.int .i64 ((k : Int) + 1)) false).run Try.prog wr = .ok pv wr ∧ Calls Try.prog 39 #[pv, .slice ak nk ck] wr fun x w' => ∃ a' n' c', x = .returned (.slice a' n' c') ∧ n' = (encK S (k + 1)).length ∧ w'.ownsRow w.heap.size 76 1 (.slice a' n' c') (encK S (k + 1)).length (uvs (encK S (k + 1))) ∧ UW w.heap.size w w' := by
        rw [← HE.out]
        cases hS : S ((k : Int) + 1) with
        | none => exact ⟨_, hPr.look_none hS, appendTo_none nk ck ak (encK S k) w wr hown hnk.symm hU (by omega)⟩
        | some p => exact ⟨_, hPr.look_some hS, appendTo_some nk ck _ ak (encK S k) p w wr hown hnk.symm hU (by omega) (HH.out.pr _ p hS)⟩
      obtain ⟨pv, hl, hAp⟩ := hAp
      clear hown hU hnk hel HE hPr
      go_wp2_with fail
      refine hAp.mono ?_
      rintro x w4 ⟨a4, n4, c4, rfl, hn4, hown4, hU4⟩
      have HN4 : Hid (n4 = (encK S (k + 1)).length) := hn4
      have HO4 : Hid (w4.ownsRow w.heap.size 76 1 (.slice a4 n4 c4) (encK S (k + 1)).length (uvs (encK S (k + 1)))) := hown4
      have HU4 : Hid (UW w.heap.size w w4) := hU4
      clear hn4 hown4 hU4 hAp
      go_wp2
      go_roundw
      case rel => exact ⟨k + 1, a4, n4, c4, by omega, by go_num, rfl, HN4.out, HO4.out, HU4.out⟩
      case measure => simp [intOf]; omega
    · have i1 : decide ((k : Int) + 1 ≤ 8) = false := decide_eq_false (by omega)
      have hk8 : k = 8 := by omega
      rw [hk8] at hown
      have HO : Hid (wr.ownsRow w.heap.size 76 1 (.slice ak nk ck) (encW S).length (uvs (encW S))) := hown
      clear hown hU hnk hk8
      go_wp2
      go_ret
      exact ⟨_, rfl, HO.out, HU.out.bel⟩
end Go.Proofs.Ytfcpcncafopobaa
