/- Package procs: mayHaveParent. -/
import Derived.Test.YtfcpcncafopobaaPcB
import Derived.Deep.RegionHeld3
namespace Go.Proofs.Ytfcpcncafopobaa
open Go.RowKit Go.Lib
set_option linter.unusedVariables false

set_option maxHeartbeats 4000000 in
theorem may_at (B b cc : Nat) (S : St) (p : Pr) (w : World) (h : PrAt w B b S) (hc : w.heap[cc]? = some (.cells (prow p) 69)) :
    Calls Try.prog 44 #[ptr b, ptr cc] w fun e w' => e = .returned (.bool (mayB S p)) ∧ ∃ q, w' = w.drewN q := by
  have c0 : w.cell? ⟨cc, 0, none⟩ = some (.int .i64 p.par) := by rw [cell_of_heap hc]; rfl
  have c1 : w.cell? ⟨cc, 1, none⟩ = some (.bool p.zom) := by rw [cell_of_heap hc]; rfl
  have d0 : w.drew.cell? ⟨cc, 0, none⟩ = some (.int .i64 p.par) := c0
  have hv := live_at B b S p.par w h
  obtain ⟨mo, c, hP⟩ := h
  have e0 := hP.cell
  have hPd := hP.below (Below.refl w.heap.size w).drew
  have f0 := hPd.cell
  cases hz : p.zom with
  | true =>
    have HR : Hid (mayB S p = liv S p.par) := by show _ = _; unfold mayB; rw [hz, if_pos rfl]
    rw [hz] at c1
    clear hP hPd hc hz
    go_enter Try.func44, Try.ntmps44
    go_wp2_with fail
    refine hv.mono ?_
    rintro e w1 ⟨rfl, hw⟩
    rw [hw]
    clear hw w1 hv
    go_wp2
    go_ret
    exact ⟨by rw [HR.out]; rfl, 0, rfl⟩
  | false =>
    rw [hz] at c1
    by_cases hp0 : p.par = 0
    · have HR : Hid (mayB S p = true) := by show _ = _; unfold mayB; rw [hz, if_neg (by simp), decide_eq_true hp0]; rfl
      have g0 : (p.par == 0) = true := by simp [hp0]
      have hl : ∃ v, (Instr.lookup 64 (.map mo) (.int .i64 p.par) false).run Try.prog w.drew = .ok v w.drew := ⟨_, hPd.look p.par⟩
      obtain ⟨v, hl⟩ := hl
      clear hP hPd hc hz hp0 hv
      go_enter Try.func44, Try.ntmps44
      go_wp2_with fail
      go_quiet (fail)
      go_wp2
      go_ret
      exact ⟨by rw [HR.out]; rfl, _, rfl⟩
    · have g0 : (p.par == 0) = false := beq_false_of_ne hp0
      cases hS : S p.par with
      | none =>
        have HR : Hid (mayB S p = false) := by show _ = _; unfold mayB; rw [hz, if_neg (by simp), decide_eq_false hp0, hS]; rfl
        have hl := fun q => (hP.below (drewN_bel w q)).look_none hS
        have q0 := fun q => (hP.below (drewN_bel w q)).cell
        have r0 : ∀ q, (w.drewN q).cell? ⟨cc, 0, none⟩ = some (.int .i64 p.par) := fun q => c0
        clear hP hPd hc hz hp0 hv hS
        go_enter Try.func44, Try.ntmps44
        go_wp2_with fail
        go_quiet (fail)
        go_wp2
        go_ret
        exact ⟨by rw [HR.out]; rfl, _, rfl⟩
      | some x =>
        have HR : Hid (mayB S p = true) := by show _ = _; unfold mayB; rw [hz, if_neg (by simp), decide_eq_false hp0, hS]; rfl
        have hl := fun q => (hP.below (drewN_bel w q)).look_some hS
        have q0 := fun q => (hP.below (drewN_bel w q)).cell
        have r0 : ∀ q, (w.drewN q).cell? ⟨cc, 0, none⟩ = some (.int .i64 p.par) := fun q => c0
        have hq := ne_proc (c p.par)
        clear hP hPd hc hz hp0 hv hS
        generalize c p.par = cp at *
        go_enter Try.func44, Try.ntmps44
        go_wp2_with fail
        go_quiet (fail)
        go_wp2
        go_ret
        exact ⟨by rw [HR.out]; rfl, _, rfl⟩
end Go.Proofs.Ytfcpcncafopobaa
