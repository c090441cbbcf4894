/- Whether an instruction can be done; the table of all operations. -/
import Derived.Test.YtedkijionpkmmaaVmB
import Derived.Laws.EntriesVeiled
namespace Go.Proofs.Ytedkijionpkmmaa
open Go.RowKit
set_option linter.unusedVariables false

theorem movesOf_range (op arg : Int) : -1 ≤ (movesOf op arg).1 ∧ (movesOf op arg).1 ≤ 4 ∧ -1 ≤ (movesOf op arg).2 ∧ (movesOf op arg).2 ≤ 3 := by
  have h := argsOf_low arg
  unfold movesOf
  (repeat' split) <;> simp <;> omega
/-- Whether an instruction can be done with these numbers, the top first. -/
def canDo (i : Ins) (st : List Int) : Bool :=
  decide ((movesOf i.op i.arg).1 ≤ st.length) && decide (st.length - (movesOf i.op i.arg).1 + (movesOf i.op i.arg).2 ≤ 32) && !((i.op == 9 || i.op == 10) && (st.headD 0 == 0))
theorem canDo_few {i : Ins} {st : List Int} (h : ¬ (movesOf i.op i.arg).1 ≤ st.length) : canDo i st = false := by simp [canDo, h]
theorem canDo_many {i : Ins} {st : List Int} (h : ¬ (st.length - (movesOf i.op i.arg).1 + (movesOf i.op i.arg).2 ≤ 32)) : canDo i st = false := by simp [canDo, h]
theorem canDo_else {i : Ins} {st : List Int} (h : (movesOf i.op i.arg).1 ≤ st.length) (h2 : st.length - (movesOf i.op i.arg).1 + (movesOf i.op i.arg).2 ≤ 32) : canDo i st = !((i.op == 9 || i.op == 10) && (st.headD 0 == 0)) := by simp [canDo, h, h2]

set_option maxHeartbeats 800000 in
theorem canBeDone_at (i : Ins) (hi : i.Fit) (M b : Nat) (pc : Int) (sv : Value) (st : List Int) (w : World) (h : MachV M w b pc sv st) (hl : st.length ≤ 99990) :
    Calls Try.prog 35 #[.agg (insRow i), sv] w fun e w' => e = .returned (.bool (canDo i st)) ∧ Below w.heap.size w w' := by
  obtain ⟨a, cap, rfl⟩ := h.form
  have hmv := moves_at i hi
  have hr := movesOf_range i.op i.arg
  have H1 : Hid _ := @canDo_few i st
  have H2 : Hid _ := @canDo_many i st
  have H3 : Hid _ := @canDo_else i st
  have HD : Hid (i.op = 9 ∨ i.op = 10 → (movesOf i.op i.arg).1 = 2) := by
    intro h
    rcases h with h | h <;> (rw [h]; rfl)
  obtain ⟨W, hW⟩ : ∃ W, W = w.alloc (.cells (insRow i) 48) := ⟨_, rfl⟩
  have HB : Hid (Below w.heap.size w W) := by rw [hW]; exact below_alloc _ _
  have HI : Hid (W.heap[w.heap.size]? = some (.cells (insRow i) 48)) := by rw [hW]; exact heap_alloc_new _ _
  generalize movesOf i.op i.arg = mo at *
  obtain ⟨p, q⟩ := mo
  dsimp only at *
  obtain ⟨hr1, hr2, hr3, hr4⟩ := hr
  generalize hC : canDo i st = C at *
  clear hC
  unfold insRow at hW hmv
  dsimp only [insRow]
  go_enter Try.func35, Try.ntmps35
  go_wp2_with fail
  rw [← hW]
  clear hW
  refine (hmv W).mono ?_
  clear hmv
  rintro e w1 ⟨rfl, hb1⟩
  have hm1 := h.below (HB.out.trans (hb1.mono HB.out.size))
  obtain ⟨⟨d0, _, _, _⟩, _⟩ := cells4 ((hb1.block _ (lt_of_heap HI.out)).trans HI.out)
  have hbb : Hid _ := HB.out.trans (hb1.mono HB.out.size)
  clear h
  by_cases hp : p ≤ st.length
  · have g1 : decide ((st.length : Int) < p) = false := decide_eq_false (by omega)
    by_cases hq : (st.length : Int) - p + q ≤ 32
    · have HC : Hid _ := H3.out hp hq
      have g2 : decide (32 < (st.length : Int) - p + q) = false := decide_eq_false (by omega)
      clear H1 H2 H3
      by_cases hd : i.op = 9 ∨ i.op = 10
      · have hp2 := HD.out hd
        subst hp2
        obtain ⟨x, st, rfl⟩ : ∃ x s, st = x :: s := by
          cases st with
          | nil => simp at hp
          | cons x s => exact ⟨x, s, rfl⟩
        obtain ⟨g, cap', e, hcap, hx, _⟩ := hm1.top
        simp only [List.length_cons, Value.slice.injEq] at e hp hq hl ⊢
        obtain ⟨rfl, _, rfl⟩ := e
        have HX : Hid (C = !(x == 0)) := by
          have e1 : (i.op == 9 || i.op == 10) = true := by rcases hd with h | h <;> simp [h]
          show C = _
          rw [HC.out, e1]
          rfl
        clear HC
        generalize hL : st.length = n at *
        clear hL
        rcases hd with hd | hd
        all_goals
          rw [hd] at d0
          clear hd
          go_wp2
          go_ret
          exact ⟨by rw [HX.out]; rfl, hbb.out⟩
      · have h9 : (i.op == 9) = false := by simp; omega
        have h10 : (i.op == 10) = false := by simp; omega
        have HX : Hid (C = true) := by rw [HC.out, h9, h10]; rfl
        clear HC hd
        go_wp2
        go_ret
        exact ⟨by rw [HX.out]; rfl, hbb.out⟩
    · have HX : Hid _ := H2.out (by omega)
      have g2 : decide (32 < (st.length : Int) - p + q) = true := decide_eq_true (by omega)
      clear H1 H2 H3
      go_wp2
      go_ret
      exact ⟨by rw [HX.out]; rfl, hbb.out⟩
  · have HX : Hid _ := H1.out (by omega)
    have g1 : decide ((st.length : Int) < p) = true := decide_eq_true (by omega)
    clear H1 H2 H3
    go_wp2
    go_ret
    exact ⟨by rw [HX.out]; rfl, hbb.out⟩

/-- All operations, by their numbers: what reckons with two, and what does all else. -/
def opTable : Array Value := #[.nilFunc, .func (.func 38) #[] #[], .nilFunc, .func (.func 38) #[] #[], .nilFunc, .func (.func 39) #[] #[], .nilFunc, .func (.func 40) #[] #[], .nilFunc, .func (.func 41) #[] #[], .nilFunc, .func (.func 42) #[] #[], .func (.func 43) #[] #[], .nilFunc, .func (.func 44) #[] #[], .nilFunc, .func (.func 45) #[] #[], .nilFunc, .func (.func 46) #[] #[], .nilFunc, .func (.func 47) #[] #[], .nilFunc, .func (.func 48) #[] #[], .nilFunc, .func (.func 49) #[] #[], .nilFunc, .func (.func 50) #[] #[], .nilFunc, .func (.func 51) #[] #[], .nilFunc, .func (.func 52) #[] #[], .nilFunc, .func (.func 53) #[] #[], .nilFunc, .func (.func 55) #[] #[], .nilFunc, .nilFunc, .func (.func 56) #[] #[], .nilFunc, .func (.func 57) #[] #[], .nilFunc, .func (.func 58) #[] #[], .nilFunc, .func (.func 59) #[] #[], .nilFunc, .func (.func 60) #[] #[], .nilFunc, .func (.func 61) #[] #[]]
theorem opTable_size : opTable.size = 48 := rfl
theorem tableSize : (Try.prog.info? 62).map (·.size) = some opTable.size := by kernel_rfl
theorem tableOne : opTable.all (·.oneCell') = true := by kernel_rfl
theorem tableZero : (Array.replicate 48 Value.nilFunc).size = opTable.size := by rw [opTable_size]; simp
theorem all_at (w : World) :
    Calls Try.prog 24 #[] w fun e w' => e = .returned (.agg opTable) ∧ Below w.heap.size w w' := by
  go_enter Try.func24, Try.ntmps24
  go_wp2_with (refine wpList_store_row rfl 62 (.tmp 0) (.tmp 25) rfl w.heap.size opTable rfl rfl 62 _ (heap_alloc_new w _) tableSize rfl tableOne ?_)
  (try simp only [Exit.inBlock, Exit.then])
  rw [setRow_alloc_new]
  exact bodyPost_ret (results_cell_row rfl _ _ w.heap.size 62 opTable (0, 0) _ rfl (heap_alloc_new w _) Try.underlying62 rfl tableSize) rfl ⟨rfl, below_alloc _ _⟩
end Go.Proofs.Ytedkijionpkmmaa
