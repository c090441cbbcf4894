/- The slots in the heap: New, Get. -/
import Derived.Test.YtfnafjddajgahaaGreatCapA
import Derived.BigRegion
namespace Go.Proofs.YtfnafjddajgahaaGreat
open Go.RowKit
namespace Ca
set_option linter.unusedVariables false

def zcells : Array Value := Array.replicate 4608 (.int .i64 0)
theorem zcells_size : zcells.size = 4608 := by simp [zcells]
theorem capsInfo : (Tryz.prog.info? 121).map (fun i => (i.zero, i.size, i.bytes)) = some (some (.agg zcells), 4608, 36864) := by kernel_rfl

/-- Block b holds the slots of T. -/
structure CapsAt (w : World) (b : Nat) (T : Tab) : Prop where
  head : ∃ row : Array Value, w.heap[b]? = some (.cells row 121) ∧ row.size = 4608 ∧ ∀ j, j < 768 → ∀ k, k < 6 → row[j * 6 + k]? = some (.int .i64 ((T j).get k))
theorem CapsAt.lt {w : World} {b : Nat} {T : Tab} (h : CapsAt w b T) : b < w.heap.size := by
  obtain ⟨row, hr, _⟩ := h.head
  exact lt_of_heap hr
theorem CapsAt.keep {w w' : World} {b : Nat} {T : Tab} (h : CapsAt w b T) (hb : w'.heap[b]? = w.heap[b]?) : CapsAt w' b T := by
  obtain ⟨row, hr, h1, h2⟩ := h.head
  exact ⟨row, hb.trans hr, h1, h2⟩
theorem CapsAt.below {w w' : World} {b : Nat} {T : Tab} (h : CapsAt w b T) (hb : Below w.heap.size w w') : CapsAt w' b T := h.keep (hb.block _ h.lt)
theorem CapsAt.free {w : World} {b : Nat} {T : Tab} (h : CapsAt w b T) (o : Nat) : w.frozen? ⟨b, o, none⟩ = false := by
  obtain ⟨row, hr, _⟩ := h.head
  exact frozen_of_heap hr
theorem CapsAt.cell {w : World} {b : Nat} {T : Tab} (h : CapsAt w b T) {j k o : Nat} (hj : j < 768) (hk : k < 6) (ho : o = j * 6 + k) : w.cell? ⟨b, o, none⟩ = some (.int .i64 ((T j).get k)) := by
  obtain ⟨row, hr, _, h2⟩ := h.head
  rw [cell_of_heap hr, ho]
  exact h2 j hj k hk
theorem CapsAt.set {w : World} {b : Nat} {T : Tab} (h : CapsAt w b T) {j k o : Nat} (hj : j < 768) (hk : k < 6) (ho : o = j * 6 + k) (v : Int) (H : Hd) (h1 : H.get k = v) (h2 : ∀ i, i < 6 → i ≠ k → H.get i = (T j).get i) :
    CapsAt (w.setCell ⟨b, o, none⟩ (.int .i64 v)) b (T.set j H) := by
  obtain ⟨row, hr, hs, hc⟩ := h.head
  subst ho
  refine ⟨row.setIfInBounds (j * 6 + k) (.int .i64 v), ?_, by simp [hs], fun i hi m hm => ?_⟩
  · rw [setCell_eq_setRow w b _ _ _ _ _ hr, setRow_heap w b _ _ _ _ hr]
  · rw [Array.getElem?_setIfInBounds]
    by_cases he : j * 6 + k = i * 6 + m
    · have hij : i = j := by omega
      have hmk : m = k := by omega
      subst hij hmk
      rw [if_pos he, if_pos (by omega), Tab.set_same, h1]
    · rw [if_neg he]
      by_cases hij : i = j
      · subst hij
        rw [Tab.set_same, h2 m hm (by omega)]
        exact hc i hi m hm
      · rw [Tab.set_other _ _ _ _ hij]
        exact hc i hi m hm

theorem new_at (w : World) :
    Calls Tryz.prog 25 #[] w fun e w' => e = .returned (.pointer (some ⟨w.heap.size, 0, none⟩)) ∧ CapsAt w' w.heap.size (fun _ => Hd.no) ∧ Below w.heap.size w w' ∧ w'.heap.size = w.heap.size + 1 := by
  have hz : (zeroValue 121).run Tryz.prog w = .ok (.agg zcells) w := by
    obtain ⟨i, hi, hh⟩ := Option.map_eq_some_iff.1 capsInfo
    simp only [Prod.mk.injEq] at hh
    simp [zeroValue, typeInfo, hi, hh.1]
  go_enter Tryz.func25, Tryz.ntmps25
  go_wp2
  go_ret
  refine ⟨rfl, ⟨zcells, heap_alloc_new _ _, zcells_size, fun j hj k hk => ?_⟩, below_alloc _ _, by simp⟩
  unfold zcells
  rw [Array.getElem?_replicate, if_pos (by omega)]
  obtain rfl | rfl | rfl | rfl | rfl | rfl : k = 0 ∨ k = 1 ∨ k = 2 ∨ k = 3 ∨ k = 4 ∨ k = 5 := by omega
  all_goals rfl

theorem get_nil (n s : Int) (w : World) :
    Calls Tryz.prog 103 #[.pointer none, .int .i64 n, .int .i64 s] w fun e w' => e = .returned (.tuple #[.agg (cpRow Cp.no), .bool false]) ∧ Below w.heap.size w w' := by
  go_enter Tryz.func103, Tryz.ntmps103
  go_wp2
  refine bodyPost_ret (v := .tuple #[.agg (cpRow Cp.no), .bool false]) ?_ rfl ⟨rfl, ?_⟩
  · rw [results_cell_tmp rfl]
    go_simp
  · exact below_alloc _ _

/-- Is it an environment's slot? -/
def isP (n s : Int) : Bool := isE n && decide (1 ≤ s) && decide (s ≤ 64)
theorem get_no (b : Nat) (n s : Int) (w : World) (h : isP n s = false) :
    Calls Tryz.prog 103 #[.pointer (some ⟨b, 0, none⟩), .int .i64 n, .int .i64 s] w fun e w' => e = .returned (.tuple #[.agg (cpRow Cp.no), .bool false]) ∧ Below w.heap.size w w' := by
  have hE := isEnv_at n
  have HP : Hid _ := h
  unfold isP at HP
  clear h
  by_cases hn : isE n = true
  · rw [hn] at hE HP
    have HS : s < 1 ∨ 64 < s := by
      have := HP.out
      simp at this
      omega
    clear HP hn
    rcases HS with hs | hs
    · have g1 : decide (s < 1) = true := decide_eq_true hs
      go_enter Tryz.func103, Tryz.ntmps103
      go_wp2_with (go_at_call 90; refine (hE _).mono ?_; rintro e w1 ⟨rfl, rfl⟩)
      refine bodyPost_ret (v := .tuple #[.agg (cpRow Cp.no), .bool false]) ?_ rfl ⟨rfl, ?_⟩
      · rw [results_cell_tmp rfl]
        go_simp
      · exact below_alloc _ _
    · have g1 : decide (s < 1) = false := decide_eq_false (by omega)
      have g2 : decide (64 < s) = true := decide_eq_true hs
      go_enter Tryz.func103, Tryz.ntmps103
      go_wp2_with (go_at_call 90; refine (hE _).mono ?_; rintro e w1 ⟨rfl, rfl⟩)
      refine bodyPost_ret (v := .tuple #[.agg (cpRow Cp.no), .bool false]) ?_ rfl ⟨rfl, ?_⟩
      · rw [results_cell_tmp rfl]
        go_simp
      · exact below_alloc _ _
  · have hn' : isE n = false := by simpa using hn
    rw [hn'] at hE
    clear HP hn hn'
    go_enter Tryz.func103, Tryz.ntmps103
    go_wp2_with (go_at_call 90; refine (hE _).mono ?_; rintro e w1 ⟨rfl, rfl⟩)
    refine bodyPost_ret (v := .tuple #[.agg (cpRow Cp.no), .bool false]) ?_ rfl ⟨rfl, ?_⟩
    · rw [results_cell_tmp rfl]
      go_simp
    · exact below_alloc _ _

/-- Is there one? -/
def Cp.is (x : Cp) : Bool := !(x.kind == 0 && x.id == 0 && x.len == 0 && x.rights == 0)
theorem cap_neq (k i l r : Int) (W : World) : (binOp .neq 95 (.agg #[.int .i64 k, .int .i64 i, .int .i64 l, .int .i64 r]) (.agg #[.int .i64 0, .int .i64 0, .int .i64 0, .int .i64 0])).run Tryz.prog W = .ok (.bool (Cp.is ⟨k, i, l, r⟩)) W := by
  unfold Cp.is
  by_cases h0 : k = 0 <;> by_cases h1 : i = 0 <;> by_cases h2 : l = 0 <;> by_cases h3 : r = 0 <;> (try subst h0) <;> (try subst h1) <;> (try subst h2) <;> (try subst h3) <;> go_simp <;> simp_all
theorem cap_eql (k i l r : Int) (W : World) : (binOp .eql 95 (.agg #[.int .i64 k, .int .i64 i, .int .i64 l, .int .i64 r]) (.agg #[.int .i64 0, .int .i64 0, .int .i64 0, .int .i64 0])).run Tryz.prog W = .ok (.bool (!Cp.is ⟨k, i, l, r⟩)) W := by
  unfold Cp.is
  by_cases h0 : k = 0 <;> by_cases h1 : i = 0 <;> by_cases h2 : l = 0 <;> by_cases h3 : r = 0 <;> (try subst h0) <;> (try subst h1) <;> (try subst h2) <;> (try subst h3) <;> go_simp <;> simp_all
theorem cell_alloc_old {w : World} {p : Addr} {u : Value} (h : w.cell? p = some u) (o : Obj) : (w.alloc o).cell? p = some u :=
  (below_alloc w o).cell (cell_lt h) ▸ h

set_option maxRecDepth 100000 in
theorem get_yes (b : Nat) (T : Tab) (n s : Nat) (w : World) (h : CapsAt w b T) (hn : n < 12) (hs : s < 64) :
    Calls Tryz.prog 103 #[.pointer (some ⟨b, 0, none⟩), .int .i64 n, .int .i64 (s + 1 : Nat)] w fun e w' => e = .returned (.tuple #[.agg (cpRow (T (n * 64 + s)).x), .bool (T (n * 64 + s)).x.is]) ∧ Below w.heap.size w w' := by
  have hE := isEnv_at n
  rw [show isE n = true from by simp [isE]; omega] at hE
  have c0 := cell_alloc_old (h.cell (j := n * 64 + s) (k := 0) (o := n * 384 + s * 6) (by omega) (by omega) (by omega)) (.cells #[.int .i64 0, .int .i64 0, .int .i64 0, .int .i64 0] 95)
  have c1 := cell_alloc_old (h.cell (j := n * 64 + s) (k := 1) (o := n * 384 + s * 6 + 1) (by omega) (by omega) (by omega)) (.cells #[.int .i64 0, .int .i64 0, .int .i64 0, .int .i64 0] 95)
  have c2 := cell_alloc_old (h.cell (j := n * 64 + s) (k := 2) (o := n * 384 + s * 6 + 2) (by omega) (by omega) (by omega)) (.cells #[.int .i64 0, .int .i64 0, .int .i64 0, .int .i64 0] 95)
  have c3 := cell_alloc_old (h.cell (j := n * 64 + s) (k := 3) (o := n * 384 + s * 6 + 3) (by omega) (by omega) (by omega)) (.cells #[.int .i64 0, .int .i64 0, .int .i64 0, .int .i64 0] 95)
  clear h
  generalize T (n * 64 + s) = H at *
  obtain ⟨⟨k, i, l, r⟩, e, q⟩ := H
  dsimp only [Hd.get] at *
  have g1 : decide ((s : Int) + 1 < 1) = false := decide_eq_false (by omega)
  have g2 : decide (64 < (s : Int) + 1) = false := decide_eq_false (by omega)
  have hneq := cap_neq k i l r
  generalize Cp.is ⟨k, i, l, r⟩ = B at *
  go_enter Tryz.func103, Tryz.ntmps103
  go_wp2_with (go_at_call 90; refine (hE _).mono ?_; rintro e w1 ⟨rfl, rfl⟩)
  clear c0 c1 c2 c3
  go_region
  all_goals
    go_wp2
    refine bodyPost_ret (v := .tuple #[.agg #[.int .i64 k, .int .i64 i, .int .i64 l, .int .i64 r], .bool B]) ?_ rfl ⟨rfl, ?_⟩
    · rw [results_cell_tmp rfl]
      go_simp
    · exact (below_alloc2 _ _ _).drew

/-- What a slot has, of any numbers. -/
def getT (T : Tab) (n s : Int) : Cp := if isP n s then (T (n.toNat * 64 + (s.toNat - 1))).x else Cp.no
theorem isP_nat {n s : Int} (h : isP n s = true) : ∃ a c : Nat, n = a ∧ s = (c + 1 : Nat) ∧ a < 12 ∧ c < 64 := by
  simp [isP, isE] at h
  exact ⟨n.toNat, s.toNat - 1, by omega, by omega, by omega, by omega⟩
theorem getT_nat (T : Tab) (a c : Nat) (ha : a < 12) (hc : c < 64) : getT T a (c + 1 : Nat) = (T (a * 64 + c)).x := by
  have : isP a (c + 1 : Nat) = true := by simp [isP, isE]; omega
  unfold getT
  rw [if_pos this]
  simp
theorem getT_no (T : Tab) (n s : Int) (h : isP n s = false) : getT T n s = Cp.no := by unfold getT; rw [h]; rfl
theorem get_at (b : Nat) (T : Tab) (n s : Int) (w : World) (h : CapsAt w b T) :
    Calls Tryz.prog 103 #[.pointer (some ⟨b, 0, none⟩), .int .i64 n, .int .i64 s] w fun e w' => e = .returned (.tuple #[.agg (cpRow (getT T n s)), .bool (getT T n s).is]) ∧ Below w.heap.size w w' := by
  cases hp : isP n s with
  | false =>
    rw [getT_no T n s hp]
    exact get_no b n s w hp
  | true =>
    obtain ⟨a, c, rfl, rfl, ha, hc⟩ := isP_nat hp
    rw [getT_nat T a c ha hc]
    exact get_yes b T a c w h ha hc
end Ca
end Go.Proofs.YtfnafjddajgahaaGreat
