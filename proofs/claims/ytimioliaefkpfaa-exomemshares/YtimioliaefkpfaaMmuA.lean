/- The contracts of package mmu's table: what each call answers, and what it leaves of the world. -/
import Derived.Test.YtimioliaefkpfaaRows
import Derived.Test.YtimioliaefkpfaaIMap
import Derived.WalkKit
import Derived.WalkSpells
import Derived.WalkLawsBesides
import Derived.BigRegion
import Derived.Laws.ResultCell
import Derived.OwnWalk
import Derived.KernelRfl
namespace Go.Proofs.Ytimioliaefkpfaa
open Go.RowKit
namespace Mu
set_option linter.unusedVariables false

/-- A page's value. -/
def pv (x : Int × Bool) : Value := .agg #[.int .i64 x.1, .bool x.2]

theorem zeroPage (w : World) : (zeroValue 39).run Try.prog w = .ok (pv (0, false)) w := by kernel_rfl

/-- Block t is a table over the map mb, whose pages are f's. -/
structure TblAt (w : World) (t mb : Nat) (f : Int → Option (Int × Bool)) : Prop where
  head : w.heap[t]? = some (.cells #[.map (some mb)] 92)
  map : MapIs w .i64 mb (fun k => (f k).map pv)
  near : ∀ k x, f k = some x → 0 ≤ k ∧ k < 4 ∧ 0 ≤ x.1

theorem TblAt.keep {w w' : World} {t mb : Nat} {f : Int → Option (Int × Bool)} (h : TblAt w t mb f) (h1 : w'.heap[t]? = w.heap[t]?) (h2 : w'.heap[mb]? = w.heap[mb]?) : TblAt w' t mb f :=
  ⟨h1.trans h.head, h.map.of_block h2, h.near⟩
theorem TblAt.lt {w : World} {t mb : Nat} {f : Int → Option (Int × Bool)} (h : TblAt w t mb f) : t < w.heap.size := lt_of_heap h.head
theorem TblAt.mlt {w : World} {t mb : Nat} {f : Int → Option (Int × Bool)} (h : TblAt w t mb f) : mb < w.heap.size := h.map.lt
theorem TblAt.ne {w : World} {t mb : Nat} {f : Int → Option (Int × Bool)} (h : TblAt w t mb f) : t ≠ mb := by
  intro e
  obtain ⟨es, c, hb, _⟩ := h.map
  rw [← e, h.head] at hb; cases hb
theorem TblAt.below {w w' : World} {t mb : Nat} {f : Int → Option (Int × Bool)} (h : TblAt w t mb f) (hb : Below w.heap.size w w') : TblAt w' t mb f :=
  h.keep (hb.block _ h.lt) (hb.block _ h.mlt)

/-- Is it a page's number? -/
def isPg (k : Int) : Bool := decide (0 ≤ k ∧ k < 4)

set_option maxHeartbeats 400000 in
theorem isPage_any (k : Int) (w : World) :
    Calls Try.prog 55 #[.int .i64 k] w fun e w' => e = .returned (.bool (isPg k)) ∧ w' = w := by
  by_cases h : 0 ≤ k
  all_goals
    go_enter Try.func55, Try.ntmps55
    go_wp2
    go_ret
    refine ⟨?_, rfl⟩
    simp [isPg] <;> omega

set_option maxHeartbeats 400000 in
theorem pageOf_any (a : Int) (w : World) (h0 : 0 ≤ a) (h1 : a < 128) :
    Calls Try.prog 56 #[.int .u64 a] w fun e w' => e = .returned (.int .i64 (a / 32)) ∧ w' = w := by
  go_enter Try.func56, Try.ntmps56
  go_wp2
  go_ret
  refine ⟨?_, rfl⟩
  go_num

/-- What an address comes to in a page. -/
def reachV (x : Int × Bool) (a : Int) (wr : Bool) : Int × Int × Int := if wr && !x.2 then (0, 0, 103) else (x.1, a % 32, 0)

set_option maxHeartbeats 400000 in
theorem reach_any (x : Int × Bool) (a : Int) (wr : Bool) (w : World) (h0 : 0 ≤ a) (h1 : a < 128) :
    Calls Try.prog 57 #[pv x, .int .u64 a, .bool wr] w fun e w' => e = .returned (.tuple #[.int .i64 (reachV x a wr).1, .int .i64 (reachV x a wr).2.1, .int .i64 (reachV x a wr).2.2]) ∧ Below w.heap.size w w' := by
  obtain ⟨fr, b⟩ := x
  cases wr <;> cases b
  all_goals
    unfold pv
    go_enter Try.func57, Try.ntmps57
    go_wp2
    go_ret3
    refine ⟨?_, (Below.refl _ _).alloc (Nat.le_refl _) _⟩
    simp [reachV] <;> go_num

set_option maxHeartbeats 400000 in
theorem new_any (w : World) :
    Calls Try.prog 25 #[] w fun e w' => e = .returned (.pointer (some ⟨w.heap.size + 1, 0, none⟩)) ∧ TblAt w' (w.heap.size + 1) w.heap.size (fun _ => none) ∧ Below w.heap.size w w' := by
  have hmm := @run_makeMap Try.prog
  go_enter Try.func25, Try.ntmps25
  go_wp2
  go_ret
  refine ⟨rfl, ⟨?_, ?_, fun k x h => by cases h⟩, ((Below.refl _ _).alloc (Nat.le_refl _) _).alloc (by simp) _⟩
  · have := heap_alloc_new (w.alloc (.map #[] 0)) (.cells #[.map (some w.heap.size)] 92)
    rw [World.size_alloc] at this
    exact this
  · exact (MapIs.made w .i64).of_block (Below.heap_alloc _ _ _ (by simp))

set_option maxHeartbeats 400000 in
theorem at_nil (k : Int) (w : World) :
    Calls Try.prog 40 #[.pointer none, .int .i64 k] w fun e w' => e = .returned (.tuple #[pv (0, false), .bool false]) ∧ Below w.heap.size w w' := by
  go_enter Try.func40, Try.ntmps40
  go_wp2
  (try simp only [Exit.inBlock, Exit.then])
  refine bodyPost_ret (v := .tuple #[.agg #[.int .i64 0, .bool false], .bool false]) ?_ rfl ⟨rfl, ?_⟩
  · rw [results_cell_tmp rfl]
    go_simp
  · (repeat' (first | exact Below.refl _ _ | refine Below.setCell ?_ (by simp) _ | refine Below.alloc ?_ (by simp) _))

set_option maxHeartbeats 400000 in
theorem at_at (t mb : Nat) (f : Int → Option (Int × Bool)) (k : Int) (w : World) (h : TblAt w t mb f) :
    Calls Try.prog 40 #[.pointer (some ⟨t, 0, none⟩), .int .i64 k] w fun e w' => e = .returned (.tuple #[pv ((f k).getD (0, false)), .bool (f k).isSome]) ∧ Below w.heap.size w w' := by
  have hl : ∀ o, (Instr.lookup 90 (.map (some mb)) (.int .i64 k) true).run Try.prog (w.alloc o) = .ok (.tuple #[pv ((f k).getD (0, false)), .bool (f k).isSome]) (w.alloc o) := by
    intro o
    have := (h.map.of_block (Below.heap_alloc w o _ h.mlt)).look (P := Try.prog) (t := 90) (k := 3) (e := 39) Try.underlying90 Try.underlying3 (zeroPage _) k
    rw [this]
    cases f k <;> rfl
  have hc : w.cell? ⟨t, 0, none⟩ = some (.map (some mb)) := by rw [cell_of_heap h.head]; rfl
  have hlt := h.lt
  clear h
  generalize f k = r at hl ⊢
  unfold pv at hl ⊢
  go_enter Try.func40, Try.ntmps40
  go_wp2
  (try simp only [Exit.inBlock, Exit.then])
  refine bodyPost_ret (v := .tuple #[.agg #[.int .i64 (r.getD (0, false)).1, .bool (r.getD (0, false)).2], .bool r.isSome]) ?_ rfl ⟨rfl, ?_⟩
  · rw [results_cell_tmp rfl]
    go_simp
  · (repeat' (first | exact Below.refl _ _ | refine Below.setCell ?_ (by simp) _ | refine Below.alloc ?_ (by simp) _))

end Mu
end Go.Proofs.Ytimioliaefkpfaa
