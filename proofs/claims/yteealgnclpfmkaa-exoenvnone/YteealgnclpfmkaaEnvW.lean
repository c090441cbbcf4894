/- januslaw10's awake: true in every world; a deed as cells. -/
import Derived.Test.YteealgnclpfmkaaEnvD
import Derived.Test.YteealgnclpfmkaaKinds
namespace Go.Proofs.Yteealgnclpfmkaa
open Go.ChangeShapes Go.WideShapes Go.ChangeAt Go.RowKit
set_option linter.unusedVariables false

/-- All that was there is as it was: what was written came later. -/
theorem mine_below {b g : Nat} {w w1 w2 : World} (h : Below w.heap.size w w1) (hu : UpdP (Mine b g) w1 w2) (hb : w.heap.size ≤ b) (hg : w.heap.size ≤ g) : Below w.heap.size w w2 :=
  h.trans (hu.below (by rintro k (rfl | rfl) <;> omega) h.size)

theorem below_drewN {B : Nat} {a w : World} (h : Below B a w) (n : Nat) : Below B a (w.drewN n) := h.trans ⟨rfl, rfl, rfl, Nat.le_refl _, fun _ _ => rfl⟩

def q1 : ES := createT E0 3
def u0 : List Int := [-1, -1]
def u1 : List Int := sliceV q1 u0 1 3
def q2 : ES := faultT q1 3 9
def q3 : ES := faultT q2 3 9
def q4 : ES := upT q3 3
def q5 : ES := killT q4 3
def u2 : List Int := killV q4 u1 3
theorem k_create : createR E0 3 = 0 := by kernel_rfl
theorem k_slice : sliceR q1 u0 1 3 = 0 := by kernel_rfl
theorem k_pick5 : pickA u1 5 = 3 := by kernel_rfl
theorem k_pick0 : pickA u1 0 = -1 := by kernel_rfl
theorem k_fault : faultR q1 3 = 0 := by kernel_rfl
theorem k_fault2 : faultR q2 3 = 105 := by kernel_rfl
theorem k_up : upA q3 3 = 9 ∧ upB q3 3 = true := ⟨by kernel_rfl, by kernel_rfl⟩
theorem k_kill : killR q4 3 = 0 := by kernel_rfl
theorem k_pick1 : pickA u2 1 = -1 := by kernel_rfl
theorem k_pickm : pickA u2 (-1) = -1 := by kernel_rfl

set_option maxHeartbeats 2000000 in
theorem awake_at (w : World) :
    Calls Try.prog 26 #[] w fun e w' => e = .returned (.bool true) ∧ Below w.heap.size w w' := by
  go_enter Try.func26, Try.ntmps26
  go_wp2_with fail
  refine (new_yes 2 w (by omega) (by omega)).mono ?_
  rintro e w1 ⟨rfl, hE, hB, hsz⟩
  obtain ⟨b, hbq⟩ : ∃ b, b = w.heap.size + 1 := ⟨_, rfl⟩
  obtain ⟨g, hgq⟩ : ∃ g, g = w.heap.size := ⟨_, rfl⟩
  rw [← hbq] at hE ⊢
  have HE0 : Hid (EnvAt w1 b g E0 u0) := by rw [hgq]; exact hE
  have hbb : w.heap.size ≤ b := by omega
  have hgg : w.heap.size ≤ g := by omega
  have HB0 : Hid (Below w.heap.size w w1) := hB
  have hne := ptr_eq b
  clear hE hB hsz hbq hgq
  go_wp2_with fail
  refine (create_at b g E0 u0 3 w1 HE0.out).mono ?_
  rw [k_create]
  rintro e w2 ⟨rfl, hE, hU⟩
  have HE : Hid (EnvAt w2 b g q1 u0) := hE
  have HB : Hid (Below w.heap.size w w2) := mine_below HB0.out hU hbb hgg
  clear hE hU HE0 HB0
  go_wp2_with fail
  refine (slice_at b g q1 u0 1 3 w2 HE.out).mono ?_
  rw [k_slice]
  rintro e w3 ⟨rfl, hE, hU⟩
  have HE3 : Hid (EnvAt w3 b g q1 u1) := hE
  have HB3 : Hid (Below w.heap.size w w3) := mine_below HB.out hU hbb hgg
  clear hE hU HE HB
  go_wp2_with fail
  refine (pick_at b g q1 u1 5 w3 HE3.out).mono ?_
  rw [k_pick5]
  rintro e w4 ⟨rfl, hw⟩
  rw [hw]
  clear hw w4
  go_wp2_with fail
  refine (pick_at b g q1 u1 0 w3 HE3.out).mono ?_
  rw [k_pick0]
  rintro e w4 ⟨rfl, hw⟩
  rw [hw]
  clear hw w4
  go_wp2_with fail
  refine (fault_at b g q1 u1 3 9 w3 HE3.out).mono ?_
  rw [k_fault]
  rintro e w4 ⟨rfl, hE, hU⟩
  have HE : Hid (EnvAt w4 b g q2 u1) := hE
  have HB : Hid (Below w.heap.size w w4) := mine_below HB3.out hU hbb hgg
  clear hE hU HE3 HB3
  go_wp2_with fail
  refine (fault_at b g q2 u1 3 9 w4 HE.out).mono ?_
  rw [k_fault2]
  rintro e w5 ⟨rfl, hE, hU⟩
  have HE5 : Hid (EnvAt w5 b g q3 u1) := hE
  have HB5 : Hid (Below w.heap.size w w5) := mine_below HB.out hU hbb hgg
  clear hE hU HE HB
  go_wp2_with fail
  refine (upcall_at b g q3 u1 3 w5 HE5.out).mono ?_
  rw [k_up.1, k_up.2]
  rintro e w6 ⟨rfl, hE, hU⟩
  have HE6 : Hid (EnvAt w6 b g q4 u1) := hE
  have HB6 : Hid (Below w.heap.size w w6) := mine_below HB5.out hU hbb hgg
  clear hE hU HE5 HB5
  go_wp2_with fail
  refine (kill_at b g q4 u1 3 w6 HE6.out).mono ?_
  rw [k_kill]
  rintro e w7 ⟨rfl, hE, hU⟩
  have HE7 : Hid (EnvAt w7 b g q5 u2) := hE
  have HB7 : Hid (Below w.heap.size w w7) := mine_below HB6.out hU hbb hgg
  clear hE hU HE6 HB6
  go_wp2_with fail
  refine (pick_at b g q5 u2 1 w7 HE7.out).mono ?_
  rw [k_pick1]
  rintro e w8 ⟨rfl, hw⟩
  rw [hw]
  clear hw w8
  go_wp2_with fail
  refine (pick_at b g q5 u2 (-1) w7 HE7.out).mono ?_
  rw [k_pickm]
  rintro e w8 ⟨rfl, hw⟩
  rw [hw]
  clear hw w8
  go_wp2
  go_ret
  exact ⟨rfl, HB7.out⟩

structure Deed where
  kind : Int
  env : Int
  n : Int
  addr : Int
abbrev deedRow (d : Deed) : Array Value := #[.int .i64 d.kind, .int .i64 d.env, .int .i64 d.n, .int .u64 d.addr]
theorem deedCells {w : World} {g : Nat} {d : Deed} {t : TypeId} (h : w.heap[g]? = some (.cells (deedRow d) t)) :
    w.cell? ⟨g, 0, none⟩ = some (.int .i64 d.kind) ∧ w.cell? ⟨g, 1, none⟩ = some (.int .i64 d.env) ∧ w.cell? ⟨g, 2, none⟩ = some (.int .i64 d.n) ∧ w.cell? ⟨g, 3, none⟩ = some (.int .u64 d.addr) := by
  refine ⟨?_, ?_, ?_, ?_⟩ <;> (rw [cell_of_heap h]; rfl)
abbrev deedCK : List CK := [.i .i64, .i .i64, .i .i64, .i .u64]
theorem deedKinds : kindsOf Try.prog 9 29 = some deedCK := by kernel_rfl
theorem deedSize : Try.prog.cellsOf 29 = 4 := by kernel_rfl
theorem deedOf {l : List Value} (h : Fits deedCK l) : ∃ d : Deed, l = (deedRow d).toList := by
  obtain ⟨_, _, rfl, ⟨a, rfl, ha⟩, _, _, rfl, ⟨b, rfl, hb⟩, _, _, rfl, ⟨c, rfl, hc⟩, _, _, rfl, ⟨d, rfl, hd⟩, rfl⟩ := h
  exact ⟨⟨a, b, c, d⟩, rfl⟩
/-- A slice at a0 holds so many deeds. -/
def DeedAt (w : World) (gb o : Nat) (d : Deed) : Prop :=
  w.cell? ⟨gb, o, none⟩ = some (.int .i64 d.kind) ∧ w.cell? ⟨gb, o + 1, none⟩ = some (.int .i64 d.env) ∧ w.cell? ⟨gb, o + 2, none⟩ = some (.int .i64 d.n) ∧ w.cell? ⟨gb, o + 3, none⟩ = some (.int .u64 d.addr)
theorem DeedAt.below {w w' : World} {gb o : Nat} {d : Deed} (h : DeedAt w gb o d) (hb : Below w.heap.size w w') : DeedAt w' gb o d := by
  obtain ⟨a0, a1, a2, a3⟩ := h
  exact ⟨(hb.cell (cell_lt a0)).trans a0, (hb.cell (cell_lt a1)).trans a1, (hb.cell (cell_lt a2)).trans a2, (hb.cell (cell_lt a3)).trans a3⟩
def DeedsAt (w : World) (a0 : Option Addr) (len : Nat) : Prop := ∀ j, j < len → ∃ gb off d, a0 = some ⟨gb, off, none⟩ ∧ DeedAt w gb (off + j * 4) d
theorem DeedsAt.below {w w' : World} {a0 : Option Addr} {len : Nat} (h : DeedsAt w a0 len) (hb : Below w.heap.size w w') : DeedsAt w' a0 len := by
  intro j hj
  obtain ⟨gb, off, d, e, hc⟩ := h j hj
  exact ⟨gb, off, d, e, hc.below hb⟩
theorem deeds_of {w : World} {a0 : Option Addr} {len : Nat} (h : ∀ j, j < len → ∃ gb off cs, a0 = some ⟨gb, off, none⟩ ∧ Fits deedCK cs ∧ ∀ i u, cs[i]? = some u → w.cell? ⟨gb, off + j * 4 + i, none⟩ = some u) : DeedsAt w a0 len := by
  intro j hj
  obtain ⟨gb, off, cs, ea, hfit, hcell⟩ := h j hj
  obtain ⟨d, rfl⟩ := deedOf hfit
  exact ⟨gb, off, d, ea, hcell 0 _ rfl, hcell 1 _ rfl, hcell 2 _ rfl, hcell 3 _ rfl⟩
end Go.Proofs.Yteealgnclpfmkaa
