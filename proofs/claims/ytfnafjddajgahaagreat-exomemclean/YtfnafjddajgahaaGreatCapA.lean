/- The small functions of package caps. -/
import Derived.Test.YtfnafjddajgahaaGreatRows
import Derived.Test.YtfnafjddajgahaaGreatPlain
import Derived.Test.YtfnafjddajgahaaGreatCapM
import Derived.WalkKit
import Derived.WalkSpells
import Derived.WalkLawsBesides
import Derived.Deep.RegionHeld3
import Derived.Deep.QuietTactic
import Derived.Laws.StructEq
namespace Go.Proofs.YtfnafjddajgahaaGreat
open Go.RowKit
namespace Ca
set_option linter.unusedVariables false

abbrev cpRow (x : Cp) : Array Value := #[.int .i64 x.kind, .int .i64 x.id, .int .i64 x.len, .int .i64 x.rights]
theorem ret_bool {x y : Bool} (h : x = y) : Ending.returned (.bool x) = Ending.returned (.bool y) := by rw [h]
theorem below_alloc (w : World) (o : Obj) : Below w.heap.size w (w.alloc o) := (Below.refl _ _).alloc (Nat.le_refl _) _

theorem isEnv_at (n : Int) (w : World) :
    Calls Tryz.prog 90 #[.int .i64 n] w fun e w' => e = .returned (.bool (isE n)) ∧ w' = w := by
  go_enter Tryz.func90, Tryz.ntmps90
  go_wp2
  all_goals
    go_ret
    refine ⟨ret_bool ?_, rfl⟩
    simp [isE]
    try omega

theorem areRights_at (n : Int) (w : World) :
    Calls Tryz.prog 112 #[.int .i64 n] w fun e w' => e = .returned (.bool (areR n)) ∧ w' = w := by
  go_enter Tryz.func112, Tryz.ntmps112
  go_wp2
  all_goals
    go_ret
    refine ⟨ret_bool ?_, rfl⟩
    simp [areR]
    try omega

theorem mayBeLong_at (k n : Int) (w : World) :
    Calls Tryz.prog 111 #[.int .i64 k, .int .i64 n] w fun e w' => e = .returned (.bool (longOk k n)) ∧ w' = w := by
  go_enter Tryz.func111, Tryz.ntmps111
  go_wp2
  all_goals
    go_ret
    refine ⟨ret_bool ?_, rfl⟩
    simp_all [longOk]
    try omega

theorem cap_cells {w : World} {g : Nat} {x : Cp} {t : TypeId} (h : w.heap[g]? = some (.cells (cpRow x) t)) :
    w.cell? ⟨g, 0, none⟩ = some (.int .i64 x.kind) ∧ w.cell? ⟨g, 1, none⟩ = some (.int .i64 x.id) ∧ w.cell? ⟨g, 2, none⟩ = some (.int .i64 x.len) ∧ w.cell? ⟨g, 3, none⟩ = some (.int .i64 x.rights) :=
  ⟨by rw [cell_of_heap h]; rfl, by rw [cell_of_heap h]; rfl, by rw [cell_of_heap h]; rfl, by rw [cell_of_heap h]; rfl⟩

theorem mayBe_at (x : Cp) (w : World) :
    Calls Tryz.prog 91 #[.agg (cpRow x)] w fun e w' => e = .returned (.bool (mayB x)) ∧ Below w.heap.size w w' := by
  obtain ⟨W, hW⟩ : ∃ W, W = w.alloc (.cells (cpRow x) 95) := ⟨_, rfl⟩
  have HB : Hid (Below w.heap.size w W) := by rw [hW]; exact below_alloc _ _
  have HI : W.heap[w.heap.size]? = some (.cells (cpRow x) 95) := by rw [hW]; exact heap_alloc_new _ _
  obtain ⟨c0, c1, c2, c3⟩ := cap_cells HI
  clear HI
  obtain ⟨k, i, l, r⟩ := x
  dsimp only [cpRow] at *
  have hlong := mayBeLong_at k l
  have hr := areRights_at r
  have HM : Hid (∀ b, longOk k l = b → mayB ⟨k, i, l, r⟩ = (b && decide (0 ≤ i) && decide (i ≤ 1048576) && areR r)) := by
    intro b hb
    simp [mayB, hb]
  generalize longOk k l = A at *
  generalize areR r = B at *
  generalize mayB ⟨k, i, l, r⟩ = M at *
  go_enter Tryz.func91, Tryz.ntmps91
  go_wp2_with fail
  rw [← hW]
  clear hW
  refine (hlong W).mono ?_
  rintro e w1 ⟨rfl, rfl⟩
  go_wp2_with (go_at_call 112; refine (hr _).mono ?_; rintro e w1 ⟨rfl, rfl⟩)
  all_goals
    go_ret
    refine ⟨ret_bool ?_, HB.out⟩
    rw [HM.out _ rfl]
    simp_all
    try omega

theorem below_alloc2 (w : World) (o o' : Obj) : Below w.heap.size w ((w.alloc o).alloc o') := (below_alloc w o).trans ((below_alloc _ _).mono (by simp))

theorem mayGive_at (x : Cp) (q : Int) (w : World) :
    Calls Tryz.prog 104 #[.agg (cpRow x), .int .i64 q] w fun e w' => e = .returned (.bool (mayG x q)) ∧ Below w.heap.size w w' := by
  obtain ⟨k, i, l, r⟩ := x
  dsimp only [cpRow] at *
  have hr := areRights_at q
  have HM : Hid (mayG ⟨k, i, l, r⟩ q = ((bits .and .i64 r 4 != 0) && areR q && (bits .andNot .i64 q r == 0))) := rfl
  generalize areR q = B at *
  generalize mayG ⟨k, i, l, r⟩ q = M at *
  go_enter Tryz.func104, Tryz.ntmps104
  go_wp2_with (go_at_call 112; refine (hr _).mono ?_; rintro e w1 ⟨rfl, rfl⟩)
  all_goals
    go_ret
    refine ⟨ret_bool ?_, below_alloc _ _⟩
    rw [HM.out]
    simp_all

theorem covers_at (x : Cp) (K I : Int) (w : World) (hx : Sane x) (hI : I64 I) :
    Calls Tryz.prog 113 #[.agg (cpRow x), .int .i64 K, .int .i64 I] w fun e w' => e = .returned (.bool (coversB x K I)) ∧ Below w.heap.size w w' := by
  obtain ⟨k, i, l, r⟩ := x
  obtain ⟨h1, h2, h3, h4, h5, h6, h7, h8⟩ := hx
  obtain ⟨i1, i2⟩ := hI
  dsimp only [cpRow] at *
  go_enter Tryz.func113, Tryz.ntmps113
  go_wp2
  all_goals
    go_ret
    refine ⟨ret_bool ?_, below_alloc _ _⟩
    simp_all [coversB]
    try omega

theorem meets_at (x y : Cp) (w : World) (hx : Sane x) (hy : Sane y) :
    Calls Tryz.prog 114 #[.agg (cpRow x), .agg (cpRow y)] w fun e w' => e = .returned (.bool (meetsB x y)) ∧ Below w.heap.size w w' := by
  obtain ⟨k, i, l, r⟩ := x
  obtain ⟨h1, h2, h3, h4, h5, h6, h7, h8⟩ := hx
  obtain ⟨k', i', l', r'⟩ := y
  obtain ⟨g1, g2, g3, g4, g5, g6, g7, g8⟩ := hy
  dsimp only [cpRow] at *
  go_enter Tryz.func114, Tryz.ntmps114
  go_wp2
  all_goals
    go_ret
    refine ⟨ret_bool ?_, below_alloc2 _ _ _⟩
    simp_all [meetsB]
    try omega
end Ca
end Go.Proofs.YtfnafjddajgahaaGreat
