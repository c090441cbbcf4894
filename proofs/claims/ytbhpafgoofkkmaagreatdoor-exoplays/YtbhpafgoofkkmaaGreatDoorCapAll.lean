import Derived.Test.YtbhpafgoofkkmaaGreatDoorPlain
import Derived.Test.YtbhpafgoofkkmaaGreatDoorRows
import Derived.WalkKit
import Derived.WalkSpells
import Derived.WalkLawsBesides
import Derived.Deep.RegionHeld3
import Derived.Deep.QuietTactic
import Derived.Laws.StructEq
import Derived.BigRegion
import Derived.Deep.AppendLies
import Derived.BigQuiet
import Derived.Laws.AppendOwnNone
import Derived.Test.YtbhpafgoofkkmaaGreatDoorKinds
set_option linter.all false
namespace Go.Proofs.YtbhpafgoofkkmaaGreatDoor
open Go.RowKit
namespace Ca
structure Cp where
 kind : Int
 id : Int
 len : Int
 rights : Int
structure Hd where
 x : Cp
 e : Int
 s : Int
abbrev Cp.no : Cp := ⟨0, 0, 0, 0⟩
abbrev Hd.no : Hd := ⟨⟨0, 0, 0, 0⟩, 0, 0⟩
abbrev Tab := Nat → Hd
def Tab.set (T : Tab) (j : Nat) (h : Hd) : Tab := fun i => if i = j then h else T i
theorem Tab.set_same (T : Tab) (j : Nat) (h : Hd) : T.set j h j = h := by simp [Tab.set]
theorem Tab.set_other (T : Tab) (j i : Nat) (h : Hd) (hn : i ≠ j) : T.set j h i = T i := by simp [Tab.set, hn]
def Hd.get (h : Hd) : Nat → Int
 | 0 => h.x.kind
 | 1 => h.x.id
 | 2 => h.x.len
 | 3 => h.x.rights
 | 4 => h.e
 | _ => h.s
def isE (n : Int) : Bool := decide (0 ≤ n) && decide (n < 12)
def areR (r : Int) : Bool := decide (1 ≤ r) && decide (r ≤ 7)
def longOk (k n : Int) : Bool := (k == 1 && n == 1) || (k == 2 && decide (1 ≤ n) && decide (n ≤ 1048576))
def mayB (x : Cp) : Bool := longOk x.kind x.len && decide (0 ≤ x.id) && decide (x.id ≤ 1048576) && areR x.rights
def among (r q : Int) : Bool := bits .andNot .i64 r q == 0
def mayG (x : Cp) (r : Int) : Bool := (bits .and .i64 x.rights 4 != 0) && areR r && among r x.rights
def coversB (x : Cp) (k i : Int) : Bool := x.kind == k && decide (x.id ≤ i) && decide (i - x.id < x.len)
def meetsB (x y : Cp) : Bool := x.kind == y.kind && decide (x.id < y.id + y.len) && decide (y.id < x.id + x.len)
structure Sane (x : Cp) : Prop where
 k0 : 0 ≤ x.kind
 k1 : x.kind ≤ 2
 i0 : 0 ≤ x.id
 i1 : x.id ≤ 1048576
 l0 : 0 ≤ x.len
 l1 : x.len ≤ 1048576
 r0 : 0 ≤ x.rights
 r1 : x.rights ≤ 7
theorem Sane.no : Sane Cp.no := ⟨by decide, by decide, by decide, by decide, by decide, by decide, by decide, by decide⟩
theorem mayB_sane {x : Cp} (h : mayB x = true) : Sane x := by
 simp only [mayB, longOk, areR, Bool.and_eq_true, Bool.or_eq_true, decide_eq_true_eq, beq_iff_eq] at h
 obtain ⟨⟨⟨h1, h2⟩, h3⟩, h4, h5⟩ := h
 constructor <;> omega
def I64 (n : Int) : Prop := -9223372036854775808 ≤ n ∧ n ≤ 9223372036854775807
end Ca
end Go.Proofs.YtbhpafgoofkkmaaGreatDoor
namespace Go.Proofs.YtbhpafgoofkkmaaGreatDoor
open Go.RowKit
namespace Ca
abbrev cpRow (x : Cp) : Array Value := #[.int .i64 x.kind, .int .i64 x.id, .int .i64 x.len, .int .i64 x.rights]
theorem ret_bool {x y : Bool} (h : x = y) : Ending.returned (.bool x) = Ending.returned (.bool y) := by rw [h]
theorem below_alloc (w : World) (o : Obj) : Below w.heap.size w (w.alloc o) := (Below.refl _ _).alloc (Nat.le_refl _) _
theorem isEnv_at (n : Int) (w : World) :
  Calls Tryz.prog 164 #[.int .i64 n] w fun e w' => e = .returned (.bool (isE n)) ∧ w' = w := by
 go_enter Tryz.func164, Tryz.ntmps164
 go_wp2
 all_goals
  go_ret
  refine ⟨ret_bool ?_, rfl⟩
  simp [isE]
  try omega
theorem areRights_at (n : Int) (w : World) :
  Calls Tryz.prog 184 #[.int .i64 n] w fun e w' => e = .returned (.bool (areR n)) ∧ w' = w := by
 go_enter Tryz.func184, Tryz.ntmps184
 go_wp2
 all_goals
  go_ret
  refine ⟨ret_bool ?_, rfl⟩
  simp [areR]
  try omega
theorem mayBeLong_at (k n : Int) (w : World) :
  Calls Tryz.prog 183 #[.int .i64 k, .int .i64 n] w fun e w' => e = .returned (.bool (longOk k n)) ∧ w' = w := by
 go_enter Tryz.func183, Tryz.ntmps183
 go_wp2
 all_goals
  go_ret
  refine ⟨ret_bool ?_, rfl⟩
  simp_all [longOk]
  try omega
theorem cap_cells {w : World} {g : Nat} {x : Cp} {t : TypeId} (h : w.heap[g]? = some (.cells (cpRow x) t)) :
  w.cell? ⟨g, 0, none⟩ = some (.int .i64 x.kind) ∧ w.cell? ⟨g, 1, none⟩ = some (.int .i64 x.id) ∧ w.cell? ⟨g, 2, none⟩ = some (.int .i64 x.len) ∧ w.cell? ⟨g, 3, none⟩ = some (.int .i64 x.rights) :=
 ⟨by rw [cell_of_heap h]; rfl, by rw [cell_of_heap h]; rfl, by rw [cell_of_heap h]; rfl, by rw [cell_of_heap h]; rfl⟩
theorem mayBe_at (x : Cp) (w : World) :
  Calls Tryz.prog 165 #[.agg (cpRow x)] w fun e w' => e = .returned (.bool (mayB x)) ∧ Below w.heap.size w w' := by
 obtain ⟨W, hW⟩ : ∃ W, W = w.alloc (.cells (cpRow x) 97) := ⟨_, rfl⟩
 have HB : Hid (Below w.heap.size w W) := by rw [hW]; exact below_alloc _ _
 have HI : W.heap[w.heap.size]? = some (.cells (cpRow x) 97) := by rw [hW]; exact heap_alloc_new _ _
 obtain ⟨c0, c1, c2, c3⟩ := cap_cells HI
 clear HI
 obtain ⟨k, i, l, r⟩ := x
 dsimp only [cpRow] at *
 have hlong := mayBeLong_at k l
 have hr := areRights_at r
 have HM : Hid (∀ b, longOk k l = b → mayB ⟨k, i, l, r⟩ = (b && decide (0 ≤ i) && decide (i ≤ 1048576) && areR r)) := by
  intro b hb
  simp [mayB, hb]
 generalize longOk k l = A at *
 generalize areR r = B at *
 generalize mayB ⟨k, i, l, r⟩ = M at *
 go_enter Tryz.func165, Tryz.ntmps165
 go_wp2_with fail
 rw [← hW]
 clear hW
 refine (hlong W).mono ?_
 rintro e w1 ⟨rfl, rfl⟩
 go_wp2_with (go_at_call 184; refine (hr _).mono ?_; rintro e w1 ⟨rfl, rfl⟩)
 all_goals
  go_ret
  refine ⟨ret_bool ?_, HB.out⟩
  rw [HM.out _ rfl]
  simp_all
  try omega
theorem below_alloc2 (w : World) (o o' : Obj) : Below w.heap.size w ((w.alloc o).alloc o') := (below_alloc w o).trans ((below_alloc _ _).mono (by simp))
theorem mayGive_at (x : Cp) (q : Int) (w : World) :
  Calls Tryz.prog 167 #[.agg (cpRow x), .int .i64 q] w fun e w' => e = .returned (.bool (mayG x q)) ∧ Below w.heap.size w w' := by
 obtain ⟨k, i, l, r⟩ := x
 dsimp only [cpRow] at *
 have hr := areRights_at q
 have HM : Hid (mayG ⟨k, i, l, r⟩ q = ((bits .and .i64 r 4 != 0) && areR q && (bits .andNot .i64 q r == 0))) := rfl
 generalize areR q = B at *
 generalize mayG ⟨k, i, l, r⟩ q = M at *
 go_enter Tryz.func167, Tryz.ntmps167
 go_wp2_with (go_at_call 184; refine (hr _).mono ?_; rintro e w1 ⟨rfl, rfl⟩)
 all_goals
  go_ret
  refine ⟨ret_bool ?_, below_alloc _ _⟩
  rw [HM.out]
  simp_all
theorem covers_at (x : Cp) (K I : Int) (w : World) (hx : Sane x) (hI : I64 I) :
  Calls Tryz.prog 186 #[.agg (cpRow x), .int .i64 K, .int .i64 I] w fun e w' => e = .returned (.bool (coversB x K I)) ∧ Below w.heap.size w w' := by
 obtain ⟨k, i, l, r⟩ := x
 obtain ⟨h1, h2, h3, h4, h5, h6, h7, h8⟩ := hx
 obtain ⟨i1, i2⟩ := hI
 dsimp only [cpRow] at *
 go_enter Tryz.func186, Tryz.ntmps186
 go_wp2
 all_goals
  go_ret
  refine ⟨ret_bool ?_, below_alloc _ _⟩
  simp_all [coversB]
  try omega
theorem meets_at (x y : Cp) (w : World) (hx : Sane x) (hy : Sane y) :
  Calls Tryz.prog 185 #[.agg (cpRow x), .agg (cpRow y)] w fun e w' => e = .returned (.bool (meetsB x y)) ∧ Below w.heap.size w w' := by
 obtain ⟨k, i, l, r⟩ := x
 obtain ⟨h1, h2, h3, h4, h5, h6, h7, h8⟩ := hx
 obtain ⟨k', i', l', r'⟩ := y
 obtain ⟨g1, g2, g3, g4, g5, g6, g7, g8⟩ := hy
 dsimp only [cpRow] at *
 go_enter Tryz.func185, Tryz.ntmps185
 go_wp2
 all_goals
  go_ret
  refine ⟨ret_bool ?_, below_alloc2 _ _ _⟩
  simp_all [meetsB]
  try omega
end Ca
end Go.Proofs.YtbhpafgoofkkmaaGreatDoor
namespace Go.Proofs.YtbhpafgoofkkmaaGreatDoor
open Go.RowKit
namespace Ca
def zcells : Array Value := Array.replicate 4608 (.int .i64 0)
theorem zcells_size : zcells.size = 4608 := by simp [zcells]
theorem capsInfo : (Tryz.prog.info? 250).map (fun i => (i.zero, i.size, i.bytes)) = some (some (.agg zcells), 4608, 36864) := by kernel_rfl
structure CapsAt (w : World) (b : Nat) (T : Tab) : Prop where
 head : ∃ row : Array Value, w.heap[b]? = some (.cells row 250) ∧ row.size = 4608 ∧ ∀ j, j < 768 → ∀ k, k < 6 → row[j * 6 + k]? = some (.int .i64 ((T j).get k))
theorem CapsAt.lt {w : World} {b : Nat} {T : Tab} (h : CapsAt w b T) : b < w.heap.size := by
 obtain ⟨row, hr, _⟩ := h.head
 exact lt_of_heap hr
theorem CapsAt.keep {w w' : World} {b : Nat} {T : Tab} (h : CapsAt w b T) (hb : w'.heap[b]? = w.heap[b]?) : CapsAt w' b T := by
 obtain ⟨row, hr, h1, h2⟩ := h.head
 exact ⟨row, hb.trans hr, h1, h2⟩
theorem CapsAt.below {w w' : World} {b : Nat} {T : Tab} (h : CapsAt w b T) (hb : Below w.heap.size w w') : CapsAt w' b T := h.keep (hb.block _ h.lt)
theorem CapsAt.free {w : World} {b : Nat} {T : Tab} (h : CapsAt w b T) (o : Nat) : w.frozen? ⟨b, o, none⟩ = false := by
 obtain ⟨row, hr, _⟩ := h.head
 exact frozen_of_heap hr
theorem CapsAt.cell {w : World} {b : Nat} {T : Tab} (h : CapsAt w b T) {j k o : Nat} (hj : j < 768) (hk : k < 6) (ho : o = j * 6 + k) : w.cell? ⟨b, o, none⟩ = some (.int .i64 ((T j).get k)) := by
 obtain ⟨row, hr, _, h2⟩ := h.head
 rw [cell_of_heap hr, ho]
 exact h2 j hj k hk
theorem CapsAt.set {w : World} {b : Nat} {T : Tab} (h : CapsAt w b T) {j k o : Nat} (hj : j < 768) (hk : k < 6) (ho : o = j * 6 + k) (v : Int) (H : Hd) (h1 : H.get k = v) (h2 : ∀ i, i < 6 → i ≠ k → H.get i = (T j).get i) :
  CapsAt (w.setCell ⟨b, o, none⟩ (.int .i64 v)) b (T.set j H) := by
 obtain ⟨row, hr, hs, hc⟩ := h.head
 subst ho
 refine ⟨row.setIfInBounds (j * 6 + k) (.int .i64 v), ?_, by simp [hs], fun i hi m hm => ?_⟩
 ·rw [setCell_eq_setRow w b _ _ _ _ _ hr, setRow_heap w b _ _ _ _ hr]
 ·rw [Array.getElem?_setIfInBounds]
  by_cases he : j * 6 + k = i * 6 + m
  ·have hij : i = j := by omega
   have hmk : m = k := by omega
   subst hij hmk
   rw [if_pos he, if_pos (by omega), Tab.set_same, h1]
  ·rw [if_neg he]
   by_cases hij : i = j
   ·subst hij
    rw [Tab.set_same, h2 m hm (by omega)]
    exact hc i hi m hm
   ·rw [Tab.set_other _ _ _ _ hij]
    exact hc i hi m hm
theorem new_at (w : World) :
  Calls Tryz.prog 114 #[] w fun e w' => e = .returned (.pointer (some ⟨w.heap.size, 0, none⟩)) ∧ CapsAt w' w.heap.size (fun _ => Hd.no) ∧ Below w.heap.size w w' ∧ w'.heap.size = w.heap.size + 1 := by
 have hz : (zeroValue 250).run Tryz.prog w = .ok (.agg zcells) w := by
  obtain ⟨i, hi, hh⟩ := Option.map_eq_some_iff.1 capsInfo
  simp only [Prod.mk.injEq] at hh
  simp [zeroValue, typeInfo, hi, hh.1]
 go_enter Tryz.func114, Tryz.ntmps114
 go_wp2
 go_ret
 refine ⟨rfl, ⟨zcells, heap_alloc_new _ _, zcells_size, fun j hj k hk => ?_⟩, below_alloc _ _, by simp⟩
 unfold zcells
 rw [Array.getElem?_replicate, if_pos (by omega)]
 obtain rfl | rfl | rfl | rfl | rfl | rfl : k = 0 ∨ k = 1 ∨ k = 2 ∨ k = 3 ∨ k = 4 ∨ k = 5 := by omega
 all_goals rfl
def isP (n s : Int) : Bool := isE n && decide (1 ≤ s) && decide (s ≤ 64)
theorem get_no (b : Nat) (n s : Int) (w : World) (h : isP n s = false) :
  Calls Tryz.prog 159 #[.pointer (some ⟨b, 0, none⟩), .int .i64 n, .int .i64 s] w fun e w' => e = .returned (.tuple #[.agg (cpRow Cp.no), .bool false]) ∧ Below w.heap.size w w' := by
 have hE := isEnv_at n
 have HP : Hid _ := h
 unfold isP at HP
 clear h
 by_cases hn : isE n = true
 ·rw [hn] at hE HP
  have HS : s < 1 ∨ 64 < s := by
   have := HP.out
   simp at this
   omega
  clear HP hn
  rcases HS with hs | hs
  ·have g1 : decide (s < 1) = true := decide_eq_true hs
   go_enter Tryz.func159, Tryz.ntmps159
   go_wp2_with (go_at_call 164; refine (hE _).mono ?_; rintro e w1 ⟨rfl, rfl⟩)
   refine bodyPost_ret (v := .tuple #[.agg (cpRow Cp.no), .bool false]) ?_ rfl ⟨rfl, ?_⟩
   ·rw [results_cell_tmp rfl]
    go_simp
   ·exact below_alloc _ _
  ·have g1 : decide (s < 1) = false := decide_eq_false (by omega)
   have g2 : decide (64 < s) = true := decide_eq_true hs
   go_enter Tryz.func159, Tryz.ntmps159
   go_wp2_with (go_at_call 164; refine (hE _).mono ?_; rintro e w1 ⟨rfl, rfl⟩)
   refine bodyPost_ret (v := .tuple #[.agg (cpRow Cp.no), .bool false]) ?_ rfl ⟨rfl, ?_⟩
   ·rw [results_cell_tmp rfl]
    go_simp
   ·exact below_alloc _ _
 ·have hn' : isE n = false := by simpa using hn
  rw [hn'] at hE
  clear HP hn hn'
  go_enter Tryz.func159, Tryz.ntmps159
  go_wp2_with (go_at_call 164; refine (hE _).mono ?_; rintro e w1 ⟨rfl, rfl⟩)
  refine bodyPost_ret (v := .tuple #[.agg (cpRow Cp.no), .bool false]) ?_ rfl ⟨rfl, ?_⟩
  ·rw [results_cell_tmp rfl]
   go_simp
  ·exact below_alloc _ _
def Cp.is (x : Cp) : Bool := !(x.kind == 0 && x.id == 0 && x.len == 0 && x.rights == 0)
theorem cap_neq (k i l r : Int) (W : World) : (binOp .neq 97 (.agg #[.int .i64 k, .int .i64 i, .int .i64 l, .int .i64 r]) (.agg #[.int .i64 0, .int .i64 0, .int .i64 0, .int .i64 0])).run Tryz.prog W = .ok (.bool (Cp.is ⟨k, i, l, r⟩)) W := by
 unfold Cp.is
 by_cases h0 : k = 0 <;> by_cases h1 : i = 0 <;> by_cases h2 : l = 0 <;> by_cases h3 : r = 0 <;> (try subst h0) <;> (try subst h1) <;> (try subst h2) <;> (try subst h3) <;> go_simp <;> simp_all
theorem cap_eql (k i l r : Int) (W : World) : (binOp .eql 97 (.agg #[.int .i64 k, .int .i64 i, .int .i64 l, .int .i64 r]) (.agg #[.int .i64 0, .int .i64 0, .int .i64 0, .int .i64 0])).run Tryz.prog W = .ok (.bool (!Cp.is ⟨k, i, l, r⟩)) W := by
 unfold Cp.is
 by_cases h0 : k = 0 <;> by_cases h1 : i = 0 <;> by_cases h2 : l = 0 <;> by_cases h3 : r = 0 <;> (try subst h0) <;> (try subst h1) <;> (try subst h2) <;> (try subst h3) <;> go_simp <;> simp_all
theorem cell_alloc_old {w : World} {p : Addr} {u : Value} (h : w.cell? p = some u) (o : Obj) : (w.alloc o).cell? p = some u :=
 (below_alloc w o).cell (cell_lt h) ▸ h
set_option maxRecDepth 100000 in
theorem get_yes (b : Nat) (T : Tab) (n s : Nat) (w : World) (h : CapsAt w b T) (hn : n < 12) (hs : s < 64) :
  Calls Tryz.prog 159 #[.pointer (some ⟨b, 0, none⟩), .int .i64 n, .int .i64 (s + 1 : Nat)] w fun e w' => e = .returned (.tuple #[.agg (cpRow (T (n * 64 + s)).x), .bool (T (n * 64 + s)).x.is]) ∧ Below w.heap.size w w' := by
 have hE := isEnv_at n
 rw [show isE n = true from by simp [isE]; omega] at hE
 have c0 := cell_alloc_old (h.cell (j := n * 64 + s) (k := 0) (o := n * 384 + s * 6) (by omega) (by omega) (by omega)) (.cells #[.int .i64 0, .int .i64 0, .int .i64 0, .int .i64 0] 97)
 have c1 := cell_alloc_old (h.cell (j := n * 64 + s) (k := 1) (o := n * 384 + s * 6 + 1) (by omega) (by omega) (by omega)) (.cells #[.int .i64 0, .int .i64 0, .int .i64 0, .int .i64 0] 97)
 have c2 := cell_alloc_old (h.cell (j := n * 64 + s) (k := 2) (o := n * 384 + s * 6 + 2) (by omega) (by omega) (by omega)) (.cells #[.int .i64 0, .int .i64 0, .int .i64 0, .int .i64 0] 97)
 have c3 := cell_alloc_old (h.cell (j := n * 64 + s) (k := 3) (o := n * 384 + s * 6 + 3) (by omega) (by omega) (by omega)) (.cells #[.int .i64 0, .int .i64 0, .int .i64 0, .int .i64 0] 97)
 clear h
 generalize T (n * 64 + s) = H at *
 obtain ⟨⟨k, i, l, r⟩, e, q⟩ := H
 dsimp only [Hd.get] at *
 have g1 : decide ((s : Int) + 1 < 1) = false := decide_eq_false (by omega)
 have g2 : decide (64 < (s : Int) + 1) = false := decide_eq_false (by omega)
 have hneq := cap_neq k i l r
 generalize Cp.is ⟨k, i, l, r⟩ = B at *
 go_enter Tryz.func159, Tryz.ntmps159
 go_wp2_with (go_at_call 164; refine (hE _).mono ?_; rintro e w1 ⟨rfl, rfl⟩)
 clear c0 c1 c2 c3
 go_region
 all_goals
  go_wp2
  refine bodyPost_ret (v := .tuple #[.agg #[.int .i64 k, .int .i64 i, .int .i64 l, .int .i64 r], .bool B]) ?_ rfl ⟨rfl, ?_⟩
  ·rw [results_cell_tmp rfl]
   go_simp
  ·exact (below_alloc2 _ _ _).drew
def getT (T : Tab) (n s : Int) : Cp := if isP n s then (T (n.toNat * 64 + (s.toNat - 1))).x else Cp.no
theorem isP_nat {n s : Int} (h : isP n s = true) : ∃ a c : Nat, n = a ∧ s = (c + 1 : Nat) ∧ a < 12 ∧ c < 64 := by
 simp [isP, isE] at h
 exact ⟨n.toNat, s.toNat - 1, by omega, by omega, by omega, by omega⟩
theorem getT_nat (T : Tab) (a c : Nat) (ha : a < 12) (hc : c < 64) : getT T a (c + 1 : Nat) = (T (a * 64 + c)).x := by
 have : isP a (c + 1 : Nat) = true := by simp [isP, isE]; omega
 unfold getT
 rw [if_pos this]
 simp
theorem getT_no (T : Tab) (n s : Int) (h : isP n s = false) : getT T n s = Cp.no := by unfold getT; rw [h]; rfl
theorem get_at (b : Nat) (T : Tab) (n s : Int) (w : World) (h : CapsAt w b T) :
  Calls Tryz.prog 159 #[.pointer (some ⟨b, 0, none⟩), .int .i64 n, .int .i64 s] w fun e w' => e = .returned (.tuple #[.agg (cpRow (getT T n s)), .bool (getT T n s).is]) ∧ Below w.heap.size w w' := by
 cases hp : isP n s with
 | false =>
  rw [getT_no T n s hp]
  exact get_no b n s w hp
 | true =>
  obtain ⟨a, c, rfl, rfl, ha, hc⟩ := isP_nat hp
  rw [getT_nat T a c ha hc]
  exact get_yes b T a c w h ha hc
end Ca
end Go.Proofs.YtbhpafgoofkkmaaGreatDoor
namespace Go.Proofs.YtbhpafgoofkkmaaGreatDoor
open Go.RowKit
namespace Ca
def ivs (zs : List Int) : List Value := zs.map (Value.int .i64)
theorem ownsRow_at {w w' : World} {base : Nat} {e : TypeId} {size : Nat} {v : Value} {n : Nat} {xs : List Value} (h : w.ownsRow base e size v n xs) (hb : ∀ g, v.ownBlock = some g → w'.heap[g]? = w.heap[g]?) : w'.ownsRow base e size v n xs := by
 obtain ⟨h1, h2⟩ := h
 refine ⟨h1, ?_⟩
 rcases h2 with h2 | ⟨g, cap, cur, hv, hg, hh, r⟩
 ·exact Or.inl h2
 ·exact Or.inr ⟨g, cap, cur, hv, hg, (hb g (by rw [hv]; rfl)).trans hh, r⟩
theorem ownsRow_below {w w' : World} {base : Nat} {e : TypeId} {size : Nat} {v : Value} {n : Nat} {xs : List Value} (h : w.ownsRow base e size v n xs) (hb : Below w.heap.size w w') : w'.ownsRow base e size v n xs :=
 ownsRow_at h (fun g hg => hb.block g (h.lt g hg).2)
theorem intInfo : (Tryz.prog.info? 3).map (fun i => (i.zero, i.size, i.bytes)) = some (some (.int .i64 0), 1, 8) := by kernel_rfl
theorem below_grown {B : Nat} {w w' : World} {v : Value} (h : w.grownBy w' v.ownBlock) (hs : B ≤ w.heap.size) (hv : ∀ g, v.ownBlock = some g → B ≤ g) : Below B w w' :=
 ⟨h.os, h.tape, h.output, h.size, fun k hk => h.block k (by omega) (fun e => by have := hv k e.symm; omega)⟩
theorem ownsRow_low {w : World} {base : Nat} {e : TypeId} {size : Nat} {v : Value} {n : Nat} {xs : List Value} (h : w.ownsRow base e size v n xs) : ∀ g, v.ownBlock = some g → base ≤ g := by
 intro g hg
 rcases h.2 with ⟨e2, _⟩ | ⟨g', cap, cur, e2, hb, _⟩
 ·rw [e2] at hg; simp [Value.ownBlock] at hg
 ·rw [e2] at hg; simp [Value.ownBlock] at hg; omega
def Sanes (T : Tab) : Prop := ∀ j, j < 768 → Sane (T j).x
def hitB (x : Cp) (K I r : Int) : Bool := coversB x K I && among r x.rights
def hasN (T : Tab) (m : Nat) (K I r : Int) : Bool := (List.range 64).any (fun s => hitB (T (m * 64 + s)).x K I r)
def hasB (T : Tab) (n K I r : Int) : Bool := isE n && hasN T n.toNat K I r
theorem hasN_hit {T : Tab} {m s : Nat} {K I r : Int} (hs : s < 64) (h : hitB (T (m * 64 + s)).x K I r = true) : hasN T m K I r = true := by
 unfold hasN
 rw [List.any_eq_true]
 exact ⟨s, by simpa using hs, h⟩
theorem hasN_miss {T : Tab} {m : Nat} {K I r : Int} (h : ∀ s, s < 64 → hitB (T (m * 64 + s)).x K I r = false) : hasN T m K I r = false := by
 unfold hasN
 rw [List.any_eq_false]
 intro s hs
 rw [h s (by simpa using hs)]
 simp
set_option maxRecDepth 100000 in
set_option maxHeartbeats 1000000 in
theorem has_yes (b : Nat) (T : Tab) (m : Nat) (K I r : Int) (w : World) (h : CapsAt w b T) (hS : Sanes T) (hI : I64 I) (hm : m < 12) :
  Calls Tryz.prog 172 #[.pointer (some ⟨b, 0, none⟩), .int .i64 m, .int .i64 K, .int .i64 I, .int .i64 r] w fun e w' => e = .returned (.bool (hasN T m K I r)) ∧ Below w.heap.size w w' := by
 have hE := isEnv_at m
 rw [show isE m = true from by simp [isE]; omega] at hE
 have HH : Hid _ := h
 have HS : Hid _ := hS
 have HI : Hid _ := hI
 clear h hS hI
 go_enter Tryz.func172, Tryz.ntmps172
 go_wp2_with (go_at_call 164; refine (hE _).mono ?_; rintro e w1 ⟨rfl, hw1⟩; rw [hw1]; clear hw1 w1)
 go_loopw [20] (fun s wr => ∃ (k : Nat), k ≤ 64 ∧ s = .int .i64 k ∧ Hid (∀ j, j < k → hitB (T (m * 64 + j)).x K I r = false) ∧ Below w.heap.size w wr) (fun s _ => 64 - (intOf s).toNat)
 case atStart => exact ⟨0, by omega, rfl, (show Hid _ from fun j hj => absurd hj (Nat.not_lt_zero _)), Below.refl _ _⟩
 case round =>
  obtain ⟨k, hk, rfl, HN, hb⟩ := hrel
  by_cases hlt : k < 64
  ·have hC := HH.out.below hb
   have c0 := hC.cell (j := m * 64 + k) (k := 0) (o := m * 384 + k * 6) (by omega) (by omega) (by omega)
   have c1 := hC.cell (j := m * 64 + k) (k := 1) (o := m * 384 + k * 6 + 1) (by omega) (by omega) (by omega)
   have c2 := hC.cell (j := m * 64 + k) (k := 2) (o := m * 384 + k * 6 + 2) (by omega) (by omega) (by omega)
   have c3 := hC.cell (j := m * 64 + k) (k := 3) (o := m * 384 + k * 6 + 3) (by omega) (by omega) (by omega)
   have hcall := fun W => covers_at (T (m * 64 + k)).x K I W (HS.out _ (by omega)) HI.out
   have HY : Hid (hitB (T (m * 64 + k)).x K I r = true → hasN T m K I r = true) := hasN_hit hlt
   have HM : Hid (hitB (T (m * 64 + k)).x K I r = false → ∀ j, j < k + 1 → hitB (T (m * 64 + j)).x K I r = false) := by
    intro hf j hj
    by_cases e : j = k
    ·subst e; exact hf
    ·exact HN.out j (by omega)
   clear hC HN
   unfold hitB at HY HM
   generalize T (m * 64 + k) = H at *
   obtain ⟨⟨x0, x1, x2, x3⟩, e, q⟩ := H
   dsimp only [Hd.get, cpRow] at *
   generalize coversB ⟨x0, x1, x2, x3⟩ K I = B at *
   obtain ⟨W, hW⟩ : ∃ W, W = wr.alloc (.cells #[.int .i64 x0, .int .i64 x1, .int .i64 x2, .int .i64 x3] 97) := ⟨_, rfl⟩
   have hbW : Below wr.heap.size wr W := by rw [hW]; exact below_alloc _ _
   have d3 : W.cell? ⟨wr.heap.size, 3, none⟩ = some (.int .i64 x3) := by
    rw [cell_of_heap (cs := #[.int .i64 x0, .int .i64 x1, .int .i64 x2, .int .i64 x3]) (t := 97) (fr := (0, 0)) (by rw [hW]; exact heap_alloc_new _ _)]
    rfl
   go_wp2_with fail
   rw [← hW]
   clear hW
   refine (hcall W).mono ?_
   rintro e w1 ⟨rfl, hb1⟩
   have d3' : w1.cell? ⟨wr.heap.size, 3, none⟩ = some (.int .i64 x3) := by rw [hb1.cell (cell_lt d3)]; exact d3
   have hbb := hb.trans ((hbW.trans (hb1.mono hbW.size)).mono hb.size)
   clear d3 c0 c1 c2 c3 hcall
   cases B with
   | false =>
    go_wp2
    go_roundw
    case rel => exact ⟨k + 1, by omega, by go_num, HM.out rfl, hbb⟩
    case measure => simp [intOf]; omega
   | true =>
    by_cases ha : bits .andNot .i64 r x3 = 0
    ·have HT := HY.out (by simp [among, ha])
     have hae : (bits .andNot .i64 r x3 == 0) = true := by simp [ha]
     clear HY HM
     go_wp2
     go_ret
     exact ⟨by rw [HT]; rfl, hbb⟩
    ·have HF : Hid _ := HM.out (by simp [among, ha])
     have hae : (bits .andNot .i64 r x3 == 0) = false := by simp [ha]
     clear HY HM
     go_wp2
     go_roundw
     case rel => exact ⟨k + 1, by omega, by go_num, HF.out, hbb⟩
     case measure => simp [intOf]; omega
  ·obtain rfl : k = 64 := by omega
   have HF : Hid (hasN T m K I r = false) := hasN_miss HN.out
   go_wp2
   go_ret
   exact ⟨by rw [HF.out]; rfl, hb⟩
theorem has_at (b : Nat) (T : Tab) (n K I r : Int) (w : World) (h : CapsAt w b T) (hS : Sanes T) (hI : I64 I) :
  Calls Tryz.prog 172 #[.pointer (some ⟨b, 0, none⟩), .int .i64 n, .int .i64 K, .int .i64 I, .int .i64 r] w fun e w' => e = .returned (.bool (hasB T n K I r)) ∧ Below w.heap.size w w' := by
 cases hn : isE n with
 | true =>
  obtain ⟨m, rfl⟩ : ∃ m : Nat, n = m := ⟨n.toNat, by simp [isE] at hn; omega⟩
  have hm : m < 12 := by simp [isE] at hn; omega
  unfold hasB
  rw [hn]
  exact has_yes b T m K I r w h hS hI hm
 | false =>
  unfold hasB
  rw [hn]
  have hE := isEnv_at n
  rw [hn] at hE
  clear hn h hS
  go_enter Tryz.func172, Tryz.ntmps172
  go_wp2_with (go_at_call 164; refine (hE _).mono ?_; rintro e w1 ⟨rfl, rfl⟩)
  go_ret
  exact ⟨rfl, Below.refl _ _⟩
def holdTo (T : Tab) (K I : Int) (k : Nat) : List Int := ((List.range k).filter (fun m => hasN T m K I 0)).map Int.ofNat
theorem holdTo_len (T : Tab) (K I : Int) (k : Nat) : (holdTo T K I k).length ≤ k := by
 unfold holdTo
 rw [List.length_map]
 exact Nat.le_trans (List.length_filter_le _ _) (by simp)
theorem holdTo_yes {T : Tab} {K I : Int} {k : Nat} (h : hasN T k K I 0 = true) : holdTo T K I (k + 1) = holdTo T K I k ++ [(k : Int)] := by
 simp [holdTo, List.range_succ, h]
theorem holdTo_no {T : Tab} {K I : Int} {k : Nat} (h : hasN T k K I 0 = false) : holdTo T K I (k + 1) = holdTo T K I k := by
 simp [holdTo, List.range_succ, h]
set_option maxRecDepth 100000 in
set_option maxHeartbeats 2000000 in
theorem holders_at (b : Nat) (T : Tab) (K I : Int) (w : World) (h : CapsAt w b T) (hS : Sanes T) (hI : I64 I) :
  Calls Tryz.prog 179 #[.pointer (some ⟨b, 0, none⟩), .int .i64 K, .int .i64 I] w fun e w' => ∃ v, e = .returned v ∧ w'.ownsRow w.heap.size 3 1 v (holdTo T K I 12).length (ivs (holdTo T K I 12)) ∧ Below w.heap.size w w' := by
 obtain ⟨i0, hi0, hzz⟩ := Option.map_eq_some_iff.1 intInfo
 simp only [Prod.mk.injEq] at hzz
 obtain ⟨hz0, hz1, hz2⟩ := hzz
 have HH : Hid _ := h
 have HS : Hid _ := hS
 have HI : Hid _ := hI
 clear h hS hI
 go_enter Tryz.func179, Tryz.ntmps179
 go_wp2
 go_loopw [7, 9] (fun s i wr => ∃ (k : Nat) (v : Value), k ≤ 12 ∧ i = .int .i64 k ∧ v = s ∧ wr.ownsRow w.heap.size 3 1 v (holdTo T K I k).length (ivs (holdTo T K I k)) ∧ Below w.heap.size w wr) (fun _ i _ => 12 - (intOf i).toNat)
 case atStart => exact ⟨0, _, by omega, rfl, rfl, World.ownsRow_nil _ _ _ _, Below.refl _ _⟩
 case round =>
  obtain ⟨k, v, hk, rfl, rfl, hown, hb⟩ := hrel
  by_cases hlt : k < 12
  ·have ha := has_yes b T k K I 0 wr (HH.out.below hb) HS.out HI.out hlt
   have hle := holdTo_len T K I k
   have h1 := hb.size
   cases hf : hasN T k K I 0 with
   | false =>
    rw [hf] at ha
    have HF : Hid _ := holdTo_no hf
    clear hf
    go_wp2_with fail
    refine ha.mono ?_
    rintro e w1 ⟨rfl, hb1⟩
    clear ha
    go_wp2
    go_roundw
    case rel =>
     refine ⟨k + 1, _, by omega, by go_num, rfl, ?_, hb.trans (hb1.mono hb.size)⟩
     rw [HF.out]
     exact ownsRow_below hown hb1
    case measure => simp [intOf]; omega
   | true =>
    rw [hf] at ha
    have HF : Hid _ := holdTo_yes hf
    clear hf
    go_wp2_with fail
    refine ha.mono ?_
    rintro e w1 ⟨rfl, hb1⟩
    clear ha
    have hown1 := ownsRow_below hown hb1
    have h2 := hb1.size
    go_wp2_with (first
      | (at_builtin; refine wpList_append_lies _ rfl _ _ _ rfl w.heap.size 3 i0 _ 1 8 Tryz.underlying46 hi0 hz0 hz1 hz2 rfl (by omega) v _ _ rfl (hown1.alloc _) ⟨w1.heap.size, 0, none⟩ 1 1 [.int .i64 k] rfl rfl (World.news_of_block (cs := #[.int .i64 k]) (t := 3) (fr := (0, 0)) (heap_alloc_new _ _)) (by simp [Value.oneCell']) (by omega) (by unfold maxLen; omega) (by omega) (by simp; omega) _ rfl ?_; intro gg cap w2 hown2 hgrow hat hlt2)
      | go_in)
    go_roundw
    case rel =>
     refine ⟨k + 1, _, by omega, by go_num, rfl, ?_, ((hb.trans (hb1.mono hb.size)).alloc (by omega) _).trans (below_grown hgrow (by simp; omega) (ownsRow_low hown))⟩
     rw [HF.out]
     simpa [ivs] using hown2
    case measure => simp [intOf]; omega
  ·have : k = 12 := by omega
   subst this
   go_wp2
   go_ret
   exact ⟨_, rfl, hown, hb⟩
end Ca
end Go.Proofs.YtbhpafgoofkkmaaGreatDoor
namespace Go.Proofs.YtbhpafgoofkkmaaGreatDoor
open Go.RowKit
namespace Ca
abbrev hdRow (h : Hd) : Array Value := #[.int .i64 h.x.kind, .int .i64 h.x.id, .int .i64 h.x.len, .int .i64 h.x.rights, .int .i64 h.e, .int .i64 h.s]
def freeT (T : Tab) (m : Nat) : Nat := (List.range 64).findIdx (fun s => !(T (m * 64 + s)).x.is)
theorem freeT_le (T : Tab) (m : Nat) : freeT T m ≤ 64 := by
 unfold freeT
 have := List.findIdx_le_length (xs := List.range 64) (p := fun s => !(T (m * 64 + s)).x.is)
 simpa using this
theorem freeT_taken (T : Tab) (m j : Nat) (h : j < freeT T m) : (T (m * 64 + j)).x.is = true := by
 have h64 := freeT_le T m
 have := List.not_of_lt_findIdx (xs := List.range 64) (p := fun s => !(T (m * 64 + s)).x.is) h
 simpa using this
theorem freeT_free (T : Tab) (m : Nat) (h : freeT T m < 64) : (T (m * 64 + freeT T m)).x.is = false := by
 have := List.findIdx_getElem (xs := List.range 64) (p := fun s => !(T (m * 64 + s)).x.is) (w := by simpa [freeT] using h)
 simpa [freeT] using this
theorem freeT_is {T : Tab} {m s : Nat} (hs : s < 64) (h0 : (T (m * 64 + s)).x.is = false) (h1 : ∀ j, j < s → (T (m * 64 + j)).x.is = true) : freeT T m = s := by
 rcases Nat.lt_trichotomy (freeT T m) s with h | h | h
 ·have := freeT_free T m (by omega)
  rw [h1 _ h] at this
  cases this
 ·exact h
 ·have := freeT_taken T m s h
  rw [h0] at this
  cases this
theorem freeT_full {T : Tab} {m : Nat} (h1 : ∀ j, j < 64 → (T (m * 64 + j)).x.is = true) : freeT T m = 64 := by
 have h := freeT_le T m
 rcases Nat.lt_or_ge (freeT T m) 64 with h' | h'
 ·have := freeT_free T m h'
  rw [h1 _ h'] at this
  cases this
 ·omega
def putA (T : Tab) (m : Nat) : Int := if freeT T m < 64 then ((freeT T m + 1 : Nat) : Int) else 0
def putE (T : Tab) (m : Nat) : Int := if freeT T m < 64 then 0 else 105
def putT (T : Tab) (m : Nat) (H : Hd) : Tab := if freeT T m < 64 then T.set (m * 64 + freeT T m) H else T
theorem CapsAt.put6 {w : World} {b : Nat} {T : Tab} (h : CapsAt w b T) {j o : Nat} (hj : j < 768) (ho : o = j * 6) (H : Hd) :
  CapsAt ((((((w.setCell ⟨b, o, none⟩ (.int .i64 H.x.kind)).setCell ⟨b, o + 1, none⟩ (.int .i64 H.x.id)).setCell ⟨b, o + 2, none⟩ (.int .i64 H.x.len)).setCell ⟨b, o + 3, none⟩ (.int .i64 H.x.rights)).setCell ⟨b, o + 4, none⟩ (.int .i64 H.e)).setCell ⟨b, o + 5, none⟩ (.int .i64 H.s)) b (T.set j H) := by
 have key : ∀ (w : World) (T' : Tab) (k : Nat), k < 6 → CapsAt w b T' → CapsAt (w.setCell ⟨b, o + k, none⟩ (.int .i64 (H.get k))) b (T'.set j ⟨⟨if k = 0 then H.x.kind else (T' j).x.kind, if k = 1 then H.x.id else (T' j).x.id, if k = 2 then H.x.len else (T' j).x.len, if k = 3 then H.x.rights else (T' j).x.rights⟩, if k = 4 then H.e else (T' j).e, if k = 5 then H.s else (T' j).s⟩) := by
  intro w T' k hk h
  refine h.set (k := k) hj hk (by omega) _ _ ?_ ?_
  ·obtain rfl | rfl | rfl | rfl | rfl | rfl : k = 0 ∨ k = 1 ∨ k = 2 ∨ k = 3 ∨ k = 4 ∨ k = 5 := by omega
   all_goals rfl
  ·intro i hi hne
   obtain rfl | rfl | rfl | rfl | rfl | rfl : i = 0 ∨ i = 1 ∨ i = 2 ∨ i = 3 ∨ i = 4 ∨ i = 5 := by omega
   all_goals
    simp only [Hd.get]
    rw [if_neg (fun e => hne e.symm)]
 have h5 := key _ _ 5 (by omega) (key _ _ 4 (by omega) (key _ _ 3 (by omega) (key _ _ 2 (by omega) (key _ _ 1 (by omega) (key _ _ 0 (by omega) h)))))
 refine cast (congrArg (CapsAt _ b) ?_) h5
 funext i
 by_cases hi : i = j
 ·subst hi
  simp [Tab.set]
 ·simp [Tab.set, hi]
theorem _root_.Go.Proofs.YtbhpafgoofkkmaaGreatDoor.Upd.six (b o : Nat) (w : World) (v0 v1 v2 v3 v4 v5 : Value) : Upd b w ((((((w.setCell ⟨b, o, none⟩ v0).setCell ⟨b, o + 1, none⟩ v1).setCell ⟨b, o + 2, none⟩ v2).setCell ⟨b, o + 3, none⟩ v3).setCell ⟨b, o + 4, none⟩ v4).setCell ⟨b, o + 5, none⟩ v5) :=
 (((((Upd.setCell b _ w v0).trans (Upd.setCell b _ _ v1)).trans (Upd.setCell b _ _ v2)).trans (Upd.setCell b _ _ v3)).trans (Upd.setCell b _ _ v4)).trans (Upd.setCell b _ _ v5)
theorem CapsAt.drew {w : World} {b : Nat} {T : Tab} (h : CapsAt w b T) : CapsAt w.drew b T := h.keep rfl
theorem CapsAt.cells {w : World} {b : Nat} {T : Tab} (h : CapsAt w b T) {m s : Nat} (hm : m < 12) (hs : s < 64) {H : Hd} (hH : T (m * 64 + s) = H) :
  (w.cell? ⟨b, m * 384 + s * 6, none⟩ = some (.int .i64 H.x.kind) ∧ w.cell? ⟨b, m * 384 + s * 6 + 1, none⟩ = some (.int .i64 H.x.id) ∧ w.cell? ⟨b, m * 384 + s * 6 + 2, none⟩ = some (.int .i64 H.x.len) ∧ w.cell? ⟨b, m * 384 + s * 6 + 3, none⟩ = some (.int .i64 H.x.rights)) ∧
  w.cell? ⟨b, m * 384 + s * 6 + 4, none⟩ = some (.int .i64 H.e) ∧ w.cell? ⟨b, m * 384 + s * 6 + 5, none⟩ = some (.int .i64 H.s) := by
 subst hH
 exact ⟨⟨h.cell (k := 0) (by omega) (by omega) (by omega), h.cell (k := 1) (by omega) (by omega) (by omega), h.cell (k := 2) (by omega) (by omega) (by omega), h.cell (k := 3) (by omega) (by omega) (by omega)⟩, h.cell (k := 4) (by omega) (by omega) (by omega), h.cell (k := 5) (by omega) (by omega) (by omega)⟩
set_option maxRecDepth 100000 in
set_option maxHeartbeats 2000000 in
theorem put_at (b : Nat) (T : Tab) (m : Nat) (H : Hd) (w : World) (h : CapsAt w b T) (hm : m < 12) :
  Calls Tryz.prog 166 #[.pointer (some ⟨b, 0, none⟩), .int .i64 m, .agg (hdRow H)] w fun e w' => e = .returned (.tuple #[.int .i64 (putA T m), .int .i64 (putE T m)]) ∧ CapsAt w' b (putT T m H) ∧ Upd b w w' := by
 obtain ⟨W, hW⟩ : ∃ W, W = w.alloc (.cells (hdRow H) 246) := ⟨_, rfl⟩
 have HB : Hid (Below w.heap.size w W) := by rw [hW]; exact below_alloc _ _
 have HC : Hid (CapsAt W b T) := h.below HB.out
 have hI : W.heap[w.heap.size]? = some (.cells (hdRow H) 246) := by rw [hW]; exact heap_alloc_new _ _
 have d0 : W.cell? ⟨w.heap.size, 0, none⟩ = some (.int .i64 H.x.kind) := by rw [cell_of_heap hI]; rfl
 have d1 : W.cell? ⟨w.heap.size, 1, none⟩ = some (.int .i64 H.x.id) := by rw [cell_of_heap hI]; rfl
 have d2 : W.cell? ⟨w.heap.size, 2, none⟩ = some (.int .i64 H.x.len) := by rw [cell_of_heap hI]; rfl
 have d3 : W.cell? ⟨w.heap.size, 3, none⟩ = some (.int .i64 H.x.rights) := by rw [cell_of_heap hI]; rfl
 have d4 : W.cell? ⟨w.heap.size, 4, none⟩ = some (.int .i64 H.e) := by rw [cell_of_heap hI]; rfl
 have d5 : W.cell? ⟨w.heap.size, 5, none⟩ = some (.int .i64 H.s) := by rw [cell_of_heap hI]; rfl
 have hlt := h.lt
 clear h hI
 obtain ⟨⟨k, i, l, r⟩, e, q⟩ := H
 dsimp only [hdRow] at *
 go_enter Tryz.func166, Tryz.ntmps166
 go_wp2
 rw [← hW]
 clear hW
 go_loopw [9] (fun s wr => ∃ (k : Nat), k ≤ 64 ∧ s = .int .i64 k ∧ Hid (∀ j, j < k → (T (m * 64 + j)).x.is = true) ∧ wr = W) (fun s _ => 64 - (intOf s).toNat)
 case atStart => exact ⟨0, by omega, rfl, (show Hid _ from fun j hj => absurd hj (Nat.not_lt_zero _)), rfl⟩
 case round =>
  obtain ⟨s, hk, rfl, HN, hwr⟩ := hrel
  subst hwr
  by_cases hs : s < 64
  ·obtain ⟨G, hG⟩ : ∃ G, T (m * 64 + s) = G := ⟨_, rfl⟩
   obtain ⟨⟨c0, c1, c2, c3⟩, c4, c5⟩ := HC.out.cells hm hs hG
   have HG : Hid _ := hG
   clear hG
   obtain ⟨⟨x0, x1, x2, x3⟩, xe, xq⟩ := G
   dsimp only at *
   have heq := cap_eql x0 x1 x2 x3
   cases hq : Cp.is ⟨x0, x1, x2, x3⟩ with
   | true =>
    rw [hq] at heq
    have HM : Hid (∀ j, j < s + 1 → (T (m * 64 + j)).x.is = true) := by
     intro j hj
     by_cases e : j = s
     ·rw [e, HG.out]; exact hq
     ·exact HN.out j (by omega)
    clear hq
    go_wp2
    go_roundw
    case rel => exact ⟨s + 1, by omega, by go_num, HM, by first | rfl | trivial⟩
    case measure => simp [intOf]; omega
   | false =>
    rw [hq] at heq
    have HF : Hid (freeT T m = s) := freeT_is hs (by rw [HG.out]; exact hq) HN.out
    have f0 := HC.out.free (m * 384 + s * 6)
    have f1 := HC.out.free (m * 384 + s * 6 + 1)
    have f2 := HC.out.free (m * 384 + s * 6 + 2)
    have f3 := HC.out.free (m * 384 + s * 6 + 3)
    have f4 := HC.out.free (m * 384 + s * 6 + 4)
    have f5 := HC.out.free (m * 384 + s * 6 + 5)
    clear hq HN
    go_wp2
    go_region
    all_goals
     go_wp2
     go_ret2
     refine ⟨?_, ?_, ?_⟩
     ·simp only [putA, putE, HF.out, if_pos hs]
      rfl
     ·unfold putT
      rw [HF.out, if_pos hs]
      have hp := (HC.out.put6 (j := m * 64 + s) (o := m * 384 + s * 6) (by omega) (by omega) ⟨⟨k, i, l, r⟩, e, q⟩).drew
      dsimp only at hp
      exact hp
     ·have hu := ((Upd.of_below HB.out).trans (Upd.six b (m * 384 + s * 6) wr (.int .i64 k) (.int .i64 i) (.int .i64 l) (.int .i64 r) (.int .i64 e) (.int .i64 q))).trans (Upd.drew _ _)
      exact hu
  ·obtain rfl : s = 64 := by omega
   have HF : Hid (freeT T m = 64) := freeT_full HN.out
   go_wp2
   go_ret2
   refine ⟨?_, ?_, Upd.of_below HB.out⟩
   ·simp [putA, putE, HF.out]
   ·unfold putT
    rw [HF.out, if_neg (by omega)]
    exact HC.out
end Ca
end Go.Proofs.YtbhpafgoofkkmaaGreatDoor
namespace Go.Proofs.YtbhpafgoofkkmaaGreatDoor
open Go.RowKit
namespace Ca
def ofB (h : Hd) (pe ps : Int) : Bool := h.e == pe && h.s == ps
theorem place_eql (a b c d : Int) (W : World) : (binOp .eql 244 (.agg #[.int .i64 a, .int .i64 b]) (.agg #[.int .i64 c, .int .i64 d])).run Tryz.prog W = .ok (.bool (a == c && b == d)) W := by
 by_cases h0 : a = c <;> by_cases h1 : b = d <;> (try subst h0) <;> (try subst h1) <;> go_simp <;> simp_all
def hoTo (T : Tab) (pe ps qe qs : Int) (k : Nat) : Tab := fun j => if j < k ∧ ofB (T j) pe ps = true then ⟨(T j).x, qe, qs⟩ else T j
theorem hoTo_zero (T : Tab) (pe ps qe qs : Int) : hoTo T pe ps qe qs 0 = T := by
 funext j
 simp [hoTo]
theorem hoTo_at (T : Tab) (pe ps qe qs : Int) (k : Nat) : hoTo T pe ps qe qs k k = T k := by simp [hoTo]
theorem hoTo_hit {T : Tab} {pe ps qe qs : Int} {k : Nat} (h : ofB (T k) pe ps = true) : (hoTo T pe ps qe qs k).set k ⟨(T k).x, qe, qs⟩ = hoTo T pe ps qe qs (k + 1) := by
 funext j
 by_cases hj : j = k
 ·subst hj
  simp [Tab.set, hoTo, h]
 ·have : j < k + 1 ↔ j < k := by omega
  simp [Tab.set, hj, hoTo, this]
theorem hoTo_miss {T : Tab} {pe ps qe qs : Int} {k : Nat} (h : ofB (T k) pe ps = false) : hoTo T pe ps qe qs k = hoTo T pe ps qe qs (k + 1) := by
 funext j
 by_cases hj : j = k
 ·subst hj
  simp [hoTo, h]
 ·have : j < k + 1 ↔ j < k := by omega
  simp [hoTo, this]
theorem CapsAt.put2 {w : World} {b : Nat} {T : Tab} (h : CapsAt w b T) {j o : Nat} (hj : j < 768) (ho : o = j * 6) (e s : Int) (x : Cp) (hx : (T j).x = x) :
  CapsAt ((w.setCell ⟨b, o + 4, none⟩ (.int .i64 e)).setCell ⟨b, o + 5, none⟩ (.int .i64 s)) b (T.set j ⟨x, e, s⟩) := by
 subst hx
 have h1 := h.set (k := 4) hj (by omega) (o := o + 4) (by omega) e ⟨(T j).x, e, (T j).s⟩ rfl (fun i hi hne => by
   obtain rfl | rfl | rfl | rfl | rfl : i = 0 ∨ i = 1 ∨ i = 2 ∨ i = 3 ∨ i = 5 := by omega
   all_goals rfl)
 have h2 := h1.set (k := 5) hj (by omega) (o := o + 5) (by omega) s ⟨(T j).x, e, s⟩ rfl (fun i hi hne => by
   rw [Tab.set_same]
   obtain rfl | rfl | rfl | rfl | rfl : i = 0 ∨ i = 1 ∨ i = 2 ∨ i = 3 ∨ i = 4 := by omega
   all_goals rfl)
 refine cast (congrArg (CapsAt _ b) ?_) h2
 funext i
 by_cases hi : i = j <;> simp [Tab.set, hi]
theorem CapsAt.drewN {w : World} {b : Nat} {T : Tab} (h : CapsAt w b T) (q : Nat) : CapsAt (w.drewN q) b T := h.below (below_drewN (Below.refl _ _) q)
theorem _root_.Go.Proofs.YtbhpafgoofkkmaaGreatDoor.Upd.drewN {b : Nat} (w : World) (q : Nat) : Upd b w (w.drewN q) := Upd.of_below (below_drewN (Below.refl _ _) q)
set_option maxRecDepth 100000 in
set_option maxHeartbeats 4000000 in
theorem handOver_at (b : Nat) (T : Tab) (pe ps qe qs : Int) (w : World) (h : CapsAt w b T) :
  Calls Tryz.prog 168 #[.pointer (some ⟨b, 0, none⟩), .agg #[.int .i64 pe, .int .i64 ps], .agg #[.int .i64 qe, .int .i64 qs]] w fun e w' => e = .returned (.tuple #[]) ∧ CapsAt w' b (hoTo T pe ps qe qs 768) ∧ Upd b w w' := by
 obtain ⟨W, hW⟩ : ∃ W, W = (w.alloc (.cells #[.int .i64 pe, .int .i64 ps] 244)).alloc (.cells #[.int .i64 qe, .int .i64 qs] 244) := ⟨_, rfl⟩
 have HB : Hid (Below w.heap.size w W) := by rw [hW]; exact below_alloc2 _ _ _
 have HC : Hid (CapsAt W b T) := h.below HB.out
 have HP : Hid (W.heap[w.heap.size]? = some (.cells #[.int .i64 pe, .int .i64 ps] 244)) := by rw [hW]; exact (Below.heap_alloc _ _ _ (by simp)).trans (heap_alloc_new _ _)
 have HQ : Hid (W.heap[w.heap.size + 1]? = some (.cells #[.int .i64 qe, .int .i64 qs] 244)) := by
  have := heap_alloc_new (w.alloc (.cells #[.int .i64 pe, .int .i64 ps] 244)) (.cells #[.int .i64 qe, .int .i64 qs] 244)
  rw [World.size_alloc] at this
  rw [hW]
  exact this
 have hlt := h.lt
 clear h
 go_enter Tryz.func168, Tryz.ntmps168
 go_wp2
 rw [← hW]
 clear hW
 go_loopw [8] (fun s wr => ∃ (m : Nat), m ≤ 12 ∧ s = .int .i64 m ∧ CapsAt wr b (hoTo T pe ps qe qs (m * 64)) ∧ Upd b W wr) (fun s _ => 12 - (intOf s).toNat)
 case atStart => exact ⟨0, by omega, rfl, by rw [Nat.zero_mul, hoTo_zero]; exact HC.out, Upd.refl _ _⟩
 case round =>
  obtain ⟨m, hm', rfl, hC, hU⟩ := hrel
  by_cases hm : m < 12
  ·have H0 : Hid _ := hC
   have H1 : Hid _ := hU
   clear hC hU
   go_wp2
   go_loopw [11] (fun s wr => ∃ (k : Nat), k ≤ 64 ∧ s = .int .i64 k ∧ CapsAt wr b (hoTo T pe ps qe qs (m * 64 + k)) ∧ Upd b W wr) (fun s _ => 64 - (intOf s).toNat)
   case atStart => exact ⟨0, by omega, rfl, H0.out, H1.out⟩
   case round =>
    clear H0 H1
    obtain ⟨s, hs', rfl, hC, hU⟩ := hrel
    by_cases hs : s < 64
    ·have hp := (hU.block _ (lt_of_heap HP.out) (by omega)).trans HP.out
     have hq := (hU.block _ (lt_of_heap HQ.out) (by omega)).trans HQ.out
     have p0 : wr.cell? ⟨w.heap.size, 0, none⟩ = some (.int .i64 pe) := by rw [cell_of_heap hp]; rfl
     have p1 : wr.cell? ⟨w.heap.size, 1, none⟩ = some (.int .i64 ps) := by rw [cell_of_heap hp]; rfl
     have q0 : wr.cell? ⟨w.heap.size + 1, 0, none⟩ = some (.int .i64 qe) := by rw [cell_of_heap hq]; rfl
     have q1 : wr.cell? ⟨w.heap.size + 1, 1, none⟩ = some (.int .i64 qs) := by rw [cell_of_heap hq]; rfl
     obtain ⟨⟨_, _, _, _⟩, c4, c5⟩ := hC.cells hm hs (hoTo_at T pe ps qe qs (m * 64 + s))
     have heq := place_eql (T (m * 64 + s)).e (T (m * 64 + s)).s pe ps
     have f4 := hC.free (m * 384 + s * 6 + 4)
     have f5 := hC.free (m * 384 + s * 6 + 5)
     have HC2 : Hid _ := hC
     clear hC hp hq
     cases ho : ofB (T (m * 64 + s)) pe ps with
     | false =>
      have ho' := ho
      unfold ofB at ho'
      rw [ho'] at heq
      have HM : Hid _ := hoTo_miss (qe := qe) (qs := qs) ho
      clear ho ho' q0 q1 f4 f5
      generalize (T (m * 64 + s)).e = te at *
      generalize (T (m * 64 + s)).s = ts at *
      go_wp2
      go_quiet (fail)
      go_wp2
      go_roundw
      case rel =>
       refine ⟨s + 1, by omega, by go_num, ?_, hU.trans (Upd.drewN _ _)⟩
       have h2 := HC2.out.drewN nq
       rw [HM.out] at h2
       exact h2
      case measure => simp [intOf]; omega
     | true =>
      have ho' := ho
      unfold ofB at ho'
      rw [ho'] at heq
      have HM : Hid _ := hoTo_hit (qe := qe) (qs := qs) ho
      clear ho ho'
      generalize (T (m * 64 + s)).e = te at *
      generalize (T (m * 64 + s)).s = ts at *
      go_wp2
      go_quiet (fail)
      obtain ⟨V, hV⟩ : ∃ V, V = wr.drewN nq := ⟨_, rfl⟩
      rw [← hV]
      have hbV : Below wr.heap.size wr V := by rw [hV]; exact below_drewN (Below.refl _ _) nq
      have HC3 : Hid (CapsAt V b (hoTo T pe ps qe qs (m * 64 + s))) := HC2.out.below hbV
      have HV : Hid (Upd b W V) := hU.trans (Upd.of_below hbV)
      rw [← hbV.cell (cell_lt q0)] at q0
      rw [← hbV.cell (cell_lt q1)] at q1
      rw [← hbV.cell (cell_lt c4)] at c4
      rw [← hbV.cell (cell_lt c5)] at c5
      replace f4 := HC3.out.free (m * 384 + s * 6 + 4)
      replace f5 := HC3.out.free (m * 384 + s * 6 + 5)
      clear hV hbV p0 p1 hU HC2 heq
      go_wp2
      go_region
      all_goals
       go_wp2
       go_roundw
       case rel =>
        have hp := (HC3.out.put2 (j := m * 64 + s) (o := m * 384 + s * 6) (by omega) (by omega) qe qs (T (m * 64 + s)).x (by rw [hoTo_at])).drew
        rw [HM.out] at hp
        have hu := (HV.out.trans ((Upd.setCell b (m * 384 + s * 6 + 4) V (.int .i64 qe)).trans (Upd.setCell b (m * 384 + s * 6 + 5) _ (.int .i64 qs)))).trans (Upd.drew _ _)
        exact ⟨s + 1, by omega, by go_num, hp, hu⟩
       case measure => simp [intOf]; omega
    ·obtain rfl : s = 64 := by omega
     go_wp2
     go_roundw
     case rel => exact ⟨m + 1, by omega, by go_num, by rw [show (m + 1) * 64 = m * 64 + 64 from by omega]; exact hC, hU⟩
     case measure => simp [intOf]; omega
  ·obtain rfl : m = 12 := by omega
   go_wp2
   go_end0
   exact ⟨rfl, hC, (Upd.of_below HB.out).trans hU⟩
end Ca
end Go.Proofs.YtbhpafgoofkkmaaGreatDoor
namespace Go.Proofs.YtbhpafgoofkkmaaGreatDoor
open Go.RowKit
namespace Ca
def anyM (T : Tab) (y : Cp) : Bool := (List.range 768).any (fun j => meetsB (T j).x y)
theorem anyM_hit {T : Tab} {y : Cp} {j : Nat} (hj : j < 768) (h : meetsB (T j).x y = true) : anyM T y = true := by
 unfold anyM
 rw [List.any_eq_true]
 exact ⟨j, by simpa using hj, h⟩
theorem anyM_miss {T : Tab} {y : Cp} (h : ∀ j, j < 768 → meetsB (T j).x y = false) : anyM T y = false := by
 unfold anyM
 rw [List.any_eq_false]
 intro j hj
 rw [h j (by simpa using hj)]
 simp
theorem keep8 {w w' : World} {p0 p1 p2 p3 q0 q1 q2 q3 : Addr} {v0 v1 v2 v3 u0 u1 u2 u3 : Value}
  (h : (w.cell? p0 = some v0 ∧ w.cell? p1 = some v1 ∧ w.cell? p2 = some v2 ∧ w.cell? p3 = some v3) ∧ w.cell? q0 = some u0 ∧ w.cell? q1 = some u1 ∧ w.cell? q2 = some u2 ∧ w.cell? q3 = some u3) (hb : Below w.heap.size w w') :
  (w'.cell? p0 = some v0 ∧ w'.cell? p1 = some v1 ∧ w'.cell? p2 = some v2 ∧ w'.cell? p3 = some v3) ∧ w'.cell? q0 = some u0 ∧ w'.cell? q1 = some u1 ∧ w'.cell? q2 = some u2 ∧ w'.cell? q3 = some u3 := by
 obtain ⟨⟨a0, a1, a2, a3⟩, b0, b1, b2, b3⟩ := h
 exact ⟨⟨(hb.cell (cell_lt a0)).trans a0, (hb.cell (cell_lt a1)).trans a1, (hb.cell (cell_lt a2)).trans a2, (hb.cell (cell_lt a3)).trans a3⟩, (hb.cell (cell_lt b0)).trans b0, (hb.cell (cell_lt b1)).trans b1, (hb.cell (cell_lt b2)).trans b2, (hb.cell (cell_lt b3)).trans b3⟩
set_option maxRecDepth 100000 in
set_option maxHeartbeats 4000000 in
theorem anyMeets_at (b : Nat) (T : Tab) (y : Cp) (w : World) (h : CapsAt w b T) (hS : Sanes T) (hy : Sane y) :
  Calls Tryz.prog 169 #[.pointer (some ⟨b, 0, none⟩), .agg (cpRow y)] w fun e w' => e = .returned (.bool (anyM T y)) ∧ Below w.heap.size w w' := by
 obtain ⟨W, hW⟩ : ∃ W, W = w.alloc (.cells (cpRow y) 97) := ⟨_, rfl⟩
 have HB : Hid (Below w.heap.size w W) := by rw [hW]; exact below_alloc _ _
 have HC : Hid (CapsAt W b T) := h.below HB.out
 have HY : Hid (W.heap[w.heap.size]? = some (.cells (cpRow y) 97)) := by rw [hW]; exact heap_alloc_new _ _
 have HS : Hid _ := hS
 have HZ : Hid _ := hy
 have hlt := h.lt
 clear h hS hy
 obtain ⟨y0, y1, y2, y3⟩ := y
 dsimp only [cpRow] at *
 go_enter Tryz.func169, Tryz.ntmps169
 go_wp2
 rw [← hW]
 clear hW
 go_loopw [7] (fun s wr => ∃ (m : Nat), m ≤ 12 ∧ s = .int .i64 m ∧ Hid (∀ j, j < m * 64 → meetsB (T j).x ⟨y0, y1, y2, y3⟩ = false) ∧ Below W.heap.size W wr) (fun s _ => 12 - (intOf s).toNat)
 case atStart => exact ⟨0, by omega, rfl, (show Hid _ from fun j hj => absurd hj (by omega)), Below.refl _ _⟩
 case round =>
  obtain ⟨m, hm', rfl, HN, hb⟩ := hrel
  by_cases hm : m < 12
  ·have H1 : Hid _ := hb
   clear hb
   have gm : decide ((m : Int) < 12) = true := decide_eq_true (by omega)
   go_wp2
   go_loopw [10] (fun s wr => ∃ (k : Nat), k ≤ 64 ∧ s = .int .i64 k ∧ Hid (∀ j, j < m * 64 + k → meetsB (T j).x ⟨y0, y1, y2, y3⟩ = false) ∧ Below W.heap.size W wr) (fun s _ => 64 - (intOf s).toNat)
   case atStart => exact ⟨0, by omega, rfl, HN, H1.out⟩
   case round =>
    clear H1 HN
    obtain ⟨s, hs', rfl, HN, hb⟩ := hrel
    by_cases hs : s < 64
    ·obtain ⟨d0, d1, d2, d3⟩ := cap_cells (x := ⟨y0, y1, y2, y3⟩) ((hb.block _ (lt_of_heap HY.out)).trans HY.out)
     dsimp only at d0 d1 d2 d3
     obtain ⟨G, hG⟩ : ∃ G, T (m * 64 + s) = G := ⟨_, rfl⟩
     obtain ⟨⟨c0, c1, c2, c3⟩, _, _⟩ := (HC.out.below hb).cells hm hs hG
     have hcall := fun V => meets_at G.x ⟨y0, y1, y2, y3⟩ V (by rw [← hG]; exact HS.out _ (by omega)) HZ.out
     have HT : Hid (meetsB G.x ⟨y0, y1, y2, y3⟩ = true → anyM T ⟨y0, y1, y2, y3⟩ = true) := by
      intro hq
      exact anyM_hit (j := m * 64 + s) (by omega) (by rw [hG]; exact hq)
     have HM : Hid (meetsB G.x ⟨y0, y1, y2, y3⟩ = false → ∀ j, j < m * 64 + (s + 1) → meetsB (T j).x ⟨y0, y1, y2, y3⟩ = false) := by
      intro hf j hj
      by_cases e : j = m * 64 + s
      ·rw [e, hG]; exact hf
      ·exact HN.out j (by omega)
     clear hG HN
     obtain ⟨⟨x0, x1, x2, x3⟩, xe, xq⟩ := G
     dsimp only [cpRow] at *
     generalize meetsB ⟨x0, x1, x2, x3⟩ ⟨y0, y1, y2, y3⟩ = B at *
     have hS0 : (wr.cell? ⟨b, m * 384 + s * 6, none⟩ = some (.int .i64 x0) ∧ wr.cell? ⟨b, m * 384 + s * 6 + 1, none⟩ = some (.int .i64 x1) ∧ wr.cell? ⟨b, m * 384 + s * 6 + 2, none⟩ = some (.int .i64 x2) ∧ wr.cell? ⟨b, m * 384 + s * 6 + 3, none⟩ = some (.int .i64 x3)) ∧
      wr.cell? ⟨w.heap.size, 0, none⟩ = some (.int .i64 y0) ∧ wr.cell? ⟨w.heap.size, 1, none⟩ = some (.int .i64 y1) ∧ wr.cell? ⟨w.heap.size, 2, none⟩ = some (.int .i64 y2) ∧ wr.cell? ⟨w.heap.size, 3, none⟩ = some (.int .i64 y3) := ⟨⟨c0, c1, c2, c3⟩, d0, d1, d2, d3⟩
     go_wp2
     have im : (m : Int) < 12 := by omega
     have is : (s : Int) < 64 := by omega
     go_region_held3 (fun w' => (w'.cell? ⟨b, m * 384 + s * 6, none⟩ = some (.int .i64 x0) ∧ w'.cell? ⟨b, m * 384 + s * 6 + 1, none⟩ = some (.int .i64 x1) ∧ w'.cell? ⟨b, m * 384 + s * 6 + 2, none⟩ = some (.int .i64 x2) ∧ w'.cell? ⟨b, m * 384 + s * 6 + 3, none⟩ = some (.int .i64 x3)) ∧
       w'.cell? ⟨w.heap.size, 0, none⟩ = some (.int .i64 y0) ∧ w'.cell? ⟨w.heap.size, 1, none⟩ = some (.int .i64 y1) ∧ w'.cell? ⟨w.heap.size, 2, none⟩ = some (.int .i64 y2) ∧ w'.cell? ⟨w.heap.size, 3, none⟩ = some (.int .i64 y3))
      (first | go_keep | (exact hS0) | (exact hS1))
      (first | (go_at_call 185; refine (hcall _).mono ?_; rintro e wq ⟨rfl, hq⟩; have hS1 := keep8 (w := wr.drew) hS0 hq))
     all_goals
      have hbq : Below W.heap.size W wq := hb.trans (((Below.refl _ wr).drew.trans hq).mono hb.size)
      clear hS0 c0 c1 c2 c3 d0 d1 d2 d3 hcall hS1 hq
      cases B with
      | true =>
       have HF := HT.out rfl
       clear HT HM
       go_wp2
       go_ret
       exact ⟨by rw [HF]; rfl, HB.out.trans (hbq.mono HB.out.size)⟩
      | false =>
       have HF : Hid _ := HM.out rfl
       clear HT HM
       go_wp2
       go_roundw
       case rel =>
        exact ⟨s + 1, by omega, by go_num, HF, hbq⟩
       case measure => simp [intOf]; omega
    ·obtain rfl : s = 64 := by omega
     go_wp2
     go_roundw
     case rel => exact ⟨m + 1, by omega, by go_num, by rw [show (m + 1) * 64 = m * 64 + 64 from by omega]; exact HN, hb⟩
     case measure => simp [intOf]; omega
  ·obtain rfl : m = 12 := by omega
   have HF : Hid (anyM T ⟨y0, y1, y2, y3⟩ = false) := anyM_miss (fun j hj => HN.out j (by omega))
   go_wp2
   go_ret
   exact ⟨by rw [HF.out]; rfl, HB.out.trans (hb.mono HB.out.size)⟩
end Ca
end Go.Proofs.YtbhpafgoofkkmaaGreatDoor
namespace Go.Proofs.YtbhpafgoofkkmaaGreatDoor
open Go.RowKit
namespace Ca
def clTo (T : Tab) (pe ps : Int) (k : Nat) : Tab := fun j => if j < k ∧ ofB (T j) pe ps = true then Hd.no else T j
theorem clTo_zero (T : Tab) (pe ps : Int) : clTo T pe ps 0 = T := by
 funext j
 simp [clTo]
theorem clTo_at (T : Tab) (pe ps : Int) (k : Nat) : clTo T pe ps k k = T k := by simp [clTo]
theorem clTo_hit {T : Tab} {pe ps : Int} {k : Nat} (h : ofB (T k) pe ps = true) : (clTo T pe ps k).set k Hd.no = clTo T pe ps (k + 1) := by
 funext j
 by_cases hj : j = k
 ·subst hj
  simp [Tab.set, clTo, h]
 ·have : j < k + 1 ↔ j < k := by omega
  simp [Tab.set, hj, clTo, this]
theorem clTo_miss {T : Tab} {pe ps : Int} {k : Nat} (h : ofB (T k) pe ps = false) : clTo T pe ps k = clTo T pe ps (k + 1) := by
 funext j
 by_cases hj : j = k
 ·subst hj
  simp [clTo, h]
 ·have : j < k + 1 ↔ j < k := by omega
  simp [clTo, this]
def plOf (j : Nat) : Int × Int := (((j / 64 : Nat) : Int), ((j % 64 + 1 : Nat) : Int))
def madeTo (T : Tab) (pe ps : Int) (k : Nat) : List (Int × Int) := ((List.range k).filter (fun j => ofB (T j) pe ps)).map plOf
theorem madeTo_len (T : Tab) (pe ps : Int) (k : Nat) : (madeTo T pe ps k).length ≤ k := by
 unfold madeTo
 rw [List.length_map]
 exact Nat.le_trans (List.length_filter_le _ _) (by simp)
theorem madeTo_hit {T : Tab} {pe ps : Int} {m s : Nat} (hs : s < 64) (h : ofB (T (m * 64 + s)) pe ps = true) : madeTo T pe ps (m * 64 + (s + 1)) = madeTo T pe ps (m * 64 + s) ++ [((m : Int), ((s + 1 : Nat) : Int))] := by
 have h1 : (m * 64 + s) / 64 = m := by omega
 have h2 : (m * 64 + s) % 64 = s := by omega
 have h3 : m * 64 + (s + 1) = m * 64 + s + 1 := by omega
 rw [h3]
 simp [madeTo, List.range_succ, h, plOf, h1, h2]
theorem madeTo_miss {T : Tab} {pe ps : Int} {k : Nat} (h : ofB (T k) pe ps = false) : madeTo T pe ps (k + 1) = madeTo T pe ps k := by
 simp [madeTo, List.range_succ, h]
def pcells (L : List (Int × Int)) : List Value := L.flatMap fun x => [.int .i64 x.1, .int .i64 x.2]
theorem pcells_len : ∀ (L : List (Int × Int)), (pcells L).length = L.length * 2
 | [] => rfl
 | x :: L => by
  have e : pcells (x :: L) = [.int .i64 x.1, .int .i64 x.2] ++ pcells L := rfl
  rw [e, List.length_append, pcells_len L, List.length_cons]
  simp
  omega
theorem pcells_snoc (L : List (Int × Int)) (x : Int × Int) : pcells (L ++ [x]) = pcells L ++ [.int .i64 x.1, .int .i64 x.2] := by simp [pcells]
theorem pcells_app (L M : List (Int × Int)) : pcells (L ++ M) = pcells L ++ pcells M := by simp [pcells]
theorem placeInfo : (Tryz.prog.info? 244).map (fun i => (i.zero, i.size, i.bytes)) = some (some (.agg #[.int .i64 0, .int .i64 0]), 2, 16) := by kernel_rfl
theorem ownsRow_mono {w : World} {base base' : Nat} {e : TypeId} {size : Nat} {v : Value} {n : Nat} {xs : List Value} (h : w.ownsRow base e size v n xs) (hb : base' ≤ base) : w.ownsRow base' e size v n xs := by
 obtain ⟨h1, h2⟩ := h
 refine ⟨h1, ?_⟩
 rcases h2 with h2 | ⟨g, cap, cur, hv, hg, hh, r⟩
 ·exact Or.inl h2
 ·exact Or.inr ⟨g, cap, cur, hv, by omega, hh, r⟩
theorem _root_.Go.Proofs.YtbhpafgoofkkmaaGreatDoor.Upd.grown {b : Nat} {W w w' : World} {v : Value} (h : Upd b W w) (hg : w.grownBy w' v.ownBlock) (hv : ∀ g, v.ownBlock = some g → W.heap.size ≤ g) : Upd b W w' :=
 ⟨hg.os.trans h.os, hg.tape.trans h.tape, hg.output.trans h.output, Nat.le_trans h.size hg.size, fun k hk hb => (hg.block k (Nat.lt_of_lt_of_le hk h.size) (fun e => by have := hv k e.symm; omega)).trans (h.block k hk hb)⟩
theorem own_upd {b : Nat} {w w' : World} {base : Nat} {e : TypeId} {size : Nat} {v : Value} {n : Nat} {xs : List Value} (h : w.ownsRow base e size v n xs) (hb : b < base) (hu : Upd b w w') : w'.ownsRow base e size v n xs :=
 ownsRow_at h (fun g hg => hu.block g (h.lt g hg).2 (by have := ownsRow_low h g hg; omega))
theorem own_slice2 {w : World} {base : Nat} {e : TypeId} {v : Value} {n : Nat} {xs : List Value} (h : w.ownsRow base e 2 v n xs) : ∃ a cap, v = .slice a n cap := by
 rcases h.2 with ⟨rfl, e2⟩ | ⟨g, cap, cur, rfl, _⟩
 ·exact ⟨none, 0, by rw [e2]⟩
 ·exact ⟨_, _, rfl⟩
set_option maxRecDepth 100000 in
set_option maxHeartbeats 4000000 in
theorem takeMadeOf_at (b : Nat) (T : Tab) (pe ps : Int) (w : World) (h : CapsAt w b T) :
  Calls Tryz.prog 173 #[.pointer (some ⟨b, 0, none⟩), .agg #[.int .i64 pe, .int .i64 ps]] w fun e w' => ∃ v, e = .returned v ∧ w'.ownsRow w.heap.size 244 2 v (madeTo T pe ps 768).length (pcells (madeTo T pe ps 768)) ∧ (madeTo T pe ps 768 = [] → v = .slice none 0 0) ∧ CapsAt w' b (clTo T pe ps 768) ∧ Upd b w w' := by
 obtain ⟨i0, hi0, hzz⟩ := Option.map_eq_some_iff.1 placeInfo
 simp only [Prod.mk.injEq] at hzz
 obtain ⟨hz0, hz1, hz2⟩ := hzz
 obtain ⟨W, hW⟩ : ∃ W, W = w.alloc (.cells #[.int .i64 pe, .int .i64 ps] 244) := ⟨_, rfl⟩
 have HB : Hid (Below w.heap.size w W) := by rw [hW]; exact below_alloc _ _
 have HC : Hid (CapsAt W b T) := h.below HB.out
 have hWs : W.heap.size = w.heap.size + 1 := by rw [hW]; simp
 have HP : Hid (W.heap[w.heap.size]? = some (.cells #[.int .i64 pe, .int .i64 ps] 244)) := by rw [hW]; exact heap_alloc_new _ _
 have hlt := h.lt
 have HWS : Hid _ := hWs
 clear h hWs
 go_enter Tryz.func173, Tryz.ntmps173
 go_wp2
 rw [← hW]
 clear hW
 go_loopw [5, 8] (fun u s wr => ∃ (m : Nat) (v : Value), m ≤ 12 ∧ s = .int .i64 m ∧ v = u ∧ wr.ownsRow W.heap.size 244 2 v (madeTo T pe ps (m * 64)).length (pcells (madeTo T pe ps (m * 64))) ∧ Hid (madeTo T pe ps (m * 64) = [] → v = .slice none 0 0) ∧ CapsAt wr b (clTo T pe ps (m * 64)) ∧ Upd b W wr) (fun _ s _ => 12 - (intOf s).toNat)
 case atStart => exact ⟨0, _, by omega, rfl, rfl, by rw [Nat.zero_mul]; exact World.ownsRow_nil _ _ _ _, (show Hid _ from fun _ => rfl), by rw [Nat.zero_mul, clTo_zero]; exact HC.out, Upd.refl _ _⟩
 case round =>
  obtain ⟨m, v, hm', rfl, rfl, hown, HNL, hC, hU⟩ := hrel
  by_cases hm : m < 12
  ·have H0 : Hid _ := hC
   have H1 : Hid _ := hU
   have H2 : Hid _ := hown
   clear hC hU hown
   have gm : decide ((m : Int) < 12) = true := decide_eq_true (by omega)
   have im : (m : Int) < 12 := by omega
   go_wp2
   go_loopw [5, 11] (fun u s wr => ∃ (k : Nat) (v : Value), k ≤ 64 ∧ s = .int .i64 k ∧ v = u ∧ wr.ownsRow W.heap.size 244 2 v (madeTo T pe ps (m * 64 + k)).length (pcells (madeTo T pe ps (m * 64 + k))) ∧ Hid (madeTo T pe ps (m * 64 + k) = [] → v = .slice none 0 0) ∧ CapsAt wr b (clTo T pe ps (m * 64 + k)) ∧ Upd b W wr) (fun _ s _ => 64 - (intOf s).toNat)
   case atStart => exact ⟨0, _, by omega, rfl, rfl, H2.out, HNL, H0.out, H1.out⟩
   case round =>
    clear H0 H1 H2 HNL
    obtain ⟨s, v, hs', rfl, rfl, hown, HNL, hC, hU⟩ := hrel
    by_cases hs : s < 64
    ·have hp := (hU.block _ (lt_of_heap HP.out) (by omega)).trans HP.out
     have p0 : wr.cell? ⟨w.heap.size, 0, none⟩ = some (.int .i64 pe) := by rw [cell_of_heap hp]; rfl
     have p1 : wr.cell? ⟨w.heap.size, 1, none⟩ = some (.int .i64 ps) := by rw [cell_of_heap hp]; rfl
     obtain ⟨⟨c0, c1, c2, c3⟩, c4, c5⟩ := hC.cells hm hs (clTo_at T pe ps (m * 64 + s))
     have heq := place_eql (T (m * 64 + s)).e (T (m * 64 + s)).s pe ps
     have HC2 : Hid _ := hC
     clear hC hp
     have hle := madeTo_len T pe ps (m * 64 + s)
     cases ho : ofB (T (m * 64 + s)) pe ps with
     | false =>
      have ho' := ho
      unfold ofB at ho'
      rw [ho'] at heq
      have HM : Hid _ := clTo_miss ho
      have HL : Hid _ := madeTo_miss ho
      clear ho ho' c0 c1 c2 c3
      generalize (T (m * 64 + s)).e = te at *
      generalize (T (m * 64 + s)).s = ts at *
      go_wp2
      go_quiet (fail)
      go_wp2
      go_roundw
      case rel =>
       refine ⟨s + 1, _, by omega, by go_num, rfl, ?_, (show Hid _ from fun e => HNL.out (HL.out.symm.trans e)), ?_, hU.trans (Upd.drewN _ _)⟩
       ·have h2 := ownsRow_below hown (below_drewN (Below.refl _ wr) nq)
        rw [← HL.out] at h2
        exact h2
       ·have h2 := HC2.out.drewN nq
        rw [HM.out] at h2
        exact h2
      case measure => simp [intOf]; omega
     | true =>
      have ho' := ho
      unfold ofB at ho'
      rw [ho'] at heq
      have HM : Hid _ := clTo_hit ho
      have HL : Hid _ := madeTo_hit hs ho
      clear ho ho'
      generalize (T (m * 64 + s)).e = te at *
      generalize (T (m * 64 + s)).s = ts at *
      generalize (T (m * 64 + s)).x = tx at *
      obtain ⟨x0, x1, x2, x3⟩ := tx
      dsimp only at c0 c1 c2 c3
      go_wp2
      go_quiet (fail)
      obtain ⟨V, hV⟩ : ∃ V, V = wr.drewN nq := ⟨_, rfl⟩
      rw [← hV]
      have hbV : Below wr.heap.size wr V := by rw [hV]; exact below_drewN (Below.refl _ wr) nq
      have HC3 : Hid (CapsAt V b (clTo T pe ps (m * 64 + s))) := HC2.out.below hbV
      have HV : Hid (Upd b W V) := hU.trans (Upd.of_below hbV)
      have hown3 := ownsRow_below hown hbV
      rw [← hbV.cell (cell_lt c0)] at c0
      rw [← hbV.cell (cell_lt c1)] at c1
      rw [← hbV.cell (cell_lt c2)] at c2
      rw [← hbV.cell (cell_lt c3)] at c3
      rw [← hbV.cell (cell_lt c4)] at c4
      rw [← hbV.cell (cell_lt c5)] at c5
      have f0 := HC3.out.free (m * 384 + s * 6)
      have f1 := HC3.out.free (m * 384 + s * 6 + 1)
      have f2 := HC3.out.free (m * 384 + s * 6 + 2)
      have f3 := HC3.out.free (m * 384 + s * 6 + 3)
      have f4 := HC3.out.free (m * 384 + s * 6 + 4)
      have f5 := HC3.out.free (m * 384 + s * 6 + 5)
      have HO : Hid _ := hown3
      clear hV hbV p0 p1 hU HC2 heq hown hown3
      have hsz := HWS.out
      have hV1 := HV.out.size
      have HX := HC3.out.put6 (j := m * 64 + s) (o := m * 384 + s * 6) (by omega) (by omega) Hd.no
      dsimp only at HX
      rw [HM.out] at HX
      have hsix := Upd.six b (m * 384 + s * 6) V (.int .i64 0) (.int .i64 0) (.int .i64 0) (.int .i64 0) (.int .i64 0) (.int .i64 0)
      have HO6 := own_upd HO.out (by omega) hsix
      have HU6 := HV.out.trans hsix
      generalize madeTo T pe ps (m * 64 + s) = L at *
      obtain ⟨V6, hV6⟩ : ∃ V6, V6 = (((((V.setCell ⟨b, m * 384 + s * 6, none⟩ (.int .i64 0)).setCell ⟨b, m * 384 + s * 6 + 1, none⟩ (.int .i64 0)).setCell ⟨b, m * 384 + s * 6 + 2, none⟩ (.int .i64 0)).setCell ⟨b, m * 384 + s * 6 + 3, none⟩ (.int .i64 0)).setCell ⟨b, m * 384 + s * 6 + 4, none⟩ (.int .i64 0)).setCell ⟨b, m * 384 + s * 6 + 5, none⟩ (.int .i64 0) := ⟨_, rfl⟩
      rw [← hV6] at HX HO6 HU6
      have hVs : V6.heap.size = V.heap.size := by rw [hV6]; simp
      have HXX : Hid _ := HX
      have HOA : Hid (∀ o, (V6.alloc o).ownsRow W.heap.size 244 2 v L.length (pcells L)) := fun o => HO6.alloc o
      have HLW : Hid (∀ g, v.ownBlock = some g → W.heap.size ≤ g) := ownsRow_low HO6
      have HUU : Hid _ := HU6
      have HVV : Hid _ := hV6
      have HNW : Hid (∀ j u, [Value.int .i64 (m : Int), .int .i64 ((s : Int) + 1)][j]? = some u → (V6.alloc (.cells #[.int .i64 (m : Int), .int .i64 ((s : Int) + 1)] 244)).cell? ((⟨V.heap.size, 0, none⟩ : Addr).add j) = some u) := by
       rw [← hVs]
       exact World.news_of_block (cs := #[.int .i64 (m : Int), .int .i64 ((s : Int) + 1)]) (t := 244) (fr := (0, 0)) (heap_alloc_new V6 _)
      have HBS : Hid (∀ o, W.heap.size ≤ (V6.alloc o).heap.size) := fun o => by simp; omega
      clear HX HO6 HU6 hV6 hsix HV HC3 HO HM hVs HNL
      go_wp2_with (at_builtin; rw [← HVV.out]; refine wpList_append_lies _ rfl _ _ _ rfl W.heap.size 244 i0 _ 2 16 Tryz.underlying263 hi0 hz0 hz1 hz2 rfl (by omega) v L.length (pcells L) rfl (HOA.out _) ⟨V.heap.size, 0, none⟩ 1 1 [.int .i64 m, .int .i64 ((s : Int) + 1)] rfl rfl HNW.out (by simp [Value.oneCell']) (by omega) (by unfold maxLen; omega) (by omega) (HBS.out _) _ rfl ?_; intro gg cap w2 hown2 hgrow hat hlt2)
      go_roundw
      case rel =>
       have ha := below_alloc V6 (.cells #[.int .i64 (m : Int), .int .i64 ((s : Int) + 1)] 244)
       refine ⟨s + 1, _, by omega, by go_num, rfl, ?_, (show Hid _ from fun e => by rw [HL.out] at e; simp at e), ?_, (HUU.out.trans (Upd.of_below ha)).grown hgrow HLW.out⟩
       ·have e : pcells (madeTo T pe ps (m * 64 + (s + 1))) = pcells L ++ [Value.int .i64 (m : Int), .int .i64 ((s : Int) + 1)] := by
         rw [HL.out, pcells_snoc]
         rfl
        have e2 : (madeTo T pe ps (m * 64 + (s + 1))).length = L.length + 1 := by rw [HL.out]; simp
        rw [e, e2]
        exact hown2
       ·have h2 := HXX.out.below ha
        exact h2.keep (hgrow.block b h2.lt (fun e => by have := HLW.out b e.symm; omega))
      case measure => simp [intOf]; omega
    ·obtain rfl : s = 64 := by omega
     go_wp2
     go_roundw
     case rel => exact ⟨m + 1, _, by omega, by go_num, rfl, by rw [show (m + 1) * 64 = m * 64 + 64 from by omega]; exact hown, by rw [show (m + 1) * 64 = m * 64 + 64 from by omega]; exact HNL, by rw [show (m + 1) * 64 = m * 64 + 64 from by omega]; exact hC, hU⟩
     case measure => simp [intOf]; omega
  ·obtain rfl : m = 12 := by omega
   have hsz := HWS.out
   go_wp2
   go_ret
   exact ⟨_, rfl, ownsRow_mono hown (by omega), HNL.out, hC, (Upd.of_below HB.out).trans hU⟩
end Ca
end Go.Proofs.YtbhpafgoofkkmaaGreatDoor
namespace Go.Proofs.YtbhpafgoofkkmaaGreatDoor
open Go.RowKit
namespace Ca
def addOK (n : Int) (x : Cp) : Bool := isE n && mayB x
def addA (T : Tab) (n : Int) (x : Cp) : Int := if addOK n x = true then putA T n.toNat else 0
def addR (T : Tab) (n : Int) (x : Cp) : Int := if addOK n x = true then putE T n.toNat else 101
def addT (T : Tab) (n : Int) (x : Cp) : Tab := if addOK n x = true then putT T n.toNat ⟨x, 0, 0⟩ else T
set_option maxHeartbeats 1000000 in
theorem add_at (b : Nat) (T : Tab) (n : Int) (x : Cp) (w : World) (h : CapsAt w b T) :
  Calls Tryz.prog 123 #[.pointer (some ⟨b, 0, none⟩), .int .i64 n, .agg (cpRow x)] w fun e w' => e = .returned (.tuple #[.int .i64 (addA T n x), .int .i64 (addR T n x)]) ∧ CapsAt w' b (addT T n x) ∧ Upd b w w' := by
 obtain ⟨W, hW⟩ : ∃ W, W = w.alloc (.cells (cpRow x) 97) := ⟨_, rfl⟩
 have HB : Hid (Below w.heap.size w W) := by rw [hW]; exact below_alloc _ _
 have HC : Hid (CapsAt W b T) := h.below HB.out
 have HI : Hid (W.heap[w.heap.size]? = some (.cells (cpRow x) 97)) := by rw [hW]; exact heap_alloc_new _ _
 have hE := isEnv_at n
 have hM := mayBe_at x
 have hlt := h.lt
 clear h
 cases hn : isE n with
 | false =>
  rw [hn] at hE
  have HA : Hid (addOK n x = false) := by show addOK n x = false; simp [addOK, hn]
  obtain ⟨k, i, l, r⟩ := x
  dsimp only [cpRow] at *
  clear hn hM
  go_enter Tryz.func123, Tryz.ntmps123
  go_wp2_with (go_at_call 164; refine (hE _).mono ?_; rintro e w1 ⟨rfl, hw1⟩; rw [hw1]; clear hw1 w1)
  go_ret2
  rw [← hW]
  refine ⟨?_, ?_, Upd.of_below HB.out⟩
  ·simp [addA, addR, HA.out]
  ·unfold addT
   rw [HA.out]
   exact HC.out
 | true =>
  rw [hn] at hE
  have hnn : n = (n.toNat : Int) ∧ n.toNat < 12 := by simp [isE] at hn; omega
  obtain ⟨m, hm, rfl⟩ : ∃ m : Nat, m < 12 ∧ n = m := ⟨n.toNat, hnn.2, hnn.1⟩
  clear hnn
  cases hx : mayB x with
  | false =>
   rw [hx] at hM
   have HA : Hid (addOK m x = false) := by show addOK m x = false; simp [addOK, hx]
   obtain ⟨c0, c1, c2, c3⟩ := cap_cells HI.out
   obtain ⟨k, i, l, r⟩ := x
   dsimp only [cpRow] at *
   clear hn hx
   go_enter Tryz.func123, Tryz.ntmps123
   go_wp2_with fail
   rw [← hW]
   clear hW
   refine (hE _).mono ?_
   rintro e w1 ⟨rfl, hw1⟩
   rw [hw1]
   clear hw1 w1
   go_wp2_with fail
   refine (hM _).mono ?_
   rintro e w1 ⟨rfl, hb1⟩
   go_wp2
   go_ret2
   refine ⟨?_, ?_, Upd.of_below (HB.out.trans (hb1.mono HB.out.size))⟩
   ·simp [addA, addR, HA.out]
   ·unfold addT
    rw [HA.out]
    exact HC.out.below hb1
  | true =>
   rw [hx] at hM
   have HA : Hid (addOK m x = true) := by show addOK m x = true; simp [addOK, hn, hx]
   have hp := fun W hC => put_at b T m ⟨x, 0, 0⟩ W hC hm
   obtain ⟨c0, c1, c2, c3⟩ := cap_cells HI.out
   have HI2 : Hid (∀ w1, Below W.heap.size W w1 → w1.heap[w.heap.size]? = some (.cells (cpRow x) 97)) := fun w1 hb1 => (hb1.block _ (lt_of_heap HI.out)).trans HI.out
   obtain ⟨k, i, l, r⟩ := x
   dsimp only [cpRow, hdRow] at *
   clear hn hx
   go_enter Tryz.func123, Tryz.ntmps123
   go_wp2_with fail
   rw [← hW]
   clear hW
   refine (hE _).mono ?_
   rintro e w1 ⟨rfl, hw1⟩
   rw [hw1]
   clear hw1 w1
   go_wp2_with fail
   refine (hM _).mono ?_
   rintro e w1 ⟨rfl, hb1⟩
   obtain ⟨d0, d1, d2, d3⟩ := cap_cells (x := ⟨k, i, l, r⟩) (HI2.out w1 hb1)
   dsimp only at d0 d1 d2 d3
   clear c0 c1 c2 c3
   go_wp2_with fail
   refine (hp w1 (HC.out.below hb1)).mono ?_
   rintro e w2 ⟨rfl, hC2, hU2⟩
   go_wp2
   go_ret2
   refine ⟨?_, ?_, (Upd.of_below (HB.out.trans (hb1.mono HB.out.size))).trans hU2⟩
   ·simp [addA, addR, HA.out]
   ·unfold addT
    rw [HA.out]
    exact hC2
def giveOK (T : Tab) (n s r : Int) : Bool := (getT T n s).is && mayG (getT T n s) r
def giveA (T : Tab) (n s to r : Int) : Int := if giveOK T n s r = true then (if isE to = true then putA T to.toNat else 0) else 0
def giveR (T : Tab) (n s to r : Int) : Int := if giveOK T n s r = true then (if isE to = true then putE T to.toNat else 101) else 104
def giveH (T : Tab) (n s r : Int) : Hd := ⟨⟨(getT T n s).kind, (getT T n s).id, (getT T n s).len, r⟩, n, s⟩
def giveT (T : Tab) (n s to r : Int) : Tab := if giveOK T n s r = true then (if isE to = true then putT T to.toNat (giveH T n s r) else T) else T
set_option maxHeartbeats 1000000 in
theorem give_at (b : Nat) (T : Tab) (n s to r : Int) (w : World) (h : CapsAt w b T) :
  Calls Tryz.prog 125 #[.pointer (some ⟨b, 0, none⟩), .int .i64 n, .int .i64 s, .int .i64 to, .int .i64 r] w fun e w' => e = .returned (.tuple #[.int .i64 (giveA T n s to r), .int .i64 (giveR T n s to r)]) ∧ CapsAt w' b (giveT T n s to r) ∧ Upd b w w' := by
 have hg := get_at b T n s w h
 have hG := fun W => mayGive_at (getT T n s) r W
 have hE := isEnv_at to
 have HH : Hid _ := h
 have HO : Hid (giveOK T n s r = ((getT T n s).is && mayG (getT T n s) r)) := rfl
 have HX : Hid (giveH T n s r = ⟨⟨(getT T n s).kind, (getT T n s).id, (getT T n s).len, r⟩, n, s⟩) := rfl
 have hlt := h.lt
 clear h
 generalize (getT T n s).is = B at *
 generalize mayG (getT T n s) r = C at *
 generalize getT T n s = x at *
 obtain ⟨k, i, l, q⟩ := x
 dsimp only [cpRow] at *
 go_enter Tryz.func125, Tryz.ntmps125
 go_wp2_with fail
 refine hg.mono ?_
 rintro e w1 ⟨rfl, hb1⟩
 clear hg
 obtain ⟨W, hW⟩ : ∃ W, W = w1.alloc (.cells #[.int .i64 k, .int .i64 i, .int .i64 l, .int .i64 q] 97) := ⟨_, rfl⟩
 have hbW : Below w1.heap.size w1 W := by rw [hW]; exact below_alloc _ _
 have HB : Hid (Below w.heap.size w W) := hb1.trans (hbW.mono hb1.size)
 have HI : Hid (W.heap[w1.heap.size]? = some (.cells (cpRow ⟨k, i, l, q⟩) 97)) := by rw [hW]; exact heap_alloc_new _ _
 have HC : Hid (CapsAt W b T) := HH.out.below HB.out
 have hlt1 : b < w1.heap.size := Nat.lt_of_lt_of_le hlt hb1.size
 have hs1 := hb1.size
 clear hbW hb1
 cases B with
 | false =>
  have HA : Hid (giveOK T n s r = false) := by rw [HO.out]; rfl
  clear HO
  go_wp2
  go_ret2
  rw [← hW]
  refine ⟨?_, ?_, Upd.of_below HB.out⟩
  ·simp [giveA, giveR, HA.out]
  ·unfold giveT
   rw [HA.out]
   exact HC.out
 | true =>
  obtain ⟨c0, c1, c2, c3⟩ := cap_cells HI.out
  dsimp only at c0 c1 c2 c3
  go_wp2_with fail
  rw [← hW]
  clear hW
  refine (hG W).mono ?_
  rintro e w2 ⟨rfl, hb2⟩
  clear hG c0 c1 c2 c3
  have HB2 : Hid (Below w.heap.size w w2) := HB.out.trans (hb2.mono HB.out.size)
  have HC2 : Hid (CapsAt w2 b T) := HC.out.below hb2
  have HI2 : Hid (w2.heap[w1.heap.size]? = some (.cells (cpRow ⟨k, i, l, q⟩) 97)) := (hb2.block _ (lt_of_heap HI.out)).trans HI.out
  clear hb2 HB HC HI
  cases C with
  | false =>
   have HA : Hid (giveOK T n s r = false) := by rw [HO.out]; rfl
   clear HO
   go_wp2
   go_ret2
   refine ⟨?_, ?_, Upd.of_below HB2.out⟩
   ·simp [giveA, giveR, HA.out]
   ·unfold giveT
    rw [HA.out]
    exact HC2.out
  | true =>
   have HA : Hid (giveOK T n s r = true) := by rw [HO.out]; rfl
   clear HO
   cases ht : isE to with
   | false =>
    rw [ht] at hE
    have HT : Hid _ := ht
    clear ht
    go_wp2_with (go_at_call 164; refine (hE _).mono ?_; rintro e w3 ⟨rfl, hw3⟩; rw [hw3]; clear hw3 w3)
    go_ret2
    refine ⟨?_, ?_, Upd.of_below HB2.out⟩
    ·simp [giveA, giveR, HA.out, HT.out]
    ·unfold giveT
     rw [HA.out, HT.out]
     exact HC2.out
   | true =>
    rw [ht] at hE
    have HT : Hid _ := ht
    obtain ⟨m, hm, rfl⟩ : ∃ m : Nat, m < 12 ∧ to = m := ⟨to.toNat, by simp [isE] at ht; omega, by simp [isE] at ht; omega⟩
    clear ht
    obtain ⟨c0, c1, c2, c3⟩ := cap_cells HI2.out
    dsimp only at c0 c1 c2 c3
    have f3 : w2.frozen? ⟨w1.heap.size, 3, none⟩ = false := frozen_of_heap HI2.out
    obtain ⟨w3, hw3⟩ : ∃ w3, w3 = w2.setCell ⟨w1.heap.size, 3, none⟩ (.int .i64 r) := ⟨_, rfl⟩
    have HU3 : Hid (Upd b w w3) := by
     rw [hw3]
     exact ⟨HB2.out.os, HB2.out.tape, HB2.out.output, by simpa [World.setCell] using HB2.out.size, fun k hk hb => (Below.heap_setCell _ _ _ _ (by show k ≠ w1.heap.size; omega)).trans (HB2.out.block k hk)⟩
    have HC3 : Hid (CapsAt w3 b T) := HC2.out.keep (by rw [hw3]; exact Below.heap_setCell _ _ _ _ (by show b ≠ w1.heap.size; omega))
    have hp := put_at b T m ⟨⟨k, i, l, r⟩, n, s⟩ w3 HC3.out hm
    dsimp only [hdRow] at hp
    have HW3 : Hid _ := hw3
    clear hw3
    go_wp2_with (first | (go_at_call 164; refine (hE _).mono ?_; rintro e w3 ⟨rfl, hw3⟩; rw [hw3]; clear hw3 w3) | (go_at_call 166; rw [← HW3.out]; refine hp.mono ?_; rintro e w4 ⟨rfl, hC4, hU4⟩))
    go_ret2
    refine ⟨?_, ?_, HU3.out.trans hU4⟩
    ·simp [giveA, giveR, HA.out, HT.out]
    ·unfold giveT
     rw [HA.out, HT.out, HX.out]
     exact hC4
def dropJ (n s : Int) : Nat := n.toNat * 64 + (s.toNat - 1)
def dropT (T : Tab) (n s : Int) : Tab := if (getT T n s).is = true then (hoTo T n s (T (dropJ n s)).e (T (dropJ n s)).s 768).set (dropJ n s) Hd.no else T
def dropB (T : Tab) (n s : Int) : Bool := (getT T n s).is && !anyM (dropT T n s) (getT T n s)
def dropR (T : Tab) (n s : Int) : Int := if (getT T n s).is = true then 0 else 104
theorem hoTo_x (T : Tab) (pe ps qe qs : Int) (k j : Nat) : (hoTo T pe ps qe qs k j).x = (T j).x := by
 unfold hoTo
 split <;> rfl
theorem dropT_sanes {T : Tab} (h : Sanes T) (n s : Int) : Sanes (dropT T n s) := by
 intro j hj
 unfold dropT
 split
 ·by_cases e : j = dropJ n s
  ·rw [e, Tab.set_same]
   exact Sane.no
  ·rw [Tab.set_other _ _ _ _ e, hoTo_x]
   exact h j hj
 ·exact h j hj
theorem getT_sane {T : Tab} (h : Sanes T) (n s : Int) : Sane (getT T n s) := by
 cases hp : isP n s with
 | false => rw [getT_no T n s hp]; exact Sane.no
 | true =>
  obtain ⟨a, c, rfl, rfl, ha, hc⟩ := isP_nat hp
  rw [getT_nat T a c ha hc]
  exact h _ (by omega)
theorem is_isP {T : Tab} {n s : Int} (h : (getT T n s).is = true) : isP n s = true := by
 cases hp : isP n s with
 | true => rfl
 | false => rw [getT_no T n s hp] at h; exact absurd h (by decide)
set_option maxRecDepth 100000 in
set_option maxHeartbeats 2000000 in
theorem drop_at (b : Nat) (T : Tab) (n s : Int) (w : World) (h : CapsAt w b T) (hS : Sanes T) :
  Calls Tryz.prog 126 #[.pointer (some ⟨b, 0, none⟩), .int .i64 n, .int .i64 s] w fun e w' => e = .returned (.tuple #[.bool (dropB T n s), .int .i64 (dropR T n s)]) ∧ CapsAt w' b (dropT T n s) ∧ Upd b w w' := by
 have hg := get_at b T n s w h
 have HH : Hid _ := h
 have HS : Hid _ := hS
 have hlt := h.lt
 clear h hS
 cases hq : (getT T n s).is with
 | false =>
  rw [hq] at hg
  have HQ : Hid _ := hq
  clear hq
  have HD : Hid (dropT T n s = T) := by show dropT T n s = T; unfold dropT; rw [HQ.out]; rfl
  generalize hgx : getT T n s = x at *
  obtain ⟨k, i, l, q⟩ := x
  have HGX : Hid _ := hgx
  clear hgx
  dsimp only [cpRow] at *
  go_enter Tryz.func126, Tryz.ntmps126
  go_wp2_with (go_at_call 159; refine hg.mono ?_; rintro e w1 ⟨rfl, hb1⟩)
  go_ret2
  have hbb := hb1.trans ((below_alloc w1 (.cells #[.int .i64 k, .int .i64 i, .int .i64 l, .int .i64 q] 97)).mono hb1.size)
  refine ⟨?_, ?_, Upd.of_below hbb⟩
  ·simp [dropB, dropR, HGX.out, HQ.out]
  ·rw [HD.out]
   exact HH.out.below hbb
 | true =>
  obtain ⟨a, c, rfl, rfl, ha, hc⟩ := isP_nat (is_isP hq)
  rw [hq] at hg
  have HJ : Hid (dropJ a (c + 1 : Nat) = a * 64 + c) := by show dropJ a (c + 1 : Nat) = a * 64 + c; simp [dropJ]
  have HB : Hid (dropB T a (c + 1 : Nat) = !anyM (dropT T a (c + 1 : Nat)) (getT T a (c + 1 : Nat)) ∧ dropR T a (c + 1 : Nat) = 0) := by
   unfold dropB dropR
   rw [hq]
   exact ⟨rfl, rfl⟩
  have HD : Hid (dropT T a (c + 1 : Nat) = (hoTo T a (c + 1 : Nat) (T (a * 64 + c)).e (T (a * 64 + c)).s 768).set (a * 64 + c) Hd.no) := by
   unfold dropT
   rw [hq, HJ.out]
   rfl
  have HZ : Hid (Sane (getT T a (c + 1 : Nat))) := getT_sane HS.out _ _
  have HDS : Hid (Sanes (dropT T a (c + 1 : Nat))) := dropT_sanes HS.out _ _
  generalize getT T a (c + 1 : Nat) = x at *
  generalize dropT T a (c + 1 : Nat) = D at *
  generalize dropB T a (c + 1 : Nat) = DB at *
  generalize dropR T a (c + 1 : Nat) = DR at *
  obtain ⟨k, i, l, q⟩ := x
  dsimp only [cpRow] at *
  clear hq
  go_enter Tryz.func126, Tryz.ntmps126
  go_wp2_with fail
  refine hg.mono ?_
  rintro e w1 ⟨rfl, hb1⟩
  clear hg
  obtain ⟨W, hW⟩ : ∃ W, W = w1.alloc (.cells #[.int .i64 k, .int .i64 i, .int .i64 l, .int .i64 q] 97) := ⟨_, rfl⟩
  have hbW : Below w1.heap.size w1 W := by rw [hW]; exact below_alloc _ _
  have HBW : Hid (Below w.heap.size w W) := hb1.trans (hbW.mono hb1.size)
  have HI : Hid (W.heap[w1.heap.size]? = some (.cells (cpRow ⟨k, i, l, q⟩) 97)) := by rw [hW]; exact heap_alloc_new _ _
  have HC : Hid (CapsAt W b T) := HH.out.below HBW.out
  have hlt1 : b < w1.heap.size := Nat.lt_of_lt_of_le hlt hb1.size
  have hs1 := hb1.size
  clear hbW hb1
  obtain ⟨_, c4, c5⟩ := HC.out.cells ha hc rfl
  have hcc : ((c + 1 : Nat) : Int) = (c : Int) + 1 := by omega
  rw [hcc] at HD
  have hho := handOver_at b T a ((c : Int) + 1) (T (a * 64 + c)).e (T (a * 64 + c)).s W HC.out
  have HWW : Hid _ := hW
  have ia : (a : Int) < 12 := by omega
  have ic : (c : Int) < 64 := by omega
  generalize (T (a * 64 + c)).e = te at *
  generalize (T (a * 64 + c)).s = ts at *
  rw [hW] at c4 c5
  clear hW
  clear hcc
  go_wp2_with fail
  rw [← HWW.out]
  refine hho.mono ?_
  rintro e w2 ⟨rfl, hC2, hU2⟩
  clear hho c4 c5 HWW
  obtain ⟨d0, d1, d2, d3⟩ := cap_cells (x := ⟨k, i, l, q⟩) ((hU2.block _ (lt_of_heap HI.out) (by omega)).trans HI.out)
  dsimp only at d0 d1 d2 d3
  obtain ⟨G, hG⟩ : ∃ G, hoTo T a ((c : Int) + 1) te ts 768 (a * 64 + c) = G := ⟨_, rfl⟩
  obtain ⟨⟨c0, c1, c2, c3⟩, c4, c5⟩ := hC2.cells ha hc hG
  clear hG
  obtain ⟨⟨x0, x1, x2, x3⟩, xe, xs⟩ := G
  dsimp only at c0 c1 c2 c3 c4 c5
  have f0 := hC2.free (a * 384 + c * 6)
  have f1 := hC2.free (a * 384 + c * 6 + 1)
  have f2 := hC2.free (a * 384 + c * 6 + 2)
  have f3 := hC2.free (a * 384 + c * 6 + 3)
  have f4 := hC2.free (a * 384 + c * 6 + 4)
  have f5 := hC2.free (a * 384 + c * 6 + 5)
  have HX := hC2.put6 (j := a * 64 + c) (o := a * 384 + c * 6) (by omega) (by omega) Hd.no
  dsimp only at HX
  rw [← HD.out] at HX
  have hsix := Upd.six b (a * 384 + c * 6) w2 (.int .i64 0) (.int .i64 0) (.int .i64 0) (.int .i64 0) (.int .i64 0) (.int .i64 0)
  have HU6 := ((Upd.of_below HBW.out).trans hU2).trans hsix
  obtain ⟨V6, hV6⟩ : ∃ V6, V6 = (((((w2.setCell ⟨b, a * 384 + c * 6, none⟩ (.int .i64 0)).setCell ⟨b, a * 384 + c * 6 + 1, none⟩ (.int .i64 0)).setCell ⟨b, a * 384 + c * 6 + 2, none⟩ (.int .i64 0)).setCell ⟨b, a * 384 + c * 6 + 3, none⟩ (.int .i64 0)).setCell ⟨b, a * 384 + c * 6 + 4, none⟩ (.int .i64 0)).setCell ⟨b, a * 384 + c * 6 + 5, none⟩ (.int .i64 0) := ⟨_, rfl⟩
  rw [← hV6] at HX HU6
  have HXX : Hid _ := HX
  have HUU : Hid _ := HU6
  have HVV : Hid _ := hV6
  have ham := anyMeets_at b D ⟨k, i, l, q⟩ V6 HX HDS.out HZ.out
  dsimp only [cpRow] at ham
  clear HX HU6 hV6 hsix hC2 hU2 HD HC HI
  go_wp2_with fail
  rw [← HVV.out]
  refine ham.mono ?_
  rintro e w3 ⟨rfl, hb3⟩
  clear ham HVV c0 c1 c2 c3 c4 c5 f0 f1 f2 f3 f4 f5
  generalize anyM D ⟨k, i, l, q⟩ = AM at *
  go_wp2
  go_ret2
  exact ⟨by rw [HB.out.1, HB.out.2]; rfl, HXX.out.below hb3, HUU.out.trans (Upd.of_below hb3)⟩
end Ca
end Go.Proofs.YtbhpafgoofkkmaaGreatDoor
namespace Go.Proofs.YtbhpafgoofkkmaaGreatDoor
open Go.RowKit
namespace Ca
def revS (T0 : Tab) (p : Int × Int) : Nat → Tab × List (Int × Int)
 | 0 => (T0, [p])
 | i + 1 => match (revS T0 p i).2[i]? with
  | none => revS T0 p i
  | some q => (clTo (revS T0 p i).1 q.1 q.2 768, (revS T0 p i).2 ++ madeTo (revS T0 p i).1 q.1 q.2 768)
theorem revS_succ {T0 : Tab} {p q : Int × Int} {i : Nat} {T : Tab} {F : List (Int × Int)} (h : revS T0 p i = (T, F)) (hq : F[i]? = some q) : revS T0 p (i + 1) = (clTo T q.1 q.2 768, F ++ madeTo T q.1 q.2 768) := by
 simp only [revS, h, hq]
def cntT (T : Tab) (k : Nat) : Nat := ((List.range k).filter (fun j => (T j).s != 0)).length
theorem cntT_le (T : Tab) (k : Nat) : cntT T k ≤ k := by
 unfold cntT
 exact Nat.le_trans (List.length_filter_le _ _) (by simp)
theorem cnt_step (T : Tab) (pe ps : Int) (hp : ps ≠ 0) (K : Nat) : ∀ k, k ≤ K → cntT (clTo T pe ps K) k + (madeTo T pe ps k).length = cntT T k
 | 0, _ => by simp [cntT, madeTo]
 | k + 1, h => by
  have ih := cnt_step T pe ps hp K k (by omega)
  have e1 : ∀ T : Tab, cntT T (k + 1) = cntT T k + (if (T k).s != 0 then 1 else 0) := by
   intro T
   simp only [cntT, List.range_succ, List.filter_append, List.length_append]
   cases hq : ((T k).s != 0) <;> simp [hq]
  have e2 : (madeTo T pe ps (k + 1)).length = (madeTo T pe ps k).length + (if ofB (T k) pe ps = true then 1 else 0) := by
   simp only [madeTo, List.range_succ, List.filter_append, List.map_append, List.length_append]
   cases hq : ofB (T k) pe ps <;> simp [hq]
  rw [e1, e1, e2]
  by_cases ho : ofB (T k) pe ps = true
  ·have h1 : (clTo T pe ps K k).s = 0 := by
    unfold clTo
    rw [if_pos ⟨by omega, ho⟩]
   have h2 : (T k).s = ps := by
    simp [ofB] at ho
    exact ho.2
   have h3 : ((T k).s != 0) = true := by rw [h2]; simpa using hp
   rw [h1, h3, if_pos ho]
   simp
   omega
  ·have h1 : clTo T pe ps K k = T k := by
    unfold clTo
    rw [if_neg (fun e => ho e.2)]
   rw [h1, if_neg ho]
   omega
theorem revS_pos (T0 : Tab) (p : Int × Int) (hp : p.2 ≠ 0) : ∀ i, ∀ q ∈ (revS T0 p i).2, q.2 ≠ 0
 | 0 => by
  intro q hq
  simp [revS] at hq
  rw [hq]
  exact hp
 | i + 1 => by
  have ih := revS_pos T0 p hp i
  intro q hq
  unfold revS at hq
  split at hq
  ·exact ih q hq
  ·simp only [List.mem_append] at hq
   rcases hq with hq | hq
   ·exact ih q hq
   ·simp only [madeTo, List.mem_map] at hq
    obtain ⟨j, _, rfl⟩ := hq
    simp [plOf]
    omega
theorem revS_cnt (T0 : Tab) (p : Int × Int) (hp : p.2 ≠ 0) : ∀ i, (revS T0 p i).2.length + cntT (revS T0 p i).1 768 = 1 + cntT T0 768
 | 0 => by simp [revS]
 | i + 1 => by
  have ih := revS_cnt T0 p hp i
  have hpos := revS_pos T0 p hp i
  unfold revS
  split
  ·exact ih
  ·rename_i q hq
   have := cnt_step (revS T0 p i).1 q.1 q.2 (hpos q (List.mem_of_getElem? hq)) 768 768 (Nat.le_refl _)
   simp only [List.length_append]
   omega
theorem revS_len (T0 : Tab) (p : Int × Int) (hp : p.2 ≠ 0) (i : Nat) : (revS T0 p i).2.length ≤ 769 := by
 have h1 := revS_cnt T0 p hp i
 have h2 := cntT_le T0 768
 omega
theorem own_news {w : World} {base : Nat} {e : TypeId} {g n cap : Nat} {xs : List Value} (h : w.ownsRow base e 2 (.slice (some ⟨g, 0, none⟩) n cap) n xs) : ∀ j u, xs[j]? = some u → w.cell? ((⟨g, 0, none⟩ : Addr).add j) = some u := by
 intro j u hj
 rcases h.2 with ⟨e2, _⟩ | ⟨g', cap', cur, e2, _, hh, _, _, _, ht⟩
 ·cases e2
 ·simp only [Value.slice.injEq, Option.some.injEq, Addr.mk.injEq] at e2
  obtain ⟨⟨rfl, _⟩, _⟩ := e2
  have ea : (⟨g, 0, none⟩ : Addr).add j = ⟨g, 0 + j, none⟩ := by unfold Addr.add; split <;> simp_all
  rw [ea, cell_of_heap hh, Nat.zero_add]
  rw [← ht] at hj
  have hl : j < n * 2 := by
   rcases Nat.lt_or_ge j (n * 2) with hl | hl
   ·exact hl
   ·rw [List.getElem?_take_eq_none hl] at hj
    cases hj
  rw [List.getElem?_take_of_lt hl] at hj
  simpa using hj
theorem own_cell2 {w : World} {base : Nat} {e : TypeId} {v : Value} {L : List (Int × Int)} {i : Nat} {q : Int × Int} (h : w.ownsRow base e 2 v L.length (pcells L)) (hq : L[i]? = some q) :
  ∃ g cap, v = .slice (some ⟨g, 0, none⟩) L.length cap ∧ w.cell? ⟨g, i * 2, none⟩ = some (.int .i64 q.1) ∧ w.cell? ⟨g, i * 2 + 1, none⟩ = some (.int .i64 q.2) := by
 have hlen : i < L.length := (List.getElem?_eq_some_iff.1 hq).1
 have hv : ∃ g cap, v = .slice (some ⟨g, 0, none⟩) L.length cap := by
  rcases h.2 with ⟨_, e2⟩ | ⟨g, cap, cur, e2, _⟩
  ·omega
  ·exact ⟨g, cap, e2⟩
 obtain ⟨g, cap, rfl⟩ := hv
 have hn := own_news h
 have hp : ∀ (L : List (Int × Int)) (i : Nat) (q : Int × Int), L[i]? = some q → (pcells L)[i * 2]? = some (.int .i64 q.1) ∧ (pcells L)[i * 2 + 1]? = some (.int .i64 q.2) := by
  intro L
  induction L with
  | nil => intro i q hq; simp at hq
  | cons x L ih =>
   intro i q hq
   have e : pcells (x :: L) = .int .i64 x.1 :: .int .i64 x.2 :: pcells L := rfl
   rw [e]
   cases i with
   | zero =>
    simp at hq
    subst hq
    exact ⟨rfl, rfl⟩
   | succ i =>
    simp at hq
    have h2 : (i + 1) * 2 = i * 2 + 1 + 1 := by omega
    rw [h2]
    simpa using ih i q hq
 obtain ⟨p0, p1⟩ := hp L i q hq
 refine ⟨g, cap, rfl, ?_, ?_⟩
 ·have := hn _ _ p0
  have ea : (⟨g, 0, none⟩ : Addr).add (i * 2) = ⟨g, 0 + i * 2, none⟩ := by unfold Addr.add; split <;> simp_all
  rwa [ea, Nat.zero_add] at this
 ·have := hn _ _ p1
  have ea : (⟨g, 0, none⟩ : Addr).add (i * 2 + 1) = ⟨g, 0 + (i * 2 + 1), none⟩ := by unfold Addr.add; split <;> simp_all
  rwa [ea, Nat.zero_add] at this
theorem revoke_no (b : Nat) (T : Tab) (n s : Int) (w : World) (h : CapsAt w b T) (hq : (getT T n s).is = false) :
  Calls Tryz.prog 128 #[.pointer (some ⟨b, 0, none⟩), .int .i64 n, .int .i64 s] w fun e w' => e = .returned (.tuple #[.int .i64 0, .int .i64 104]) ∧ Below w.heap.size w w' := by
 have hg := get_at b T n s w h
 rw [hq] at hg
 clear hq h
 generalize getT T n s = x at *
 obtain ⟨k, i, l, q⟩ := x
 dsimp only [cpRow] at *
 go_enter Tryz.func128, Tryz.ntmps128
 go_wp2_with (go_at_call 159; refine hg.mono ?_; rintro e w1 ⟨rfl, hb1⟩)
 go_ret2
 exact ⟨rfl, hb1.trans ((below_alloc w1 (.cells #[.int .i64 k, .int .i64 i, .int .i64 l, .int .i64 q] 97)).mono hb1.size)⟩
set_option maxRecDepth 100000 in
set_option maxHeartbeats 2000000 in
theorem revoke_yes (b : Nat) (T : Tab) (n s : Int) (w : World) (h : CapsAt w b T) (hq : (getT T n s).is = true) :
  Calls Tryz.prog 128 #[.pointer (some ⟨b, 0, none⟩), .int .i64 n, .int .i64 s] w fun e w' => ∃ N : Nat, (revS T (n, s) (N + 1)).2.length = N + 1 ∧ e = .returned (.tuple #[.int .i64 N, .int .i64 0]) ∧ CapsAt w' b (revS T (n, s) (N + 1)).1 ∧ Upd b w w' := by
 obtain ⟨i0, hi0, hzz⟩ := Option.map_eq_some_iff.1 placeInfo
 simp only [Prod.mk.injEq] at hzz
 obtain ⟨hz0, hz1, hz2⟩ := hzz
 have hg := get_at b T n s w h
 have hs0 : s ≠ 0 := by
  obtain ⟨a, c, rfl, rfl, ha, hc⟩ := isP_nat (is_isP hq)
  omega
 rw [hq] at hg
 have HH : Hid _ := h
 have hlt := h.lt
 have HLN : Hid (∀ i, (revS T (n, s) i).2.length ≤ 769) := revS_len T (n, s) hs0
 clear hq h hs0
 generalize getT T n s = x at *
 obtain ⟨k, i, l, q⟩ := x
 dsimp only [cpRow] at *
 go_enter Tryz.func128, Tryz.ntmps128
 go_wp2_with (go_at_call 159; refine hg.mono ?_; rintro e w1 ⟨rfl, hb1⟩)
 clear hg
 obtain ⟨W, hW⟩ : ∃ W, W = (w1.alloc (.cells #[.int .i64 k, .int .i64 i, .int .i64 l, .int .i64 q] 97)).alloc (.cells #[.int .i64 n, .int .i64 s] 244) := ⟨_, rfl⟩
 have hbW : Below w1.heap.size w1 W := by rw [hW]; exact below_alloc2 _ _ _
 have HB : Hid (Below w.heap.size w W) := hb1.trans (hbW.mono hb1.size)
 have hs1 := hb1.size
 have hI : W.heap[w1.heap.size + 1]? = some (.cells #[.int .i64 n, .int .i64 s] 244) := by
  have := heap_alloc_new (w1.alloc (.cells #[.int .i64 k, .int .i64 i, .int .i64 l, .int .i64 q] 97)) (.cells #[.int .i64 n, .int .i64 s] 244)
  rw [World.size_alloc] at this
  rw [hW]
  exact this
 have HO : Hid (W.ownsRow w.heap.size 244 2 (.slice (some ⟨w1.heap.size + 1, 0, none⟩) 1 1) 1 (pcells [(n, s)])) :=
  ⟨rfl, Or.inr ⟨_, 1, _, rfl, by omega, hI, Nat.le_refl _, by unfold maxLen; omega, rfl, rfl⟩⟩
 have HC : Hid (CapsAt W b T) := HH.out.below HB.out
 clear hbW hb1 hI
 rw [← hW]
 clear hW
 go_loopw [10, 11] (fun u a wr => ∃ (j : Nat) (v : Value) (T' : Tab) (F : List (Int × Int)), j ≤ F.length ∧ F.length ≤ 769 ∧ a = .int .i64 j ∧ v = u ∧ Hid (revS T (n, s) j = (T', F)) ∧ wr.ownsRow w.heap.size 244 2 v F.length (pcells F) ∧ CapsAt wr b T' ∧ Upd b w wr) (fun _ a _ => 769 - (intOf a).toNat)
 case atStart => exact ⟨0, _, T, [(n, s)], by simp, by simp, rfl, rfl, (show Hid _ from rfl), HO.out, HC.out, Upd.of_below HB.out⟩
 case round =>
  obtain ⟨j, v, T', F, hj, hF, rfl, rfl, HR, hown, hC, hU⟩ := hrel
  by_cases hjl : j < F.length
  ·obtain ⟨q', hq'⟩ : ∃ q', F[j]? = some q' := ⟨F[j], List.getElem?_eq_getElem hjl⟩
   obtain ⟨g, cap, rfl, p0, p1⟩ := own_cell2 hown hq'
   have HN : Hid _ := revS_succ HR.out hq'
   have hF2 : F.length + (madeTo T' q'.1 q'.2 768).length ≤ 769 := by
    have := HLN.out (j + 1)
    rw [HN.out] at this
    simpa using this
   have ht := takeMadeOf_at b T' q'.1 q'.2 wr hC
   have HOW : Hid _ := hown
   have HUW : Hid _ := hU
   clear hq' HR hown hC hU
   obtain ⟨qe, qs⟩ := q'
   dsimp only at *
   go_wp2_with fail
   refine ht.mono ?_
   rintro e w2 ⟨v2, rfl, hown2, hnil, hC2, hU2⟩
   clear ht p0 p1
   have hown1 := own_upd HOW.out hlt hU2
   generalize madeTo T' qe qs 768 = L2 at *
   have hsz2 : w.heap.size ≤ w2.heap.size := Nat.le_trans HUW.out.size hU2.size
   have HC2 : Hid _ := hC2
   have HU2 : Hid _ := HUW.out.trans hU2
   clear hC2 hU2 HUW HOW
   cases L2 with
   | nil =>
    have hv2 := hnil rfl
    subst hv2
    have HO1 : Hid _ := hown1
    clear hnil hown2 hown1
    go_wp2_with (at_builtin; refine wpList_append_own_none rfl _ _ _ rfl w.heap.size 244 i0 2 Tryz.underlying263 hi0 _ _ _ rfl HO1.out rfl ?_)
    go_roundw
    case rel =>
     refine ⟨j + 1, _, _, _, ?_, ?_, by go_num, rfl, HN, ?_, HC2.out, HU2.out⟩
     ·simp; omega
     ·simp; omega
     ·rw [List.append_nil]
      exact HO1.out
    case measure => simp [intOf]; omega
   | cons y L2 =>
    have hv2 : ∃ g2 cap2, v2 = .slice (some ⟨g2, 0, none⟩) (L2.length + 1) cap2 := by
     rcases hown2.2 with ⟨_, e2⟩ | ⟨g2, cap2, cur, e2, _⟩
     ·simp at e2
     ·exact ⟨g2, cap2, e2⟩
    obtain ⟨g2, cap2, rfl⟩ := hv2
    have HNW : Hid _ := own_news hown2
    have HLen : Hid ((pcells (y :: L2)).length = (L2.length + 1) * 2) := by show (pcells (y :: L2)).length = (L2.length + 1) * 2; rw [pcells_len]; rfl
    have HLow : Hid _ := ownsRow_low hown1
    have HO1 : Hid _ := hown1
    have HONE : Hid (∀ u ∈ pcells (y :: L2), u.oneCell' = true) := by
     intro u hu
     simp only [pcells, List.mem_flatMap] at hu
     obtain ⟨z, _, hz⟩ := hu
     simp at hz
     rcases hz with rfl | rfl <;> rfl
    simp only [List.length_cons] at hF2
    clear hnil hown2 hown1
    go_wp2_with (at_builtin; refine wpList_append_lies _ rfl _ _ _ rfl w.heap.size 244 i0 _ 2 16 Tryz.underlying263 hi0 hz0 hz1 hz2 rfl (by omega) _ F.length (pcells F) rfl HO1.out ⟨g2, 0, none⟩ (L2.length + 1) cap2 (pcells (y :: L2)) rfl HLen.out HNW.out HONE.out (by omega) (by unfold maxLen; omega) (by omega) hsz2 _ rfl ?_; intro gg cc w3 hown3 hgrow hat hlt3)
    go_roundw
    case rel =>
     refine ⟨j + 1, _, _, _, ?_, ?_, by go_num, rfl, HN, ?_, ?_, HU2.out.grown hgrow HLow.out⟩
     ·simp; omega
     ·simp; omega
     ·rw [pcells_app, List.length_append]
      exact hown3
     ·exact HC2.out.keep (hgrow.block b HC2.out.lt (fun e => by have := HLow.out b e.symm; omega))
    case measure => simp [intOf]; omega
  ·obtain rfl : j = F.length := by omega
   obtain ⟨a, cap, rfl⟩ := own_slice2 hown
   have hpos : 1 ≤ F.length := by
    have : ∀ i, 1 ≤ (revS T (n, s) i).2.length := by
     intro i
     induction i with
     | zero => simp [revS]
     | succ i ih =>
      unfold revS
      split
      ·exact ih
      ·simp; omega
    have h2 := this F.length
    rw [HR.out] at h2
    exact h2
   obtain ⟨N, hN⟩ : ∃ N, F.length = N + 1 := ⟨F.length - 1, by omega⟩
   have HR2 : Hid (revS T (n, s) (N + 1) = (T', F)) := by
    have := HR.out
    rwa [hN] at this
   have HN : Hid _ := hN
   have hi1 : (1 : Int) ≤ (F.length : Int) := by omega
   have hi2 : (F.length : Int) ≤ 769 := by omega
   clear hN HR
   go_wp2
   go_ret2
   refine ⟨N, ?_, ?_, ?_, hU⟩
   ·rw [HR2.out]
    exact HN.out
   ·have e : (F.length : Int) - 1 = (N : Int) := by have := HN.out; omega
    rw [← e]
    rfl
   ·rw [HR2.out]
    exact hC
def goneT (T : Tab) (n : Int) : Nat → Tab
 | 0 => T
 | k + 1 => dropT (goneT T n k) n (k + 1 : Nat)
end Ca
end Go.Proofs.YtbhpafgoofkkmaaGreatDoor
namespace Go.Proofs.YtbhpafgoofkkmaaGreatDoor
open Go.RowKit
namespace Ca
theorem clTo_sanes {T : Tab} (h : Sanes T) (pe ps : Int) (k : Nat) : Sanes (clTo T pe ps k) := by
 intro j hj
 unfold clTo
 split
 ·exact Sane.no
 ·exact h j hj
theorem revS_sanes {T : Tab} (h : Sanes T) (p : Int × Int) : ∀ i, Sanes (revS T p i).1
 | 0 => h
 | i + 1 => by
  unfold revS
  split
  ·exact revS_sanes h p i
  ·exact clTo_sanes (revS_sanes h p i) _ _ _
theorem revS_stay {T : Tab} {p : Int × Int} {i : Nat} (h : (revS T p i).2.length ≤ i) : ∀ k, revS T p (i + k) = revS T p i
 | 0 => rfl
 | k + 1 => by
  have ih := revS_stay h k
  have : (revS T p (i + k)).2[i + k]? = none := by
   rw [ih]
   exact List.getElem?_eq_none (by omega)
  show revS T p ((i + k) + 1) = _
  rw [revS, this]
  exact ih
def IRow (w : World) (a0 : Option Addr) (D : List Int) : Prop := ∀ (j : Nat) (x : Int), D[j]? = some x → ∃ gb off, a0 = some ⟨gb, off, none⟩ ∧ w.cell? ⟨gb, off + j, none⟩ = some (.int .i64 x)
theorem IRow.below {w w' : World} {a0 : Option Addr} {D : List Int} (h : IRow w a0 D) (hb : Below w.heap.size w w') : IRow w' a0 D := by
 intro j x hj
 obtain ⟨gb, off, ha, hc⟩ := h j x hj
 exact ⟨gb, off, ha, by rw [hb.cell (cell_lt hc)]; exact hc⟩
theorem own_irow {w : World} {base : Nat} {e : TypeId} {v : Value} {D : List Int} (h : w.ownsRow base e 1 v D.length (ivs D)) : ∃ a cap, v = .slice a D.length cap ∧ IRow w a D := by
 rcases h.2 with ⟨rfl, e2⟩ | ⟨g, cap, cur, rfl, _, hh, _, _, _, ht⟩
 ·have : D = [] := List.eq_nil_of_length_eq_zero e2
  subst this
  exact ⟨none, 0, rfl, fun j x hx => by simp at hx⟩
 ·refine ⟨_, cap, rfl, fun j x hx => ⟨g, 0, rfl, ?_⟩⟩
  have hj : j < D.length := (List.getElem?_eq_some_iff.1 hx).1
  have hq : (ivs D)[j]? = some (.int .i64 x) := by simp [ivs, hx]
  rw [Nat.zero_add, cell_of_heap hh]
  rw [← ht, Nat.mul_one, List.getElem?_take_of_lt hj] at hq
  simpa using hq
def a0 : Tab := fun _ => Hd.no
def a1 : Tab := addT a0 1 ⟨1, 5, 1, 7⟩
def a2 : Tab := giveT a1 1 1 2 1
def a3 : Tab := giveT a2 2 1 3 1
def a4 : Tab := (revS a3 (1, 1) 2).1
end Ca
end Go.Proofs.YtbhpafgoofkkmaaGreatDoor
namespace Go.Proofs.YtbhpafgoofkkmaaGreatDoor
open Go.RowKit
namespace Ca
end Ca
end Go.Proofs.YtbhpafgoofkkmaaGreatDoor
namespace Go.Proofs.YtbhpafgoofkkmaaGreatDoor
open Go.ChangeShapes Go.WideShapes Go.ChangeAt Go.RowKit
namespace Ca
end Ca
end Go.Proofs.YtbhpafgoofkkmaaGreatDoor
namespace Go.Proofs.YtbhpafgoofkkmaaGreatDoor
open Go.RowKit
namespace Ca
theorem plOf_at {a c : Nat} (hc : c < 64) : plOf (a * 64 + c) = ((a : Int), ((c + 1 : Nat) : Int)) := by
 have h1 : (a * 64 + c) / 64 = a := by omega
 have h2 : (a * 64 + c) % 64 = c := by omega
 simp [plOf, h1, h2]
theorem plOf_inj {i j : Nat} (h : plOf i = plOf j) : i = j := by
 simp only [plOf, Prod.mk.injEq] at h
 omega
theorem plOf_pos (j : Nat) : (plOf j).2 ≠ 0 := by
 simp only [plOf]
 omega
theorem ofB_no (q : Int × Int) (h : q.2 ≠ 0) : ofB Hd.no q.1 q.2 = false := by
 simp [ofB]
 intro _ e
 exact h e.symm
theorem ofB_iff {h : Hd} {e s : Int} : ofB h e s = true ↔ h.e = e ∧ h.s = s := by simp [ofB]
theorem mayB_is {x : Cp} (h : mayB x = true) : x.is = true := by
 have hs := h
 simp only [mayB, areR, Bool.and_eq_true, decide_eq_true_eq] at hs
 unfold Cp.is
 have : (x.rights == 0) = false := by simp; omega
 rw [this]
 simp
def Par (T : Tab) (rk : Nat → Nat) (j : Nat) : Prop := ∃ i, i < 768 ∧ ofB (T j) (plOf i).1 (plOf i).2 = true ∧ (T i).x.is = true ∧ rk i < rk j
def Node (T : Tab) (rk : Nat → Nat) (j : Nat) : Prop := T j = Hd.no ∨ (mayB (T j).x = true ∧ ((T j).e = 0 ∧ (T j).s = 0 ∨ Par T rk j))
def Inv (T : Tab) : Prop := ∃ rk : Nat → Nat, ∀ j, j < 768 → Node T rk j
theorem get_slot {T : Tab} {n s : Int} (h : (getT T n s).is = true) : ∃ i, i < 768 ∧ plOf i = (n, s) ∧ getT T n s = (T i).x ∧ dropJ n s = i := by
 obtain ⟨a, c, rfl, rfl, ha, hc⟩ := isP_nat (is_isP h)
 exact ⟨a * 64 + c, by omega, plOf_at hc, getT_nat T a c ha hc, by simp [dropJ]⟩
theorem dropT_at {T : Tab} {n s : Int} {i : Nat} (hi : (getT T n s).is = true) (hpl : plOf i = (n, s)) (hd : dropJ n s = i) (j : Nat) (hj : j < 768) :
  dropT T n s j = if j = i then Hd.no else if ofB (T j) (plOf i).1 (plOf i).2 = true then ⟨(T j).x, (T i).e, (T i).s⟩ else T j := by
 unfold dropT
 rw [if_pos hi, hd]
 by_cases e : j = i
 ·rw [if_pos e, e, Tab.set_same]
 ·rw [if_neg e, Tab.set_other _ _ _ _ e, hpl]
  unfold hoTo
  by_cases ho : ofB (T j) n s = true
  ·rw [if_pos ⟨hj, ho⟩, if_pos ho]
  ·rw [if_neg (fun h => ho h.2), if_neg ho]
theorem Inv.drop {T : Tab} (h : Inv T) (n s : Int) : Inv (dropT T n s) := by
 by_cases hi : (getT T n s).is = true
 ·obtain ⟨i, hi7, hpl, hg, hd⟩ := get_slot hi
  have hat := dropT_at hi hpl hd
  obtain ⟨rk, h⟩ := h
  refine ⟨rk, fun j hj => ?_⟩
  have hj1 := hat j hj
  by_cases e : j = i
  ·rw [if_pos e] at hj1
   exact Or.inl hj1
  ·rw [if_neg e] at hj1
   have keep : ∀ k, k < 768 → k ≠ i → (T k).x.is = true → (dropT T n s k).x.is = true := by
    intro k hk hne hs
    rw [hat k hk, if_neg hne]
    split <;> exact hs
   rcases h j hj with hn | ⟨h1, h2⟩
   ·left
    rw [hj1, hn, if_neg (by rw [ofB_no (plOf i) (plOf_pos i)]; simp)]
   ·right
    by_cases ho : ofB (T j) (plOf i).1 (plOf i).2 = true
    ·rw [if_pos ho] at hj1
     refine ⟨by rw [hj1]; exact h1, ?_⟩
     rcases h2 with h2 | ⟨k, hk, h3, h4, h5⟩
     ·exfalso
      have := ofB_iff.1 ho
      exact plOf_pos i (by rw [← this.2]; exact h2.2)
     ·have hki : k = i := by
       have e1 := ofB_iff.1 ho
       have e2 := ofB_iff.1 h3
       exact plOf_inj (Prod.ext (e2.1.symm.trans e1.1) (e2.2.symm.trans e1.2))
      subst hki
      rcases h k hk with hn | ⟨_, h6⟩
      ·rw [hn] at h4
       exact absurd h4 (by decide)
      ·rcases h6 with h6 | ⟨l, hl, h7, h8, h9⟩
       ·left
        rw [hj1]
        exact h6
       ·right
        refine ⟨l, hl, ?_, keep l hl (fun e => by rw [e] at h9; omega) h8, by omega⟩
        rw [hj1]
        exact h7
    ·rw [if_neg ho] at hj1
     refine ⟨by rw [hj1]; exact h1, ?_⟩
     rcases h2 with h2 | ⟨k, hk, h3, h4, h5⟩
     ·left
      rw [hj1]
      exact h2
     ·right
      refine ⟨k, hk, by rw [hj1]; exact h3, keep k hk (fun e => ho (by rw [← e]; exact h3)) h4, h5⟩
 ·unfold dropT
  rw [if_neg hi]
  exact h
structure RevK (T : Tab) (p : Int × Int) (i : Nat) (T' : Tab) (F : List (Int × Int)) : Prop where
 pos : ∀ q ∈ F, q.2 ≠ 0
 tab : ∀ j, j < 768 → T' j = T j ∨ (T' j = Hd.no ∧ plOf j ∈ F ∧ (T j).s ≠ 0 ∧ ∃ q ∈ F, ofB (T j) q.1 q.2 = true)
 done : ∀ k, k < i → ∀ q, F[k]? = some q → ∀ j, j < 768 → ofB (T' j) q.1 q.2 = false
 mem : ∀ q ∈ F, q = p ∨ ∃ j, j < 768 ∧ q = plOf j ∧ T' j = Hd.no ∧ (T j).s ≠ 0
 root : p ∈ F
theorem mem_made {T : Tab} {q : Int × Int} {j : Nat} : plOf j ∈ madeTo T q.1 q.2 768 ↔ j < 768 ∧ ofB (T j) q.1 q.2 = true := by
 simp only [madeTo, List.mem_map, List.mem_filter, List.mem_range]
 constructor
 ·rintro ⟨k, hk, e⟩
  rw [← plOf_inj e]
  exact hk
 ·intro h
  exact ⟨j, h, rfl⟩
theorem revK (T : Tab) (p : Int × Int) (hp : p.2 ≠ 0) : ∀ i, RevK T p i (revS T p i).1 (revS T p i).2
 | 0 => ⟨revS_pos T p hp 0, fun j hj => Or.inl rfl, fun k hk => absurd hk (Nat.not_lt_zero _), fun q hq => Or.inl (by simpa [revS] using hq), by simp [revS]⟩
 | i + 1 => by
  have ih := revK T p hp i
  have hpos := revS_pos T p hp (i + 1)
  cases hq : (revS T p i).2[i]? with
  | none =>
   have e : revS T p (i + 1) = revS T p i := by simp only [revS, hq]
   rw [e]
   refine ⟨ih.pos, ih.tab, fun k hk q hk2 => ?_, ih.mem, ih.root⟩
   by_cases e2 : k = i
   ·rw [e2, hq] at hk2
    cases hk2
   ·exact ih.done k (by omega) q hk2
  | some q =>
   have e : revS T p (i + 1) = (clTo (revS T p i).1 q.1 q.2 768, (revS T p i).2 ++ madeTo (revS T p i).1 q.1 q.2 768) := by simp only [revS, hq]
   rw [e] at hpos ⊢
   dsimp only at hpos ⊢
   generalize (revS T p i).1 = T1 at *
   generalize (revS T p i).2 = F at *
   have hqF : q ∈ F := List.mem_of_getElem? hq
   have hq0 := ih.pos q hqF
   have hil : i < F.length := (List.getElem?_eq_some_iff.1 hq).1
   have old : ∀ j, j < 768 → ofB (T1 j) q.1 q.2 = true → T1 j = T j := by
    intro j hj ho
    rcases ih.tab j hj with h | ⟨h, _⟩
    ·exact h
    ·rw [h, ofB_no q hq0] at ho
     cases ho
   have cl : ∀ j, j < 768 → clTo T1 q.1 q.2 768 j = if ofB (T1 j) q.1 q.2 = true then Hd.no else T1 j := by
    intro j hj
    unfold clTo
    by_cases ho : ofB (T1 j) q.1 q.2 = true
    ·rw [if_pos ⟨hj, ho⟩, if_pos ho]
    ·rw [if_neg (fun h => ho h.2), if_neg ho]
   have snz : ∀ j, j < 768 → ofB (T1 j) q.1 q.2 = true → (T j).s ≠ 0 := by
    intro j hj ho
    rw [old j hj ho] at ho
    rw [(ofB_iff.1 ho).2]
    exact hq0
   refine ⟨hpos, fun j hj => ?_, fun k hk q' hk2 j hj => ?_, fun q' hq' => ?_, List.mem_append_left _ ih.root⟩
   ·rw [cl j hj]
    by_cases ho : ofB (T1 j) q.1 q.2 = true
    ·rw [if_pos ho]
     refine Or.inr ⟨rfl, List.mem_append_right _ (mem_made.2 ⟨hj, ho⟩), snz j hj ho, q, List.mem_append_left _ hqF, ?_⟩
     rw [← old j hj ho]
     exact ho
    ·rw [if_neg ho]
     rcases ih.tab j hj with h | ⟨h1, h2, h3, q2, h4, h5⟩
     ·exact Or.inl h
     ·exact Or.inr ⟨h1, List.mem_append_left _ h2, h3, q2, List.mem_append_left _ h4, h5⟩
   ·have hk3 : F[k]? = some q' := by
     rwa [List.getElem?_append_left (by omega)] at hk2
    have hq'0 := ih.pos q' (List.mem_of_getElem? hk3)
    rw [cl j hj]
    by_cases ho : ofB (T1 j) q.1 q.2 = true
    ·rw [if_pos ho]
     exact ofB_no q' hq'0
    ·rw [if_neg ho]
     by_cases e2 : k = i
     ·rw [e2, hq] at hk3
      cases hk3
      simpa using ho
     ·exact ih.done k (by omega) q' hk3 j hj
   ·rcases List.mem_append.1 hq' with h | h
    ·rcases ih.mem q' h with h | ⟨j, hj, h1, h2, h3⟩
     ·exact Or.inl h
     ·refine Or.inr ⟨j, hj, h1, ?_, h3⟩
      rw [cl j hj, h2, ofB_no q hq0]
      rfl
    ·have h' := h
     simp only [madeTo, List.mem_map, List.mem_filter, List.mem_range] at h'
     obtain ⟨j, ⟨hj, ho⟩, rfl⟩ := h'
     exact Or.inr ⟨j, hj, rfl, by rw [cl j hj, if_pos ho], snz j hj ho⟩
structure RevEnd (T : Tab) (p : Int × Int) (T' : Tab) (F : List (Int × Int)) : Prop where
 pos : ∀ q ∈ F, q.2 ≠ 0
 tab : ∀ j, j < 768 → T' j = T j ∨ (T' j = Hd.no ∧ plOf j ∈ F ∧ (T j).s ≠ 0 ∧ ∃ q ∈ F, ofB (T j) q.1 q.2 = true)
 done : ∀ q ∈ F, ∀ j, j < 768 → ofB (T' j) q.1 q.2 = false
 mem : ∀ q ∈ F, q = p ∨ ∃ j, j < 768 ∧ q = plOf j ∧ T' j = Hd.no ∧ (T j).s ≠ 0
 root : p ∈ F
theorem revEnd (T : Tab) (p : Int × Int) (hp : p.2 ≠ 0) (i : Nat) (hi : (revS T p i).2.length = i) : RevEnd T p (revS T p i).1 (revS T p i).2 := by
 have h := revK T p hp i
 refine ⟨h.pos, h.tab, fun q hq j hj => ?_, h.mem, h.root⟩
 obtain ⟨k, hk⟩ := List.mem_iff_getElem?.1 hq
 exact h.done k (by have := (List.getElem?_eq_some_iff.1 hk).1; omega) q hk j hj
structure One (T : Tab) : Prop where
 inv : Inv T
 top : T 64 = ⟨⟨1, 5, 1, 7⟩, 0, 0⟩
 rest : ∀ j, j < 768 → j ≠ 64 → (T j).x.is = true → (T j).s ≠ 0
theorem One.drop {T : Tab} (h : One T) (n s : Int) (hns : n ≠ 1 ∨ s ≠ 1) : One (dropT T n s) := by
 by_cases hi : (getT T n s).is = true
 ·obtain ⟨i, hi7, hpl, hg, hd⟩ := get_slot hi
  have hat := dropT_at hi hpl hd
  have hi64 : i ≠ 64 := by
   intro e
   rw [e] at hpl
   have e1 : plOf 64 = (1, 1) := rfl
   rw [e1] at hpl
   simp only [Prod.mk.injEq] at hpl
   omega
  have hsi : (T i).s ≠ 0 := h.rest i hi7 hi64 (by rw [← hg]; exact hi)
  refine ⟨h.inv.drop n s, ?_, fun j hj hne hij => ?_⟩
  ·rw [hat 64 (by omega), if_neg (fun e => hi64 e.symm), if_neg ?_]
   ·exact h.top
   ·rw [h.top]
    simp only [ofB_iff]
    intro e
    exact plOf_pos i e.2.symm
  ·rw [hat j hj] at hij ⊢
   by_cases e : j = i
   ·rw [if_pos e] at hij
    exact absurd hij (by decide)
   ·rw [if_neg e] at hij ⊢
    by_cases ho : ofB (T j) (plOf i).1 (plOf i).2 = true
    ·rw [if_pos ho]
     exact hsi
    ·rw [if_neg ho] at hij ⊢
     exact h.rest j hj hne hij
 ·have e : dropT T n s = T := by
   unfold dropT
   rw [if_neg hi]
  rw [e]
  exact h
end Ca
end Go.Proofs.YtbhpafgoofkkmaaGreatDoor
