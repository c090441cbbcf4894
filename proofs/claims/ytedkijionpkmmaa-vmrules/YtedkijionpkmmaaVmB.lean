/- The operations of package vm: what each of the functions in its table does. -/
import Derived.Test.YtedkijionpkmmaaVmA
import Derived.Deep.RegionHeld3
namespace Go.Proofs.Ytedkijionpkmmaa
open Go.RowKit
set_option linter.unusedVariables false

/-- A number that is a word. -/
def Wd (a : Int) : Prop := 0 ≤ a ∧ a ≤ 18446744073709551615
/-- What an operation makes of two numbers. -/
def two (op a b : Int) : Int :=
  if op = 6 then IntKind.u64.wrap (a + b) else if op = 7 then IntKind.u64.wrap (a - b) else if op = 8 then IntKind.u64.wrap (a * b) else if op = 9 then a / b else if op = 10 then a % b
  else if op = 11 then bits .and .u64 a b else if op = 12 then bits .or .u64 a b else if op = 13 then bits .xor .u64 a b else if op = 14 then IntKind.u64.wrap (a * 2 ^ min b.toNat 64)
  else if op = 15 then a / 2 ^ min b.toNat 64 else if op = 16 then (if a < b then 1 else 0) else (if a = b then 1 else 0)

theorem ret_word {x y : Int} (h : x = y) : Ending.returned (.int .u64 x) = Ending.returned (.int .u64 y) := by rw [h]
theorem rk6_at (a b : Int) (ha : Wd a) (hb : Wd b) (w : World) :
    Calls Try.prog 43 #[.int .u64 a, .int .u64 b] w fun e w' => e = .returned (.int .u64 (two 6 a b)) ∧ w' = w := by
  obtain ⟨ha1, ha2⟩ := ha
  obtain ⟨hb1, hb2⟩ := hb
  go_enter Try.func43, Try.ntmps43
  go_wp2
  go_ret
  exact ⟨ret_word rfl, rfl⟩

theorem rk7_at (a b : Int) (ha : Wd a) (hb : Wd b) (w : World) :
    Calls Try.prog 44 #[.int .u64 a, .int .u64 b] w fun e w' => e = .returned (.int .u64 (two 7 a b)) ∧ w' = w := by
  obtain ⟨ha1, ha2⟩ := ha
  obtain ⟨hb1, hb2⟩ := hb
  go_enter Try.func44, Try.ntmps44
  go_wp2
  go_ret
  exact ⟨ret_word rfl, rfl⟩

theorem rk8_at (a b : Int) (ha : Wd a) (hb : Wd b) (w : World) :
    Calls Try.prog 45 #[.int .u64 a, .int .u64 b] w fun e w' => e = .returned (.int .u64 (two 8 a b)) ∧ w' = w := by
  obtain ⟨ha1, ha2⟩ := ha
  obtain ⟨hb1, hb2⟩ := hb
  go_enter Try.func45, Try.ntmps45
  go_wp2
  go_ret
  exact ⟨ret_word rfl, rfl⟩

theorem rk9_at (a b : Int) (ha : Wd a) (hb : Wd b) (h0 : b ≠ 0) (w : World) :
    Calls Try.prog 46 #[.int .u64 a, .int .u64 b] w fun e w' => e = .returned (.int .u64 (two 9 a b)) ∧ w' = w := by
  obtain ⟨ha1, ha2⟩ := ha
  obtain ⟨hb1, hb2⟩ := hb
  go_enter Try.func46, Try.ntmps46
  go_wp2
  go_ret
  exact ⟨ret_word rfl, rfl⟩

theorem rk10_at (a b : Int) (ha : Wd a) (hb : Wd b) (h0 : b ≠ 0) (w : World) :
    Calls Try.prog 47 #[.int .u64 a, .int .u64 b] w fun e w' => e = .returned (.int .u64 (two 10 a b)) ∧ w' = w := by
  obtain ⟨ha1, ha2⟩ := ha
  obtain ⟨hb1, hb2⟩ := hb
  go_enter Try.func47, Try.ntmps47
  go_wp2
  go_ret
  exact ⟨ret_word rfl, rfl⟩

theorem rk11_at (a b : Int) (ha : Wd a) (hb : Wd b) (w : World) :
    Calls Try.prog 48 #[.int .u64 a, .int .u64 b] w fun e w' => e = .returned (.int .u64 (two 11 a b)) ∧ w' = w := by
  obtain ⟨ha1, ha2⟩ := ha
  obtain ⟨hb1, hb2⟩ := hb
  go_enter Try.func48, Try.ntmps48
  go_wp2
  go_ret
  exact ⟨ret_word rfl, rfl⟩

theorem rk12_at (a b : Int) (ha : Wd a) (hb : Wd b) (w : World) :
    Calls Try.prog 49 #[.int .u64 a, .int .u64 b] w fun e w' => e = .returned (.int .u64 (two 12 a b)) ∧ w' = w := by
  obtain ⟨ha1, ha2⟩ := ha
  obtain ⟨hb1, hb2⟩ := hb
  go_enter Try.func49, Try.ntmps49
  go_wp2
  go_ret
  exact ⟨ret_word rfl, rfl⟩

theorem rk13_at (a b : Int) (ha : Wd a) (hb : Wd b) (w : World) :
    Calls Try.prog 50 #[.int .u64 a, .int .u64 b] w fun e w' => e = .returned (.int .u64 (two 13 a b)) ∧ w' = w := by
  obtain ⟨ha1, ha2⟩ := ha
  obtain ⟨hb1, hb2⟩ := hb
  go_enter Try.func50, Try.ntmps50
  go_wp2
  go_ret
  exact ⟨ret_word rfl, rfl⟩

theorem rk14_at (a b : Int) (ha : Wd a) (hb : Wd b) (w : World) :
    Calls Try.prog 51 #[.int .u64 a, .int .u64 b] w fun e w' => e = .returned (.int .u64 (two 14 a b)) ∧ w' = w := by
  obtain ⟨ha1, ha2⟩ := ha
  obtain ⟨hb1, hb2⟩ := hb
  go_enter Try.func51, Try.ntmps51
  go_wp2
  go_ret
  exact ⟨ret_word rfl, rfl⟩

theorem rk15_at (a b : Int) (ha : Wd a) (hb : Wd b) (w : World) :
    Calls Try.prog 52 #[.int .u64 a, .int .u64 b] w fun e w' => e = .returned (.int .u64 (two 15 a b)) ∧ w' = w := by
  obtain ⟨ha1, ha2⟩ := ha
  obtain ⟨hb1, hb2⟩ := hb
  go_enter Try.func52, Try.ntmps52
  go_wp2
  go_ret
  exact ⟨ret_word rfl, rfl⟩

theorem rk16_at (a b : Int) (ha : Wd a) (hb : Wd b) (w : World) :
    Calls Try.prog 53 #[.int .u64 a, .int .u64 b] w fun e w' => e = .returned (.int .u64 (two 16 a b)) ∧ w' = w := by
  obtain ⟨ha1, ha2⟩ := ha
  obtain ⟨hb1, hb2⟩ := hb
  by_cases h : a < b
  · have h1 : two 16 a b = 1 := if_pos h
    go_enter Try.func53, Try.ntmps53
    go_wp2_with (go_at_call 54; refine (truth_at _ _).mono ?_; rintro e w' ⟨rfl, rfl⟩)
    go_ret
    exact ⟨ret_word (by rw [h1]; try simp [h]), rfl⟩
  · have h1 : two 16 a b = 0 := if_neg h
    go_enter Try.func53, Try.ntmps53
    go_wp2_with (go_at_call 54; refine (truth_at _ _).mono ?_; rintro e w' ⟨rfl, rfl⟩)
    go_ret
    exact ⟨ret_word (by rw [h1]; try simp [h]), rfl⟩

theorem rk17_at (a b : Int) (ha : Wd a) (hb : Wd b) (w : World) :
    Calls Try.prog 55 #[.int .u64 a, .int .u64 b] w fun e w' => e = .returned (.int .u64 (two 17 a b)) ∧ w' = w := by
  obtain ⟨ha1, ha2⟩ := ha
  obtain ⟨hb1, hb2⟩ := hb
  by_cases h : a = b
  · have h1 : two 17 a b = 1 := if_pos h
    go_enter Try.func55, Try.ntmps55
    go_wp2_with (go_at_call 54; refine (truth_at _ _).mono ?_; rintro e w' ⟨rfl, rfl⟩)
    go_ret
    exact ⟨ret_word (by rw [h1]; try simp [h]), rfl⟩
  · have h1 : two 17 a b = 0 := if_neg h
    go_enter Try.func55, Try.ntmps55
    go_wp2_with (go_at_call 54; refine (truth_at _ _).mono ?_; rintro e w' ⟨rfl, rfl⟩)
    go_ret
    exact ⟨ret_word (by rw [h1]; try simp [h]), rfl⟩


/-- What a step asks for. -/
structure Act4 where
  kind : Int
  addr : Int
  val : Int
  sys : Int
def actRow (a : Act4) : Array Value := #[.int .i64 a.kind, .int .u64 a.addr, .int .u64 a.val, .int .i64 a.sys]
def actNo : Act4 := ⟨0, 0, 0, 0⟩
/-- What an operation leaves: its answer, the machine. -/
def Does (M b : Nat) (w : World) (sv : Value) (pc : Int) (st : List Int) (a : Act4) (e : Ending) (w' : World) : Prop :=
  e = .returned (.agg (actRow a)) ∧ ∃ sv', MachV M w' b pc sv' st ∧ Went b w sv w' sv'
/-- The same, where no number was put down. -/
def Takes (M b : Nat) (w : World) (sv : Value) (pc : Int) (st : List Int) (a : Act4) (e : Ending) (w' : World) : Prop :=
  e = .returned (.agg (actRow a)) ∧ ∃ sv', MachV M w' b pc sv' st ∧ sv'.ownBlock = sv.ownBlock ∧ Upd b w w'
theorem Takes.does {M b : Nat} {w : World} {sv : Value} {pc : Int} {st : List Int} {a : Act4} {e : Ending} {w' : World} (h : Takes M b w sv pc st a e w') : Does M b w sv pc st a e w' :=
  ⟨h.1, by obtain ⟨_, sv', h1, h2, h3⟩ := h; exact ⟨sv', h1, Went.of_upd h3 h2⟩⟩

theorem below_alloc (w : World) (o : Obj) : Below w.heap.size w (w.alloc o) := (Below.refl _ _).alloc (Nat.le_refl _) _
theorem actSize : (Try.prog.info? 30).map (·.size) = some 4 := by kernel_rfl
/-- A block of another type is no part of the machine. -/
theorem MachV.other {M : Nat} {w : World} {b : Nat} {pc : Int} {sv : Value} {st : List Int} (h : MachV M w b pc sv st) {R : Nat} {cs : Array Value} {t : TypeId} (hR : w.heap[R]? = some (.cells cs t)) (h1 : t ≠ 24) (h2 : t ≠ 25) : R ≠ b ∧ sv.ownBlock ≠ some R := by
  constructor
  · intro e
    subst e
    rw [h.head] at hR
    simp at hR
    exact h1 hR.2.symm
  · intro e
    rcases h.own.2 with ⟨e2, _⟩ | ⟨g, cap, cur, e2, _, hh, _⟩
    · rw [e2] at e; simp [Value.ownBlock] at e
    · rw [e2] at e
      simp [Value.ownBlock] at e
      subst e
      rw [hh] at hR
      simp at hR
      exact h2 hR.2.symm
theorem Went.stays {M : Nat} {w w' : World} {b : Nat} {pc : Int} {sv sv' : Value} {st : List Int} (g : Went b w sv w' sv') (h : MachV M w b pc sv st) {R : Nat} {cs : Array Value} {t : TypeId} (hR : w.heap[R]? = some (.cells cs t)) (h1 : t ≠ 24) (h2 : t ≠ 25) : w'.heap[R]? = some (.cells cs t) :=
  (g.block R (lt_of_heap hR) (h.other hR h1 h2).1 (h.other hR h1 h2).2).trans hR

/-- Four cells of a block set. -/
abbrev put4 (w : World) (R : Nat) (k a v y : Value) : World := (((w.setCell ⟨R, 0, none⟩ k).setCell ⟨R, 1, none⟩ a).setCell ⟨R, 2, none⟩ v).setCell ⟨R, 3, none⟩ y
theorem set_row {w : World} {R : Nat} {cs : Array Value} {t : TypeId} (h : w.heap[R]? = some (.cells cs t)) (o : Nat) (v : Value) : (w.setCell ⟨R, o, none⟩ v).heap[R]? = some (.cells (cs.setIfInBounds o v) t) := by
  rw [setCell_eq_setRow w R o _ _ _ _ h, setRow_heap w R _ _ _ _ h]
theorem put4_row {w : World} {R : Nat} {t : TypeId} {k a v y k' a' v' y' : Value} (h : w.heap[R]? = some (.cells #[k, a, v, y] t)) : (put4 w R k' a' v' y').heap[R]? = some (.cells #[k', a', v', y'] t) :=
  set_row (set_row (set_row (set_row h 0 k') 1 a') 2 v') 3 y'
theorem put4_heap {w : World} {R : Nat} {k a v y : Value} (j : Nat) (h : j ≠ R) : (put4 w R k a v y).heap[j]? = w.heap[j]? := by
  unfold put4
  rw [Below.heap_setCell _ _ _ _ h, Below.heap_setCell _ _ _ _ h, Below.heap_setCell _ _ _ _ h, Below.heap_setCell _ _ _ _ h]
theorem put4_size (w : World) (R : Nat) (k a v y : Value) : (put4 w R k a v y).heap.size = w.heap.size := by simp [put4, World.setCell]
theorem MachV.put4 {M : Nat} {w : World} {b : Nat} {pc : Int} {sv : Value} {st : List Int} (h : MachV M w b pc sv st) {R : Nat} {cs : Array Value} {t : TypeId} (hR : w.heap[R]? = some (.cells cs t)) (h1 : t ≠ 24) (h2 : t ≠ 25) (k a v y : Value) : MachV M (put4 w R k a v y) b pc sv st :=
  h.keep (put4_heap b (Ne.symm (h.other hR h1 h2).1)) (fun g hg => put4_heap g (fun e => (h.other hR h1 h2).2 (by rw [← e]; exact hg)))
theorem Upd.put4 {b : Nat} {w w' : World} (h : Upd b w w') {R : Nat} (hR : w.heap.size ≤ R) (k a v y : Value) : Upd b w (put4 w' R k a v y) :=
  ⟨h.os, h.tape, h.output, by rw [put4_size]; exact h.size, fun j hj hb => (put4_heap j (by omega)).trans (h.block j hj hb)⟩
theorem Went.put4 {b : Nat} {w w' : World} {sv sv' : Value} (h : Went b w sv w' sv') {R : Nat} (hR : w.heap.size ≤ R) (k a v y : Value) : Went b w sv (put4 w' R k a v y) sv' :=
  ⟨h.os, h.tape, h.output, by rw [put4_size]; exact h.size, fun j hj hb hs => (put4_heap j (by omega)).trans (h.block j hj hb hs), h.lies⟩
theorem cells4 {w : World} {R : Nat} {t : TypeId} {k a v y : Value} (h : w.heap[R]? = some (.cells #[k, a, v, y] t)) :
    (w.cell? ⟨R, 0, none⟩ = some k ∧ w.cell? ⟨R, 1, none⟩ = some a ∧ w.cell? ⟨R, 2, none⟩ = some v ∧ w.cell? ⟨R, 3, none⟩ = some y) ∧ (w.frozen? ⟨R, 0, none⟩ = false ∧ w.frozen? ⟨R, 1, none⟩ = false ∧ w.frozen? ⟨R, 2, none⟩ = false ∧ w.frozen? ⟨R, 3, none⟩ = false) :=
  ⟨⟨by rw [cell_of_heap h]; rfl, by rw [cell_of_heap h]; rfl, by rw [cell_of_heap h]; rfl, by rw [cell_of_heap h]; rfl⟩, frozen_of_heap h, frozen_of_heap h, frozen_of_heap h, frozen_of_heap h⟩
/-- The two blocks that each operation makes first. -/
theorem laid2 {w W : World} {i : Ins} (hW : W = (w.alloc (.cells (insRow i) 48)).alloc (.cells (actRow actNo) 30)) :
    Below w.heap.size w W ∧ W.heap[w.heap.size]? = some (.cells (insRow i) 48) ∧ W.heap[w.heap.size + 1]? = some (.cells (actRow actNo) 30) ∧ W.heap.size = w.heap.size + 1 + 1 := by
  subst hW
  refine ⟨((Below.refl _ _).alloc (Nat.le_refl _) _).alloc (by simp) _, ?_, heap_alloc2_new _ _ _, by simp⟩
  rw [Below.heap_alloc _ _ _ (by simp), heap_alloc_new]
theorem two_allocs (w : World) (A B : Obj) : Below w.heap.size w ((w.alloc A).alloc B) := ((Below.refl _ _).alloc (Nat.le_refl _) _).alloc (by simp) _
theorem ret_act {a b : Act4} (h : a = b) : Ending.returned (.agg (actRow a)) = Ending.returned (.agg (actRow b)) := by rw [h]

set_option maxHeartbeats 400000 in
theorem drop_at (i : Ins) (M b : Nat) (pc : Int) (sv : Value) (x : Int) (st : List Int) (w : World) (h : MachV M w b pc sv (x :: st)) (hl : st.length ≤ 99990) :
    Calls Try.prog 40 #[.pointer (some ⟨b, 0, none⟩), .agg (insRow i)] w fun e w' => Takes M b w sv (pc) (st) actNo e w' := by
  obtain ⟨W, hW⟩ : ∃ W, W = (w.alloc (.cells (insRow i) 48)).alloc (.cells (actRow actNo) 30) := ⟨_, rfl⟩
  obtain ⟨hbel, hI, hR, hsz⟩ := laid2 hW
  have h2 := h.below hbel
  have HB : Hid _ := hbel
  have HR : Hid _ := hR
  have HI : Hid _ := hI
  have HS : Hid _ := hsz
  have hlt := lt_of_heap h.head
  clear h hbel hI hR hsz
  unfold insRow actRow actNo at hW
  dsimp only at hW
  dsimp only [insRow]
  go_enter Try.func40, Try.ntmps40
  go_wp2_with fail
  rw [← hW]
  clear hW
  refine (pop_at M b pc sv x st W h2 (by omega)).mono ?_
  rintro e w1 ⟨rfl, sv1, hm, ho, hu⟩
  have HR1 : Hid (w1.heap[w.heap.size + 1]? = some (.cells (actRow actNo) 30)) := (hu.block _ (lt_of_heap HR.out) (by omega)).trans HR.out
  obtain ⟨⟨c0, c1, c2, c3⟩, f0, f1, f2, f3⟩ := cells4 HR1.out
  go_wp2
  (try simp only [Exit.inBlock, Exit.then])
  refine bodyPost_ret (results_cell_row rfl _ _ (w.heap.size + 1) 30 _ (0, 0) _ rfl (put4_row HR1.out) Try.underlying30 rfl actSize) rfl ⟨rfl, _, (hm).put4 HR1.out (by decide) (by decide) _ _ _ _, ho, ((Upd.of_below HB.out).trans hu).put4 (by omega) _ _ _ _⟩


set_option maxHeartbeats 400000 in
theorem load_at (i : Ins) (M b : Nat) (pc : Int) (sv : Value) (x : Int) (st : List Int) (w : World) (h : MachV M w b pc sv (x :: st)) (hl : st.length ≤ 99990) :
    Calls Try.prog 57 #[.pointer (some ⟨b, 0, none⟩), .agg (insRow i)] w fun e w' => Takes M b w sv (pc) (st) ⟨1, x, 0, 0⟩ e w' := by
  obtain ⟨W, hW⟩ : ∃ W, W = (w.alloc (.cells (insRow i) 48)).alloc (.cells (actRow actNo) 30) := ⟨_, rfl⟩
  obtain ⟨hbel, hI, hR, hsz⟩ := laid2 hW
  have h2 := h.below hbel
  have HB : Hid _ := hbel
  have HR : Hid _ := hR
  have HI : Hid _ := hI
  have HS : Hid _ := hsz
  have hlt := lt_of_heap h.head
  clear h hbel hI hR hsz
  unfold insRow actRow actNo at hW
  dsimp only at hW
  dsimp only [insRow]
  go_enter Try.func57, Try.ntmps57
  go_wp2_with fail
  rw [← hW]
  clear hW
  refine (pop_at M b pc sv x st W h2 (by omega)).mono ?_
  rintro e w1 ⟨rfl, sv1, hm, ho, hu⟩
  have HR1 : Hid (w1.heap[w.heap.size + 1]? = some (.cells (actRow actNo) 30)) := (hu.block _ (lt_of_heap HR.out) (by omega)).trans HR.out
  obtain ⟨⟨c0, c1, c2, c3⟩, f0, f1, f2, f3⟩ := cells4 HR1.out
  go_wp2
  (try simp only [Exit.inBlock, Exit.then])
  refine bodyPost_ret (results_cell_row rfl _ _ (w.heap.size + 1) 30 _ (0, 0) _ rfl (put4_row HR1.out) Try.underlying30 rfl actSize) rfl ⟨rfl, _, (hm).put4 HR1.out (by decide) (by decide) _ _ _ _, ho, ((Upd.of_below HB.out).trans hu).put4 (by omega) _ _ _ _⟩


set_option maxHeartbeats 400000 in
theorem store_at (i : Ins) (M b : Nat) (pc : Int) (sv : Value) (x y : Int) (st : List Int) (w : World) (h : MachV M w b pc sv (x :: y :: st)) (hl : st.length ≤ 99990) :
    Calls Try.prog 58 #[.pointer (some ⟨b, 0, none⟩), .agg (insRow i)] w fun e w' => Takes M b w sv (pc) (st) ⟨2, x, y, 0⟩ e w' := by
  obtain ⟨W, hW⟩ : ∃ W, W = (w.alloc (.cells (insRow i) 48)).alloc (.cells (actRow actNo) 30) := ⟨_, rfl⟩
  obtain ⟨hbel, hI, hR, hsz⟩ := laid2 hW
  have h2 := h.below hbel
  have HB : Hid _ := hbel
  have HR : Hid _ := hR
  have HI : Hid _ := hI
  have HS : Hid _ := hsz
  have hlt := lt_of_heap h.head
  clear h hbel hI hR hsz
  unfold insRow actRow actNo at hW
  dsimp only at hW
  dsimp only [insRow]
  go_enter Try.func58, Try.ntmps58
  go_wp2_with fail
  rw [← hW]
  clear hW
  refine (pop_at M b pc sv x (y :: st) W h2 (by simp; omega)).mono ?_
  rintro e w0 ⟨rfl, sv0, hm0, ho0, hu0⟩
  go_wp2_with fail
  refine (pop_at M b pc sv0 y st w0 hm0 (by omega)).mono ?_
  rintro e w1 ⟨rfl, sv1, hm, ho1, hu1⟩
  have hu := hu0.trans hu1
  have ho := ho1.trans ho0
  have HR1 : Hid (w1.heap[w.heap.size + 1]? = some (.cells (actRow actNo) 30)) := (hu.block _ (lt_of_heap HR.out) (by omega)).trans HR.out
  obtain ⟨⟨c0, c1, c2, c3⟩, f0, f1, f2, f3⟩ := cells4 HR1.out
  go_wp2
  (try simp only [Exit.inBlock, Exit.then])
  refine bodyPost_ret (results_cell_row rfl _ _ (w.heap.size + 1) 30 _ (0, 0) _ rfl (put4_row HR1.out) Try.underlying30 rfl actSize) rfl ⟨rfl, _, (hm).put4 HR1.out (by decide) (by decide) _ _ _ _, ho, ((Upd.of_below HB.out).trans hu).put4 (by omega) _ _ _ _⟩


set_option maxHeartbeats 400000 in
theorem dup_at (i : Ins) (M b : Nat) (pc : Int) (sv : Value) (x : Int) (st : List Int) (w : World) (h : MachV M w b pc sv (x :: st)) (hl : st.length ≤ 99990) :
    Calls Try.prog 39 #[.pointer (some ⟨b, 0, none⟩), .agg (insRow i)] w fun e w' => Does M b w sv (pc) (x :: x :: st) actNo e w' := by
  obtain ⟨W, hW⟩ : ∃ W, W = (w.alloc (.cells (insRow i) 48)).alloc (.cells (actRow actNo) 30) := ⟨_, rfl⟩
  obtain ⟨hbel, hI, hR, hsz⟩ := laid2 hW
  have h2 := h.below hbel
  have HB : Hid _ := hbel
  have HR : Hid _ := hR
  have HI : Hid _ := hI
  have HS : Hid _ := hsz
  have hlt := lt_of_heap h.head
  clear h hbel hI hR hsz
  unfold insRow actRow actNo at hW
  dsimp only at hW
  dsimp only [insRow]
  go_enter Try.func39, Try.ntmps39
  go_wp2_with fail
  rw [← hW]
  clear hW
  refine (pop_at M b pc sv x st W h2 (by omega)).mono ?_
  rintro e w1 ⟨rfl, sv1, hm, ho, hu⟩
  have HR1 : Hid (w1.heap[w.heap.size + 1]? = some (.cells (actRow actNo) 30)) := (hu.block _ (lt_of_heap HR.out) (by omega)).trans HR.out
  go_wp2_with fail
  refine (push_at M b pc sv1 st [x, x] 2 w1.heap.size _ (hm.below (below_alloc _ _)) (by omega) rfl (by omega) (by omega) (heap_alloc_new w1 _)).mono ?_
  rintro e w2 ⟨rfl, sv2, hm2, hg2⟩
  have HG : Hid _ := ((Went.of_upd hu ho)).trans ((Went.of_below (b := b) (sv := sv1) (below_alloc w1 (.cells #[.int .u64 x, .int .u64 x] 25))).trans hg2)
  have HR2 : Hid (w2.heap[w.heap.size + 1]? = some (.cells (actRow actNo) 30)) := Went.stays HG.out h2 HR.out (by decide) (by decide)
  obtain ⟨⟨c0, c1, c2, c3⟩, f0, f1, f2, f3⟩ := cells4 HR2.out
  go_wp2
  (try simp only [Exit.inBlock, Exit.then])
  refine bodyPost_ret (results_cell_row rfl _ _ (w.heap.size + 1) 30 _ (0, 0) _ rfl (put4_row HR2.out) Try.underlying30 rfl actSize) rfl ⟨rfl, _, (hm2).put4 HR2.out (by decide) (by decide) _ _ _ _, ((Went.of_below HB.out).trans HG.out).put4 (by omega) _ _ _ _⟩


set_option maxHeartbeats 400000 in
theorem swap_at (i : Ins) (M b : Nat) (pc : Int) (sv : Value) (x y : Int) (st : List Int) (w : World) (h : MachV M w b pc sv (x :: y :: st)) (hl : st.length ≤ 99990) :
    Calls Try.prog 41 #[.pointer (some ⟨b, 0, none⟩), .agg (insRow i)] w fun e w' => Does M b w sv (pc) (y :: x :: st) actNo e w' := by
  obtain ⟨W, hW⟩ : ∃ W, W = (w.alloc (.cells (insRow i) 48)).alloc (.cells (actRow actNo) 30) := ⟨_, rfl⟩
  obtain ⟨hbel, hI, hR, hsz⟩ := laid2 hW
  have h2 := h.below hbel
  have HB : Hid _ := hbel
  have HR : Hid _ := hR
  have HI : Hid _ := hI
  have HS : Hid _ := hsz
  have hlt := lt_of_heap h.head
  clear h hbel hI hR hsz
  unfold insRow actRow actNo at hW
  dsimp only at hW
  dsimp only [insRow]
  go_enter Try.func41, Try.ntmps41
  go_wp2_with fail
  rw [← hW]
  clear hW
  refine (pop_at M b pc sv x (y :: st) W h2 (by simp; omega)).mono ?_
  rintro e w0 ⟨rfl, sv0, hm0, ho0, hu0⟩
  go_wp2_with fail
  refine (pop_at M b pc sv0 y st w0 hm0 (by omega)).mono ?_
  rintro e w1 ⟨rfl, sv1, hm, ho1, hu1⟩
  have hu := hu0.trans hu1
  have ho := ho1.trans ho0
  have HR1 : Hid (w1.heap[w.heap.size + 1]? = some (.cells (actRow actNo) 30)) := (hu.block _ (lt_of_heap HR.out) (by omega)).trans HR.out
  go_wp2_with fail
  refine (push_at M b pc sv1 st [x, y] 2 w1.heap.size _ (hm.below (below_alloc _ _)) (by omega) rfl (by omega) (by omega) (heap_alloc_new w1 _)).mono ?_
  rintro e w2 ⟨rfl, sv2, hm2, hg2⟩
  have HG : Hid _ := ((Went.of_upd hu ho)).trans ((Went.of_below (b := b) (sv := sv1) (below_alloc w1 (.cells #[.int .u64 x, .int .u64 y] 25))).trans hg2)
  have HR2 : Hid (w2.heap[w.heap.size + 1]? = some (.cells (actRow actNo) 30)) := Went.stays HG.out h2 HR.out (by decide) (by decide)
  obtain ⟨⟨c0, c1, c2, c3⟩, f0, f1, f2, f3⟩ := cells4 HR2.out
  go_wp2
  (try simp only [Exit.inBlock, Exit.then])
  refine bodyPost_ret (results_cell_row rfl _ _ (w.heap.size + 1) 30 _ (0, 0) _ rfl (put4_row HR2.out) Try.underlying30 rfl actSize) rfl ⟨rfl, _, (hm2).put4 HR2.out (by decide) (by decide) _ _ _ _, ((Went.of_below HB.out).trans HG.out).put4 (by omega) _ _ _ _⟩


set_option maxHeartbeats 400000 in
theorem over_at (i : Ins) (M b : Nat) (pc : Int) (sv : Value) (x y : Int) (st : List Int) (w : World) (h : MachV M w b pc sv (x :: y :: st)) (hl : st.length ≤ 99990) :
    Calls Try.prog 42 #[.pointer (some ⟨b, 0, none⟩), .agg (insRow i)] w fun e w' => Does M b w sv (pc) (y :: x :: y :: st) actNo e w' := by
  obtain ⟨W, hW⟩ : ∃ W, W = (w.alloc (.cells (insRow i) 48)).alloc (.cells (actRow actNo) 30) := ⟨_, rfl⟩
  obtain ⟨hbel, hI, hR, hsz⟩ := laid2 hW
  have h2 := h.below hbel
  have HB : Hid _ := hbel
  have HR : Hid _ := hR
  have HI : Hid _ := hI
  have HS : Hid _ := hsz
  have hlt := lt_of_heap h.head
  clear h hbel hI hR hsz
  unfold insRow actRow actNo at hW
  dsimp only at hW
  dsimp only [insRow]
  go_enter Try.func42, Try.ntmps42
  go_wp2_with fail
  rw [← hW]
  clear hW
  refine (pop_at M b pc sv x (y :: st) W h2 (by simp; omega)).mono ?_
  rintro e w0 ⟨rfl, sv0, hm0, ho0, hu0⟩
  go_wp2_with fail
  refine (pop_at M b pc sv0 y st w0 hm0 (by omega)).mono ?_
  rintro e w1 ⟨rfl, sv1, hm, ho1, hu1⟩
  have hu := hu0.trans hu1
  have ho := ho1.trans ho0
  have HR1 : Hid (w1.heap[w.heap.size + 1]? = some (.cells (actRow actNo) 30)) := (hu.block _ (lt_of_heap HR.out) (by omega)).trans HR.out
  go_wp2_with fail
  refine (push_at M b pc sv1 st [y, x, y] 3 w1.heap.size _ (hm.below (below_alloc _ _)) (by omega) rfl (by omega) (by omega) (heap_alloc_new w1 _)).mono ?_
  rintro e w2 ⟨rfl, sv2, hm2, hg2⟩
  have HG : Hid _ := ((Went.of_upd hu ho)).trans ((Went.of_below (b := b) (sv := sv1) (below_alloc w1 (.cells #[.int .u64 y, .int .u64 x, .int .u64 y] 25))).trans hg2)
  have HR2 : Hid (w2.heap[w.heap.size + 1]? = some (.cells (actRow actNo) 30)) := Went.stays HG.out h2 HR.out (by decide) (by decide)
  obtain ⟨⟨c0, c1, c2, c3⟩, f0, f1, f2, f3⟩ := cells4 HR2.out
  go_wp2
  (try simp only [Exit.inBlock, Exit.then])
  refine bodyPost_ret (results_cell_row rfl _ _ (w.heap.size + 1) 30 _ (0, 0) _ rfl (put4_row HR2.out) Try.underlying30 rfl actSize) rfl ⟨rfl, _, (hm2).put4 HR2.out (by decide) (by decide) _ _ _ _, ((Went.of_below HB.out).trans HG.out).put4 (by omega) _ _ _ _⟩

set_option maxHeartbeats 400000 in
theorem pushArg_at (i : Ins) (M b : Nat) (pc : Int) (sv : Value) (st : List Int) (w : World) (h : MachV M w b pc sv (st)) (hl : st.length ≤ 99990) :
    Calls Try.prog 38 #[.pointer (some ⟨b, 0, none⟩), .agg (insRow i)] w fun e w' => Does M b w sv (pc) (i.arg :: st) actNo e w' := by
  obtain ⟨W, hW⟩ : ∃ W, W = (w.alloc (.cells (insRow i) 48)).alloc (.cells (actRow actNo) 30) := ⟨_, rfl⟩
  obtain ⟨hbel, hI, hR, hsz⟩ := laid2 hW
  have h2 := h.below hbel
  have HB : Hid _ := hbel
  have HR : Hid _ := hR
  have HI : Hid _ := hI
  have HS : Hid _ := hsz
  have hlt := lt_of_heap h.head
  clear h hbel hI hR hsz
  unfold insRow actRow actNo at hW
  dsimp only at hW
  dsimp only [insRow]
  go_enter Try.func38, Try.ntmps38
  go_wp2_with fail
  rw [← hW]
  clear hW
  have hB : ∀ o : Obj, (W.alloc o).heap[w.heap.size + 1 + 1]? = some o := fun o => by rw [← HS.out]; exact heap_alloc_new W o
  refine (push_at M b pc sv st [i.arg] 1 (w.heap.size + 1 + 1) _ (h2.below (below_alloc _ _)) (by omega) rfl (by omega) (by omega) (hB _)).mono ?_
  rintro e w2 ⟨rfl, sv2, hm2, hg2⟩
  have HG : Hid _ := (Went.of_below (b := b) (sv := sv) (below_alloc W (.cells #[.int .u64 i.arg] 25))).trans hg2
  have HR2 : Hid (w2.heap[w.heap.size + 1]? = some (.cells (actRow actNo) 30)) := Went.stays HG.out h2 HR.out (by decide) (by decide)
  obtain ⟨⟨c0, c1, c2, c3⟩, f0, f1, f2, f3⟩ := cells4 HR2.out
  go_wp2
  (try simp only [Exit.inBlock, Exit.then])
  refine bodyPost_ret (results_cell_row rfl _ _ (w.heap.size + 1) 30 _ (0, 0) _ rfl (put4_row HR2.out) Try.underlying30 rfl actSize) rfl ⟨rfl, _, (hm2).put4 HR2.out (by decide) (by decide) _ _ _ _, ((Went.of_below HB.out).trans HG.out).put4 (by omega) _ _ _ _⟩

set_option maxHeartbeats 400000 in
theorem not_at (i : Ins) (M b : Nat) (pc : Int) (sv : Value) (x : Int) (st : List Int) (w : World) (h : MachV M w b pc sv (x :: st)) (hl : st.length ≤ 99990) :
    Calls Try.prog 56 #[.pointer (some ⟨b, 0, none⟩), .agg (insRow i)] w fun e w' => Does M b w sv (pc) ((if x = 0 then 1 else 0) :: st) actNo e w' := by
  obtain ⟨W, hW⟩ : ∃ W, W = (w.alloc (.cells (insRow i) 48)).alloc (.cells (actRow actNo) 30) := ⟨_, rfl⟩
  obtain ⟨hbel, hI, hR, hsz⟩ := laid2 hW
  have h2 := h.below hbel
  have HB : Hid _ := hbel
  have HR : Hid _ := hR
  have HI : Hid _ := hI
  have HS : Hid _ := hsz
  have hlt := lt_of_heap h.head
  clear h hbel hI hR hsz
  obtain ⟨t, ht⟩ : ∃ t : Int, (if x = 0 then (1 : Int) else 0) = t := ⟨_, rfl⟩
  have HT : Hid ((if (x == 0) = true then (1 : Int) else 0) = t) := by show _ = _; rw [← ht]; simp
  rw [ht]
  clear ht
  unfold insRow actRow actNo at hW
  dsimp only at hW
  dsimp only [insRow]
  go_enter Try.func56, Try.ntmps56
  go_wp2_with fail
  rw [← hW]
  clear hW
  refine (pop_at M b pc sv x st W h2 (by omega)).mono ?_
  rintro e w1 ⟨rfl, sv1, hm, ho, hu⟩
  have HR1 : Hid (w1.heap[w.heap.size + 1]? = some (.cells (actRow actNo) 30)) := (hu.block _ (lt_of_heap HR.out) (by omega)).trans HR.out
  go_wp2_with fail
  refine (truth_at _ _).mono ?_
  rw [HT.out]
  rintro e w3 ⟨rfl, rfl⟩
  go_wp2_with fail
  refine (push_at M b pc sv1 st [t] 1 w3.heap.size _ (hm.below (below_alloc _ _)) (by omega) rfl (by omega) (by omega) (heap_alloc_new w3 _)).mono ?_
  rintro e w2 ⟨rfl, sv2, hm2, hg2⟩
  have HG : Hid _ := (Went.of_upd hu ho).trans ((Went.of_below (b := b) (sv := sv1) (below_alloc w3 (.cells #[.int .u64 t] 25))).trans hg2)
  have HR2 : Hid (w2.heap[w.heap.size + 1]? = some (.cells (actRow actNo) 30)) := Went.stays HG.out h2 HR.out (by decide) (by decide)
  obtain ⟨⟨c0, c1, c2, c3⟩, f0, f1, f2, f3⟩ := cells4 HR2.out
  go_wp2
  (try simp only [Exit.inBlock, Exit.then])
  refine bodyPost_ret (results_cell_row rfl _ _ (w.heap.size + 1) 30 _ (0, 0) _ rfl (put4_row HR2.out) Try.underlying30 rfl actSize) rfl ⟨rfl, _, (hm2).put4 HR2.out (by decide) (by decide) _ _ _ _, ((Went.of_below HB.out).trans HG.out).put4 (by omega) _ _ _ _⟩

set_option maxHeartbeats 400000 in
theorem jumpIfZero_at (i : Ins) (M b : Nat) (pc : Int) (sv : Value) (x : Int) (st : List Int) (w : World) (h : MachV M w b pc sv (x :: st)) (hl : st.length ≤ 99990) (hx : Wd x) (ha : 0 ≤ i.arg ∧ i.arg ≤ 65535) :
    Calls Try.prog 60 #[.pointer (some ⟨b, 0, none⟩), .agg (insRow i)] w fun e w' => Takes M b w sv (if x = 0 then i.arg else pc) (st) actNo e w' := by
  obtain ⟨ha1, ha2⟩ := ha
  obtain ⟨W, hW⟩ : ∃ W, W = (w.alloc (.cells (insRow i) 48)).alloc (.cells (actRow actNo) 30) := ⟨_, rfl⟩
  obtain ⟨hbel, hI, hR, hsz⟩ := laid2 hW
  have h2 := h.below hbel
  have HB : Hid _ := hbel
  have HR : Hid _ := hR
  have HI : Hid _ := hI
  have hlt := lt_of_heap h.head
  clear h hbel hI hR hsz
  unfold insRow actRow actNo at hW
  dsimp only at hW
  dsimp only [insRow]
  by_cases h0 : x = 0
  · subst h0
    rw [if_pos rfl]
    go_enter Try.func60, Try.ntmps60
    go_wp2_with fail
    rw [← hW]
    clear hW
    refine (pop_at M b pc sv 0 st W h2 (by omega)).mono ?_
    rintro e w1 ⟨rfl, sv1, hm, ho, hu⟩
    have HR1 : Hid (w1.heap[w.heap.size + 1]? = some (.cells (actRow actNo) 30)) := (hu.block _ (lt_of_heap HR.out) (by omega)).trans HR.out
    have HI1 : Hid (w1.heap[w.heap.size]? = some (.cells (insRow i) 48)) := (hu.block _ (lt_of_heap HI.out) (by omega)).trans HI.out
    obtain ⟨⟨_, d1, _, _⟩, _⟩ := cells4 HI1.out
    obtain ⟨⟨c0, c1, c2, c3⟩, f0, f1, f2, f3⟩ := cells4 HR1.out
    have e0 := hm.c0
    have e1 := hm.free 0
    go_wp2
    (try simp only [Exit.inBlock, Exit.then])
    have hr2 : (w1.setCell ⟨b, 0, none⟩ (.int .i64 i.arg)).heap[w.heap.size + 1]? = some (.cells (actRow actNo) 30) := (Below.heap_setCell _ _ _ _ (by show w.heap.size + 1 ≠ b; omega)).trans HR1.out
    refine bodyPost_ret (results_cell_row rfl _ _ (w.heap.size + 1) 30 _ (0, 0) _ rfl (put4_row hr2) Try.underlying30 rfl actSize) rfl ⟨rfl, _, (hm.put0 i.arg).put4 hr2 (by decide) (by decide) _ _ _ _, ho, (((Upd.of_below HB.out).trans hu).trans (Upd.setCell _ _ _ _)).put4 (by omega) _ _ _ _⟩
  · rw [if_neg h0]
    have hb0 : (x == 0) = false := by simpa using h0
    go_enter Try.func60, Try.ntmps60
    go_wp2_with fail
    rw [← hW]
    clear hW
    refine (pop_at M b pc sv x st W h2 (by omega)).mono ?_
    rintro e w1 ⟨rfl, sv1, hm, ho, hu⟩
    have HR1 : Hid (w1.heap[w.heap.size + 1]? = some (.cells (actRow actNo) 30)) := (hu.block _ (lt_of_heap HR.out) (by omega)).trans HR.out
    obtain ⟨⟨c0, c1, c2, c3⟩, f0, f1, f2, f3⟩ := cells4 HR1.out
    go_wp2
    (try simp only [Exit.inBlock, Exit.then])
    refine bodyPost_ret (results_cell_row rfl _ _ (w.heap.size + 1) 30 _ (0, 0) _ rfl (put4_row HR1.out) Try.underlying30 rfl actSize) rfl ⟨rfl, _, hm.put4 HR1.out (by decide) (by decide) _ _ _ _, ho, ((Upd.of_below HB.out).trans hu).put4 (by omega) _ _ _ _⟩
set_option maxHeartbeats 400000 in
theorem jump_at (i : Ins) (M b : Nat) (pc : Int) (sv : Value) (st : List Int) (w : World) (h : MachV M w b pc sv (st)) (hl : st.length ≤ 99990) (ha : 0 ≤ i.arg ∧ i.arg ≤ 65535) :
    Calls Try.prog 59 #[.pointer (some ⟨b, 0, none⟩), .agg (insRow i)] w fun e w' => Takes M b w sv (i.arg) (st) actNo e w' := by
  obtain ⟨ha1, ha2⟩ := ha
  have e0 := h.c0
  have e1 := h.free 0
  have hlt := lt_of_heap h.head
  have HH : Hid _ := h
  clear h
  dsimp only [insRow]
  go_enter Try.func59, Try.ntmps59
  go_wp2
  (try simp only [Exit.inBlock, Exit.then])
  have hsz : (w.setCell ⟨b, 0, none⟩ (.int .i64 (i.arg))).heap.size = w.heap.size := by simp [World.setCell]
  have hr2 : ∀ A B : Obj, (((w.setCell ⟨b, 0, none⟩ (.int .i64 (i.arg))).alloc A).alloc B).heap[w.heap.size + 1]? = some B := fun A B => by rw [← hsz]; exact heap_alloc2_new _ A B
  refine bodyPost_ret (results_cell_row rfl _ _ (w.heap.size + 1) 30 _ (0, 0) _ rfl (hr2 _ _) Try.underlying30 rfl actSize) rfl ⟨rfl, _, (HH.out.put0 (i.arg)).below (laid2 (i := i) rfl).1, rfl, (Upd.setCell _ _ _ _).trans (Upd.of_below (laid2 (i := i) rfl).1)⟩
set_option maxHeartbeats 400000 in
theorem ask_at (i : Ins) (M b : Nat) (pc : Int) (sv : Value) (st : List Int) (w : World) (h : MachV M w b pc sv (st)) (hl : st.length ≤ 99990) (ha : 0 ≤ i.arg ∧ i.arg ≤ 255) :
    Calls Try.prog 61 #[.pointer (some ⟨b, 0, none⟩), .agg (insRow i)] w fun e w' => Takes M b w sv (i.pos) (st) ⟨3, 0, 0, i.arg⟩ e w' := by
  obtain ⟨ha1, ha2⟩ := ha
  have e0 := h.c0
  have e1 := h.free 0
  have hlt := lt_of_heap h.head
  have HH : Hid _ := h
  clear h
  dsimp only [insRow]
  go_enter Try.func61, Try.ntmps61
  go_wp2
  (try simp only [Exit.inBlock, Exit.then])
  have hsz : (w.setCell ⟨b, 0, none⟩ (.int .i64 (i.pos))).heap.size = w.heap.size := by simp [World.setCell]
  have hr2 : ∀ A B : Obj, (((w.setCell ⟨b, 0, none⟩ (.int .i64 (i.pos))).alloc A).alloc B).heap[w.heap.size + 1]? = some B := fun A B => by rw [← hsz]; exact heap_alloc2_new _ A B
  refine bodyPost_ret (results_cell_row rfl _ _ (w.heap.size + 1) 30 _ (0, 0) _ rfl (hr2 _ _) Try.underlying30 rfl actSize) rfl ⟨rfl, _, (HH.out.put0 (i.pos)).below (two_allocs _ _ _), rfl, (Upd.setCell _ _ _ _).trans (Upd.of_below (two_allocs _ _ _))⟩

end Go.Proofs.Ytedkijionpkmmaa
