/- A kernel of frames in the heap; the small functions of package exomem: isEnv, isPage, pageRights, table, frame. -/
import Derived.Test.YtfnafjddajgahaaGreatExM
import Derived.Laws.Cells
namespace Go.Proofs.YtfnafjddajgahaaGreat
open Go.RowKit Ca
set_option linter.unusedVariables false

/-- Where a kernel's parts lie. -/
structure Lay where
  mb : Nat
  g : Nat
  cb : Nat
  tb : Nat → Nat
  mp : Nat → Nat
abbrev ptr (b : Nat) : Value := .pointer (some ⟨b, 0, none⟩)
/-- Block K is a kernel's head: its memory, its capabilities, the tables under k. -/
def HeadAt (w : World) (K mb cb : Nat) (tb : Nat → Nat) (k : Nat) : Prop :=
  ∃ row : Array Value, w.heap[K]? = some (.cells row 58) ∧ row.size = 14 ∧ row[0]? = some (ptr mb) ∧ row[1]? = some (ptr cb) ∧ (∀ e, e < k → row[2 + e]? = some (ptr (tb e))) ∧ ∀ e, k ≤ e → e < 12 → row[2 + e]? = some (.pointer none)
theorem HeadAt.lt {w : World} {K mb cb k : Nat} {tb : Nat → Nat} (h : HeadAt w K mb cb tb k) : K < w.heap.size := by
  obtain ⟨row, hr, _⟩ := h
  exact lt_of_heap hr
theorem HeadAt.keep {w w' : World} {K mb cb k : Nat} {tb : Nat → Nat} (h : HeadAt w K mb cb tb k) (hb : w'.heap[K]? = w.heap[K]?) : HeadAt w' K mb cb tb k := by
  obtain ⟨row, hr, r⟩ := h
  exact ⟨row, hb.trans hr, r⟩
theorem HeadAt.set {w : World} {K mb cb k : Nat} {tb : Nat → Nat} (h : HeadAt w K mb cb tb k) (hk : k < 12) (t : Nat) : HeadAt (w.setCell ⟨K, 2 + k, none⟩ (ptr t)) K mb cb (fun e => if e = k then t else tb e) (k + 1) := by
  obtain ⟨row, hr, hs, h0, h1, h2, h3⟩ := h
  refine ⟨row.setIfInBounds (2 + k) (ptr t), ?_, by simp [hs], ?_, ?_, fun e he => ?_, fun e h4 h5 => ?_⟩
  · rw [setCell_eq_setRow w K _ _ _ _ _ hr, setRow_heap w K _ _ _ _ hr]
  · rw [Array.getElem?_setIfInBounds, if_neg (by omega)]; exact h0
  · rw [Array.getElem?_setIfInBounds, if_neg (by omega)]; exact h1
  · rw [Array.getElem?_setIfInBounds]
    dsimp only
    by_cases e1 : e = k
    · subst e1; rw [if_pos rfl, if_pos (by omega), if_pos rfl]
    · rw [if_neg (by omega), if_neg e1]; exact h2 e (by omega)
  · rw [Array.getElem?_setIfInBounds, if_neg (by omega)]; exact h3 e (by omega) h5

/-- Block K is a kernel of n frames: the words, the slots, the pages. -/
structure KerAt (w : World) (K : Nat) (Y : Lay) (n : Nat) (vs : List Int) (T : Tab) (F : Pages) : Prop where
  head : HeadAt w K Y.mb Y.cb Y.tb 12
  mem : Me.MemAt w Y.mb Y.g n vs
  caps : CapsAt w Y.cb T
  tbl : ∀ e, e < 12 → Mu.TblAt w (Y.tb e) (Y.mp e) (F e)
  inj : ∀ i j, i < 12 → j < 12 → Y.mp i = Y.mp j → i = j
  inv : KInv T n
  n1 : 1 ≤ n
  n2 : n ≤ 1024
  pg : ∀ e, e < 12 → ∀ p x, F e p = some x → x.1 < n

section
variable {w w' : World} {K : Nat} {Y : Lay} {n : Nat} {vs : List Int} {T : Tab} {F : Pages}
theorem KerAt.below (h : KerAt w K Y n vs T F) (hb : Below w.heap.size w w') : KerAt w' K Y n vs T F :=
  ⟨h.head.keep (hb.block _ h.head.lt), h.mem.below hb, h.caps.below hb, fun e he => (h.tbl e he).below hb, h.inj, h.inv, h.n1, h.n2, h.pg⟩
theorem KerAt.k0 (h : KerAt w K Y n vs T F) : w.cell? ⟨K, 0, none⟩ = some (ptr Y.mb) := by
  obtain ⟨row, hr, hs, h0, h1, h2, _⟩ := h.head
  rw [cell_of_heap hr]; exact h0
theorem KerAt.k1 (h : KerAt w K Y n vs T F) : w.cell? ⟨K, 1, none⟩ = some (ptr Y.cb) := by
  obtain ⟨row, hr, hs, h0, h1, h2, _⟩ := h.head
  rw [cell_of_heap hr]; exact h1
theorem KerAt.kt (h : KerAt w K Y n vs T F) {e : Nat} (he : e < 12) : w.cell? ⟨K, 2 + e, none⟩ = some (ptr (Y.tb e)) := by
  obtain ⟨row, hr, hs, h0, h1, h2, _⟩ := h.head
  rw [cell_of_heap hr]; exact h2 e he
theorem KerAt.sanes (h : KerAt w K Y n vs T F) : Sanes T := h.inv.sanes h.n2
theorem apart {w : World} {a b : Nat} {r r' : Array Value} {t t' : TypeId} {q q' : Nat × Nat} (h : w.heap[a]? = some (.cells r t q)) (h' : w.heap[b]? = some (.cells r' t' q')) (hn : t ≠ t') : a ≠ b := by
  intro e
  subst e
  rw [h] at h'
  injection h' with h1
  injection h1 with _ h2
  exact hn h2
theorem apartM {w : World} {a b : Nat} {r : Array Value} {t : TypeId} {q : Nat × Nat} {k : IntKind} {f : Int → Option Value} (h : w.heap[a]? = some (.cells r t q)) (h' : MapIs w k b f) : a ≠ b := by
  intro e
  subst e
  obtain ⟨es, c, hb, _⟩ := h'
  rw [h] at hb
  injection hb with h1
  cases h1
theorem KerAt.gK (h : KerAt w K Y n vs T F) : K ≠ Y.g := by
  obtain ⟨row, hr, _⟩ := h.head
  exact apart hr h.mem.row (by decide)
theorem KerAt.cK (h : KerAt w K Y n vs T F) : K ≠ Y.cb := by
  obtain ⟨row, hr, _⟩ := h.head
  obtain ⟨row2, hr2, _⟩ := h.caps.head
  exact apart hr hr2 (by decide)
theorem KerAt.pK (h : KerAt w K Y n vs T F) {e : Nat} (he : e < 12) : K ≠ Y.mp e := by
  obtain ⟨row, hr, _⟩ := h.head
  exact apartM hr (h.tbl e he).map
theorem KerAt.cg (h : KerAt w K Y n vs T F) : Y.cb ≠ Y.g := by
  obtain ⟨row2, hr2, _⟩ := h.caps.head
  exact apart hr2 h.mem.row (by decide)
theorem KerAt.cm (h : KerAt w K Y n vs T F) : Y.cb ≠ Y.mb := by
  obtain ⟨row2, hr2, _⟩ := h.caps.head
  exact apart hr2 h.mem.head (by decide)
theorem KerAt.cp (h : KerAt w K Y n vs T F) {e : Nat} (he : e < 12) : Y.cb ≠ Y.mp e := by
  obtain ⟨row2, hr2, _⟩ := h.caps.head
  exact apartM hr2 (h.tbl e he).map
theorem KerAt.mp (h : KerAt w K Y n vs T F) {e : Nat} (he : e < 12) : Y.mb ≠ Y.mp e := apartM h.mem.head (h.tbl e he).map
theorem KerAt.gp (h : KerAt w K Y n vs T F) {e : Nat} (he : e < 12) : Y.g ≠ Y.mp e := apartM h.mem.row (h.tbl e he).map
theorem KerAt.tg (h : KerAt w K Y n vs T F) {e : Nat} (he : e < 12) : Y.tb e ≠ Y.g := apart (h.tbl e he).head h.mem.row (by decide)
theorem KerAt.tc (h : KerAt w K Y n vs T F) {e : Nat} (he : e < 12) : Y.tb e ≠ Y.cb := by
  obtain ⟨row2, hr2, _⟩ := h.caps.head
  exact apart (h.tbl e he).head hr2 (by decide)
theorem KerAt.tp (h : KerAt w K Y n vs T F) {e i : Nat} (he : e < 12) (hi : i < 12) : Y.tb e ≠ Y.mp i := apartM (h.tbl e he).head (h.tbl i hi).map
/-- The words changed. -/
theorem KerAt.updM {vs' : List Int} (h : KerAt w K Y n vs T F) (hm : Me.MemAt w' Y.mb Y.g n vs') (hu : Upd Y.g w w') : KerAt w' K Y n vs' T F :=
  ⟨h.head.keep (hu.block _ h.head.lt h.gK), hm, h.caps.keep (hu.block _ h.caps.lt h.cg), fun e he => (h.tbl e he).keep (hu.block _ (h.tbl e he).lt (h.tg he)) (hu.block _ (h.tbl e he).mlt (fun x => h.gp he x.symm)), h.inj, h.inv, h.n1, h.n2, h.pg⟩
/-- The slots changed. -/
theorem KerAt.updC {T' : Tab} (h : KerAt w K Y n vs T F) (hc : CapsAt w' Y.cb T') (hi : KInv T' n) (hu : Upd Y.cb w w') : KerAt w' K Y n vs T' F :=
  ⟨h.head.keep (hu.block _ h.head.lt h.cK), h.mem.keep (hu.block _ (lt_of_heap h.mem.head) (fun x => h.cm x.symm)) (hu.block _ (lt_of_heap h.mem.row) (fun x => h.cg x.symm)), hc, fun e he => (h.tbl e he).keep (hu.block _ (h.tbl e he).lt (h.tc he)) (hu.block _ (h.tbl e he).mlt (fun x => h.cp he x.symm)), h.inj, hi, h.n1, h.n2, h.pg⟩
/-- An environment's pages changed. -/
theorem KerAt.updT {e : Nat} {f : Int → Option (Int × Bool)} (h : KerAt w K Y n vs T F) (he : e < 12) (ht : Mu.TblAt w' (Y.tb e) (Y.mp e) f) (hp : ∀ p x, f p = some x → x.1 < n) (hu : Upd (Y.mp e) w w') : KerAt w' K Y n vs T (setF F e f) := by
  refine ⟨h.head.keep (hu.block _ h.head.lt (h.pK he)), h.mem.keep (hu.block _ (lt_of_heap h.mem.head) (h.mp he)) (hu.block _ (lt_of_heap h.mem.row) (h.gp he)), h.caps.keep (hu.block _ h.caps.lt (h.cp he)), fun i hi => ?_, h.inj, h.inv, h.n1, h.n2, fun i hi p x hx => ?_⟩
  rotate_left
  · by_cases e1 : i = e
    · subst e1; rw [setF_same] at hx; exact hp p x hx
    · rw [setF_other _ _ _ _ e1] at hx; exact h.pg i hi p x hx
  by_cases e1 : i = e
  · subst e1; rw [setF_same]; exact ht
  · rw [setF_other _ _ _ _ e1]
    exact (h.tbl i hi).keep (hu.block _ (h.tbl i hi).lt (h.tp hi he)) (hu.block _ (h.tbl i hi).mlt (fun x => e1 (h.inj i e hi he x)))
theorem KerAt.same {F' : Pages} (h : KerAt w K Y n vs T F) (hF : ∀ e, e < 12 → F e = F' e) : KerAt w K Y n vs T F' :=
  ⟨h.head, h.mem, h.caps, fun e he => by rw [← hF e he]; exact h.tbl e he, h.inj, h.inv, h.n1, h.n2, fun e he => by rw [← hF e he]; exact h.pg e he⟩
end
/-- What calls of a kernel write. -/
def Foot (Y : Lay) (b : Nat) : Prop := b = Y.g ∨ b = Y.cb ∨ ∃ e, e < 12 ∧ b = Y.mp e

theorem kisEnv_at (n : Int) (w : World) :
    Calls Tryz.prog 54 #[.int .i64 n] w fun e w' => e = .returned (.bool (isE n)) ∧ w' = w := by
  go_enter Tryz.func54, Tryz.ntmps54
  go_wp2
  all_goals
    go_ret
    refine ⟨ret_bool ?_, rfl⟩
    simp [isE]
    try omega

theorem kisPage_at (n : Int) (w : World) :
    Calls Tryz.prog 66 #[.int .i64 n] w fun e w' => e = .returned (.bool (Mu.isPg n)) ∧ w' = w := by
  go_enter Tryz.func66, Tryz.ntmps66
  go_wp2
  all_goals
    go_ret
    refine ⟨ret_bool ?_, rfl⟩
    simp [Mu.isPg]
    try omega

theorem kpr_at (b : Bool) (w : World) :
    Calls Tryz.prog 67 #[.bool b] w fun e w' => e = .returned (.int .i64 (prt b)) ∧ w' = w := by
  cases b
  all_goals
    go_enter Tryz.func67, Tryz.ntmps67
    go_wp2
    go_ret
    exact ⟨rfl, rfl⟩

theorem ktable_nil (e : Int) (w : World) :
    Calls Tryz.prog 50 #[.pointer none, .int .i64 e] w fun x w' => x = .returned (.pointer none) ∧ w' = w := by
  go_enter Tryz.func50, Tryz.ntmps50
  go_wp2
  go_ret
  exact ⟨rfl, rfl⟩
/-- The table of an environment. -/
def tblP (Y : Lay) (e : Int) : Option Addr := if isE e = true then some ⟨Y.tb e.toNat, 0, none⟩ else none
theorem isE_nat {e : Int} (h : isE e = true) : ∃ m : Nat, e = (m : Int) ∧ m < 12 := by
  simp [isE] at h
  exact ⟨e.toNat, by omega, by omega⟩
theorem ktable_no (K : Nat) (e : Int) (w : World) (he : isE e = false) :
    Calls Tryz.prog 50 #[ptr K, .int .i64 e] w fun x w' => x = .returned (.pointer none) ∧ w' = w := by
  have hE := kisEnv_at e
  rw [he] at hE
  clear he
  go_enter Tryz.func50, Tryz.ntmps50
  go_wp2_with (go_at_call 54; refine (hE _).mono ?_; rintro e w1 ⟨rfl, rfl⟩)
  go_ret
  exact ⟨rfl, rfl⟩
theorem ktable_yes {K : Nat} {Y : Lay} {n : Nat} {vs : List Int} {T : Tab} {F : Pages} {w : World} (h : KerAt w K Y n vs T F) (m : Nat) (hm : m < 12) :
    Calls Tryz.prog 50 #[ptr K, .int .i64 m] w fun x w' => x = .returned (ptr (Y.tb m)) ∧ w' = w := by
  have hE := kisEnv_at m
  rw [show isE m = true from by simp [isE]; omega] at hE
  have ht := h.kt hm
  clear h
  have i1 : (m : Int) < 12 := by omega
  go_enter Tryz.func50, Tryz.ntmps50
  go_wp2_with (go_at_call 54; refine (hE _).mono ?_; rintro e w1 ⟨rfl, rfl⟩)
  go_ret
  exact ⟨rfl, rfl⟩

theorem kcap_nil (e s : Int) (w : World) :
    Calls Tryz.prog 89 #[.pointer none, .int .i64 e, .int .i64 s] w fun x w' => x = .returned (.tuple #[.agg (cpRow Cp.no), .bool false]) ∧ Below w.heap.size w w' := by
  go_enter Tryz.func89, Tryz.ntmps89
  go_wp2
  refine bodyPost_ret (by rw [results_cell_tmp rfl]; go_simp) rfl ⟨rfl, ?_⟩
  repeat (refine Below.setCell ?_ (Nat.le_refl _) _)
  exact below_alloc w _
theorem kcap_at {K : Nat} {Y : Lay} {n : Nat} {vs : List Int} {T : Tab} {F : Pages} {w : World} (h : KerAt w K Y n vs T F) (e s : Int) :
    Calls Tryz.prog 89 #[ptr K, .int .i64 e, .int .i64 s] w fun x w' => x = .returned (.tuple #[.agg (cpRow (getT T e s)), .bool (getT T e s).is]) ∧ Below w.heap.size w w' := by
  obtain ⟨W, hW⟩ : ∃ W, W = w.alloc (.cells #[.int .i64 0, .int .i64 0, .int .i64 0, .int .i64 0] 95) := ⟨_, rfl⟩
  have hbW : Below w.heap.size w W := by rw [hW]; exact below_alloc _ _
  have hsW : W.heap.size = w.heap.size + 1 := by rw [hW]; simp
  have hbox : W.heap[w.heap.size]? = some (.cells #[.int .i64 0, .int .i64 0, .int .i64 0, .int .i64 0] 95) := by rw [hW]; exact heap_alloc_new _ _
  have hg := Ca.get_at Y.cb T e s W (h.below hbW).caps
  have hc := cell_alloc_old h.k1 (.cells #[.int .i64 0, .int .i64 0, .int .i64 0, .int .i64 0] 95)
  have HB : Hid _ := hbW
  have HS : Hid _ := hsW
  have HO : Hid _ := hbox
  clear h hbW hsW hbox
  generalize getT T e s = x at *
  obtain ⟨k, i, q, p⟩ := x
  generalize Cp.is ⟨k, i, q, p⟩ = B at *
  dsimp only [cpRow] at *
  go_enter Tryz.func89, Tryz.ntmps89
  go_wp2_with fail
  rw [← hW]
  clear hW
  refine hg.mono ?_
  rintro x w1 ⟨rfl, hb1⟩
  have HB1 : Hid _ := hb1
  have hbx : w1.heap[w.heap.size]? = some (.cells #[.int .i64 0, .int .i64 0, .int .i64 0, .int .i64 0] 95) := (hb1.block _ (by rw [HS.out]; omega)).trans HO.out
  have x0 := cell_of_heap (i := 0) hbx
  have x1 := cell_of_heap (i := 1) hbx
  have x2 := cell_of_heap (i := 2) hbx
  have x3 := cell_of_heap (i := 3) hbx
  have xf := fun i => frozen_of_heap (i := i) hbx
  simp only [List.getElem?_toArray, List.getElem?_cons_zero, List.getElem?_cons_succ] at x0 x1 x2 x3
  clear hb1 hbx hg
  go_wp2
  refine bodyPost_ret (by rw [results_cell_tmp rfl]; go_simp) rfl ⟨rfl, ?_⟩
  exact (((((HB.out.trans (HB1.out.mono (by have := HS.out; omega))).setCell (Nat.le_refl _) _).setCell (Nat.le_refl _) _).setCell (Nat.le_refl _) _).setCell (Nat.le_refl _) _)
theorem kframe_nil (e s r : Int) (w : World) :
    Calls Tryz.prog 48 #[.pointer none, .int .i64 e, .int .i64 s, .int .i64 r] w fun x w' => x = .returned (.tuple #[.int .i64 0, .bool false]) ∧ Below w.heap.size w w' := by
  have hg := kcap_nil e s w
  dsimp only [cpRow] at *
  go_enter Tryz.func48, Tryz.ntmps48
  go_wp2_with (go_at_call 89; refine hg.mono ?_; rintro e w1 ⟨rfl, hb⟩)
  go_ret2
  exact ⟨rfl, hb.alloc hb.size _⟩
theorem kframe_at {K : Nat} {Y : Lay} {n : Nat} {vs : List Int} {T : Tab} {F : Pages} {w : World} (h : KerAt w K Y n vs T F) (e s r : Int) :
    Calls Tryz.prog 48 #[ptr K, .int .i64 e, .int .i64 s, .int .i64 r] w fun x w' => x = .returned (.tuple #[.int .i64 ((frm T e s r).getD 0), .bool (frm T e s r).isSome]) ∧ Below w.heap.size w w' := by
  have hg := kcap_at h e s
  clear h
  have HF : Hid (frm T e s r = if ((getT T e s).is && among r (getT T e s).rights) = true then some (getT T e s).id else none) := rfl
  generalize frm T e s r = R at *
  generalize getT T e s = x at *
  obtain ⟨k, i, l, q⟩ := x
  have HF2 : Hid (R = if (Cp.is ⟨k, i, l, q⟩ && (bits .andNot .i64 r q == 0)) = true then some i else none) := HF.out
  clear HF
  generalize Cp.is ⟨k, i, l, q⟩ = B at *
  dsimp only [cpRow] at *
  cases B
  · have HR : Hid (R = none) := by rw [HF2.out]; rfl
    clear HF2
    go_enter Tryz.func48, Tryz.ntmps48
    go_wp2_with (go_at_call 89; refine hg.mono ?_; rintro e w1 ⟨rfl, hb⟩)
    go_ret2
    exact ⟨by rw [HR.out]; rfl, hb.alloc hb.size _⟩
  · cases ha : (bits .andNot .i64 r q == 0)
    · have HR : Hid (R = none) := by rw [HF2.out, ha]; rfl
      clear HF2
      have hne : bits .andNot .i64 r q ≠ 0 := by simpa using ha
      clear ha
      go_enter Tryz.func48, Tryz.ntmps48
      go_wp2_with (go_at_call 89; refine hg.mono ?_; rintro e w1 ⟨rfl, hb⟩)
      go_ret2
      exact ⟨by rw [HR.out]; rfl, hb.alloc hb.size _⟩
    · have HR : Hid (R = some i) := by rw [HF2.out, ha]; rfl
      clear HF2
      have hne : bits .andNot .i64 r q = 0 := by simpa using ha
      clear ha
      go_enter Tryz.func48, Tryz.ntmps48
      go_wp2_with (go_at_call 89; refine hg.mono ?_; rintro e w1 ⟨rfl, hb⟩)
      go_ret2
      exact ⟨by rw [HR.out]; rfl, hb.alloc hb.size _⟩
end Go.Proofs.YtfnafjddajgahaaGreat
