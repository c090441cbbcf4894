import Derived.WalkKit
import Derived.Test.YtbhpafgoofkkmaaGreatDoorRows
import Derived.Test.YtbhpafgoofkkmaaGreatDoorPlain
import Derived.WalkSpells
import Derived.WalkLawsBesides
import Derived.Deep.RegionHeld3
import Derived.Deep.QuietTactic
import Derived.Deep.AppendLies
import Derived.BigRegion
import Derived.BigQuiet
set_option linter.all false
namespace Go.Proofs.YtbhpafgoofkkmaaGreatDoor
open Go.RowKit
namespace En
structure Ev where
 lives : Bool
 waits : Bool
 addr : Int
def Ev.no : Ev := ⟨false, false, 0⟩
def Ev.get (v : Ev) : Nat → Value
 | 0 => .bool v.lives
 | 1 => .bool v.waits
 | _ => .int .u64 v.addr
abbrev ES := Nat → Ev
def ES.set (E : ES) (j : Nat) (v : Ev) : ES := fun i => if i = j then v else E i
theorem ES.set_same (E : ES) (j : Nat) (v : Ev) : E.set j v j = v := by simp [ES.set]
theorem ES.set_other (E : ES) (j i : Nat) (v : Ev) (h : i ≠ j) : E.set j v i = E i := by simp [ES.set, h]
def E0 : ES := fun _ => Ev.no
def isE (n : Int) : Bool := decide (0 ≤ n) && decide (n < 12)
def isB (E : ES) (n : Int) : Bool := isE n && (E n.toNat).lives
theorem isE_nat {n : Int} (h : isE n = true) : ∃ m : Nat, n = m ∧ m < 12 := by
 simp [isE] at h
 exact ⟨n.toNat, by omega, by omega⟩
theorem isE_of {m : Nat} (h : m < 12) : isE m = true := by simp [isE]; omega
theorem isB_of {E : ES} {m : Nat} (h : m < 12) : isB E m = (E m).lives := by simp [isB, isE_of h]
def createR (E : ES) (n : Int) : Int := if isE n then (if (E n.toNat).lives then 105 else 0) else 101
def createT (E : ES) (n : Int) : ES := if isE n && !(E n.toNat).lives then E.set n.toNat ⟨true, (E n.toNat).waits, (E n.toNat).addr⟩ else E
end En
end Go.Proofs.YtbhpafgoofkkmaaGreatDoor
namespace Go.Proofs.YtbhpafgoofkkmaaGreatDoor
open Go.RowKit
namespace En
theorem ret_bool {x y : Bool} (h : x = y) : Ending.returned (.bool x) = Ending.returned (.bool y) := by rw [h]
theorem below_alloc (w : World) (o : Obj) : Below w.heap.size w (w.alloc o) := (Below.refl _ _).alloc (Nat.le_refl _) _
theorem below_alloc2 (w : World) (o o' : Obj) : Below w.heap.size w ((w.alloc o).alloc o') := (below_alloc w o).trans ((below_alloc _ _).mono (by simp))
theorem cell_alloc_old {w : World} {p : Addr} {u : Value} (h : w.cell? p = some u) (o : Obj) : (w.alloc o).cell? p = some u :=
 (below_alloc w o).cell (cell_lt h) ▸ h
def ivs (zs : List Int) : List Value := zs.map (Value.int .i64)
def irow (L : List Int) : Array Value := (L.map (Value.int .i64)).toArray
theorem irow_zero (n : Nat) : Array.replicate (n * 1) (Value.int .i64 0) = irow (List.replicate n 0) := by simp [irow]
theorem irow_set (L : List Int) (f : Nat) (v : Int) : (irow L).setIfInBounds f (.int .i64 v) = irow (L.set f v) := by
 apply Array.ext'
 simp [irow, List.map_set]
theorem irow_cell {w : World} {B : Nat} {L : List Int} {t : TypeId} (h : w.heap[B]? = some (.cells (irow L) t)) {i : Nat} {x : Int} (hx : L[i]? = some x) : w.cell? ⟨B, i, none⟩ = some (.int .i64 x) := by
 rw [cell_of_heap h]
 simp [irow, hx]
theorem intInfo : (Tryz.prog.info? 3).map (fun i => (i.zero, i.size, i.bytes)) = some (some (.int .i64 0), 1, 8) := by kernel_rfl
theorem make_ints (n : Nat) (h : n ≤ 1024) (w : World) :
  (Instr.makeSlice 46 (.int .i64 (n : Int)) (.int .i64 (n : Int))).run Tryz.prog w = .ok (.slice (some ⟨w.heap.size, 0, none⟩) n n) (w.alloc (.cells (irow (List.replicate n 0)) 3)) := by
 have := run_make_flat 46 3 (.int .i64 0) (.int .i64 0) 1 8 Tryz.underlying46 intInfo rfl (by omega) .i64 .i64 n (by omega) (by omega) w
 rwa [irow_zero] at this
structure EnvAt (w : World) (b g : Nat) (E : ES) (V : List Int) : Prop where
 head : ∃ row : Array Value, w.heap[b]? = some (.cells row 125) ∧ row.size = 37 ∧ (∀ j, j < 12 → ∀ k, k < 3 → row[j * 3 + k]? = some ((E j).get k)) ∧ row[36]? = some (.slice (some ⟨g, 0, none⟩) V.length V.length)
 vec : w.heap[g]? = some (.cells (irow V) 3)
 ne : b ≠ g
 pos : 1 ≤ V.length
 len : V.length ≤ 64
theorem EnvAt.ltb {w : World} {b g : Nat} {E : ES} {V : List Int} (h : EnvAt w b g E V) : b < w.heap.size := by
 obtain ⟨row, hr, _⟩ := h.head
 exact lt_of_heap hr
theorem EnvAt.ltg {w : World} {b g : Nat} {E : ES} {V : List Int} (h : EnvAt w b g E V) : g < w.heap.size := lt_of_heap h.vec
theorem EnvAt.keep {w w' : World} {b g : Nat} {E : ES} {V : List Int} (h : EnvAt w b g E V) (hb : w'.heap[b]? = w.heap[b]?) (hg : w'.heap[g]? = w.heap[g]?) : EnvAt w' b g E V := by
 obtain ⟨row, hr, h1⟩ := h.head
 exact ⟨⟨row, hb.trans hr, h1⟩, hg.trans h.vec, h.ne, h.pos, h.len⟩
theorem EnvAt.below {w w' : World} {b g : Nat} {E : ES} {V : List Int} (h : EnvAt w b g E V) (hb : Below w.heap.size w w') : EnvAt w' b g E V := h.keep (hb.block _ h.ltb) (hb.block _ h.ltg)
theorem EnvAt.cell {w : World} {b g : Nat} {E : ES} {V : List Int} (h : EnvAt w b g E V) {j k o : Nat} (hj : j < 12) (hk : k < 3) (ho : o = j * 3 + k) : w.cell? ⟨b, o, none⟩ = some ((E j).get k) := by
 obtain ⟨row, hr, _, h2, _⟩ := h.head
 rw [cell_of_heap hr, ho]
 exact h2 j hj k hk
theorem EnvAt.sl {w : World} {b g : Nat} {E : ES} {V : List Int} (h : EnvAt w b g E V) : w.cell? ⟨b, 36, none⟩ = some (.slice (some ⟨g, 0, none⟩) V.length V.length) := by
 obtain ⟨row, hr, _, _, h3⟩ := h.head
 rw [cell_of_heap hr]
 exact h3
theorem EnvAt.freeb {w : World} {b g : Nat} {E : ES} {V : List Int} (h : EnvAt w b g E V) (o : Nat) : w.frozen? ⟨b, o, none⟩ = false := by
 obtain ⟨row, hr, _⟩ := h.head
 exact frozen_of_heap hr
theorem EnvAt.freeg {w : World} {b g : Nat} {E : ES} {V : List Int} (h : EnvAt w b g E V) (o : Nat) : w.frozen? ⟨g, o, none⟩ = false := frozen_of_heap h.vec
theorem EnvAt.vcell {w : World} {b g : Nat} {E : ES} {V : List Int} (h : EnvAt w b g E V) {i : Nat} {x : Int} (hx : V[i]? = some x) : w.cell? ⟨g, i, none⟩ = some (.int .i64 x) := irow_cell h.vec hx
theorem EnvAt.set {w : World} {b g : Nat} {E : ES} {V : List Int} (h : EnvAt w b g E V) {j k o : Nat} (hj : j < 12) (hk : k < 3) (ho : o = j * 3 + k) (v : Value) (H : Ev) (h1 : H.get k = v) (h2 : ∀ i, i < 3 → i ≠ k → H.get i = (E j).get i) :
  EnvAt (w.setCell ⟨b, o, none⟩ v) b g (E.set j H) V := by
 obtain ⟨row, hr, hs, hc, hl⟩ := h.head
 subst ho
 refine ⟨⟨row.setIfInBounds (j * 3 + k) v, ?_, by simp [hs], fun i hi m hm => ?_, ?_⟩, ?_, h.ne, h.pos, h.len⟩
 ·rw [setCell_eq_setRow w b _ _ _ _ _ hr, setRow_heap w b _ _ _ _ hr]
 ·rw [Array.getElem?_setIfInBounds]
  by_cases he : j * 3 + k = i * 3 + m
  ·have hij : i = j := by omega
   have hmk : m = k := by omega
   subst hij hmk
   rw [if_pos he, if_pos (by omega), ES.set_same, h1]
  ·rw [if_neg he]
   by_cases hij : i = j
   ·subst hij
    rw [ES.set_same, h2 m hm (by omega)]
    exact hc i hi m hm
   ·rw [ES.set_other _ _ _ _ hij]
    exact hc i hi m hm
 ·rw [Array.getElem?_setIfInBounds, if_neg (by omega)]
  exact hl
 ·rw [Below.heap_setCell _ _ _ _ (Ne.symm h.ne)]
  exact h.vec
theorem EnvAt.setV {w : World} {b g : Nat} {E : ES} {V : List Int} (h : EnvAt w b g E V) (i : Nat) (x : Int) :
  EnvAt (w.setCell ⟨g, i, none⟩ (.int .i64 x)) b g E (V.set i x) := by
 obtain ⟨row, hr, hs, hc, hl⟩ := h.head
 refine ⟨⟨row, ?_, hs, hc, ?_⟩, ?_, h.ne, by simpa using h.pos, by simpa using h.len⟩
 ·rw [Below.heap_setCell _ _ _ _ h.ne]
  exact hr
 ·rw [List.length_set]
  exact hl
 ·rw [setCell_eq_setRow w g _ _ _ _ _ h.vec, setRow_heap w g _ _ _ _ h.vec, irow_set]
abbrev Mine (b g : Nat) (k : Nat) : Prop := k = b ∨ k = g
theorem mine_b (b g o : Nat) (w : World) (v : Value) : UpdP (Mine b g) w (w.setCell ⟨b, o, none⟩ v) := (Upd.setCell b o w v).p _ (Or.inl rfl)
theorem ptr_ne (b : Nat) (W : World) : (binOp .neq 77 (.pointer (some ⟨b, 0, none⟩)) (.pointer none)).run Tryz.prog W = .ok (.bool true) W := by go_simp
theorem ptr_eq (b : Nat) (W : World) : (binOp .eql 77 (.pointer (some ⟨b, 0, none⟩)) (.pointer none)).run Tryz.prog W = .ok (.bool false) W := by go_simp
theorem is_at (b g : Nat) (E : ES) (V : List Int) (n : Int) (w : World) (h : EnvAt w b g E V) :
  Calls Tryz.prog 24 #[.pointer (some ⟨b, 0, none⟩), .int .i64 n] w fun e w' => e = .returned (.bool (isB E n)) ∧ w' = w := by
 have hne := ptr_ne b
 by_cases h0 : 0 ≤ n
 ·have g0 : decide (0 ≤ n) = true := decide_eq_true h0
  by_cases h1 : n < 12
  ·obtain ⟨m, rfl⟩ : ∃ m : Nat, n = m := ⟨n.toNat, by omega⟩
   have hm : m < 12 := by omega
   have g1 : decide ((m : Int) < 12) = true := decide_eq_true h1
   have c0 := h.cell (j := m) (k := 0) (o := m * 3) hm (by omega) (by omega)
   have HB : Hid (isB E m = (E m).lives) := isB_of hm
   dsimp only [Ev.get] at c0
   clear h
   generalize (E m).lives = B at *
   go_enter Tryz.func24, Tryz.ntmps24
   go_wp2
   all_goals
    go_ret
    exact ⟨by rw [HB.out]; rfl, rfl⟩
  ·have g1 : decide (n < 12) = false := decide_eq_false h1
   have HB : Hid (isB E n = false) := by show isB E n = false; simp [isB, isE, h1]
   clear h
   go_enter Tryz.func24, Tryz.ntmps24
   go_wp2
   all_goals
    go_ret
    exact ⟨by rw [HB.out]; rfl, rfl⟩
 ·have g0 : decide (0 ≤ n) = false := decide_eq_false h0
  have HB : Hid (isB E n = false) := by show isB E n = false; simp [isB, isE, h0]
  clear h
  go_enter Tryz.func24, Tryz.ntmps24
  go_wp2
  all_goals
   go_ret
   exact ⟨by rw [HB.out]; rfl, rfl⟩
end En
end Go.Proofs.YtbhpafgoofkkmaaGreatDoor
namespace Go.Proofs.YtbhpafgoofkkmaaGreatDoor
open Go.RowKit
namespace En
def nrow (g n : Nat) : Array Value := #[.bool false, .bool false, .int .u64 0, .bool false, .bool false, .int .u64 0, .bool false, .bool false, .int .u64 0, .bool false, .bool false, .int .u64 0, .bool false, .bool false, .int .u64 0, .bool false, .bool false, .int .u64 0, .bool false, .bool false, .int .u64 0, .bool false, .bool false, .int .u64 0, .bool false, .bool false, .int .u64 0, .bool false, .bool false, .int .u64 0, .bool false, .bool false, .int .u64 0, .bool false, .bool false, .int .u64 0, .slice (some ⟨g, 0, none⟩) n n]
theorem nrow_get (g n j k : Nat) (hj : j < 12) (hk : k < 3) : (nrow g n)[j * 3 + k]? = some ((E0 j).get k) := by
 obtain rfl | rfl | rfl : k = 0 ∨ k = 1 ∨ k = 2 := by omega
 all_goals
  obtain rfl | rfl | rfl | rfl | rfl | rfl | rfl | rfl | rfl | rfl | rfl | rfl : j = 0 ∨ j = 1 ∨ j = 2 ∨ j = 3 ∨ j = 4 ∨ j = 5 ∨ j = 6 ∨ j = 7 ∨ j = 8 ∨ j = 9 ∨ j = 10 ∨ j = 11 := by omega
  all_goals rfl
def nv (n k : Nat) : List Int := List.replicate k (-1) ++ List.replicate (n - k) 0
theorem nv_len (n k : Nat) (h : k ≤ n) : (nv n k).length = n := by simp [nv]; omega
theorem nv_zero (n : Nat) : nv n 0 = List.replicate n 0 := by simp [nv]
theorem nv_all (n : Nat) : nv n n = List.replicate n (-1) := by simp [nv]
theorem nv_get (n k : Nat) (h : k < n) : (nv n k)[k]? = some 0 := by
 unfold nv
 rw [List.getElem?_append_right (by simp), List.length_replicate, Nat.sub_self, List.getElem?_replicate, if_pos (by omega)]
theorem nv_set (n k : Nat) (h : k < n) : (nv n k).set k (-1) = nv n (k + 1) := by
 unfold nv
 rw [List.set_append, if_neg (by simp), List.length_replicate, Nat.sub_self]
 obtain ⟨d, hd⟩ : ∃ d, n - k = d + 1 := ⟨n - k - 1, by omega⟩
 rw [hd, show n - (k + 1) = d by omega]
 rw [List.replicate_succ, List.set_cons_zero, List.replicate_succ', List.append_assoc]
 rfl
theorem env_new (n : Nat) (w : World) (h : 1 ≤ n) (h2 : n ≤ 64) :
  EnvAt ((w.alloc (.cells (irow (List.replicate n 0)) 3)).alloc (.cells (nrow w.heap.size n) 125)) (w.heap.size + 1) w.heap.size E0 (nv n 0) := by
 rw [nv_zero]
 refine ⟨⟨nrow w.heap.size n, ?_, rfl, fun j hj k hk => nrow_get _ _ j k hj hk, ?_⟩, ?_, by omega, by simpa using h, by simpa using h2⟩
 ·have := heap_alloc_new (w.alloc (.cells (irow (List.replicate n 0)) 3)) (.cells (nrow w.heap.size n) 125)
  simpa using this
 ·rw [List.length_replicate]
  rfl
 ·rw [Below.heap_alloc _ _ _ (by simp)]
  exact heap_alloc_new _ _
set_option maxRecDepth 100000 in
theorem new_yes (n : Nat) (w : World) (h : 1 ≤ n) (h2 : n ≤ 64) :
  Calls Tryz.prog 53 #[.int .i64 n] w fun e w' => e = .returned (.pointer (some ⟨w.heap.size + 1, 0, none⟩)) ∧ EnvAt w' (w.heap.size + 1) w.heap.size E0 (List.replicate n (-1)) ∧ Below w.heap.size w w' ∧ w'.heap.size = w.heap.size + 2 := by
 have hmk := fun w => make_ints n (by omega) w
 obtain ⟨W, hW⟩ : ∃ W, W = (w.alloc (.cells (irow (List.replicate n 0)) 3)).alloc (.cells (nrow w.heap.size n) 125) := ⟨_, rfl⟩
 have HE : Hid (EnvAt W (w.heap.size + 1) w.heap.size E0 (nv n 0)) := by rw [hW]; exact env_new n w h h2
 have HB : Hid (Below w.heap.size w W) := by rw [hW]; exact below_alloc2 _ _ _
 have HS : Hid (W.heap.size = w.heap.size + 2) := by show _ = _; rw [hW]; simp
 unfold nrow at hW
 have HW : Hid _ := hW
 clear hW
 go_enter Tryz.func53, Tryz.ntmps53
 go_wp2
 rw [← HW.out]
 clear HW hmk
 go_loopw [16] (fun s wr => ∃ (k : Nat), k ≤ n ∧ s = .int .i64 k ∧ EnvAt wr (w.heap.size + 1) w.heap.size E0 (nv n k) ∧ Below w.heap.size w wr ∧ Hid (wr.heap.size = w.heap.size + 2)) (fun s _ => n - (intOf s).toNat)
 case atStart => exact ⟨0, by omega, rfl, HE.out, HB.out, HS⟩
 case round =>
  clear HE HB HS
  obtain ⟨k, hk, rfl, hE, hB, HS⟩ := hrel
  have HE : Hid _ := hE
  have HB : Hid _ := hB
  by_cases hlt : k < n
  ·have c0 := hE.sl
   rw [nv_len n k hk] at c0
   have c1 := hE.vcell (nv_get n k hlt)
   have f1 := hE.freeg k
   clear hE hB
   have hki : (k : Int) < (n : Int) := by omega
   go_wp2
   go_roundw
   case rel =>
    refine ⟨k + 1, by omega, by go_num, ?_, HB.out.trans ((Upd.setCell w.heap.size k wr _).below (Nat.le_refl _) HB.out.size), ?_⟩
    ·have := HE.out.setV k (-1)
     rwa [nv_set n k hlt] at this
    ·show _ = _
     rw [← HS.out]
     simp [World.setCell]
   case measure => simp [intOf]; omega
  ·obtain rfl : k = n := by omega
   clear hE hB
   go_wp2
   go_ret
   refine ⟨rfl, ?_, HB.out, HS.out⟩
   rw [← nv_all]
   exact HE.out
theorem create_at (b g : Nat) (E : ES) (V : List Int) (n : Int) (w : World) (h : EnvAt w b g E V) :
  Calls Tryz.prog 51 #[.pointer (some ⟨b, 0, none⟩), .int .i64 n] w fun e w' => e = .returned (.int .i64 (createR E n)) ∧ EnvAt w' b g (createT E n) V ∧ UpdP (Mine b g) w w' := by
 have hne := ptr_eq b
 have hI := is_at b g E V n w h
 have HE : Hid _ := h
 cases hn : isE n with
 | false =>
  have HR : Hid (createR E n = 101) := by show _ = _; simp [createR, hn]
  have HT : Hid (createT E n = E) := by show _ = _; simp [createT, hn]
  have hc : n < 0 ∨ 12 ≤ n := by simp [isE] at hn; omega
  clear h hI hn
  rcases hc with hc | hc
  ·have g0 : decide (n < 0) = true := decide_eq_true hc
   go_enter Tryz.func51, Tryz.ntmps51
   go_wp2
   go_ret
   exact ⟨by rw [HR.out]; rfl, by rw [HT.out]; exact HE.out, UpdP.refl _ _⟩
  ·have g0 : decide (n < 0) = false := decide_eq_false (by omega)
   have g1 : decide (12 ≤ n) = true := decide_eq_true hc
   go_enter Tryz.func51, Tryz.ntmps51
   go_wp2
   go_ret
   exact ⟨by rw [HR.out]; rfl, by rw [HT.out]; exact HE.out, UpdP.refl _ _⟩
 | true =>
  obtain ⟨m, rfl, hm⟩ := isE_nat hn
  have g0 : decide ((m : Int) < 0) = false := decide_eq_false (by omega)
  have g1 : decide (12 ≤ (m : Int)) = false := decide_eq_false (by omega)
  rw [isB_of hm] at hI
  have c0 := h.cell (j := m) (k := 0) (o := m * 3) hm (by omega) (by omega)
  have f0 := h.freeb (m * 3)
  dsimp only [Ev.get] at c0
  cases hl : (E m).lives with
  | true =>
   have HR : Hid (createR E m = 105) := by show _ = _; simp [createR, hn, hl]
   have HT : Hid (createT E m = E) := by show _ = _; simp [createT, hl]
   rw [hl] at hI
   clear h hn hl
   go_enter Tryz.func51, Tryz.ntmps51
   go_wp2_with (go_at_call 24; refine hI.mono ?_; rintro e w1 ⟨rfl, hw⟩; rw [hw]; clear hw w1)
   go_ret
   exact ⟨by rw [HR.out]; rfl, by rw [HT.out]; exact HE.out, UpdP.refl _ _⟩
  | false =>
   have HR : Hid (createR E m = 0) := by show _ = _; simp [createR, hn, hl]
   have HT : Hid (createT E m = E.set m ⟨true, (E m).waits, (E m).addr⟩) := by show _ = _; simp [createT, hn, hl]
   rw [hl] at hI c0
   clear h hn hl
   go_enter Tryz.func51, Tryz.ntmps51
   go_wp2_with (go_at_call 24; refine hI.mono ?_; rintro e w1 ⟨rfl, hw⟩; rw [hw]; clear hw w1)
   go_ret
   refine ⟨by rw [HR.out]; rfl, ?_, mine_b b g _ _ _⟩
   rw [HT.out]
   refine HE.out.set (j := m) (k := 0) hm (by omega) (by omega) _ _ rfl ?_
   intro i hi hne
   obtain rfl | rfl : i = 1 ∨ i = 2 := by omega
   all_goals rfl
end En
end Go.Proofs.YtbhpafgoofkkmaaGreatDoor
namespace Go.Proofs.YtbhpafgoofkkmaaGreatDoor
open Go.RowKit
namespace En
end En
end Go.Proofs.YtbhpafgoofkkmaaGreatDoor
namespace Go.Proofs.YtbhpafgoofkkmaaGreatDoor
open Go.RowKit
namespace En
theorem ownsRow_at {w w' : World} {base : Nat} {e : TypeId} {size : Nat} {v : Value} {n : Nat} {xs : List Value} (h : w.ownsRow base e size v n xs) (hb : ∀ g, v.ownBlock = some g → w'.heap[g]? = w.heap[g]?) : w'.ownsRow base e size v n xs := by
 obtain ⟨h1, h2⟩ := h
 refine ⟨h1, ?_⟩
 rcases h2 with h2 | ⟨g, cap, cur, hv, hg, hh, r⟩
 ·exact Or.inl h2
 ·exact Or.inr ⟨g, cap, cur, hv, hg, (hb g (by rw [hv]; rfl)).trans hh, r⟩
theorem below_grown {B : Nat} {w w' : World} {v : Value} (h : w.grownBy w' v.ownBlock) (hs : B ≤ w.heap.size) (hv : ∀ g, v.ownBlock = some g → B ≤ g) : Below B w w' :=
 ⟨h.os, h.tape, h.output, h.size, fun k hk => h.block k (by omega) (fun e => by have := hv k e.symm; omega)⟩
theorem ownsRow_low {w : World} {base : Nat} {e : TypeId} {size : Nat} {v : Value} {n : Nat} {xs : List Value} (h : w.ownsRow base e size v n xs) : ∀ g, v.ownBlock = some g → base ≤ g := by
 intro g hg
 rcases h.2 with ⟨e2, _⟩ | ⟨g', cap, cur, e2, hb, _⟩
 ·rw [e2] at hg; simp [Value.ownBlock] at hg
 ·rw [e2] at hg; simp [Value.ownBlock] at hg; omega
def IRow (w : World) (a0 : Option Addr) (D : List Int) : Prop := ∀ (j : Nat) (x : Int), D[j]? = some x → ∃ gb off, a0 = some ⟨gb, off, none⟩ ∧ w.cell? ⟨gb, off + j, none⟩ = some (.int .i64 x)
end En
end Go.Proofs.YtbhpafgoofkkmaaGreatDoor
