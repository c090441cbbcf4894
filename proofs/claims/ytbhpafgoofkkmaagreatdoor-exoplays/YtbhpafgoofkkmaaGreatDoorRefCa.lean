import Derived.Test.YtbhpafgoofkkmaaGreatDoorCapAll
import Derived.Deep.RegionLaw
import Derived.Deep.AppendLies
import Derived.BigRegion
import Derived.Deep.RegionWith
set_option linter.all false
namespace Go.Proofs.YtbhpafgoofkkmaaGreatDoor
open Go.RowKit
namespace Ca
structure Ce where
 no : Int
 ob : Int
 env : Int
 slot : Int
 x : Cp
abbrev ceRow (c : Ce) : List Value := [.int .i64 c.no, .int .i64 c.ob, .int .i64 c.env, .int .i64 c.slot, .int .i64 c.x.kind, .int .i64 c.x.id, .int .i64 c.x.len, .int .i64 c.x.rights]
def ccells (L : List Ce) : List Value := L.flatMap ceRow
theorem ccells_len : ∀ (L : List Ce), (ccells L).length = L.length * 8
 | [] => rfl
 | c :: L => by
  have e : ccells (c :: L) = ceRow c ++ ccells L := rfl
  rw [e, List.length_append, ccells_len L, List.length_cons]
  simp
  omega
theorem ccells_app (L M : List Ce) : ccells (L ++ M) = ccells L ++ ccells M := by simp [ccells]
theorem ccells_get : ∀ (L : List Ce) (i : Nat) (c : Ce), L[i]? = some c → ∀ k, k < 8 → (ccells L)[i * 8 + k]? = (ceRow c)[k]?
 | [], i, c, h => by simp at h
 | d :: L, i, c, h => by
  intro k hk
  have e : ccells (d :: L) = ceRow d ++ ccells L := rfl
  rw [e]
  cases i with
  | zero =>
   simp at h
   subst h
   rw [Nat.zero_mul, Nat.zero_add, List.getElem?_append_left (by simpa using hk)]
  | succ i =>
   simp at h
   rw [List.getElem?_append_right (by simp; omega)]
   have := ccells_get L i c h k hk
   rw [← this]
   congr 1
   simp
   omega
structure RefAt (M : Nat) (w : World) (c : Nat) (sv : Value) (L : List Ce) (last : Int) : Prop where
 head : w.heap[c]? = some (.cells #[sv, .int .i64 last] 104)
 own : w.ownsRow M 107 8 sv L.length (ccells L)
 nil : L = [] → sv = .slice none 0 0
section
variable {M : Nat} {w w' : World} {c : Nat} {sv : Value} {L : List Ce} {last : Int}
theorem RefAt.c0 (h : RefAt M w c sv L last) : w.cell? ⟨c, 0, none⟩ = some sv := by rw [cell_of_heap h.head]; rfl
theorem RefAt.c1 (h : RefAt M w c sv L last) : w.cell? ⟨c, 1, none⟩ = some (.int .i64 last) := by rw [cell_of_heap h.head]; rfl
theorem RefAt.lt (h : RefAt M w c sv L last) : c < w.heap.size := lt_of_heap h.head
theorem RefAt.below (h : RefAt M w c sv L last) (hb : Below w.heap.size w w') : RefAt M w' c sv L last :=
 ⟨(hb.block _ h.lt).trans h.head, ownsRow_below h.own hb, h.nil⟩
theorem RefAt.form (h : RefAt M w c sv L last) : ∃ a cap, sv = .slice a L.length cap := by
 rcases h.own.2 with ⟨e2, e3⟩ | ⟨g, cap, cur, e2, _⟩
 ·exact ⟨none, 0, by rw [e2, e3]⟩
 ·exact ⟨_, _, e2⟩
theorem RefAt.at (h : RefAt M w c sv L last) {i : Nat} {d : Ce} (hd : L[i]? = some d) : ∃ g cap, sv = .slice (some ⟨g, 0, none⟩) L.length cap ∧
  ((w.cell? ⟨g, i * 8, none⟩ = some (.int .i64 d.no) ∧ w.cell? ⟨g, i * 8 + 1, none⟩ = some (.int .i64 d.ob) ∧ w.cell? ⟨g, i * 8 + 2, none⟩ = some (.int .i64 d.env) ∧ w.cell? ⟨g, i * 8 + 3, none⟩ = some (.int .i64 d.slot)) ∧
  w.cell? ⟨g, i * 8 + 4, none⟩ = some (.int .i64 d.x.kind) ∧ w.cell? ⟨g, i * 8 + 5, none⟩ = some (.int .i64 d.x.id) ∧ w.cell? ⟨g, i * 8 + 6, none⟩ = some (.int .i64 d.x.len) ∧ w.cell? ⟨g, i * 8 + 7, none⟩ = some (.int .i64 d.x.rights)) := by
 have hlen : i < L.length := (List.getElem?_eq_some_iff.1 hd).1
 rcases h.own.2 with ⟨_, e3⟩ | ⟨g, cap, cur, e2, _, hh, _, _, _, ht⟩
 ·omega
 ·refine ⟨g, cap, e2, ?_⟩
  have key : ∀ k, k < 8 → w.cell? ⟨g, i * 8 + k, none⟩ = (ceRow d)[k]? := by
   intro k hk
   have h1 := ccells_get L i d hd k hk
   rw [← ht, List.getElem?_take_of_lt (by omega)] at h1
   rw [cell_of_heap hh, ← h1]
   simp
  exact ⟨⟨key 0 (by omega), key 1 (by omega), key 2 (by omega), key 3 (by omega)⟩, key 4 (by omega), key 5 (by omega), key 6 (by omega), key 7 (by omega)⟩
end
theorem renv_at (n : Int) (w : World) :
  Calls Tryz.prog 59 #[.int .i64 n] w fun e w' => e = .returned (.bool (isE n)) ∧ w' = w := by
 go_enter Tryz.func59, Tryz.ntmps59
 go_wp2
 all_goals
  go_ret
  refine ⟨ret_bool ?_, rfl⟩
  simp [isE]
  try omega
theorem rmay_at (x : Cp) (w : World) :
  Calls Tryz.prog 181 #[.agg (cpRow x)] w fun e w' => e = .returned (.bool (mayB x)) ∧ Below w.heap.size w w' := by
 obtain ⟨k, i, l, r⟩ := x
 dsimp only [cpRow]
 go_enter Tryz.func181, Tryz.ntmps181
 go_wp2
 all_goals
  go_ret
  refine ⟨ret_bool ?_, below_alloc _ _⟩
  simp_all [mayB, longOk, areR]
  try omega
theorem rcovers_at (x : Cp) (K I q : Int) (w : World) (hx : Sane x) (hI : I64 I) :
  Calls Tryz.prog 49 #[.agg (cpRow x), .int .i64 K, .int .i64 I, .int .i64 q] w fun e w' => e = .returned (.bool (hitB x K I q)) ∧ Below w.heap.size w w' := by
 obtain ⟨k, i, l, r⟩ := x
 obtain ⟨h1, h2, h3, h4, h5, h6, h7, h8⟩ := hx
 obtain ⟨i1, i2⟩ := hI
 dsimp only [cpRow] at *
 go_enter Tryz.func49, Tryz.ntmps49
 go_wp2
 all_goals
  go_ret
  refine ⟨ret_bool ?_, below_alloc _ _⟩
  simp_all [hitB, coversB, among]
  try omega
def atB (n s : Int) (d : Ce) : Bool := d.env == n && d.slot == s
def rfind (L : List Ce) (n s : Int) : Nat := L.findIdx (atB n s)
def rfindI (L : List Ce) (n s : Int) : Int := if rfind L n s < L.length then (rfind L n s : Int) else -1
theorem rfind_hit {L : List Ce} {n s : Int} {k : Nat} {d : Ce} (hk : L[k]? = some d) (h : atB n s d = true) (hb : ∀ (j : Nat) (x : Ce), j < k → L[j]? = some x → atB n s x = false) : rfindI L n s = (k : Int) := by
 have hkl : k < L.length := (List.getElem?_eq_some_iff.1 hk).1
 have hf : rfind L n s = k := by
  unfold rfind
  rw [List.findIdx_eq hkl]
  have e : L[k] = d := by
   have := List.getElem?_eq_getElem hkl
   rw [hk] at this
   cases this
   rfl
  refine ⟨by rw [e]; exact h, fun j hj => ?_⟩
  exact hb j _ hj (List.getElem?_eq_getElem (by omega))
 unfold rfindI
 rw [hf, if_pos hkl]
theorem rfind_miss {L : List Ce} {n s : Int} (hb : ∀ (j : Nat) (x : Ce), j < L.length → L[j]? = some x → atB n s x = false) : rfindI L n s = -1 := by
 have hf : rfind L n s = L.length := by
  unfold rfind
  rw [List.findIdx_eq_length]
  intro x hx
  obtain ⟨j, hj⟩ := List.mem_iff_getElem?.1 hx
  rw [hb j x (List.getElem?_eq_some_iff.1 hj).1 hj]
 unfold rfindI
 rw [hf, if_neg (by omega)]
set_option maxHeartbeats 1000000 in
theorem find_at (M c : Nat) (sv : Value) (L : List Ce) (last n s : Int) (w : World) (h : RefAt M w c sv L last) (hl : L.length ≤ 1000) :
  Calls Tryz.prog 106 #[.pointer (some ⟨c, 0, none⟩), .int .i64 n, .int .i64 s] w fun e w' => e = .returned (.int .i64 (rfindI L n s)) ∧ w' = w := by
 obtain ⟨a, cap, hsv⟩ := h.form
 have c0 := h.c0
 have HH : Hid _ := h
 clear h
 subst hsv
 go_enter Tryz.func106, Tryz.ntmps106
 go_wp2
 go_loopw [7] (fun i wr => ∃ (k : Nat), k ≤ L.length ∧ i = .int .i64 k ∧ Hid (∀ (j : Nat) (x : Ce), j < k → L[j]? = some x → atB n s x = false) ∧ wr = w) (fun i _ => L.length - (intOf i).toNat)
 case atStart => exact ⟨0, by omega, rfl, (show Hid _ from fun j x hj => absurd hj (Nat.not_lt_zero _)), rfl⟩
 case round =>
  obtain ⟨k, hk, rfl, HN, hwr⟩ := hrel
  subst hwr
  by_cases hlt : k < L.length
  ·obtain ⟨d, hd⟩ : ∃ d, L[k]? = some d := ⟨L[k], List.getElem?_eq_getElem hlt⟩
   obtain ⟨g, cap', e, ⟨⟨d0, d1, d2, d3⟩, d4⟩⟩ := HH.out.at hd
   simp only [Value.slice.injEq] at e
   obtain ⟨rfl, _, rfl⟩ := e
   have HY : Hid (atB n s d = true → rfindI L n s = (k : Int)) := fun h => rfind_hit hd h HN.out
   have HM : Hid (atB n s d = false → ∀ (j : Nat) (x : Ce), j < k + 1 → L[j]? = some x → atB n s x = false) := by
    intro hf j x hj hx
    by_cases e : j = k
    ·rw [e, hd] at hx
     cases hx
     exact hf
    ·exact HN.out j x (by omega) hx
   clear hd d4 HN
   obtain ⟨no, ob, env, slot, x⟩ := d
   dsimp only [atB] at *
   by_cases he : env = n
   ·subst he
    by_cases hs : slot = s
    ·subst hs
     have HF := HY.out (by simp)
     clear HY HM
     go_wp2
     go_ret
     exact ⟨by rw [HF]; rfl, rfl⟩
    ·have HF : Hid _ := HM.out (by simp [hs])
     have hse : (slot == s) = false := by simp [hs]
     clear HY HM
     go_wp2
     go_roundw
     case rel => exact ⟨k + 1, by omega, by go_num, HF, by first | rfl | trivial⟩
     case measure => simp [intOf]; omega
   ·have HF : Hid _ := HM.out (by simp [he])
    have hee : (env == n) = false := by simp [he]
    clear HY HM
    go_wp2
    go_roundw
    case rel => exact ⟨k + 1, by omega, by go_num, HF, by first | rfl | trivial⟩
    case measure => simp [intOf]; omega
  ·obtain rfl : k = L.length := by omega
   have HF : Hid (rfindI L n s = -1) := rfind_miss HN.out
   go_wp2
   go_ret
   exact ⟨by rw [HF.out]; rfl, rfl⟩
def rfree (L : List Ce) (n : Int) : Int := if (List.range 64).findIdx (fun s => decide (rfindI L n ((s + 1 : Nat) : Int) < 0)) < 64 then (((List.range 64).findIdx (fun s => decide (rfindI L n ((s + 1 : Nat) : Int) < 0)) + 1 : Nat) : Int) else 0
theorem rfree_hit {L : List Ce} {n : Int} {k : Nat} (hk : k < 64) (h : rfindI L n ((k + 1 : Nat) : Int) < 0) (hb : ∀ j, j < k → 0 ≤ rfindI L n ((j + 1 : Nat) : Int)) : rfree L n = ((k + 1 : Nat) : Int) := by
 have hf : (List.range 64).findIdx (fun s => decide (rfindI L n ((s + 1 : Nat) : Int) < 0)) = k := by
  rw [List.findIdx_eq (by simpa using hk)]
  refine ⟨by simpa using h, fun j hj => ?_⟩
  simpa using hb j hj
 unfold rfree
 rw [hf, if_pos hk]
theorem rfree_miss {L : List Ce} {n : Int} (hb : ∀ j, j < 64 → 0 ≤ rfindI L n ((j + 1 : Nat) : Int)) : rfree L n = 0 := by
 have hf : (List.range 64).findIdx (fun s => decide (rfindI L n ((s + 1 : Nat) : Int) < 0)) = (List.range 64).length := by
  rw [List.findIdx_eq_length]
  intro s hs
  rw [List.mem_range] at hs
  simpa using hb s hs
 unfold rfree
 rw [hf, if_neg (by simp)]
theorem free_at (M c : Nat) (sv : Value) (L : List Ce) (last n : Int) (w : World) (h : RefAt M w c sv L last) (hl : L.length ≤ 1000) :
  Calls Tryz.prog 182 #[.pointer (some ⟨c, 0, none⟩), .int .i64 n] w fun e w' => e = .returned (.int .i64 (rfree L n)) ∧ w' = w := by
 have HH : Hid _ := h
 clear h
 go_enter Tryz.func182, Tryz.ntmps182
 go_wp2
 go_loopw [5] (fun i wr => ∃ (k : Nat), k ≤ 64 ∧ i = .int .i64 (k + 1 : Nat) ∧ Hid (∀ j, j < k → 0 ≤ rfindI L n ((j + 1 : Nat) : Int)) ∧ wr = w) (fun i _ => 65 - (intOf i).toNat)
 case atStart => exact ⟨0, by omega, rfl, (show Hid _ from fun j hj => absurd hj (Nat.not_lt_zero _)), rfl⟩
 case round =>
  obtain ⟨k, hk, rfl, HN, hwr⟩ := hrel
  subst hwr
  by_cases hlt : k < 64
  ·have hf := find_at M c sv L last n (k + 1 : Nat) wr HH.out hl
   have HY : Hid (rfindI L n ((k + 1 : Nat) : Int) < 0 → rfree L n = ((k + 1 : Nat) : Int)) := fun h => rfree_hit hlt h HN.out
   have HM : Hid (0 ≤ rfindI L n ((k + 1 : Nat) : Int) → ∀ j, j < k + 1 → 0 ≤ rfindI L n ((j + 1 : Nat) : Int)) := by
    intro h j hj
    by_cases e : j = k
    ·rw [e]; exact h
    ·exact HN.out j (by omega)
   clear HN
   generalize rfindI L n ((k + 1 : Nat) : Int) = F at *
   by_cases hF : F < 0
   ·have HF := HY.out hF
    clear HY HM
    go_wp2_with (go_at_call 106; refine hf.mono ?_; rintro e w1 ⟨rfl, hw1⟩; rw [hw1]; clear hw1 w1)
    go_ret
    exact ⟨by rw [HF]; rfl, rfl⟩
   ·have HF : Hid _ := HM.out (by omega)
    clear HY HM
    go_wp2_with (go_at_call 106; refine hf.mono ?_; rintro e w1 ⟨rfl, hw1⟩; rw [hw1]; clear hw1 w1)
    go_roundw
    case rel => exact ⟨k + 1, by omega, by go_num, HF, by first | rfl | trivial⟩
    case measure => simp [intOf]; omega
  ·obtain rfl : k = 64 := by omega
   have HF : Hid (rfree L n = 0) := rfree_miss HN.out
   go_wp2
   go_ret
   exact ⟨by rw [HF.out]; rfl, rfl⟩
end Ca
end Go.Proofs.YtbhpafgoofkkmaaGreatDoor
namespace Go.Proofs.YtbhpafgoofkkmaaGreatDoor
open Go.RowKit
namespace Ca
theorem rfindI_range (L : List Ce) (n s : Int) : rfindI L n s = -1 ∨ ∃ (k : Nat) (d : Ce), rfindI L n s = (k : Int) ∧ L[k]? = some d ∧ atB n s d = true := by
 unfold rfindI
 split
 ·rename_i h
  refine Or.inr ⟨rfind L n s, L[rfind L n s], rfl, List.getElem?_eq_getElem h, ?_⟩
  exact List.findIdx_getElem (w := h)
 ·exact Or.inl rfl
def rgetX (L : List Ce) (n s : Int) : Cp := match L[rfind L n s]? with
 | none => Cp.no
 | some d => d.x
theorem rget_at (M c : Nat) (sv : Value) (L : List Ce) (last n s : Int) (w : World) (h : RefAt M w c sv L last) (hl : L.length ≤ 1000) :
  Calls Tryz.prog 42 #[.pointer (some ⟨c, 0, none⟩), .int .i64 n, .int .i64 s] w fun e w' => e = .returned (.tuple #[.agg (cpRow (rgetX L n s)), .bool (decide (0 ≤ rfindI L n s))]) ∧ Below w.heap.size w w' := by
 obtain ⟨W, hW⟩ : ∃ W, W = w.alloc (.cells #[.int .i64 0, .int .i64 0, .int .i64 0, .int .i64 0] 97) := ⟨_, rfl⟩
 have hbW : Below w.heap.size w W := by rw [hW]; exact below_alloc _ _
 have hr := h.below hbW
 have hf := find_at M c sv L last n s W hr hl
 have hlt := h.lt
 have hnew : W.heap[w.heap.size]? = some (.cells #[.int .i64 0, .int .i64 0, .int .i64 0, .int .i64 0] 97) := by rw [hW]; exact heap_alloc_new _ _
 have HB : Hid _ := hbW
 rcases rfindI_range L n s with e | ⟨k, d, e, hd, hat⟩
 ·have hx : rgetX L n s = Cp.no := by
   have hlen : rfind L n s = L.length := by
    unfold rfindI at e
    split at e
    ·omega
    ·rename_i h1
     have := List.findIdx_le_length (xs := L) (p := atB n s)
     unfold rfind at h1 ⊢
     omega
   unfold rgetX
   rw [hlen, List.getElem?_eq_none (Nat.le_refl _)]
  rw [hx, e]
  rw [e] at hf
  clear hx e hr hnew h
  go_enter Tryz.func42, Tryz.ntmps42
  go_wp2_with fail
  rw [← hW]
  refine hf.mono ?_
  rintro e w1 ⟨rfl, hw1⟩
  rw [hw1, hW]
  clear hw1 w1
  go_wp2
  refine bodyPost_ret (v := .tuple #[.agg (cpRow Cp.no), .bool false]) ?_ rfl ⟨rfl, ?_⟩
  ·rw [results_cell_tmp rfl]
   go_simp
  ·exact below_alloc _ _
 ·have hx : rgetX L n s = d.x := by
   have hkf : rfind L n s = k := by
    unfold rfindI at e
    split at e
    ·omega
    ·omega
   unfold rgetX
   rw [hkf, hd]
  rw [hx, e]
  rw [e] at hf
  obtain ⟨g, cap, hsv, ⟨_, d4, d5, d6, d7⟩⟩ := hr.at hd
  have c0 := hr.c0
  have hkl : k < L.length := (List.getElem?_eq_some_iff.1 hd).1
  have hki : (k : Int) < (L.length : Int) := by omega
  subst hsv
  have f0 : W.frozen? ⟨w.heap.size, 0, none⟩ = false := frozen_of_heap hnew
  have f1 : W.frozen? ⟨w.heap.size, 1, none⟩ = false := frozen_of_heap hnew
  have f2 : W.frozen? ⟨w.heap.size, 2, none⟩ = false := frozen_of_heap hnew
  have f3 : W.frozen? ⟨w.heap.size, 3, none⟩ = false := frozen_of_heap hnew
  clear hx e hr hd hat h
  generalize L.length = len at *
  obtain ⟨no, ob, env, slot, ⟨x0, x1, x2, x3⟩⟩ := d
  dsimp only [cpRow] at *
  rw [hW] at d4 d5 d6 d7 c0
  clear hnew f0 f1 f2 f3
  go_enter Tryz.func42, Tryz.ntmps42
  go_wp2_with fail
  rw [← hW]
  refine hf.mono ?_
  rintro e w1 ⟨rfl, hw1⟩
  rw [hw1, hW]
  clear hw1 w1
  go_wp2
  refine bodyPost_ret (v := .tuple #[.agg #[.int .i64 x0, .int .i64 x1, .int .i64 x2, .int .i64 x3], .bool true]) ?_ rfl ⟨by simp, ?_⟩
  ·rw [results_cell_tmp rfl]
   go_simp
  ·exact below_alloc _ _
def rhas (L : List Ce) (n K I q : Int) : Bool := L.any (fun d => d.env == n && hitB d.x K I q)
def RSanes (L : List Ce) : Prop := ∀ d ∈ L, Sane d.x
set_option maxHeartbeats 1000000 in
theorem rhas_at (M c : Nat) (sv : Value) (L : List Ce) (last n K I q : Int) (w : World) (h : RefAt M w c sv L last) (hl : L.length ≤ 1000) (hS : RSanes L) (hI : I64 I) :
  Calls Tryz.prog 19 #[.pointer (some ⟨c, 0, none⟩), .int .i64 n, .int .i64 K, .int .i64 I, .int .i64 q] w fun e w' => e = .returned (.bool (rhas L n K I q)) ∧ Below w.heap.size w w' := by
 obtain ⟨a, cap, hsv⟩ := h.form
 have HH : Hid _ := h
 have HS : Hid (RSanes L) := hS
 have HI : Hid (I64 I) := hI
 clear h hS hI
 subst hsv
 go_enter Tryz.func19, Tryz.ntmps19
 go_wp2
 go_loopw [11] (fun i wr => ∃ (k : Nat), k ≤ L.length ∧ i = .int .i64 k ∧ Hid (∀ (j : Nat) (x : Ce), j < k → L[j]? = some x → (x.env == n && hitB x.x K I q) = false) ∧ Below w.heap.size w wr) (fun i _ => L.length - (intOf i).toNat)
 case atStart => exact ⟨0, by omega, rfl, (show Hid _ from fun j x hj => absurd hj (Nat.not_lt_zero _)), Below.refl _ _⟩
 case round =>
  obtain ⟨k, hk, rfl, HN, hb⟩ := hrel
  have hR := HH.out.below hb
  have c0 := hR.c0
  by_cases hlt : k < L.length
  ·obtain ⟨d, hd⟩ : ∃ d, L[k]? = some d := ⟨L[k], List.getElem?_eq_getElem hlt⟩
   obtain ⟨g, cap', e, ⟨⟨d0, d1, d2, d3⟩, d4, d5, d6, d7⟩⟩ := hR.at hd
   simp only [Value.slice.injEq] at e
   obtain ⟨rfl, _, rfl⟩ := e
   have HY : Hid ((d.env == n && hitB d.x K I q) = true → rhas L n K I q = true) := by
    intro hh
    unfold rhas
    rw [List.any_eq_true]
    exact ⟨d, List.mem_of_getElem? hd, hh⟩
   have HM : Hid ((d.env == n && hitB d.x K I q) = false → ∀ (j : Nat) (x : Ce), j < k + 1 → L[j]? = some x → (x.env == n && hitB x.x K I q) = false) := by
    intro hf j x hj hx
    by_cases e : j = k
    ·rw [e, hd] at hx
     cases hx
     exact hf
    ·exact HN.out j x (by omega) hx
   have hcall := rcovers_at d.x K I q wr (HS.out d (List.mem_of_getElem? hd)) HI.out
   clear hd HN hR
   obtain ⟨no, ob, env, slot, ⟨x0, x1, x2, x3⟩⟩ := d
   dsimp only [cpRow] at *
   generalize hitB ⟨x0, x1, x2, x3⟩ K I q = B at *
   have hik : (k : Int) < (L.length : Int) := by omega
   by_cases he : env = n
   ·subst he
    cases B with
    | true =>
     have HF := HY.out (by simp)
     clear HY HM
     go_wp2_with (go_at_call 49; refine hcall.mono ?_; rintro e w1 ⟨rfl, hb1⟩)
     go_ret
     exact ⟨by rw [HF]; rfl, hb.trans (hb1.mono hb.size)⟩
    | false =>
     have HF : Hid _ := HM.out (by simp)
     clear HY HM
     go_wp2_with (go_at_call 49; refine hcall.mono ?_; rintro e w1 ⟨rfl, hb1⟩)
     go_roundw
     case rel => exact ⟨k + 1, by omega, by go_num, HF, hb.trans (hb1.mono hb.size)⟩
     case measure => simp [intOf]; omega
   ·have HF : Hid _ := HM.out (by simp [he])
    have hee : (env == n) = false := by simp [he]
    clear HY HM hcall
    go_wp2
    go_roundw
    case rel => exact ⟨k + 1, by omega, by go_num, HF, hb⟩
    case measure => simp [intOf]; omega
  ·obtain rfl : k = L.length := by omega
   have HF : Hid (rhas L n K I q = false) := by
    show rhas L n K I q = false
    unfold rhas
    rw [List.any_eq_false]
    intro x hx
    obtain ⟨j, hj⟩ := List.mem_iff_getElem?.1 hx
    rw [HN.out j x (List.getElem?_eq_some_iff.1 hj).1 hj]
    simp
   clear hR
   go_wp2
   go_ret
   exact ⟨by rw [HF.out]; rfl, hb⟩
end Ca
end Go.Proofs.YtbhpafgoofkkmaaGreatDoor
namespace Go.Proofs.YtbhpafgoofkkmaaGreatDoor
open Go.RowKit
namespace Ca
theorem step_append_eq {P : Program} {ops : Array Oper} {o : Oper} {a : Act} {w w' : World} {K : Act → World → Prop} {Q : Exit → Act → World → Prop} {E : Prop} (hgd : o.guard = none) (s x : Operand) (t : TypeId)
  (ho : o.op = .call { callee := .builtin .append, args := #[s, x], argTypes := #[t, t] }) (sv xv r : Value) (hs : a.eval s = sv) (hx : a.eval x = xv) (hr : ∀ ty, (Builtin.append_ #[t, t] ty #[sv, xv]).run P w = .ok r w') (hK : K (a.put o.dst r) w') :
  if Region.wanted o (yielded ops a.tmps) = true then Oper.wp P o a w K Q else E := by
 have hw : Region.wanted o (yielded ops a.tmps) = true := by simp [Region.wanted, hgd]
 rw [if_pos hw]
 unfold Oper.wp execOp
 simp only [ho, resolve, invoke, builtin, Sem.run_bind, Sem.run_pure, Result.andThen_ok, List.map_toArray, List.map_cons, List.map_nil, hs, hx, hr]
 exact hK
theorem run_append_none {P : Program} (w : World) (t e : TypeId) (i : TypeInfo) (ht : P.underlying t = some (.slice e)) (hi : P.info? e = some i) (b : Option Addr) (cap : Nat) (ty : TypeId) :
  (Builtin.append_ #[t, t] ty #[.slice none 0 0, .slice b 0 cap]).run P w = .ok (.slice none 0 0) w := by
 cases b <;> simp [Builtin.append_, run_underlying ht, sizeOf, typeInfo, hi, Builtin.lenOf, Builtin.firstCells, loadCells, loadCellsFrom]
theorem ceInfo : (Tryz.prog.info? 107).map (fun i => (i.zero, i.size, i.bytes)) = some (some (.agg #[.int .i64 0, .int .i64 0, .int .i64 0, .int .i64 0, .int .i64 0, .int .i64 0, .int .i64 0, .int .i64 0]), 8, 64) := by kernel_rfl
theorem ccells_one (L : List Ce) : ∀ u ∈ ccells L, u.oneCell' = true := by
 intro u hu
 simp only [ccells, List.mem_flatMap] at hu
 obtain ⟨d, _, hd⟩ := hu
 simp at hd
 rcases hd with rfl | rfl | rfl | rfl | rfl | rfl | rfl | rfl <;> rfl
theorem RefAt.apart {M : Nat} {w : World} {c : Nat} {sv : Value} {L : List Ce} {last : Int} (h : RefAt M w c sv L last) : sv.ownBlock ≠ some c := by
 intro e
 rcases h.own.2 with ⟨e2, _⟩ | ⟨g, cap, cur, e2, _, hh, _⟩
 ·rw [e2] at e; simp [Value.ownBlock] at e
 ·rw [e2] at e
  simp [Value.ownBlock] at e
  subst e
  rw [h.head] at hh
  simp at hh
theorem RefAt.put1 {M : Nat} {w : World} {c : Nat} {sv : Value} {L : List Ce} {last : Int} (h : RefAt M w c sv L last) (q : Int) : RefAt M (w.setCell ⟨c, 1, none⟩ (.int .i64 q)) c sv L q := by
 refine ⟨?_, ownsRow_at h.own (fun g hg => Below.heap_setCell _ _ _ _ (fun e => h.apart (by have e' : g = c := e; rw [← e']; exact hg))), h.nil⟩
 rw [setCell_eq_setRow w c 1 _ _ _ _ h.head, setRow_heap w c _ _ _ _ h.head]
 rfl
theorem head0 {w : World} {c : Nat} {sv u : Value} {t : TypeId} (h : w.heap[c]? = some (.cells #[sv, u] t)) (v : Value) : (w.setCell ⟨c, 0, none⟩ v).heap[c]? = some (.cells #[v, u] t) := by
 rw [setCell_eq_setRow w c 0 _ _ _ _ h, setRow_heap w c _ _ _ _ h]
 rfl
theorem own_news8 {w : World} {base : Nat} {e : TypeId} {g n cap : Nat} {xs : List Value} (h : w.ownsRow base e 8 (.slice (some ⟨g, 0, none⟩) n cap) n xs) : ∀ j u, xs[j]? = some u → w.cell? ((⟨g, 0, none⟩ : Addr).add j) = some u := by
 intro j u hj
 rcases h.2 with ⟨e2, _⟩ | ⟨g', cap', cur, e2, _, hh, _, _, _, ht⟩
 ·cases e2
 ·simp only [Value.slice.injEq, Option.some.injEq, Addr.mk.injEq] at e2
  obtain ⟨⟨rfl, _⟩, _⟩ := e2
  have ea : (⟨g, 0, none⟩ : Addr).add j = ⟨g, 0 + j, none⟩ := by unfold Addr.add; split <;> simp_all
  rw [ea, cell_of_heap hh, Nat.zero_add]
  rw [← ht] at hj
  have hl : j < n * 8 := by
   rcases Nat.lt_or_ge j (n * 8) with hl | hl
   ·exact hl
   ·rw [List.getElem?_take_eq_none hl] at hj
    cases hj
  rw [List.getElem?_take_of_lt hl] at hj
  simpa using hj
theorem rput_full (M c : Nat) (sv : Value) (L : List Ce) (last n ob : Int) (x : Cp) (w : World) (h : RefAt M w c sv L last) (hl : L.length ≤ 1000) (hf : rfree L n = 0) :
  Calls Tryz.prog 147 #[.pointer (some ⟨c, 0, none⟩), .int .i64 n, .int .i64 ob, .agg (cpRow x)] w fun e w' => e = .returned (.tuple #[.int .i64 0, .int .i64 105]) ∧ Below w.heap.size w w' := by
 obtain ⟨W, hW⟩ : ∃ W, W = w.alloc (.cells (cpRow x) 97) := ⟨_, rfl⟩
 have hbW : Below w.heap.size w W := by rw [hW]; exact below_alloc _ _
 have hfr := free_at M c sv L last n W (h.below hbW) hl
 rw [hf] at hfr
 clear h hf
 obtain ⟨k, i, l, r⟩ := x
 dsimp only [cpRow] at *
 go_enter Tryz.func147, Tryz.ntmps147
 go_wp2_with fail
 rw [← hW]
 refine hfr.mono ?_
 rintro e w1 ⟨rfl, hw1⟩
 rw [hw1]
 clear hw1 w1
 rw [hW]
 go_wp2
 go_ret2
 exact ⟨rfl, below_alloc _ _⟩
set_option maxRecDepth 100000 in
set_option maxHeartbeats 4000000 in
theorem rput_cons (M c : Nat) (sv : Value) (L : List Ce) (last n ob s : Int) (x : Cp) (w : World) (h : RefAt M w c sv L last) (hM : M ≤ w.heap.size) (hl : L.length ≤ 900) (hla : 0 ≤ last ∧ last ≤ 100000) (hf : rfree L n = s) (hs : 1 ≤ s) (hpos : 0 < L.length) :
  Calls Tryz.prog 147 #[.pointer (some ⟨c, 0, none⟩), .int .i64 n, .int .i64 ob, .agg (cpRow x)] w fun e w' => e = .returned (.tuple #[.int .i64 s, .int .i64 0]) ∧ ∃ sv', RefAt M w' c sv' (L ++ [⟨last + 1, ob, n, s, x⟩]) (last + 1) ∧ Upd c w w' := by
 obtain ⟨i0, hi0, hzz⟩ := Option.map_eq_some_iff.1 ceInfo
 simp only [Prod.mk.injEq] at hzz
 obtain ⟨hz0, hz1, hz2⟩ := hzz
 obtain ⟨W0, hW0⟩ : ∃ W, W = w.alloc (.cells (cpRow x) 97) := ⟨_, rfl⟩
 have hbW0 : Below w.heap.size w W0 := by rw [hW0]; exact below_alloc _ _
 have hr0 := h.below hbW0
 have hfr := free_at M c sv L last n W0 hr0 (by omega)
 rw [hf] at hfr
 have hr1 := hr0.put1 (last + 1)
 have hsz0 : W0.heap.size = w.heap.size + 1 := by rw [hW0]; simp
 have hbox0 : W0.heap[w.heap.size]? = some (.cells (cpRow x) 97) := by rw [hW0]; exact heap_alloc_new _ _
 have hlt := h.lt
 obtain ⟨W, hW⟩ : ∃ W, W = W0.setCell ⟨c, 1, none⟩ (.int .i64 (last + 1)) := ⟨_, rfl⟩
 have hu1 : Upd c W0 W := by rw [hW]; exact Upd.setCell _ _ _ _
 rw [← hW] at hr1
 have hsz : W.heap.size = w.heap.size + 1 := by rw [hW]; simp [World.setCell, hsz0]
 have hbox : W.heap[w.heap.size]? = some (.cells (cpRow x) 97) := (hu1.block _ (by omega) (by omega)).trans hbox0
 obtain ⟨b0, b1, b2, b3⟩ := cap_cells hbox
 have a1 := hr0.c1
 have fa : W0.frozen? ⟨c, 1, none⟩ = false := frozen_of_heap hr0.head
 have HU : Hid (Upd c w W) := (Upd.of_below hbW0).trans hu1
 have HW0 : Hid _ := hW0
 have HW : Hid _ := hW
 have HR1 : Hid _ := hr1
 have hc0 := hr1.c0
 have hc1 := hr1.c1
 have hfz : W.frozen? ⟨c, 0, none⟩ = false := frozen_of_heap hr1.head
 have hcW := hr1.lt
 have hss : (s == 0) = false := by simp; omega
 obtain ⟨hla0, hla9⟩ := hla
 have hqW : w.heap.size < W.heap.size := by omega
 have HNB : Hid (∀ (Z : World), (Z.alloc (.cells #[.int .i64 (last + 1), .int .i64 ob, .int .i64 n, .int .i64 s, .int .i64 x.kind, .int .i64 x.id, .int .i64 x.len, .int .i64 x.rights] 107)).heap[Z.heap.size]? = some (.cells #[.int .i64 (last + 1), .int .i64 ob, .int .i64 n, .int .i64 s, .int .i64 x.kind, .int .i64 x.id, .int .i64 x.len, .int .i64 x.rights] 107 (0, 0))) := fun Z => heap_alloc_new _ _
 have HMW : Hid (M ≤ W.heap.size) := by show M ≤ W.heap.size; omega
 clear hr0 hbox0 hbox hu1 hbW0 h hW hW0 hf hsz hsz0
 obtain ⟨k, i, l, r⟩ := x
 dsimp only [cpRow] at *
 obtain ⟨g, cap, hsv⟩ : ∃ g cap, sv = .slice (some ⟨g, 0, none⟩) L.length cap := by
  rcases hr1.own.2 with ⟨_, e3⟩ | ⟨g, cap, cur, e2, _⟩
  ·omega
  ·exact ⟨g, cap, e2⟩
 subst hsv
 have N1 : Hid (∀ j u, (ccells L)[j]? = some u → W.cell? ((⟨g, 0, none⟩ : Addr).add j) = some u) := own_news8 hr1.own
 have HLen : Hid ((ccells L).length = L.length * 8) := ccells_len L
 have HONE : Hid (∀ u ∈ ccells L, u.oneCell' = true) := ccells_one L
 clear hr1
 go_enter Tryz.func147, Tryz.ntmps147
 go_wp2_with fail
 rw [← HW0.out]
 refine hfr.mono ?_
 rintro e w1 ⟨rfl, hw1⟩
 rw [hw1]
 clear hw1 w1 hfr
 go_wp2
 rw [← HW.out]
 clear a1 fa
 have hfa := frozen?_alloc_cells
 go_region_law (first
   | (refine step_append_lies _ (by rfl) (.const (.slice none 0 0)) (.tmp 27) _ (by rfl) W.heap.size 107 i0 _ 8 64 Tryz.underlying102 hi0 hz0 hz1 hz2 rfl (by omega) (.slice none 0 0) 0 [] (by rfl) (World.ownsRow_nil _ _ _ _)
         ⟨g, 0, none⟩ L.length cap (ccells L) (by rfl) HLen.out (fun j u hu => by first | exact N1.out j u hu | exact cell_alloc_old (N1.out j u hu) _) HONE.out
         (by omega) (by unfold maxLen; omega) (by omega) (by simp) _ rfl ?_; intro g1 cap1 w3 hown3 hgrow3 hat3 hlt3; simp only [Nat.zero_add, List.nil_append] at hown3; have B3 : Below W.heap.size W w3 := (by first | exact (Below.refl W.heap.size W).drew.trans (below_grown (v := .slice none 0 0) (w := W.drew) hgrow3 (Nat.le_refl _) (fun g hg => by simp [Value.ownBlock] at hg)) | exact ((Below.refl W.heap.size W).alloc (Nat.le_refl _) _).drew.trans (below_grown (v := .slice none 0 0) hgrow3 (by simp) (fun g hg => by simp [Value.ownBlock] at hg))); have q03 := (B3.cell (p := ⟨w.heap.size, 0, none⟩) hqW).trans b0; have q13 := (B3.cell (p := ⟨w.heap.size, 1, none⟩) hqW).trans b1; have q23 := (B3.cell (p := ⟨w.heap.size, 2, none⟩) hqW).trans b2; have q33 := (B3.cell (p := ⟨w.heap.size, 3, none⟩) hqW).trans b3; have q43 := (B3.cell (p := ⟨c, 1, none⟩) hcW).trans hc1)
   | (refine step_append_lies _ (by rfl) (.tmp 28) (.tmp 38) _ (by rfl) W.heap.size 107 i0 _ 8 64 Tryz.underlying102 hi0 hz0 hz1 hz2 rfl (by omega) (.slice (some ⟨g1, 0, none⟩) L.length cap1) L.length (ccells L) (by rfl) (hown3.alloc _)
         ⟨w3.heap.size, 0, none⟩ 1 1 [.int .i64 (last + 1), .int .i64 ob, .int .i64 n, .int .i64 s, .int .i64 k, .int .i64 i, .int .i64 l, .int .i64 r] (by rfl) (by rfl) (World.news_of_block (cs := #[.int .i64 (last + 1), .int .i64 ob, .int .i64 n, .int .i64 s, .int .i64 k, .int .i64 i, .int .i64 l, .int .i64 r]) (t := 107) (fr := (0, 0)) (HNB.out w3)) (by simp [Value.oneCell'])
         (by omega) (by unfold maxLen; omega) (by omega) (by have := B3.size; simp; omega) _ rfl ?_; intro g2 cap2 w4 hown4 hgrow4 hat4 hlt4; have B4 : Below W.heap.size W w4 := (by first | exact (B3.alloc B3.size _).trans (below_grown (v := .slice (some ⟨g1, 0, none⟩) L.length cap1) hgrow4 (by have := B3.size; simp; omega) (ownsRow_low hown3)) | exact B3.trans (below_grown (v := .slice (some ⟨g1, 0, none⟩) L.length cap1) hgrow4 B3.size (ownsRow_low hown3))); have hcw := B4.cell (p := ⟨c, 0, none⟩) hcW; have hfw := B4.frozen (p := ⟨c, 0, none⟩) hcW)
   | (refine step_append_lies _ (by rfl) (.tmp 28) (.tmp 38) _ (by rfl) W.heap.size 107 i0 _ 8 64 Tryz.underlying102 hi0 hz0 hz1 hz2 rfl (by omega) (.slice (some ⟨g1, 0, none⟩) L.length cap1) L.length (ccells L) (by rfl) hown3
         ⟨W.heap.size, 0, none⟩ 1 1 [.int .i64 (last + 1), .int .i64 ob, .int .i64 n, .int .i64 s, .int .i64 k, .int .i64 i, .int .i64 l, .int .i64 r] (by rfl) (by rfl) (World.news_of_block (cs := #[.int .i64 (last + 1), .int .i64 ob, .int .i64 n, .int .i64 s, .int .i64 k, .int .i64 i, .int .i64 l, .int .i64 r]) (t := 107) (fr := (0, 0)) ((hgrow3.block W.heap.size (by simp) (by simp [Value.ownBlock])).trans (HNB.out W))) (by simp [Value.oneCell'])
         (by omega) (by unfold maxLen; omega) (by omega) (by have := B3.size; simp; omega) _ rfl ?_; intro g2 cap2 w4 hown4 hgrow4 hat4 hlt4; have B4 : Below W.heap.size W w4 := (by first | exact (B3.alloc B3.size _).trans (below_grown (v := .slice (some ⟨g1, 0, none⟩) L.length cap1) hgrow4 (by have := B3.size; simp; omega) (ownsRow_low hown3)) | exact B3.trans (below_grown (v := .slice (some ⟨g1, 0, none⟩) L.length cap1) hgrow4 B3.size (ownsRow_low hown3))); have hcw := B4.cell (p := ⟨c, 0, none⟩) hcW; have hfw := B4.frozen (p := ⟨c, 0, none⟩) hcW))
 all_goals
  go_wp2
  go_ret2
  refine ⟨rfl, _, ⟨head0 ((B4.block c hcW).trans HR1.out.head) _, ?_, fun e => by simp at e⟩, ?_⟩
  ·have h5 : w4.ownsRow W.heap.size 107 8 (.slice (some ⟨g2, 0, none⟩) (L.length + 1) cap2) (L.length + 1) (ccells (L ++ [⟨last + 1, ob, n, s, ⟨k, i, l, r⟩⟩])) := by
    rw [ccells_app]
    exact hown4
   have hg2 : W.heap.size ≤ g2 := ownsRow_low h5 g2 rfl
   rw [List.length_append]
   exact ownsRow_mono (ownsRow_at h5 (fun g hg => Below.heap_setCell _ _ _ _ (by have e' : g = g2 := by simpa [Value.ownBlock] using hg.symm
                                                                                 show g ≠ c
                                                                                 omega))) HMW.out
  ·exact (HU.out.trans (Upd.of_below B4)).trans (Upd.setCell _ _ _ _)
end Ca
end Go.Proofs.YtbhpafgoofkkmaaGreatDoor
namespace Go.Proofs.YtbhpafgoofkkmaaGreatDoor
open Go.RowKit
namespace Ca
set_option maxRecDepth 100000 in
set_option maxHeartbeats 4000000 in
theorem rput_nil (M c : Nat) (sv : Value) (last n ob s : Int) (x : Cp) (w : World) (h : RefAt M w c sv [] last) (hM : M ≤ w.heap.size) (hla : 0 ≤ last ∧ last ≤ 100000) (hf : rfree [] n = s) (hs : 1 ≤ s) :
  Calls Tryz.prog 147 #[.pointer (some ⟨c, 0, none⟩), .int .i64 n, .int .i64 ob, .agg (cpRow x)] w fun e w' => e = .returned (.tuple #[.int .i64 s, .int .i64 0]) ∧ ∃ sv', RefAt M w' c sv' [⟨last + 1, ob, n, s, x⟩] (last + 1) ∧ Upd c w w' := by
 obtain ⟨i0, hi0, hzz⟩ := Option.map_eq_some_iff.1 ceInfo
 simp only [Prod.mk.injEq] at hzz
 obtain ⟨hz0, hz1, hz2⟩ := hzz
 obtain ⟨W0, hW0⟩ : ∃ W, W = w.alloc (.cells (cpRow x) 97) := ⟨_, rfl⟩
 have hbW0 : Below w.heap.size w W0 := by rw [hW0]; exact below_alloc _ _
 have hr0 := h.below hbW0
 have hfr := free_at M c sv [] last n W0 hr0 (by simp)
 rw [hf] at hfr
 have hr1 := hr0.put1 (last + 1)
 have hsz0 : W0.heap.size = w.heap.size + 1 := by rw [hW0]; simp
 have hbox0 : W0.heap[w.heap.size]? = some (.cells (cpRow x) 97) := by rw [hW0]; exact heap_alloc_new _ _
 have hlt := h.lt
 obtain ⟨W, hW⟩ : ∃ W, W = W0.setCell ⟨c, 1, none⟩ (.int .i64 (last + 1)) := ⟨_, rfl⟩
 have hu1 : Upd c W0 W := by rw [hW]; exact Upd.setCell _ _ _ _
 rw [← hW] at hr1
 have hsz : W.heap.size = w.heap.size + 1 := by rw [hW]; simp [World.setCell, hsz0]
 have hbox : W.heap[w.heap.size]? = some (.cells (cpRow x) 97) := (hu1.block _ (by omega) (by omega)).trans hbox0
 obtain ⟨b0, b1, b2, b3⟩ := cap_cells hbox
 have a1 := hr0.c1
 have fa : W0.frozen? ⟨c, 1, none⟩ = false := frozen_of_heap hr0.head
 have HU : Hid (Upd c w W) := (Upd.of_below hbW0).trans hu1
 have HW0 : Hid _ := hW0
 have HW : Hid _ := hW
 have HR1 : Hid _ := hr1
 have hc0 := hr1.c0
 have hc1 := hr1.c1
 have hfz : W.frozen? ⟨c, 0, none⟩ = false := frozen_of_heap hr1.head
 have hcW := hr1.lt
 have hss : (s == 0) = false := by simp; omega
 obtain ⟨hla0, hla9⟩ := hla
 have hqW : w.heap.size < W.heap.size := by omega
 have HNB : Hid (∀ (Z : World), (Z.alloc (.cells #[.int .i64 (last + 1), .int .i64 ob, .int .i64 n, .int .i64 s, .int .i64 x.kind, .int .i64 x.id, .int .i64 x.len, .int .i64 x.rights] 107)).heap[Z.heap.size]? = some (.cells #[.int .i64 (last + 1), .int .i64 ob, .int .i64 n, .int .i64 s, .int .i64 x.kind, .int .i64 x.id, .int .i64 x.len, .int .i64 x.rights] 107 (0, 0))) := fun Z => heap_alloc_new _ _
 have HMW : Hid (M ≤ W.heap.size) := by show M ≤ W.heap.size; omega
 clear hr0 hbox0 hbox hu1 hbW0 h hW hW0 hf hsz hsz0
 obtain ⟨k, i, l, r⟩ := x
 dsimp only [cpRow] at *
 have hsv := hr1.nil rfl
 subst hsv
 clear hr1
 go_enter Tryz.func147, Tryz.ntmps147
 go_wp2_with fail
 rw [← HW0.out]
 refine hfr.mono ?_
 rintro e w1 ⟨rfl, hw1⟩
 rw [hw1]
 clear hw1 w1 hfr
 go_wp2
 rw [← HW.out]
 clear a1 fa
 have hfa := frozen?_alloc_cells
 go_region_law (first
   | (refine step_append_eq rfl (.const (.slice none 0 0)) (.tmp 27) 102 rfl (.slice none 0 0) (.slice none 0 0) (.slice none 0 0) rfl (by rfl) (run_append_none _ _ _ i0 Tryz.underlying102 hi0 none 0) ?_)
   | (refine step_append_lies _ (by rfl) (.tmp 28) (.tmp 38) _ (by rfl) W.heap.size 107 i0 _ 8 64 Tryz.underlying102 hi0 hz0 hz1 hz2 rfl (by omega) (.slice none 0 0) 0 [] (by rfl) (World.ownsRow_nil _ _ _ _)
         ⟨W.heap.size, 0, none⟩ 1 1 [.int .i64 (last + 1), .int .i64 ob, .int .i64 n, .int .i64 s, .int .i64 k, .int .i64 i, .int .i64 l, .int .i64 r] (by rfl) (by rfl) (World.news_of_block (cs := #[.int .i64 (last + 1), .int .i64 ob, .int .i64 n, .int .i64 s, .int .i64 k, .int .i64 i, .int .i64 l, .int .i64 r]) (t := 107) (fr := (0, 0)) (HNB.out W)) (by simp [Value.oneCell'])
         (by omega) (by unfold maxLen; omega) (by omega) (by simp) (W.heap.size + 1) (by simp) ?_; intro g2 cap2 w4 hown4 hgrow4 hat4 hlt4; have B4 : Below W.heap.size W w4 := ((Below.refl W.heap.size W).alloc (Nat.le_refl _) _).drew.trans (below_grown (v := .slice none 0 0) hgrow4 (by simp) (fun g hg => by simp [Value.ownBlock] at hg)); have hcw := B4.cell (p := ⟨c, 0, none⟩) hcW; have hfw := B4.frozen (p := ⟨c, 0, none⟩) hcW))
 all_goals
  go_wp2
  go_ret2
  refine ⟨rfl, _, ⟨head0 ((B4.block c hcW).trans HR1.out.head) _, ?_, fun e => by simp at e⟩, ?_⟩
  ·have h5 : w4.ownsRow W.heap.size 107 8 (.slice (some ⟨g2, 0, none⟩) 1 cap2) 1 (ccells [⟨last + 1, ob, n, s, ⟨k, i, l, r⟩⟩]) := hown4
   have hg2 : W.heap.size ≤ g2 := ownsRow_low h5 g2 rfl
   exact ownsRow_mono (ownsRow_at h5 (fun g hg => Below.heap_setCell _ _ _ _ (by have e' : g = g2 := by simpa [Value.ownBlock] using hg.symm
                                                                                 show g ≠ c
                                                                                 omega))) HMW.out
  ·exact (HU.out.trans (Upd.of_below B4)).trans (Upd.setCell _ _ _ _)
def rputA (L : List Ce) (n : Int) : Int := rfree L n
def rputE (L : List Ce) (n : Int) : Int := if rfree L n = 0 then 105 else 0
def rputL (L : List Ce) (last n ob : Int) (x : Cp) : List Ce := if rfree L n = 0 then L else L ++ [⟨last + 1, ob, n, rfree L n, x⟩]
def rputN (L : List Ce) (last n : Int) : Int := if rfree L n = 0 then last else last + 1
theorem rfree_range (L : List Ce) (n : Int) : rfree L n = 0 ∨ (1 ≤ rfree L n ∧ rfree L n ≤ 64) := by
 unfold rfree
 split
 ·right; omega
 ·left; rfl
theorem rput_at (M c : Nat) (sv : Value) (L : List Ce) (last n ob : Int) (x : Cp) (w : World) (h : RefAt M w c sv L last) (hM : M ≤ w.heap.size) (hl : L.length ≤ 900) (hla : 0 ≤ last ∧ last ≤ 100000) :
  Calls Tryz.prog 147 #[.pointer (some ⟨c, 0, none⟩), .int .i64 n, .int .i64 ob, .agg (cpRow x)] w fun e w' => e = .returned (.tuple #[.int .i64 (rputA L n), .int .i64 (rputE L n)]) ∧ ∃ sv', RefAt M w' c sv' (rputL L last n ob x) (rputN L last n) ∧ Upd c w w' := by
 by_cases hf : rfree L n = 0
 ·refine (rput_full M c sv L last n ob x w h (by omega) hf).mono ?_
  rintro e w' ⟨rfl, hb⟩
  unfold rputA rputE rputL rputN
  rw [hf]
  exact ⟨rfl, sv, h.below hb, Upd.of_below hb⟩
 ·have hs : 1 ≤ rfree L n := by
   rcases rfree_range L n with e | e
   ·exact absurd e hf
   ·exact e.1
  unfold rputA rputE rputL rputN
  rw [if_neg hf, if_neg hf, if_neg hf]
  cases L with
  | nil => exact rput_nil M c sv last n ob _ x w h hM hla rfl hs
  | cons d L => exact rput_cons M c sv (d :: L) last n ob _ x w h hM hl hla rfl hs (by simp)
end Ca
end Go.Proofs.YtbhpafgoofkkmaaGreatDoor
namespace Go.Proofs.YtbhpafgoofkkmaaGreatDoor
open Go.RowKit
namespace Ca
def raddA (L : List Ce) (n : Int) (x : Cp) : Int := if addOK n x = true then rputA L n else 0
def raddE (L : List Ce) (n : Int) (x : Cp) : Int := if addOK n x = true then rputE L n else 101
def raddL (L : List Ce) (last n : Int) (x : Cp) : List Ce := if addOK n x = true then rputL L last n 0 x else L
def raddN (L : List Ce) (last n : Int) (x : Cp) : Int := if addOK n x = true then rputN L last n else last
set_option maxHeartbeats 1000000 in
theorem radd_at (M c : Nat) (sv : Value) (L : List Ce) (last n : Int) (x : Cp) (w : World) (h : RefAt M w c sv L last) (hM : M ≤ w.heap.size) (hl : L.length ≤ 900) (hla : 0 ≤ last ∧ last ≤ 100000) :
  Calls Tryz.prog 146 #[.pointer (some ⟨c, 0, none⟩), .int .i64 n, .agg (cpRow x)] w fun e w' => e = .returned (.tuple #[.int .i64 (raddA L n x), .int .i64 (raddE L n x)]) ∧ ∃ sv', RefAt M w' c sv' (raddL L last n x) (raddN L last n x) ∧ Upd c w w' := by
 obtain ⟨W, hW⟩ : ∃ W, W = w.alloc (.cells (cpRow x) 97) := ⟨_, rfl⟩
 have HB : Hid (Below w.heap.size w W) := by rw [hW]; exact below_alloc _ _
 have HC : Hid (RefAt M W c sv L last) := h.below HB.out
 have HI : Hid (W.heap[w.heap.size]? = some (.cells (cpRow x) 97)) := by rw [hW]; exact heap_alloc_new _ _
 have hE := renv_at n
 have hMa := rmay_at x
 have hlt := h.lt
 clear h
 cases hn : isE n with
 | false =>
  rw [hn] at hE
  have HA : Hid (addOK n x = false) := by show addOK n x = false; simp [addOK, hn]
  obtain ⟨k, i, l, r⟩ := x
  dsimp only [cpRow] at *
  clear hn hMa
  go_enter Tryz.func146, Tryz.ntmps146
  go_wp2_with (go_at_call 59; refine (hE _).mono ?_; rintro e w1 ⟨rfl, hw1⟩; rw [hw1]; clear hw1 w1)
  go_ret2
  rw [← hW]
  refine ⟨?_, sv, ?_, Upd.of_below HB.out⟩
  ·simp [raddA, raddE, HA.out]
  ·unfold raddL raddN
   rw [HA.out]
   exact HC.out
 | true =>
  rw [hn] at hE
  cases hx : mayB x with
  | false =>
   rw [hx] at hMa
   have HA : Hid (addOK n x = false) := by show addOK n x = false; simp [addOK, hx]
   obtain ⟨c0, c1, c2, c3⟩ := cap_cells HI.out
   obtain ⟨k, i, l, r⟩ := x
   dsimp only [cpRow] at *
   clear hn hx
   go_enter Tryz.func146, Tryz.ntmps146
   go_wp2_with fail
   rw [← hW]
   clear hW
   refine (hE _).mono ?_
   rintro e w1 ⟨rfl, hw1⟩
   rw [hw1]
   clear hw1 w1
   go_wp2_with fail
   refine (hMa _).mono ?_
   rintro e w1 ⟨rfl, hb1⟩
   go_wp2
   go_ret2
   refine ⟨?_, sv, ?_, Upd.of_below (HB.out.trans (hb1.mono HB.out.size))⟩
   ·simp [raddA, raddE, HA.out]
   ·unfold raddL raddN
    rw [HA.out]
    exact HC.out.below hb1
  | true =>
   rw [hx] at hMa
   have HA : Hid (addOK n x = true) := by show addOK n x = true; simp [addOK, hn, hx]
   have hp := fun W hC hW => rput_at M c sv L last n 0 x W hC hW hl hla
   obtain ⟨c0, c1, c2, c3⟩ := cap_cells HI.out
   have HI2 : Hid (∀ w1, Below W.heap.size W w1 → w1.heap[w.heap.size]? = some (.cells (cpRow x) 97)) := fun w1 hb1 => (hb1.block _ (lt_of_heap HI.out)).trans HI.out
   have HS : Hid (w.heap.size ≤ W.heap.size) := HB.out.size
   obtain ⟨k, i, l, r⟩ := x
   dsimp only [cpRow] at *
   clear hn hx
   go_enter Tryz.func146, Tryz.ntmps146
   go_wp2_with fail
   rw [← hW]
   clear hW
   refine (hE _).mono ?_
   rintro e w1 ⟨rfl, hw1⟩
   rw [hw1]
   clear hw1 w1
   go_wp2_with fail
   refine (hMa _).mono ?_
   rintro e w1 ⟨rfl, hb1⟩
   obtain ⟨d0, d1, d2, d3⟩ := cap_cells (x := ⟨k, i, l, r⟩) (HI2.out w1 hb1)
   dsimp only at d0 d1 d2 d3
   clear c0 c1 c2 c3
   go_wp2_with fail
   refine (hp w1 (HC.out.below hb1) (Nat.le_trans hM (Nat.le_trans HS.out hb1.size))).mono ?_
   rintro e w2 ⟨rfl, sv', hC2, hU2⟩
   go_wp2
   go_ret2
   refine ⟨?_, sv', ?_, (Upd.of_below (HB.out.trans (hb1.mono HB.out.size))).trans hU2⟩
   ·simp [raddA, raddE, HA.out]
   ·unfold raddL raddN
    rw [HA.out]
    exact hC2
theorem rgive_no (M c : Nat) (sv : Value) (L : List Ce) (last n s to r : Int) (w : World) (h : RefAt M w c sv L last) (hl : L.length ≤ 900) (hf : rfindI L n s = -1) :
  Calls Tryz.prog 84 #[.pointer (some ⟨c, 0, none⟩), .int .i64 n, .int .i64 s, .int .i64 to, .int .i64 r] w fun e w' => e = .returned (.tuple #[.int .i64 0, .int .i64 104]) ∧ w' = w := by
 have hfa := find_at M c sv L last n s w h (by omega)
 rw [hf] at hfa
 clear h hf
 go_enter Tryz.func84, Tryz.ntmps84
 go_wp2_with (go_at_call 106; refine hfa.mono ?_; rintro e w1 ⟨rfl, hw1⟩; rw [hw1]; clear hw1 w1)
 go_ret2
 exact ⟨rfl, rfl⟩
def rgiveA (L : List Ce) (x : Cp) (to r : Int) : Int := if mayG x r = true then (if isE to = true then rputA L to else 0) else 0
def rgiveE (L : List Ce) (x : Cp) (to r : Int) : Int := if mayG x r = true then (if isE to = true then rputE L to else 101) else 104
def rgiveL (L : List Ce) (last : Int) (d : Ce) (to r : Int) : List Ce := if mayG d.x r = true then (if isE to = true then rputL L last to d.no ⟨d.x.kind, d.x.id, d.x.len, r⟩ else L) else L
def rgiveN (L : List Ce) (last : Int) (d : Ce) (to r : Int) : Int := if mayG d.x r = true then (if isE to = true then rputN L last to else last) else last
set_option maxRecDepth 100000 in
set_option maxHeartbeats 4000000 in
theorem rgive_yes (M c : Nat) (sv : Value) (L : List Ce) (last n s to r : Int) (k : Nat) (d : Ce) (w : World) (h : RefAt M w c sv L last) (hM : M ≤ w.heap.size) (hl : L.length ≤ 900) (hla : 0 ≤ last ∧ last ≤ 100000) (hf : rfindI L n s = (k : Int)) (hd : L[k]? = some d) :
  Calls Tryz.prog 84 #[.pointer (some ⟨c, 0, none⟩), .int .i64 n, .int .i64 s, .int .i64 to, .int .i64 r] w fun e w' => e = .returned (.tuple #[.int .i64 (rgiveA L d.x to r), .int .i64 (rgiveE L d.x to r)]) ∧ ∃ sv', RefAt M w' c sv' (rgiveL L last d to r) (rgiveN L last d to r) ∧ Upd c w w' := by
 have hfa := find_at M c sv L last n s w h (by omega)
 rw [hf] at hfa
 obtain ⟨g, cap, hsv, ⟨⟨d0, d1, d2, d3⟩, d4, d5, d6, d7⟩⟩ := h.at hd
 have c0 := h.c0
 have hkl : k < L.length := (List.getElem?_eq_some_iff.1 hd).1
 have hki : (k : Int) < (L.length : Int) := by omega
 have HG : Hid (mayG d.x r = ((bits .and .i64 d.x.rights 4 != 0) && areR r && (bits .andNot .i64 r d.x.rights == 0))) := rfl
 have hE := renv_at to
 have HH : Hid _ := h
 have hlt := h.lt
 have hp := fun (W : World) (hC : RefAt M W c sv L last) (hW : M ≤ W.heap.size) => rput_at M c sv L last to d.no ⟨d.x.kind, d.x.id, d.x.len, r⟩ W hC hW hl hla
 have HA : Hid (rgiveA L d.x to r = (if mayG d.x r = true then (if isE to = true then rputA L to else 0) else 0)) := rfl
 have HE2 : Hid (rgiveE L d.x to r = (if mayG d.x r = true then (if isE to = true then rputE L to else 101) else 104)) := rfl
 have HL : Hid (rgiveL L last d to r = (if mayG d.x r = true then (if isE to = true then rputL L last to d.no ⟨d.x.kind, d.x.id, d.x.len, r⟩ else L) else L)) := rfl
 have HN : Hid (rgiveN L last d to r = (if mayG d.x r = true then (if isE to = true then rputN L last to else last) else last)) := rfl
 have hil : (L.length : Int) ≤ 900 := by omega
 clear h hf hd
 generalize rgiveA L d.x to r = A at *
 generalize rgiveE L d.x to r = E at *
 generalize rgiveL L last d to r = LL at *
 generalize rgiveN L last d to r = NN at *
 generalize mayG d.x r = G at *
 subst hsv
 obtain ⟨no, ob, env, slot, ⟨x0, x1, x2, x3⟩⟩ := d
 dsimp only [cpRow, areR] at *
 go_enter Tryz.func84, Tryz.ntmps84
 go_wp2_with fail
 refine hfa.mono ?_
 rintro e w1 ⟨rfl, hw1⟩
 rw [hw1]
 clear hw1 w1 hfa
 have no4 : G = false → (A = 0 ∧ E = 104 ∧ LL = L ∧ NN = last) := by
  intro hg
  rw [HA.out, HE2.out, HL.out, HN.out, hg]
  exact ⟨rfl, rfl, rfl, rfl⟩
 by_cases g0 : bits .and .i64 x3 4 = 0
 ·have hq : (bits .and .i64 x3 4 == 0) = true := by simp [g0]
  obtain ⟨rfl, rfl, rfl, rfl⟩ := no4 (by rw [HG.out, g0]; rfl)
  go_wp2
  go_ret2
  exact ⟨rfl, _, HH.out, Upd.refl _ _⟩
 ·have hq : (bits .and .i64 x3 4 == 0) = false := by simp [g0]
  by_cases g1 : r < 1
  ·obtain ⟨rfl, rfl, rfl, rfl⟩ := no4 (by rw [HG.out]; have : decide (1 ≤ r) = false := decide_eq_false (by omega)
                                          rw [this]; simp)
   have gd : decide (r < 1) = true := decide_eq_true g1
   go_wp2
   go_ret2
   exact ⟨rfl, _, HH.out, Upd.refl _ _⟩
  ·have gd : decide (r < 1) = false := decide_eq_false g1
   by_cases g2 : 7 < r
   ·obtain ⟨rfl, rfl, rfl, rfl⟩ := no4 (by rw [HG.out]; have : decide (r ≤ 7) = false := decide_eq_false (by omega)
                                           rw [this]; simp)
    have ge : decide (7 < r) = true := decide_eq_true g2
    go_wp2
    go_ret2
    exact ⟨rfl, _, HH.out, Upd.refl _ _⟩
   ·have ge : decide (7 < r) = false := decide_eq_false g2
    by_cases g3 : bits .andNot .i64 r x3 = 0
    ·have hz : (bits .andNot .i64 r x3 != 0) = false := by simp [g3]
     have hG : G = true := by
      rw [HG.out, g3]
      have e1 : decide (1 ≤ r) = true := decide_eq_true (by omega)
      have e2 : decide (r ≤ 7) = true := decide_eq_true (by omega)
      rw [e1, e2]
      simp [g0]
     clear no4 HG
     rw [hG] at HA HE2 HL HN
     clear hG
     cases ht : isE to with
     | false =>
      rw [ht] at hE HA HE2 HL HN
      obtain ⟨rfl, rfl, rfl, rfl⟩ : A = 0 ∧ E = 101 ∧ LL = L ∧ NN = last := ⟨HA.out, HE2.out, HL.out, HN.out⟩
      clear HA HE2 HL HN
      go_wp2_with (go_at_call 59; refine (hE _).mono ?_; rintro e w1 ⟨rfl, hw1⟩; rw [hw1]; clear hw1 w1)
      go_ret2
      exact ⟨rfl, _, HH.out, Upd.refl _ _⟩
     | true =>
      rw [ht] at hE HA HE2 HL HN
      obtain ⟨W, hW⟩ : ∃ W, W = w.alloc (.cells #[.int .i64 x0, .int .i64 x1, .int .i64 x2, .int .i64 r] 97) := ⟨_, rfl⟩
      have hbW : Below w.heap.size w W := by rw [hW]; exact below_alloc _ _
      have HB : Hid _ := hbW
      have hbox : W.heap[w.heap.size]? = some (.cells #[.int .i64 x0, .int .i64 x1, .int .i64 x2, .int .i64 r] 97) := by rw [hW]; exact heap_alloc_new _ _
      obtain ⟨q0, q1, q2, q3⟩ := cap_cells (x := ⟨x0, x1, x2, r⟩) hbox
      dsimp only at q0 q1 q2 q3
      have hRW := HH.out.below hbW
      have p0 := hRW.c0
      have p1 := (hbW.cell (cell_lt d0)).trans d0
      have hPW := hp W.drew (hRW.below (Below.refl _ _).drew) (Nat.le_trans hM hbW.size)
      have HW : Hid _ := hW
      clear hW hbW hbox hRW
      go_wp2_with (go_at_call 59; refine (hE _).mono ?_; rintro e w1 ⟨rfl, hw1⟩; rw [hw1]; clear hw1 w1)
      rw [← HW.out]
      clear d0 d1 d2 d3 d4 d5 d6 d7 c0
      go_region_with (go_at_call 147; refine hPW.mono ?_; rintro e w2 ⟨rfl, sv', hC2, hU2⟩)
      all_goals
       go_wp2
       go_ret2
       refine ⟨?_, sv', ?_, (Upd.of_below (HB.out.drew)).trans hU2⟩
       ·rw [HA.out, HE2.out]
        rfl
       ·rw [HL.out, HN.out]
        exact hC2
    ·have hz : (bits .andNot .i64 r x3 != 0) = true := by simp [g3]
     obtain ⟨rfl, rfl, rfl, rfl⟩ := no4 (by rw [HG.out]; simp [g3])
     go_wp2
     go_ret2
     exact ⟨rfl, _, HH.out, Upd.refl _ _⟩
end Ca
end Go.Proofs.YtbhpafgoofkkmaaGreatDoor
