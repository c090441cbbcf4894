/- The reference of package caps: where it lies in the heap; Env, May, covers, find, free, Get, Has. -/
import Derived.Test.YtfnafjddajgahaaGreatCapK
namespace Go.Proofs.YtfnafjddajgahaaGreat
open Go.RowKit
namespace Ca
set_option linter.unusedVariables false

/-- A capability of the reference. -/
structure Ce where
  no : Int
  ob : Int
  env : Int
  slot : Int
  x : Cp
abbrev ceRow (c : Ce) : List Value := [.int .i64 c.no, .int .i64 c.ob, .int .i64 c.env, .int .i64 c.slot, .int .i64 c.x.kind, .int .i64 c.x.id, .int .i64 c.x.len, .int .i64 c.x.rights]
def ccells (L : List Ce) : List Value := L.flatMap ceRow
theorem ccells_len : ∀ (L : List Ce), (ccells L).length = L.length * 8
  | [] => rfl
  | c :: L => by
    have e : ccells (c :: L) = ceRow c ++ ccells L := rfl
    rw [e, List.length_append, ccells_len L, List.length_cons]
    simp
    omega
theorem ccells_app (L M : List Ce) : ccells (L ++ M) = ccells L ++ ccells M := by simp [ccells]
theorem ccells_get : ∀ (L : List Ce) (i : Nat) (c : Ce), L[i]? = some c → ∀ k, k < 8 → (ccells L)[i * 8 + k]? = (ceRow c)[k]?
  | [], i, c, h => by simp at h
  | d :: L, i, c, h => by
    intro k hk
    have e : ccells (d :: L) = ceRow d ++ ccells L := rfl
    rw [e]
    cases i with
    | zero =>
      simp at h
      subst h
      rw [Nat.zero_mul, Nat.zero_add, List.getElem?_append_left (by simpa using hk)]
    | succ i =>
      simp at h
      rw [List.getElem?_append_right (by simp; omega)]
      have := ccells_get L i c h k hk
      rw [← this]
      congr 1
      simp
      omega
/-- The reference in block c: its list lies in a row of its own from block M on. -/
structure RefAt (M : Nat) (w : World) (c : Nat) (sv : Value) (L : List Ce) (last : Int) : Prop where
  head : w.heap[c]? = some (.cells #[sv, .int .i64 last] 65)
  own : w.ownsRow M 99 8 sv L.length (ccells L)
  nil : L = [] → sv = .slice none 0 0
section
variable {M : Nat} {w w' : World} {c : Nat} {sv : Value} {L : List Ce} {last : Int}
theorem RefAt.c0 (h : RefAt M w c sv L last) : w.cell? ⟨c, 0, none⟩ = some sv := by rw [cell_of_heap h.head]; rfl
theorem RefAt.c1 (h : RefAt M w c sv L last) : w.cell? ⟨c, 1, none⟩ = some (.int .i64 last) := by rw [cell_of_heap h.head]; rfl
theorem RefAt.lt (h : RefAt M w c sv L last) : c < w.heap.size := lt_of_heap h.head
theorem RefAt.below (h : RefAt M w c sv L last) (hb : Below w.heap.size w w') : RefAt M w' c sv L last :=
  ⟨(hb.block _ h.lt).trans h.head, ownsRow_below h.own hb, h.nil⟩
theorem RefAt.form (h : RefAt M w c sv L last) : ∃ a cap, sv = .slice a L.length cap := by
  rcases h.own.2 with ⟨e2, e3⟩ | ⟨g, cap, cur, e2, _⟩
  · exact ⟨none, 0, by rw [e2, e3]⟩
  · exact ⟨_, _, e2⟩
theorem RefAt.at (h : RefAt M w c sv L last) {i : Nat} {d : Ce} (hd : L[i]? = some d) : ∃ g cap, sv = .slice (some ⟨g, 0, none⟩) L.length cap ∧
    ((w.cell? ⟨g, i * 8, none⟩ = some (.int .i64 d.no) ∧ w.cell? ⟨g, i * 8 + 1, none⟩ = some (.int .i64 d.ob) ∧ w.cell? ⟨g, i * 8 + 2, none⟩ = some (.int .i64 d.env) ∧ w.cell? ⟨g, i * 8 + 3, none⟩ = some (.int .i64 d.slot)) ∧
    w.cell? ⟨g, i * 8 + 4, none⟩ = some (.int .i64 d.x.kind) ∧ w.cell? ⟨g, i * 8 + 5, none⟩ = some (.int .i64 d.x.id) ∧ w.cell? ⟨g, i * 8 + 6, none⟩ = some (.int .i64 d.x.len) ∧ w.cell? ⟨g, i * 8 + 7, none⟩ = some (.int .i64 d.x.rights)) := by
  have hlen : i < L.length := (List.getElem?_eq_some_iff.1 hd).1
  rcases h.own.2 with ⟨_, e3⟩ | ⟨g, cap, cur, e2, _, hh, _, _, _, ht⟩
  · omega
  · refine ⟨g, cap, e2, ?_⟩
    have key : ∀ k, k < 8 → w.cell? ⟨g, i * 8 + k, none⟩ = (ceRow d)[k]? := by
      intro k hk
      have h1 := ccells_get L i d hd k hk
      rw [← ht, List.getElem?_take_of_lt (by omega)] at h1
      rw [cell_of_heap hh, ← h1]
      simp
    exact ⟨⟨key 0 (by omega), key 1 (by omega), key 2 (by omega), key 3 (by omega)⟩, key 4 (by omega), key 5 (by omega), key 6 (by omega), key 7 (by omega)⟩
end

theorem renv_at (n : Int) (w : World) :
    Calls Tryz.prog 52 #[.int .i64 n] w fun e w' => e = .returned (.bool (isE n)) ∧ w' = w := by
  go_enter Tryz.func52, Tryz.ntmps52
  go_wp2
  all_goals
    go_ret
    refine ⟨ret_bool ?_, rfl⟩
    simp [isE]
    try omega
theorem rmay_at (x : Cp) (w : World) :
    Calls Tryz.prog 95 #[.agg (cpRow x)] w fun e w' => e = .returned (.bool (mayB x)) ∧ Below w.heap.size w w' := by
  obtain ⟨k, i, l, r⟩ := x
  dsimp only [cpRow]
  go_enter Tryz.func95, Tryz.ntmps95
  go_wp2
  all_goals
    go_ret
    refine ⟨ret_bool ?_, below_alloc _ _⟩
    simp_all [mayB, longOk, areR]
    try omega
theorem rcovers_at (x : Cp) (K I q : Int) (w : World) (hx : Sane x) (hI : I64 I) :
    Calls Tryz.prog 87 #[.agg (cpRow x), .int .i64 K, .int .i64 I, .int .i64 q] w fun e w' => e = .returned (.bool (hitB x K I q)) ∧ Below w.heap.size w w' := by
  obtain ⟨k, i, l, r⟩ := x
  obtain ⟨h1, h2, h3, h4, h5, h6, h7, h8⟩ := hx
  obtain ⟨i1, i2⟩ := hI
  dsimp only [cpRow] at *
  go_enter Tryz.func87, Tryz.ntmps87
  go_wp2
  all_goals
    go_ret
    refine ⟨ret_bool ?_, below_alloc _ _⟩
    simp_all [hitB, coversB, among]
    try omega

/-- Is it that slot's? -/
def atB (n s : Int) (d : Ce) : Bool := d.env == n && d.slot == s
def rfind (L : List Ce) (n s : Int) : Nat := L.findIdx (atB n s)
def rfindI (L : List Ce) (n s : Int) : Int := if rfind L n s < L.length then (rfind L n s : Int) else -1
theorem rfind_hit {L : List Ce} {n s : Int} {k : Nat} {d : Ce} (hk : L[k]? = some d) (h : atB n s d = true) (hb : ∀ (j : Nat) (x : Ce), j < k → L[j]? = some x → atB n s x = false) : rfindI L n s = (k : Int) := by
  have hkl : k < L.length := (List.getElem?_eq_some_iff.1 hk).1
  have hf : rfind L n s = k := by
    unfold rfind
    rw [List.findIdx_eq hkl]
    have e : L[k] = d := by
      have := List.getElem?_eq_getElem hkl
      rw [hk] at this
      cases this
      rfl
    refine ⟨by rw [e]; exact h, fun j hj => ?_⟩
    exact hb j _ hj (List.getElem?_eq_getElem (by omega))
  unfold rfindI
  rw [hf, if_pos hkl]
theorem rfind_miss {L : List Ce} {n s : Int} (hb : ∀ (j : Nat) (x : Ce), j < L.length → L[j]? = some x → atB n s x = false) : rfindI L n s = -1 := by
  have hf : rfind L n s = L.length := by
    unfold rfind
    rw [List.findIdx_eq_length]
    intro x hx
    obtain ⟨j, hj⟩ := List.mem_iff_getElem?.1 hx
    rw [hb j x (List.getElem?_eq_some_iff.1 hj).1 hj]
  unfold rfindI
  rw [hf, if_neg (by omega)]

set_option maxHeartbeats 1000000 in
theorem find_at (M c : Nat) (sv : Value) (L : List Ce) (last n s : Int) (w : World) (h : RefAt M w c sv L last) (hl : L.length ≤ 1000) :
    Calls Tryz.prog 72 #[.pointer (some ⟨c, 0, none⟩), .int .i64 n, .int .i64 s] w fun e w' => e = .returned (.int .i64 (rfindI L n s)) ∧ w' = w := by
  obtain ⟨a, cap, hsv⟩ := h.form
  have c0 := h.c0
  have HH : Hid _ := h
  clear h
  subst hsv
  go_enter Tryz.func72, Tryz.ntmps72
  go_wp2
  go_loopw [7] (fun i wr => ∃ (k : Nat), k ≤ L.length ∧ i = .int .i64 k ∧ Hid (∀ (j : Nat) (x : Ce), j < k → L[j]? = some x → atB n s x = false) ∧ wr = w) (fun i _ => L.length - (intOf i).toNat)
  case atStart => exact ⟨0, by omega, rfl, (show Hid _ from fun j x hj => absurd hj (Nat.not_lt_zero _)), rfl⟩
  case round =>
    obtain ⟨k, hk, rfl, HN, hwr⟩ := hrel
    subst hwr
    by_cases hlt : k < L.length
    · obtain ⟨d, hd⟩ : ∃ d, L[k]? = some d := ⟨L[k], List.getElem?_eq_getElem hlt⟩
      obtain ⟨g, cap', e, ⟨⟨d0, d1, d2, d3⟩, d4⟩⟩ := HH.out.at hd
      simp only [Value.slice.injEq] at e
      obtain ⟨rfl, _, rfl⟩ := e
      have HY : Hid (atB n s d = true → rfindI L n s = (k : Int)) := fun h => rfind_hit hd h HN.out
      have HM : Hid (atB n s d = false → ∀ (j : Nat) (x : Ce), j < k + 1 → L[j]? = some x → atB n s x = false) := by
        intro hf j x hj hx
        by_cases e : j = k
        · rw [e, hd] at hx
          cases hx
          exact hf
        · exact HN.out j x (by omega) hx
      clear hd d4 HN
      obtain ⟨no, ob, env, slot, x⟩ := d
      dsimp only [atB] at *
      by_cases he : env = n
      · subst he
        by_cases hs : slot = s
        · subst hs
          have HF := HY.out (by simp)
          clear HY HM
          go_wp2
          go_ret
          exact ⟨by rw [HF]; rfl, rfl⟩
        · have HF : Hid _ := HM.out (by simp [hs])
          have hse : (slot == s) = false := by simp [hs]
          clear HY HM
          go_wp2
          go_roundw
          case rel => exact ⟨k + 1, by omega, by go_num, HF, by first | rfl | trivial⟩
          case measure => simp [intOf]; omega
      · have HF : Hid _ := HM.out (by simp [he])
        have hee : (env == n) = false := by simp [he]
        clear HY HM
        go_wp2
        go_roundw
        case rel => exact ⟨k + 1, by omega, by go_num, HF, by first | rfl | trivial⟩
        case measure => simp [intOf]; omega
    · obtain rfl : k = L.length := by omega
      have HF : Hid (rfindI L n s = -1) := rfind_miss HN.out
      go_wp2
      go_ret
      exact ⟨by rw [HF.out]; rfl, rfl⟩

/-- The lowest free slot; 0: there is none. -/
def rfree (L : List Ce) (n : Int) : Int := if (List.range 64).findIdx (fun s => decide (rfindI L n ((s + 1 : Nat) : Int) < 0)) < 64 then (((List.range 64).findIdx (fun s => decide (rfindI L n ((s + 1 : Nat) : Int) < 0)) + 1 : Nat) : Int) else 0
theorem rfree_hit {L : List Ce} {n : Int} {k : Nat} (hk : k < 64) (h : rfindI L n ((k + 1 : Nat) : Int) < 0) (hb : ∀ j, j < k → 0 ≤ rfindI L n ((j + 1 : Nat) : Int)) : rfree L n = ((k + 1 : Nat) : Int) := by
  have hf : (List.range 64).findIdx (fun s => decide (rfindI L n ((s + 1 : Nat) : Int) < 0)) = k := by
    rw [List.findIdx_eq (by simpa using hk)]
    refine ⟨by simpa using h, fun j hj => ?_⟩
    simpa using hb j hj
  unfold rfree
  rw [hf, if_pos hk]
theorem rfree_miss {L : List Ce} {n : Int} (hb : ∀ j, j < 64 → 0 ≤ rfindI L n ((j + 1 : Nat) : Int)) : rfree L n = 0 := by
  have hf : (List.range 64).findIdx (fun s => decide (rfindI L n ((s + 1 : Nat) : Int) < 0)) = (List.range 64).length := by
    rw [List.findIdx_eq_length]
    intro s hs
    rw [List.mem_range] at hs
    simpa using hb s hs
  unfold rfree
  rw [hf, if_neg (by simp)]
theorem free_at (M c : Nat) (sv : Value) (L : List Ce) (last n : Int) (w : World) (h : RefAt M w c sv L last) (hl : L.length ≤ 1000) :
    Calls Tryz.prog 106 #[.pointer (some ⟨c, 0, none⟩), .int .i64 n] w fun e w' => e = .returned (.int .i64 (rfree L n)) ∧ w' = w := by
  have HH : Hid _ := h
  clear h
  go_enter Tryz.func106, Tryz.ntmps106
  go_wp2
  go_loopw [5] (fun i wr => ∃ (k : Nat), k ≤ 64 ∧ i = .int .i64 (k + 1 : Nat) ∧ Hid (∀ j, j < k → 0 ≤ rfindI L n ((j + 1 : Nat) : Int)) ∧ wr = w) (fun i _ => 65 - (intOf i).toNat)
  case atStart => exact ⟨0, by omega, rfl, (show Hid _ from fun j hj => absurd hj (Nat.not_lt_zero _)), rfl⟩
  case round =>
    obtain ⟨k, hk, rfl, HN, hwr⟩ := hrel
    subst hwr
    by_cases hlt : k < 64
    · have hf := find_at M c sv L last n (k + 1 : Nat) wr HH.out hl
      have HY : Hid (rfindI L n ((k + 1 : Nat) : Int) < 0 → rfree L n = ((k + 1 : Nat) : Int)) := fun h => rfree_hit hlt h HN.out
      have HM : Hid (0 ≤ rfindI L n ((k + 1 : Nat) : Int) → ∀ j, j < k + 1 → 0 ≤ rfindI L n ((j + 1 : Nat) : Int)) := by
        intro h j hj
        by_cases e : j = k
        · rw [e]; exact h
        · exact HN.out j (by omega)
      clear HN
      generalize rfindI L n ((k + 1 : Nat) : Int) = F at *
      by_cases hF : F < 0
      · have HF := HY.out hF
        clear HY HM
        go_wp2_with (go_at_call 72; refine hf.mono ?_; rintro e w1 ⟨rfl, hw1⟩; rw [hw1]; clear hw1 w1)
        go_ret
        exact ⟨by rw [HF]; rfl, rfl⟩
      · have HF : Hid _ := HM.out (by omega)
        clear HY HM
        go_wp2_with (go_at_call 72; refine hf.mono ?_; rintro e w1 ⟨rfl, hw1⟩; rw [hw1]; clear hw1 w1)
        go_roundw
        case rel => exact ⟨k + 1, by omega, by go_num, HF, by first | rfl | trivial⟩
        case measure => simp [intOf]; omega
    · obtain rfl : k = 64 := by omega
      have HF : Hid (rfree L n = 0) := rfree_miss HN.out
      go_wp2
      go_ret
      exact ⟨by rw [HF.out]; rfl, rfl⟩
end Ca
end Go.Proofs.YtfnafjddajgahaaGreat
