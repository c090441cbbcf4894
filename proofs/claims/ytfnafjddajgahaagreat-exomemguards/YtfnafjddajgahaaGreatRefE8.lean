/- The reference of package caps: Add, Give. -/
import Derived.Test.YtfnafjddajgahaaGreatRefD8
import Derived.Deep.RegionWith
namespace Go.Proofs.YtfnafjddajgahaaGreat
open Go.RowKit
namespace Ca
set_option linter.unusedVariables false

def raddA (L : List Ce) (n : Int) (x : Cp) : Int := if addOK n x = true then rputA L n else 0
def raddE (L : List Ce) (n : Int) (x : Cp) : Int := if addOK n x = true then rputE L n else 101
def raddL (L : List Ce) (last n : Int) (x : Cp) : List Ce := if addOK n x = true then rputL L last n 0 x else L
def raddN (L : List Ce) (last n : Int) (x : Cp) : Int := if addOK n x = true then rputN L last n else last

set_option maxHeartbeats 1000000 in
theorem radd_at (M c : Nat) (sv : Value) (L : List Ce) (last n : Int) (x : Cp) (w : World) (h : RefAt M w c sv L last) (hM : M ≤ w.heap.size) (hl : L.length ≤ 900) (hla : 0 ≤ last ∧ last ≤ 100000) :
    Calls Tryz.prog 59 #[.pointer (some ⟨c, 0, none⟩), .int .i64 n, .agg (cpRow x)] w fun e w' => e = .returned (.tuple #[.int .i64 (raddA L n x), .int .i64 (raddE L n x)]) ∧ ∃ sv', RefAt M w' c sv' (raddL L last n x) (raddN L last n x) ∧ Upd c w w' := by
  obtain ⟨W, hW⟩ : ∃ W, W = w.alloc (.cells (cpRow x) 95) := ⟨_, rfl⟩
  have HB : Hid (Below w.heap.size w W) := by rw [hW]; exact below_alloc _ _
  have HC : Hid (RefAt M W c sv L last) := h.below HB.out
  have HI : Hid (W.heap[w.heap.size]? = some (.cells (cpRow x) 95)) := by rw [hW]; exact heap_alloc_new _ _
  have hE := renv_at n
  have hMa := rmay_at x
  have hlt := h.lt
  clear h
  cases hn : isE n with
  | false =>
    rw [hn] at hE
    have HA : Hid (addOK n x = false) := by show addOK n x = false; simp [addOK, hn]
    obtain ⟨k, i, l, r⟩ := x
    dsimp only [cpRow] at *
    clear hn hMa
    go_enter Tryz.func59, Tryz.ntmps59
    go_wp2_with (go_at_call 52; refine (hE _).mono ?_; rintro e w1 ⟨rfl, hw1⟩; rw [hw1]; clear hw1 w1)
    go_ret2
    rw [← hW]
    refine ⟨?_, sv, ?_, Upd.of_below HB.out⟩
    · simp [raddA, raddE, HA.out]
    · unfold raddL raddN
      rw [HA.out]
      exact HC.out
  | true =>
    rw [hn] at hE
    cases hx : mayB x with
    | false =>
      rw [hx] at hMa
      have HA : Hid (addOK n x = false) := by show addOK n x = false; simp [addOK, hx]
      obtain ⟨c0, c1, c2, c3⟩ := cap_cells HI.out
      obtain ⟨k, i, l, r⟩ := x
      dsimp only [cpRow] at *
      clear hn hx
      go_enter Tryz.func59, Tryz.ntmps59
      go_wp2_with fail
      rw [← hW]
      clear hW
      refine (hE _).mono ?_
      rintro e w1 ⟨rfl, hw1⟩
      rw [hw1]
      clear hw1 w1
      go_wp2_with fail
      refine (hMa _).mono ?_
      rintro e w1 ⟨rfl, hb1⟩
      go_wp2
      go_ret2
      refine ⟨?_, sv, ?_, Upd.of_below (HB.out.trans (hb1.mono HB.out.size))⟩
      · simp [raddA, raddE, HA.out]
      · unfold raddL raddN
        rw [HA.out]
        exact HC.out.below hb1
    | true =>
      rw [hx] at hMa
      have HA : Hid (addOK n x = true) := by show addOK n x = true; simp [addOK, hn, hx]
      have hp := fun W hC hW => rput_at M c sv L last n 0 x W hC hW hl hla
      obtain ⟨c0, c1, c2, c3⟩ := cap_cells HI.out
      have HI2 : Hid (∀ w1, Below W.heap.size W w1 → w1.heap[w.heap.size]? = some (.cells (cpRow x) 95)) := fun w1 hb1 => (hb1.block _ (lt_of_heap HI.out)).trans HI.out
      have HS : Hid (w.heap.size ≤ W.heap.size) := HB.out.size
      obtain ⟨k, i, l, r⟩ := x
      dsimp only [cpRow] at *
      clear hn hx
      go_enter Tryz.func59, Tryz.ntmps59
      go_wp2_with fail
      rw [← hW]
      clear hW
      refine (hE _).mono ?_
      rintro e w1 ⟨rfl, hw1⟩
      rw [hw1]
      clear hw1 w1
      go_wp2_with fail
      refine (hMa _).mono ?_
      rintro e w1 ⟨rfl, hb1⟩
      obtain ⟨d0, d1, d2, d3⟩ := cap_cells (x := ⟨k, i, l, r⟩) (HI2.out w1 hb1)
      dsimp only at d0 d1 d2 d3
      clear c0 c1 c2 c3
      go_wp2_with fail
      refine (hp w1 (HC.out.below hb1) (Nat.le_trans hM (Nat.le_trans HS.out hb1.size))).mono ?_
      rintro e w2 ⟨rfl, sv', hC2, hU2⟩
      go_wp2
      go_ret2
      refine ⟨?_, sv', ?_, (Upd.of_below (HB.out.trans (hb1.mono HB.out.size))).trans hU2⟩
      · simp [raddA, raddE, HA.out]
      · unfold raddL raddN
        rw [HA.out]
        exact hC2

theorem rgive_no (M c : Nat) (sv : Value) (L : List Ce) (last n s to r : Int) (w : World) (h : RefAt M w c sv L last) (hl : L.length ≤ 900) (hf : rfindI L n s = -1) :
    Calls Tryz.prog 33 #[.pointer (some ⟨c, 0, none⟩), .int .i64 n, .int .i64 s, .int .i64 to, .int .i64 r] w fun e w' => e = .returned (.tuple #[.int .i64 0, .int .i64 104]) ∧ w' = w := by
  have hfa := find_at M c sv L last n s w h (by omega)
  rw [hf] at hfa
  clear h hf
  go_enter Tryz.func33, Tryz.ntmps33
  go_wp2_with (go_at_call 72; refine hfa.mono ?_; rintro e w1 ⟨rfl, hw1⟩; rw [hw1]; clear hw1 w1)
  go_ret2
  exact ⟨rfl, rfl⟩

def rgiveA (L : List Ce) (x : Cp) (to r : Int) : Int := if mayG x r = true then (if isE to = true then rputA L to else 0) else 0
def rgiveE (L : List Ce) (x : Cp) (to r : Int) : Int := if mayG x r = true then (if isE to = true then rputE L to else 101) else 104
def rgiveL (L : List Ce) (last : Int) (d : Ce) (to r : Int) : List Ce := if mayG d.x r = true then (if isE to = true then rputL L last to d.no ⟨d.x.kind, d.x.id, d.x.len, r⟩ else L) else L
def rgiveN (L : List Ce) (last : Int) (d : Ce) (to r : Int) : Int := if mayG d.x r = true then (if isE to = true then rputN L last to else last) else last

theorem box3 {w : World} {g : Nat} {x0 x1 x2 x3 v : Value} {t : TypeId} (h : w.heap[g]? = some (.cells #[x0, x1, x2, x3] t)) : (w.setCell ⟨g, 3, none⟩ v).heap[g]? = some (.cells #[x0, x1, x2, v] t) := by
  rw [setCell_eq_setRow w g 3 _ _ _ _ h, setRow_heap w g _ _ _ _ h]
  rfl

set_option maxRecDepth 100000 in
set_option maxHeartbeats 4000000 in
theorem rgive_yes (M c : Nat) (sv : Value) (L : List Ce) (last n s to r : Int) (k : Nat) (d : Ce) (w : World) (h : RefAt M w c sv L last) (hM : M ≤ w.heap.size) (hl : L.length ≤ 900) (hla : 0 ≤ last ∧ last ≤ 100000) (hf : rfindI L n s = (k : Int)) (hd : L[k]? = some d) :
    Calls Tryz.prog 33 #[.pointer (some ⟨c, 0, none⟩), .int .i64 n, .int .i64 s, .int .i64 to, .int .i64 r] w fun e w' => e = .returned (.tuple #[.int .i64 (rgiveA L d.x to r), .int .i64 (rgiveE L d.x to r)]) ∧ ∃ sv', RefAt M w' c sv' (rgiveL L last d to r) (rgiveN L last d to r) ∧ Upd c w w' := by
  have hfa := find_at M c sv L last n s w h (by omega)
  rw [hf] at hfa
  obtain ⟨g, cap, hsv, ⟨⟨d0, d1, d2, d3⟩, d4, d5, d6, d7⟩⟩ := h.at hd
  have c0 := h.c0
  have hkl : k < L.length := (List.getElem?_eq_some_iff.1 hd).1
  have hki : (k : Int) < (L.length : Int) := by omega
  have HG : Hid (mayG d.x r = ((bits .and .i64 d.x.rights 4 != 0) && areR r && (bits .andNot .i64 r d.x.rights == 0))) := rfl
  have hE := renv_at to
  have HH : Hid _ := h
  have hlt := h.lt
  have hp := fun (W : World) (hC : RefAt M W c sv L last) (hW : M ≤ W.heap.size) => rput_at M c sv L last to d.no ⟨d.x.kind, d.x.id, d.x.len, r⟩ W hC hW hl hla
  have HA : Hid (rgiveA L d.x to r = (if mayG d.x r = true then (if isE to = true then rputA L to else 0) else 0)) := rfl
  have HE2 : Hid (rgiveE L d.x to r = (if mayG d.x r = true then (if isE to = true then rputE L to else 101) else 104)) := rfl
  have HL : Hid (rgiveL L last d to r = (if mayG d.x r = true then (if isE to = true then rputL L last to d.no ⟨d.x.kind, d.x.id, d.x.len, r⟩ else L) else L)) := rfl
  have HN : Hid (rgiveN L last d to r = (if mayG d.x r = true then (if isE to = true then rputN L last to else last) else last)) := rfl
  have hil : (L.length : Int) ≤ 900 := by omega
  clear h hf hd
  generalize rgiveA L d.x to r = A at *
  generalize rgiveE L d.x to r = E at *
  generalize rgiveL L last d to r = LL at *
  generalize rgiveN L last d to r = NN at *
  generalize mayG d.x r = G at *
  subst hsv
  obtain ⟨no, ob, env, slot, ⟨x0, x1, x2, x3⟩⟩ := d
  dsimp only [cpRow, areR] at *
  go_enter Tryz.func33, Tryz.ntmps33
  go_wp2_with fail
  refine hfa.mono ?_
  rintro e w1 ⟨rfl, hw1⟩
  rw [hw1]
  clear hw1 w1 hfa
  have no4 : G = false → (A = 0 ∧ E = 104 ∧ LL = L ∧ NN = last) := by
    intro hg
    rw [HA.out, HE2.out, HL.out, HN.out, hg]
    exact ⟨rfl, rfl, rfl, rfl⟩
  by_cases g0 : bits .and .i64 x3 4 = 0
  · have hq : (bits .and .i64 x3 4 == 0) = true := by simp [g0]
    obtain ⟨rfl, rfl, rfl, rfl⟩ := no4 (by rw [HG.out, g0]; rfl)
    go_wp2
    go_ret2
    exact ⟨rfl, _, HH.out, Upd.refl _ _⟩
  · have hq : (bits .and .i64 x3 4 == 0) = false := by simp [g0]
    by_cases g1 : r < 1
    · obtain ⟨rfl, rfl, rfl, rfl⟩ := no4 (by rw [HG.out]; have : decide (1 ≤ r) = false := decide_eq_false (by omega)
                                             rw [this]; simp)
      have gd : decide (r < 1) = true := decide_eq_true g1
      go_wp2
      go_ret2
      exact ⟨rfl, _, HH.out, Upd.refl _ _⟩
    · have gd : decide (r < 1) = false := decide_eq_false g1
      by_cases g2 : 7 < r
      · obtain ⟨rfl, rfl, rfl, rfl⟩ := no4 (by rw [HG.out]; have : decide (r ≤ 7) = false := decide_eq_false (by omega)
                                               rw [this]; simp)
        have ge : decide (7 < r) = true := decide_eq_true g2
        go_wp2
        go_ret2
        exact ⟨rfl, _, HH.out, Upd.refl _ _⟩
      · have ge : decide (7 < r) = false := decide_eq_false g2
        by_cases g3 : bits .andNot .i64 r x3 = 0
        · have hz : (bits .andNot .i64 r x3 != 0) = false := by simp [g3]
          have hG : G = true := by
            rw [HG.out, g3]
            have e1 : decide (1 ≤ r) = true := decide_eq_true (by omega)
            have e2 : decide (r ≤ 7) = true := decide_eq_true (by omega)
            rw [e1, e2]
            simp [g0]
          clear no4 HG
          rw [hG] at HA HE2 HL HN
          clear hG
          cases ht : isE to with
          | false =>
            rw [ht] at hE HA HE2 HL HN
            obtain ⟨rfl, rfl, rfl, rfl⟩ : A = 0 ∧ E = 101 ∧ LL = L ∧ NN = last := ⟨HA.out, HE2.out, HL.out, HN.out⟩
            clear HA HE2 HL HN
            go_wp2_with (go_at_call 52; refine (hE _).mono ?_; rintro e w1 ⟨rfl, hw1⟩; rw [hw1]; clear hw1 w1)
            go_ret2
            exact ⟨rfl, _, HH.out, Upd.refl _ _⟩
          | true =>
            rw [ht] at hE HA HE2 HL HN
            obtain ⟨W, hW⟩ : ∃ W, W = w.alloc (.cells #[.int .i64 x0, .int .i64 x1, .int .i64 x2, .int .i64 r] 95) := ⟨_, rfl⟩
            have hbW : Below w.heap.size w W := by rw [hW]; exact below_alloc _ _
            have HB : Hid _ := hbW
            have hbox : W.heap[w.heap.size]? = some (.cells #[.int .i64 x0, .int .i64 x1, .int .i64 x2, .int .i64 r] 95) := by rw [hW]; exact heap_alloc_new _ _
            obtain ⟨q0, q1, q2, q3⟩ := cap_cells (x := ⟨x0, x1, x2, r⟩) hbox
            dsimp only at q0 q1 q2 q3
            have hRW := HH.out.below hbW
            have p0 := hRW.c0
            have p1 := (hbW.cell (cell_lt d0)).trans d0
            have hPW := hp W.drew (hRW.below (Below.refl _ _).drew) (Nat.le_trans hM hbW.size)
            have HW : Hid _ := hW
            clear hW hbW hbox hRW
            go_wp2_with (go_at_call 52; refine (hE _).mono ?_; rintro e w1 ⟨rfl, hw1⟩; rw [hw1]; clear hw1 w1)
            rw [← HW.out]
            clear d0 d1 d2 d3 d4 d5 d6 d7 c0
            go_region_with (go_at_call 73; refine hPW.mono ?_; rintro e w2 ⟨rfl, sv', hC2, hU2⟩)
            all_goals
              go_wp2
              go_ret2
              refine ⟨?_, sv', ?_, (Upd.of_below (HB.out.drew)).trans hU2⟩
              · rw [HA.out, HE2.out]
                rfl
              · rw [HL.out, HN.out]
                exact hC2
        · have hz : (bits .andNot .i64 r x3 != 0) = true := by simp [g3]
          obtain ⟨rfl, rfl, rfl, rfl⟩ := no4 (by rw [HG.out]; simp [g3])
          go_wp2
          go_ret2
          exact ⟨rfl, _, HH.out, Upd.refl _ _⟩
end Ca
end Go.Proofs.YtfnafjddajgahaaGreat
