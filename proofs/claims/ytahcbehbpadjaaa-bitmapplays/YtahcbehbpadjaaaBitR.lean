/- The reference of layer 14 in the heap: New, Used, Take, Mark, Left, Words, Of. -/
import Derived.Test.YtahcbehbpadjaaaBitL
namespace Go.Proofs.Ytahcbehbpadjaaa
open Go.ChangeShapes Go.WideShapes Go.ChangeAt Go.RowKit Go.Lib
set_option linter.unusedVariables false

/-- Block c holds a reference map, block h its bools. -/
structure RbAt (w : World) (c h : Nat) (L : List Bool) : Prop where
  head : w.heap[c]? = some (.cells #[.slice (some ⟨h, 0, none⟩) L.length L.length] 36)
  bl : BlAt w h L
  pos : 1 ≤ L.length
  le : L.length ≤ 1024
section
variable {w w' : World} {c h : Nat} {L : List Bool}
theorem RbAt.ne (k : RbAt w c h L) : c ≠ h := by
  intro e
  subst e
  have q := k.head
  rw [k.bl.row] at q
  injection q with q1
  injection q1 with _ q2
  exact absurd q2 (by decide)
theorem RbAt.c0 (k : RbAt w c h L) : w.cell? ⟨c, 0, none⟩ = some (.slice (some ⟨h, 0, none⟩) L.length L.length) := by rw [cell_of_heap k.head]; rfl
theorem RbAt.ltc (k : RbAt w c h L) : c < w.heap.size := lt_of_heap k.head
theorem RbAt.lth (k : RbAt w c h L) : h < w.heap.size := lt_of_heap k.bl.row
theorem RbAt.below (k : RbAt w c h L) (hb : Below w.heap.size w w') : RbAt w' c h L := ⟨(hb.block c k.ltc).trans k.head, k.bl.below hb, k.pos, k.le⟩
theorem RbAt.upd {g : Nat} (k : RbAt w c h L) (hu : Upd g w w') (h1 : c ≠ g) (h2 : h ≠ g) : RbAt w' c h L := ⟨(hu.block c k.ltc h1).trans k.head, k.bl.upd hu h2, k.pos, k.le⟩
theorem RbAt.set (k : RbAt w c h L) (i : Nat) (v : Bool) : RbAt (w.setCell ⟨h, i, none⟩ (.bool v)) c h (L.set i v) :=
  ⟨by rw [Below.heap_setCell _ _ _ _ k.ne, k.head, List.length_set], k.bl.set i v, by rw [List.length_set]; exact k.pos, by rw [List.length_set]; exact k.le⟩
end
/-- The bools as a function. -/
def bf (L : List Bool) (i : Nat) : Bool := L.getD i false
theorem bf_set (L : List Bool) (k j : Nat) (x : Bool) (hk : k < L.length) : bf (L.set k x) j = if j = k then x else bf L j := bgetD_set L k j x hk

theorem rnew_no (n : Int) (w : World) (h : n < 1 ∨ 1024 < n) :
    Calls Try.prog 8 #[.int .i64 n] w fun e w' => e = .returned (.pointer none) ∧ w' = w := by
  rcases h with h | h
  · go_enter Try.func8, Try.ntmps8
    go_wp2
    go_ret
    exact ⟨rfl, rfl⟩
  · have h' : ¬ n < 1 := by omega
    go_enter Try.func8, Try.ntmps8
    go_wp2
    go_ret
    exact ⟨rfl, rfl⟩
theorem rnew_at (n : Nat) (w : World) (h : 1 ≤ n) (h2 : n ≤ 1024) :
    Calls Try.prog 8 #[.int .i64 (n : Int)] w fun e w' => e = .returned (.pointer (some ⟨w.heap.size + 1, 0, none⟩)) ∧
      RbAt w' (w.heap.size + 1) w.heap.size (List.replicate n false) ∧ Below w.heap.size w w' ∧ w'.heap.size = w.heap.size + 2 := by
  have hmk := fun w => make_bools n h2 w
  go_enter Try.func8, Try.ntmps8
  go_wp2
  go_ret
  refine ⟨rfl, ⟨?_, ⟨?_⟩, by simpa using h, by simpa using h2⟩, below_alloc2 _ _ _, by simp⟩
  · have := heap_alloc_new (w.alloc (.cells (brow (List.replicate n false)) 4)) (.cells #[.slice (some ⟨w.heap.size, 0, none⟩) n n] 36)
    simpa using this
  · rw [Below.heap_alloc _ _ _ (by simp)]
    exact heap_alloc_new _ _

/-- Whether there is such a bit, and it is used. -/
def rusedB (L : List Bool) (i : Int) : Bool := inB i L.length && bf L i.toNat
theorem rused_at (c h : Nat) (L : List Bool) (f : Int) (w : World) (k : RbAt w c h L) :
    Calls Try.prog 14 #[.pointer (some ⟨c, 0, none⟩), .int .i64 f] w fun e w' => e = .returned (.bool (rusedB L f)) ∧ w' = w := by
  have c0 := k.c0
  by_cases h0 : 0 ≤ f
  · have g0 : decide (0 ≤ f) = true := decide_eq_true h0
    by_cases h1 : f < L.length
    · obtain ⟨i, rfl⟩ : ∃ i : Nat, f = (i : Int) := ⟨f.toNat, by omega⟩
      have hi : i < L.length := by omega
      have c1 := k.bl.cell hi
      have HR : Hid (rusedB L i = L.getD i false) := by show _ = _; unfold rusedB; rw [inB_nat hi]; rfl
      have g1 : decide ((i : Int) < (L.length : Int)) = true := decide_eq_true h1
      clear k
      generalize L.getD i false = x at *
      generalize L.length = N at *
      go_enter Try.func14, Try.ntmps14
      go_wp2
      all_goals
        go_ret
        exact ⟨by rw [HR.out]; rfl, rfl⟩
    · have g1 : decide (f < (L.length : Int)) = false := decide_eq_false h1
      have HR : Hid (rusedB L f = false) := by show _ = _; unfold rusedB; rw [inB_no (by omega)]; rfl
      clear k
      generalize L.length = N at *
      go_enter Try.func14, Try.ntmps14
      go_wp2
      all_goals
        go_ret
        exact ⟨by rw [HR.out]; rfl, rfl⟩
  · have g0 : decide (0 ≤ f) = false := decide_eq_false h0
    have HR : Hid (rusedB L f = false) := by show _ = _; unfold rusedB; rw [inB_no (by omega)]; rfl
    clear k
    generalize L.length = N at *
    go_enter Try.func14, Try.ntmps14
    go_wp2
    all_goals
      go_ret
      exact ⟨by rw [HR.out]; rfl, rfl⟩

/-- What Mark leaves. -/
def rmarkL (L : List Bool) (f : Int) (on : Bool) : List Bool := if inB f L.length = true then L.set f.toNat on else L
theorem rmark_at (c h : Nat) (L : List Bool) (f : Int) (on : Bool) (w : World) (k : RbAt w c h L) :
    Calls Try.prog 12 #[.pointer (some ⟨c, 0, none⟩), .int .i64 f, .bool on] w fun e w' => e = .returned (.int .i64 (markR L.length f)) ∧ RbAt w' c h (rmarkL L f on) ∧ Upd h w w' := by
  have c0 := k.c0
  have HK : Hid _ := k
  by_cases hin : 0 ≤ f ∧ f < L.length
  · obtain ⟨i, rfl⟩ : ∃ i : Nat, f = (i : Int) := ⟨f.toNat, by omega⟩
    have hi : i < L.length := by omega
    have c1 := k.bl.cell hi
    have f1 := k.bl.free i
    have HR : Hid (markR L.length i = 0) := by show _ = _; unfold markR; rw [inB_nat hi]; rfl
    have HL : Hid (rmarkL L i on = L.set i on) := by show _ = _; unfold rmarkL; rw [inB_nat hi]; rfl
    have g0 : decide ((i : Int) < 0) = false := decide_eq_false (by omega)
    have g1 : decide ((L.length : Int) ≤ (i : Int)) = false := decide_eq_false (by omega)
    have hiN : (i : Int) < (L.length : Int) := by omega
    clear k hin
    generalize L.getD i false = x at *
    generalize hN : L.length = N at *
    clear hN
    go_enter Try.func12, Try.ntmps12
    go_wp2
    go_ret
    exact ⟨by rw [HR.out]; rfl, by rw [HL.out]; exact RbAt.set HK.out i on, Upd.setCell _ _ _ _⟩
  · have HR : Hid (markR L.length f = 101) := by show _ = _; unfold markR; rw [inB_no hin]; rfl
    have HL : Hid (rmarkL L f on = L) := by show _ = _; unfold rmarkL; rw [inB_no hin]; rfl
    have hor : (decide (f < 0) = true) ∨ (decide (f < 0) = false ∧ decide ((L.length : Int) ≤ f) = true) := by
      rcases Int.lt_or_le f 0 with q | q
      · exact Or.inl (decide_eq_true q)
      · exact Or.inr ⟨decide_eq_false (by omega), decide_eq_true (by omega)⟩
    clear k hin
    generalize hN : L.length = N at *
    clear hN
    rcases hor with g0 | ⟨g0, g1⟩
    all_goals
      go_enter Try.func12, Try.ntmps12
      go_wp2
      go_ret
      exact ⟨by rw [HR.out]; rfl, by rw [HL.out]; exact HK.out, Upd.refl _ _⟩

/-- What Take leaves, if it answers r. -/
def rtakeL (L : List Bool) (r : Int) : List Bool := if 0 ≤ r then L.set r.toNat true else L
set_option maxHeartbeats 800000 in
theorem rtake_at (c h : Nat) (L : List Bool) (w : World) (k : RbAt w c h L) :
    Calls Try.prog 10 #[.pointer (some ⟨c, 0, none⟩)] w fun e w' => ∃ r, e = .returned (.int .i64 r) ∧ Low (bf L) L.length r ∧ RbAt w' c h (rtakeL L r) ∧ Upd h w w' := by
  have c0 := k.c0
  have HK : Hid _ := k
  have hle := k.le
  have HC : Hid (∀ i, i < L.length → w.cell? ⟨h, i, none⟩ = some (.bool (bf L i))) := fun i hi => k.bl.cell hi
  have HF : Hid (∀ i, w.frozen? ⟨h, i, none⟩ = false) := k.bl.free
  clear k
  obtain ⟨N, hN⟩ : ∃ N, N = L.length := ⟨_, rfl⟩
  rw [← hN] at c0 HC hle ⊢
  clear hN
  go_enter Try.func10, Try.ntmps10
  go_wp2
  go_loopw [3] (fun s wr => ∃ (i : Nat), i ≤ N ∧ s = .int .i64 i ∧ (∀ j, j < i → bf L j = true) ∧ wr = w) (fun s _ => N - (intOf s).toNat)
  case atStart => exact ⟨0, by omega, rfl, fun j hj => by omega, rfl⟩
  case round =>
    obtain ⟨i, hi, rfl, hA, rfl⟩ := hrel
    have HA : Hid _ := hA
    clear hA
    by_cases hlt : i < N
    · have hii : (i : Int) < (N : Int) := by omega
      have c1 := HC.out i hlt
      have f1 := HF.out i
      cases hB : bf L i with
      | true =>
        rw [hB] at c1
        have HB : Hid (bf L i = true) := hB
        clear hB
        go_wp2
        go_roundw
        case rel =>
          refine ⟨i + 1, by omega, by go_num, fun j hj => ?_, by trivial⟩
          by_cases e : j = i
          · rw [e]; exact HB.out
          · exact HA.out j (by omega)
        case measure => simp [intOf]; omega
      | false =>
        rw [hB] at c1
        have HB : Hid (bf L i = false) := hB
        clear hB
        have HT : Hid (rtakeL L i = L.set i true) := by show _ = _; simp [rtakeL]
        go_wp2
        go_ret
        exact ⟨_, rfl, Or.inl ⟨i, rfl, hlt, HA.out, HB.out⟩, by rw [HT.out]; exact RbAt.set HK.out i true, Upd.setCell _ _ _ _⟩
    · obtain rfl : i = N := by omega
      have HT : Hid (rtakeL L (-1) = L) := by show _ = _; simp [rtakeL]
      go_wp2
      go_ret
      exact ⟨_, rfl, Or.inr ⟨rfl, HA.out⟩, by rw [HT.out]; exact HK.out, Upd.refl _ _⟩

set_option maxHeartbeats 800000 in
theorem rleft_at (c h : Nat) (L : List Bool) (w : World) (k : RbAt w c h L) :
    Calls Try.prog 17 #[.pointer (some ⟨c, 0, none⟩)] w fun e w' => e = .returned (.int .i64 ((cntF (bf L) L.length : Nat) : Int)) ∧ w' = w := by
  have c0 := k.c0
  have hle := k.le
  have HC : Hid (∀ i, i < L.length → w.cell? ⟨h, i, none⟩ = some (.bool (bf L i))) := fun i hi => k.bl.cell hi
  clear k
  obtain ⟨N, hN⟩ : ∃ N, N = L.length := ⟨_, rfl⟩
  rw [← hN] at c0 HC hle ⊢
  clear hN
  go_enter Try.func17, Try.ntmps17
  go_wp2
  go_loopw [3, 4] (fun u s wr => ∃ (i m : Nat), i ≤ N ∧ s = .int .i64 i ∧ u = .int .i64 m ∧ Hid (m = cntF (bf L) i) ∧ m ≤ i ∧ wr = w) (fun _ s _ => N - (intOf s).toNat)
  case atStart => exact ⟨0, 0, by omega, rfl, rfl, rfl, by omega, rfl⟩
  case round =>
    obtain ⟨i, m, hi, rfl, rfl, HA, hm, rfl⟩ := hrel
    by_cases hlt : i < N
    · have hii : (i : Int) < (N : Int) := by omega
      have c1 := HC.out i hlt
      cases hB : bf L i with
      | true =>
        rw [hB] at c1
        have HB : Hid (bf L i = true) := hB
        clear hB
        go_wp2
        go_roundw
        case rel =>
          refine ⟨i + 1, m, by omega, by go_num, rfl, ?_, by omega, by trivial⟩
          show _ = _
          unfold cntF
          rw [HB.out, ← HA.out]
          rfl
        case measure => simp [intOf]; omega
      | false =>
        rw [hB] at c1
        have HB : Hid (bf L i = false) := hB
        clear hB
        go_wp2
        go_roundw
        case rel =>
          refine ⟨i + 1, m + 1, by omega, by go_num, by go_num, ?_, by omega, by trivial⟩
          show _ = _
          unfold cntF
          rw [HB.out, ← HA.out]
          rfl
        case measure => simp [intOf]; omega
    · obtain rfl : i = N := by omega
      go_wp2
      go_ret
      exact ⟨by rw [← HA.out]; rfl, rfl⟩
end Go.Proofs.Ytahcbehbpadjaaa
