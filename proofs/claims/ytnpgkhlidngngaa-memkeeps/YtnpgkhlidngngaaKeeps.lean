/- Proved: januslaw01.MemKeeps answers true for every two deeds (what was written is read, and no other word changes), at the commit of this claim; no condition beyond the row's own. -/
import Derived.Test.YtnpgkhlidngngaaMemE
import Derived.Test.YtnpgkhlidngngaaLists
import Derived.Test.YtnpgkhlidngngaaWords
import Derived.ProofKit
import Derived.OpenShut
import Derived.ChangeOld
import Derived.Below
import Derived.Lib.SmallJoins
namespace Go.Proofs.Ytnpgkhlidngngaa
open Go.ChangeShapes Go.WideShapes Go.ChangeAt Go.RowKit Go.Joins
set_option linter.unusedVariables false

/-- A deed as a value. -/
def deed (k f d v : Int) : Array Value := #[.int .i64 k, .int .i64 f, .int .i64 d, .int .u64 v]
/-- A deed's box. -/
def DeedAt (w : World) (g : Nat) (k f d v : Int) : Prop := w.heap[g]? = some (.cells #[.int .i64 k, .int .i64 f, .int .i64 d, .int .u64 v] 29)
theorem DeedAt.c1 {w : World} {g : Nat} {k f d v : Int} (h : DeedAt w g k f d v) : w.cell? ⟨g, 1, none⟩ = some (.int .i64 f) := by rw [cell_of_heap h]; rfl
theorem DeedAt.c2 {w : World} {g : Nat} {k f d v : Int} (h : DeedAt w g k f d v) : w.cell? ⟨g, 2, none⟩ = some (.int .i64 d) := by rw [cell_of_heap h]; rfl
theorem DeedAt.c3 {w : World} {g : Nat} {k f d v : Int} (h : DeedAt w g k f d v) : w.cell? ⟨g, 3, none⟩ = some (.int .u64 v) := by rw [cell_of_heap h]; rfl
theorem DeedAt.keep {w w' : World} {g : Nat} {k f d v : Int} (h : DeedAt w g k f d v) (e : w'.heap[g]? = w.heap[g]?) : DeedAt w' g k f d v := e.trans h

set_option maxHeartbeats 1000000 in
theorem keeps_no1 (k1 f1 d1 v1 k2 f2 d2 v2 : Int) (w : World) (hno : ¬ (0 ≤ f1 ∧ f1 < 4 ∧ 0 ≤ d1 ∧ d1 < 32)) :
    Calls Try.prog 4 #[.agg #[.int .i64 k1, .int .i64 f1, .int .i64 d1, .int .u64 v1], .agg #[.int .i64 k2, .int .i64 f2, .int .i64 d2, .int .u64 v2]] w fun e w' => e = .returned (.bool true) ∧ Below w.heap.size w w' := by
  have HN : Hid _ := hno
  clear hno
  go_enter Try.func4, Try.ntmps4
  go_wp2_with fail
  refine (new_at 4 _ (by omega) (by omega)).mono ?_
  rintro e w1 ⟨rfl, hm1, hb1, hs1⟩
  simp only [World.size_alloc] at hm1 hb1 hs1
  have hA : DeedAt w1 w.heap.size k1 f1 d1 v1 := by
    show w1.heap[w.heap.size]? = _
    rw [hb1.block _ (by omega), Below.heap_alloc _ _ _ (by simp), heap_alloc_new]
  have hB : DeedAt w1 (w.heap.size + 1) k2 f2 d2 v2 := by
    show w1.heap[w.heap.size + 1]? = _
    rw [hb1.block _ (by omega)]
    simpa using heap_alloc_new (w.alloc _) _
  have c1 := hA.c1
  have c2 := hA.c2
  have c3 := hA.c3
  have HS1 : Hid _ := hs1
  have HB1 : Hid (Below w.heap.size w w1) := (((Below.refl _ _).alloc (Nat.le_refl _) _).alloc (by simp) _).trans (hb1.mono (by omega))
  clear hs1 hb1
  go_wp2_with fail
  refine (writeno_at _ _ _ _ _ _ _ _ hm1 HN).mono ?_
  rintro e w2 ⟨rfl, rfl⟩
  go_wp2_with fail
  refine (awake_any _).mono ?_
  rintro e w3 ⟨rfl, hb3⟩
  go_wp2_with fail
  go_ret
  exact ⟨rfl, Below.trans HB1.out (hb3.mono (Below.size HB1.out))⟩

set_option maxHeartbeats 1000000 in
theorem keeps_no2 (k1 f1 d1 v1 k2 f2 d2 v2 : Int) (w : World) (hyes : 0 ≤ f1 ∧ f1 < 4 ∧ 0 ≤ d1 ∧ d1 < 32) (hno : ¬ (0 ≤ f2 ∧ f2 < 4 ∧ 0 ≤ d2 ∧ d2 < 32)) :
    Calls Try.prog 4 #[.agg #[.int .i64 k1, .int .i64 f1, .int .i64 d1, .int .u64 v1], .agg #[.int .i64 k2, .int .i64 f2, .int .i64 d2, .int .u64 v2]] w fun e w' => e = .returned (.bool true) ∧ Below w.heap.size w w' := by
  have HN : Hid _ := hno
  obtain ⟨y1, y2, y3, y4⟩ := hyes
  clear hno
  go_enter Try.func4, Try.ntmps4
  go_wp2_with fail
  refine (new_at 4 _ (by omega) (by omega)).mono ?_
  rintro e w1 ⟨rfl, hm1, hb1, hs1⟩
  simp only [World.size_alloc] at hm1 hb1 hs1
  have hA : DeedAt w1 w.heap.size k1 f1 d1 v1 := by
    show w1.heap[w.heap.size]? = _
    rw [hb1.block _ (by omega), Below.heap_alloc _ _ _ (by simp), heap_alloc_new]
  have hB : DeedAt w1 (w.heap.size + 1) k2 f2 d2 v2 := by
    show w1.heap[w.heap.size + 1]? = _
    rw [hb1.block _ (by omega)]
    simpa using heap_alloc_new (w.alloc _) _
  have c1 := hA.c1
  have c2 := hA.c2
  have c3 := hA.c3
  have hs1' : w1.heap.size = w.heap.size + 4 := by omega
  have HS1 : Hid _ := hs1'
  have HB1 : Hid (Below w.heap.size w w1) := (((Below.refl _ _).alloc (Nat.le_refl _) _).alloc (by simp) _).trans (hb1.mono (by omega))
  clear hs1 hs1' hb1
  go_wp2_with fail
  refine (write_at _ _ _ _ _ _ _ _ hm1 y1 y2 y3 y4).mono ?_
  rintro e w2 ⟨rfl, hm2, hu2⟩
  have hB2 : DeedAt w2 (w.heap.size + 1) k2 f2 d2 v2 := hB.keep (hu2.block _ (by have := HS1.out; omega) (by simp))
  have c1 := hB2.c1
  have c2 := hB2.c2
  have c3 := hB2.c3
  go_wp2_with fail
  refine (writeno_at _ _ _ _ _ _ _ _ hm2 HN).mono ?_
  rintro e w2 ⟨rfl, rfl⟩
  go_wp2_with fail
  refine (awake_any _).mono ?_
  rintro e w3 ⟨rfl, hb3⟩
  go_wp2_with fail
  go_ret
  have hb2 := Below.trans HB1.out (hu2.below (B := w.heap.size) (by omega) (Below.size HB1.out))
  exact ⟨rfl, Below.trans hb2 (hb3.mono hb2.size)⟩

theorem zeros_getD (m i : Nat) : (List.replicate m (0 : Int)).getD i 0 = 0 := by
  rw [List.getD_eq_getElem?_getD, List.getElem?_replicate]
  split <;> rfl

/-- The ways of the law's test, and what the word is in each. -/
theorem keep_ways (n m f1 d1 f2 d2 x : Int) (h : ¬ (n = f1 ∧ m = d1) → ¬ (n = f2 ∧ m = d2) → x = 0) :
    ((n != f1) = false ∧ (m != d1) = false) ∨ (((n != f1) = true ∨ ((n != f1) = false ∧ (m != d1) = true)) ∧
      (((n != f2) = false ∧ (m != d2) = false) ∨ ((n != f2) = true ∧ x = 0) ∨ ((n != f2) = false ∧ (m != d2) = true ∧ x = 0))) := by
  simp only [bne_eq_false_iff_eq, bne_iff_ne, ne_eq]
  by_cases a1 : n = f1 <;> by_cases b1 : m = d1 <;> by_cases a2 : n = f2 <;> by_cases b2 : m = d2 <;> simp_all

/-- What is in the memory behind both writes. -/
theorem keeps_lists (f1 d1 v1 f2 d2 v2 : Int) (y1 : 0 ≤ f1) (y2 : f1 < 4) (y3 : 0 ≤ d1) (y4 : d1 < 32) (z1 : 0 ≤ f2) (z2 : f2 < 4) (z3 : 0 ≤ d2) (z4 : d2 < 32) :
    ∃ M : List Int, ((List.replicate (4 * 32) (0 : Int)).set (f1.toNat * 32 + d1.toNat) v1).set (f2.toNat * 32 + d2.toNat) v2 = M ∧ M.getD (f2.toNat * 32 + d2.toNat) 0 = v2 ∧
      ((f1 ≠ f2 ∨ d1 ≠ d2) → M.getD (f1.toNat * 32 + d1.toNat) 0 = v1) ∧
      ∀ i k : Nat, i < 4 → k < 32 → ¬ ((i : Int) = f1 ∧ (k : Int) = d1) → ¬ ((i : Int) = f2 ∧ (k : Int) = d2) → M.getD (i * 32 + k) 0 = 0 := by
  refine ⟨_, rfl, ?_, ?_, ?_⟩
  · rw [set_getD _ _ _ _ (by first | (rw [List.length_set, List.length_replicate]; omega) | (rw [List.length_replicate]; omega)), if_pos rfl]
  · intro h
    rw [set_getD _ _ _ _ (by rw [List.length_set, List.length_replicate]; omega), if_neg (by omega), set_getD _ _ _ _ (by first | (rw [List.length_set, List.length_replicate]; omega) | (rw [List.length_replicate]; omega)), if_pos rfl]
  · intro i k hi hk n1 n2
    rw [set_getD _ _ _ _ (by rw [List.length_set, List.length_replicate]; omega), if_neg (by omega), set_getD _ _ _ _ (by rw [List.length_replicate]; omega), if_neg (by omega)]
    exact zeros_getD _ _

theorem read_val (b g n : Nat) (vs : List Int) (f k x : Int) (w : World) (h : MemAt w b g n vs) (h0 : 0 ≤ f) (h1 : f < n) (h2 : 0 ≤ k) (h3 : k < 32) (hx : vs.getD (f.toNat * 32 + k.toNat) 0 = x) :
    Calls Try.prog 10 #[.pointer (some ⟨b, 0, none⟩), .int .i64 f, .int .i64 k] w fun e w' => e = .returned (.tuple #[.int .u64 x, .int .i64 0]) ∧ w' = w := by
  subst hx
  exact read_at b g n vs f k w h h0 h1 h2 h3

set_option maxHeartbeats 4000000 in
theorem keeps_yes (k1 f1 d1 v1 k2 f2 d2 v2 : Int) (w : World) (y1 : 0 ≤ f1) (y2 : f1 < 4) (y3 : 0 ≤ d1) (y4 : d1 < 32) (z1 : 0 ≤ f2) (z2 : f2 < 4) (z3 : 0 ≤ d2) (z4 : d2 < 32) :
    Calls Try.prog 4 #[.agg #[.int .i64 k1, .int .i64 f1, .int .i64 d1, .int .u64 v1], .agg #[.int .i64 k2, .int .i64 f2, .int .i64 d2, .int .u64 v2]] w fun e w' => e = .returned (.bool true) ∧ Below w.heap.size w w' := by
  obtain ⟨M, eM, r2, r1, rz⟩ := keeps_lists f1 d1 v1 f2 d2 v2 y1 y2 y3 y4 z1 z2 z3 z4
  have EM : Hid _ := eM
  have R2 : Hid _ := r2
  have R1 : Hid _ := r1
  have RZ : Hid _ := rz
  clear eM r1 r2 rz
  obtain ⟨x1, X1⟩ : ∃ x, Hid (M.getD (f1.toNat * 32 + d1.toNat) 0 = x) := ⟨_, rfl⟩
  have hcase : (f1 ≠ f2 ∧ x1 = v1) ∨ (f1 = f2 ∧ d1 ≠ d2 ∧ x1 = v1) ∨ (f1 = f2 ∧ d1 = d2) := by
    have := X1.out
    have := R1.out
    by_cases e1 : f1 = f2
    · by_cases e2 : d1 = d2
      · exact .inr (.inr ⟨e1, e2⟩)
      · exact .inr (.inl ⟨e1, e2, by rw [← X1.out]; exact R1.out (.inr e2)⟩)
    · exact .inl ⟨e1, by rw [← X1.out]; exact R1.out (.inl e1)⟩
  have HCASE : Hid _ := hcase
  clear hcase
  go_enter Try.func4, Try.ntmps4
  go_wp2_with fail
  refine (new_at 4 _ (by omega) (by omega)).mono ?_
  rintro e w1 ⟨rfl, hm1, hb1, hs1⟩
  simp only [World.size_alloc] at hm1 hb1 hs1
  have hA : DeedAt w1 w.heap.size k1 f1 d1 v1 := by
    show w1.heap[w.heap.size]? = _
    rw [hb1.block _ (by omega), Below.heap_alloc _ _ _ (by simp), heap_alloc_new]
  have hB : DeedAt w1 (w.heap.size + 1) k2 f2 d2 v2 := by
    show w1.heap[w.heap.size + 1]? = _
    rw [hb1.block _ (by omega)]
    simpa using heap_alloc_new (w.alloc _) _
  have c1 := hA.c1
  have c2 := hA.c2
  have c3 := hA.c3
  have hs1' : w1.heap.size = w.heap.size + 4 := by omega
  have HS1 : Hid _ := hs1'
  have HB1 : Hid (Below w.heap.size w w1) := (((Below.refl _ _).alloc (Nat.le_refl _) _).alloc (by simp) _).trans (hb1.mono (by omega))
  clear hs1 hs1' hb1
  go_wp2_with fail
  refine (write_at _ _ _ _ _ _ _ _ hm1 y1 y2 y3 y4).mono ?_
  rintro e w2 ⟨rfl, hm2, hu2⟩
  have hA2 : DeedAt w2 w.heap.size k1 f1 d1 v1 := hA.keep (hu2.block _ (by have := HS1.out; omega) (by omega))
  have hB2 : DeedAt w2 (w.heap.size + 1) k2 f2 d2 v2 := hB.keep (hu2.block _ (by have := HS1.out; omega) (by omega))
  clear c1 c2 c3 hA hB hm1
  have c1 := hB2.c1
  have c2 := hB2.c2
  have c3 := hB2.c3
  go_wp2_with fail
  refine (write_at _ _ _ _ _ _ _ _ hm2 z1 z2 z3 z4).mono ?_
  rintro e w3 ⟨rfl, hm3, hu3⟩
  have hm3' : MemAt w3 (w.heap.size + 1 + 1 + 1) (w.heap.size + 1 + 1) 4 M := by rw [← EM.out]; exact hm3
  have hA3 : DeedAt w3 w.heap.size k1 f1 d1 v1 := hA2.keep (hu3.block _ (by have := HS1.out; have := hu2.size; omega) (by omega))
  have hB3 : DeedAt w3 (w.heap.size + 1) k2 f2 d2 v2 := hB2.keep (hu3.block _ (by have := HS1.out; have := hu2.size; omega) (by omega))
  have HB3 : Hid (Below w.heap.size w w3 ∧ w.heap.size + 4 ≤ w3.heap.size) := by
    have h1 := HS1.out
    have h2 := hu2.size
    have h3 := hu3.size
    exact ⟨((HB1.out).trans (hu2.below (by omega) (Below.size HB1.out))).trans (hu3.below (by omega) (by omega)), by omega⟩
  clear c1 c2 c3 hA2 hB2 hm2 hm3 hu2 hu3 EM HB1 HS1
  have a1 := hA3.c1
  have a2 := hA3.c2
  have a3 := hA3.c3
  have b1 := hB3.c1
  have b2 := hB3.c2
  have b3 := hB3.c3
  go_wp2_with fail
  refine (read_val _ _ _ _ _ _ x1 _ hm3' y1 y2 y3 y4 X1).mono ?_
  rintro e w4 ⟨rfl, rfl⟩
  go_wp2_with fail
  refine (read_val _ _ _ _ _ _ v2 _ hm3' z1 z2 z3 z4 R2).mono ?_
  rintro e w5 ⟨rfl, rfl⟩
  rcases HCASE.out with ⟨n1, e1⟩ | ⟨n1, n2, e1⟩ | ⟨n1, n2⟩
  case inl =>
    subst e1
    have t1 : (f1 != f2) = true := by simpa using n1
    clear HCASE n1
    go_wp2_with fail
    go_loopw [10, 11] (fun s i wr => ∃ n : Nat, n ≤ 4 ∧ s = .int .u64 0 ∧ i = .int .i64 n ∧ MemAt wr (w.heap.size + 1 + 1 + 1) (w.heap.size + 1 + 1) 4 M ∧ Below (w.heap.size + 4) w5 wr) (fun _ i _ => 4 - (intOf i).toNat)
    case atStart => exact ⟨0, Nat.zero_le _, rfl, rfl, hm3', Below.refl _ _⟩
    case round =>
      obtain ⟨n, hn, rfl, rfl, hm, hb⟩ := hrel
      have a1' := hb.cell (p := ⟨w.heap.size, 1, none⟩) (by show w.heap.size < w.heap.size + 4; omega)
      have a2' := hb.cell (p := ⟨w.heap.size, 2, none⟩) (by show w.heap.size < w.heap.size + 4; omega)
      have b1' := hb.cell (p := ⟨w.heap.size + 1, 1, none⟩) (by show w.heap.size + 1 < w.heap.size + 4; omega)
      have b2' := hb.cell (p := ⟨w.heap.size + 1, 2, none⟩) (by show w.heap.size + 1 < w.heap.size + 4; omega)
      have b3' := hb.cell (p := ⟨w.heap.size + 1, 3, none⟩) (by show w.heap.size + 1 < w.heap.size + 4; omega)
      rw [a1] at a1'
      rw [a2] at a2'
      rw [b1] at b1'
      rw [b2] at b2'
      rw [b3] at b3'
      have hz5 := hb.size
      by_cases hlt : n < 4
      · go_wp2_with fail
        refine (page_at _ _ _ _ n _ hm (by omega) (by omega)).mono ?_
        rintro e w6 ⟨rfl, hp6, hb6, hs6⟩
        have HS6 : Hid _ := hs6
        have HP6 : Hid _ := hp6
        have hz3 : w.heap.size + 4 ≤ w5.heap.size := (HB3.out).2
        have A1 := (hb6.cell (p := ⟨w.heap.size, 1, none⟩) (by simp; omega)).trans a1'
        have A2 := (hb6.cell (p := ⟨w.heap.size, 2, none⟩) (by simp; omega)).trans a2'
        have B1 := (hb6.cell (p := ⟨w.heap.size + 1, 1, none⟩) (by simp; omega)).trans b1'
        have B2 := (hb6.cell (p := ⟨w.heap.size + 1, 2, none⟩) (by simp; omega)).trans b2'
        have hm6 := hm.below hb6
        have HB6 : Hid (Below (w.heap.size + 4) w5 w6) := hb.trans (hb6.mono (by omega))
        clear hs6 hp6 hb6 a1' a2' b1' b2' b3' a1 a2 a3 b1 b2 b3 hA3 hB3
        go_wp2_with fail
        go_loop [10, 13] (fun s k => ∃ m : Nat, m ≤ 32 ∧ s = .int .u64 0 ∧ k = .int .i64 m) (fun _ k => 32 - (intOf k).toNat)
        case atStart => exact ⟨0, Nat.zero_le _, rfl, rfl⟩
        case round =>
          obtain ⟨m, hmm, rfl, rfl⟩ := hrel
          by_cases hlt2 : m < 32
          · obtain ⟨x, hx, hcx⟩ : ∃ x : Int, (¬ ((n : Int) = f1 ∧ (m : Int) = d1) → ¬ ((n : Int) = f2 ∧ (m : Int) = d2) → x = 0) ∧ w6.cell? ⟨wr.heap.size, m, none⟩ = some (.int .u64 x) := by
              have hl := frameOf_length M n 4 hm.len hlt
              have hc := row_cell HP6.out m (by show m < (frameOf M n).length; rw [hl]; exact hlt2)
              refine ⟨M.getD (n * 32 + m) 0, RZ.out n m hlt hlt2, ?_⟩
              rw [Nat.zero_add] at hc
              rw [hc]
              exact congrArg (fun x => some (Value.int .u64 x)) (frameOf_getD M n m hlt2)
            have way := keep_ways n m f1 d1 f2 d2 x hx
            clear hx
            rcases way with ⟨s1, s2⟩ | ⟨s1 | ⟨s1, s2⟩, ⟨s3, s4⟩ | ⟨s3, rfl⟩ | ⟨s3, s4, rfl⟩⟩
            all_goals
              go_wp2_with fail
              go_round
              case rel => exact ⟨m + 1, by omega, rfl, by go_num⟩
              case measure => simp [intOf]; omega
          · go_wp2_with fail
            go_roundw
            case rel => exact ⟨n + 1, by omega, rfl, by go_num, hm6, HB6.out⟩
            case measure => simp [intOf]; omega
      · go_wp2_with fail
        refine (awake_any _).mono ?_
        rintro e w6 ⟨rfl, hb6⟩
        go_wp2_with fail
        go_ret
        have q := HB3.out
        exact ⟨rfl, (q.1.trans (hb.mono (by omega))).trans (hb6.mono (by omega))⟩
  case inr.inl =>
    subst e1
    have t1 : (f1 != f2) = false := by simpa using n1
    have t2 : (d1 != d2) = true := by simpa using n2
    clear HCASE n1 n2
    go_wp2_with fail
    go_loopw [10, 11] (fun s i wr => ∃ n : Nat, n ≤ 4 ∧ s = .int .u64 0 ∧ i = .int .i64 n ∧ MemAt wr (w.heap.size + 1 + 1 + 1) (w.heap.size + 1 + 1) 4 M ∧ Below (w.heap.size + 4) w5 wr) (fun _ i _ => 4 - (intOf i).toNat)
    case atStart => exact ⟨0, Nat.zero_le _, rfl, rfl, hm3', Below.refl _ _⟩
    case round =>
      obtain ⟨n, hn, rfl, rfl, hm, hb⟩ := hrel
      have a1' := hb.cell (p := ⟨w.heap.size, 1, none⟩) (by show w.heap.size < w.heap.size + 4; omega)
      have a2' := hb.cell (p := ⟨w.heap.size, 2, none⟩) (by show w.heap.size < w.heap.size + 4; omega)
      have b1' := hb.cell (p := ⟨w.heap.size + 1, 1, none⟩) (by show w.heap.size + 1 < w.heap.size + 4; omega)
      have b2' := hb.cell (p := ⟨w.heap.size + 1, 2, none⟩) (by show w.heap.size + 1 < w.heap.size + 4; omega)
      have b3' := hb.cell (p := ⟨w.heap.size + 1, 3, none⟩) (by show w.heap.size + 1 < w.heap.size + 4; omega)
      rw [a1] at a1'
      rw [a2] at a2'
      rw [b1] at b1'
      rw [b2] at b2'
      rw [b3] at b3'
      have hz5 := hb.size
      by_cases hlt : n < 4
      · go_wp2_with fail
        refine (page_at _ _ _ _ n _ hm (by omega) (by omega)).mono ?_
        rintro e w6 ⟨rfl, hp6, hb6, hs6⟩
        have HS6 : Hid _ := hs6
        have HP6 : Hid _ := hp6
        have hz3 : w.heap.size + 4 ≤ w5.heap.size := (HB3.out).2
        have A1 := (hb6.cell (p := ⟨w.heap.size, 1, none⟩) (by simp; omega)).trans a1'
        have A2 := (hb6.cell (p := ⟨w.heap.size, 2, none⟩) (by simp; omega)).trans a2'
        have B1 := (hb6.cell (p := ⟨w.heap.size + 1, 1, none⟩) (by simp; omega)).trans b1'
        have B2 := (hb6.cell (p := ⟨w.heap.size + 1, 2, none⟩) (by simp; omega)).trans b2'
        have hm6 := hm.below hb6
        have HB6 : Hid (Below (w.heap.size + 4) w5 w6) := hb.trans (hb6.mono (by omega))
        clear hs6 hp6 hb6 a1' a2' b1' b2' b3' a1 a2 a3 b1 b2 b3 hA3 hB3
        go_wp2_with fail
        go_loop [10, 13] (fun s k => ∃ m : Nat, m ≤ 32 ∧ s = .int .u64 0 ∧ k = .int .i64 m) (fun _ k => 32 - (intOf k).toNat)
        case atStart => exact ⟨0, Nat.zero_le _, rfl, rfl⟩
        case round =>
          obtain ⟨m, hmm, rfl, rfl⟩ := hrel
          by_cases hlt2 : m < 32
          · obtain ⟨x, hx, hcx⟩ : ∃ x : Int, (¬ ((n : Int) = f1 ∧ (m : Int) = d1) → ¬ ((n : Int) = f2 ∧ (m : Int) = d2) → x = 0) ∧ w6.cell? ⟨wr.heap.size, m, none⟩ = some (.int .u64 x) := by
              have hl := frameOf_length M n 4 hm.len hlt
              have hc := row_cell HP6.out m (by show m < (frameOf M n).length; rw [hl]; exact hlt2)
              refine ⟨M.getD (n * 32 + m) 0, RZ.out n m hlt hlt2, ?_⟩
              rw [Nat.zero_add] at hc
              rw [hc]
              exact congrArg (fun x => some (Value.int .u64 x)) (frameOf_getD M n m hlt2)
            have way := keep_ways n m f1 d1 f2 d2 x hx
            clear hx
            rcases way with ⟨s1, s2⟩ | ⟨s1 | ⟨s1, s2⟩, ⟨s3, s4⟩ | ⟨s3, rfl⟩ | ⟨s3, s4, rfl⟩⟩
            all_goals
              go_wp2_with fail
              go_round
              case rel => exact ⟨m + 1, by omega, rfl, by go_num⟩
              case measure => simp [intOf]; omega
          · go_wp2_with fail
            go_roundw
            case rel => exact ⟨n + 1, by omega, rfl, by go_num, hm6, HB6.out⟩
            case measure => simp [intOf]; omega
      · go_wp2_with fail
        refine (awake_any _).mono ?_
        rintro e w6 ⟨rfl, hb6⟩
        go_wp2_with fail
        go_ret
        have q := HB3.out
        exact ⟨rfl, (q.1.trans (hb.mono (by omega))).trans (hb6.mono (by omega))⟩
  case inr.inr =>
    have t1 : (f1 != f2) = false := by simpa using n1
    have t2 : (d1 != d2) = false := by simpa using n2
    clear HCASE n1 n2
    go_wp2_with fail
    go_loopw [10, 11] (fun s i wr => ∃ n : Nat, n ≤ 4 ∧ s = .int .u64 0 ∧ i = .int .i64 n ∧ MemAt wr (w.heap.size + 1 + 1 + 1) (w.heap.size + 1 + 1) 4 M ∧ Below (w.heap.size + 4) w5 wr) (fun _ i _ => 4 - (intOf i).toNat)
    case atStart => exact ⟨0, Nat.zero_le _, rfl, rfl, hm3', Below.refl _ _⟩
    case round =>
      obtain ⟨n, hn, rfl, rfl, hm, hb⟩ := hrel
      have a1' := hb.cell (p := ⟨w.heap.size, 1, none⟩) (by show w.heap.size < w.heap.size + 4; omega)
      have a2' := hb.cell (p := ⟨w.heap.size, 2, none⟩) (by show w.heap.size < w.heap.size + 4; omega)
      have b1' := hb.cell (p := ⟨w.heap.size + 1, 1, none⟩) (by show w.heap.size + 1 < w.heap.size + 4; omega)
      have b2' := hb.cell (p := ⟨w.heap.size + 1, 2, none⟩) (by show w.heap.size + 1 < w.heap.size + 4; omega)
      have b3' := hb.cell (p := ⟨w.heap.size + 1, 3, none⟩) (by show w.heap.size + 1 < w.heap.size + 4; omega)
      rw [a1] at a1'
      rw [a2] at a2'
      rw [b1] at b1'
      rw [b2] at b2'
      rw [b3] at b3'
      have hz5 := hb.size
      by_cases hlt : n < 4
      · go_wp2_with fail
        refine (page_at _ _ _ _ n _ hm (by omega) (by omega)).mono ?_
        rintro e w6 ⟨rfl, hp6, hb6, hs6⟩
        have HS6 : Hid _ := hs6
        have HP6 : Hid _ := hp6
        have hz3 : w.heap.size + 4 ≤ w5.heap.size := (HB3.out).2
        have A1 := (hb6.cell (p := ⟨w.heap.size, 1, none⟩) (by simp; omega)).trans a1'
        have A2 := (hb6.cell (p := ⟨w.heap.size, 2, none⟩) (by simp; omega)).trans a2'
        have B1 := (hb6.cell (p := ⟨w.heap.size + 1, 1, none⟩) (by simp; omega)).trans b1'
        have B2 := (hb6.cell (p := ⟨w.heap.size + 1, 2, none⟩) (by simp; omega)).trans b2'
        have hm6 := hm.below hb6
        have HB6 : Hid (Below (w.heap.size + 4) w5 w6) := hb.trans (hb6.mono (by omega))
        clear hs6 hp6 hb6 a1' a2' b1' b2' b3' a1 a2 a3 b1 b2 b3 hA3 hB3
        go_wp2_with fail
        go_loop [10, 13] (fun s k => ∃ m : Nat, m ≤ 32 ∧ s = .int .u64 0 ∧ k = .int .i64 m) (fun _ k => 32 - (intOf k).toNat)
        case atStart => exact ⟨0, Nat.zero_le _, rfl, rfl⟩
        case round =>
          obtain ⟨m, hmm, rfl, rfl⟩ := hrel
          by_cases hlt2 : m < 32
          · obtain ⟨x, hx, hcx⟩ : ∃ x : Int, (¬ ((n : Int) = f1 ∧ (m : Int) = d1) → ¬ ((n : Int) = f2 ∧ (m : Int) = d2) → x = 0) ∧ w6.cell? ⟨wr.heap.size, m, none⟩ = some (.int .u64 x) := by
              have hl := frameOf_length M n 4 hm.len hlt
              have hc := row_cell HP6.out m (by show m < (frameOf M n).length; rw [hl]; exact hlt2)
              refine ⟨M.getD (n * 32 + m) 0, RZ.out n m hlt hlt2, ?_⟩
              rw [Nat.zero_add] at hc
              rw [hc]
              exact congrArg (fun x => some (Value.int .u64 x)) (frameOf_getD M n m hlt2)
            have way := keep_ways n m f1 d1 f2 d2 x hx
            clear hx
            rcases way with ⟨s1, s2⟩ | ⟨s1 | ⟨s1, s2⟩, ⟨s3, s4⟩ | ⟨s3, rfl⟩ | ⟨s3, s4, rfl⟩⟩
            all_goals
              go_wp2_with fail
              go_round
              case rel => exact ⟨m + 1, by omega, rfl, by go_num⟩
              case measure => simp [intOf]; omega
          · go_wp2_with fail
            go_roundw
            case rel => exact ⟨n + 1, by omega, rfl, by go_num, hm6, HB6.out⟩
            case measure => simp [intOf]; omega
      · go_wp2_with fail
        refine (awake_any _).mono ?_
        rintro e w6 ⟨rfl, hb6⟩
        go_wp2_with fail
        go_ret
        have q := HB3.out
        exact ⟨rfl, (q.1.trans (hb.mono (by omega))).trans (hb6.mono (by omega))⟩

theorem keeps_walk (k1 f1 d1 v1 k2 f2 d2 v2 : Int) (w : World) :
    Calls Try.prog 4 #[.agg #[.int .i64 k1, .int .i64 f1, .int .i64 d1, .int .u64 v1], .agg #[.int .i64 k2, .int .i64 f2, .int .i64 d2, .int .u64 v2]] w fun e w' => e = .returned (.bool true) ∧ Below w.heap.size w w' := by
  by_cases h1 : 0 ≤ f1 ∧ f1 < 4 ∧ 0 ≤ d1 ∧ d1 < 32
  · by_cases h2 : 0 ≤ f2 ∧ f2 < 4 ∧ 0 ≤ d2 ∧ d2 < 32
    · exact keeps_yes k1 f1 d1 v1 k2 f2 d2 v2 w h1.1 h1.2.1 h1.2.2.1 h1.2.2.2 h2.1 h2.2.1 h2.2.2.1 h2.2.2.2
    · exact keeps_no2 k1 f1 d1 v1 k2 f2 d2 v2 w h1 h2
  · exact keeps_no1 k1 f1 d1 v1 k2 f2 d2 v2 w h1

theorem own : ownKnob Try.prog.godebug = none := by kernel_rfl
theorem laidOut : laidOutB Try.prog = true := by kernel_rfl

set_option maxRecDepth 100000 in
theorem keeps_lifted (os : Os) (started : os.Started) (H : Type) (enc : TypeId × Value → H) :
    ReturnsInHanded {} Try.checked os 4 .any (Rows.memKeepsSpec.pre6 enc Try.prog Try.f4 Rows.memKeepsRow.domain false) (Rows.memKeepsSpec.post enc Try.prog Try.f4 false true false false) := by
  refine returnsInHanded_of_change (C := Try.checked) own started (by kernel_rfl) Try.func4
    (ChangeSpec.witness6 (enc := enc) (C := Try.checked) false ⟨#[], #[.agg #[.int .i64 0, .int .i64 0, .int .i64 0, .int .u64 0], .agg #[.int .i64 0, .int .i64 0, .int .i64 0, .int .u64 0]], []⟩ 8 (by kernel_rfl) (by kernel_rfl) (by kernel_rfl) (by kernel_rfl)) ?_
  intro W base args ds gs before hval0 hW hcnd _
  have hval : ∀ (j : Nat) t v, Try.f4.params[j]? = some t → args[j]? = some v → Value.okWide Try.prog W .any base t v := hval0
  have hW' := hW
  obtain ⟨p, q, hA0, hV, rfl, hfz, hnd⟩ := hW
  have hA : DataW.TrodAll enc Try.prog W 0 (fun _ => true) true Try.f4.params.toList args.toList ds p := hA0
  rw [Try.params4] at hA hval
  obtain ⟨v0, vs0, d0, ds0, p0, q0, hargs, rfl, rfl, h0, r0⟩ := trodAll_cons hA
  obtain ⟨v1, vs1, d1, ds1, p1, q1, rfl, rfl, rfl, h1, r1⟩ := trodAll_cons r0
  obtain ⟨rfl, rfl, rfl⟩ := trodAll_nil r1
  obtain rfl : args = #[v0, v1] := by cases args; simp_all
  obtain ⟨rfl, rfl⟩ := trodVars_none hV
  have k0 := h0
  have lt0 : ∀ x ∈ p0, x.block < W.heap.size := by obtain ⟨m, hm⟩ := k0; exact DataW.trod_lt m _ _ _ hm
  have k1 := h1
  have lt1 : ∀ x ∈ p1, x.block < W.heap.size := by obtain ⟨m, hm⟩ := k1; exact DataW.trod_lt m _ _ _ hm
  obtain ⟨x0, x1, x2, x3, rfl⟩ : ∃ x0 x1 x2 x3 : Int, v0 = .agg #[.int .i64 x0, .int .i64 x1, .int .i64 x2, .int .u64 x3] := by
    obtain ⟨c0, c1, c2, c3, y0, y1, y2, y3, m, rfl, rfl, rfl, hy0, hy1, hy2, hy3⟩ := open_agg4 Try.underlying29 (by kernel_rfl) (by kernel_rfl) (hval 0 29 v0 rfl rfl) h0
    obtain ⟨x0, e0, _, _⟩ := DataW.trod_int Try.underlying3 hy0
    obtain ⟨x1, e1, _, _⟩ := DataW.trod_int Try.underlying3 hy1
    obtain ⟨x2, e2, _, _⟩ := DataW.trod_int Try.underlying3 hy2
    obtain ⟨x3, e3, _, _⟩ := DataW.trod_int Try.underlying27 hy3
    simp at e0 e1 e2 e3
    subst e0 e1 e2 e3
    exact ⟨x0, x1, x2, x3, rfl⟩
  obtain ⟨u0, u1, u2, u3, rfl⟩ : ∃ x0 x1 x2 x3 : Int, v1 = .agg #[.int .i64 x0, .int .i64 x1, .int .i64 x2, .int .u64 x3] := by
    obtain ⟨c0, c1, c2, c3, y0, y1, y2, y3, m, rfl, rfl, rfl, hy0, hy1, hy2, hy3⟩ := open_agg4 Try.underlying29 (by kernel_rfl) (by kernel_rfl) (hval 1 29 v1 rfl rfl) h1
    obtain ⟨x0, e0, _, _⟩ := DataW.trod_int Try.underlying3 hy0
    obtain ⟨x1, e1, _, _⟩ := DataW.trod_int Try.underlying3 hy1
    obtain ⟨x2, e2, _, _⟩ := DataW.trod_int Try.underlying3 hy2
    obtain ⟨x3, e3, _, _⟩ := DataW.trod_int Try.underlying27 hy3
    simp at e0 e1 e2 e3
    subst e0 e1 e2 e3
    exact ⟨x0, x1, x2, x3, rfl⟩
  clear hA0 hval0
  refine (keeps_walk x0 x1 x2 x3 u0 u1 u2 u3 W).mono fun e W' ⟨he, bel⟩ => ?_
  subst he
  exact ⟨_, rfl, _, _, _, [], _, [], hW', trodAll_mk1 (shut_bool Try.underlying4 _), (trodAll_cons_mk (Below.trod laidOut (by kernel_rfl) (of_decide_eq_true (by kernel_rfl)) k0 bel lt0) (trodAll_cons_mk (Below.trod laidOut (by kernel_rfl) (of_decide_eq_true (by kernel_rfl)) k1 bel lt1) trodAll_mk0)), rfl, bel.frame _, fun h => by cases h⟩

theorem keeps_holds : Rows.MemKeepsSaid :=
  OpenClaim.holds_of_wide 4 Try.f4 rfl rfl rfl rfl rfl rfl rfl ⟨rfl, rfl, rfl, rfl, rfl⟩ rfl rfl rfl rfl rfl (by kernel_rfl) Try.func4 (by kernel_rfl)
    (of_decide_eq_true (by kernel_rfl)) (by unfold Func.isWrapper; first | (rw [if_pos (by decide +kernel)]; kernel_rfl) | (rw [if_neg (by decide +kernel)]; exact ⟨rfl, rfl⟩))
    (fun os started H enc _ => keeps_lifted os started H enc)
#print axioms keeps_holds
end Go.Proofs.Ytnpgkhlidngngaa
