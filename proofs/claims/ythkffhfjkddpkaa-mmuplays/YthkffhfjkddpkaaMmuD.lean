/- The contracts of package mmu's TLB: what it keeps lies in a row of threes. -/
import Derived.Test.YthkffhfjkddpkaaMmuC
namespace Go.Proofs.Ythkffhfjkddpkaa
open Go.RowKit
set_option linter.unusedVariables false

/-- Kept pages as cells: the page, its frame, whether it is writable. -/
def flat (ks : List (Int × Int × Bool)) : List Value := ks.flatMap (fun e => [.int .i64 e.1, .int .i64 e.2.1, .bool e.2.2])

theorem flat_len (ks : List (Int × Int × Bool)) : (flat ks).length = ks.length * 3 := by
  induction ks with
  | nil => rfl
  | cons e r ih => simp only [flat, List.flatMap_cons, List.length_append] at ih ⊢; rw [ih]; simp; omega
theorem flat_append (a b : List (Int × Int × Bool)) : flat (a ++ b) = flat a ++ flat b := by simp [flat]
theorem flat_get (ks : List (Int × Int × Bool)) (i : Nat) (e : Int × Int × Bool) (h : ks[i]? = some e) :
    (flat ks)[i * 3]? = some (.int .i64 e.1) ∧ (flat ks)[i * 3 + 1]? = some (.int .i64 e.2.1) ∧ (flat ks)[i * 3 + 2]? = some (.bool e.2.2) := by
  induction ks generalizing i with
  | nil => simp at h
  | cons d r ih =>
    cases i with
    | zero => simp at h; subst h; simp [flat]
    | succ j =>
      simp at h
      have := ih j h
      have e0 : (j + 1) * 3 = j * 3 + 1 + 1 + 1 := by omega
      rw [e0]
      simpa [flat] using this

/-- Block b is a TLB that holds the slice v, and keeps ks. -/
structure TlbAt (w : World) (b : Nat) (v : Value) (ks : List (Int × Int × Bool)) : Prop where
  head : w.heap[b]? = some (.cells #[v] 70)
  own : w.ownsRow 0 79 3 v ks.length (flat ks)
  far : v.ownBlock ≠ some b

theorem TlbAt.blt {w : World} {b : Nat} {v : Value} {ks : List (Int × Int × Bool)} (h : TlbAt w b v ks) : b < w.heap.size := lt_of_heap h.head
theorem TlbAt.glt {w : World} {b : Nat} {v : Value} {ks : List (Int × Int × Bool)} (h : TlbAt w b v ks) : ∀ g, v.ownBlock = some g → g < w.heap.size := by
  intro g hg
  rcases h.own.2 with ⟨e2, _⟩ | ⟨g', cap, cur, e2, hb, hh, _⟩
  · rw [e2] at hg; simp [Value.ownBlock] at hg
  · rw [e2] at hg; simp [Value.ownBlock] at hg; subst hg; exact lt_of_heap hh
theorem ownsRow_keep {w w' : World} {base : Nat} {e : TypeId} {size : Nat} {v : Value} {n : Nat} {xs : List Value} (h : w.ownsRow base e size v n xs) (hb : ∀ g, v.ownBlock = some g → w'.heap[g]? = w.heap[g]?) : w'.ownsRow base e size v n xs := by
  obtain ⟨h1, h2⟩ := h
  refine ⟨h1, ?_⟩
  rcases h2 with h2 | ⟨g, cap, cur, hv, hg, hh, r⟩
  · exact Or.inl h2
  · exact Or.inr ⟨g, cap, cur, hv, hg, (hb g (by rw [hv]; rfl)).trans hh, r⟩
theorem TlbAt.keep {w w' : World} {b : Nat} {v : Value} {ks : List (Int × Int × Bool)} (h : TlbAt w b v ks) (h1 : w'.heap[b]? = w.heap[b]?) (h2 : ∀ g, v.ownBlock = some g → w'.heap[g]? = w.heap[g]?) : TlbAt w' b v ks :=
  ⟨h1.trans h.head, ownsRow_keep h.own h2, h.far⟩
theorem TlbAt.below {w w' : World} {b : Nat} {v : Value} {ks : List (Int × Int × Bool)} (h : TlbAt w b v ks) (hb : Below w.heap.size w w') : TlbAt w' b v ks :=
  h.keep (hb.block _ h.blt) (fun g hg => hb.block g (h.glt g hg))

/-- What the slice looks like. -/
theorem TlbAt.form {w : World} {b : Nat} {v : Value} {ks : List (Int × Int × Bool)} (h : TlbAt w b v ks) :
    ∃ a cap, v = .slice a ks.length cap ∧ (ks ≠ [] → ∃ g cur, a = some ⟨g, 0, none⟩ ∧ w.heap[g]? = some (.cells cur 79 (0, 0)) ∧ g ≠ b ∧ ks.length ≤ cap ∧ cur.size = cap * 3 ∧ cur.toList.take (ks.length * 3) = flat ks) := by
  rcases h.own.2 with ⟨e2, e3⟩ | ⟨g, cap, cur, e2, hb, hh, h1, h2, h3, h4⟩
  · refine ⟨none, 0, by rw [e2, e3], fun hne => ?_⟩
    exact absurd (List.length_eq_zero_iff.1 e3) hne
  · exact ⟨_, cap, e2, fun _ => ⟨g, cur, rfl, hh, fun e => h.far (by rw [e2, e]; rfl), h1, h3, h4⟩⟩

theorem cur_get {cur : Array Value} {ks : List (Int × Int × Bool)} (h4 : cur.toList.take (ks.length * 3) = flat ks) {i : Nat} {e : Int × Int × Bool} (he : ks[i]? = some e) :
    cur[i * 3]? = some (.int .i64 e.1) ∧ cur[i * 3 + 1]? = some (.int .i64 e.2.1) ∧ cur[i * 3 + 2]? = some (.bool e.2.2) := by
  have hi : i < ks.length := (List.getElem?_eq_some_iff.1 he).1
  have := flat_get ks i e he
  rw [← h4] at this
  obtain ⟨a, b, c⟩ := this
  rw [List.getElem?_take_of_lt (by omega)] at a b c
  exact ⟨by simpa using a, by simpa using b, by simpa using c⟩

set_option maxHeartbeats 400000 in
theorem newTlb_any (w : World) :
    Calls Try.prog 8 #[] w fun e w' => e = .returned (.pointer (some ⟨w.heap.size, 0, none⟩)) ∧ TlbAt w' w.heap.size (.slice none 0 0) [] ∧ Below w.heap.size w w' := by
  go_enter Try.func8, Try.ntmps8
  go_wp2
  go_ret
  exact ⟨rfl, ⟨heap_alloc_new _ _, World.ownsRow_nil _ _ _ _, by simp [Value.ownBlock]⟩, (Below.refl _ _).alloc (Nat.le_refl _) _⟩

set_option maxHeartbeats 400000 in
theorem flush_nil (w : World) :
    Calls Try.prog 19 #[.pointer none] w fun e w' => e = .returned (.tuple #[]) ∧ w' = w := by
  go_enter Try.func19, Try.ntmps19
  go_wp2
  (try simp only [Exit.inBlock, Exit.then])
  refine bodyPost_ret (results_none rfl _ _ _) rfl ?_
  exact ⟨rfl, rfl⟩

set_option maxHeartbeats 400000 in
theorem flush_at (b : Nat) (v : Value) (ks : List (Int × Int × Bool)) (w : World) (h : TlbAt w b v ks) :
    Calls Try.prog 19 #[.pointer (some ⟨b, 0, none⟩)] w fun e w' => e = .returned (.tuple #[]) ∧ TlbAt w' b (.slice none 0 0) [] ∧ Upd b w w' := by
  have hc : w.cell? ⟨b, 0, none⟩ = some v := by rw [cell_of_heap h.head]; rfl
  have hz : w.frozen? ⟨b, 0, none⟩ = false := frozen_of_heap h.head
  go_enter Try.func19, Try.ntmps19
  go_wp2
  go_end0
  refine ⟨rfl, ⟨?_, World.ownsRow_nil _ _ _ _, by simp [Value.ownBlock]⟩, Upd.setCell _ _ _ _⟩
  rw [setCell_eq_setRow w b 0 _ _ _ _ h.head, setRow_heap w b _ _ _ _ h.head]
  rfl

/-- What find answers. -/
def findV (ks : List (Int × Int × Bool)) (p : Int) : Option (Int × Bool) := (ks.find? (fun e => e.1 == p)).map (fun e => e.2)

set_option maxHeartbeats 400000 in
theorem find_nil (p : Int) (w : World) :
    Calls Try.prog 31 #[.pointer none, .int .i64 p] w fun e w' => e = .returned (.tuple #[pv (0, false), .bool false]) ∧ Below w.heap.size w w' := by
  go_enter Try.func31, Try.ntmps31
  go_wp2
  (try simp only [Exit.inBlock, Exit.then])
  refine bodyPost_ret (v := .tuple #[.agg #[.int .i64 0, .bool false], .bool false]) ?_ rfl ⟨rfl, ?_⟩
  · rw [results_cell_tmp rfl]
    go_simp
  · (repeat' (first | exact Below.refl _ _ | refine Below.setCell ?_ (by simp) _ | refine Below.alloc ?_ (by simp) _))

/-- No kept page under k is page p. -/
def noneTo (ks : List (Int × Int × Bool)) (p : Int) (k : Nat) : Prop := ∀ i e, i < k → ks[i]? = some e → e.1 ≠ p

theorem findV_end {ks : List (Int × Int × Bool)} {p : Int} (h : noneTo ks p ks.length) : findV ks p = none := by
  unfold findV
  rw [Option.map_eq_none_iff, List.find?_eq_none]
  intro e he
  obtain ⟨i, hi⟩ := List.getElem?_of_mem he
  have := h i e (List.getElem?_eq_some_iff.1 hi).1 hi
  simpa using this
theorem findV_hit {ks : List (Int × Int × Bool)} {p : Int} {k : Nat} {e : Int × Int × Bool} (h : noneTo ks p k) (he : ks[k]? = some e) (hp : e.1 = p) : findV ks p = some e.2 := by
  unfold findV
  have hk : k < ks.length := (List.getElem?_eq_some_iff.1 he).1
  have : ks.find? (fun e => e.1 == p) = some e := by
    rw [List.find?_eq_some_iff_getElem]
    refine ⟨by simp [hp], k, hk, (List.getElem?_eq_some_iff.1 he).2, fun j hj => ?_⟩
    have := h j ks[j] hj (List.getElem?_eq_getElem (by omega))
    simpa using this
  rw [this]; rfl
theorem noneTo_succ {ks : List (Int × Int × Bool)} {p : Int} {k : Nat} {e : Int × Int × Bool} (h : noneTo ks p k) (he : ks[k]? = some e) (hp : e.1 ≠ p) : noneTo ks p (k + 1) := by
  intro i d hi hd
  by_cases hik : i < k
  · exact h i d hik hd
  · have : i = k := by omega
    subst this
    rw [he] at hd; cases hd; exact hp

set_option maxHeartbeats 1000000 in
theorem find_at (b : Nat) (v : Value) (ks : List (Int × Int × Bool)) (p : Int) (w : World) (h : TlbAt w b v ks) (hn : ks.length ≤ 3) :
    Calls Try.prog 31 #[.pointer (some ⟨b, 0, none⟩), .int .i64 p] w fun e w' => e = .returned (.tuple #[pv ((findV ks p).getD (0, false)), .bool (findV ks p).isSome]) ∧ Below w.heap.size w w' := by
  obtain ⟨a, cap, rfl, hform⟩ := h.form
  have hc : w.cell? ⟨b, 0, none⟩ = some (.slice a ks.length cap) := by rw [cell_of_heap h.head]; rfl
  have hlt := h.blt
  go_enter Try.func31, Try.ntmps31
  go_wp2
  go_loopw [16] (fun i wr => ∃ (k : Nat), k ≤ ks.length ∧ i = .int .i64 k ∧ noneTo ks p k ∧ wr.heap[w.heap.size]? = some (.cells #[.int .i64 0, .bool false] 29) ∧ Below w.heap.size w wr) (fun i _ => ks.length - (intOf i).toNat)
  case atStart => exact ⟨0, by omega, rfl, fun i e hi => by omega, heap_alloc_new _ _, (Below.refl _ _).alloc (Nat.le_refl _) _⟩
  case round =>
    obtain ⟨k, hk, rfl, hno, hR, hb⟩ := hrel
    by_cases hlk : k < ks.length
    · obtain ⟨g, cur, rfl, hh, hgb, hcap, hcs, htk⟩ := hform (by intro e; rw [e] at hlk; simp at hlk)
      have he := List.getElem?_eq_getElem hlk
      obtain ⟨c0, c1, c2⟩ := cur_get htk he
      have hh' : wr.heap[g]? = _ := (hb.block g (lt_of_heap hh)).trans hh
      have d0 : wr.cell? ⟨g, k * 3, none⟩ = some (.int .i64 ks[k].1) := by rw [cell_of_heap hh']; exact c0
      have d1 : wr.cell? ⟨g, k * 3 + 1, none⟩ = some (.int .i64 ks[k].2.1) := by rw [cell_of_heap hh']; exact c1
      have d2 : wr.cell? ⟨g, k * 3 + 2, none⟩ = some (.bool ks[k].2.2) := by rw [cell_of_heap hh']; exact c2
      generalize ks[k] = e at he d0 d1 d2
      have hint : (k : Int) < (ks.length : Int) := by omega
      have r0 : wr.cell? ⟨w.heap.size, 0, none⟩ = some (.int .i64 0) := by rw [cell_of_heap hR]; rfl
      have r1 : wr.cell? ⟨w.heap.size, 1, none⟩ = some (.bool false) := by rw [cell_of_heap hR]; rfl
      have z0 : wr.frozen? ⟨w.heap.size, 0, none⟩ = false := frozen_of_heap hR
      have z1 : wr.frozen? ⟨w.heap.size, 1, none⟩ = false := frozen_of_heap hR
      have hRl := lt_of_heap hR
      clear c0 c1 c2 hform
      by_cases hp : e.1 = p
      · have hv := findV_hit hno he hp
        clear h hc hh hh' htk
        go_wp2
        (try simp only [Exit.inBlock, Exit.then])
        refine bodyPost_ret (v := .tuple #[.agg #[.int .i64 e.2.1, .bool e.2.2], .bool true]) ?_ rfl ⟨by rw [hv]; rfl, ?_⟩
        · rw [results_cell_tmp rfl]
          go_simp
        · have := hb.size
          (repeat' (first | exact hb | refine Below.setCell ?_ (by simp) _ | refine Below.alloc ?_ (by simp; omega) _))
      · have hne : (e.1 == p) = false := by simpa using hp
        clear h hc hh hh' htk
        go_wp2
        go_roundw
        case rel =>
          exact ⟨k + 1, by omega, by go_num, noneTo_succ hno he hp, (Below.heap_alloc _ _ _ hRl).trans hR, hb.alloc (by omega) _⟩
        case measure => simp [intOf]; omega
    · have : k = ks.length := by omega
      subst this
      have r0 : wr.cell? ⟨w.heap.size, 0, none⟩ = some (.int .i64 0) := by rw [cell_of_heap hR]; rfl
      have r1 : wr.cell? ⟨w.heap.size, 1, none⟩ = some (.bool false) := by rw [cell_of_heap hR]; rfl
      have z0 : wr.frozen? ⟨w.heap.size, 0, none⟩ = false := frozen_of_heap hR
      have z1 : wr.frozen? ⟨w.heap.size, 1, none⟩ = false := frozen_of_heap hR
      have hv := findV_end hno
      clear h hc hform
      go_wp2
      (try simp only [Exit.inBlock, Exit.then])
      refine bodyPost_ret (v := .tuple #[.agg #[.int .i64 0, .bool false], .bool false]) ?_ rfl ⟨by rw [hv]; rfl, ?_⟩
      · rw [results_cell_tmp rfl]
        go_simp
      · (repeat' (first | exact hb | refine Below.setCell ?_ (by simp) _))

end Go.Proofs.Ythkffhfjkddpkaa
