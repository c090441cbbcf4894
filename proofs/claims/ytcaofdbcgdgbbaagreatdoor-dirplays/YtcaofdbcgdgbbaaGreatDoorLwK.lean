/- Bytes that were made of a text: a byte appended, a byte laid, cut, as a text again. -/
import Derived.Test.YtcaofdbcgdgbbaaGreatDoorLwAll
import Derived.Lib.ConvBytes
import Derived.ArgAppend
import Derived.Laws.IdiomStrings
import Derived.Laws.AppendOwnNone
namespace Go.Proofs.YtcaofdbcgdgbbaaGreatDoor
open Go.ChangeShapes Go.WideShapes Go.ChangeAt Go.RowKit Go.Lib
set_option linter.unusedVariables false

/-- v is a slice of the bytes l, in a block from base on. -/
def Bs (w : World) (base : Nat) (v : Value) (l : List UInt8) : Prop :=
  ∃ g cap cur fz, v = .slice (some ⟨g, 0, none⟩) l.length cap ∧ base ≤ g ∧ w.heap[g]? = some (.cells cur 5 fz) ∧ (fz.2 ≤ fz.1 ∨ cap ≤ fz.1) ∧ l.length ≤ cap ∧ cap ≤ maxLen ∧ cap ≤ cur.size ∧ ∀ j, j < l.length → cur[j]? = some (.int .u8 ((nums l).getD j 0))
theorem frozen_no {w : World} {g i : Nat} {cs : Array Value} {t : TypeId} {fz : Nat × Nat} (h : w.heap[g]? = some (.cells cs t fz)) (hf : fz.2 ≤ fz.1 ∨ i < fz.1) : w.frozen? ⟨g, i, none⟩ = false := by
  obtain ⟨lo, hi⟩ := fz
  simp only [World.frozen?, h]
  rcases hf with q | q
  · have q' : hi ≤ lo := q
    by_cases e : lo ≤ i
    · simp; omega
    · simp; omega
  · have q' : i < lo := q
    simp; omega
section
variable {w w' : World} {base : Nat} {v : Value} {l : List UInt8}
theorem Bs.form (h : Bs w base v l) : ∃ g cap, v = .slice (some ⟨g, 0, none⟩) l.length cap ∧ l.length ≤ cap := by
  obtain ⟨g, cap, cur, fz, h1, _, _, _, h2, _⟩ := h
  exact ⟨g, cap, h1, h2⟩
theorem Bs.keep (h : Bs w base v l) {P : Nat → Prop} (hu : UpdP P w w') (hp : ∀ k, P k → k < base) : Bs w' base v l := by
  obtain ⟨g, cap, cur, fz, h1, hb, hh, q⟩ := h
  exact ⟨g, cap, cur, fz, h1, hb, (hu.block g (lt_of_heap hh) (fun k => by have := hp g k; omega)).trans hh, q⟩
theorem Bs.below (h : Bs w base v l) (hb : Below w.heap.size w w') : Bs w' base v l := h.keep (P := fun _ => False) (UpdP.of_below hb) (fun _ k => k.elim)
/-- A byte that is there can be read and laid anew. -/
theorem Bs.at {g cap : Nat} (h : Bs w base (.slice (some ⟨g, 0, none⟩) l.length cap) l) (j : Nat) (hj : j < l.length) (x : Int) (y : UInt8) (hx : x = (y.toNat : Int)) : w.cell? ⟨g, j, none⟩ = some (.int .u8 ((nums l).getD j 0)) ∧ w.frozen? ⟨g, j, none⟩ = false ∧ Bs (w.setCell ⟨g, j, none⟩ (.int .u8 x)) base (.slice (some ⟨g, 0, none⟩) l.length cap) (l.set j y) ∧ base ≤ g := by
  obtain ⟨g', cap', cur, fz, e, hb, hh, hf, h1, h2, h3, h4⟩ := h
  cases e
  refine ⟨by rw [cell_of_heap hh]; exact h4 j hj, frozen_no hh (by omega), ⟨g, cap, cur.setIfInBounds j (.int .u8 x), fz, by rw [List.length_set], hb, ?_, hf, by rw [List.length_set]; exact h1, h2, by simpa using h3, fun i hi => ?_⟩, hb⟩
  · rw [setCell_eq_setRow w g _ _ _ _ _ hh, setRow_heap w g _ _ _ _ hh]
  · rw [List.length_set] at hi
    have e : (nums (l.set j y)).getD i 0 = if i = j then x else (nums l).getD i 0 := by
      unfold nums
      rw [List.map_set]
      simp only [List.getD_eq_getElem?_getD, List.getElem?_set]
      by_cases q : j = i
      · subst q
        simp [hj, hx]
      · rw [if_neg q, if_neg (fun z => q z.symm)]
    rw [Array.getElem?_setIfInBounds, e]
    by_cases q : j = i
    · rw [if_pos q, if_pos (by omega), if_pos q.symm]
    · rw [if_neg q, if_neg (fun z => q z.symm)]
      exact h4 i hi
theorem Bs.cut {g cap : Nat} (h : Bs w base (.slice (some ⟨g, 0, none⟩) l.length cap) l) (n : Nat) (hn : n ≤ l.length) : Bs w base (.slice (some ⟨g, 0, none⟩) n cap) (l.take n) := by
  obtain ⟨g', cap', cur, fz, e, hb, hh, hf, h1, h2, h3, h4⟩ := h
  cases e
  have hl : (l.take n).length = n := by rw [List.length_take]; omega
  refine ⟨g, cap, cur, fz, by rw [hl], hb, hh, hf, by rw [hl]; omega, h2, h3, fun j hj => ?_⟩
  rw [hl] at hj
  rw [h4 j (by omega)]
  unfold nums
  rw [List.map_take]
  simp only [List.getD_eq_getElem?_getD, List.getElem?_take_of_lt hj]
theorem Bs.string (h : Bs w base v l) : (convert 62 9 v).run Tryz.prog w = .ok (tx l) w := by
  obtain ⟨g, cap, cur, fz, rfl, hb, hh, hf, h1, h2, h3, h4⟩ := h
  refine run_convert_bytes_back w _ _ 5 ⟨g, 0, none⟩ cap l Tryz.underlying62 Tryz.underlying5 Tryz.underlying9 (fun j hj => ?_)
  rw [add0, Nat.zero_add, cell_of_heap hh, h4 j hj, nums_get l j hj]
theorem Bs.of_text (w : World) (l : List UInt8) (hl : l.length ≤ 9223372036854775807) : ∃ v w', (convert 9 62 (tx l)).run Tryz.prog w = .ok v w' ∧ Bs w' w.heap.size v l ∧ Below w.heap.size w w' := by
  have hr := Go.Lib.run_convert_string_bytes (P := Tryz.prog) w 9 62 5 ⟨l.toArray⟩ Tryz.underlying9 Tryz.underlying62 Tryz.underlying5
  have hsz : (ByteArray.mk l.toArray).size = l.length := by simp [ByteArray.size]
  have hge := grownCap_ge w l.length 0 5
  have hcm := grownCap_le_maxLen w l.length 0 5 (by unfold maxLen; omega)
  have hcs : (bytesCells w 5 ⟨l.toArray⟩).size = grownCap w l.length 0 5 := by
    unfold bytesCells
    rw [hsz]
    simp
    omega
  rw [hsz] at hr
  refine ⟨_, _, hr, ⟨w.heap.size, _, _, _, rfl, Nat.le_refl _, bytesWorld_at_new _ _ _, Or.inr ?_, hge, hcm, ?_, fun j hj => ?_⟩, ?_⟩
  · rw [hcs]; exact Nat.le_refl _
  · rw [hcs]; exact Nat.le_refl _
  · unfold bytesCells
    rw [Array.getElem?_append_left (by simp; exact hj)]
    simp [nums, hj]
  · refine ⟨?_, ?_, ?_, by rw [bytesWorld_size]; omega, fun k hk => bytesWorld_at_old w _ _ k hk⟩
    · rfl
    · rfl
    · rfl
/-- b = append(b, 0). -/
theorem Bs.app (h : Bs w base v l) (X : Nat) (hX : w.heap[X]? = some (.cells #[.int .u8 0] 5 (0, 0))) (hl : l.length ≤ 1000) (hB : base ≤ w.heap.size) :
    ∃ g c w', (∀ ty, (Builtin.append_ #[62, 62] ty #[v, .slice (some ⟨X, 0, none⟩) 1 1]).run Tryz.prog w = .ok (.slice (some ⟨g, 0, none⟩) (l.length + 1) c) w') ∧ Bs w' base (.slice (some ⟨g, 0, none⟩) (l.length + 1) c) (l ++ [0]) ∧ Below base w w' := by
  obtain ⟨i0, hi0, hzz⟩ := Option.map_eq_some_iff.1 byteInfo
  simp only [Prod.mk.injEq] at hzz
  obtain ⟨hz0, hz1, hz2⟩ := hzz
  have hnews : ∀ j u, ([.int .u8 0] : List Value)[j]? = some u → w.cell? ((⟨X, 0, none⟩ : Addr).add j) = some u := World.news_of_block (cs := #[.int .u8 0]) (t := 5) (fr := (0, 0)) hX
  have hone : ∀ u ∈ ([.int .u8 0] : List Value), u.oneCell' = true := by simp [Value.oneCell']
  have hlen : (l ++ [(0 : UInt8)]).length = l.length + 1 := by simp
  have hget : ∀ j, j < l.length + 1 → (nums (l ++ [0])).getD j 0 = if j < l.length then (nums l).getD j 0 else 0 := fun j hj => by
    unfold nums
    rw [List.map_append]
    simp only [List.getD_eq_getElem?_getD]
    by_cases q : j < l.length
    · rw [if_pos q, List.getElem?_append_left (by simpa using q)]
    · rw [if_neg q, List.getElem?_append_right (by simp; omega)]
      have : j - (List.map (fun b : UInt8 => (b.toNat : Int)) l).length = 0 := by simp; omega
      rw [this]
      rfl
  obtain ⟨g, cap, cur, fz, rfl, hb, hh, hf, h1, h2, h3, h4⟩ := h
  by_cases hroom : l.length + 1 ≤ cap
  · have hr := fun ty => run_append_room_cells (P := Tryz.prog) w 62 ty 5 i0 Tryz.underlying62 hi0 g 0 l.length cap ⟨X, 0, none⟩ 1 1 [.int .u8 0] (by rw [hz1]; rfl) hnews hone hroom
      (fun j hj => by
        have : j = 0 := by simp at hj; omega
        subst this
        rw [cell_of_heap hh, hz1]
        simp
        omega) (fun j hj => by
        have : j = 0 := by simp at hj; omega
        subst this
        rw [hz1]
        exact frozen_no hh (by simp; omega))
    rw [hz1] at hr
    have hset : w.setCells g (0 + l.length * 1) [.int .u8 0] = w.setCell ⟨g, l.length, none⟩ (.int .u8 0) := by
      simp [World.setCells]
    rw [hset] at hr
    refine ⟨g, cap, _, hr, ⟨g, cap, cur.setIfInBounds l.length (.int .u8 0), fz, by rw [hlen], hb, ?_, hf, by rw [hlen]; exact hroom, h2, by simpa using h3, fun j hj => ?_⟩, (Upd.setCell g _ w _).below hb hB⟩
    · rw [setCell_eq_setRow w g _ _ _ _ _ hh, setRow_heap w g _ _ _ _ hh]
    · rw [hlen] at hj
      rw [Array.getElem?_setIfInBounds, hget j hj]
      by_cases q : j < l.length
      · rw [if_neg (by omega), if_pos q]
        exact h4 j q
      · obtain rfl : j = l.length := by omega
        rw [if_pos rfl, if_pos (by omega), if_neg q]
  · obtain ⟨v', w', hr, hown, hgrow⟩ := run_append_arg_grows (P := Tryz.prog) w 62 0 5 i0 _ 1 1 Tryz.underlying62 hi0 hz0 hz1 hz2 rfl (by omega) ⟨g, 0, none⟩ l.length cap ((nums l).map (Value.int .u8)) (by rw [List.length_map, nums_len, Nat.mul_one])
      (fun j u hu => by
        rw [List.getElem?_map, Option.map_eq_some_iff] at hu
        obtain ⟨y, hy, rfl⟩ := hu
        have hj : j < l.length := by have := (List.getElem?_eq_some_iff.1 hy).1; rwa [nums_len] at this
        rw [add0, Nat.zero_add, cell_of_heap hh, h4 j hj, List.getD_eq_getElem?_getD, hy]
        rfl) ⟨X, 0, none⟩ 1 1 [.int .u8 0] rfl hnews (by omega) (by unfold maxLen; omega) (by omega)
    have hbl : Below w.heap.size w w' := ⟨hgrow.os, hgrow.tape, hgrow.output, hgrow.size, fun k hk => hgrow.block k hk (by simp)⟩
    rcases hown.2 with ⟨_, e⟩ | ⟨g', cap', cur', e, hb', hh', q1, q2, q3, q4⟩
    · omega
    · subst e
      refine ⟨g', cap', w', fun ty => hr, ⟨g', cap', cur', (0, 0), by rw [hlen], Nat.le_trans hB hb', hh', Or.inl (Nat.le_refl _), by rw [hlen]; exact q1, q2, by rw [q3]; omega, fun j hj => ?_⟩, hbl.mono hB⟩
      rw [hlen] at hj
      rw [hget j hj]
      have h8 : ((nums l).map (Value.int .u8) ++ [.int .u8 0])[j]? = some (.int .u8 (if j < l.length then (nums l).getD j 0 else 0)) := by
        by_cases q : j < l.length
        · rw [if_pos q, List.getElem?_append_left (by rw [List.length_map, nums_len]; exact q), List.getElem?_map, List.getElem?_eq_getElem (by rw [nums_len]; exact q), List.getD_eq_getElem?_getD, List.getElem?_eq_getElem (by rw [nums_len]; exact q)]
          rfl
        · rw [if_neg q, List.getElem?_append_right (by rw [List.length_map, nums_len]; omega)]
          have : j - ((nums l).map (Value.int .u8)).length = 0 := by rw [List.length_map, nums_len]; omega
          rw [this]
          rfl
      rw [← q4, Nat.mul_one, List.getElem?_take_of_lt hj] at h8
      simpa using h8
end
end Go.Proofs.YtcaofdbcgdgbbaaGreatDoor
