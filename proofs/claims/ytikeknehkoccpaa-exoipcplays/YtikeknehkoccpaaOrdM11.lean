/- For januslaw11.ExoipcOrder: a slice of slices that the law keeps, and what may touch it; the slices that came in. -/
import Derived.Test.YtikeknehkoccpaaArgs11
import Derived.ArgAppend
namespace Go.Proofs.Ytikeknehkoccpaa
open Go.ChangeShapes Go.WideShapes Go.ChangeAt Go.RowKit Go.Lib Go.Joins
set_option linter.unusedVariables false

/-- A slice of words: where it lies, its words. -/
structure Hd where
  a : Option Addr
  cap : Nat
  ws : List Int
abbrev Hd.v (h : Hd) : Value := .slice h.a h.ws.length h.cap
/-- The queues are kept where the blocks of their three types are. -/
theorem IpcIs.kept {w w' : World} {B b : Nat} {V : Nat → Value} {Q : QS} (h : IpcIs w B b V Q) (hk : ∀ (k : Nat) (cs : Array Value) (t : TypeId) (fr : Nat × Nat), w.heap[k]? = some (.cells cs t fr) → (t = 59 ∨ t = 64 ∨ t = 52) → w'.heap[k]? = some (.cells cs t fr)) : IpcIs w' B b V Q := by
  obtain ⟨row, hr, h1⟩ := h.head
  refine ⟨⟨row, hk _ _ _ _ hr (Or.inl rfl), h1⟩, fun j hj => ownsRow_at (h.own j hj) (fun g hg => ?_), h.sep, fun j hj m hm => (h.wd j hj m hm).keep (fun k cs fr hh => hk _ _ _ _ hh (Or.inr (Or.inr rfl))), h.len, h.bB⟩
  obtain ⟨cs, hcs⟩ := own_type (h.own j hj) hg
  rw [hcs]
  exact hk _ _ _ _ hcs (Or.inr (Or.inl rfl))
theorem IpcAt.kept {w w' : World} {B b : Nat} {Q : QS} (h : IpcAt w B b Q) (hk : ∀ (k : Nat) (cs : Array Value) (t : TypeId) (fr : Nat × Nat), w.heap[k]? = some (.cells cs t fr) → (t = 59 ∨ t = 64 ∨ t = 52) → w'.heap[k]? = some (.cells cs t fr)) : IpcAt w' B b Q := by
  obtain ⟨V, h⟩ := h
  exact ⟨V, h.kept hk⟩
/-- The law's own slice of slices. -/
def LRow (w : World) (B : Nat) (v : Value) (hs : List Hd) : Prop :=
  (v = .slice none 0 0 ∧ hs = []) ∨ ∃ g off cap cur, v = .slice (some ⟨g, off, none⟩) hs.length cap ∧ B ≤ g ∧ w.heap[g]? = some (.cells cur 29 (0, 0)) ∧ hs.length ≤ cap ∧ cap ≤ maxLen ∧ off + cap ≤ cur.size ∧ ∀ (j : Nat) (h : Hd), hs[j]? = some h → cur[off + j]? = some h.v
theorem LRow.keep {w w' : World} {B : Nat} {v : Value} {hs : List Hd} (h : LRow w B v hs) (hk : ∀ (k : Nat) (cs : Array Value) (fr : Nat × Nat), w.heap[k]? = some (.cells cs 29 fr) → w'.heap[k]? = some (.cells cs 29 fr)) : LRow w' B v hs := by
  rcases h with h | ⟨g, off, cap, cur, h1, h2, h3, h4⟩
  · exact Or.inl h
  · exact Or.inr ⟨g, off, cap, cur, h1, h2, hk _ _ _ h3, h4⟩
theorem LRow.below {w w' : World} {B : Nat} {v : Value} {hs : List Hd} (h : LRow w B v hs) (hb : Below w.heap.size w w') : LRow w' B v hs := h.keep (fun k cs fr hk => (hb.block k (lt_of_heap hk)).trans hk)
theorem LRow.tch {w w' : World} {B B' : Nat} {v : Value} {hs : List Hd} (h : LRow w B v hs) (hb : Tch B' w w') : LRow w' B v hs := h.keep (fun k cs fr hk => hb.other hk (by decide) (by decide))
theorem LRow.form {w : World} {B : Nat} {v : Value} {hs : List Hd} (h : LRow w B v hs) : ∃ a cap, v = .slice a hs.length cap := by
  rcases h with ⟨rfl, rfl⟩ | ⟨g, off, cap, cur, h1, _⟩
  · exact ⟨none, 0, rfl⟩
  · exact ⟨_, _, h1⟩
theorem LRow.at {w : World} {B : Nat} {v : Value} {hs : List Hd} (h : LRow w B v hs) {j : Nat} {x : Hd} (hx : hs[j]? = some x) : ∃ g off cap, v = .slice (some ⟨g, off, none⟩) hs.length cap ∧ hs.length ≤ cap ∧ w.cell? ⟨g, off + j, none⟩ = some x.v := by
  rcases h with ⟨rfl, rfl⟩ | ⟨g, off, cap, cur, h1, _, h3, h4, _, _, h6⟩
  · simp at hx
  · exact ⟨g, off, cap, h1, h4, by rw [cell_of_heap h3]; exact h6 j x hx⟩
/-- What an append to it may touch. -/
def TchL (B : Nat) (w w' : World) : Prop := Below B w w' ∧ w.heap.size ≤ w'.heap.size ∧ ∀ (k : Nat) (cs : Array Value) (t : TypeId) (fr : Nat × Nat), w.heap[k]? = some (.cells cs t fr) → t ≠ 29 → w'.heap[k]? = some (.cells cs t fr)
theorem IpcAt.tchl {w w' : World} {B B' b : Nat} {Q : QS} (h : IpcAt w B b Q) (ht : TchL B' w w') : IpcAt w' B b Q := h.kept (fun k cs t fr hk ho => ht.2.2 k cs t fr hk (by rcases ho with rfl | rfl | rfl <;> decide))
theorem sliceInfo : (Try.prog.info? 29).map (fun i => (i.zero, i.size, i.bytes)) = some (some (.slice none 0 0), 1, 24) := by kernel_rfl
/-- left = append(left, x). -/
theorem left_append {w : World} {B : Nat} {v : Value} {hs : List Hd} (h : LRow w B v hs) (x : Hd) (X : Nat) (hX : w.heap[X]? = some (.cells #[x.v] 29 (0, 0))) (hl : hs.length ≤ 1000) (hB : B ≤ w.heap.size) :
    ∃ a c w', (∀ ty, (Builtin.append_ #[45, 45] ty #[v, .slice (some ⟨X, 0, none⟩) 1 1]).run Try.prog w = .ok (.slice a (hs ++ [x]).length c) w') ∧ LRow w' B (.slice a (hs ++ [x]).length c) (hs ++ [x]) ∧ TchL B w w' := by
  obtain ⟨i0, hi0, hzz⟩ := Option.map_eq_some_iff.1 sliceInfo
  simp only [Prod.mk.injEq] at hzz
  obtain ⟨hz0, hz1, hz2⟩ := hzz
  have hnews : ∀ j u, ([x.v] : List Value)[j]? = some u → w.cell? ((⟨X, 0, none⟩ : Addr).add j) = some u := World.news_of_block (cs := #[x.v]) (t := 29) (fr := (0, 0)) hX
  have hone : ∀ u ∈ ([x.v] : List Value), u.oneCell' = true := by simp [Value.oneCell']
  have hlen : (hs ++ [x]).length = hs.length + 1 := by simp
  have grown : ∀ {r : Option Nat} {base : Nat} {v' : Value} {w' : World}, B ≤ base → w'.ownsRow base 29 1 v' (hs.length + 1) (hs.map Hd.v ++ [x.v]) → w.grownBy w' r → r = none → (∃ a c, v' = .slice a (hs ++ [x]).length c) ∧ LRow w' B v' (hs ++ [x]) ∧ TchL B w w' := by
    intro r base v' w' hbase ho hg hr
    subst hr
    have hbl : Below w.heap.size w w' := ⟨hg.os, hg.tape, hg.output, hg.size, fun k hk => hg.block k hk (by simp)⟩
    refine ⟨?_, ?_, hbl.mono hB, hg.size, fun k cs t fr hk _ => (hbl.block k (lt_of_heap hk)).trans hk⟩
    · obtain ⟨a, c, e⟩ := own_slice ho
      exact ⟨a, c, by rw [e, hlen]⟩
    · rcases ho.2 with ⟨_, e⟩ | ⟨g, cap, cur, e, hb, hh, q1, q2, q3, q4⟩
      · omega
      · refine Or.inr ⟨g, 0, cap, cur, by rw [e, hlen], Nat.le_trans hbase hb, hh, by rw [hlen]; exact q1, q2, by rw [q3]; omega, fun j y hy => ?_⟩
        have hj : j < hs.length + 1 := by have := (List.getElem?_eq_some_iff.1 hy).1; omega
        have h8 : (hs.map Hd.v ++ [x.v])[j]? = some y.v := by
          have e9 : hs.map Hd.v ++ [x.v] = (hs ++ [x]).map Hd.v := by simp
          rw [e9, List.getElem?_map, hy]
          rfl
        rw [← q4, Nat.mul_one, List.getElem?_take_of_lt hj] at h8
        rw [Nat.zero_add]
        simpa using h8
  rcases h with ⟨rfl, rfl⟩ | ⟨g, off, cap, cur, rfl, hBg, hh, hc, hm, hsz, hcells⟩
  · obtain ⟨g, cap, w', hr, hown, hgrow, _, _⟩ := run_append_lies (P := Try.prog) w 45 0 w.heap.size 29 i0 _ 1 24 Try.underlying45 hi0 hz0 hz1 hz2 rfl (by omega) (.slice none 0 0) 0 [] (World.ownsRow_nil _ _ _ _)
      ⟨X, 0, none⟩ 1 1 [x.v] rfl hnews hone (by omega) (by unfold maxLen; omega) (by omega) (Nat.le_refl _) _ rfl
    obtain ⟨_, h2, h3⟩ := grown (base := w.heap.size) hB (by simpa using hown) hgrow rfl
    exact ⟨_, _, w', fun ty => hr, h2, h3⟩
  · by_cases hroom : hs.length + 1 ≤ cap
    · have hr := fun ty => run_append_room_cells (P := Try.prog) w 45 ty 29 i0 Try.underlying45 hi0 g off hs.length cap ⟨X, 0, none⟩ 1 1 [x.v] (by rw [hz1]; rfl) hnews hone hroom
        (fun j hj => by
          have : j = 0 := by simp at hj; omega
          subst this
          rw [cell_of_heap hh, hz1]
          simp
          omega) (fun j hj => frozen_of_heap hh)
      rw [hz1] at hr
      have hset : w.setCells g (off + hs.length * 1) [x.v] = w.setCell ⟨g, off + hs.length, none⟩ x.v := by
        simp [World.setCells]
      rw [hset] at hr
      refine ⟨some ⟨g, off, none⟩, cap, _, fun ty => by rw [hr ty, hlen], Or.inr ⟨g, off, cap, cur.setIfInBounds (off + hs.length) x.v, rfl, hBg, ?_, by rw [hlen]; exact hroom, hm, by simpa using hsz, fun j y hy => ?_⟩, (Upd.setCell g _ w _).below hBg hB, by simp [World.setCell], fun k cs t fr hk ht => ?_⟩
      · rw [setCell_eq_setRow w g _ _ _ _ _ hh, setRow_heap w g _ _ _ _ hh]
      · rw [Array.getElem?_setIfInBounds]
        by_cases hj : j < hs.length
        · rw [if_neg (by omega)]
          rw [List.getElem?_append_left hj] at hy
          exact hcells j y hy
        · have hj2 : j < hs.length + 1 := by have := (List.getElem?_eq_some_iff.1 hy).1; omega
          obtain rfl : j = hs.length := by omega
          rw [if_pos rfl, if_pos (by omega)]
          simp at hy
          subst hy
          rfl
      · rw [Below.heap_setCell _ _ _ _ (by
          rintro rfl
          rw [hh] at hk
          simp only [Option.some.injEq, Obj.cells.injEq] at hk
          exact ht hk.2.1.symm)]
        exact hk
    · obtain ⟨v', w', hr, hown, hgrow⟩ := run_append_arg_grows (P := Try.prog) w 45 0 29 i0 _ 1 24 Try.underlying45 hi0 hz0 hz1 hz2 rfl (by omega) ⟨g, off, none⟩ hs.length cap (hs.map Hd.v) (by simp)
        (fun j u hu => by
          rw [List.getElem?_map, Option.map_eq_some_iff] at hu
          obtain ⟨y, hy, rfl⟩ := hu
          rw [add0, cell_of_heap hh]
          exact hcells j y hy) ⟨X, 0, none⟩ 1 1 [x.v] rfl hnews (by omega) (by unfold maxLen; omega) (by omega)
      obtain ⟨⟨a, c, rfl⟩, h2, h3⟩ := grown (base := w.heap.size) hB hown hgrow rfl
      exact ⟨a, c, w', fun ty => hr, h2, h3⟩
theorem elemL : Try.prog.elem 45 = 29 := by kernel_rfl
set_option maxRecDepth 100000 in
theorem cut_left (g off len cap n : Nat) (hl : len = n + 1) (V : World) : (Instr.slice 45 (.slice (some ⟨g, off, none⟩) len cap) (some (.int .i64 1)) none none).run Try.prog V = .ok (.slice (some (if cap = 1 then ⟨g, off, none⟩ else ⟨g, off + 1, none⟩)) n (cap - 1)) V := by
  obtain ⟨i0, hi0, hzz⟩ := Option.map_eq_some_iff.1 sliceInfo
  simp only [Prod.mk.injEq] at hzz
  subst hl
  rw [run_slice_l V 45 _ _ _ Try.underlying45 _ _ (by omega) (by omega)]
  simp only [sizeOf, typeInfo, elemL, sliced, Sem.run_bind, Sem.run_pure]
  by_cases h : cap = 1
  · simp [h, hi0]
  · simp [h, hi0, add0, hzz.2.1]
/-- left = left[1:]. -/
theorem LRow.tail {w : World} {B : Nat} {v : Value} {x : Hd} {hs : List Hd} (h : LRow w B v (x :: hs)) :
    ∃ g off cap a', v = .slice (some ⟨g, off, none⟩) (hs.length + 1) cap ∧ hs.length + 1 ≤ cap ∧ (∃ cur, w.heap[g]? = some (.cells cur 29 (0, 0))) ∧ w.cell? ⟨g, off, none⟩ = some x.v ∧ (∀ V, (Instr.slice 45 (.slice (some ⟨g, off, none⟩) (hs.length + 1) cap) (some (.int .i64 1)) none none).run Try.prog V = .ok (.slice (some a') hs.length (cap - 1)) V) ∧ LRow w B (.slice (some a') hs.length (cap - 1)) hs := by
  rcases h with ⟨_, h2⟩ | ⟨g, off, cap, cur, rfl, hBg, hh, hc, hm, hsz, hcells⟩
  · cases h2
  · have hc' : hs.length + 1 ≤ cap := hc
    have c0 := hcells 0 x rfl
    refine ⟨g, off, cap, _, rfl, hc, ⟨cur, hh⟩, by rw [cell_of_heap hh]; exact c0, fun V => cut_left g off _ cap hs.length rfl V, ?_⟩
    by_cases h1 : cap = 1
    · rw [if_pos h1]
      exact Or.inr ⟨g, off, cap - 1, cur, rfl, hBg, hh, by omega, by omega, by omega, fun j y hy => by
        have := (List.getElem?_eq_some_iff.1 hy).1
        omega⟩
    · rw [if_neg h1]
      refine Or.inr ⟨g, off + 1, cap - 1, cur, rfl, hBg, hh, by omega, by omega, by omega, fun j y hy => ?_⟩
      have := hcells (j + 1) y (by simpa using hy)
      rw [show off + 1 + j = off + (j + 1) by omega]
      exact this
/-- Slices of words that came in. -/
def ListsAt (w : World) (a0 : Option Addr) (len : Nat) : Prop := ∀ j, j < len → ∃ gb off h, a0 = some ⟨gb, off, none⟩ ∧ w.cell? ⟨gb, off + j, none⟩ = some (Hd.v h) ∧ Rd w h.a h.ws
theorem ListsAt.below {w w' : World} {a0 : Option Addr} {len : Nat} (h : ListsAt w a0 len) (hb : Below w.heap.size w w') : ListsAt w' a0 len := by
  intro j hj
  obtain ⟨gb, off, d, e, hc, hr⟩ := h j hj
  exact ⟨gb, off, d, e, (hb.cell (cell_lt hc)).trans hc, hr.below hb⟩
/-- Bools that came in. -/
def BoolsAt (w : World) (a0 : Option Addr) (len : Nat) : Prop := ∀ j, j < len → ∃ gb off x, a0 = some ⟨gb, off, none⟩ ∧ w.cell? ⟨gb, off + j, none⟩ = some (.bool x)
theorem BoolsAt.below {w w' : World} {a0 : Option Addr} {len : Nat} (h : BoolsAt w a0 len) (hb : Below w.heap.size w w') : BoolsAt w' a0 len := by
  intro j hj
  obtain ⟨gb, off, d, e, hc⟩ := h j hj
  exact ⟨gb, off, d, e, (hb.cell (cell_lt hc)).trans hc⟩
section
variable {H : Type} {enc : TypeId × Value → H} {w : World} {base : Nat} {held : Bool}
theorem one_spot {w : World} {a : Addr} {i : Nat} {u u0 : Value} (h0 : w.cell? (a.add 0) = some u0) (h : w.cell? (a.add i) = some u) : ∃ gb off, a = ⟨gb, off, none⟩ ∧ w.cell? ⟨gb, off + i, none⟩ = some u := by
  obtain ⟨gb, off, spot⟩ := a
  have hs := World.cell?_spot h0
  have hspot : spot = none := by simpa [Addr.add] using hs
  subst hspot
  rw [add0] at h
  exact ⟨gb, off, rfl, h⟩
theorem lists_in {fuel len cap : Nat} {a0 : Option Addr} {x : DataW H × List MemPlace} (h : DataW.trod enc Try.prog w base (fun _ => true) held fuel 45 [.slice a0 len cap] = some x) :
    len ≤ 9223372036854775807 ∧ ListsAt w a0 len := by
  rcases Go.Deep.open_slice1 Try.underlying45 (by kernel_rfl) h with ⟨h0, _⟩ | ⟨a, len', cap', m, n, V, D, Pl, hcs, hb, hl1, hm, hmm, hx0, hx⟩
  · simp at h0
    obtain ⟨rfl, rfl, rfl⟩ := h0
    exact ⟨by omega, fun j hj => by omega⟩
  · simp at hcs
    obtain ⟨rfl, rfl, rfl⟩ := hcs
    refine ⟨by unfold maxLen at hm; omega, fun j hj => ?_⟩
    have hlm : len ≤ m := by rw [hmm]; split <;> omega
    obtain ⟨h1, h2⟩ := hx j (by omega)
    obtain ⟨a', c', ws, hv, hrd, _⟩ := words_in h2
    obtain ⟨gb, off, rfl, hc⟩ := one_spot (hx 0 (by omega)).1 h1
    rw [hv] at hc
    exact ⟨gb, off, ⟨a', c', ws⟩, rfl, hc, hrd⟩
theorem bools_in {fuel len cap : Nat} {a0 : Option Addr} {x : DataW H × List MemPlace} (h : DataW.trod enc Try.prog w base (fun _ => true) held fuel 46 [.slice a0 len cap] = some x) :
    len ≤ 9223372036854775807 ∧ BoolsAt w a0 len := by
  rcases Go.Deep.open_slice1 Try.underlying46 (by kernel_rfl) h with ⟨h0, _⟩ | ⟨a, len', cap', m, n, V, D, Pl, hcs, hb, hl1, hm, hmm, hx0, hx⟩
  · simp at h0
    obtain ⟨rfl, rfl, rfl⟩ := h0
    exact ⟨by omega, fun j hj => by omega⟩
  · simp at hcs
    obtain ⟨rfl, rfl, rfl⟩ := hcs
    refine ⟨by unfold maxLen at hm; omega, fun j hj => ?_⟩
    have hlm : len ≤ m := by rw [hmm]; split <;> omega
    obtain ⟨h1, h2⟩ := hx j (by omega)
    obtain ⟨b, e, _⟩ := DataW.trod_bool Try.underlying4 h2
    simp only [List.cons.injEq, and_true] at e
    obtain ⟨gb, off, rfl, hc⟩ := one_spot (hx 0 (by omega)).1 h1
    rw [e] at hc
    exact ⟨gb, off, b, rfl, hc⟩
end
end Go.Proofs.Ytikeknehkoccpaa
