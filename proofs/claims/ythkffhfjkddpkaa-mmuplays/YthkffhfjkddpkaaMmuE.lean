/- The contracts of package mmu's TLB: Pages, and the search that Drop asks of the library. -/
import Derived.Test.YthkffhfjkddpkaaMmuD
namespace Go.Proofs.Ythkffhfjkddpkaa
open Go.RowKit
set_option linter.unusedVariables false

/-- Which pages are kept. -/
def pgs (ks : List (Int × Int × Bool)) : List Int := ks.map (fun e => e.1)

set_option maxHeartbeats 400000 in
theorem pages_nil (w : World) :
    Calls Try.prog 25 #[.pointer none] w fun e w' => e = .returned (.slice none 0 0) ∧ w' = w := by
  go_enter Try.func25, Try.ntmps25
  go_wp2
  go_ret
  exact ⟨rfl, rfl⟩

theorem pgs_take_succ {ks : List (Int × Int × Bool)} {k : Nat} {e : Int × Int × Bool} (he : ks[k]? = some e) : pgs (ks.take (k + 1)) = pgs (ks.take k) ++ [e.1] := by
  rw [List.take_add_one, he]
  simp [pgs]

set_option maxHeartbeats 1000000 in
theorem pages_at (b : Nat) (v : Value) (ks : List (Int × Int × Bool)) (w : World) (h : TlbAt w b v ks) (hn : ks.length ≤ 3) :
    Calls Try.prog 25 #[.pointer (some ⟨b, 0, none⟩)] w fun e w' => ∃ u, e = .returned u ∧ w'.ownsRow w.heap.size 3 1 u ks.length (ivs (pgs ks)) ∧ Below w.heap.size w w' := by
  obtain ⟨i0, hi0, hzz⟩ := Option.map_eq_some_iff.1 intInfo
  simp only [Prod.mk.injEq] at hzz
  obtain ⟨hz0, hz1, hz2⟩ := hzz
  obtain ⟨a, cap, rfl, hform⟩ := h.form
  have hc : w.cell? ⟨b, 0, none⟩ = some (.slice a ks.length cap) := by rw [cell_of_heap h.head]; rfl
  have hlt := h.blt
  go_enter Try.func25, Try.ntmps25
  go_wp2
  go_loopw [3, 13] (fun s i wr => ∃ (k : Nat) (u : Value), k ≤ ks.length ∧ i = .int .i64 k ∧ u = s ∧ wr.ownsRow w.heap.size 3 1 u k (ivs (pgs (ks.take k))) ∧ Below w.heap.size w wr) (fun _ i _ => ks.length - (intOf i).toNat)
  case atStart => exact ⟨0, _, by omega, rfl, rfl, World.ownsRow_nil _ _ _ _, Below.refl _ _⟩
  case round =>
    obtain ⟨k, u, hk, rfl, rfl, hown, hb⟩ := hrel
    by_cases hlk : k < ks.length
    · obtain ⟨g, cur, rfl, hh, hgb, hcap, hcs, htk⟩ := hform (by intro e; rw [e] at hlk; simp at hlk)
      have he := List.getElem?_eq_getElem hlk
      obtain ⟨c0, c1, c2⟩ := cur_get htk he
      have hh' : wr.heap[g]? = _ := (hb.block g (lt_of_heap hh)).trans hh
      have d0 : wr.cell? ⟨g, k * 3, none⟩ = some (.int .i64 ks[k].1) := by rw [cell_of_heap hh']; exact c0
      have d1 : wr.cell? ⟨g, k * 3 + 1, none⟩ = some (.int .i64 ks[k].2.1) := by rw [cell_of_heap hh']; exact c1
      have d2 : wr.cell? ⟨g, k * 3 + 2, none⟩ = some (.bool ks[k].2.2) := by rw [cell_of_heap hh']; exact c2
      generalize ks[k] = e at he d0 d1 d2
      have hint : (k : Int) < (ks.length : Int) := by omega
      have hbs := hb.size
      clear c0 c1 c2 hform h hc hh hh' htk
      go_wp2_with (first
        | (at_builtin; refine wpList_append_lies _ rfl _ _ _ rfl w.heap.size 3 i0 _ 1 8 Try.underlying58 hi0 hz0 hz1 hz2 rfl (by omega) u _ _ rfl ((hown.alloc _).alloc _) ⟨wr.heap.size + 1, 0, none⟩ 1 1 [.int .i64 e.1] rfl rfl (World.news_of_block (cs := #[.int .i64 e.1]) (t := 3) (fr := (0, 0)) (by have := heap_alloc_new (wr.alloc (.cells #[.int .i64 e.1, .int .i64 e.2.1, .bool e.2.2] 79)) (.cells #[.int .i64 e.1] 3); rw [World.size_alloc] at this; exact this)) (by simp [Value.oneCell']) (by omega) (by unfold maxLen; omega) (by omega) (by simp; omega) _ rfl ?_; intro gg cap2 w2 hown2 hgrow hat hlt2)
        | go_in)
      go_roundw
      case rel =>
        refine ⟨k + 1, _, by omega, by go_num, rfl, ?_, ((hb.alloc (by omega) _).alloc (by simp; omega) _).trans (below_grown hgrow (by simp; omega) (ownsRow_low hown))⟩
        rw [pgs_take_succ he]
        simpa [ivs] using hown2
      case measure => simp [intOf]; omega
    · have : k = ks.length := by omega
      subst this
      rw [List.take_length] at hown
      go_wp2
      go_ret
      exact ⟨_, rfl, hown, hb⟩

/-- The closure that Drop hands on. -/
def dropF (pb : Nat) : Value := .func (.func 35) #[] #[.pointer (some ⟨pb, 0, none⟩)]

set_option maxHeartbeats 400000 in
theorem drop1_any (e : Int × Int × Bool) (pb : Nat) (p : Int) (w : World) (hp : w.heap[pb]? = some (.cells #[.int .i64 p] 3)) :
    Calls Try.prog 35 #[.agg #[.int .i64 e.1, .int .i64 e.2.1, .bool e.2.2], .pointer (some ⟨pb, 0, none⟩)] w fun o w' => o = .returned (.bool (e.1 == p)) ∧ Below w.heap.size w w' := by
  have hc : w.cell? ⟨pb, 0, none⟩ = some (.int .i64 p) := by rw [cell_of_heap hp]; rfl
  have hl := lt_of_heap hp
  go_enter Try.func35, Try.ntmps35
  go_wp2
  go_ret
  exact ⟨rfl, (Below.refl _ _).alloc (Nat.le_refl _) _⟩

/-- A slice of kept pages, as far as it is read. -/
def KRow (w : World) (a : Option Addr) (cap : Nat) (ks : List (Int × Int × Bool)) : Prop :=
  ks ≠ [] → ∃ g cur, a = some ⟨g, 0, none⟩ ∧ w.heap[g]? = some (.cells cur 79 (0, 0)) ∧ ks.length ≤ cap ∧ cur.size = cap * 3 ∧ cur.toList.take (ks.length * 3) = flat ks

set_option maxHeartbeats 1000000 in
theorem index_any (a : Option Addr) (cap : Nat) (ks : List (Int × Int × Bool)) (pb : Nat) (p : Int) (w : World) (h : KRow w a cap ks) (hn : ks.length ≤ 3) (hp : w.heap[pb]? = some (.cells #[.int .i64 p] 3)) :
    Calls Try.prog 37 #[.slice a ks.length cap, dropF pb] w fun o w' =>
      ((o = .returned (.int .i64 (-1)) ∧ noneTo ks p ks.length) ∨ ∃ (k : Nat) (e : Int × Int × Bool), o = .returned (.int .i64 k) ∧ noneTo ks p k ∧ ks[k]? = some e ∧ e.1 = p) ∧ Below w.heap.size w w' := by
  unfold dropF
  go_enter Try.func37, Try.ntmps37
  go_wp2
  go_loopw [8] (fun i wr => ∃ (k : Nat), k ≤ ks.length ∧ i = .int .i64 k ∧ noneTo ks p k ∧ Below w.heap.size w wr) (fun i _ => ks.length - (intOf i).toNat)
  case atStart => exact ⟨0, by omega, rfl, fun i e hi => by omega, Below.refl _ _⟩
  case round =>
    obtain ⟨k, hk, rfl, hno, hb⟩ := hrel
    by_cases hlk : k < ks.length
    · obtain ⟨g, cur, rfl, hh, hcap, hcs, htk⟩ := h (by intro e; rw [e] at hlk; simp at hlk)
      have he := List.getElem?_eq_getElem hlk
      obtain ⟨c0, c1, c2⟩ := cur_get htk he
      have hh' : wr.heap[g]? = _ := (hb.block g (lt_of_heap hh)).trans hh
      have d0 : wr.cell? ⟨g, k * 3, none⟩ = some (.int .i64 ks[k].1) := by rw [cell_of_heap hh']; exact c0
      have d1 : wr.cell? ⟨g, k * 3 + 1, none⟩ = some (.int .i64 ks[k].2.1) := by rw [cell_of_heap hh']; exact c1
      have d2 : wr.cell? ⟨g, k * 3 + 2, none⟩ = some (.bool ks[k].2.2) := by rw [cell_of_heap hh']; exact c2
      generalize ks[k] = e at he d0 d1 d2
      have hint : (k : Int) < (ks.length : Int) := by omega
      have hp' : wr.heap[pb]? = _ := (hb.block pb (lt_of_heap hp)).trans hp
      have hcl := drop1_any e pb p wr hp'
      clear c0 c1 c2 h hh hh' htk hp hp'
      by_cases hpe : e.1 = p
      · have hq : (e.1 == p) = true := by simpa using hpe
        rw [hq] at hcl
        have HP : Hid _ := hpe
        clear hpe hq
        go_wp2_with fail
        refine hcl.mono ?_
        rintro o w1 ⟨rfl, hb1⟩
        go_wp2
        go_ret
        exact ⟨Or.inr ⟨k, e, rfl, hno, he, HP.out⟩, hb.trans (hb1.mono hb.size)⟩
      · have hq : (e.1 == p) = false := by simpa using hpe
        rw [hq] at hcl
        go_wp2_with fail
        refine hcl.mono ?_
        rintro o w1 ⟨rfl, hb1⟩
        go_wp2
        go_roundw
        case rel => exact ⟨k + 1, by omega, by go_num, noneTo_succ hno he hpe, hb.trans (hb1.mono hb.size)⟩
        case measure => simp [intOf]; omega
    · have : k = ks.length := by omega
      subst this
      clear h hp
      go_wp2
      go_ret
      exact ⟨Or.inl ⟨rfl, hno⟩, hb⟩

end Go.Proofs.Ythkffhfjkddpkaa
