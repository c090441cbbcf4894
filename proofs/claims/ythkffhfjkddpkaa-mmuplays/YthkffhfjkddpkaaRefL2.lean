/- The contracts of the reference TLB of layer 2: find, Pages, Drop; and of the comparison of two lists of integers. -/
import Derived.Test.YthkffhfjkddpkaaRefT2
import Derived.Test.YthkffhfjkddpkaaMmuI
import Derived.BigQuiet
import Derived.Deep.QuietTactic
namespace Go.Proofs.Ythkffhfjkddpkaa
open Go.RowKit
set_option linter.unusedVariables false

/-- Block c is a reference TLB that holds the slice v, and keeps ks. -/
structure RTlb (w : World) (c : Nat) (v : Value) (ks : List (Int × Int × Bool)) : Prop where
  head : w.heap[c]? = some (.cells #[v] 37)
  form : ∃ a cap, v = .slice a ks.length cap ∧ ks.length ≤ cap ∧ cap ≤ maxLen ∧ (ks ≠ [] → ∃ g o cur, a = some ⟨g, o, none⟩ ∧ w.heap[g]? = some (.cells cur 76 (0, 0)) ∧
    ∀ i e, ks[i]? = some e → cur[o + i * 3]? = some (.int .i64 e.1) ∧ cur[o + i * 3 + 1]? = some (.int .i64 e.2.1) ∧ cur[o + i * 3 + 2]? = some (.bool e.2.2))
  far : v.ownBlock ≠ some c
  glt : ∀ g, v.ownBlock = some g → g < w.heap.size

theorem RTlb.lt {w : World} {c : Nat} {v : Value} {ks : List (Int × Int × Bool)} (h : RTlb w c v ks) : c < w.heap.size := lt_of_heap h.head
theorem RTlb.keep {w w' : World} {c : Nat} {v : Value} {ks : List (Int × Int × Bool)} (h : RTlb w c v ks) (hs : w.heap.size ≤ w'.heap.size) (h1 : w'.heap[c]? = w.heap[c]?) (h2 : ∀ g, v.ownBlock = some g → w'.heap[g]? = w.heap[g]?) : RTlb w' c v ks := by
  obtain ⟨hh, ⟨a, cap, e, l1, l2, hf⟩, hfar, hg⟩ := h
  refine ⟨h1.trans hh, ⟨a, cap, e, l1, l2, fun hne => ?_⟩, hfar, fun g hg' => Nat.lt_of_lt_of_le (hg g hg') hs⟩
  obtain ⟨g, o, cur, ea, hc, hp⟩ := hf hne
  exact ⟨g, o, cur, ea, (h2 g (by rw [e, ea]; rfl)).trans hc, hp⟩
theorem RTlb.below {w w' : World} {c : Nat} {v : Value} {ks : List (Int × Int × Bool)} (h : RTlb w c v ks) (hb : Below w.heap.size w w') : RTlb w' c v ks :=
  h.keep hb.size (hb.block _ h.lt) (fun g hg => hb.block g (h.glt g hg))

set_option maxHeartbeats 1000000 in
theorem rfind_at (c : Nat) (v : Value) (ks : List (Int × Int × Bool)) (p : Int) (w : World) (h : RTlb w c v ks) (hn : ks.length ≤ 3) :
    Calls Try.prog 33 #[.pointer (some ⟨c, 0, none⟩), .int .i64 p] w fun o w' =>
      ((o = .returned (.int .i64 (-1)) ∧ noneTo ks p ks.length) ∨ ∃ (k : Nat) (e : Int × Int × Bool), o = .returned (.int .i64 k) ∧ noneTo ks p k ∧ ks[k]? = some e ∧ e.1 = p) ∧ w' = w := by
  obtain ⟨a, cap, rfl, _, _, hform⟩ := h.form
  have hc : w.cell? ⟨c, 0, none⟩ = some (.slice a ks.length cap) := by rw [cell_of_heap h.head]; rfl
  have hl := h.lt
  clear h
  go_enter Try.func33, Try.ntmps33
  go_wp2
  go_loopw [5] (fun i wr => ∃ (k : Nat), k ≤ ks.length ∧ i = .int .i64 k ∧ noneTo ks p k ∧ wr = w) (fun i _ => ks.length - (intOf i).toNat)
  case atStart => exact ⟨0, by omega, rfl, fun i e hi => by omega, rfl⟩
  case round =>
    obtain ⟨k, hk, rfl, hno, rfl⟩ := hrel
    by_cases hlk : k < ks.length
    · obtain ⟨g, o, cur, rfl, hh, hp⟩ := hform (by intro e; rw [e] at hlk; simp at hlk)
      have he := List.getElem?_eq_getElem hlk
      obtain ⟨c0, _, _⟩ := hp k _ he
      have d0 : wr.cell? ⟨g, o + k * 3, none⟩ = some (.int .i64 ks[k].1) := by rw [cell_of_heap hh]; exact c0
      generalize ks[k] = e at he d0
      have hint : (k : Int) < (ks.length : Int) := by omega
      clear c0 hform hh hp
      by_cases hpe : e.1 = p
      · have hq : (e.1 == p) = true := by simpa using hpe
        have HP : Hid _ := hpe
        clear hpe
        go_wp2
        go_ret
        exact ⟨Or.inr ⟨k, e, rfl, hno, he, HP.out⟩, rfl⟩
      · have hq : (e.1 == p) = false := by simpa using hpe
        have HP : Hid _ := hpe
        clear hpe
        go_wp2
        go_roundw
        case rel => exact ⟨k + 1, by omega, by go_num, noneTo_succ hno he HP.out, trivial⟩
        case measure => simp [intOf]; omega
    · have : k = ks.length := by omega
      subst this
      clear hform
      go_wp2
      go_ret
      exact ⟨Or.inl ⟨rfl, hno⟩, rfl⟩

set_option maxHeartbeats 1000000 in
theorem rpages_at (c : Nat) (v : Value) (ks : List (Int × Int × Bool)) (w : World) (h : RTlb w c v ks) (hn : ks.length ≤ 3) :
    Calls Try.prog 26 #[.pointer (some ⟨c, 0, none⟩)] w fun e w' => ∃ u, e = .returned u ∧ w'.ownsRow w.heap.size 3 1 u ks.length (ivs (pgs ks)) ∧ Below w.heap.size w w' := by
  obtain ⟨i0, hi0, hzz⟩ := Option.map_eq_some_iff.1 intInfo
  simp only [Prod.mk.injEq] at hzz
  obtain ⟨hz0, hz1, hz2⟩ := hzz
  obtain ⟨a, cap, rfl, _, _, hform⟩ := h.form
  have hc : w.cell? ⟨c, 0, none⟩ = some (.slice a ks.length cap) := by rw [cell_of_heap h.head]; rfl
  have hl := h.lt
  clear h
  go_enter Try.func26, Try.ntmps26
  go_wp2
  go_loopw [3, 4] (fun s i wr => ∃ (k : Nat) (u : Value), k ≤ ks.length ∧ i = .int .i64 k ∧ u = s ∧ wr.ownsRow w.heap.size 3 1 u k (ivs (pgs (ks.take k))) ∧ Below w.heap.size w wr) (fun _ i _ => ks.length - (intOf i).toNat)
  case atStart => exact ⟨0, _, by omega, rfl, rfl, World.ownsRow_nil _ _ _ _, Below.refl _ _⟩
  case round =>
    obtain ⟨k, u, hk, rfl, rfl, hown, hb⟩ := hrel
    have hc' : wr.cell? ⟨c, 0, none⟩ = some (.slice a ks.length cap) := (hb.cell (p := ⟨c, 0, none⟩) hl).trans hc
    by_cases hlk : k < ks.length
    · obtain ⟨g, o, cur, rfl, hh, hp⟩ := hform (by intro e; rw [e] at hlk; simp at hlk)
      have he := List.getElem?_eq_getElem hlk
      obtain ⟨c0, _, _⟩ := hp k _ he
      have hh' : wr.heap[g]? = _ := (hb.block g (lt_of_heap hh)).trans hh
      have d0 : wr.cell? ⟨g, o + k * 3, none⟩ = some (.int .i64 ks[k].1) := by rw [cell_of_heap hh']; exact c0
      generalize ks[k] = e at he d0
      have hint : (k : Int) < (ks.length : Int) := by omega
      have hbs := hb.size
      clear c0 hform hh hh' hp hc
      go_wp2_with (first
        | (at_builtin; refine wpList_append_lies _ rfl _ _ _ rfl w.heap.size 3 i0 _ 1 8 Try.underlying58 hi0 hz0 hz1 hz2 rfl (by omega) u _ _ rfl (hown.alloc _) ⟨wr.heap.size, 0, none⟩ 1 1 [.int .i64 e.1] rfl rfl (World.news_of_block (cs := #[.int .i64 e.1]) (t := 3) (fr := (0, 0)) (heap_alloc_new wr (.cells #[.int .i64 e.1] 3))) (by simp [Value.oneCell']) (by omega) (by unfold maxLen; omega) (by omega) (by simp; omega) _ rfl ?_; intro gg cap2 w2 hown2 hgrow hat hlt2)
        | go_in)
      go_roundw
      case rel =>
        refine ⟨k + 1, _, by omega, by go_num, rfl, ?_, (hb.alloc (by omega) _).trans (below_grown hgrow (by simp; omega) (ownsRow_low hown))⟩
        rw [pgs_take_succ he]
        simpa [ivs] using hown2
      case measure => simp [intOf]; omega
    · have : k = ks.length := by omega
      subst this
      rw [List.take_length] at hown
      clear hform hc
      go_wp2
      go_ret
      exact ⟨_, rfl, hown, hb⟩

theorem ownsRow_is {w : World} {base : Nat} {e : TypeId} {size : Nat} {v : Value} {n : Nat} {xs : List Value} (h : w.ownsRow base e size v n xs) : ∃ a cap, v = .slice a n cap := by
  rcases h.2 with ⟨e2, e3⟩ | ⟨g, cap, cur, e2, _⟩
  · exact ⟨none, 0, by rw [e2, e3]⟩
  · exact ⟨_, _, e2⟩

theorem rkeptInfo : (Try.prog.info? 76).map (fun i => (i.zero, i.size, i.bytes)) = some (some (.agg #[.int .i64 0, .int .i64 0, .bool false]), 3, 24) := by kernel_rfl

/-- A row that the call owns, as a reference TLB's slice. -/
theorem rtlb_of_own {w : World} {c base : Nat} {v u : Value} {ks : List (Int × Int × Bool)} (hc : w.heap[c]? = some (.cells #[v] 37)) (hown : w.ownsRow base 76 3 u ks.length (flat ks)) (hcb : c < base) :
    RTlb (w.setCell ⟨c, 0, none⟩ u) c u ks := by
  have hlow := ownsRow_low hown
  refine ⟨setCell_head hc u, ?_, fun e => by have := hlow c e; omega, fun g hg => ?_⟩
  · rcases hown.2 with ⟨e2, e3⟩ | ⟨g, cap, cur, e2, hb, hh, h1, h2, h3, h4⟩
    · exact ⟨none, 0, by rw [e2, e3], by omega, by unfold maxLen; omega, fun hne => absurd (List.length_eq_zero_iff.1 e3) hne⟩
    · refine ⟨_, cap, e2, h1, h2, fun _ => ⟨g, 0, cur, rfl, ?_, fun i e he => ?_⟩⟩
      · rw [Below.heap_setCell _ _ _ _ (by show g ≠ c; omega)]; exact hh
      · have := cur_get h4 he
        simpa using this
  · rcases hown.2 with ⟨e2, e3⟩ | ⟨g', cap, cur, e2, hb, hh, _⟩
    · rw [e2] at hg; simp [Value.ownBlock] at hg
    · rw [e2] at hg; simp [Value.ownBlock] at hg
      subst hg
      simpa [World.setCell] using lt_of_heap hh

set_option maxHeartbeats 2000000 in
theorem rdrop_at (c : Nat) (v : Value) (ks : List (Int × Int × Bool)) (p : Int) (w : World) (h : RTlb w c v ks) (hn : ks.length ≤ 3) :
    Calls Try.prog 18 #[.pointer (some ⟨c, 0, none⟩), .int .i64 p] w fun e w' => e = .returned (.tuple #[]) ∧ ∃ v', RTlb w' c v' (filt ks p) ∧ (∀ g, v'.ownBlock = some g → w.heap.size ≤ g) ∧ Upd c w w' := by
  obtain ⟨i0, hi0, hzz⟩ := Option.map_eq_some_iff.1 rkeptInfo
  simp only [Prod.mk.injEq] at hzz
  obtain ⟨hz0, hz1, hz2⟩ := hzz
  obtain ⟨a, cap, rfl, _, _, hform⟩ := h.form
  have hc : w.cell? ⟨c, 0, none⟩ = some (.slice a ks.length cap) := by rw [cell_of_heap h.head]; rfl
  have HHd : Hid _ := h.head
  have hl := h.lt
  clear h
  go_enter Try.func18, Try.ntmps18
  go_wp2
  go_loopw [4, 5] (fun s i wr => ∃ (k : Nat) (u : Value), k ≤ ks.length ∧ i = .int .i64 k ∧ u = s ∧ wr.ownsRow w.heap.size 76 3 u (filt (ks.take k) p).length (flat (filt (ks.take k) p)) ∧ Below w.heap.size w wr) (fun _ i _ => ks.length - (intOf i).toNat)
  case atStart => exact ⟨0, _, by omega, rfl, rfl, World.ownsRow_nil _ _ _ _, Below.refl _ _⟩
  case round =>
    obtain ⟨k, u, hk, rfl, rfl, hown, hb⟩ := hrel
    have hc' : wr.cell? ⟨c, 0, none⟩ = some (.slice a ks.length cap) := (hb.cell (p := ⟨c, 0, none⟩) hl).trans hc
    by_cases hlk : k < ks.length
    · obtain ⟨g, o, cur, rfl, hh, hp⟩ := hform (by intro e; rw [e] at hlk; simp at hlk)
      have he := List.getElem?_eq_getElem hlk
      obtain ⟨c0, c1, c2⟩ := hp k _ he
      have hh' : wr.heap[g]? = _ := (hb.block g (lt_of_heap hh)).trans hh
      have d0 : wr.cell? ⟨g, o + k * 3, none⟩ = some (.int .i64 ks[k].1) := by rw [cell_of_heap hh']; exact c0
      have d1 : wr.cell? ⟨g, o + k * 3 + 1, none⟩ = some (.int .i64 ks[k].2.1) := by rw [cell_of_heap hh']; exact c1
      have d2 : wr.cell? ⟨g, o + k * 3 + 2, none⟩ = some (.bool ks[k].2.2) := by rw [cell_of_heap hh']; exact c2
      generalize ks[k] = e at he d0 d1 d2
      have hint : (k : Int) < (ks.length : Int) := by omega
      have hbs := hb.size
      have hle := filt_le (ks.take k) p
      have hle2 : (ks.take k).length ≤ k := by simp; omega
      clear c0 c1 c2 hform hh hh' hp hc
      by_cases hpe : e.1 = p
      · have hq : (e.1 != p) = false := by simpa using hpe
        have HP : Hid _ := hpe
        clear hpe
        go_wp2
        go_roundw
        case rel =>
          refine ⟨k + 1, _, by omega, by go_num, rfl, ?_, hb⟩
          rw [filt_hit he HP.out]
          exact hown
        case measure => simp [intOf]; omega
      · have hq : (e.1 != p) = true := by simpa using hpe
        have HP : Hid _ := hpe
        clear hpe
        go_wp2_with (first
          | (at_builtin; refine wpList_append_lies _ rfl _ _ _ rfl w.heap.size 76 i0 _ 3 24 Try.underlying35 hi0 hz0 hz1 hz2 rfl (by omega) u _ _ rfl (hown.alloc _) ⟨wr.heap.size, 0, none⟩ 1 1 [.int .i64 e.1, .int .i64 e.2.1, .bool e.2.2] rfl rfl (World.news_of_block (cs := #[.int .i64 e.1, .int .i64 e.2.1, .bool e.2.2]) (t := 76) (fr := (0, 0)) (heap_alloc_new wr (.cells #[.int .i64 e.1, .int .i64 e.2.1, .bool e.2.2] 76))) (by simp [Value.oneCell']) (by omega) (by unfold maxLen; omega) (by omega) (by simp; omega) _ rfl ?_; intro gg cap2 w2 hown2 hgrow hat hlt2)
          | go_in)
        go_roundw
        case rel =>
          refine ⟨k + 1, _, by omega, by go_num, rfl, ?_, (hb.alloc (by omega) _).trans (below_grown hgrow (by simp; omega) (ownsRow_low hown))⟩
          rw [filt_miss he HP.out, flat_append]
          simpa [flat] using hown2
        case measure => simp [intOf]; omega
    · have : k = ks.length := by omega
      subst this
      rw [List.take_length] at hown
      have hz : wr.frozen? ⟨c, 0, none⟩ = false := frozen_of_heap ((hb.block c hl).trans HHd.out)
      obtain ⟨ua, uc, rfl⟩ := ownsRow_is hown
      clear hform hc
      go_wp2
      go_end0
      exact ⟨rfl, _, rtlb_of_own ((hb.block c hl).trans HHd.out) hown hl, ownsRow_low hown, (Upd.of_below hb).trans (Upd.setCell _ _ _ _)⟩

/-- A slice of integers, as far as it is read. -/
def IRow (w : World) (v : Value) (zs : List Int) : Prop :=
  ∃ a cap, v = .slice a zs.length cap ∧ zs.length ≤ 9 ∧ (zs ≠ [] → ∃ g, a = some ⟨g, 0, none⟩ ∧ ∀ (i : Nat) (z : Int), zs[i]? = some z → w.cell? ⟨g, i, none⟩ = some (.int .i64 z))

theorem irow_of_own {w : World} {base : Nat} {v : Value} {zs : List Int} (h : w.ownsRow base 3 1 v zs.length (ivs zs)) (hl : zs.length ≤ 9) : IRow w v zs := by
  rcases h.2 with ⟨e2, e3⟩ | ⟨g, cap, cur, e2, hb, hh, h1, h2, h3, h4⟩
  · exact ⟨none, 0, by rw [e2, e3], hl, fun hne => absurd (List.length_eq_zero_iff.1 e3) hne⟩
  · refine ⟨_, cap, e2, hl, fun _ => ⟨g, rfl, fun i z hz => ?_⟩⟩
    have hi : i < zs.length := (List.getElem?_eq_some_iff.1 hz).1
    rw [cell_of_heap hh]
    have : (ivs zs)[i]? = some (.int .i64 z) := by simp [ivs, hz]
    rw [← h4, List.getElem?_take_of_lt (by omega)] at this
    simpa using this
theorem IRow.below {w w' : World} {v : Value} {zs : List Int} (h : IRow w v zs) (hb : Below w.heap.size w w') : IRow w' v zs := by
  obtain ⟨a, cap, e, hl, hf⟩ := h
  refine ⟨a, cap, e, hl, fun hne => ?_⟩
  obtain ⟨g, ea, hc⟩ := hf hne
  exact ⟨g, ea, fun i z hz => (hb.cell (p := ⟨g, i, none⟩) (cell_lt (hc i z hz))).trans (hc i z hz)⟩

set_option maxHeartbeats 2000000 in
theorem ints_same (u v : Value) (zs : List Int) (w : World) (h1 : IRow w u zs) (h2 : IRow w v zs) :
    Calls Try.prog 22 #[u, v] w fun e w' => e = .returned (.bool true) ∧ Below w.heap.size w w' := by
  obtain ⟨a, cap, rfl, hl, f1⟩ := h1
  obtain ⟨b, cap2, rfl, _, f2⟩ := h2
  go_enter Try.func22, Try.ntmps22
  go_wp2
  go_loopw [5] (fun i wr => ∃ (k q : Nat), k ≤ zs.length ∧ i = .int .i64 k ∧ wr = w.drewN q) (fun i _ => zs.length - (intOf i).toNat)
  case atStart => exact ⟨0, 0, by omega, rfl, rfl⟩
  case round =>
    obtain ⟨k, q, hk, rfl, rfl⟩ := hrel
    by_cases hlk : k < zs.length
    · have hne : zs ≠ [] := by intro e; rw [e] at hlk; simp at hlk
      obtain ⟨g, rfl, hg⟩ := f1 hne
      obtain ⟨g', rfl, hg'⟩ := f2 hne
      have he := List.getElem?_eq_getElem hlk
      have d0 := hg k _ he
      have d1 := hg' k _ he
      generalize zs[k] = z at d0 d1
      have hint : (k : Int) < (zs.length : Int) := by omega
      clear f1 f2 hg hg' he
      go_wp2
      go_quiet (fail)
      go_wp2
      go_roundw
      case rel => exact ⟨k + 1, _, by omega, by go_num, rfl⟩
      case measure => simp [intOf]; omega
    · have : k = zs.length := by omega
      subst this
      clear f1 f2
      go_wp2
      go_ret
      exact ⟨rfl, below_drewN (Below.refl _ _) q⟩

end Go.Proofs.Ythkffhfjkddpkaa
