/- The reference of package exoipc in the heap: Env, From, Waiting. -/
import Derived.Test.YtikeknehkoccpaaIpcW
namespace Go.Proofs.Ytikeknehkoccpaa
open Go.RowKit
set_option linter.unusedVariables false

/-- A message of the reference: from whom, to whom, where its words lie, the words. -/
structure RMg where
  fr : Int
  tt : Int
  a : Option Addr
  cap : Nat
  ws : List Int
abbrev RMg.v (m : RMg) : Value := .slice m.a m.ws.length m.cap
abbrev rrow (m : RMg) : Array Value := #[.int .i64 m.fr, .int .i64 m.tt, .slice m.a m.ws.length m.cap]
def rcells (L : List RMg) : List Value := L.flatMap (fun m => [Value.int .i64 m.fr, Value.int .i64 m.tt, m.v])
theorem rcells_app (M N : List RMg) : rcells (M ++ N) = rcells M ++ rcells N := by simp [rcells]
theorem rcells_len : ∀ (M : List RMg), (rcells M).length = M.length * 3
  | [] => rfl
  | u :: M => by
    have := rcells_len M
    unfold rcells at *
    rw [List.flatMap_cons, List.length_append, this]
    simp
    omega
theorem rcells_one (M : List RMg) : ∀ u ∈ rcells M, u.oneCell' = true := by
  intro u hu
  simp only [rcells, List.mem_flatMap] at hu
  obtain ⟨p, _, hp⟩ := hu
  simp at hp
  rcases hp with rfl | rfl | rfl <;> rfl
theorem rcells_get : ∀ (M : List RMg) (j : Nat) (m : RMg), M[j]? = some m → (rcells M)[j * 3]? = some (.int .i64 m.fr) ∧ (rcells M)[j * 3 + 1]? = some (.int .i64 m.tt) ∧ (rcells M)[j * 3 + 2]? = some m.v
  | [], j, m, h => by simp at h
  | u :: M, 0, m, h => by
    simp at h
    subst h
    exact ⟨rfl, rfl, rfl⟩
  | u :: M, j + 1, m, h => by
    have := rcells_get M j m (by simpa using h)
    have e : rcells (u :: M) = [Value.int .i64 u.fr, Value.int .i64 u.tt, u.v] ++ rcells M := rfl
    rw [e, List.getElem?_append_right (by simp; omega), List.getElem?_append_right (by simp; omega), List.getElem?_append_right (by simp; omega)]
    simp only [List.length_cons, List.length_nil]
    rw [show (j + 1) * 3 - (0 + 1 + 1 + 1) = j * 3 by omega, show (j + 1) * 3 + 1 - (0 + 1 + 1 + 1) = j * 3 + 1 by omega, show (j + 1) * 3 + 2 - (0 + 1 + 1 + 1) = j * 3 + 2 by omega]
    exact this
/-- Block c holds the reference's list. -/
structure RIs (w : World) (c : Nat) (v : Value) (L : List RMg) : Prop where
  head : w.heap[c]? = some (.cells #[v] 28)
  own : w.ownsRow 0 67 3 v L.length (rcells L)
  wd : ∀ m ∈ L, Wd w m.a m.ws
section
variable {w w' : World} {c : Nat} {v : Value} {L : List RMg}
theorem RIs.lt (h : RIs w c v L) : c < w.heap.size := lt_of_heap h.head
theorem RIs.keep (h : RIs w c v L) (hk : ∀ (k : Nat) (cs : Array Value) (t : TypeId) (fr : Nat × Nat), w.heap[k]? = some (.cells cs t fr) → (t = 28 ∨ t = 67 ∨ t = 52) → w'.heap[k]? = some (.cells cs t fr)) : RIs w' c v L := by
  refine ⟨hk _ _ _ _ h.head (Or.inl rfl), ownsRow_at h.own (fun g hg => ?_), fun m hm => (h.wd m hm).keep (fun k cs fr hh => hk _ _ _ _ hh (Or.inr (Or.inr rfl)))⟩
  obtain ⟨cs, hcs⟩ := own_type h.own hg
  rw [hcs]
  exact hk _ _ _ _ hcs (Or.inr (Or.inl rfl))
theorem RIs.below (h : RIs w c v L) (hb : Below w.heap.size w w') : RIs w' c v L := h.keep (fun k cs t fr hk _ => (hb.block k (lt_of_heap hk)).trans hk)
theorem RIs.tch {B : Nat} (h : RIs w c v L) (hb : Tch B w w') : RIs w' c v L := h.keep (fun k cs t fr hk ht => hb.other hk (by rcases ht with rfl | rfl | rfl <;> decide) (by rcases ht with rfl | rfl | rfl <;> decide))
theorem RIs.c0 (h : RIs w c v L) : w.cell? ⟨c, 0, none⟩ = some v := by rw [cell_of_heap h.head]; rfl
theorem RIs.free (h : RIs w c v L) : w.frozen? ⟨c, 0, none⟩ = false := frozen_of_heap h.head
theorem RIs.far (h : RIs w c v L) : v.ownBlock ≠ some c := by
  intro e
  obtain ⟨cs, hc⟩ := own_type h.own e
  rw [h.head] at hc
  simp only [Option.some.injEq, Obj.cells.injEq] at hc
  exact absurd hc.2.1 (by decide)
theorem RIs.form (h : RIs w c v L) : ∃ a cap, v = .slice a L.length cap := own_slice h.own
theorem RIs.at (h : RIs w c v L) {j : Nat} {m : RMg} (hm : L[j]? = some m) : ∃ g cap, v = .slice (some ⟨g, 0, none⟩) L.length cap ∧ L.length ≤ cap ∧ w.cell? ⟨g, j * 3, none⟩ = some (.int .i64 m.fr) ∧ w.cell? ⟨g, j * 3 + 1, none⟩ = some (.int .i64 m.tt) ∧ w.cell? ⟨g, j * 3 + 2, none⟩ = some (.slice m.a m.ws.length m.cap) := by
  have hj : j < L.length := (List.getElem?_eq_some_iff.1 hm).1
  rcases h.own.2 with ⟨_, e⟩ | ⟨g, cap, cur, e, _, hh, q1, _, _, q4⟩
  · omega
  · obtain ⟨h1, h2, h3⟩ := rcells_get L j m hm
    rw [← q4, List.getElem?_take_of_lt (by omega)] at h1 h2 h3
    refine ⟨g, cap, e, q1, ?_, ?_, ?_⟩
    · rw [cell_of_heap hh]; simpa using h1
    · rw [cell_of_heap hh]; simpa using h2
    · rw [cell_of_heap hh]; simpa using h3
theorem own_weak {base : Nat} {e : TypeId} {size : Nat} {n : Nat} {xs : List Value} (h : w.ownsRow base e size v n xs) : w.ownsRow 0 e size v n xs := by
  refine ⟨h.1, ?_⟩
  rcases h.2 with h2 | ⟨g, cap, cur, h2, _, r⟩
  · exact Or.inl h2
  · exact Or.inr ⟨g, cap, cur, h2, Nat.zero_le _, r⟩
/-- The list is another one. -/
theorem RIs.put {w1 : World} (h : RIs w c v L) (hb : Below w.heap.size w w1) {base : Nat} {v' : Value} {L' : List RMg} (ho : w1.ownsRow base 67 3 v' L'.length (rcells L')) (hw : ∀ m ∈ L', Wd w1 m.a m.ws) :
    RIs (w1.setCell ⟨c, 0, none⟩ v') c v' L' ∧ Upd c w (w1.setCell ⟨c, 0, none⟩ v') := by
  have h1 := h.below hb
  refine ⟨⟨?_, ownsRow_at (own_weak ho) (fun g hg => Below.heap_setCell _ _ _ _ ?_), fun m hm => (hw m hm).keep (fun k cs fr hk => ?_)⟩, (Upd.of_below hb).trans (Upd.setCell c 0 w1 _)⟩
  · rw [setCell_eq_setRow w1 c _ _ _ _ _ h1.head, setRow_heap w1 c _ _ _ _ h1.head]
    rfl
  · show g ≠ c
    rintro rfl
    obtain ⟨cs, hc⟩ := own_type ho hg
    rw [h1.head] at hc
    simp only [Option.some.injEq, Obj.cells.injEq] at hc
    exact absurd hc.2.1 (by decide)
  · rw [Below.heap_setCell _ _ _ _ ?_]
    · exact hk
    · show k ≠ c
      rintro rfl
      rw [h1.head] at hk
      simp only [Option.some.injEq, Obj.cells.injEq] at hk
      exact absurd hk.2.1 (by decide)
end
/-- Those to one. -/
def selM (L : List RMg) (n : Int) : List RMg := L.filter (fun m => m.tt == n)
def rfroms (L : List RMg) (n : Int) : List Int := (selM L n).map RMg.fr
theorem selM_snoc (L : List RMg) (n : Int) (m : RMg) : selM (L ++ [m]) n = if m.tt = n then selM L n ++ [m] else selM L n := by
  unfold selM
  rw [List.filter_append]
  split
  · rename_i h; simp [h]
  · rename_i h; simp [h]
theorem rfroms_snoc (L : List RMg) (n : Int) (m : RMg) : rfroms (L ++ [m]) n = if m.tt = n then rfroms L n ++ [m.fr] else rfroms L n := by
  unfold rfroms
  rw [selM_snoc]
  split
  · simp
  · rfl
theorem rfroms_len (L : List RMg) (n : Int) : (rfroms L n).length ≤ L.length := by
  unfold rfroms selM
  rw [List.length_map]
  exact List.length_filter_le _ _

theorem renv_at (n : Int) (w : World) :
    Calls Try.prog 26 #[.int .i64 n] w fun e w' => e = .returned (.bool (isE n)) ∧ w' = w := by
  by_cases h0 : 0 ≤ n
  · have g0 : decide (0 ≤ n) = true := decide_eq_true h0
    have HB : Hid (isE n = decide (n < 12)) := by show _ = _; simp [isE, h0]
    go_enter Try.func26, Try.ntmps26
    go_wp2
    all_goals
      go_ret
      exact ⟨by rw [HB.out]; simp_all, rfl⟩
  · have g0 : decide (0 ≤ n) = false := decide_eq_false h0
    have HB : Hid (isE n = false) := by show _ = _; simp [isE, h0]
    go_enter Try.func26, Try.ntmps26
    go_wp2
    all_goals
      go_ret
      exact ⟨by rw [HB.out]; rfl, rfl⟩
set_option maxHeartbeats 2000000 in
theorem rfrom_at (c : Nat) (v : Value) (L : List RMg) (n : Int) (w : World) (h : RIs w c v L) (hl : L.length ≤ 1000) :
    Calls Try.prog 20 #[.pointer (some ⟨c, 0, none⟩), .int .i64 n] w fun e w' => ∃ u, e = .returned u ∧ w'.ownsRow w.heap.size 3 1 u (rfroms L n).length (ivs (rfroms L n)) ∧ Below w.heap.size w w' := by
  obtain ⟨i0, hi0, hzz⟩ := Option.map_eq_some_iff.1 intInfo
  simp only [Prod.mk.injEq] at hzz
  obtain ⟨hz0, hz1, hz2⟩ := hzz
  obtain ⟨av, cv, rfl⟩ := h.form
  obtain ⟨ll, hll⟩ : ∃ ll, ll = L.length := ⟨_, rfl⟩
  rw [← hll] at h hl
  have HR : Hid (RIs w c (.slice av ll cv) L) := h
  have HLL : Hid (ll = L.length) := hll
  clear h hll
  go_enter Try.func20, Try.ntmps20
  go_wp2
  go_loopw [5, 6] (fun s i wr => ∃ (j : Nat) (u : Value), j ≤ ll ∧ i = .int .i64 j ∧ u = s ∧ wr.ownsRow w.heap.size 3 1 u (rfroms (L.take j) n).length (ivs (rfroms (L.take j) n)) ∧ Below w.heap.size w wr) (fun _ i _ => ll - (intOf i).toNat)
  case atStart => exact ⟨0, _, by omega, rfl, rfl, World.ownsRow_nil _ _ _ _, Below.refl _ _⟩
  case round =>
    obtain ⟨j, u, hj, rfl, rfl, hown, hb⟩ := hrel
    have hR := RIs.below HR.out hb
    have c0 := hR.c0
    have hws := hb.size
    have HO : Hid (wr.ownsRow w.heap.size 3 1 u (rfroms (L.take j) n).length (ivs (rfroms (L.take j) n))) := hown
    have HB : Hid (Below w.heap.size w wr) := hb
    by_cases hlt : j < ll
    · obtain ⟨m, hm⟩ : ∃ m, L[j]? = some m := ⟨L[j]'(by rw [← HLL.out]; exact hlt), List.getElem?_eq_getElem _⟩
      obtain ⟨g, cap, e, _, d0, d1, _⟩ := hR.at hm
      simp only [Value.slice.injEq] at e
      obtain ⟨rfl, _, rfl⟩ := e
      have hji : (j : Int) < (ll : Int) := by omega
      have hle : (rfroms (L.take j) n).length ≤ j := Nat.le_trans (rfroms_len _ _) (by simp; omega)
      by_cases he : m.tt = n
      · have ge : (m.tt == n) = true := by simp [he]
        have HF : Hid (rfroms (L.take (j + 1)) n = rfroms (L.take j) n ++ [m.fr]) := by show _ = _; rw [take_snoc hm, rfroms_snoc, if_pos he]
        clear hR hown hb hm he
        generalize rfroms (L.take j) n = D at *
        go_wp2_with (at_builtin; refine wpList_append_lies _ rfl _ _ _ rfl w.heap.size 3 i0 _ 1 8 Try.underlying41 hi0 hz0 hz1 hz2 rfl (by omega) u D.length (ivs D) rfl (World.ownsRow.alloc HO.out _) ⟨wr.heap.size, 0, none⟩ 1 1 [.int .i64 m.fr] rfl rfl (World.news_of_block (cs := #[.int .i64 m.fr]) (t := 3) (fr := (0, 0)) (heap_alloc_new _ _)) (by simp [Value.oneCell']) (by omega) (by unfold maxLen; omega) (by omega) (by simp; omega) _ rfl ?_; intro gg capx w2 hown2 hgrow hat hlt2)
        go_roundw
        case rel =>
          refine ⟨j + 1, _, by omega, by go_num, rfl, ?_, (HB.out.alloc hws _).trans (below_grown hgrow (by simp; omega) (ownsRow_low HO.out))⟩
          rw [HF.out, ivs_app, List.length_append]
          exact hown2
        case measure => simp [intOf]; omega
      · have ge : (m.tt == n) = false := by simp [he]
        have HF : Hid (rfroms (L.take (j + 1)) n = rfroms (L.take j) n) := by show _ = _; rw [take_snoc hm, rfroms_snoc, if_neg he]
        clear hR hown hb hm he
        go_wp2
        go_roundw
        case rel => exact ⟨j + 1, _, by omega, by go_num, rfl, by rw [HF.out]; exact HO.out, HB.out⟩
        case measure => simp [intOf]; omega
    · obtain rfl : j = ll := by omega
      have HT : Hid (L.take j = L) := by show _ = _; rw [HLL.out]; simp
      clear hR hown hb
      go_wp2
      go_ret
      refine ⟨_, rfl, ?_, HB.out⟩
      have := HO.out
      rw [HT.out] at this
      exact this
theorem rwaiting_at (c : Nat) (v : Value) (L : List RMg) (n : Int) (w : World) (h : RIs w c v L) (hl : L.length ≤ 1000) :
    Calls Try.prog 17 #[.pointer (some ⟨c, 0, none⟩), .int .i64 n] w fun e w' => e = .returned (.int .i64 ((rfroms L n).length : Nat)) ∧ Below w.heap.size w w' := by
  have hF := rfrom_at c v L n w h hl
  clear h
  generalize rfroms L n = D at *
  go_enter Try.func17, Try.ntmps17
  go_wp2_with fail
  refine hF.mono ?_
  rintro e w1 ⟨u, rfl, hown, hb⟩
  obtain ⟨a, cap, rfl⟩ := own_slice hown
  have HB : Hid (Below w.heap.size w w1) := hb
  clear hown hb
  go_wp2
  go_ret
  exact ⟨rfl, HB.out⟩
end Go.Proofs.Ytikeknehkoccpaa
