import Derived.Test.YtbhpafgoofkkmaaGreatDoorIpcAll
import Derived.OwnWalk
set_option linter.all false
namespace Go.Proofs.YtbhpafgoofkkmaaGreatDoor
open Go.RowKit
namespace Ip
structure RMg where
 fr : Int
 tt : Int
 a : Option Addr
 cap : Nat
 ws : List Int
abbrev RMg.v (m : RMg) : Value := .slice m.a m.ws.length m.cap
abbrev rrow (m : RMg) : Array Value := #[.int .i64 m.fr, .int .i64 m.tt, .slice m.a m.ws.length m.cap]
def rcells (L : List RMg) : List Value := L.flatMap (fun m => [Value.int .i64 m.fr, Value.int .i64 m.tt, m.v])
theorem rcells_app (M N : List RMg) : rcells (M ++ N) = rcells M ++ rcells N := by simp [rcells]
theorem rcells_len : ∀ (M : List RMg), (rcells M).length = M.length * 3
 | [] => rfl
 | u :: M => by
  have := rcells_len M
  unfold rcells at *
  rw [List.flatMap_cons, List.length_append, this]
  simp
  omega
theorem rcells_one (M : List RMg) : ∀ u ∈ rcells M, u.oneCell' = true := by
 intro u hu
 simp only [rcells, List.mem_flatMap] at hu
 obtain ⟨p, _, hp⟩ := hu
 simp at hp
 rcases hp with rfl | rfl | rfl <;> rfl
theorem rcells_get : ∀ (M : List RMg) (j : Nat) (m : RMg), M[j]? = some m → (rcells M)[j * 3]? = some (.int .i64 m.fr) ∧ (rcells M)[j * 3 + 1]? = some (.int .i64 m.tt) ∧ (rcells M)[j * 3 + 2]? = some m.v
 | [], j, m, h => by simp at h
 | u :: M, 0, m, h => by
  simp at h
  subst h
  exact ⟨rfl, rfl, rfl⟩
 | u :: M, j + 1, m, h => by
  have := rcells_get M j m (by simpa using h)
  have e : rcells (u :: M) = [Value.int .i64 u.fr, Value.int .i64 u.tt, u.v] ++ rcells M := rfl
  rw [e, List.getElem?_append_right (by simp; omega), List.getElem?_append_right (by simp; omega), List.getElem?_append_right (by simp; omega)]
  simp only [List.length_cons, List.length_nil]
  rw [show (j + 1) * 3 - (0 + 1 + 1 + 1) = j * 3 by omega, show (j + 1) * 3 + 1 - (0 + 1 + 1 + 1) = j * 3 + 1 by omega, show (j + 1) * 3 + 2 - (0 + 1 + 1 + 1) = j * 3 + 2 by omega]
  exact this
structure RJ where
 M : Nat
 p0 : Nat
 p1 : Nat
 p2 : Nat
structure RIs (J : RJ) (w : World) (c : Nat) (v : Value) (L : List RMg) : Prop where
 head : w.heap[c]? = some (.cells #[.pointer (some ⟨J.p0, 0, none⟩), .pointer (some ⟨J.p1, 0, none⟩), .pointer (some ⟨J.p2, 0, none⟩), v] 65)
 own : w.ownsRow 0 225 3 v L.length (rcells L)
 wd : ∀ m ∈ L, Wd w m.a m.ws
 lo : ∀ m ∈ L, NewA J.M m.a
variable {J : RJ}
section
variable {w w' : World} {c : Nat} {v : Value} {L : List RMg}
theorem RIs.lt (h : RIs J w c v L) : c < w.heap.size := lt_of_heap h.head
theorem RIs.keep (h : RIs J w c v L) (hk : ∀ (k : Nat) (cs : Array Value) (t : TypeId) (fr : Nat × Nat), w.heap[k]? = some (.cells cs t fr) → (t = 65 ∨ t = 225 ∨ t = 42) → w'.heap[k]? = some (.cells cs t fr)) : RIs J w' c v L := by
 refine ⟨hk _ _ _ _ h.head (Or.inl rfl), ownsRow_at h.own (fun g hg => ?_), fun m hm => (h.wd m hm).keep (fun k cs fr hh => hk _ _ _ _ hh (Or.inr (Or.inr rfl))), h.lo⟩
 obtain ⟨cs, hcs⟩ := own_type h.own hg
 rw [hcs]
 exact hk _ _ _ _ hcs (Or.inr (Or.inl rfl))
theorem Wd.keepM {M : Nat} {w w' : World} {a : Option Addr} {ws : List Int} (h : Wd w a ws) (hn : NewA M a) (hb : ∀ (k : Nat) (cs : Array Value) (fr : Nat × Nat), M ≤ k → w.heap[k]? = some (.cells cs 42 fr) → w'.heap[k]? = some (.cells cs 42 fr)) : Wd w' a ws := by
 intro j x hj
 obtain ⟨g, off, e, ⟨cs, fr, hh⟩, hc⟩ := h j x hj
 have h2 := hb g cs fr (hn g off e) hh
 refine ⟨g, off, e, ⟨cs, fr, h2⟩, ?_⟩
 rw [cell_of_heap hh] at hc
 rw [cell_of_heap h2]
 exact hc
theorem RIs.keepM (h : RIs J w c v L) (hk : ∀ (k : Nat) (cs : Array Value) (t : TypeId) (fr : Nat × Nat), w.heap[k]? = some (.cells cs t fr) → (t = 65 ∨ t = 225 ∨ (t = 42 ∧ J.M ≤ k)) → w'.heap[k]? = some (.cells cs t fr)) : RIs J w' c v L := by
 refine ⟨hk _ _ _ _ h.head (Or.inl rfl), ownsRow_at h.own (fun g hg => ?_), fun m hm => (h.wd m hm).keepM (h.lo m hm) (fun k cs fr hM hh => hk _ _ _ _ hh (Or.inr (Or.inr ⟨rfl, hM⟩))), h.lo⟩
 obtain ⟨cs, hcs⟩ := own_type h.own hg
 rw [hcs]
 exact hk _ _ _ _ hcs (Or.inr (Or.inl rfl))
theorem RIs.below (h : RIs J w c v L) (hb : Below w.heap.size w w') : RIs J w' c v L := h.keep (fun k cs t fr hk _ => (hb.block k (lt_of_heap hk)).trans hk)
theorem RIs.c0 (h : RIs J w c v L) : w.cell? ⟨c, 3, none⟩ = some v := by rw [cell_of_heap h.head]; rfl
theorem RIs.free (h : RIs J w c v L) : w.frozen? ⟨c, 3, none⟩ = false := frozen_of_heap h.head
theorem RIs.form (h : RIs J w c v L) : ∃ a cap, v = .slice a L.length cap := own_slice h.own
theorem RIs.at (h : RIs J w c v L) {j : Nat} {m : RMg} (hm : L[j]? = some m) : ∃ g cap, v = .slice (some ⟨g, 0, none⟩) L.length cap ∧ L.length ≤ cap ∧ w.cell? ⟨g, j * 3, none⟩ = some (.int .i64 m.fr) ∧ w.cell? ⟨g, j * 3 + 1, none⟩ = some (.int .i64 m.tt) ∧ w.cell? ⟨g, j * 3 + 2, none⟩ = some (.slice m.a m.ws.length m.cap) := by
 have hj : j < L.length := (List.getElem?_eq_some_iff.1 hm).1
 rcases h.own.2 with ⟨_, e⟩ | ⟨g, cap, cur, e, _, hh, q1, _, _, q4⟩
 ·omega
 ·obtain ⟨h1, h2, h3⟩ := rcells_get L j m hm
  rw [← q4, List.getElem?_take_of_lt (by omega)] at h1 h2 h3
  refine ⟨g, cap, e, q1, ?_, ?_, ?_⟩
  ·rw [cell_of_heap hh]; simpa using h1
  ·rw [cell_of_heap hh]; simpa using h2
  ·rw [cell_of_heap hh]; simpa using h3
theorem own_weak {base : Nat} {e : TypeId} {size : Nat} {n : Nat} {xs : List Value} (h : w.ownsRow base e size v n xs) : w.ownsRow 0 e size v n xs := by
 refine ⟨h.1, ?_⟩
 rcases h.2 with h2 | ⟨g, cap, cur, h2, _, r⟩
 ·exact Or.inl h2
 ·exact Or.inr ⟨g, cap, cur, h2, Nat.zero_le _, r⟩
theorem RIs.put {w1 : World} (h : RIs J w c v L) (hb : Below w.heap.size w w1) {base : Nat} {v' : Value} {L' : List RMg} (ho : w1.ownsRow base 225 3 v' L'.length (rcells L')) (hw : ∀ m ∈ L', Wd w1 m.a m.ws) (hlo : ∀ m ∈ L', NewA J.M m.a) :
  RIs J (w1.setCell ⟨c, 3, none⟩ v') c v' L' ∧ Upd c w (w1.setCell ⟨c, 3, none⟩ v') := by
 have h1 := h.below hb
 refine ⟨⟨?_, ownsRow_at (own_weak ho) (fun g hg => Below.heap_setCell _ _ _ _ ?_), fun m hm => (hw m hm).keep (fun k cs fr hk => ?_), hlo⟩, (Upd.of_below hb).trans (Upd.setCell c 3 w1 _)⟩
 ·rw [setCell_eq_setRow w1 c _ _ _ _ _ h1.head, setRow_heap w1 c _ _ _ _ h1.head]
  rfl
 ·show g ≠ c
  rintro rfl
  obtain ⟨cs, hc⟩ := own_type ho hg
  rw [h1.head] at hc
  simp only [Option.some.injEq, Obj.cells.injEq] at hc
  exact absurd hc.2.1 (by decide)
 ·rw [Below.heap_setCell _ _ _ _ ?_]
  ·exact hk
  ·show k ≠ c
   rintro rfl
   rw [h1.head] at hk
   simp only [Option.some.injEq, Obj.cells.injEq] at hk
   exact absurd hk.2.1 (by decide)
end
def selM (L : List RMg) (n : Int) : List RMg := L.filter (fun m => m.tt == n)
def rfroms (L : List RMg) (n : Int) : List Int := (selM L n).map RMg.fr
theorem selM_snoc (L : List RMg) (n : Int) (m : RMg) : selM (L ++ [m]) n = if m.tt = n then selM L n ++ [m] else selM L n := by
 unfold selM
 rw [List.filter_append]
 split
 ·rename_i h; simp [h]
 ·rename_i h; simp [h]
theorem rfroms_snoc (L : List RMg) (n : Int) (m : RMg) : rfroms (L ++ [m]) n = if m.tt = n then rfroms L n ++ [m.fr] else rfroms L n := by
 unfold rfroms
 rw [selM_snoc]
 split
 ·simp
 ·rfl
theorem rfroms_len (L : List RMg) (n : Int) : (rfroms L n).length ≤ L.length := by
 unfold rfroms selM
 rw [List.length_map]
 exact List.length_filter_le _ _
set_option maxRecDepth 100000 in
theorem renv_at (n : Int) (w : World) :
  Calls Tryz.prog 59 #[.int .i64 n] w fun e w' => e = .returned (.bool (isE n)) ∧ w' = w := by
 by_cases h0 : 0 ≤ n
 ·have g0 : decide (0 ≤ n) = true := decide_eq_true h0
  have HB : Hid (isE n = decide (n < 12)) := by show _ = _; simp [isE, h0]
  go_enter Tryz.func59, Tryz.ntmps59
  go_wp2
  all_goals
   go_ret
   exact ⟨by rw [HB.out]; simp_all, rfl⟩
 ·have g0 : decide (0 ≤ n) = false := decide_eq_false h0
  have HB : Hid (isE n = false) := by show _ = _; simp [isE, h0]
  go_enter Tryz.func59, Tryz.ntmps59
  go_wp2
  all_goals
   go_ret
   exact ⟨by rw [HB.out]; rfl, rfl⟩
set_option maxRecDepth 100000 in
set_option maxHeartbeats 2000000 in
theorem rfrom_at (c : Nat) (v : Value) (L : List RMg) (n : Int) (w : World) (h : RIs J w c v L) (hl : L.length ≤ 1000) :
  Calls Tryz.prog 109 #[.pointer (some ⟨c, 3, none⟩), .int .i64 n] w fun e w' => ∃ u, e = .returned u ∧ w'.ownsRow w.heap.size 3 1 u (rfroms L n).length (ivs (rfroms L n)) ∧ Below w.heap.size w w' := by
 obtain ⟨i0, hi0, hzz⟩ := Option.map_eq_some_iff.1 intInfo
 simp only [Prod.mk.injEq] at hzz
 obtain ⟨hz0, hz1, hz2⟩ := hzz
 obtain ⟨av, cv, rfl⟩ := h.form
 obtain ⟨ll, hll⟩ : ∃ ll, ll = L.length := ⟨_, rfl⟩
 rw [← hll] at h hl
 have HR : Hid (RIs J w c (.slice av ll cv) L) := h
 have HLL : Hid (ll = L.length) := hll
 clear h hll
 go_enter Tryz.func109, Tryz.ntmps109
 go_wp2
 go_loopw [5, 6] (fun s i wr => ∃ (j : Nat) (u : Value), j ≤ ll ∧ i = .int .i64 j ∧ u = s ∧ wr.ownsRow w.heap.size 3 1 u (rfroms (L.take j) n).length (ivs (rfroms (L.take j) n)) ∧ Below w.heap.size w wr) (fun _ i _ => ll - (intOf i).toNat)
 case atStart => exact ⟨0, _, by omega, rfl, rfl, World.ownsRow_nil _ _ _ _, Below.refl _ _⟩
 case round =>
  obtain ⟨j, u, hj, rfl, rfl, hown, hb⟩ := hrel
  have hR := RIs.below HR.out hb
  have c0 := hR.c0
  have hws := hb.size
  have HO : Hid (wr.ownsRow w.heap.size 3 1 u (rfroms (L.take j) n).length (ivs (rfroms (L.take j) n))) := hown
  have HB : Hid (Below w.heap.size w wr) := hb
  by_cases hlt : j < ll
  ·obtain ⟨m, hm⟩ : ∃ m, L[j]? = some m := ⟨L[j]'(by rw [← HLL.out]; exact hlt), List.getElem?_eq_getElem _⟩
   obtain ⟨g, cap, e, _, d0, d1, _⟩ := hR.at hm
   simp only [Value.slice.injEq] at e
   obtain ⟨rfl, _, rfl⟩ := e
   have hji : (j : Int) < (ll : Int) := by omega
   have hle : (rfroms (L.take j) n).length ≤ j := Nat.le_trans (rfroms_len _ _) (by simp; omega)
   by_cases he : m.tt = n
   ·have ge : (m.tt == n) = true := by simp [he]
    have HF : Hid (rfroms (L.take (j + 1)) n = rfroms (L.take j) n ++ [m.fr]) := by show _ = _; rw [take_snoc hm, rfroms_snoc, if_pos he]
    clear hR hown hb hm he
    generalize rfroms (L.take j) n = D at *
    go_wp2_with (at_builtin; refine wpList_append_lies _ rfl _ _ _ rfl w.heap.size 3 i0 _ 1 8 Tryz.underlying46 hi0 hz0 hz1 hz2 rfl (by omega) u D.length (ivs D) rfl (World.ownsRow.alloc HO.out _) ⟨wr.heap.size, 0, none⟩ 1 1 [.int .i64 m.fr] rfl rfl (World.news_of_block (cs := #[.int .i64 m.fr]) (t := 3) (fr := (0, 0)) (heap_alloc_new _ _)) (by simp [Value.oneCell']) (by omega) (by unfold maxLen; omega) (by omega) (by simp; omega) _ rfl ?_; intro gg capx w2 hown2 hgrow hat hlt2)
    go_roundw
    case rel =>
     refine ⟨j + 1, _, by omega, by go_num, rfl, ?_, (HB.out.alloc hws _).trans (below_grown hgrow (by simp; omega) (ownsRow_low HO.out))⟩
     rw [HF.out, ivs_app, List.length_append]
     exact hown2
    case measure => simp [intOf]; omega
   ·have ge : (m.tt == n) = false := by simp [he]
    have HF : Hid (rfroms (L.take (j + 1)) n = rfroms (L.take j) n) := by show _ = _; rw [take_snoc hm, rfroms_snoc, if_neg he]
    clear hR hown hb hm he
    go_wp2
    go_roundw
    case rel => exact ⟨j + 1, _, by omega, by go_num, rfl, by rw [HF.out]; exact HO.out, HB.out⟩
    case measure => simp [intOf]; omega
  ·obtain rfl : j = ll := by omega
   have HT : Hid (L.take j = L) := by show _ = _; rw [HLL.out]; simp
   clear hR hown hb
   go_wp2
   go_ret
   refine ⟨_, rfl, ?_, HB.out⟩
   have := HO.out
   rw [HT.out] at this
   exact this
set_option maxRecDepth 100000 in
theorem rwaiting_at (c : Nat) (v : Value) (L : List RMg) (n : Int) (w : World) (h : RIs J w c v L) (hl : L.length ≤ 1000) :
  Calls Tryz.prog 46 #[.pointer (some ⟨c, 3, none⟩), .int .i64 n] w fun e w' => e = .returned (.int .i64 ((rfroms L n).length : Nat)) ∧ Below w.heap.size w w' := by
 have hF := rfrom_at c v L n w h hl
 clear h
 generalize rfroms L n = D at *
 go_enter Tryz.func46, Tryz.ntmps46
 go_wp2_with fail
 refine hF.mono ?_
 rintro e w1 ⟨u, rfl, hown, hb⟩
 obtain ⟨a, cap, rfl⟩ := own_slice hown
 have HB : Hid (Below w.heap.size w w1) := hb
 clear hown hb
 go_wp2
 go_ret
 exact ⟨rfl, HB.out⟩
end Ip
end Go.Proofs.YtbhpafgoofkkmaaGreatDoor
namespace Go.Proofs.YtbhpafgoofkkmaaGreatDoor
open Go.RowKit
namespace Ip
variable {J : RJ}
theorem rInfo : (Tryz.prog.info? 225).map (fun i => (i.zero, i.size, i.bytes)) = some (some (.agg #[.int .i64 0, .int .i64 0, .slice none 0 0]), 3, 40) := by kernel_rfl
theorem own_news3 {w : World} {base g n cap : Nat} {e : TypeId} {xs : List Value} (h : w.ownsRow base e 3 (.slice (some ⟨g, 0, none⟩) n cap) n xs) : ∀ j u, xs[j]? = some u → w.cell? ((⟨g, 0, none⟩ : Addr).add j) = some u := h.cells rfl
set_option maxRecDepth 100000 in
theorem copy_msgs {w : World} {v : Value} {L : List RMg} (h : w.ownsRow 0 225 3 v L.length (rcells L)) (hl : L.length ≤ 1000) :
  ∃ a c w', (∀ ty, (Builtin.append_ #[61, 61] ty #[.slice none 0 0, v]).run Tryz.prog w = .ok (.slice a L.length c) w') ∧ w'.ownsRow w.heap.size 225 3 (.slice a L.length c) L.length (rcells L) ∧ Below w.heap.size w w' := by
 obtain ⟨i0, hi0, hzz⟩ := Option.map_eq_some_iff.1 rInfo
 simp only [Prod.mk.injEq] at hzz
 obtain ⟨hz0, hz1, hz2⟩ := hzz
 obtain ⟨av, cv, rfl⟩ := own_slice h
 by_cases hn : L.length = 0
 ·have : L = [] := List.length_eq_zero_iff.1 hn
  subst this
  exact ⟨none, 0, w, fun ty => run_append_none w _ _ i0 Tryz.underlying61 hi0 av cv ty, World.ownsRow_nil _ _ _ _, Below.refl _ _⟩
 ·obtain ⟨g, cap, e, _, _⟩ := h.form (by omega)
  simp only [Value.slice.injEq, true_and] at e
  obtain ⟨rfl, rfl⟩ := e
  obtain ⟨g', cap', w', hr, hown, hgrow, _, _⟩ := run_append_lies (P := Tryz.prog) w 61 0 w.heap.size 225 i0 _ 3 40 Tryz.underlying61 hi0 hz0 hz1 hz2 rfl (by omega) (.slice none 0 0) 0 [] (World.ownsRow_nil _ _ _ _)
   ⟨g, 0, none⟩ L.length cv (rcells L) (by rw [rcells_len]) (own_news3 h) (rcells_one L) (by omega) (by unfold maxLen; omega) (by omega) (Nat.le_refl _) _ rfl
  rw [Nat.zero_add] at hr hown
  rw [List.nil_append] at hown
  exact ⟨some ⟨g', 0, none⟩, cap', w', fun ty => hr, hown, below_grown hgrow (Nat.le_refl _) (fun k hk => by simp [Value.ownBlock] at hk)⟩
def rsendR (L : List RMg) (f t : Int) (len : Nat) : Int := if isE f = true ∧ isE t = true ∧ len ≤ 8 then (if (rfroms L t).length < 4 then 0 else 105) else 101
def rsendL (L : List RMg) (f t : Int) (a : Option Addr) (cap : Nat) (ws : List Int) : List RMg := if rsendR L f t ws.length = 0 then L ++ [⟨f, t, a, cap, ws⟩] else L
set_option maxRecDepth 100000 in
theorem rsend_arg (c : Nat) (f t : Int) (a : Option Addr) (n cap : Nat) (w : World) (h : ¬ (isE f = true ∧ isE t = true ∧ n ≤ 8)) :
  Calls Tryz.prog 98 #[.pointer (some ⟨c, 3, none⟩), .int .i64 f, .int .i64 t, .slice a n cap] w fun e w' => e = .returned (.int .i64 101) ∧ w' = w := by
 have hF := renv_at f w
 have hT := renv_at t w
 cases hf : isE f with
 | false =>
  rw [hf] at hF
  clear h hf hT
  go_enter Tryz.func98, Tryz.ntmps98
  go_wp2_with (go_at_call 59; refine hF.mono ?_; rintro e w1 ⟨rfl, hw⟩; rw [hw]; clear hw w1)
  go_ret
  exact ⟨rfl, rfl⟩
 | true =>
  rw [hf] at hF
  cases ht : isE t with
  | false =>
   rw [ht] at hT
   clear h hf ht
   go_enter Tryz.func98, Tryz.ntmps98
   go_wp2_with fail
   refine hF.mono ?_
   rintro e w1 ⟨rfl, hw⟩
   rw [hw]
   clear hw w1
   go_wp2_with fail
   refine hT.mono ?_
   rintro e w1 ⟨rfl, hw⟩
   rw [hw]
   clear hw w1
   go_wp2
   go_ret
   exact ⟨rfl, rfl⟩
  | true =>
   rw [ht] at hT
   have hn : 8 < n := by
    rcases Nat.lt_or_ge 8 n with q | q
    ·exact q
    ·exact absurd ⟨hf, ht, q⟩ h
   have gn : decide ((8 : Int) < (n : Int)) = true := decide_eq_true (by omega)
   clear h hf ht hn
   go_enter Tryz.func98, Tryz.ntmps98
   go_wp2_with fail
   refine hF.mono ?_
   rintro e w1 ⟨rfl, hw⟩
   rw [hw]
   clear hw w1
   go_wp2_with fail
   refine hT.mono ?_
   rintro e w1 ⟨rfl, hw⟩
   rw [hw]
   clear hw w1
   go_wp2
   go_ret
   exact ⟨rfl, rfl⟩
set_option maxRecDepth 100000 in
set_option maxHeartbeats 2000000 in
theorem rsend_at (c : Nat) (v : Value) (L : List RMg) (f t : Int) (a : Option Addr) (ws : List Int) (cap : Nat) (w : World) (h : RIs J w c v L) (hl : L.length ≤ 900) (hr : Rd w a ws) (hJ : J.M ≤ w.heap.size) :
  Calls Tryz.prog 98 #[.pointer (some ⟨c, 3, none⟩), .int .i64 f, .int .i64 t, .slice a ws.length cap] w fun e w' => e = .returned (.int .i64 (rsendR L f t ws.length)) ∧ (∃ v' a' cap', RIs J w' c v' (rsendL L f t a' cap' ws)) ∧ Upd c w w' := by
 by_cases hok : isE f = true ∧ isE t = true ∧ ws.length ≤ 8
 ·obtain ⟨hf, ht, hn⟩ := hok
  have hF := renv_at f w
  have hT := renv_at t w
  rw [hf] at hF
  rw [ht] at hT
  have gn : decide ((8 : Int) < (ws.length : Int)) = false := decide_eq_false (by omega)
  have hWt := rwaiting_at c v L t w h (by omega)
  by_cases hq : (rfroms L t).length < 4
  ·have HR : Hid (rsendR L f t ws.length = 0) := by show _ = _; unfold rsendR; rw [if_pos ⟨hf, ht, hn⟩, if_pos hq]
   have g4 : decide ((4 : Int) ≤ ((rfroms L t).length : Int)) = false := decide_eq_false (by omega)
   have HN : Hid (ws.length ≤ 8) := hn
   have HRI : Hid (RIs J w c v L) := h
   have HRd : Hid (Rd w a ws) := hr
   generalize (rfroms L t).length = K at *
   clear h hr hf ht hn hq
   go_enter Tryz.func98, Tryz.ntmps98
   go_wp2_with fail
   refine hF.mono ?_
   rintro e w1 ⟨rfl, hw⟩
   rw [hw]
   clear hw w1
   go_wp2_with fail
   refine hT.mono ?_
   rintro e w1 ⟨rfl, hw⟩
   rw [hw]
   clear hw w1
   go_wp2_with fail
   refine hWt.mono ?_
   rintro e w1 ⟨rfl, hb1⟩
   obtain ⟨i0, hi0, hzz⟩ := Option.map_eq_some_iff.1 rInfo
   simp only [Prod.mk.injEq] at hzz
   obtain ⟨hz0, hz1, hz2⟩ := hzz
   have hI1 := RIs.below HRI.out hb1
   have hR1 := Rd.below HRd.out hb1
   obtain ⟨a2, c2, w2, hrun2, hown2, hb2⟩ := copy_msgs hI1.own (by omega)
   obtain ⟨a3, c3, w3, hrun3, hwd3, hb3, hnw3⟩ := copy_words2 (hR1.below hb2) cap (by have := HN.out; omega)
   obtain ⟨W, hW⟩ : ∃ W, W = w3.alloc (.cells #[.int .i64 f, .int .i64 t, .slice a3 ws.length c3] 225) := ⟨_, rfl⟩
   have hbW : Below w3.heap.size w3 W := by rw [hW]; exact below_alloc _ _
   have hXW : W.heap[w3.heap.size]? = some (.cells #[.int .i64 f, .int .i64 t, .slice a3 ws.length c3] 225 (0, 0)) := by rw [hW]; exact heap_alloc_new _ _
   have hownW := ownsRow_below (ownsRow_below hown2 hb3) hbW
   obtain ⟨g4', cap4, w4, hrun4, hown4, hgrow4, _, _⟩ := run_append_lies (P := Tryz.prog) W 61 0 w1.heap.size 225 i0 _ 3 40 Tryz.underlying61 hi0 hz0 hz1 hz2 rfl (by omega) (.slice a2 L.length c2) L.length (rcells L) hownW
    ⟨w3.heap.size, 0, none⟩ 1 1 [.int .i64 f, .int .i64 t, .slice a3 ws.length c3] rfl (World.news_of_block (cs := #[.int .i64 f, .int .i64 t, .slice a3 ws.length c3]) (t := 225) (fr := (0, 0)) hXW) (by simp [Value.oneCell']) (by omega) (by unfold maxLen; omega) (by omega) (Nat.le_trans (Nat.le_trans hb2.size hb3.size) hbW.size) _ rfl
   have hb12 : Below w1.heap.size w1 W := (hb2.trans (hb3.mono hb2.size)).trans (hbW.mono (Nat.le_trans hb2.size hb3.size))
   have hb14 : Below w1.heap.size w1 w4 := hb12.trans (below_grown hgrow4 hb12.size (ownsRow_low hownW))
   have hwd4 : ∀ m ∈ L ++ [(⟨f, t, a3, c3, ws⟩ : RMg)], Wd w4 m.a m.ws := by
    intro m hm
    rcases List.mem_append.1 hm with hm | hm
    ·exact (hI1.wd m hm).below hb14
    ·rw [List.mem_singleton] at hm
     subst hm
     refine (hwd3.below hbW).keep (fun k cs fr hk => (hgrow4.block k (lt_of_heap hk) (fun e => ?_)).trans hk)
     obtain ⟨cs', hcs⟩ := own_type hownW e.symm
     rw [hk] at hcs
     simp only [Option.some.injEq, Obj.cells.injEq] at hcs
     exact absurd hcs.2.1 (by decide)
   have ho4 : w4.ownsRow w1.heap.size 225 3 (.slice (some ⟨g4', 0, none⟩) (L.length + 1) cap4) (L ++ [(⟨f, t, a3, c3, ws⟩ : RMg)]).length (rcells (L ++ [(⟨f, t, a3, c3, ws⟩ : RMg)])) := by
    rw [List.length_append, rcells_app]
    exact hown4
   have hlo4 : ∀ m ∈ L ++ [(⟨f, t, a3, c3, ws⟩ : RMg)], NewA J.M m.a := by
    intro m hm
    rcases List.mem_append.1 hm with hm | hm
    ·exact hI1.lo m hm
    ·rw [List.mem_singleton] at hm
     subst hm
     exact fun g off q => Nat.le_trans hJ (Nat.le_trans (Nat.le_trans hb1.size hb2.size) (hnw3 g off q))
   have HP : Hid _ := hI1.put hb14 ho4 hwd4 hlo4
   have HB1 : Hid (Below w.heap.size w w1) := hb1
   have c1 := hI1.c0
   have hI4 := hI1.below hb14
   have c4 := hI4.c0
   have f4 := hI4.free
   obtain ⟨av, cv, rfl⟩ := hI1.form
   have HRun2 : Hid (∀ ty, (Builtin.append_ #[61, 61] ty #[.slice none 0 0, .slice av L.length cv]).run Tryz.prog w1 = .ok (.slice a2 L.length c2) w2) := hrun2
   have HRun3 : Hid (∀ ty, (Builtin.append_ #[27, 27] ty #[.slice none 0 0, .slice a ws.length cap]).run Tryz.prog w2 = .ok (.slice a3 ws.length c3) w3) := hrun3
   have HRun4 : Hid (∀ ty, (Builtin.append_ #[61, 61] ty #[.slice a2 L.length c2, .slice (some ⟨w3.heap.size, 0, none⟩) 1 1]).run Tryz.prog W = .ok (.slice (some ⟨g4', 0, none⟩) (L.length + 1) cap4) w4) := fun ty => hrun4
   have HW : Hid (W = w3.alloc (.cells #[.int .i64 f, .int .i64 t, .slice a3 ws.length c3] 225)) := hW
   clear hb1 hI1 hR1 hrun2 hown2 hb2 hrun3 hwd3 hb3 hW hbW hXW hownW hrun4 hown4 hgrow4 hb12 hb14 hwd4 ho4 hlo4 hnw3 hI4 hF hT hWt HRI
   go_wp2_with (first
     | (at_builtin; refine wpList_append_eq rfl _ _ _ rfl _ _ _ rfl rfl HRun2.out ?_)
     | (at_builtin; refine wpList_append_eq rfl _ _ _ rfl _ _ _ rfl rfl HRun3.out ?_)
     | (at_builtin; rw [← HW.out]; refine wpList_append_eq rfl _ _ _ rfl _ _ _ rfl rfl HRun4.out ?_))
   go_ret
   have hP := HP.out
   refine ⟨by rw [HR.out]; rfl, ⟨.slice (some ⟨g4', 0, none⟩) (L.length + 1) cap4, a3, c3, ?_⟩, (Upd.of_below HB1.out).trans hP.2⟩
   unfold rsendL
   rw [if_pos HR.out]
   exact hP.1
  ·have HR : Hid (rsendR L f t ws.length = 105) := by show _ = _; unfold rsendR; rw [if_pos ⟨hf, ht, hn⟩, if_neg hq]
   have g4 : decide ((4 : Int) ≤ ((rfroms L t).length : Int)) = true := decide_eq_true (by omega)
   have HRI : Hid (RIs J w c v L) := h
   generalize (rfroms L t).length = K at *
   clear h hr hf ht hn hq
   go_enter Tryz.func98, Tryz.ntmps98
   go_wp2_with fail
   refine hF.mono ?_
   rintro e w1 ⟨rfl, hw⟩
   rw [hw]
   clear hw w1
   go_wp2_with fail
   refine hT.mono ?_
   rintro e w1 ⟨rfl, hw⟩
   rw [hw]
   clear hw w1
   go_wp2_with fail
   refine hWt.mono ?_
   rintro e w1 ⟨rfl, hb1⟩
   have HB1 : Hid (Below w.heap.size w w1) := hb1
   clear hb1 hF hT hWt
   go_wp2
   go_ret
   refine ⟨by rw [HR.out]; rfl, ⟨v, none, 0, ?_⟩, Upd.of_below HB1.out⟩
   unfold rsendL
   rw [if_neg (by rw [HR.out]; decide)]
   exact RIs.below HRI.out HB1.out
 ·have hR : rsendR L f t ws.length = 101 := if_neg hok
  refine (rsend_arg c f t a ws.length cap w hok).mono ?_
  rintro e w' ⟨rfl, rfl⟩
  refine ⟨by rw [hR], ⟨v, none, 0, ?_⟩, Upd.refl _ _⟩
  unfold rsendL
  rw [if_neg (by rw [hR]; decide)]
  exact h
end Ip
end Go.Proofs.YtbhpafgoofkkmaaGreatDoor
namespace Go.Proofs.YtbhpafgoofkkmaaGreatDoor
open Go.RowKit
namespace Ip
variable {J : RJ}
set_option maxRecDepth 100000 in
theorem elemR : Tryz.prog.elem 61 = 225 := by kernel_rfl
set_option maxRecDepth 100000 in
theorem rcut_h (g len cap k : Nat) (hk : k ≤ cap) (V : World) : (Instr.slice 61 (.slice (some ⟨g, 0, none⟩) len cap) none (some (.int .i64 k)) none).run Tryz.prog V = .ok (.slice (some ⟨g, 0, none⟩) k cap) V := by
 obtain ⟨i0, hi0, hzz⟩ := Option.map_eq_some_iff.1 rInfo
 have hk0 : (k : Int) ≤ (cap : Int) := by omega
 rw [run_slice_h V 61 _ _ _ Tryz.underlying61 _ _ (by omega) hk0]
 simp [sizeOf, typeInfo, elemR, hi0, sliced, Addr.add]
set_option maxRecDepth 100000 in
theorem rcut_l (g len cap k : Nat) (hk : k + 1 ≤ len) (V : World) : (Instr.slice 61 (.slice (some ⟨g, 0, none⟩) len cap) (some (.int .i64 ((k : Int) + 1))) none none).run Tryz.prog V = .ok (.slice (some (if cap = k + 1 then ⟨g, 0, none⟩ else ⟨g, (k + 1) * 3, none⟩)) (len - (k + 1)) (cap - (k + 1))) V := by
 obtain ⟨i0, hi0, hzz⟩ := Option.map_eq_some_iff.1 rInfo
 simp only [Prod.mk.injEq] at hzz
 have hk0 : (k : Int) + 1 ≤ (len : Int) := by omega
 have e : ((k : Int) + 1).toNat = k + 1 := by omega
 rw [run_slice_l V 61 _ _ _ Tryz.underlying61 _ _ (by omega) hk0]
 simp only [sizeOf, typeInfo, elemR, sliced, e, Sem.run_bind, Sem.run_pure]
 by_cases h : cap = k + 1
 ·simp [h, hi0]
 ·simp [h, hi0, Addr.add, hzz.2.1]
set_option maxRecDepth 100000 in
theorem splice_msgs {W : World} {g cap k : Nat} {L : List RMg} {m : RMg} {a2 : Addr} {R : List RMg} (h : W.ownsRow 0 225 3 (.slice (some ⟨g, 0, none⟩) L.length cap) L.length (rcells L)) (hm : L[k]? = some m) (hl : L.length ≤ 1000) (hR : R = L.take k ++ L.drop (k + 1)) (ha : k + 1 < L.length → a2 = ⟨g, (k + 1) * 3, none⟩) :
  ∃ a1 c1 w1 a3 c3 w3, (∀ ty, (Builtin.append_ #[61, 61] ty #[.slice none 0 0, .slice (some ⟨g, 0, none⟩) k cap]).run Tryz.prog W.drew = .ok (.slice a1 k c1) w1) ∧
   (∀ ty, (Builtin.append_ #[61, 61] ty #[.slice a1 k c1, .slice (some a2) (L.length - (k + 1)) (cap - (k + 1))]).run Tryz.prog w1 = .ok (.slice a3 R.length c3) w3) ∧
   Below W.heap.size W w1 ∧ Below W.heap.size W w3 ∧ w3.ownsRow W.heap.size 225 3 (.slice a3 R.length c3) R.length (rcells R) := by
 obtain ⟨i0, hi0, hzz⟩ := Option.map_eq_some_iff.1 rInfo
 simp only [Prod.mk.injEq] at hzz
 obtain ⟨hz0, hz1, hz2⟩ := hzz
 have hk : k < L.length := (List.getElem?_eq_some_iff.1 hm).1
 have hsplit : L = L.take k ++ (m :: L.drop (k + 1)) := by
  have e := List.getElem?_eq_some_iff.1 hm
  rw [← e.2]
  simp
 have hE : rcells L = rcells (L.take k) ++ (rcells [m] ++ rcells (L.drop (k + 1))) := by
  conv => lhs; rw [hsplit]
  rw [rcells_app]
  rfl
 have hlk : (rcells (L.take k)).length = k * 3 := by rw [rcells_len, List.length_take]; omega
 have hRl : R.length = k + (L.length - (k + 1)) := by rw [hR, List.length_append, List.length_take, List.length_drop]; omega
 have hdr : Below W.heap.size W W.drew := (Below.refl _ _).drew
 have hnews := own_news3 h
 have hgl : g < W.heap.size := (h.lt g rfl).2
 -- the first append
 have first : ∃ a1 c1 w1, (∀ ty, (Builtin.append_ #[61, 61] ty #[.slice none 0 0, .slice (some ⟨g, 0, none⟩) k cap]).run Tryz.prog W.drew = .ok (.slice a1 k c1) w1) ∧ w1.ownsRow W.heap.size 225 3 (.slice a1 k c1) k (rcells (L.take k)) ∧ Below W.heap.size W w1 := by
  by_cases h0 : k = 0
  ·subst h0
   exact ⟨none, 0, W.drew, fun ty => run_append_none W.drew _ _ i0 Tryz.underlying61 hi0 _ cap ty, World.ownsRow_nil _ _ _ _, hdr⟩
  ·obtain ⟨g', cap', w', hr, hown, hgrow, _, _⟩ := run_append_lies (P := Tryz.prog) W.drew 61 0 W.heap.size 225 i0 _ 3 40 Tryz.underlying61 hi0 hz0 hz1 hz2 rfl (by omega) (.slice none 0 0) 0 [] (World.ownsRow_nil _ _ _ _)
    ⟨g, 0, none⟩ k cap (rcells (L.take k)) hlk (fun j u hu => by
      refine hnews j u ?_
      rw [hE, List.getElem?_append_left ((List.getElem?_eq_some_iff.1 hu).1)]
      exact hu) (rcells_one _) (by omega) (by unfold maxLen; omega) (by omega) (Nat.le_refl _) _ rfl
   rw [Nat.zero_add] at hr hown
   rw [List.nil_append] at hown
   exact ⟨some ⟨g', 0, none⟩, cap', w', fun ty => hr, hown, hdr.trans (below_grown hgrow (Nat.le_refl _) (fun k hk => by simp [Value.ownBlock] at hk))⟩
 obtain ⟨a1, c1, w1, hr1, ho1, hb1⟩ := first
 by_cases h2 : k + 1 < L.length
 ·have ha2 := ha h2
  subst ha2
  have hread : ∀ j u, (rcells (L.drop (k + 1)))[j]? = some u → w1.cell? ((⟨g, (k + 1) * 3, none⟩ : Addr).add j) = some u := by
   intro j u hu
   have := hnews ((k + 1) * 3 + j) u (by
     rw [hE, List.getElem?_append_right (by rw [hlk]; omega), hlk, List.getElem?_append_right (by simp [rcells]; omega)]
     rw [← hu]
     congr 1
     simp [rcells]
     omega)
   rw [add0, Nat.zero_add] at this
   rw [add0, hb1.cell (p := ⟨g, (k + 1) * 3 + j, none⟩) hgl]
   exact this
  obtain ⟨g', cap', w', hr, hown, hgrow, _, _⟩ := run_append_lies (P := Tryz.prog) w1 61 0 W.heap.size 225 i0 _ 3 40 Tryz.underlying61 hi0 hz0 hz1 hz2 rfl (by omega) (.slice a1 k c1) k (rcells (L.take k)) ho1
   ⟨g, (k + 1) * 3, none⟩ (L.length - (k + 1)) (cap - (k + 1)) (rcells (L.drop (k + 1))) (by rw [rcells_len, List.length_drop]) hread (rcells_one _) (by omega) (by unfold maxLen; omega) (by omega) hb1.size _ rfl
  refine ⟨a1, c1, w1, some ⟨g', 0, none⟩, cap', w', hr1, fun ty => by rw [hRl]; exact hr, hb1, hb1.trans (below_grown hgrow hb1.size (ownsRow_low ho1)), ?_⟩
  rw [hRl, hR, rcells_app]
  exact hown
 ·have e0 : L.length - (k + 1) = 0 := by omega
  have e1 : L.drop (k + 1) = [] := List.drop_eq_nil_of_le (by omega)
  have hRk : R = L.take k := by rw [hR, e1, List.append_nil]
  have hRl2 : R.length = k := by rw [hRl, e0]; rfl
  have hle : k ≤ c1 := by
   rcases ho1.2 with ⟨e, e2⟩ | ⟨g', cap', cur, e, _, _, q, _⟩
   ·simp only [Value.slice.injEq] at e; omega
   ·simp only [Value.slice.injEq] at e; omega
  refine ⟨a1, c1, w1, a1, c1, w1, hr1, fun ty => ?_, hb1, hb1, ?_⟩
  ·rw [hRl2, e0]
   exact run_append_zero w1 _ _ i0 Tryz.underlying61 hi0 _ _ k c1 _ hle ty
  ·rw [hRl2, hRk]
   exact ho1
set_option maxRecDepth 100000 in
set_option maxHeartbeats 1000000 in
theorem rrecv_no (c : Nat) (v : Value) (L : List RMg) (n : Int) (w : World) (h : RIs J w c v L) (hl : L.length ≤ 900) (hno : ∀ m ∈ L, m.tt ≠ n) :
  Calls Tryz.prog 81 #[.pointer (some ⟨c, 3, none⟩), .int .i64 n] w fun e w' => e = .returned (.tuple #[.int .i64 0, .slice none 0 0, .bool false]) ∧ w' = w := by
 obtain ⟨av, cv, rfl⟩ := h.form
 obtain ⟨ll, hll⟩ : ∃ ll, ll = L.length := ⟨_, rfl⟩
 rw [← hll] at h hl
 have HR : Hid (RIs J w c (.slice av ll cv) L) := h
 have HLL : Hid (ll = L.length) := hll
 have HN : Hid (∀ m ∈ L, m.tt ≠ n) := hno
 have c0 := h.c0
 clear h hll hno
 go_enter Tryz.func81, Tryz.ntmps81
 go_wp2
 go_loopw [7] (fun s wr => ∃ (j : Nat), j ≤ ll ∧ s = .int .i64 j ∧ wr = w) (fun s _ => ll - (intOf s).toNat)
 case atStart => exact ⟨0, by omega, rfl, rfl⟩
 case round =>
  obtain ⟨j, hj, rfl, hw⟩ := hrel
  subst hw
  by_cases hlt : j < ll
  ·obtain ⟨m, hm⟩ : ∃ m, L[j]? = some m := ⟨L[j]'(by rw [← HLL.out]; exact hlt), List.getElem?_eq_getElem _⟩
   obtain ⟨g, cap, e, _, d0, d1, _⟩ := HR.out.at hm
   simp only [Value.slice.injEq] at e
   obtain ⟨rfl, _, rfl⟩ := e
   have hji : (j : Int) < (ll : Int) := by omega
   have ge : (m.tt == n) = false := by simpa using HN.out m (List.mem_of_getElem? hm)
   clear hm
   go_wp2
   go_roundw
   case rel => exact ⟨j + 1, by omega, by go_num, by first | rfl | trivial⟩
   case measure => simp [intOf]; omega
  ·obtain rfl : j = ll := by omega
   go_wp2
   go_ret3
   exact ⟨rfl, rfl⟩
set_option maxRecDepth 100000 in
set_option maxHeartbeats 8000000 in
theorem rrecv_yes (c : Nat) (v : Value) (L : List RMg) (n : Int) (k : Nat) (m : RMg) (w : World) (h : RIs J w c v L) (hl : L.length ≤ 900) (hm : L[k]? = some m) (ht : m.tt = n) (hno : ∀ (j : Nat) (x : RMg), j < k → L[j]? = some x → x.tt ≠ n) :
  Calls Tryz.prog 81 #[.pointer (some ⟨c, 3, none⟩), .int .i64 n] w fun e w' => e = .returned (.tuple #[.int .i64 m.fr, m.v, .bool true]) ∧ (∃ v', RIs J w' c v' (L.take k ++ L.drop (k + 1))) ∧ Upd c w w' := by
 obtain ⟨g, cap, rfl, hcap, d0, d1, d2⟩ := h.at hm
 have hkl : k < L.length := (List.getElem?_eq_some_iff.1 hm).1
 obtain ⟨W, hW⟩ : ∃ W, W = w.alloc (.cells (rrow m) 225) := ⟨_, rfl⟩
 have hbW : Below w.heap.size w W := by rw [hW]; exact below_alloc _ _
 have hIW := h.below hbW
 have hXW : W.heap[w.heap.size]? = some (.cells (rrow m) 225 (0, 0)) := by rw [hW]; exact heap_alloc_new _ _
 have hwl : w.heap.size < W.heap.size := lt_of_heap hXW
 have hcl := h.lt
 have hs1 := rcut_h g L.length cap k (by omega)
 have hs2 := rcut_l g L.length cap k (by omega)
 have HA2 : Hid (k + 1 < L.length → (if cap = k + 1 then (⟨g, 0, none⟩ : Addr) else ⟨g, (k + 1) * 3, none⟩) = ⟨g, (k + 1) * 3, none⟩) := fun hk1 => if_neg (by omega)
 generalize (if cap = k + 1 then (⟨g, 0, none⟩ : Addr) else ⟨g, (k + 1) * 3, none⟩) = a2 at *
 obtain ⟨a1, c1, w1, a3, c3, w3, hr1, hr2, hb1, hb3, ho3⟩ := splice_msgs (R := L.take k ++ L.drop (k + 1)) (a2 := a2) hIW.own hm (by omega) rfl HA2.out
 have hwd3 : ∀ q ∈ L.take k ++ L.drop (k + 1), Wd w3 q.a q.ws := by
  intro q hq
  have : q ∈ L := by
   rcases List.mem_append.1 hq with hq | hq
   ·exact List.mem_of_mem_take hq
   ·exact List.mem_of_mem_drop hq
  exact (hIW.wd q this).below hb3
 have hlo3 : ∀ q ∈ L.take k ++ L.drop (k + 1), NewA J.M q.a := by
  intro q hq
  rcases List.mem_append.1 hq with hq | hq
  ·exact hIW.lo q (List.mem_of_mem_take hq)
  ·exact hIW.lo q (List.mem_of_mem_drop hq)
 have HP : Hid _ := hIW.put hb3 ho3 hwd3 hlo3
 have HBW : Hid (Below w.heap.size w W) := hbW
 have c0 := h.c0
 have cW := hIW.c0
 have fW := hIW.free
 have cw1 := (hIW.below hb1).c0
 have fw1 := (hIW.below hb1).free
 have cw3 := (hIW.below hb3).c0
 have fw3 := (hIW.below hb3).free
 have hX3 : w3.heap[w.heap.size]? = some (.cells (rrow m) 225 (0, 0)) := (hb3.block _ hwl).trans hXW
 have x0 : w3.cell? ⟨w.heap.size, 0, none⟩ = some (.int .i64 m.fr) := by rw [cell_of_heap hX3]; rfl
 have x2 : w3.cell? ⟨w.heap.size, 2, none⟩ = some (.slice m.a m.ws.length m.cap) := by rw [cell_of_heap hX3]; rfl
 have hnc : c ≠ w.heap.size := by omega
 have HRun1 : Hid _ := hr1
 have HRun2 : Hid _ := hr2
 have HR : Hid (RIs J w c (.slice (some ⟨g, 0, none⟩) L.length cap) L) := h
 have HN : Hid (∀ (j : Nat) (x : RMg), j < k → L[j]? = some x → x.tt ≠ n) := hno
 have HM : Hid (L[k]? = some m) := hm
 have ge : (m.tt == n) = true := by simpa using ht
 have hwr : IntKind.i64.wrap ((k : Int) + 1) = (k : Int) + 1 := by
  simp [IntKind.wrap, IntKind.bits, IntKind.signed]
  omega
 unfold rrow at hW
 have HW : Hid _ := hW
 generalize L.take k ++ L.drop (k + 1) = R at *
 generalize hll : L.length = ll at *
 have HLL : Hid (ll = L.length) := hll.symm
 clear h hm ht hno hbW hIW hXW hr1 hr2 hb1 hb3 ho3 hwd3 hlo3 hX3 hW hll HA2
 go_enter Tryz.func81, Tryz.ntmps81
 go_wp2
 go_loopw [7] (fun s wr => ∃ (j : Nat), j ≤ k ∧ s = .int .i64 j ∧ wr = w) (fun s _ => ll - (intOf s).toNat)
 case atStart => exact ⟨0, by omega, rfl, rfl⟩
 case round =>
  obtain ⟨j, hj, rfl, hw⟩ := hrel
  subst hw
  have hji : (j : Int) < (ll : Int) := by omega
  by_cases hlt : j < k
  ·obtain ⟨q, hq⟩ : ∃ q, L[j]? = some q := ⟨L[j]'(by rw [← HLL.out]; omega), List.getElem?_eq_getElem _⟩
   obtain ⟨g', cap', e, _, p0, p1, _⟩ := HR.out.at hq
   simp only [Value.slice.injEq, Option.some.injEq, Addr.mk.injEq] at e
   obtain ⟨⟨rfl, _⟩, _, rfl⟩ := e
   have gq : (q.tt == n) = false := by simpa using HN.out j q hlt hq
   clear hq d0 d1 d2 ge
   go_wp2
   go_roundw
   case rel => exact ⟨j + 1, by omega, by go_num, by first | rfl | trivial⟩
   case measure => simp [intOf]; omega
  ·obtain rfl : j = k := by omega
   go_wp2_with fail
   rw [← HW.out]
   go_region_law (first
     | (refine step_append_eq rfl (.const (.slice none 0 0)) (.tmp 41) 61 rfl (.slice none 0 0) (.slice (some ⟨g, 0, none⟩) j cap) (.slice a1 j c1) rfl (by rfl) HRun1.out ?_)
     | (refine step_append_eq rfl (.tmp 42) (.tmp 49) 61 rfl (.slice a1 j c1) (.slice (some a2) (ll - (j + 1)) (cap - (j + 1))) (.slice a3 R.length c3) (by rfl) (by rfl) HRun2.out ?_))
   all_goals
    go_wp2_with fail
    go_region
    all_goals
     go_wp2
     go_ret3
     have hP := HP.out
     exact ⟨rfl, ⟨_, hP.1.below (Below.refl _ _).drew⟩, ((Upd.of_below HBW.out).trans hP.2).trans (Upd.drew _ _)⟩
end Ip
end Go.Proofs.YtbhpafgoofkkmaaGreatDoor
namespace Go.Proofs.YtbhpafgoofkkmaaGreatDoor
open Go.RowKit
namespace Ip
abbrev mk (m : Mg) : Int × List Int := (m.fr, m.ws)
abbrev rk (m : RMg) : Int × List Int := (m.fr, m.ws)
def Rel (L : List RMg) (Q : QS) : Prop := (∀ n, (selM L n).map rk = (qat Q n).map mk) ∧ ∀ m ∈ L, isE m.fr = true ∧ isE m.tt = true ∧ m.ws.length ≤ 8
theorem Rel.zero : Rel [] Q0 := ⟨fun n => by unfold qat Q0; split <;> rfl, fun m hm => by simp at hm⟩
theorem Rel.froms {L : List RMg} {Q : QS} (h : Rel L Q) (n : Int) : rfroms L n = froms (qat Q n) := by
 have := congrArg (List.map Prod.fst) (h.1 n)
 simpa [rfroms, Go.Proofs.YtbhpafgoofkkmaaGreatDoor.Ip.froms, Function.comp_def] using this
theorem froms_len (M : List Mg) : (froms M).length = M.length := by simp [froms]
theorem Rel.rlen {L : List RMg} {Q : QS} (h : Rel L Q) (n : Int) : (rfroms L n).length = (qat Q n).length := by rw [h.froms, froms_len]
theorem Rel.sendR {L : List RMg} {Q : QS} (h : Rel L Q) (f t : Int) (len : Nat) : rsendR L f t len = sendR Q f t len := by
 unfold rsendR Go.Proofs.YtbhpafgoofkkmaaGreatDoor.Ip.sendR
 rw [h.rlen]
theorem Rel.send {L : List RMg} {Q : QS} (h : Rel L Q) (f t : Int) (a a' : Option Addr) (c c' : Nat) (ws : List Int) : Rel (rsendL L f t a c ws) (sendQ Q f t a' c' ws) := by
 unfold rsendL
 rw [h.sendR]
 by_cases hs : Go.Proofs.YtbhpafgoofkkmaaGreatDoor.Ip.sendR Q f t ws.length = 0
 ·rw [if_pos hs]
  obtain ⟨hf, ht, hl8, _⟩ := sendR_zero hs
  refine ⟨fun n => ?_, fun m hm => ?_⟩
  ·rw [selM_snoc, qat_send hs]
   by_cases e : t = n
   ·subst e
    rw [if_pos rfl, if_pos rfl, List.map_append, List.map_append, h.1]
    rfl
   ·rw [if_neg e, if_neg (fun q => e q.symm)]
    exact h.1 n
  ·rcases List.mem_append.1 hm with hm | hm
   ·exact h.2 m hm
   ·rw [List.mem_singleton] at hm
    subst hm
    exact ⟨hf, ht, hl8⟩
 ·rw [if_neg hs, sendQ_no hs]
  exact h
theorem rsendL_len (L : List RMg) (f t : Int) (a : Option Addr) (c : Nat) (ws : List Int) : (rsendL L f t a c ws).length ≤ L.length + 1 := by
 unfold rsendL
 split
 ·simp
 ·omega
theorem first_or (n : Int) : ∀ (L : List RMg), (∀ m ∈ L, m.tt ≠ n) ∨ ∃ (k : Nat) (m : RMg), L[k]? = some m ∧ m.tt = n ∧ ∀ (j : Nat) (x : RMg), j < k → L[j]? = some x → x.tt ≠ n
 | [] => Or.inl (fun m hm => by simp at hm)
 | u :: L => by
  by_cases e : u.tt = n
  ·exact Or.inr ⟨0, u, rfl, e, fun j x hj => by omega⟩
  ·rcases first_or n L with h | ⟨k, m, h1, h2, h3⟩
   ·left
    intro m hm
    rcases List.mem_cons.1 hm with rfl | hm
    ·exact e
    ·exact h m hm
   ·refine Or.inr ⟨k + 1, m, by simpa using h1, h2, fun j x hj hx => ?_⟩
    cases j with
    | zero =>
     simp at hx
     subst hx
     exact e
    | succ j => exact h3 j x (by omega) (by simpa using hx)
theorem selM_none {L : List RMg} {n : Int} (h : ∀ m ∈ L, m.tt ≠ n) : selM L n = [] := by
 unfold selM
 rw [List.filter_eq_nil_iff]
 intro m hm
 simpa using h m hm
theorem Rel.none {L : List RMg} {Q : QS} (h : Rel L Q) {n : Int} (hn : ∀ m ∈ L, m.tt ≠ n) : qat Q n = [] ∧ Rel L (recvQ Q n) := by
 have hq : qat Q n = [] := by
  have := h.1 n
  rw [selM_none hn] at this
  exact List.map_eq_nil_iff.1 this.symm
 refine ⟨hq, fun k => ?_, h.2⟩
 rw [qat_recv]
 split
 ·rename_i e
  subst e
  rw [h.1, hq]
  rfl
 ·exact h.1 k
theorem Rel.some {L : List RMg} {Q : QS} (h : Rel L Q) {n : Int} {k : Nat} {m : RMg} (hm : L[k]? = some m) (ht : m.tt = n) (hno : ∀ (j : Nat) (x : RMg), j < k → L[j]? = some x → x.tt ≠ n) :
  (∃ q R, qat Q n = q :: R ∧ q.fr = m.fr ∧ q.ws = m.ws) ∧ Rel (L.take k ++ L.drop (k + 1)) (recvQ Q n) := by
 have hsplit : L = L.take k ++ (m :: L.drop (k + 1)) := by
  have e := List.getElem?_eq_some_iff.1 hm
  rw [← e.2]
  simp
 have h1 : selM (L.take k) n = [] := selM_none (fun x hx => by
   obtain ⟨j, hj⟩ := List.getElem?_of_mem hx
   rw [List.getElem?_take] at hj
   split at hj
   · exact hno j x (by assumption) hj
   · cases hj)
 have h2 : selM L n = m :: selM (L.drop (k + 1)) n := by
  conv => lhs; rw [hsplit]
  unfold selM at *
  rw [List.filter_append, h1, List.nil_append, List.filter_cons]
  simp [ht]
 have h3 := h.1 n
 rw [h2] at h3
 cases hq : qat Q n with
 | nil => rw [hq] at h3; simp at h3
 | cons q R =>
  rw [hq] at h3
  simp only [List.map_cons, List.cons.injEq, Prod.mk.injEq] at h3
  refine ⟨⟨q, R, rfl, h3.1.1.symm, h3.1.2.symm⟩, fun i => ?_, fun x hx => ?_⟩
  ·rw [qat_recv]
   have e1 : selM (L.take k ++ L.drop (k + 1)) i = selM (L.take k) i ++ selM (L.drop (k + 1)) i := by unfold selM; exact List.filter_append ..
   rw [e1]
   by_cases e : i = n
   ·subst e
    rw [if_pos rfl, h1, List.nil_append, hq]
    exact h3.2
   ·rw [if_neg e, ← h.1 i]
    conv => rhs; rw [hsplit]
    congr 1
    unfold selM
    rw [List.filter_append, List.filter_cons]
    have : (m.tt == i) = false := by
     rw [ht]
     simpa using fun q => e q.symm
    rw [this]
    rfl
  ·refine h.2 x ?_
   rcases List.mem_append.1 hx with hx | hx
   ·exact List.mem_of_mem_take hx
   ·exact List.mem_of_mem_drop hx
end Ip
end Go.Proofs.YtbhpafgoofkkmaaGreatDoor
