import Derived.Test.YtinaeifpoljfoaaGreatDoorRfM18TRfC18
set_option linter.all false
set_option maxRecDepth 100000
set_option maxHeartbeats 16000000
namespace Go.Proofs.YtinaeifpoljfoaaGreatDoor
open Go.RowKit
namespace Ow
end Ow
namespace Fd
open Ow
theorem take_snocE {L : List En} {i : Nat} {e : En} (h : L[i]? = some e) : L.take (i + 1) = L.take i ++ [e] := by
 obtain ⟨hl, he⟩ := List.getElem?_eq_some_iff.1 h;rw [List.take_succ_eq_append_getElem hl, he]
theorem posE_more {h k : Nat} {l : List En} (hk : k ≤ l.length) (hlo : ∀ j x, j < k → l[j]? = some x → x.d.headD 0 < h) (hst : ∀ x, l[k]? = some x → ¬ x.d.headD 0 < h) : posE h l = k := by
 rcases Nat.lt_trichotomy (posE h l) k with e | e | e
 ·obtain ⟨x, hx⟩ : ∃ x, l[posE h l]? = some x := ⟨_, List.getElem?_eq_getElem (by omega)⟩
  exact absurd (hlo _ x e hx) (posE_at hx)
 ·exact e
 ·obtain ⟨x, hx⟩ : ∃ x, l[k]? = some x := ⟨l[k]'(by have := posE_le h l; omega), List.getElem?_eq_getElem _⟩
  exact absurd (posE_lt e hx) (hst x hx)
def fixTo (M : List En) (k : Nat) : List En := (M.take k).map En.fix ++ M.drop k
theorem fixTo_zero (M : List En) : fixTo M 0 = M := by simp [fixTo]
theorem fixTo_all (M : List En) : fixTo M M.length = M.map En.fix := by simp [fixTo]
theorem fixTo_get (M : List En) (k : Nat) (e : En) (h : M[k]? = some e) : (fixTo M k)[k]? = some e := by
 have hl := (List.getElem?_eq_some_iff.1 h).1;unfold fixTo;rw [List.getElem?_append_right (by rw [List.length_map, List.length_take]; omega), List.length_map, List.length_take, List.getElem?_drop];rw [show k + (k - min k M.length) = k by omega];exact h
theorem fixTo_succ (M : List En) (k : Nat) (e : En) (h : M[k]? = some e) : fixTo M (k + 1) = (fixTo M k).set k e.fix := by
 obtain ⟨hl, he⟩ := List.getElem?_eq_some_iff.1 h;unfold fixTo;rw [List.take_succ_eq_append_getElem hl, List.map_append, List.set_append, if_neg (by rw [List.length_map, List.length_take]; omega), List.length_map, List.length_take, show k - min k M.length = 0 by omega, List.drop_eq_getElem_cons hl, List.append_assoc, he]
 rfl
theorem own_set {w : World} {B g n cap k : Nat} {M : List En} {e : En} (h : w.ownsRow B 133 6 (.slice (some ⟨g, 0, none⟩) n cap) M.length (ecs M)) (he : M[k]? = some e) (o m : Nat) (hm : m < 6) (ho : o = k * 6 + m) (v : Value) (e' : En) (h1 : ecGet e' m = v) (h2 : ∀ i, i < 6 → i ≠ m → ecGet e' i = ecGet e i) :
  (w.setCell ⟨g, o, none⟩ v).ownsRow B 133 6 (.slice (some ⟨g, 0, none⟩) n cap) (M.set k e').length (ecs (M.set k e')) := by
 have hk := (List.getElem?_eq_some_iff.1 he).1
 rcases h.2 with ⟨e2, _⟩ | ⟨g', cap', cur, e2, hB, hh, q1, q2, q3, q4⟩
 ·cases e2
 ·simp only [Value.slice.injEq, Option.some.injEq, Addr.mk.injEq] at e2
  obtain ⟨⟨rfl, _⟩, rfl, rfl⟩ := e2;subst ho;refine ⟨by rw [ecs_len], Or.inr ⟨g, cap, cur.setIfInBounds (k * 6 + m) v, ?_, hB, ?_, ?_, q2, ?_, ?_⟩⟩
  ·rw [List.length_set]
  ·rw [setCell_eq_setRow w g _ _ _ _ _ hh, setRow_heap w g _ _ _ _ hh]
  ·rw [List.length_set]; exact q1
  ·simpa using q3
  ·rw [List.length_set]
   apply List.ext_getElem?
   intro i
   by_cases hi : i < M.length * 6
   ·have hi6 : i / 6 < M.length := by omega
    have hcur := ecs_get M (i / 6) (i % 6) _ (List.getElem?_eq_getElem hi6) (by omega);rw [show i / 6 * 6 + i % 6 = i by omega] at hcur
    have hset : ((M.set k e')[i / 6]? : Option En) = some (if i / 6 = k then e' else M[i / 6]) := by
     rw [List.getElem?_set]
     by_cases e3 : k = i / 6
     ·rw [if_pos e3, if_pos (by omega), if_pos e3.symm]
     ·rw [if_neg e3, if_neg (fun x => e3 x.symm), List.getElem?_eq_getElem hi6]
    have hnew := ecs_get (M.set k e') (i / 6) (i % 6) _ hset (by omega);rw [show i / 6 * 6 + i % 6 = i by omega] at hnew;rw [hnew, List.getElem?_take_of_lt hi];rw [← q4, List.getElem?_take_of_lt hi] at hcur;have hcs : cur.size = cap * 6 := q3
    show (cur.setIfInBounds (k * 6 + m) v).toList[i]? = _
    rw [Array.toList_setIfInBounds, List.getElem?_set]
    by_cases e4 : k * 6 + m = i
    ·have ek : i / 6 = k := by omega
     have em : i % 6 = m := by omega
     rw [if_pos e4, if_pos (by rw [Array.length_toList]; omega), if_pos ek, em, h1]
    ·rw [if_neg e4, hcur]
     by_cases ek : i / 6 = k
     ·rw [if_pos ek, h2 (i % 6) (by omega) (by omega)]
      obtain ⟨hkl, hke⟩ := List.getElem?_eq_some_iff.1 he
      have : M[i / 6] = e := by
       rw [← hke]
       congr 1
      rw [this]
     ·rw [if_neg ek]
   ·have r1 : (ecs (M.set k e'))[i]? = none := List.getElem?_eq_none (by rw [ecs_len, List.length_set]; omega)
    rw [r1, List.getElem?_eq_none (by rw [List.length_take]; omega)]
theorem hd_get {d : List Nat} (h : d ≠ []) : d[0]? = some (d.headD 0) := by
 cases d with
 | nil => exact absurd rfl h
 | cons a l => rfl
theorem sortF_sub {L : List En} {i : Nat} {x : En} (h : x ∈ sortF (L.take i)) : x ∈ L ∧ x.d ≠ [] := by
 rw [sortF_mem] at h;exact ⟨List.mem_of_mem_take h.1, h.2⟩
theorem own_cellF {w : World} {B n cap k : Nat} {a : Option Addr} {M : List En} {e : En} (h : w.ownsRow B 133 6 (.slice a n cap) M.length (ecs M)) (he : M[k]? = some e) : ∃ g, a = some ⟨g, 0, none⟩ ∧ ∀ m, m < 6 → w.cell? ⟨g, k * 6 + m, none⟩ = some (ecGet e m) := by
 have hk := (List.getElem?_eq_some_iff.1 he).1
 rcases h.2 with ⟨_, e2⟩ | ⟨g, cap', cur, e2, _, hh, q1, _, _, q4⟩
 ·omega
 ·simp only [Value.slice.injEq] at e2
  refine ⟨g, e2.1, fun m hm => ?_⟩;have h1 := ecs_get M k m e he hm;rw [← q4, List.getElem?_take_of_lt (by omega)] at h1;rw [cell_of_heap hh]
  simpa using h1
theorem sort_tail {V : World} {B0 ml cu k : Nat} {au : Option Addr} {M : List En} (e : En) (hBV : B0 ≤ V.heap.size) (hown : V.ownsRow B0 133 6 (.slice au ml cu) M.length (ecs M)) (hml : M.length = ml) (hk : k ≤ ml) (hcu : ml ≤ cu) (hle : ml ≤ 400) :
  ∃ a2 c2 a4 c4 a3 c3 n3 w3 a5 c5 w5 a6 c6 w6,
   (∀ U, (Instr.slice 128 (.slice au ml cu) (some (.int .i64 (k : Int))) none none).run Tryz.prog U = .ok (.slice a2 (ml - k) c2) U) ∧
   (∀ U, (Instr.slice 128 (.slice au ml cu) none (some (.int .i64 (k : Int))) none).run Tryz.prog U = .ok (.slice a4 k c4) U) ∧
   (∀ ty, (Builtin.append_ #[128, 128] ty #[.slice (some ⟨V.heap.size, 0, none⟩) 1 1, .slice a2 (ml - k) c2]).run Tryz.prog (V.alloc (.cells #[.int .i64 e.x.kind, .int .i64 e.x.id, .int .i64 e.x.off, .bool e.x.app, .int .i64 e.x.refs, .slice e.a e.d.length e.cap] 133)).drew = .ok (.slice a3 n3 c3) w3) ∧
   (∀ ty, (Builtin.append_ #[128, 128] ty #[.slice none 0 0, .slice a4 k c4]).run Tryz.prog w3 = .ok (.slice a5 k c5) w5) ∧
   (∀ ty, (Builtin.append_ #[128, 128] ty #[.slice a5 k c5, .slice a3 n3 c3]).run Tryz.prog w5 = .ok (.slice a6 (ml + 1) c6) w6) ∧
   w6.ownsRow B0 133 6 (.slice a6 (ml + 1) c6) (M.take k ++ e :: M.drop k).length (ecs (M.take k ++ e :: M.drop k)) ∧ Below B0 V w6 := by
 obtain ⟨W1, hW1⟩ : ∃ W1, W1 = (V.alloc (.cells #[.int .i64 e.x.kind, .int .i64 e.x.id, .int .i64 e.x.off, .bool e.x.app, .int .i64 e.x.refs, .slice e.a e.d.length e.cap] 133)).drew := ⟨_, rfl⟩
 have hbW1 : Below V.heap.size V W1 := by rw [hW1]; exact (below_alloc _ _).drew
 have hoW1 : W1.ownsRow B0 133 6 (.slice (some ⟨V.heap.size, 0, none⟩) 1 1) [e].length (ecs [e]) := by rw [hW1]; exact ownsRow_at (own_F1 B0 e hBV) (fun _ _ => rfl)
 obtain ⟨a2, c2, hs2, hf2⟩ := cutF_l M au ml cu k hml.symm hk hcu;obtain ⟨a4, c4, hs4, hf4⟩ := cutF_h M au ml cu k hml.symm hk hcu;have hFR := FRd.of_own hown;obtain ⟨a3, c3, w3, hrun1, hown3, hg3⟩ := appF hoW1 (Nat.le_trans hBV hbW1.size) (N := M.drop k) (a2 := a2) (n2 := ml - k) (c2 := c2) (by rw [List.length_drop, hml]) (hf2 W1 (hFR.below hbW1)) (by rw [List.length_drop]; simp; omega);have hb3 : Below V.heap.size V w3 := hbW1.trans (below_grown hg3 hbW1.size (fun g hg => by simp [Value.ownBlock] at hg; omega));obtain ⟨a5, c5, w5, hrun2, hown5, hg5⟩ := appF (w := w3) (B := B0) (M := []) (N := M.take k) (u := .slice none 0 0) (a2 := a4) (n2 := k) (c2 := c4) (World.ownsRow_nil _ _ _ _) (Nat.le_trans hBV hb3.size) (by rw [List.length_take, hml]; omega) (hf4 w3 (hFR.below hb3)) (by rw [List.length_take]; simp; omega);have hb5 : Below w3.heap.size w3 w5 := below_grown hg5 (Nat.le_refl _) (fun g hg => by simp [Value.ownBlock] at hg);obtain ⟨a6, c6, w6, hrun3, hown6, hg6⟩ := appF (N := [e] ++ M.drop k) (a2 := a3) (n2 := ([e] ++ M.drop k).length) (c2 := c3) hown5 (Nat.le_trans (Nat.le_trans hBV hb3.size) hb5.size) rfl ((FRd.of_own hown3).below hb5) (by simp; omega);have hb6 : Below B0 V w6 := ((hb3.mono hBV).trans (hb5.mono (Nat.le_trans hBV hb3.size))).trans (below_grown hg6 (Nat.le_trans (Nat.le_trans hBV hb3.size) hb5.size) (ownsRow_low hown5))
 have hlen5 : ([] ++ M.take k).length = k := by simp; omega
 have hlen6 : ([] ++ M.take k ++ ([e] ++ M.drop k)).length = ml + 1 := by simp; omega
 rw [hlen6] at hrun3;rw [hlen5] at hrun2 hrun3;refine ⟨a2, c2, a4, c4, a3, c3, _, w3, a5, c5, w5, a6, c6, w6, hs2, hs4, fun ty => by rw [← hW1]; exact hrun1 ty, hrun2, hrun3, ?_, hb6⟩;rw [hlen6] at hown6;have hl7 : (M.take k ++ e :: M.drop k).length = ml + 1 := hlen6;rw [hl7];exact hown6
end Fd
end Go.Proofs.YtinaeifpoljfoaaGreatDoor
