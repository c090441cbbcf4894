/- The reference of package fds: rows of files cut and joined; what a call may touch. -/
/- The reference of package fds: sort. -/
import Derived.Test.YtnlhedpfhgoncabGreatDoorRfM18TRfB18
set_option linter.all false
namespace Go.Proofs.YtnlhedpfhgoncabGreatDoor
open Go.RowKit
namespace Ow
end Ow
namespace Fd
open Ow
theorem fInfo : (Tryz.prog.info? 201).map (fun i => (i.zero, i.size, i.bytes)) = some (some (.agg #[.int .i64 0, .int .i64 0, .int .i64 0, .bool false, .int .i64 0, .slice none 0 0]), 6, 64) := by kernel_rfl
theorem elemF : Tryz.prog.elem 87 = 201 := by kernel_rfl
/-- Files that can be read at an address. -/
def FRd (w : World) (a : Option Addr) (N : List En) : Prop := ∀ i u, (ecs N)[i]? = some u → ∃ g off, a = some ⟨g, off, none⟩ ∧ w.cell? ⟨g, off + i, none⟩ = some u
theorem FRd.below {w w' : World} {a : Option Addr} {N : List En} (h : FRd w a N) (hb : Below w.heap.size w w') : FRd w' a N := by
  intro i u hu
  obtain ⟨g, off, e, hc⟩ := h i u hu
  exact ⟨g, off, e, (hb.cell (cell_lt hc)).trans hc⟩
theorem FRd.of_own {w : World} {B : Nat} {a : Option Addr} {n cap : Nat} {N : List En} (h : w.ownsRow B 201 6 (.slice a n cap) N.length (ecs N)) : FRd w a N := by
  intro i u hu
  have hi := (List.getElem?_eq_some_iff.1 hu).1
  rw [ecs_len] at hi
  rcases h.2 with ⟨e, e2⟩ | ⟨g, cap', cur, e, _, hh, _, _, _, ht⟩
  · omega
  · simp only [Value.slice.injEq] at e
    obtain ⟨rfl, _, _⟩ := e
    rw [← ht, List.getElem?_take_of_lt (by omega)] at hu
    exact ⟨g, 0, rfl, by rw [Nat.zero_add, cell_of_heap hh]; simpa using hu⟩
theorem ecs_drop (N : List En) (k : Nat) : ecs (N.drop k) = (ecs N).drop (k * 6) := by
  have h : ecs N = ecs (N.take k) ++ ecs (N.drop k) := by rw [← ecs_app, List.take_append_drop]
  by_cases hk : k ≤ N.length
  · have hl : (ecs (N.take k)).length = k * 6 := by rw [ecs_len, List.length_take, Nat.min_eq_left hk]
    rw [h, ← hl, List.drop_left]
  · rw [List.drop_eq_nil_of_le (by omega), List.drop_eq_nil_of_le (by rw [ecs_len]; omega)]
    rfl
theorem ecs_take (N : List En) (k : Nat) : ecs (N.take k) = (ecs N).take (k * 6) := by
  have h : ecs N = ecs (N.take k) ++ ecs (N.drop k) := by rw [← ecs_app, List.take_append_drop]
  by_cases hk : k ≤ N.length
  · have hl : (ecs (N.take k)).length = k * 6 := by rw [ecs_len, List.length_take, Nat.min_eq_left hk]
    rw [h, ← hl, List.take_left]
  · rw [List.take_of_length_le (by omega), List.take_of_length_le (by rw [ecs_len]; omega)]
set_option maxRecDepth 100000 in
/-- l[:k]. -/
theorem cutF_h (N : List En) (a : Option Addr) (len cap k : Nat) (hl : len = N.length) (hk : k ≤ len) (hcap : len ≤ cap) : ∃ a2 c2, (∀ V, (Instr.slice 87 (.slice a len cap) none (some (.int .i64 (k : Int))) none).run Tryz.prog V = .ok (.slice a2 k c2) V) ∧ (∀ W, FRd W a N → FRd W a2 (N.take k)) := by
  obtain ⟨i0, hi0, hzz⟩ := Option.map_eq_some_iff.1 fInfo
  simp only [Prod.mk.injEq] at hzz
  refine ⟨a, cap, fun V => ?_, fun W ha => ?_⟩
  · have hk0 : (k : Int) ≤ (cap : Int) := by omega
    rw [run_slice_h V 87 _ _ _ Tryz.underlying87 _ _ (by omega) hk0]
    cases a <;> simp [sizeOf, typeInfo, elemF, hi0, sliced, hzz.2.1, Addr.add]
  · intro i u hu
    rw [ecs_take] at hu
    have hi := (List.getElem?_eq_some_iff.1 hu).1
    rw [List.length_take] at hi
    rw [List.getElem?_take_of_lt (by omega)] at hu
    exact ha i u hu
set_option maxRecDepth 100000 in
/-- l[k:]. -/
theorem cutF_l (N : List En) (a : Option Addr) (len cap k : Nat) (hl : len = N.length) (hk : k ≤ len) (hcap : len ≤ cap) : ∃ a2 c2, (∀ V, (Instr.slice 87 (.slice a len cap) (some (.int .i64 (k : Int))) none none).run Tryz.prog V = .ok (.slice a2 (len - k) c2) V) ∧ (∀ W, FRd W a N → FRd W a2 (N.drop k)) := by
  obtain ⟨i0, hi0, hzz⟩ := Option.map_eq_some_iff.1 fInfo
  simp only [Prod.mk.injEq] at hzz
  refine ⟨if cap = k then a else a.map (·.add (k * 6)), cap - k, fun V => ?_, fun W ha => ?_⟩
  · have hk0 : (k : Int) ≤ (len : Int) := by omega
    rw [run_slice_l V 87 _ _ _ Tryz.underlying87 _ _ (by omega) hk0]
    simp [sizeOf, typeInfo, elemF, hi0, sliced, hzz.2.1]
  · intro i u hu
    rw [ecs_drop] at hu
    have hi := (List.getElem?_eq_some_iff.1 hu).1
    rw [List.length_drop, ecs_len] at hi
    rw [List.getElem?_drop] at hu
    obtain ⟨g, off, e, hc⟩ := ha (k * 6 + i) u hu
    refine ⟨g, off + k * 6, ?_, ?_⟩
    · rw [if_neg (by omega), e]
      simp [Addr.add]
    · rw [Nat.add_assoc]
      exact hc
/-- append(u, l...). -/
theorem appF {w : World} {B : Nat} {u : Value} {M N : List En} (ho : w.ownsRow B 201 6 u M.length (ecs M)) (hB : B ≤ w.heap.size) {a2 : Option Addr} {n2 c2 : Nat} (hn : n2 = N.length) (hr : FRd w a2 N) (hl : M.length + N.length ≤ 1000) :
    ∃ a c w', (∀ ty, (Builtin.append_ #[87, 87] ty #[u, .slice a2 n2 c2]).run Tryz.prog w = .ok (.slice a (M ++ N).length c) w') ∧ w'.ownsRow B 201 6 (.slice a (M ++ N).length c) (M ++ N).length (ecs (M ++ N)) ∧ w.grownBy w' u.ownBlock := by
  obtain ⟨i0, hi0, hzz⟩ := Option.map_eq_some_iff.1 fInfo
  simp only [Prod.mk.injEq] at hzz
  obtain ⟨hz0, hz1, hz2⟩ := hzz
  subst hn
  by_cases h0 : N.length = 0
  · have hN : N = [] := List.eq_nil_of_length_eq_zero h0
    subst hN
    obtain ⟨av, cv, rfl⟩ := own_slice ho
    have hle := own_cap ho
    refine ⟨av, cv, w, fun ty => ?_, ?_, grown_below _ (Below.refl _ _)⟩
    · rw [List.append_nil]
      exact run_append_zero w _ _ i0 Tryz.underlying87 hi0 _ _ _ cv _ hle ty
    · rw [List.append_nil]
      exact ho
  · have hx : ∃ u0, (ecs N)[0]? = some u0 := ⟨_, List.getElem?_eq_getElem (by rw [ecs_len]; omega)⟩
    obtain ⟨u0, hu0⟩ := hx
    obtain ⟨g2, off2, rfl, _⟩ := hr 0 u0 hu0
    obtain ⟨g', cap', w', hr', hown, hgrow, _, _⟩ := run_append_lies (P := Tryz.prog) w 87 0 B 201 i0 _ 6 64 Tryz.underlying87 hi0 hz0 hz1 hz2 rfl (by omega) u M.length (ecs M) ho
      ⟨g2, off2, none⟩ N.length c2 (ecs N) (by rw [ecs_len]) (fun j x hx => by
        obtain ⟨g3, off3, e3, hc⟩ := hr j x hx
        simp only [Option.some.injEq, Addr.mk.injEq, and_true] at e3
        obtain ⟨rfl, rfl⟩ := e3
        rw [add0]
        exact hc) (ecs_one N) (by omega) (by unfold maxLen; omega) (by omega) hB _ rfl
    refine ⟨some ⟨g', 0, none⟩, cap', w', fun ty => ?_, ?_, hgrow⟩
    · rw [List.length_append]
      exact hr'
    · rw [List.length_append, ecs_app]
      exact hown
theorem own_F1 {w : World} (B : Nat) (e : En) (hB : B ≤ w.heap.size) : (w.alloc (.cells (ec e).toArray 201)).ownsRow B 201 6 (.slice (some ⟨w.heap.size, 0, none⟩) 1 1) [e].length (ecs [e]) := by
  exact ⟨by rw [ecs_len], Or.inr ⟨w.heap.size, 1, (ec e).toArray, rfl, hB, heap_alloc_new _ _, Nat.le_refl _, by unfold maxLen; omega, by simp [ec], by simp [ecs, ec]⟩⟩
/-- What the reference's calls may touch: its own kinds of blocks, from B on. -/
structure RU (B : Nat) (w w' : World) : Prop where
  os : w'.os = w.os
  tape : w'.tape = w.tape
  output : w'.output = w.output
  size : w.heap.size ≤ w'.heap.size
  low : ∀ k, k < B → w'.heap[k]? = w.heap[k]?
  other : ∀ (k : Nat) (cs : Array Value) (t : TypeId) (fr : Nat × Nat), w.heap[k]? = some (.cells cs t fr) → t ≠ 89 → t ≠ 201 → w'.heap[k]? = some (.cells cs t fr)
  mp : ∀ (k : Nat) es cl, w.heap[k]? = some (.map es cl) → w'.heap[k]? = some (.map es cl)
theorem RU.trans {B : Nat} {a b c : World} (h : RU B a b) (k : RU B b c) : RU B a c :=
  ⟨k.os.trans h.os, k.tape.trans h.tape, k.output.trans h.output, Nat.le_trans h.size k.size, fun i hi => (k.low i hi).trans (h.low i hi), fun i cs t fr hi h1 h2 => k.other i cs t fr (h.other i cs t fr hi h1 h2) h1 h2, fun i es cl hi => k.mp i es cl (h.mp i es cl hi)⟩
theorem RU.of_below {B : Nat} {w w' : World} (h : Below w.heap.size w w') (hB : B ≤ w.heap.size) : RU B w w' :=
  ⟨h.os, h.tape, h.output, h.size, fun k hk => h.block k (by omega), fun k cs t fr hk _ _ => (h.block k (lt_of_heap hk)).trans hk, fun k es cl hk => (h.block k (lt_of_heap hk)).trans hk⟩
theorem RU.cell {B : Nat} {w : World} {g o : Nat} {cs : Array Value} {t : TypeId} {fr : Nat × Nat} (hg : w.heap[g]? = some (.cells cs t fr)) (ht : t = 89 ∨ t = 201) (hB : B ≤ g) (v : Value) : RU B w (w.setCell ⟨g, o, none⟩ v) := by
  refine ⟨rfl, rfl, rfl, by simp [World.setCell], fun k hk => Below.heap_setCell _ _ _ _ (by show k ≠ g; omega), fun k cs' t' fr' hk h1 h2 => ?_, fun k es cl hk => ?_⟩
  · rw [Below.heap_setCell _ _ _ _ ?_]
    · exact hk
    · show k ≠ g
      rintro rfl
      rw [hg] at hk
      simp only [Option.some.injEq, Obj.cells.injEq] at hk
      rcases ht with e | e
      · exact h1 (hk.2.1.symm.trans e)
      · exact h2 (hk.2.1.symm.trans e)
  · rw [Below.heap_setCell _ _ _ _ ?_]
    · exact hk
    · show k ≠ g
      rintro rfl
      rw [hg] at hk
      cases hk
theorem RU.upd {B c : Nat} {w w' : World} {v : Value} (h : Upd c w w') (hc : w.heap[c]? = some (.cells #[v] 89)) (hB : B ≤ c) (hs : B ≤ w.heap.size) : RU B w w' := by
  refine ⟨h.os, h.tape, h.output, h.size, fun k hk => h.block k (by omega) (by omega), fun k cs t fr hk h1 _ => (h.block k (lt_of_heap hk) ?_).trans hk, fun k es cl hk => (h.block k (lt_of_heap hk) ?_).trans hk⟩
  · rintro rfl
    rw [hc] at hk
    simp only [Option.some.injEq, Obj.cells.injEq] at hk
    exact h1 hk.2.1.symm
  · rintro rfl
    rw [hc] at hk
    cases hk
end Fd
end Go.Proofs.YtnlhedpfhgoncabGreatDoor
namespace Go.Proofs.YtnlhedpfhgoncabGreatDoor
open Go.RowKit
namespace Ow
end Ow
namespace Fd
open Ow
theorem take_snocE {L : List En} {i : Nat} {e : En} (h : L[i]? = some e) : L.take (i + 1) = L.take i ++ [e] := by
  obtain ⟨hl, he⟩ := List.getElem?_eq_some_iff.1 h
  rw [List.take_succ_eq_append_getElem hl, he]
theorem posE_more {h k : Nat} {l : List En} (hk : k ≤ l.length) (hlo : ∀ j x, j < k → l[j]? = some x → x.d.headD 0 < h) (hst : ∀ x, l[k]? = some x → ¬ x.d.headD 0 < h) : posE h l = k := by
  rcases Nat.lt_trichotomy (posE h l) k with e | e | e
  · obtain ⟨x, hx⟩ : ∃ x, l[posE h l]? = some x := ⟨_, List.getElem?_eq_getElem (by omega)⟩
    exact absurd (hlo _ x e hx) (posE_at hx)
  · exact e
  · obtain ⟨x, hx⟩ : ∃ x, l[k]? = some x := ⟨l[k]'(by have := posE_le h l; omega), List.getElem?_eq_getElem _⟩
    exact absurd (posE_lt e hx) (hst x hx)
/-- The first k have their counts. -/
def fixTo (M : List En) (k : Nat) : List En := (M.take k).map En.fix ++ M.drop k
theorem fixTo_zero (M : List En) : fixTo M 0 = M := by simp [fixTo]
theorem fixTo_all (M : List En) : fixTo M M.length = M.map En.fix := by simp [fixTo]
theorem fixTo_get (M : List En) (k : Nat) (e : En) (h : M[k]? = some e) : (fixTo M k)[k]? = some e := by
  have hl := (List.getElem?_eq_some_iff.1 h).1
  unfold fixTo
  rw [List.getElem?_append_right (by rw [List.length_map, List.length_take]; omega), List.length_map, List.length_take, List.getElem?_drop]
  rw [show k + (k - min k M.length) = k by omega]
  exact h
theorem fixTo_succ (M : List En) (k : Nat) (e : En) (h : M[k]? = some e) : fixTo M (k + 1) = (fixTo M k).set k e.fix := by
  obtain ⟨hl, he⟩ := List.getElem?_eq_some_iff.1 h
  unfold fixTo
  rw [List.take_succ_eq_append_getElem hl, List.map_append, List.set_append, if_neg (by rw [List.length_map, List.length_take]; omega), List.length_map, List.length_take, show k - min k M.length = 0 by omega, List.drop_eq_getElem_cons hl, List.append_assoc, he]
  rfl
/-- One count is stored. -/
theorem own_set {w : World} {B g n cap k : Nat} {M : List En} {e : En} (h : w.ownsRow B 201 6 (.slice (some ⟨g, 0, none⟩) n cap) M.length (ecs M)) (he : M[k]? = some e) (o m : Nat) (hm : m < 6) (ho : o = k * 6 + m) (v : Value) (e' : En) (h1 : ecGet e' m = v) (h2 : ∀ i, i < 6 → i ≠ m → ecGet e' i = ecGet e i) :
    (w.setCell ⟨g, o, none⟩ v).ownsRow B 201 6 (.slice (some ⟨g, 0, none⟩) n cap) (M.set k e').length (ecs (M.set k e')) := by
  have hk := (List.getElem?_eq_some_iff.1 he).1
  rcases h.2 with ⟨e2, _⟩ | ⟨g', cap', cur, e2, hB, hh, q1, q2, q3, q4⟩
  · cases e2
  · simp only [Value.slice.injEq, Option.some.injEq, Addr.mk.injEq] at e2
    obtain ⟨⟨rfl, _⟩, rfl, rfl⟩ := e2
    subst ho
    refine ⟨by rw [ecs_len], Or.inr ⟨g, cap, cur.setIfInBounds (k * 6 + m) v, ?_, hB, ?_, ?_, q2, ?_, ?_⟩⟩
    · rw [List.length_set]
    · rw [setCell_eq_setRow w g _ _ _ _ _ hh, setRow_heap w g _ _ _ _ hh]
    · rw [List.length_set]; exact q1
    · simpa using q3
    · rw [List.length_set]
      apply List.ext_getElem?
      intro i
      by_cases hi : i < M.length * 6
      · have hi6 : i / 6 < M.length := by omega
        have hcur := ecs_get M (i / 6) (i % 6) _ (List.getElem?_eq_getElem hi6) (by omega)
        rw [show i / 6 * 6 + i % 6 = i by omega] at hcur
        have hset : ((M.set k e')[i / 6]? : Option En) = some (if i / 6 = k then e' else M[i / 6]) := by
          rw [List.getElem?_set]
          by_cases e3 : k = i / 6
          · rw [if_pos e3, if_pos (by omega), if_pos e3.symm]
          · rw [if_neg e3, if_neg (fun x => e3 x.symm), List.getElem?_eq_getElem hi6]
        have hnew := ecs_get (M.set k e') (i / 6) (i % 6) _ hset (by omega)
        rw [show i / 6 * 6 + i % 6 = i by omega] at hnew
        rw [hnew, List.getElem?_take_of_lt hi]
        rw [← q4, List.getElem?_take_of_lt hi] at hcur
        have hcs : cur.size = cap * 6 := q3
        show (cur.setIfInBounds (k * 6 + m) v).toList[i]? = _
        rw [Array.toList_setIfInBounds, List.getElem?_set]
        by_cases e4 : k * 6 + m = i
        · have ek : i / 6 = k := by omega
          have em : i % 6 = m := by omega
          rw [if_pos e4, if_pos (by rw [Array.length_toList]; omega), if_pos ek, em, h1]
        · rw [if_neg e4, hcur]
          by_cases ek : i / 6 = k
          · rw [if_pos ek, h2 (i % 6) (by omega) (by omega)]
            obtain ⟨hkl, hke⟩ := List.getElem?_eq_some_iff.1 he
            have : M[i / 6] = e := by
              rw [← hke]
              congr 1
            rw [this]
          · rw [if_neg ek]
      · have r1 : (ecs (M.set k e'))[i]? = none := List.getElem?_eq_none (by rw [ecs_len, List.length_set]; omega)
        rw [r1, List.getElem?_eq_none (by rw [List.length_take]; omega)]
theorem hd_get {d : List Nat} (h : d ≠ []) : d[0]? = some (d.headD 0) := by
  cases d with
  | nil => exact absurd rfl h
  | cons a l => rfl
theorem sortF_sub {L : List En} {i : Nat} {x : En} (h : x ∈ sortF (L.take i)) : x ∈ L ∧ x.d ≠ [] := by
  rw [sortF_mem] at h
  exact ⟨List.mem_of_mem_take h.1, h.2⟩
theorem own_cellF {w : World} {B n cap k : Nat} {a : Option Addr} {M : List En} {e : En} (h : w.ownsRow B 201 6 (.slice a n cap) M.length (ecs M)) (he : M[k]? = some e) : ∃ g, a = some ⟨g, 0, none⟩ ∧ ∀ m, m < 6 → w.cell? ⟨g, k * 6 + m, none⟩ = some (ecGet e m) := by
  have hk := (List.getElem?_eq_some_iff.1 he).1
  rcases h.2 with ⟨_, e2⟩ | ⟨g, cap', cur, e2, _, hh, q1, _, _, q4⟩
  · omega
  · simp only [Value.slice.injEq] at e2
    refine ⟨g, e2.1, fun m hm => ?_⟩
    have h1 := ecs_get M k m e he hm
    rw [← q4, List.getElem?_take_of_lt (by omega)] at h1
    rw [cell_of_heap hh]
    simpa using h1
/-- What the end of a round of sort does: one file is put where it belongs. -/
theorem sort_tail {V : World} {B0 ml cu k : Nat} {au : Option Addr} {M : List En} (e : En) (hBV : B0 ≤ V.heap.size) (hown : V.ownsRow B0 201 6 (.slice au ml cu) M.length (ecs M)) (hml : M.length = ml) (hk : k ≤ ml) (hcu : ml ≤ cu) (hle : ml ≤ 400) :
    ∃ a2 c2 a4 c4 a3 c3 n3 w3 a5 c5 w5 a6 c6 w6,
      (∀ U, (Instr.slice 87 (.slice au ml cu) (some (.int .i64 (k : Int))) none none).run Tryz.prog U = .ok (.slice a2 (ml - k) c2) U) ∧
      (∀ U, (Instr.slice 87 (.slice au ml cu) none (some (.int .i64 (k : Int))) none).run Tryz.prog U = .ok (.slice a4 k c4) U) ∧
      (∀ ty, (Builtin.append_ #[87, 87] ty #[.slice (some ⟨V.heap.size, 0, none⟩) 1 1, .slice a2 (ml - k) c2]).run Tryz.prog (V.alloc (.cells #[.int .i64 e.x.kind, .int .i64 e.x.id, .int .i64 e.x.off, .bool e.x.app, .int .i64 e.x.refs, .slice e.a e.d.length e.cap] 201)).drew = .ok (.slice a3 n3 c3) w3) ∧
      (∀ ty, (Builtin.append_ #[87, 87] ty #[.slice none 0 0, .slice a4 k c4]).run Tryz.prog w3 = .ok (.slice a5 k c5) w5) ∧
      (∀ ty, (Builtin.append_ #[87, 87] ty #[.slice a5 k c5, .slice a3 n3 c3]).run Tryz.prog w5 = .ok (.slice a6 (ml + 1) c6) w6) ∧
      w6.ownsRow B0 201 6 (.slice a6 (ml + 1) c6) (M.take k ++ e :: M.drop k).length (ecs (M.take k ++ e :: M.drop k)) ∧ Below B0 V w6 := by
  obtain ⟨W1, hW1⟩ : ∃ W1, W1 = (V.alloc (.cells #[.int .i64 e.x.kind, .int .i64 e.x.id, .int .i64 e.x.off, .bool e.x.app, .int .i64 e.x.refs, .slice e.a e.d.length e.cap] 201)).drew := ⟨_, rfl⟩
  have hbW1 : Below V.heap.size V W1 := by rw [hW1]; exact (below_alloc _ _).drew
  have hoW1 : W1.ownsRow B0 201 6 (.slice (some ⟨V.heap.size, 0, none⟩) 1 1) [e].length (ecs [e]) := by rw [hW1]; exact ownsRow_at (own_F1 B0 e hBV) (fun _ _ => rfl)
  obtain ⟨a2, c2, hs2, hf2⟩ := cutF_l M au ml cu k hml.symm hk hcu
  obtain ⟨a4, c4, hs4, hf4⟩ := cutF_h M au ml cu k hml.symm hk hcu
  have hFR := FRd.of_own hown
  obtain ⟨a3, c3, w3, hrun1, hown3, hg3⟩ := appF hoW1 (Nat.le_trans hBV hbW1.size) (N := M.drop k) (a2 := a2) (n2 := ml - k) (c2 := c2) (by rw [List.length_drop, hml]) (hf2 W1 (hFR.below hbW1)) (by rw [List.length_drop]; simp; omega)
  have hb3 : Below V.heap.size V w3 := hbW1.trans (below_grown hg3 hbW1.size (fun g hg => by simp [Value.ownBlock] at hg; omega))
  obtain ⟨a5, c5, w5, hrun2, hown5, hg5⟩ := appF (w := w3) (B := B0) (M := []) (N := M.take k) (u := .slice none 0 0) (a2 := a4) (n2 := k) (c2 := c4) (World.ownsRow_nil _ _ _ _) (Nat.le_trans hBV hb3.size) (by rw [List.length_take, hml]; omega) (hf4 w3 (hFR.below hb3)) (by rw [List.length_take]; simp; omega)
  have hb5 : Below w3.heap.size w3 w5 := below_grown hg5 (Nat.le_refl _) (fun g hg => by simp [Value.ownBlock] at hg)
  obtain ⟨a6, c6, w6, hrun3, hown6, hg6⟩ := appF (N := [e] ++ M.drop k) (a2 := a3) (n2 := ([e] ++ M.drop k).length) (c2 := c3) hown5 (Nat.le_trans (Nat.le_trans hBV hb3.size) hb5.size) rfl ((FRd.of_own hown3).below hb5) (by simp; omega)
  have hb6 : Below B0 V w6 := ((hb3.mono hBV).trans (hb5.mono (Nat.le_trans hBV hb3.size))).trans (below_grown hg6 (Nat.le_trans (Nat.le_trans hBV hb3.size) hb5.size) (ownsRow_low hown5))
  have hlen5 : ([] ++ M.take k).length = k := by simp; omega
  have hlen6 : ([] ++ M.take k ++ ([e] ++ M.drop k)).length = ml + 1 := by simp; omega
  rw [hlen6] at hrun3
  rw [hlen5] at hrun2 hrun3
  refine ⟨a2, c2, a4, c4, a3, c3, _, w3, a5, c5, w5, a6, c6, w6, hs2, hs4, fun ty => by rw [← hW1]; exact hrun1 ty, hrun2, hrun3, ?_, hb6⟩
  rw [hlen6] at hown6
  have hl7 : (M.take k ++ e :: M.drop k).length = ml + 1 := hlen6
  rw [hl7]
  exact hown6
end Fd
end Go.Proofs.YtnlhedpfhgoncabGreatDoor
