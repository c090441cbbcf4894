/- Package signals: appendTo, Encode. -/
import Derived.Test.YtliifpknkdjgjaaSgH
import Derived.Deep.RegionLaw
namespace Go.Proofs.Ytliifpknkdjgjaa
open Go.RowKit Go.Lib
set_option linter.unusedVariables false

/-- What an append of words may touch. -/
structure UW (B : Nat) (w w' : World) : Prop where
  bel : Below B w w'
  oth : ∀ (k : Nat) (cs : Array Value) (t : TypeId) (fz : Nat × Nat), w.heap[k]? = some (.cells cs t fz) → t ≠ 27 → w'.heap[k]? = w.heap[k]?
theorem UW.refl (B : Nat) (w : World) : UW B w w := ⟨Below.refl _ _, fun _ _ _ _ _ _ => rfl⟩
theorem UW.trans {B : Nat} {a b c : World} (h : UW B a b) (k : UW B b c) : UW B a c :=
  ⟨h.bel.trans k.bel, fun i cs t fz hi ht => by
    have h1 := h.oth i cs t fz hi ht
    exact (k.oth i cs t fz (h1.trans hi) ht).trans h1⟩
theorem UW.of_below {B : Nat} {w w' : World} (hB : B ≤ w.heap.size) (h : Below w.heap.size w w') : UW B w w' := ⟨h.mono hB, fun i cs t fz hi ht => h.block i (lt_of_heap hi)⟩
theorem UW.sb {B : Nat} {w w' : World} (h : UW B w w') {b : Nat} {row : Array Value} (hb : SB w b row) : SB w' b row := hb.keep (h.oth b _ _ _ hb (by decide))
theorem UW.own {w w' : World} {B : Nat} {v : Value} {n : Nat} {xs : List Value} (h : w.ownsRow B 27 1 v n xs) (hs : B ≤ w.heap.size) (hg : w.grownBy w' v.ownBlock) : UW B w w' := by
  refine ⟨below_grown hg hs (ownsRow_low h), fun i cs t fz hi ht => hg.block i (lt_of_heap hi) (fun e => ?_)⟩
  obtain ⟨c2, k2⟩ := own_type h e.symm
  rw [hi] at k2
  simp only [Option.some.injEq, Obj.cells.injEq] at k2
  exact ht k2.2.1
/-- append(v, x). -/
theorem app1 {w : World} {B n c : Nat} {a : Option Addr} {D : List Int} (ho : w.ownsRow B 27 1 (.slice a n c) D.length (uvs D)) (hn : D.length = n) (hB : B ≤ w.heap.size) (hl : n ≤ 2000) (x0 : Int) :
    ∃ a' c' w', (∀ ty, (Builtin.append_ #[28, 28] ty #[.slice a n c, .slice (some ⟨w.heap.size, 0, none⟩) 1 1]).run Try.prog (w.alloc (.cells #[.int .u64 x0] 27)) = .ok (.slice a' (n + 1) c') w') ∧ w'.ownsRow B 27 1 (.slice a' (n + 1) c') (D ++ [x0]).length (uvs (D ++ [x0])) ∧ UW B w w' := by
  obtain ⟨i0, hi0, hzz⟩ := Option.map_eq_some_iff.1 wordInfo
  simp only [Prod.mk.injEq] at hzz
  obtain ⟨hz0, hz1, hz2⟩ := hzz
  have hbe : Below w.heap.size w (w.alloc (.cells #[.int .u64 x0] 27)) := below_alloc _ _
  have hnew : (w.alloc (.cells #[.int .u64 x0] 27)).heap[w.heap.size]? = some (.cells #[.int .u64 x0] 27) := heap_alloc_new _ _
  have ho1 := ownsRow_below ho hbe
  obtain ⟨g', cap', w', hr', hown, hgrow, _, _⟩ := run_append_lies (P := Try.prog) _ 28 0 B 27 i0 _ 1 8 Try.underlying28 hi0 hz0 hz1 hz2 rfl (by omega) _ D.length (uvs D) ho1
    ⟨w.heap.size, 0, none⟩ 1 1 (uvs [x0]) rfl (fun j x hx => by
      rw [add0, Nat.zero_add, cell_of_heap hnew, ← hx]
      simp [uvs]) (uvs_one _) (by omega) (by unfold maxLen; omega) (by omega) (Nat.le_trans hB hbe.size) _ rfl
  rw [hn] at hr' hown
  refine ⟨some ⟨g', 0, none⟩, cap', w', fun ty => hr', ?_, (UW.of_below hB hbe).trans (UW.own ho1 (Nat.le_trans hB hbe.size) hgrow)⟩
  rw [List.length_append, uvs_app, hn]
  exact hown
/-- append(v, x, y, z). -/
theorem app3 {w : World} {B n c : Nat} {a : Option Addr} {D : List Int} (ho : w.ownsRow B 27 1 (.slice a n c) D.length (uvs D)) (hn : D.length = n) (hB : B ≤ w.heap.size) (hl : n ≤ 2000) (x0 x1 x2 : Int) :
    ∃ a' c' w', (∀ ty, (Builtin.append_ #[28, 28] ty #[.slice a n c, .slice (some ⟨w.heap.size, 0, none⟩) 3 3]).run Try.prog (w.alloc (.cells #[.int .u64 x0, .int .u64 x1, .int .u64 x2] 27)) = .ok (.slice a' (n + 3) c') w') ∧ w'.ownsRow B 27 1 (.slice a' (n + 3) c') (D ++ [x0, x1, x2]).length (uvs (D ++ [x0, x1, x2])) ∧ UW B w w' := by
  obtain ⟨i0, hi0, hzz⟩ := Option.map_eq_some_iff.1 wordInfo
  simp only [Prod.mk.injEq] at hzz
  obtain ⟨hz0, hz1, hz2⟩ := hzz
  have hbe : Below w.heap.size w (w.alloc (.cells #[.int .u64 x0, .int .u64 x1, .int .u64 x2] 27)) := below_alloc _ _
  have hnew : (w.alloc (.cells #[.int .u64 x0, .int .u64 x1, .int .u64 x2] 27)).heap[w.heap.size]? = some (.cells #[.int .u64 x0, .int .u64 x1, .int .u64 x2] 27) := heap_alloc_new _ _
  have ho1 := ownsRow_below ho hbe
  obtain ⟨g', cap', w', hr', hown, hgrow, _, _⟩ := run_append_lies (P := Try.prog) _ 28 0 B 27 i0 _ 1 8 Try.underlying28 hi0 hz0 hz1 hz2 rfl (by omega) _ D.length (uvs D) ho1
    ⟨w.heap.size, 0, none⟩ 3 3 (uvs [x0, x1, x2]) rfl (fun j x hx => by
      rw [add0, Nat.zero_add, cell_of_heap hnew, ← hx]
      simp [uvs]) (uvs_one _) (by omega) (by unfold maxLen; omega) (by omega) (Nat.le_trans hB hbe.size) _ rfl
  rw [hn] at hr' hown
  refine ⟨some ⟨g', 0, none⟩, cap', w', fun ty => hr', ?_, (UW.of_below hB hbe).trans (UW.own ho1 (Nat.le_trans hB hbe.size) hgrow)⟩
  rw [List.length_append, uvs_app, hn]
  exact hown
/-- append(v, s...). -/
theorem appS {w : World} {B n c m cap : Nat} {a sa : Option Addr} {D E : List Int} (ho : w.ownsRow B 27 1 (.slice a n c) D.length (uvs D)) (hn : D.length = n) (hB : B ≤ w.heap.size) (hl : n ≤ 2000) (hE : E.length = m) (hm : m ≤ 2000) (hr : Rd w sa E) :
    ∃ a' c' w', (∀ ty, (Builtin.append_ #[28, 28] ty #[.slice a n c, .slice sa m cap]).run Try.prog w = .ok (.slice a' (n + m) c') w') ∧ w'.ownsRow B 27 1 (.slice a' (n + m) c') (D ++ E).length (uvs (D ++ E)) ∧ UW B w w' := by
  obtain ⟨i0, hi0, hzz⟩ := Option.map_eq_some_iff.1 wordInfo
  cases hc : E with
  | nil =>
    rw [hc] at hE
    obtain rfl : m = 0 := hE.symm
    have hle : n ≤ c := by
      cases a with
      | none =>
        rcases ho.2 with ⟨e, e2⟩ | ⟨g, cap', cur, e, _⟩
        · simp only [Value.slice.injEq] at e; omega
        · simp at e
      | some ad =>
        rcases ho.2 with ⟨e, e2⟩ | ⟨g, cap', cur, e, _, _, q, _⟩
        · simp at e
        · simp only [Value.slice.injEq] at e; omega
    exact ⟨a, c, w, fun ty => run_append_zero w 28 27 i0 Try.underlying28 hi0 a sa n c cap hle ty, by rw [List.append_nil]; exact ho, UW.refl _ _⟩
  | cons x r =>
    rw [hc] at hE hr
    simp only [Prod.mk.injEq] at hzz
    obtain ⟨hz0, hz1, hz2⟩ := hzz
    obtain ⟨g, off, e, _⟩ := hr 0 x rfl
    subst e
    have hlen : (x :: r).length = m := hE
    obtain ⟨g', cap', w', hr', hown, hgrow, _, _⟩ := run_append_lies (P := Try.prog) _ 28 0 B 27 i0 _ 1 8 Try.underlying28 hi0 hz0 hz1 hz2 rfl (by omega) _ D.length (uvs D) ho
      ⟨g, off, none⟩ m cap (uvs (x :: r)) (by rw [uvs_len, Nat.mul_one]; exact hE) (fun j u hu => by
        obtain ⟨y, hy, rfl⟩ := uvs_get hu
        obtain ⟨g2, off2, e2, hc2⟩ := hr j y hy
        simp only [Option.some.injEq, Addr.mk.injEq, and_true] at e2
        obtain ⟨rfl, rfl⟩ := e2
        have : (⟨g, off, none⟩ : Addr).add j = ⟨g, off + j, none⟩ := by simp [Addr.add]
        rw [this]
        exact hc2) (uvs_one _) (by rw [List.length_cons] at hlen; omega) (by unfold maxLen; omega) (by omega) hB _ rfl
    rw [hn] at hr' hown
    refine ⟨some ⟨g', 0, none⟩, cap', w', fun ty => hr', ?_, UW.own ho hB hgrow⟩
    rw [List.length_append, uvs_app, hn, hlen]
    exact hown
theorem wp_append_eq {P : Program} {w w' : World} {o : Oper} {a : Act} {K : Act → World → Prop} {Q : Exit → Act → World → Prop} (s x : Operand) (t : TypeId)
    (ho : o.op = .call { callee := .builtin .append, args := #[s, x], argTypes := #[t, t] }) (sv xv r : Value) (hs : a.eval s = sv) (hx : a.eval x = xv) (hr : ∀ ty, (Builtin.append_ #[t, t] ty #[sv, xv]).run P w = .ok r w')
    (h : K (a.put o.dst r) w') : o.wp P a w K Q := by
  unfold Oper.wp
  simp [execOp, ho, resolve, invoke, builtin, hs, hx, hr, Result.andThen]
  exact h
theorem hnd_rd {w : World} {b o : Nat} {row : Array Value} {p : Sg} (hB : SB w b row) (hR : SgR w row o p) (hl : p.h.length = 15) : Rd w (some ⟨b, o, none⟩) p.h := fun j x hx => by
  have hj : j < 15 := by have := (List.getElem?_eq_some_iff.1 hx).1; omega
  refine ⟨b, o, rfl, ?_⟩
  rw [hB.cell, hR.hnd j hj, List.getD_eq_getElem?_getD, hx]
  rfl
set_option maxRecDepth 100000 in
set_option maxHeartbeats 4000000 in
theorem appendTo_at (n c b o : Nat) (a : Option Addr) (D : List Int) (p : Sg) (row : Array Value) (w0 w : World) (ho : w.ownsRow w0.heap.size 27 1 (.slice a n c) D.length (uvs D)) (hn : D.length = n) (h0 : UW w0.heap.size w0 w) (hD : n ≤ 1000) (hSB : SB w0 b row) (hSR : SgR w0 row o p) (hok : p.Ok) :
    Calls Try.prog 37 #[.pointer (some ⟨b, o, none⟩), .slice a n c] w fun x w' => ∃ a' n' c', x = .returned (.slice a' n' c') ∧ n' = (D ++ encP p).length ∧ w'.ownsRow w0.heap.size 27 1 (.slice a' n' c') (D ++ encP p).length (uvs (D ++ encP p)) ∧ UW w0.heap.size w0 w' := by
  have hSBw := h0.sb hSB
  obtain ⟨a1, c1, w1, hrun1, hown1, hU1⟩ := appS (cap := 15) ho hn h0.bel.size (by omega) hok.len (by omega) (by
    intro j x hx
    have hj : j < 15 := by have := (List.getElem?_eq_some_iff.1 hx).1; have := hok.len; omega
    refine ⟨b, o, rfl, ?_⟩
    rw [hSBw.cell, hSR.hnd j hj, List.getD_eq_getElem?_getD, hx]
    rfl)
  have hn1 : (D ++ p.h).length = n + 15 := by rw [List.length_append, hn, hok.len]
  have h1 := h0.trans hU1
  obtain ⟨a2, c2, w2, hrun2, hown2, hU2⟩ := app1 hown1 hn1 h1.bel.size (by omega) (p.q : Int)
  have HRun1 : Hid _ := hrun1
  have HRun2 : Hid _ := hrun2
  have hB1 := h1.sb hSB
  have h2 := h1.trans hU2
  have hB2 := h2.sb hSB
  have c15 := (hB1.cell (o + 15)).trans hSR.pen
  have c16 := (hB2.cell (o + 16)).trans hSR.inh
  have hn2 : ((D ++ p.h) ++ [(p.q : Int)]).length = n + 15 + 1 := by rw [List.length_append, hn1]; rfl
  cases hk : p.k with
  | none =>
    rw [hk] at c16
    obtain ⟨a3, c3, w3, hrun3, hown3, hU3⟩ := app1 hown2 hn2 h2.bel.size (by omega) 0
    have HRun3 : Hid _ := hrun3
    have HE : Hid (D ++ encP p = ((D ++ p.h) ++ [(p.q : Int)]) ++ [0]) := by show _ = _; unfold encP; rw [hk]; simp [encV]
    have HO : Hid (w3.ownsRow w0.heap.size 27 1 (.slice a3 (n + 15 + 1 + 1) c3) (((D ++ p.h) ++ [(p.q : Int)]) ++ [0]).length (uvs (((D ++ p.h) ++ [(p.q : Int)]) ++ [0]))) := hown3
    have HU : Hid (UW w0.heap.size w0 w3) := h2.trans hU3
    have HN : Hid (n + 15 + 1 + 1 = (((D ++ p.h) ++ [(p.q : Int)]) ++ [0]).length) := by show _ = _; rw [List.length_append, hn2]; rfl
    dsimp only [Option.isSome] at c16
    generalize (p.q : Int) = q0 at *
    clear ho hn hSB hSR hok hrun1 hown1 hU1 hrun2 hown2 hU2 hB1 h0 h1 h2 hSBw hB2 hk hrun3 hown3 hU3 hn1 hn2
    go_enter Try.func37, Try.ntmps37
    go_upto_region 2 with (at_builtin; refine wpList_append_eq rfl _ _ _ rfl _ _ _ rfl rfl HRun1.out ?_)
    clear HRun1
    go_upto_region 3 with (at_builtin; refine wpList_append_eq rfl _ _ _ rfl _ _ _ rfl rfl HRun2.out ?_)
    clear HRun2
    go_wp2_with (at_builtin; refine wpList_append_eq rfl _ _ _ rfl _ _ _ rfl rfl HRun3.out ?_)
    go_ret
    exact ⟨_, _, _, rfl, by rw [HE.out]; exact HN.out, by rw [HE.out]; exact HO.out, HU.out⟩
  | some z =>
    obtain ⟨pc, st⟩ := z
    rw [hk] at c16
    dsimp only [Option.isSome] at c16
    obtain ⟨v1, v2, v3, v4⟩ := hok.vm pc st hk
    have hpc : p.pc = pc := by unfold Sg.pc; rw [hk]; rfl
    have hst : p.st = st := by unfold Sg.st; rw [hk]; rfl
    obtain ⟨sa, sc, e18, hcc, hT⟩ := hSR.stk
    rw [hst] at e18 hcc hT
    have e17 := hSR.pc
    rw [hpc] at e17
    have hw2d : w2.drew.ownsRow w0.heap.size 27 1 (.slice a2 (n + 15 + 1) c2) ((D ++ p.h) ++ [(p.q : Int)]).length (uvs ((D ++ p.h) ++ [(p.q : Int)])) := hown2
    have h2d : UW w0.heap.size w0 w2.drew := h2.trans (UW.of_below h2.bel.size (Below.refl w2.heap.size w2).drew)
    obtain ⟨a3, c3, w3, hrun3, hown3, hU3⟩ := app3 hw2d hn2 h2d.bel.size (by omega) 1 pc (st.length : Int)
    have h3 := h2d.trans hU3
    have hB3 := h3.sb hSB
    have hn3 : (((D ++ p.h) ++ [(p.q : Int)]) ++ [1, pc, (st.length : Int)]).length = n + 15 + 1 + 3 := by rw [List.length_append, hn2]; rfl
    obtain ⟨a4, c4, w4, hrun4, hown4, hU4⟩ := appS (cap := sc) hown3 hn3 h3.bel.size (by omega) (E := st) rfl (by omega) (hT.rd.below h3.bel)
    have HRun3 : ∀ ty, (Builtin.append_ #[28, 28] ty #[.slice a2 (n + 15 + 1) c2, .slice (some ⟨w2.heap.size, 0, none⟩) 3 3]).run Try.prog (w2.drew.alloc (.cells #[.int .u64 1, .int .u64 pc, .int .u64 (st.length : Int)] 27)) = .ok (.slice a3 (n + 15 + 1 + 3) c3) w3 := hrun3
    have HRun4 : Hid _ := hrun4
    have HE : Hid (D ++ encP p = (((D ++ p.h) ++ [(p.q : Int)]) ++ [1, pc, (st.length : Int)]) ++ st) := by show _ = _; unfold encP; rw [hk]; simp [encV]
    have HO : Hid (w4.ownsRow w0.heap.size 27 1 (.slice a4 (n + 15 + 1 + 3 + st.length) c4) ((((D ++ p.h) ++ [(p.q : Int)]) ++ [1, pc, (st.length : Int)]) ++ st).length (uvs ((((D ++ p.h) ++ [(p.q : Int)]) ++ [1, pc, (st.length : Int)]) ++ st))) := hown4
    have HU : Hid (UW w0.heap.size w0 w4) := h3.trans hU4
    have HN : Hid (n + 15 + 1 + 3 + st.length = ((((D ++ p.h) ++ [(p.q : Int)]) ++ [1, pc, (st.length : Int)]) ++ st).length) := by show _ = _; rw [List.length_append, hn3]
    have d17 := (hB2.cell (o + 17)).trans e17
    have d18 := (hB2.cell (o + 18)).trans e18
    have g17 := (hB2.drew.cell (o + 17)).trans e17
    have g18 := (hB2.drew.cell (o + 18)).trans e18
    have g17' := (hB3.cell (o + 17)).trans e17
    have g18' := (hB3.cell (o + 18)).trans e18
    have hs1 : (w2.drew.alloc (.cells #[.int .u64 1, .int .u64 pc, .int .u64 (st.length : Int)] 27)).cell? ⟨b, o + 17, none⟩ = some (.int .i64 pc) ∧ (w2.drew.alloc (.cells #[.int .u64 1, .int .u64 pc, .int .u64 (st.length : Int)] 27)).cell? ⟨b, o + 18, none⟩ = some (.slice sa st.length sc) := by
      have hq := hB2.drew.below (below_alloc _ (.cells #[.int .u64 1, .int .u64 pc, .int .u64 (st.length : Int)] 27))
      exact ⟨(hq.cell _).trans e17, (hq.cell _).trans e18⟩
    have hwp : IntKind.u64.wrap pc = pc := by simp [IntKind.wrap, IntKind.bits, IntKind.signed]; omega
    have hwl : IntKind.u64.wrap (st.length : Int) = (st.length : Int) := by simp [IntKind.wrap, IntKind.bits, IntKind.signed]; omega
    generalize (p.q : Int) = q0 at *
    generalize hkl : st.length = kl at *
    clear ho hn hSB hSR hok hrun1 hown1 hU1 hrun2 hown2 hU2 hB1 h0 h1 h2 hSBw hB2 hk hrun3 hown3 hU3 hn1 hn2 hw2d h2d h3 hB3 hn3 hrun4 hown4 hU4 e17 e18 hcc hT hpc hst v1 v2 v3 v4 hkl
    go_enter Try.func37, Try.ntmps37
    go_upto_region 2 with (at_builtin; refine wpList_append_eq rfl _ _ _ rfl _ _ _ rfl rfl HRun1.out ?_)
    clear HRun1
    go_upto_region 3 with (at_builtin; refine wpList_append_eq rfl _ _ _ rfl _ _ _ rfl rfl HRun2.out ?_)
    clear HRun2
    go_upto_region 5 with fail
    refine wp_region_held_drew (S := fun w' => w'.cell? ⟨b, o + 17, none⟩ = some (.int .i64 pc) ∧ w'.cell? ⟨b, o + 18, none⟩ = some (.slice sa kl sc)) (by kernel_rfl) ⟨g17, g18⟩ (fun hHeld => ?_)
    refine wpAnyH_take (i := 0) (v := ?_) rfl (by kernel_rfl) (by kernel_rfl) (by kernel_rfl) (fun _ _ _ h => h) (Or.inl ⟨by kernel_rfl, ?_⟩) (by assumption) ?_
    rotate_left
    · (intro w hSw; (try dsimp only at hSw); go_simp) <;> with_reducible rfl
    (try simp only [Act.put, List.getElem_toArray, List.getElem_cons_zero, List.setIfInBounds_toArray, List.set_cons_zero, List.set_cons_succ])
    refine wpAnyH_take (i := 1) (v := ?_) rfl (by kernel_rfl) (by kernel_rfl) (by kernel_rfl) (fun _ _ _ h => h) (Or.inl ⟨by kernel_rfl, ?_⟩) (by assumption) ?_
    rotate_left
    · (intro w hSw; (try dsimp only at hSw); go_simp) <;> with_reducible rfl
    (try simp only [Act.put, List.getElem_toArray, List.getElem_cons_zero, List.getElem_cons_succ, List.setIfInBounds_toArray, List.set_cons_zero, List.set_cons_succ])
    refine wpAnyH_take (i := 2) (v := ?_) rfl (by kernel_rfl) (by kernel_rfl) (by kernel_rfl) (fun _ _ _ h => h) (Or.inl ⟨by kernel_rfl, ?_⟩) (by assumption) ?_
    rotate_left
    · (intro w hSw; (try dsimp only at hSw); go_simp) <;> with_reducible rfl
    (try simp only [Act.put, List.getElem_toArray, List.getElem_cons_zero, List.getElem_cons_succ, List.setIfInBounds_toArray, List.set_cons_zero, List.set_cons_succ])
    refine wpAnyH_take (i := 3) (v := ?_) rfl (by kernel_rfl) (by kernel_rfl) (by kernel_rfl) (fun _ _ _ h => h) (Or.inl ⟨by kernel_rfl, ?_⟩) (by assumption) ?_
    rotate_left
    · (intro w hSw; (try dsimp only at hSw); go_simp) <;> with_reducible rfl
    (try simp only [Act.put, List.getElem_toArray, List.getElem_cons_zero, List.getElem_cons_succ, List.setIfInBounds_toArray, List.set_cons_zero, List.set_cons_succ])
    refine wpAnyH_take (i := 4) (v := ?_) rfl (by kernel_rfl) (by kernel_rfl) (by kernel_rfl) (fun _ _ _ h => h) (Or.inl ⟨by kernel_rfl, ?_⟩) (by assumption) ?_
    rotate_left
    · (intro w hSw; (try dsimp only at hSw); go_simp) <;> with_reducible rfl
    (try simp only [Act.put, List.getElem_toArray, List.getElem_cons_zero, List.getElem_cons_succ, List.setIfInBounds_toArray, List.set_cons_zero, List.set_cons_succ])
    refine wpAnyH_take (i := 5) (v := ?_) rfl (by kernel_rfl) (by kernel_rfl) (by kernel_rfl) (fun _ _ _ h => h) (Or.inl ⟨by kernel_rfl, ?_⟩) (by assumption) ?_
    rotate_left
    · (intro w hSw; (try dsimp only at hSw); go_simp) <;> with_reducible rfl
    (try simp only [Act.put, List.getElem_toArray, List.getElem_cons_zero, List.getElem_cons_succ, List.setIfInBounds_toArray, List.set_cons_zero, List.set_cons_succ])
    refine wpAnyH_take (i := 6) (v := ?_) rfl (by kernel_rfl) (by kernel_rfl) (by kernel_rfl) (fun _ _ _ h => h) (Or.inl ⟨by kernel_rfl, ?_⟩) (by assumption) ?_
    rotate_left
    · (intro w hSw; (try dsimp only at hSw); go_simp) <;> with_reducible rfl
    (try simp only [Act.put, List.getElem_toArray, List.getElem_cons_zero, List.getElem_cons_succ, List.setIfInBounds_toArray, List.set_cons_zero, List.set_cons_succ])
    refine wpAnyH_take (i := 7) (v := ?_) rfl (by kernel_rfl) (by kernel_rfl) (by kernel_rfl) (fun _ _ _ h => h) (Or.inl ⟨by kernel_rfl, ?_⟩) (by assumption) ?_
    rotate_left
    · (intro w hSw; (try dsimp only at hSw); go_simp) <;> with_reducible rfl
    (try simp only [Act.put, List.getElem_toArray, List.getElem_cons_zero, List.getElem_cons_succ, List.setIfInBounds_toArray, List.set_cons_zero, List.set_cons_succ])
    refine wpAnyH_take (i := 8) (v := ?_) rfl (by kernel_rfl) (by kernel_rfl) (by kernel_rfl) (fun _ _ _ h => h) (Or.inl ⟨by kernel_rfl, ?_⟩) (by assumption) ?_
    rotate_left
    · (intro w hSw; (try dsimp only at hSw); go_simp) <;> with_reducible rfl
    (try simp only [Act.put, List.getElem_toArray, List.getElem_cons_zero, List.getElem_cons_succ, List.setIfInBounds_toArray, List.set_cons_zero, List.set_cons_succ])
    refine wpAnyH_take (i := 9) (v := ?_) rfl (by kernel_rfl) (by kernel_rfl) (by kernel_rfl) (fun _ _ _ h => h) (Or.inl ⟨by kernel_rfl, ?_⟩) (by assumption) ?_
    rotate_left
    · (intro w hSw; (try dsimp only at hSw); go_simp) <;> with_reducible rfl
    (try simp only [Act.put, List.getElem_toArray, List.getElem_cons_zero, List.getElem_cons_succ, List.setIfInBounds_toArray, List.set_cons_zero, List.set_cons_succ])
    refine wpAnyH_take (i := 10) (v := ?_) rfl (by kernel_rfl) (by kernel_rfl) (by kernel_rfl) (fun _ _ _ h => h) (Or.inl ⟨by kernel_rfl, ?_⟩) (by assumption) ?_
    rotate_left
    · (intro w hSw; (try dsimp only at hSw); go_simp) <;> with_reducible rfl
    (try simp only [Act.put, List.getElem_toArray, List.getElem_cons_zero, List.getElem_cons_succ, List.setIfInBounds_toArray, List.set_cons_zero, List.set_cons_succ])
    refine wpAnyH_take (i := 11) (v := ?_) rfl (by kernel_rfl) (by kernel_rfl) (by kernel_rfl) (fun _ _ _ h => h) (Or.inl ⟨by kernel_rfl, ?_⟩) (by assumption) ?_
    rotate_left
    · (intro w hSw; (try dsimp only at hSw); go_simp) <;> with_reducible rfl
    (try simp only [Act.put, List.getElem_toArray, List.getElem_cons_zero, List.getElem_cons_succ, List.setIfInBounds_toArray, List.set_cons_zero, List.set_cons_succ])
    refine wpAnyH_take (i := 12) (v := ?_) rfl (by kernel_rfl) (by kernel_rfl) (by kernel_rfl) (fun _ _ _ h => h) (Or.inl ⟨by kernel_rfl, ?_⟩) (by assumption) ?_
    rotate_left
    · (intro w hSw; (try dsimp only at hSw); go_simp) <;> with_reducible rfl
    (try simp only [Act.put, List.getElem_toArray, List.getElem_cons_zero, List.getElem_cons_succ, List.setIfInBounds_toArray, List.set_cons_zero, List.set_cons_succ])
    refine wpAnyH_take (i := 13) (v := ?_) rfl (by kernel_rfl) (by kernel_rfl) (by kernel_rfl) (fun _ _ _ h => h) (Or.inl ⟨by kernel_rfl, ?_⟩) (by assumption) ?_
    rotate_left
    · (intro w hSw; (try dsimp only at hSw); go_simp) <;> with_reducible rfl
    (try simp only [Act.put, List.getElem_toArray, List.getElem_cons_zero, List.getElem_cons_succ, List.setIfInBounds_toArray, List.set_cons_zero, List.set_cons_succ])
    refine wpAnyH_ready (rs := [14]) (by kernel_rfl) (by simp) ?_
    refine AllReadyH.cons rfl (fun K hK => ?_) AllReadyH.nil
    go_simp
    refine hK.out _ _ hs1 (fun hHeld => ?_)
    clear hK K
    (try simp only [Act.put, List.getElem_toArray, List.getElem_cons_zero, List.getElem_cons_succ, List.setIfInBounds_toArray, List.set_cons_zero, List.set_cons_succ])
    refine wpAnyH_ready (rs := [15]) (by kernel_rfl) (by simp) ?_
    refine AllReadyH.cons rfl (fun K hK => ?_) AllReadyH.nil
    refine wp_append_eq _ _ _ rfl _ _ _ rfl rfl HRun3 ?_
    refine hK.out _ _ ⟨g17', g18'⟩ (fun hHeld => ?_)
    clear hK K
    (try simp only [Act.put, List.getElem_toArray, List.getElem_cons_zero, List.getElem_cons_succ, List.setIfInBounds_toArray, List.set_cons_zero, List.set_cons_succ])
    refine wpAnyH_take (i := 16) (v := ?_) rfl (by kernel_rfl) (by kernel_rfl) (by kernel_rfl) (fun _ _ _ h => h) (Or.inl ⟨by kernel_rfl, ?_⟩) (by assumption) ?_
    rotate_left
    · (intro w hSw; (try dsimp only at hSw); go_simp) <;> with_reducible rfl
    (try simp only [Act.put, List.getElem_toArray, List.getElem_cons_zero, List.getElem_cons_succ, List.setIfInBounds_toArray, List.set_cons_zero, List.set_cons_succ])
    refine wpAnyH_done (by kernel_rfl) ?_ _
    clear hHeld HRun3 g17 g18 d17 d18 hs1 g17'
    go_wp2_with (at_builtin; refine wpList_append_eq rfl _ _ _ rfl _ _ _ rfl rfl HRun4.out ?_)
    go_ret
    exact ⟨_, _, _, rfl, by rw [HE.out]; exact HN.out, by rw [HE.out]; exact HO.out, HU.out⟩
set_option maxRecDepth 100000 in
set_option maxHeartbeats 4000000 in
theorem encode_at (b : Nat) (S : SS) (w : World) (h : SgAt w b S) (hok : SOk S) :
    Calls Try.prog 13 #[.pointer (some ⟨b, 0, none⟩)] w fun x w' => ∃ v, x = .returned v ∧ w'.ownsRow w.heap.size 27 1 v (encS S).length (uvs (encS S)) ∧ Below w.heap.size w w' := by
  have HF : Hid (SOk S) := hok
  obtain ⟨row, hP, hR⟩ := h
  have hne := ptr_eq b 0
  have HP : Hid (SB w b row) := hP
  have HR : Hid (SgRow w row S) := hR
  clear hP hR hok
  go_enter Try.func13, Try.ntmps13
  go_wp2
  go_loopw [3, 7] (fun s i wr => ∃ (k : Nat) (ak : Option Addr) (nk ck : Nat), k ≤ 8 ∧ i = .int .i64 k ∧ .slice ak nk ck = s ∧ nk = (encK S k).length ∧ wr.ownsRow w.heap.size 27 1 (.slice ak nk ck) (encK S k).length (uvs (encK S k)) ∧ UW w.heap.size w wr) (fun _ i _ => 8 - (intOf i).toNat)
  case atStart => exact ⟨0, none, 0, 0, by omega, rfl, rfl, rfl, World.ownsRow_nil w _ _ 1, UW.refl _ _⟩
  case round =>
    obtain ⟨k, ak, nk, ck, hk, rfl, rfl, hnk, hown, hU⟩ := hrel
    have HU : Hid (UW w.heap.size w wr) := hU
    by_cases hlt : k < 8
    · have i1 : decide ((k : Int) < 8) = true := decide_eq_true (by omega)
      have hki : (k : Int) < 8 := by omega
      have hel := encK_len HF.out k (by omega)
      have hAp := appendTo_at nk ck b (k * 19) ak (encK S k) (S k) row w wr hown hnk.symm hU (by omega) HP.out (HR.out.at' k hlt) (HF.out k hlt)
      have HE : Hid (encK S k ++ encP (S k) = encK S (k + 1)) := rfl
      rw [HE.out] at hAp
      clear hown hU hnk hel HE
      go_wp2_with fail
      refine hAp.mono ?_
      rintro x w4 ⟨a4, n4, c4, rfl, hn4, hown4, hU4⟩
      have HN4 : Hid (n4 = (encK S (k + 1)).length) := hn4
      have HO4 : Hid (w4.ownsRow w.heap.size 27 1 (.slice a4 n4 c4) (encK S (k + 1)).length (uvs (encK S (k + 1)))) := hown4
      have HU4 : Hid (UW w.heap.size w w4) := hU4
      clear hn4 hown4 hU4 hAp
      go_wp2
      go_roundw
      case rel => exact ⟨k + 1, a4, n4, c4, by omega, by go_num, rfl, HN4.out, HO4.out, HU4.out⟩
      case measure => simp [intOf]; omega
    · have i1 : decide ((k : Int) < 8) = false := decide_eq_false (by omega)
      have hk8 : k = 8 := by omega
      rw [hk8] at hown
      have HO : Hid (wr.ownsRow w.heap.size 27 1 (.slice ak nk ck) (encS S).length (uvs (encS S))) := hown
      clear hown hU hnk hk8
      go_wp2
      go_ret
      exact ⟨_, rfl, HO.out, HU.out.bel⟩
theorem encode_nil (w : World) :
    Calls Try.prog 13 #[.pointer none] w fun x w' => x = .returned (.slice none 0 0) ∧ w' = w := by
  go_enter Try.func13, Try.ntmps13
  go_wp2
  go_ret
  exact ⟨rfl, rfl⟩
end Go.Proofs.Ytliifpknkdjgjaa
