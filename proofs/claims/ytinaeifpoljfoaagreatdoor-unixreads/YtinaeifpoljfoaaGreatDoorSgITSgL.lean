import Derived.Test.YtinaeifpoljfoaaGreatDoorSgDTSgG
import Derived.Laws.Tables
import Derived.LaidEqlPtr
import Derived.Laws.IdiomCopy
set_option linter.all false
set_option maxRecDepth 100000
set_option maxHeartbeats 16000000
namespace Go.Proofs.YtinaeifpoljfoaaGreatDoor
open Go.RowKit Go.Lib
namespace Ow
end Ow
namespace Sg
open Ow
structure UW (B : Nat) (w w' : World) : Prop where
 bel : Below B w w'
 oth : ∀ (k : Nat) (cs : Array Value) (t : TypeId) (fz : Nat × Nat), w.heap[k]? = some (.cells cs t fz) → t ≠ 45 → w'.heap[k]? = w.heap[k]?
theorem UW.refl (B : Nat) (w : World) : UW B w w := ⟨Below.refl _ _, fun _ _ _ _ _ _ => rfl⟩
theorem UW.trans {B : Nat} {a b c : World} (h : UW B a b) (k : UW B b c) : UW B a c :=
 ⟨h.bel.trans k.bel, fun i cs t fz hi ht => by
   have h1 := h.oth i cs t fz hi ht
   exact (k.oth i cs t fz (h1.trans hi) ht).trans h1⟩
theorem UW.of_below {B : Nat} {w w' : World} (hB : B ≤ w.heap.size) (h : Below w.heap.size w w') : UW B w w' := ⟨h.mono hB, fun i cs t fz hi ht => h.block i (lt_of_heap hi)⟩
theorem UW.sb {B : Nat} {w w' : World} (h : UW B w w') {b : Nat} {row : Array Value} (hb : SB w b row) : SB w' b row := hb.keep (h.oth b _ _ _ hb (by decide))
theorem UW.own {w w' : World} {B : Nat} {v : Value} {n : Nat} {xs : List Value} (h : w.ownsRow B 45 1 v n xs) (hs : B ≤ w.heap.size) (hg : w.grownBy w' v.ownBlock) : UW B w w' := by
 refine ⟨below_grown hg hs (ownsRow_low h), fun i cs t fz hi ht => hg.block i (lt_of_heap hi) (fun e => ?_)⟩;obtain ⟨c2, k2⟩ := own_type h e.symm;rw [hi] at k2;simp only [Option.some.injEq, Obj.cells.injEq] at k2;exact ht k2.2.1
theorem app1 {w : World} {B n c : Nat} {a : Option Addr} {D : List Int} (ho : w.ownsRow B 45 1 (.slice a n c) D.length (uvs D)) (hn : D.length = n) (hB : B ≤ w.heap.size) (hl : n ≤ 2000) (x0 : Int) :
  ∃ a' c' w', (∀ ty, (Builtin.append_ #[22, 22] ty #[.slice a n c, .slice (some ⟨w.heap.size, 0, none⟩) 1 1]).run Tryz.prog (w.alloc (.cells #[.int .u64 x0] 45)) = .ok (.slice a' (n + 1) c') w') ∧ w'.ownsRow B 45 1 (.slice a' (n + 1) c') (D ++ [x0]).length (uvs (D ++ [x0])) ∧ UW B w w' := by
 obtain ⟨i0, hi0, hzz⟩ := Option.map_eq_some_iff.1 wordInfo;simp only [Prod.mk.injEq] at hzz;obtain ⟨hz0, hz1, hz2⟩ := hzz;have hbe : Below w.heap.size w (w.alloc (.cells #[.int .u64 x0] 45)) := below_alloc _ _;have hnew : (w.alloc (.cells #[.int .u64 x0] 45)).heap[w.heap.size]? = some (.cells #[.int .u64 x0] 45) := heap_alloc_new _ _;have ho1 := ownsRow_below ho hbe
 obtain ⟨g', cap', w', hr', hown, hgrow, _, _⟩ := run_append_lies (P := Tryz.prog) _ 22 0 B 45 i0 _ 1 8 Tryz.underlying22 hi0 hz0 hz1 hz2 rfl (by omega) _ D.length (uvs D) ho1
  ⟨w.heap.size, 0, none⟩ 1 1 (uvs [x0]) rfl (fun j x hx => by
    rw [add0, Nat.zero_add, cell_of_heap hnew, ← hx]
    simp [uvs]) (uvs_one _) (by omega) (by unfold maxLen; omega) (by omega) (Nat.le_trans hB hbe.size) _ rfl
 rw [hn] at hr' hown;refine ⟨some ⟨g', 0, none⟩, cap', w', fun ty => hr', ?_, (UW.of_below hB hbe).trans (UW.own ho1 (Nat.le_trans hB hbe.size) hgrow)⟩;rw [List.length_append, uvs_app, hn];exact hown
theorem app3 {w : World} {B n c : Nat} {a : Option Addr} {D : List Int} (ho : w.ownsRow B 45 1 (.slice a n c) D.length (uvs D)) (hn : D.length = n) (hB : B ≤ w.heap.size) (hl : n ≤ 2000) (x0 x1 x2 : Int) :
  ∃ a' c' w', (∀ ty, (Builtin.append_ #[22, 22] ty #[.slice a n c, .slice (some ⟨w.heap.size, 0, none⟩) 3 3]).run Tryz.prog (w.alloc (.cells #[.int .u64 x0, .int .u64 x1, .int .u64 x2] 45)) = .ok (.slice a' (n + 3) c') w') ∧ w'.ownsRow B 45 1 (.slice a' (n + 3) c') (D ++ [x0, x1, x2]).length (uvs (D ++ [x0, x1, x2])) ∧ UW B w w' := by
 obtain ⟨i0, hi0, hzz⟩ := Option.map_eq_some_iff.1 wordInfo;simp only [Prod.mk.injEq] at hzz;obtain ⟨hz0, hz1, hz2⟩ := hzz;have hbe : Below w.heap.size w (w.alloc (.cells #[.int .u64 x0, .int .u64 x1, .int .u64 x2] 45)) := below_alloc _ _;have hnew : (w.alloc (.cells #[.int .u64 x0, .int .u64 x1, .int .u64 x2] 45)).heap[w.heap.size]? = some (.cells #[.int .u64 x0, .int .u64 x1, .int .u64 x2] 45) := heap_alloc_new _ _;have ho1 := ownsRow_below ho hbe
 obtain ⟨g', cap', w', hr', hown, hgrow, _, _⟩ := run_append_lies (P := Tryz.prog) _ 22 0 B 45 i0 _ 1 8 Tryz.underlying22 hi0 hz0 hz1 hz2 rfl (by omega) _ D.length (uvs D) ho1
  ⟨w.heap.size, 0, none⟩ 3 3 (uvs [x0, x1, x2]) rfl (fun j x hx => by
    rw [add0, Nat.zero_add, cell_of_heap hnew, ← hx]
    simp [uvs]) (uvs_one _) (by omega) (by unfold maxLen; omega) (by omega) (Nat.le_trans hB hbe.size) _ rfl
 rw [hn] at hr' hown;refine ⟨some ⟨g', 0, none⟩, cap', w', fun ty => hr', ?_, (UW.of_below hB hbe).trans (UW.own ho1 (Nat.le_trans hB hbe.size) hgrow)⟩;rw [List.length_append, uvs_app, hn];exact hown
theorem appS {w : World} {B n c m cap : Nat} {a sa : Option Addr} {D E : List Int} (ho : w.ownsRow B 45 1 (.slice a n c) D.length (uvs D)) (hn : D.length = n) (hB : B ≤ w.heap.size) (hl : n ≤ 2000) (hE : E.length = m) (hm : m ≤ 2000) (hr : Rd w sa E) :
  ∃ a' c' w', (∀ ty, (Builtin.append_ #[22, 22] ty #[.slice a n c, .slice sa m cap]).run Tryz.prog w = .ok (.slice a' (n + m) c') w') ∧ w'.ownsRow B 45 1 (.slice a' (n + m) c') (D ++ E).length (uvs (D ++ E)) ∧ UW B w w' := by
 obtain ⟨i0, hi0, hzz⟩ := Option.map_eq_some_iff.1 wordInfo
 cases hc : E with
 | nil =>
  rw [hc] at hE;obtain rfl : m = 0 := hE.symm
  have hle : n ≤ c := by
   cases a with
   | none =>
    rcases ho.2 with ⟨e, e2⟩ | ⟨g, cap', cur, e, _⟩
    ·simp only [Value.slice.injEq] at e; omega
    ·simp at e
   | some ad =>
    rcases ho.2 with ⟨e, e2⟩ | ⟨g, cap', cur, e, _, _, q, _⟩
    ·simp at e
    ·simp only [Value.slice.injEq] at e; omega
  exact ⟨a, c, w, fun ty => run_append_zero w 22 45 i0 Tryz.underlying22 hi0 a sa n c cap hle ty, by rw [List.append_nil]; exact ho, UW.refl _ _⟩
 | cons x r =>
  rw [hc] at hE hr;simp only [Prod.mk.injEq] at hzz;obtain ⟨hz0, hz1, hz2⟩ := hzz;obtain ⟨g, off, e, _⟩ := hr 0 x rfl;subst e;have hlen : (x :: r).length = m := hE
  obtain ⟨g', cap', w', hr', hown, hgrow, _, _⟩ := run_append_lies (P := Tryz.prog) _ 22 0 B 45 i0 _ 1 8 Tryz.underlying22 hi0 hz0 hz1 hz2 rfl (by omega) _ D.length (uvs D) ho
   ⟨g, off, none⟩ m cap (uvs (x :: r)) (by rw [uvs_len, Nat.mul_one]; exact hE) (fun j u hu => by
     obtain ⟨y, hy, rfl⟩ := uvs_get hu;obtain ⟨g2, off2, e2, hc2⟩ := hr j y hy;simp only [Option.some.injEq, Addr.mk.injEq, and_true] at e2;obtain ⟨rfl, rfl⟩ := e2
     have : (⟨g, off, none⟩ : Addr).add j = ⟨g, off + j, none⟩ := by simp [Addr.add]
     rw [this]
     exact hc2) (uvs_one _) (by rw [List.length_cons] at hlen; omega) (by unfold maxLen; omega) (by omega) hB _ rfl
  rw [hn] at hr' hown;refine ⟨some ⟨g', 0, none⟩, cap', w', fun ty => hr', ?_, UW.own ho hB hgrow⟩;rw [List.length_append, uvs_app, hn, hlen];exact hown
theorem wp_append_eq {P : Program} {w w' : World} {o : Oper} {a : Act} {K : Act → World → Prop} {Q : Exit → Act → World → Prop} (s x : Operand) (t : TypeId)
  (ho : o.op = .call { callee := .builtin .append, args := #[s, x], argTypes := #[t, t] }) (sv xv r : Value) (hs : a.eval s = sv) (hx : a.eval x = xv) (hr : ∀ ty, (Builtin.append_ #[t, t] ty #[sv, xv]).run P w = .ok r w')
  (h : K (a.put o.dst r) w') : o.wp P a w K Q := by
 unfold Oper.wp;simp [execOp, ho, resolve, invoke, builtin, hs, hx, hr, Result.andThen];exact h
theorem appendTo_at (n c b o : Nat) (a : Option Addr) (D : List Int) (p : Sg) (row : Array Value) (w0 w : World) (ho : w.ownsRow w0.heap.size 45 1 (.slice a n c) D.length (uvs D)) (hn : D.length = n) (h0 : UW w0.heap.size w0 w) (hD : n ≤ 1000) (hSB : SB w0 b row) (hSR : SgR w0 row o p) (hok : p.Ok) :
  Calls Tryz.prog 59 #[.pointer (some ⟨b, o, none⟩), .slice a n c] w fun x w' => ∃ a' n' c', x = .returned (.slice a' n' c') ∧ n' = (D ++ encP p).length ∧ w'.ownsRow w0.heap.size 45 1 (.slice a' n' c') (D ++ encP p).length (uvs (D ++ encP p)) ∧ UW w0.heap.size w0 w' := by
 have hSBw := h0.sb hSB
 obtain ⟨a1, c1, w1, hrun1, hown1, hU1⟩ := appS (cap := 15) ho hn h0.bel.size (by omega) hok.len (by omega) (by
   intro j x hx
   have hj : j < 15 := by have := (List.getElem?_eq_some_iff.1 hx).1; have := hok.len; omega
   refine ⟨b, o, rfl, ?_⟩;rw [hSBw.cell, hSR.hnd j hj, List.getD_eq_getElem?_getD, hx]
   rfl)
 have hn1 : (D ++ p.h).length = n + 15 := by rw [List.length_append, hn, hok.len]
 have h1 := h0.trans hU1;obtain ⟨a2, c2, w2, hrun2, hown2, hU2⟩ := app1 hown1 hn1 h1.bel.size (by omega) (p.q : Int);have HRun1 : Hid _ := hrun1;have HRun2 : Hid _ := hrun2;have hB1 := h1.sb hSB;have h2 := h1.trans hU2;have hB2 := h2.sb hSB;have c15 := (hB1.cell (o + 15)).trans hSR.pen;have c16 := (hB2.cell (o + 16)).trans hSR.inh
 have hn2 : ((D ++ p.h) ++ [(p.q : Int)]).length = n + 15 + 1 := by rw [List.length_append, hn1]; rfl
 cases hk : p.k with
 | none =>
  rw [hk] at c16;obtain ⟨a3, c3, w3, hrun3, hown3, hU3⟩ := app1 hown2 hn2 h2.bel.size (by omega) 0;have HRun3 : Hid _ := hrun3
  have HE : Hid (D ++ encP p = ((D ++ p.h) ++ [(p.q : Int)]) ++ [0]) := by show _ = _; unfold encP; rw [hk]; simp [encV]
  have HO := hid hown3;have HU : Hid (UW w0.heap.size w0 w3) := h2.trans hU3
  have HN : Hid (n + 15 + 1 + 1 = (((D ++ p.h) ++ [(p.q : Int)]) ++ [0]).length) := by show _ = _; rw [List.length_append, hn2]; rfl
  dsimp only [Option.isSome] at c16;generalize (p.q : Int) = q0 at *;clear ho hn hSB hSR hok hrun1 hown1 hU1 hrun2 hown2 hU2 hB1 h0 h1 h2 hSBw hB2 hk hrun3 hown3 hU3 hn1 hn2
  go_enter Tryz.func59, Tryz.ntmps59
  go_upto_region 2 with (at_builtin; refine wpList_append_eq rfl _ _ _ rfl _ _ _ rfl rfl HRun1.out ?_)
  clear HRun1
  go_upto_region 3 with (at_builtin; refine wpList_append_eq rfl _ _ _ rfl _ _ _ rfl rfl HRun2.out ?_)
  clear HRun2
  go_wp2_with (at_builtin; refine wpList_append_eq rfl _ _ _ rfl _ _ _ rfl rfl HRun3.out ?_)
  go_ret;exact ⟨_, _, _, rfl, by rw [HE.out]; exact HN.out, by rw [HE.out]; exact HO.out, HU.out⟩
 | some z =>
  obtain ⟨pc, st⟩ := z;rw [hk] at c16;dsimp only [Option.isSome] at c16;obtain ⟨v1, v2, v3, v4⟩ := hok.vm pc st hk
  have hpc : p.pc = pc := by unfold Sg.pc; rw [hk]; rfl
  have hst : p.st = st := by unfold Sg.st; rw [hk]; rfl
  obtain ⟨sa, sc, e18, hcc, hT⟩ := hSR.stk;rw [hst] at e18 hcc hT;have e17 := hSR.pc;rw [hpc] at e17;have hw2d : w2.drew.ownsRow w0.heap.size 45 1 (.slice a2 (n + 15 + 1) c2) ((D ++ p.h) ++ [(p.q : Int)]).length (uvs ((D ++ p.h) ++ [(p.q : Int)])) := hown2;have h2d : UW w0.heap.size w0 w2.drew := h2.trans (UW.of_below h2.bel.size (Below.refl w2.heap.size w2).drew);obtain ⟨a3, c3, w3, hrun3, hown3, hU3⟩ := app3 hw2d hn2 h2d.bel.size (by omega) 1 pc (st.length : Int);have h3 := h2d.trans hU3;have hB3 := h3.sb hSB
  have hn3 : (((D ++ p.h) ++ [(p.q : Int)]) ++ [1, pc, (st.length : Int)]).length = n + 15 + 1 + 3 := by rw [List.length_append, hn2]; rfl
  obtain ⟨a4, c4, w4, hrun4, hown4, hU4⟩ := appS (cap := sc) hown3 hn3 h3.bel.size (by omega) (E := st) rfl (by omega) (hT.rd.below h3.bel);have HRun3 : ∀ ty, (Builtin.append_ #[22, 22] ty #[.slice a2 (n + 15 + 1) c2, .slice (some ⟨w2.heap.size, 0, none⟩) 3 3]).run Tryz.prog (w2.drew.alloc (.cells #[.int .u64 1, .int .u64 pc, .int .u64 (st.length : Int)] 45)) = .ok (.slice a3 (n + 15 + 1 + 3) c3) w3 := hrun3;have HRun4 : Hid _ := hrun4
  have HE : Hid (D ++ encP p = (((D ++ p.h) ++ [(p.q : Int)]) ++ [1, pc, (st.length : Int)]) ++ st) := by show _ = _; unfold encP; rw [hk]; simp [encV]
  have HO := hid hown4;have HU : Hid (UW w0.heap.size w0 w4) := h3.trans hU4
  have HN : Hid (n + 15 + 1 + 3 + st.length = ((((D ++ p.h) ++ [(p.q : Int)]) ++ [1, pc, (st.length : Int)]) ++ st).length) := by show _ = _; rw [List.length_append, hn3]
  have d17 := (hB2.cell (o + 17)).trans e17;have d18 := (hB2.cell (o + 18)).trans e18;have g17 := (hB2.drew.cell (o + 17)).trans e17;have g18 := (hB2.drew.cell (o + 18)).trans e18;have g17' := (hB3.cell (o + 17)).trans e17;have g18' := (hB3.cell (o + 18)).trans e18
  have hs1 : (w2.drew.alloc (.cells #[.int .u64 1, .int .u64 pc, .int .u64 (st.length : Int)] 45)).cell? ⟨b, o + 17, none⟩ = some (.int .i64 pc) ∧ (w2.drew.alloc (.cells #[.int .u64 1, .int .u64 pc, .int .u64 (st.length : Int)] 45)).cell? ⟨b, o + 18, none⟩ = some (.slice sa st.length sc) := by
   have hq := hB2.drew.below (below_alloc _ (.cells #[.int .u64 1, .int .u64 pc, .int .u64 (st.length : Int)] 45));exact ⟨(hq.cell _).trans e17, (hq.cell _).trans e18⟩
  have hwp : IntKind.u64.wrap pc = pc := by simp [IntKind.wrap, IntKind.bits, IntKind.signed]; omega
  have hwl : IntKind.u64.wrap (st.length : Int) = (st.length : Int) := by simp [IntKind.wrap, IntKind.bits, IntKind.signed]; omega
  generalize (p.q : Int) = q0 at *;generalize hkl : st.length = kl at *;clear ho hn hSB hSR hok hrun1 hown1 hU1 hrun2 hown2 hU2 hB1 h0 h1 h2 hSBw hB2 hk hrun3 hown3 hU3 hn1 hn2 hw2d h2d h3 hB3 hn3 hrun4 hown4 hU4 e17 e18 hcc hT hpc hst v1 v2 v3 v4 hkl
  go_enter Tryz.func59, Tryz.ntmps59
  go_upto_region 2 with (at_builtin; refine wpList_append_eq rfl _ _ _ rfl _ _ _ rfl rfl HRun1.out ?_)
  clear HRun1
  go_upto_region 3 with (at_builtin; refine wpList_append_eq rfl _ _ _ rfl _ _ _ rfl rfl HRun2.out ?_)
  clear HRun2
  go_upto_region 5 with fail
  refine wp_region_held_drew (S := fun w' => w'.cell? ⟨b, o + 17, none⟩ = some (.int .i64 pc) ∧ w'.cell? ⟨b, o + 18, none⟩ = some (.slice sa kl sc)) (by kernel_rfl) ⟨g17, g18⟩ (fun hHeld => ?_);refine tkz [0, 1, 2, 3, 4, 5, 6, 7, 8, 9, 10, 11, 12, 13] ?_
  iterate 14
   refine tkq (v := ?_) rfl (Or.inl ⟨by kernel_rfl, ?_⟩) ?_
   rotate_left
   ·(intro w hSw; (try dsimp only at hSw); go_simp) <;> with_reducible rfl
   (try simp only [Act.put, lq])
  refine tkw ?_
  refine rdy 14 rfl fun K hK => ?_
  go_simp;refine hK.out _ _ hs1 (fun hHeld => ?_);clear hK K
  (try simp only [Act.put, lq])
  refine rdy 15 rfl fun K hK => ?_
  refine wp_append_eq _ _ _ rfl _ _ _ rfl rfl HRun3 ?_;refine hK.out _ _ ⟨g17', g18'⟩ (fun hHeld => ?_);clear hK K
  (try simp only [Act.put, lq])
  refine tkz [16] ?_
  iterate 1
   refine tkq (v := ?_) rfl (Or.inl ⟨by kernel_rfl, ?_⟩) ?_
   rotate_left
   ·(intro w hSw; (try dsimp only at hSw); go_simp) <;> with_reducible rfl
   (try simp only [Act.put, lq])
  refine tkw ?_;refine wpAnyH_done (by kernel_rfl) ?_ _;clear hHeld HRun3 g17 g18 d17 d18 hs1 g17'
  go_wp2_with (at_builtin; refine wpList_append_eq rfl _ _ _ rfl _ _ _ rfl rfl HRun4.out ?_)
  go_ret;exact ⟨_, _, _, rfl, by rw [HE.out]; exact HN.out, by rw [HE.out]; exact HO.out, HU.out⟩
theorem encode_at (b : Nat) (S : SS) (w : World) (h : SgAt w b S) (hok : SOk S) :
  Calls Tryz.prog 25 #[.pointer (some ⟨b, 0, none⟩)] w fun x w' => ∃ v, x = .returned v ∧ w'.ownsRow w.heap.size 45 1 v (encS S).length (uvs (encS S)) ∧ Below w.heap.size w w' := by
 have HF := hid hok;obtain ⟨row, hP, hR⟩ := h;have hne := ptr_eq b 0;have HP := hid hP;have HR := hid hR;clear hP hR hok
 go_enter Tryz.func25, Tryz.ntmps25
 go_wp2
 go_loopw [3, 7] (fun s i wr => ∃ (k : Nat) (ak : Option Addr) (nk ck : Nat), k ≤ 8 ∧ i = .int .i64 k ∧ .slice ak nk ck = s ∧ nk = (encK S k).length ∧ wr.ownsRow w.heap.size 45 1 (.slice ak nk ck) (encK S k).length (uvs (encK S k)) ∧ UW w.heap.size w wr) (fun _ i _ => 8 - (intOf i).toNat)
 case atStart => exact ⟨0, none, 0, 0, by omega, rfl, rfl, rfl, World.ownsRow_nil w _ _ 1, UW.refl _ _⟩
 case round =>
  obtain ⟨k, ak, nk, ck, hk, rfl, rfl, hnk, hown, hU⟩ := hrel;have HU := hid hU
  by_cases hlt : k < 8
  ·have i1 : decide ((k : Int) < 8) = true := decide_eq_true (by omega)
   have hki : (k : Int) < 8 := by omega
   have hel := encK_len HF.out k (by omega);have hAp := appendTo_at nk ck b (k * 19) ak (encK S k) (S k) row w wr hown hnk.symm hU (by omega) HP.out (HR.out.at' k hlt) (HF.out k hlt);have HE : Hid (encK S k ++ encP (S k) = encK S (k + 1)) := rfl;rw [HE.out] at hAp;clear hown hU hnk hel HE
   go_wp2_with fail
   refine hAp.mono ?_;rintro x w4 ⟨a4, n4, c4, rfl, hn4, hown4, hU4⟩;have HN4 := hid hn4;have HO4 := hid hown4;have HU4 := hid hU4;clear hn4 hown4 hU4 hAp;go_wp2;go_roundw
   case rel => exact ⟨k + 1, a4, n4, c4, by omega, by go_num, rfl, HN4.out, HO4.out, HU4.out⟩
   case measure => simp [intOf]; omega
  ·have i1 : decide ((k : Int) < 8) = false := decide_eq_false (by omega)
   have hk8 : k = 8 := by omega
   rw [hk8] at hown;have HO := hid hown;clear hown hU hnk hk8;go_wp2;go_ret;exact ⟨_, rfl, HO.out, HU.out.bel⟩
end Sg
namespace Ow
end Ow
namespace Sg
open Ow
theorem elemW : Tryz.prog.elem 22 = 45 := by kernel_rfl
def U64 (ws : List Int) : Prop := ∀ x ∈ ws, 0 ≤ x ∧ x < 18446744073709551616
theorem u64_get {ws : List Int} (h : U64 ws) {j : Nat} {x : Int} (hx : ws[j]? = some x) : 0 ≤ x ∧ x < 18446744073709551616 := h x (List.mem_of_getElem? hx)
theorem U64.drop {ws : List Int} (h : U64 ws) (n : Nat) : U64 (ws.drop n) := fun x hx => h x (List.mem_of_mem_drop hx)
theorem cut_wl (D : List Int) (a : Option Addr) (len cap j : Nat) (hl : len = D.length) (hj : j ≤ len) (hcap : len ≤ cap) : ∃ a2 c2, (∀ V, (Instr.slice 22 (.slice a len cap) (some (.int .i64 (j : Int))) none none).run Tryz.prog V = .ok (.slice a2 (len - j) c2) V) ∧ len - j ≤ c2 ∧ (∀ W, Rd W a D → Rd W a2 (D.drop j)) := by
 obtain ⟨i0, hi0, hzz⟩ := Option.map_eq_some_iff.1 wordInfo;simp only [Prod.mk.injEq] at hzz;refine ⟨if cap = j then a else a.map (·.add (j * 1)), cap - j, fun V => ?_, by omega, fun W ha => ?_⟩
 ·have hk0 : (j : Int) ≤ (len : Int) := by omega
  rw [run_slice_l V 22 _ _ _ Tryz.underlying22 _ _ (by omega) hk0];simp [sizeOf, typeInfo, elemW, hi0, sliced, hzz.2.1]
 ·intro i x hx
  rw [List.getElem?_drop] at hx;have hlt := (List.getElem?_eq_some_iff.1 hx).1;obtain ⟨g, off, e, hc⟩ := ha (j + i) x hx;refine ⟨g, off + j, ?_, ?_⟩
  ·rw [if_neg (by omega), e]
   simp [Addr.add]
  ·rw [Nat.add_assoc]
   exact hc
theorem cut_wh (D : List Int) (a : Option Addr) (len cap j : Nat) (k : IntKind) (hj : j ≤ len) (hcap : len ≤ cap) : (∃ c2, j ≤ c2 ∧ ∀ V, (Instr.slice 22 (.slice a len cap) none (some (.int k (j : Int))) none).run Tryz.prog V = .ok (.slice a j c2) V) ∧ (∀ W, Rd W a D → Rd W a (D.take j)) := by
 obtain ⟨i0, hi0, hzz⟩ := Option.map_eq_some_iff.1 wordInfo;simp only [Prod.mk.injEq] at hzz;refine ⟨⟨cap, by omega, fun V => ?_⟩, fun W ha => ?_⟩
 ·simp [Instr.slice, Instr.sliceBounds, run_underlying Tryz.underlying22, run_sliceBound, go_sem, sizeOf, typeInfo, hi0, show j ≤ cap by omega]
 ·intro i x hx
  have hlt := (List.getElem?_eq_some_iff.1 hx).1;rw [List.length_take] at hlt;rw [List.getElem?_take_of_lt (by omega)] at hx;exact ha i x hx
theorem mask_bit (j : Nat) : (18446744073709486081 : Nat).testBit j = (decide (j < 64) && !(decide (j < 16) && !decide (j = 0))) := by
 have h1 := Nat.testBit_two_pow_sub_succ (n := 64) (x := 65534) (by decide) j;have h2 := Nat.testBit_two_pow_sub_succ (n := 16) (x := 1) (by decide) j
 have e1 : (2 ^ 64 - (65534 + 1) : Nat) = 18446744073709486081 := by decide
 have e2 : (2 ^ 16 - (1 + 1) : Nat) = 65534 := by decide
 rw [e1] at h1;rw [e2] at h2;rw [h1, h2]
 have h3 : (1 : Nat).testBit j = decide (j = 0) := by
  have := Nat.testBit_two_pow (n := 0) (m := j);rw [show (2 ^ 0 : Nat) = 1 from rfl] at this;rw [this];simp [eq_comm]
 rw [h3]
theorem other_bits (q : Nat) (hq : q < 18446744073709551616) : ((((q &&& 18446744073709486081 : Nat)) : Int) != 0) = !okQ (q : Int) := by
 have key : (q &&& 18446744073709486081 = 0) ↔ (q < 65536 ∧ q % 2 = 0) := by
  constructor
  ·intro h
   have hb : ∀ j, (q.testBit j && (18446744073709486081 : Nat).testBit j) = false := fun j => by rw [← Nat.testBit_and, h]; simp
   refine ⟨?_, ?_⟩
   ·refine Nat.lt_pow_two_of_testBit (n := 16) q (fun j hj => ?_)
    by_cases h64 : j < 64
    ·have := hb j
     rw [mask_bit, decide_eq_true h64, decide_eq_false (show ¬ j < 16 by omega)] at this
     simpa using this
    ·exact Nat.testBit_lt_two_pow (Nat.lt_of_lt_of_le hq (by have := Nat.pow_le_pow_right (n := 2) (by omega) (show 64 ≤ j by omega); simpa using this))
   ·have := hb 0
    rw [mask_bit, Nat.testBit_zero] at this;simp at this;omega
  ·rintro ⟨h1, h2⟩
   apply Nat.eq_of_testBit_eq
   intro j;rw [Nat.testBit_and, mask_bit]
   by_cases h0 : j = 0
   ·subst h0
    rw [Nat.testBit_zero];simp [h2]
   ·by_cases h16 : j < 16
    ·simp [h16, h0]
    ·rw [low_bit h1 (by omega)]
     simp
 unfold okQ
 by_cases h : q &&& 18446744073709486081 = 0
 ·obtain ⟨h1, h2⟩ := key.1 h
  rw [h, decide_eq_true (by omega), decide_eq_true (by omega)]
  rfl
 ·have h1 : ¬ (q < 65536 ∧ q % 2 = 0) := fun x => h (key.2 x)
  rw [bne_iff_ne.2 (by omega)]
  by_cases h2 : q < 65536
  ·rw [decide_eq_false (show ¬ ((q : Int) % 2 = 0) by omega)]
   simp
  ·rw [decide_eq_false (show ¬ ((q : Int) < 65536) by omega)]
   simp
theorem readVm_at (a : Option Addr) (n cap : Nat) (D : List Int) (w : World) (hr : Rd w a D) (hn : n = D.length) (hcap : n ≤ cap) (hu : U64 D) (hn9 : n ≤ 3000) :
  Calls Tryz.prog 98 #[.slice a n cap] w fun x w' => (rdV D = none → x = .returned (.tuple #[vmV 0 none 0 0, .bool false])) ∧ (∀ z, rdV D = some z → ∃ a' c', x = .returned (.tuple #[vmV z.1 a' z.2.length c', .bool true]) ∧ z.2.length ≤ c' ∧ TRd w' a' z.2) ∧ Below w.heap.size w w' := by
 obtain ⟨W, hW⟩ : ∃ W, W = w.alloc (.cells #[.int .i64 0, .slice none 0 0] 119) := ⟨_, rfl⟩;obtain ⟨g, hg⟩ : ∃ g, g = w.heap.size := ⟨_, rfl⟩
 have hb : Below w.heap.size w W := by rw [hW]; exact below_alloc _ _
 have h0 : W.heap[g]? = some (.cells #[.int .i64 0, .slice none 0 0] 119 (0, 0)) := by rw [hW, hg]; exact heap_alloc_new _ _
 have z0 : W.cell? ⟨g, 0, none⟩ = some (.int .i64 0) := by rw [cell_of_heap h0]; rfl
 have z1 : W.cell? ⟨g, 1, none⟩ = some (.slice none 0 0) := by rw [cell_of_heap h0]; rfl
 have f0 : W.frozen? ⟨g, 0, none⟩ = false := frozen_of_heap h0;have f1 : W.frozen? ⟨g, 1, none⟩ = false := frozen_of_heap h0
 have hsz : W.heap.size = g + 1 := by rw [hW, hg]; simp
 have HB := hid hb;have H0 := hid h0;have HW : Hid _ := hW;have HG := hid hg;have hrW := hr.below hb;clear hW hg hb h0 hr
 have fin : ∀ (a : Option Addr) (W2 : World) (k c : Nat) (x : Int) (er : Bool) (tm : Array Value), tm.getD 2 undef = .pointer (some ⟨g, 0, none⟩) → tm.getD 3 undef = .bool er → W2.heap[g]? = some (.cells #[.int .i64 x, .slice a k c] 119 (0, 0)) →
   (results Tryz.f98 tm).run Tryz.prog W2 = .ok (.tuple #[vmV x a k c, .bool er]) W2 := by
  intro a W2 k c x er tm h1 h2 h3;rw [results_cell_tmp rfl, h1, h2];simp only [asAddr, Sem.run_pure, Result.andThen_ok];rw [run_loadVar_row _ g _ _ _ (0, 0) _ h3 Tryz.underlying119 rfl vmSize]
  rfl
 have HFin : Hid _ := fin;clear fin
 have noP : ∀ tm : Array Value, tm.getD 2 undef = .pointer (some ⟨g, 0, none⟩) → tm.getD 3 undef = .bool false → rdV D = none →
   bodyPost Tryz.prog Tryz.f98 (fun x w' => (rdV D = none → x = .returned (.tuple #[vmV 0 none 0 0, .bool false])) ∧ (∀ z, rdV D = some z → ∃ a' c', x = .returned (.tuple #[vmV z.1 a' z.2.length c', .bool true]) ∧ z.2.length ≤ c' ∧ TRd w' a' z.2) ∧ Below w.heap.size w w') Exit.ret ⟨tm, []⟩ ((W.setCell ⟨g, 0, none⟩ (.int .i64 0)).setCell ⟨g, 1, none⟩ (.slice none 0 0)) := by
  intro tm t2 t3 hno;have k1 := heap_set H0.out 0 (.int .i64 0);have k2 := heap_set k1 1 (.slice none 0 0);refine bodyPost_ret (v := .tuple #[vmV 0 none 0 0, .bool false]) (HFin.out none _ 0 0 0 false _ t2 t3 k2) rfl ⟨fun _ => rfl, fun z hz => (by rw [hno] at hz; cases hz), ?_⟩;exact HB.out.trans (((Upd.setCell g 0 W _).trans (Upd.setCell g 1 _ _)).below (by have := HG.out; omega) HB.out.size)
 have HNo : Hid _ := noP;clear noP
 by_cases h2 : n < 2
 ·have g0 : decide ((n : Int) < 2) = true := decide_eq_true (by omega)
  have HN : Hid (rdV D = none) := by
   show _ = _
   match D, hn with
   | [], _ => rfl
   | [x], _ => rfl
   | x :: y :: r, hn => simp at hn; omega
  clear hn hu hn9 hrW
  go_enter Tryz.func98, Tryz.ntmps98
  go_upto_region 1 with fail
  rw [← HW.out, ← HG.out];clear HW;go_wp2;exact HNo.out _ rfl rfl HN.out
 ·obtain ⟨pc, c, t, rfl⟩ : ∃ pc c t, D = pc :: c :: t := by
   match D, hn with
   | [], hn => simp at hn; omega
   | [x], hn => simp at hn; omega
   | x :: y :: r, _ => exact ⟨x, y, r, rfl⟩
  have hnl : n = t.length + 2 := hn;obtain ⟨s, off, rfl, d0⟩ := hrW 0 pc rfl;obtain ⟨_, _, e1, d1⟩ := hrW 1 c rfl;simp only [Option.some.injEq, Addr.mk.injEq, and_true] at e1;obtain ⟨rfl, rfl⟩ := e1;rw [Nat.add_zero] at d0;obtain ⟨p0, p1⟩ := u64_get hu (j := 0) (x := pc) rfl;obtain ⟨q0, q1⟩ := u64_get hu (j := 1) (x := c) rfl;have g0 : decide ((n : Int) < 2) = false := decide_eq_false (by omega)
  have n0 : (0 : Int) < (n : Int) := by omega
  have n1 : (1 : Int) < (n : Int) := by omega
  have hw1 : IntKind.i64.wrap ((n : Int) - 2) = (n : Int) - 2 := by simp [IntKind.wrap, IntKind.bits, IntKind.signed]; omega
  have hw2 : IntKind.u64.wrap ((n : Int) - 2) = (n : Int) - 2 := by simp [IntKind.wrap, IntKind.bits, IntKind.signed]; omega
  have HRd := hid hrW;have HNl := hid hnl
  by_cases hpc : 1048576 < pc
  ·have HN : Hid (rdV (pc :: c :: t) = none) := by show _ = _; rw [rdV, if_pos (Or.inl hpc)]
   have g1 : decide (1048576 < pc) = true := decide_eq_true hpc;clear hn hu hn9 hrW hnl h2 hpc p0 p1 q0 q1
   go_enter Tryz.func98, Tryz.ntmps98
   go_upto_region 1 with fail
   rw [← HW.out, ← HG.out];clear HW;go_wp2;exact HNo.out _ rfl rfl HN.out
  ·have g1 : decide (1048576 < pc) = false := decide_eq_false hpc
   by_cases hc : 32 < c
   ·have HN : Hid (rdV (pc :: c :: t) = none) := by show _ = _; rw [rdV, if_pos (Or.inr (Or.inl hc))]
    have g2 : decide (32 < c) = true := decide_eq_true hc;clear hn hu hn9 hrW hnl h2 hpc p0 p1 q0 q1 hc
    go_enter Tryz.func98, Tryz.ntmps98
    go_upto_region 1 with fail
    rw [← HW.out, ← HG.out];clear HW;go_wp2;exact HNo.out _ rfl rfl HN.out
   ·have g2 : decide (32 < c) = false := decide_eq_false hc
    by_cases hl : (n : Int) - 2 < c
    ·have HN : Hid (rdV (pc :: c :: t) = none) := by show _ = _; rw [rdV, if_pos (Or.inr (Or.inr (by omega)))]
     have g3 : decide ((n : Int) - 2 < c) = true := decide_eq_true hl;clear hn hu hn9 hrW hnl h2 hpc p0 p1 q0 q1 hc hl
     go_enter Tryz.func98, Tryz.ntmps98
     go_upto_region 1 with fail
     rw [← HW.out, ← HG.out];clear HW;go_wp2;exact HNo.out _ rfl rfl HN.out
    ·have g3 : decide ((n : Int) - 2 < c) = false := decide_eq_false hl
     obtain ⟨m, rfl⟩ : ∃ m : Nat, c = (m : Int) := ⟨c.toNat, by omega⟩;obtain ⟨a2, c2, hcut, hc2, hrd⟩ := cut_wl (pc :: (m : Int) :: t) (some ⟨s, off, none⟩) n cap 2 hn (by omega) hcap;obtain ⟨⟨c3, hc3, hcut2⟩, hrd2⟩ := cut_wh t a2 (n - 2) c2 m .u64 (by omega) hc2;have hcut' : ∀ V, (Instr.slice 22 (.slice (some ⟨s, off, none⟩) n cap) (some (.int .i64 2)) none none).run Tryz.prog V = .ok (.slice a2 (n - 2) c2) V := hcut
     have hml : m = (t.take m).length := by rw [List.length_take]; omega
     have hC := fun (q : Nat) => copyOf_at pc a2 m c3 (t.take m) (W.drewN q) ((hrd2 W (hrd W hrW)).below (drewN_below ⟨q, rfl⟩)) hml (by omega)
     have HV : Hid (rdV (pc :: (m : Int) :: t) = some (pc, t.take m)) := by show _ = _; rw [rdV, if_neg (by omega), Int.toNat_natCast]
     have hwp : IntKind.i64.wrap pc = pc := by simp [IntKind.wrap, IntKind.bits, IntKind.signed]; omega
     have HMl := hid hml;generalize n - 2 = n2 at *;clear hn hu hn9 hrW hnl h2 hpc p0 p1 q0 q1 hc hl hcut hrd hrd2 hml
     go_enter Tryz.func98, Tryz.ntmps98
     go_upto_region 1 with fail
     rw [← HW.out, ← HG.out];clear HW
     go_upto_region 3 with fail
     go_quiet (fail)
     go_upto_region 4 with fail
     have e0 : (W.drewN nq).cell? ⟨s, off, none⟩ = some (.int .u64 pc) := d0;have hC1 := hC nq;have k0 : (W.drewN nq).heap[g]? = some (.cells #[.int .i64 0, .slice none 0 0] 119 (0, 0)) := H0.out;have K0 : Hid _ := k0;have HBq : Hid (Below w.heap.size w (W.drewN nq)) := HB.out.trans ((drewN_below ⟨nq, rfl⟩).mono HB.out.size);generalize W.drewN nq = V at *;clear k0 d0 d1 hC z0 z1 f0 f1 hcut' hcut2
     go_wp2_with fail
     refine hC1.mono ?_;rintro x w1 ⟨a', c', rfl, hc', hT, hb1⟩;have k1 := (hb1.block g (lt_of_heap K0.out)).trans K0.out
     have z0 : w1.cell? ⟨g, 0, none⟩ = some (.int .i64 0) := by rw [cell_of_heap k1]; rfl
     have z1 : w1.cell? ⟨g, 1, none⟩ = some (.slice none 0 0) := by rw [cell_of_heap k1]; rfl
     have f0 : w1.frozen? ⟨g, 0, none⟩ = false := frozen_of_heap k1;have f1 : w1.frozen? ⟨g, 1, none⟩ = false := frozen_of_heap k1;have K1 := hid k1;have HB1 : Hid (Below w.heap.size w w1) := HBq.out.trans (hb1.mono HBq.out.size);have HT := hid hT;have HCc := hid hc';clear k1 hT hc' hb1 hC1 e0;go_wp2;have k2 := heap_set K1.out 0 (.int .i64 pc);have k3 := heap_set k2 1 (.slice a' m c');refine bodyPost_ret (v := .tuple #[vmV pc a' m c', .bool true]) (HFin.out a' _ m c' pc true _ rfl rfl k3) rfl ⟨fun h => (by rw [HV.out] at h; cases h), fun z hz => ?_, ?_⟩
     ·rw [HV.out] at hz
      cases hz
      refine ⟨a', c', ?_, ?_, ?_⟩
      ·show _ = Ending.returned (.tuple #[vmV pc a' (t.take m).length c', .bool true])
       rw [← HMl.out]
      ·show (t.take m).length ≤ c'
       rw [← HMl.out];exact HCc.out
      ·exact (HT.out.kept (kw_set K1.out (by decide) _ _)).kept (kw_set k2 (by decide) _ _)
     ·exact HB1.out.trans (((Upd.setCell g 0 w1 _).trans (Upd.setCell g 1 _ _)).below (by have := HG.out; omega) HB1.out.size)
end Sg
namespace Ow
end Ow
namespace Sg
open Ow
theorem SgR.hands {w w' : World} {row : Array Value} {o : Nat} {p : Sg} {h : List Int} (hR : SgR w row o p) (hl : h.length = 15) (hw : KeepW w w') : SgR w' (putA row o (uvs h)) o ⟨h, p.q, p.k⟩ := by
 have hs := hR.size
 have hu : (uvs h).length = 15 := by rw [uvs_len]; exact hl
 obtain ⟨a, c, h1, h2, h3⟩ := hR.stk;refine ⟨by rw [putA_size]; exact hs, fun j hj => ?_, ?_, ?_, ?_, ⟨a, c, ?_, h2, h3.kept hw⟩⟩
 ·rw [putA_in _ _ _ j (by omega) (by omega)]
  show (uvs h)[j]? = some (Value.int .u64 (h.getD j 0))
  unfold uvs;rw [List.getElem?_map, List.getElem?_eq_getElem (by omega), List.getD_eq_getElem?_getD, List.getElem?_eq_getElem (by omega)]
  rfl
 ·rw [putA_out _ _ _ _ (by omega)]; exact hR.pen
 ·rw [putA_out _ _ _ _ (by omega)]; exact hR.inh
 ·rw [putA_out _ _ _ _ (by omega)]; exact hR.pc
 ·rw [putA_out _ _ _ _ (by omega)]; exact h1
theorem putA_same15 {vs : List Value} (o : Nat) (row : Array Value) (h : vs.length = 15) : Same o row (putA row o vs) := ⟨putA_size _ _ _, fun k hk => putA_out vs o row k (by omega)⟩
theorem other_w (x : Int) (h0 : 0 ≤ x) (h1 : x < 18446744073709551616) : bits .andNot .u64 x 65534 = ((x.toNat &&& 18446744073709486081 : Nat) : Int) ∧ ((((x.toNat &&& 18446744073709486081 : Nat) : Int)) != 0) = !okQ x := by
 obtain ⟨q, rfl⟩ : ∃ q : Nat, x = (q : Int) := ⟨x.toNat, by omega⟩;rw [Int.toNat_natCast];exact ⟨u64_andNot_nat q 65534 (by omega) (by decide), other_bits q (by omega)⟩
theorem read_at (b o : Nat) (p0 : Sg) (row : Array Value) (a : Option Addr) (n cap : Nat) (D : List Int) (w : World) (hB : SB w b row) (hR : SgR w row o p0) (hk0 : p0.k = none) (hr : Rd w a D) (hn : n = D.length) (hcap : n ≤ cap) (hu : U64 D) (hn9 : n ≤ 3000) (hne : 0 < n → ∀ g off, a = some ⟨g, off, none⟩ → g ≠ b) :
  Calls Tryz.prog 44 #[.pointer (some ⟨b, o, none⟩), .slice a n cap] w fun x w' => (rd1 D = none → x = .returned (.tuple #[.int .i64 0, .bool false])) ∧ (∀ m p, rd1 D = some (m, p) → x = .returned (.tuple #[.int .i64 (m : Nat), .bool true]) ∧ ∃ row', SB w' b row' ∧ SgR w' row' o p ∧ Same o row row') ∧ Upd b w w' := by
 by_cases h17 : n < 17
 ·have g0 : decide ((n : Int) < 17) = true := decide_eq_true (by omega)
  have HN : Hid (rd1 D = none) := by show _ = _; unfold rd1; rw [if_pos (by omega)]
  clear hB hR hr hn hu hn9 hne hk0
  go_enter Tryz.func44, Tryz.ntmps44
  go_wp2
  go_ret2
  exact ⟨fun _ => rfl, fun m p h => (by rw [HN.out] at h; cases h), Upd.refl _ _⟩
 ·have g0 : decide ((n : Int) < 17) = false := decide_eq_false (by omega)
  obtain ⟨x15, h15⟩ : ∃ x, D[15]? = some x := ⟨D[15]'(by omega), List.getElem?_eq_getElem _⟩;obtain ⟨x16, h16⟩ : ∃ x, D[16]? = some x := ⟨D[16]'(by omega), List.getElem?_eq_getElem _⟩
  have e15 : D.getD 15 0 = x15 := by rw [List.getD_eq_getElem?_getD, h15]; rfl
  have e16 : D.getD 16 0 = x16 := by rw [List.getD_eq_getElem?_getD, h16]; rfl
  obtain ⟨s, off, rfl, d15⟩ := hr 15 x15 h15;obtain ⟨_, _, e1, d16⟩ := hr 16 x16 h16;simp only [Option.some.injEq, Addr.mk.injEq, and_true] at e1;obtain ⟨rfl, rfl⟩ := e1;have hsb := hne (by omega) s off rfl;obtain ⟨p15, q15⟩ := u64_get hu h15;obtain ⟨p16, q16⟩ := u64_get hu h16
  have hl15 : (D.take 15).length = 15 := by rw [List.length_take]; omega
  have hu15 : (uvs (D.take 15)).length = 15 := by rw [uvs_len]; exact hl15
  have hsz := hR.size
  have hcp := fun ty => run_copy_cells (P := Tryz.prog) w 22 22 ty 45 b o 15 15 ⟨s, off, none⟩ n cap (uvs (D.take 15)) Tryz.underlying22 (by kernel_rfl) (by rw [hu15]; exact (Nat.min_eq_right (by omega)).symm)
   (fun j v hv => by
     obtain ⟨x, hx, rfl⟩ := uvs_get hv
     have hj : j < 15 := by have := (List.getElem?_eq_some_iff.1 hx).1; omega
     rw [List.getElem?_take_of_lt hj] at hx;obtain ⟨_, _, e2, hc⟩ := hr j x hx;simp only [Option.some.injEq, Addr.mk.injEq, and_true] at e2;obtain ⟨rfl, rfl⟩ := e2
     have : (⟨s, off, none⟩ : Addr).add j = ⟨s, off + j, none⟩ := by simp [Addr.add]
     rw [this]
     exact hc)
   (fun j hj => by rw [hB.cell, Array.getElem?_eq_getElem (by omega)]; rfl) (fun j hj => hB.free _) (uvs_one _)
  rw [hu15] at hcp;obtain ⟨w1, hw1⟩ : ∃ w1, w1 = w.setCells b o (uvs (D.take 15)) := ⟨_, rfl⟩
  have hu1 : Upd b w w1 := by rw [hw1]; exact upd_sets _ _ _ _
  have hB1 : SB w1 b (putA row o (uvs (D.take 15))) := by rw [hw1]; exact hB.sets _ _ _ _
  have hR1 := hR.hands hl15 (hB.kw hu1);have hs1 := putA_same15 o row hu15;rw [← hw1] at hcp;obtain ⟨row1, hrow1⟩ : ∃ r, r = putA row o (uvs (D.take 15)) := ⟨_, rfl⟩;rw [← hrow1] at hB1 hR1 hs1;have k15 := hu1.block s (by have := cell_lt d15; exact this) hsb;have f15 : w1.cell? ⟨s, off + 15, none⟩ = some (.int .u64 x15) := cell_same d15 k15;have f16 : w1.cell? ⟨s, off + 16, none⟩ = some (.int .u64 x16) := cell_same d16 k15;have c15 := (hB1.cell (o + 15)).trans hR1.pen;have r15 := hB1.free (o + 15);obtain ⟨w2, hw2⟩ : ∃ w2, w2 = w1.setCell ⟨b, o + 15, none⟩ (.int .u64 x15) := ⟨_, rfl⟩
  have hu2 : Upd b w1 w2 := by rw [hw2]; exact Upd.setCell _ _ _ _
  have hB2 : SB w2 b (row1.setIfInBounds (o + 15) (.int .u64 x15)) := by rw [hw2]; exact hB1.set _ _
  have hx15 : ((x15.toNat : Nat) : Int) = x15 := by omega
  have hR2 : SgR w2 (row1.setIfInBounds (o + 15) (.int .u64 x15)) o ⟨D.take 15, x15.toNat, p0.k⟩ := by
   have := hR1.pend x15.toNat (hB1.kw hu2);rw [hx15] at this;exact this
  have hs2 : Same o row (row1.setIfInBounds (o + 15) (.int .u64 x15)) := hs1.trans (Same.set _ _ (by omega));generalize row1.setIfInBounds (o + 15) (.int .u64 x15) = row2 at *
  have hH : Calls Tryz.prog 97 #[.pointer (some ⟨b, o, none⟩), .int .i64 9] w2 fun x w' => x = .returned (.int .u64 ((D.take 15).getD 8 0)) ∧ w' = w2 := handler_at b o 8 ⟨D.take 15, x15.toNat, p0.k⟩ row2 w2 hB2 hR2 (by omega)
  have e8 : (D.take 15).getD 8 0 = D.getD 8 0 := by rw [List.getD_eq_getElem?_getD, List.getD_eq_getElem?_getD, List.getElem?_take_of_lt (by omega)]
  rw [e8] at hH;have f16' : w2.cell? ⟨s, off + 16, none⟩ = some (.int .u64 x16) := cell_same f16 (hu2.block s (by have := cell_lt f16; exact this) hsb);have c15' := (hB2.cell (o + 15)).trans hR2.pen;dsimp only at c15';rw [hx15] at c15';obtain ⟨hbt, hok⟩ := other_w x15 p15 q15;have HU2 : Hid (Upd b w w2) := hu1.trans hu2;have HB2 := hid hB2
  have HR2 : Hid (SgR w2 row2 o ⟨D.take 15, x15.toNat, none⟩) := by rw [← hk0]; exact hR2
  have HS2 := hid hs2;have HW2 := hid hw2
  have hn15 : (15 : Int) < (n : Int) := by omega
  have hn16 : (16 : Int) < (n : Int) := by omega
  have HD : Hid (rd1 D = if D.getD 8 0 ≠ dfl ∨ okQ x15 = false ∨ 1 < x16 then none else if x16 = 0 then some (17, ⟨D.take 15, x15.toNat, none⟩) else (rdV (D.drop 17)).map (fun z => (19 + z.2.length, ⟨D.take 15, x15.toNat, some z⟩))) := by
   show _ = _
   unfold rd1;rw [if_neg (by omega), e15, e16]
  have hrw : Rd w2 (some ⟨s, off, none⟩) D := by
   intro j x hx;obtain ⟨_, _, e2, hc⟩ := hr j x hx;simp only [Option.some.injEq, Addr.mk.injEq, and_true] at e2;obtain ⟨rfl, rfl⟩ := e2;exact ⟨s, off, rfl, cell_same hc ((hu1.trans hu2).block s (by have := cell_lt hc; exact this) hsb)⟩
  have HRw := hid hrw;have HU := hid hu;have HN := hid hn;generalize hq8 : D.getD 8 0 = x8 at *;generalize hqb : (x15.toNat &&& 18446744073709486081 : Nat) = ob at *;clear hB hR hr hn hu hne hk0 h15 h16 e15 e16 d15 d16 hl15 hu15 hw1 hu1 hB1 hR1 hs1 hrow1 k15 hw2 hu2 hB2 hR2 hs2 e8 hq8 hqb hrw hx15 h17 hsz
  go_enter Tryz.func44, Tryz.ntmps44
  go_upto_region 5 with fail
  rw [← HW2.out];clear f15 c15 r15 hcp HW2
  by_cases hbad : x8 ≠ dfl ∨ okQ x15 = false ∨ 1 < x16
  ·have HNo : Hid (rd1 D = none) := by show _ = _; rw [HD.out, if_pos hbad]
   by_cases h8 : x8 = dfl
   ·have g1 : (x8 != 18446744073709551615) = false := by rw [h8]; rfl
    cases hq : okQ x15 with
    | false =>
     rw [hq] at hok;clear hbad h8 hq HD
     go_wp2_with fail
     refine hH.mono ?_;rintro x w3 ⟨rfl, hw⟩;rw [hw];clear hw w3 hH;go_wp2
     go_ret2
     exact ⟨fun _ => rfl, fun m p h => (by rw [HNo.out] at h; cases h), HU2.out⟩
    | true =>
     rw [hq] at hok
     have g2 : decide (1 < x16) = true := decide_eq_true (by
       rcases hbad with h | h | h
       · exact absurd h8 h
       · rw [hq] at h; cases h
       · exact h)
     clear hbad h8 hq HD
     go_wp2_with fail
     refine hH.mono ?_;rintro x w3 ⟨rfl, hw⟩;rw [hw];clear hw w3 hH;go_wp2
     go_ret2
     exact ⟨fun _ => rfl, fun m p h => (by rw [HNo.out] at h; cases h), HU2.out⟩
   ·have g1 : (x8 != 18446744073709551615) = true := bne_iff_ne.2 h8
    clear hbad h8 HD
    go_wp2_with fail
    refine hH.mono ?_;rintro x w3 ⟨rfl, hw⟩;rw [hw];clear hw w3 hH;go_wp2
    go_ret2
    exact ⟨fun _ => rfl, fun m p h => (by rw [HNo.out] at h; cases h), HU2.out⟩
  ·have h8 : x8 = dfl := Classical.byContradiction (fun e => hbad (Or.inl e))
   have hq : okQ x15 = true := by
    cases e : okQ x15 with
    | true => rfl
    | false => exact absurd (Or.inr (Or.inl e)) hbad
   have hm : ¬ 1 < x16 := fun e => hbad (Or.inr (Or.inr e))
   have g1 : (x8 != 18446744073709551615) = false := by rw [h8]; rfl
   have g2 : decide (1 < x16) = false := decide_eq_false hm;rw [hq] at hok
   by_cases hx0 : x16 = 0
   ·have HYes : Hid (rd1 D = some (17, ⟨D.take 15, x15.toNat, none⟩)) := by show _ = _; rw [HD.out, if_neg hbad, if_pos hx0]
    have g3 : (x16 == 0) = true := by rw [hx0]; rfl
    clear hbad h8 hq hm hx0 HD
    go_wp2_with fail
    refine hH.mono ?_;rintro x w3 ⟨rfl, hw⟩;rw [hw];clear hw w3 hH;go_wp2
    go_ret2
    refine ⟨fun h => (by rw [HYes.out] at h; cases h), fun m p h => ?_, HU2.out⟩;rw [HYes.out] at h
    cases h
    exact ⟨rfl, row2, HB2.out, HR2.out, HS2.out⟩
   ·have g3 : (x16 == 0) = false := beq_false_of_ne hx0
    obtain ⟨a2, c2, hcut, hc2, hrd⟩ := cut_wl D (some ⟨s, off, none⟩) n cap 17 HN.out (by omega) hcap;have hcut' : ∀ V, (Instr.slice 22 (.slice (some ⟨s, off, none⟩) n cap) (some (.int .i64 17)) none none).run Tryz.prog V = .ok (.slice a2 (n - 17) c2) V := hcut;have hV := readVm_at a2 (n - 17) c2 (D.drop 17) w2 (hrd w2 HRw.out) (by rw [List.length_drop, ← HN.out]) hc2 (HU.out.drop 17) (by omega)
    have HD2 : Hid (rd1 D = (rdV (D.drop 17)).map (fun z => (19 + z.2.length, ⟨D.take 15, x15.toNat, some z⟩))) := by show _ = _; rw [HD.out, if_neg hbad, if_neg hx0]
    generalize n - 17 = n2 at *;clear hbad h8 hq hm hx0 HD hcut hrd
    go_wp2_with fail
    refine hH.mono ?_;rintro x w3 ⟨rfl, hw⟩;rw [hw];clear hw w3 hH
    go_wp2_with fail
    refine hV.mono ?_;rintro x w3 ⟨hx1, hx2, hb3⟩
    cases hz : rdV (D.drop 17) with
    | none =>
     have hx := hx1 hz
     have HNo : Hid (rd1 D = none) := by show _ = _; rw [HD2.out, hz]; rfl
     have HU3 : Hid (Upd b w w3) := HU2.out.trans (Upd.of_below hb3);subst hx;clear hx1 hx2 hb3 hV hz HD2 hcut';go_wp2
     go_ret2
     refine ⟨fun _ => rfl, fun m p h => (by rw [HNo.out] at h; cases h), HU3.out.trans (Upd.alloc _ _ _)⟩
    | some z =>
     obtain ⟨a', c', hx, hzc, hzT⟩ := hx2 z hz;obtain ⟨pc, st⟩ := z;dsimp only at hx hzc hzT
     have HYes : Hid (rd1 D = some (19 + st.length, ⟨D.take 15, x15.toNat, some (pc, st)⟩)) := by show _ = _; rw [HD2.out, hz]; rfl
     subst hx;obtain ⟨V, hV0⟩ : ∃ V, V = w3.alloc (.cells #[.int .i64 pc, .slice a' st.length c'] 119) := ⟨_, rfl⟩;obtain ⟨q, hq⟩ : ∃ q, q = w3.heap.size := ⟨_, rfl⟩
     have hbV : Below w3.heap.size w3 V := by rw [hV0]; exact below_alloc _ _
     have hB3 := (HB2.out.below hb3).below hbV;have hK3 : KeepW w2 V := (KeepW.below hb3).trans (KeepW.below hbV);have hR3 := HR2.out.kept hK3
     have k0 : V.heap[q]? = some (.cells #[.int .i64 pc, .slice a' st.length c'] 119 (0, 0)) := by rw [hV0, hq]; exact heap_alloc_new _ _
     have y16 := (hB3.cell (o + 16)).trans hR3.inh;obtain ⟨a0, c0, e18, -, -⟩ := hR3.stk;have y17 := (hB3.cell (o + 17)).trans hR3.pc;have y18 := (hB3.cell (o + 18)).trans e18;have z16 := (hB3.drew.cell (o + 16)).trans hR3.inh;have z17 := (hB3.drew.cell (o + 17)).trans hR3.pc;have z18 := (hB3.drew.cell (o + 18)).trans e18;have x16a := hB3.free (o + 16);have x17a := hB3.free (o + 17);have x18a := hB3.free (o + 18);have w16 := hB3.drew.free (o + 16);have w17 := hB3.drew.free (o + 17);have w18 := hB3.drew.free (o + 18)
     have v0 : V.cell? ⟨q, 0, none⟩ = some (.int .i64 pc) := by rw [cell_of_heap k0]; rfl
     have v1 : V.cell? ⟨q, 1, none⟩ = some (.slice a' st.length c') := by rw [cell_of_heap k0]; rfl
     have u0 : V.drew.cell? ⟨q, 0, none⟩ = some (.int .i64 pc) := v0;have u1 : V.drew.cell? ⟨q, 1, none⟩ = some (.slice a' st.length c') := v1
     have hqb : q ≠ b := by have := HB2.out.lt; have := hb3.size; omega
     have HF : Hid (∃ row', SB (((V.drew.setCell ⟨b, o + 16, none⟩ (.bool true)).setCell ⟨b, o + 17, none⟩ (.int .i64 pc)).setCell ⟨b, o + 18, none⟩ (.slice a' st.length c')) b row' ∧ SgR (((V.drew.setCell ⟨b, o + 16, none⟩ (.bool true)).setCell ⟨b, o + 17, none⟩ (.int .i64 pc)).setCell ⟨b, o + 18, none⟩ (.slice a' st.length c')) row' o ⟨D.take 15, x15.toNat, some (pc, st)⟩ ∧ Same o row row') := by
      have hu := upd_three b o V.drew (.bool true) (.int .i64 pc) (.slice a' st.length c');refine ⟨_, hB3.drew.three _ _ _, ?_, HS2.out.trans (same_three o row2 (.bool true) (.int .i64 pc) (.slice a' st.length c'))⟩;have hkd : KeepW V V.drew := KeepW.below (Below.refl V.heap.size V).drew;exact (hR3.kept hkd).three (k := some (pc, st)) a' c' hzc (((hzT.kept (KeepW.below hbV)).kept hkd).kept (hB3.drew.kw hu))
     have HU3 : Hid (Upd b w (((V.drew.setCell ⟨b, o + 16, none⟩ (.bool true)).setCell ⟨b, o + 17, none⟩ (.int .i64 pc)).setCell ⟨b, o + 18, none⟩ (.slice a' st.length c'))) := by
      have hu := upd_three b o V.drew (.bool true) (.int .i64 pc) (.slice a' st.length c');exact ((HU2.out.trans (Upd.of_below hb3)).trans (Upd.of_below hbV)).trans ((Upd.drew b V).trans hu)
     have HV0 : Hid _ := hV0;have HQ := hid hq
     have hqs : IntKind.i64.wrap (19 + (st.length : Int)) = 19 + (st.length : Int) := by
      have : st.length ≤ 32 := by
       match hD : D.drop 17, hz with
       | x :: y :: t, hz =>
        rw [rdV] at hz
        split at hz
        ·cases hz
        ·cases hz; rw [List.length_take]; omega
      simp [IntKind.wrap, IntKind.bits, IntKind.signed]; omega
     rw [show (⟨D.take 15, x15.toNat, none⟩ : Sg).k = none from rfl] at y16 z16;generalize (⟨D.take 15, x15.toNat, none⟩ : Sg).pc = kpc at *;generalize (⟨D.take 15, x15.toNat, none⟩ : Sg).st.length = kl at *;generalize hsl : st.length = sl at *;clear hx1 hx2 hb3 hV hz HD2 hcut' hV0 hbV hB3 hK3 hR3 k0 e18 hq hzT hzc hsl
     go_upto_region 13 with fail
     rw [← HV0.out, ← HQ.out];clear HV0
     go_region
     all_goals
      go_wp2
      go_ret2
      obtain ⟨row', e1, e2, e3⟩ := HF.out;refine ⟨fun h => (by rw [HYes.out] at h; cases h), fun m p h => ?_, HU3.out⟩;rw [HYes.out] at h
      cases h
      exact ⟨by simp, row', e1, e2, e3⟩
end Sg
namespace Ow
end Ow
namespace Sg
open Ow
def Sg.zero : Sg := ⟨List.replicate 15 0, 0, none⟩
theorem flat_get (z : List Value) (L m : Nat) (hz : z.length = L) : ∀ i j, i < m → j < L → ((List.replicate m z).flatten)[i * L + j]? = z[j]? := by
 induction m with
 | zero => intro i j hi; omega
 | succ m ih =>
  intro i j hi hj;rw [List.replicate_succ, List.flatten_cons]
  cases i with
  | zero => rw [Nat.zero_mul, Nat.zero_add, List.getElem?_append_left (by omega)]
  | succ i =>
   have e : (i + 1) * L + j = L + (i * L + j) := by rw [Nat.add_mul]; omega
   rw [e, List.getElem?_append_right (by omega), hz, Nat.add_sub_cancel_left];exact ih i j (by omega) hj
theorem zero_R {w : World} : ∀ i, i < 8 → SgR w srow (i * 19) Sg.zero := by
 intro i hi;have hs := srow_size
 have h1 : ∀ j, j < 19 → srow[i * 19 + j]? = (frow tailS 0)[j]? := fun j hj => by
  unfold srow;rw [List.getElem?_toArray, flat_get _ 19 8 rfl i j hi hj, Array.getElem?_toList]
 refine ⟨by omega, fun j hj => ?_, ?_, ?_, ?_, none, 0, ?_, Nat.le_refl _, TRd.nil _ _⟩
 ·rw [h1 j (by omega)]
  show _ = some (Value.int .u64 ((List.replicate 15 0).getD j 0))
  unfold frow;rw [List.getElem?_toArray, List.replicate_zero, List.nil_append, List.getElem?_append_left (by simp; omega), List.getElem?_replicate, if_pos (by omega), List.getD_eq_getElem?_getD, List.getElem?_replicate, if_pos hj]
  rfl
 ·rw [h1 15 (by omega)]; rfl
 ·rw [h1 16 (by omega)]; rfl
 ·rw [h1 17 (by omega)]; rfl
 ·rw [h1 18 (by omega)]; rfl
def mixed (T : SS) (k : Nat) : SS := fun i => if i < k then T i else Sg.zero
theorem mixed_next (T : SS) (k : Nat) (p : Sg) : (mixed T k).set k p = mixed (T.set k p) (k + 1) := by
 funext i
 unfold mixed SS.set
 by_cases e : i = k
 ·subst e
  rw [if_pos rfl, if_pos (by omega), if_pos rfl]
 ·rw [if_neg e]
  show (if i < k then T i else Sg.zero) = _
  by_cases h : i < k
  ·rw [if_pos h, if_pos (by omega), if_neg e]
  ·rw [if_neg h, if_neg (by omega)]
theorem rd1_len {D : List Int} {m : Nat} {p : Sg} (hu : U64 D) (h : rd1 D = some (m, p)) : m ≤ D.length := (rd1_back hu h).2.1
theorem decode_at (a : Option Addr) (n cap : Nat) (D : List Int) (w : World) (hr : Rd w a D) (hn : n = D.length) (hcap : n ≤ cap) (hu : U64 D) (hn9 : n ≤ 3000) :
  Calls Tryz.prog 17 #[.slice a n cap] w fun x w' => (decS D = none → x = .returned (.tuple #[.pointer none, .int .i64 101])) ∧ (∀ S, decS D = some S → x = .returned (.tuple #[.pointer (some ⟨w.heap.size, 0, none⟩), .int .i64 0]) ∧ SgAt w' w.heap.size S) ∧ Below w.heap.size w w' := by
 have hz := zero_sig
 have HR0 : Hid (∀ w, SgRow w srow (mixed SS.first 0)) := fun w => ⟨srow_size, fun i hi => zero_R i hi⟩
 generalize srow = R at *;have HRd := hid hr;have HU := hid hu;have HN := hid hn;obtain ⟨b, hb⟩ : ∃ b, b = w.heap.size := ⟨_, rfl⟩;have HBb := hid hb;clear hr hu hn
 go_enter Tryz.func17, Tryz.ntmps17
 go_wp2
 have HN0 : Hid (SB (w.alloc (.cells R 124)) b R) := by rw [hb]; exact heap_alloc_new _ _
 have HB1 : Hid (Below w.heap.size w (w.alloc (.cells R 124))) := below_alloc _ _;rw [← hb];generalize w.alloc (.cells R 124) = W at *;clear hz hb
 go_loopw [0, 10] (fun s i wr => ∃ (k : Nat) (ak : Option Addr) (nk ck : Nat) (Dk : List Int) (S : SS) (row : Array Value), k ≤ 8 ∧ i = .int .i64 k ∧ .slice ak nk ck = s ∧ nk = Dk.length ∧ nk ≤ ck ∧ nk ≤ 3000 ∧ Rd w ak Dk ∧ U64 Dk ∧ decS D = rdK S (8 - k) Dk k ∧ SB wr b row ∧ SgRow wr row (mixed S k) ∧ Below w.heap.size w wr) (fun _ i _ => 8 - (intOf i).toNat)
 case atStart => exact ⟨0, a, n, cap, D, SS.first, R, by omega, rfl, rfl, HN.out, hcap, hn9, HRd.out, HU.out, rfl, HN0.out, HR0.out _, HB1.out⟩
 case round =>
  clear HN0 HB1 HRd HU HN hcap hn9 HR0;obtain ⟨k, ak, nk, ck, Dk, S, row, hk, rfl, rfl, hnk, hck, hn9, hRd, hU, hdec, hSB, hSR, hB⟩ := hrel;have HB := hid hB;have HDec := hid hdec;have HRd := hid hRd;have HU := hid hU;have HNk := hid hnk;have HSB := hid hSB;have HSR := hid hSR
  by_cases hlt : k < 8
  ·have i1 : decide ((k : Int) < 8) = true := decide_eq_true (by omega)
   have hki : (k : Int) < 8 := by omega
   have hRk : SgR wr row (k * 19) Sg.zero := by
    have := hSR.at' k hlt;unfold mixed at this
    rwa [if_neg (by omega)] at this
   have hne : 0 < nk → ∀ g off, ak = some ⟨g, off, none⟩ → g ≠ b := fun h0 g off e => by
    obtain ⟨g2, off2, e2, hc⟩ := hRd 0 (Dk[0]'(by omega)) (List.getElem?_eq_getElem (by omega));rw [e] at e2;simp only [Option.some.injEq, Addr.mk.injEq, and_true] at e2;obtain ⟨rfl, rfl⟩ := e2;have h1 : g < w.heap.size := cell_lt hc;have := HBb.out;omega
   have hRe := read_at b (k * 19) Sg.zero row ak nk ck Dk wr hSB hRk rfl (hRd.below (hB.mono (Nat.le_refl _))) hnk hck hU hn9 hne;rw [show 8 - k = (8 - (k + 1)) + 1 by omega] at HDec;clear hB hdec hRd hU hnk hSB hSR hRk hne
   go_wp2_with fail
   refine hRe.mono ?_;rintro x w2 ⟨hx1, hx2, hu2⟩;have HB2 : Hid (Below w.heap.size w w2) := HB.out.trans (hu2.below (by have := HBb.out; omega) HB.out.size);have HK2 : Hid (KeepW wr w2) := HSB.out.kw hu2
   cases hrd : rd1 Dk with
   | none =>
    have hx := hx1 hrd
    have HNN : Hid (decS D = none) := by show _ = _; rw [HDec.out, rdK_none hrd]
    subst hx;clear hx1 hx2 hu2 hRe hrd HDec;go_wp2
    go_ret2
    exact ⟨fun _ => rfl, fun T h => (by rw [HNN.out] at h; cases h), HB2.out⟩
   | some z =>
    obtain ⟨m, p⟩ := z;obtain ⟨hx, row', hB', hR', hS'⟩ := hx2 m p hrd;have hml := rd1_len HU.out hrd
    have HD2 : Hid (decS D = rdK (S.set k p) (8 - (k + 1)) (Dk.drop m) (k + 1)) := by show _ = _; rw [HDec.out, rdK_some hrd]
    subst hx;rw [← HNk.out] at hml;obtain ⟨a2, c2, hcut, hc2, hrd2⟩ := cut_wl Dk ak nk ck m HNk.out hml hck;have HR2 : Hid (Rd w a2 (Dk.drop m)) := hrd2 w HRd.out
    have HL2 : Hid (nk - m = (Dk.drop m).length) := by show _ = _; rw [List.length_drop, ← HNk.out]
    have HSB2 := hid hB'
    have HSR2 : Hid (SgRow w2 row' (mixed (S.set k p) (k + 1))) := by rw [← mixed_next]; exact HSR.out.put hS' hR' HK2.out
    have hn2 : nk - m ≤ 3000 := by omega
    clear hx1 hx2 hu2 hRe hrd HDec hrd2 hB' hR' hS' HB;generalize nk - m = n2 at *;go_wp2;go_roundw
    case rel => exact ⟨k + 1, a2, n2, c2, Dk.drop m, S.set k p, row', by omega, by go_num, rfl, HL2.out, hc2, hn2, HR2.out, HU.out.drop m, HD2.out, HSB2.out, HSR2.out, HB2.out⟩
    case measure => simp [intOf]; omega
  ·have i1 : decide ((k : Int) < 8) = false := decide_eq_false (by omega)
   have hk8 : k = 8 := by omega
   have HA : Hid (SgAt wr b S) := ⟨row, hSB, hSR.ext (fun i hi => by unfold mixed; rw [if_pos (by omega)])⟩;rw [show 8 - k = 0 by omega] at HDec
   by_cases h0 : Dk = []
   ·have HS : Hid (decS D = some S) := by show _ = _; rw [HDec.out, rdK, if_pos h0]
    have hz : nk = 0 := by rw [hnk, h0]; rfl
    clear hB hdec hRd hU hnk hSB hSR h0 HNk HRd HU HDec hk8;subst hz;go_wp2
    go_ret2
    refine ⟨fun h => (by rw [HS.out] at h; cases h), fun T h => ?_, HB.out⟩;rw [HS.out] at h
    cases h
    rw [← HBb.out];exact ⟨rfl, HA.out⟩
   ·have HS : Hid (decS D = none) := by show _ = _; rw [HDec.out, rdK, if_neg h0]
    have hz : nk ≠ 0 := by
     rw [hnk]
     exact fun e => h0 (List.eq_nil_of_length_eq_zero e)
    have g2 : ((nk : Int) == 0) = false := beq_false_of_ne (by omega);have g3 : ((nk : Int) != 0) = true := bne_iff_ne.2 (by omega);clear hB hdec hRd hU hnk hSB hSR h0 HNk HRd HU HDec hk8;go_wp2
    go_ret2
    exact ⟨fun _ => rfl, fun T h => (by rw [HS.out] at h; cases h), HB.out⟩
end Sg
end Go.Proofs.YtinaeifpoljfoaaGreatDoor
