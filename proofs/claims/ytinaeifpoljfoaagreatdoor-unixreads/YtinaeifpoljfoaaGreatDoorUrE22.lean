import Derived.Test.YtinaeifpoljfoaaGreatDoorUrM22TUxM
set_option linter.all false
set_option maxRecDepth 100000
set_option maxHeartbeats 16000000
namespace Go.Proofs.YtinaeifpoljfoaaGreatDoor
open Go.RowKit Go.Lib
structure EncI (f : FuncId) (ok : List Int → Bool) (A : List Int → World → Nat → Prop) : Prop where
 call : ∀ (l : List Int) (w : World) (b : Nat), ok l = true → Fd.U64 l → A l w b → Calls Tryz.prog f #[ptr b] w fun e w' => ∃ a c, e = .returned (.slice a l.length c) ∧ l.length ≤ c ∧ Ow.Rd w' a l ∧ Below w.heap.size w w'
theorem wpList_index_eq {P : Program} {w : World} {ops : Array Oper} {rest : List Oper} {o : Oper} {a : Act} {Q : Exit → Act → World → Prop} (hgd : o.guard = none) (t : TypeId) (x i : Operand) (ho : o.op = .index t x i) (xv iv r : Value) (hx : a.eval x = xv) (hi : a.eval i = iv) (hr : (Instr.index t xv iv).run P w = .ok r w)
  (h : wpList P ops Q rest (a.put o.dst r) w) : wpList P ops Q (o :: rest) a w := by
 refine wpList_plain hgd fun K hK => ?_
 unfold Oper.wp;simp [execOp, ho, hx, hi, hr, Result.andThen];exact hK _ _ h
theorem part_is (W : World) (v0 v1 v2 v3 : Value) : (Instr.index 52 (.agg #[v0, v1, v2, v3]) (.int .i64 0)).run Tryz.prog W = .ok v0 W ∧ (Instr.index 52 (.agg #[v0, v1, v2, v3]) (.int .i64 1)).run Tryz.prog W = .ok v1 W ∧ (Instr.index 52 (.agg #[v0, v1, v2, v3]) (.int .i64 2)).run Tryz.prog W = .ok v2 W ∧ (Instr.index 52 (.agg #[v0, v1, v2, v3]) (.int .i64 3)).run Tryz.prog W = .ok v3 W := ⟨by kernel_rfl, by kernel_rfl, by kernel_rfl, by kernel_rfl⟩
theorem uapp1 {w : World} {B n c : Nat} {a : Option Addr} {D : List Int} (ho : w.ownsRow B 45 1 (.slice a n c) D.length (Ow.uvs D)) (hn : D.length = n) (hB : B ≤ w.heap.size) (hl : n ≤ 10000) (x0 : Int) :
  ∃ a' c' w', (∀ ty, (Builtin.append_ #[22, 22] ty #[.slice a n c, .slice (some ⟨w.heap.size, 0, none⟩) 1 1]).run Tryz.prog (w.alloc (.cells #[.int .u64 x0] 45)) = .ok (.slice a' (n + 1) c') w') ∧ w'.ownsRow B 45 1 (.slice a' (n + 1) c') (D ++ [x0]).length (Ow.uvs (D ++ [x0])) ∧ Below B w w' := by
 obtain ⟨i0, hi0, hzz⟩ := Option.map_eq_some_iff.1 Ow.wordInfo;simp only [Prod.mk.injEq] at hzz;obtain ⟨hz0, hz1, hz2⟩ := hzz;have hbe : Below w.heap.size w (w.alloc (.cells #[.int .u64 x0] 45)) := Ow.below_alloc _ _;have hnew : (w.alloc (.cells #[.int .u64 x0] 45)).heap[w.heap.size]? = some (.cells #[.int .u64 x0] 45) := heap_alloc_new _ _;have ho1 := Ow.ownsRow_below ho hbe
 obtain ⟨g', cap', w', hr', hown, hgrow, _, _⟩ := run_append_lies (P := Tryz.prog) _ 22 0 B 45 i0 _ 1 8 Tryz.underlying22 hi0 hz0 hz1 hz2 rfl (by omega) _ D.length (Ow.uvs D) ho1
  ⟨w.heap.size, 0, none⟩ 1 1 (Ow.uvs [x0]) rfl (fun j x hx => by
    rw [Ow.add0, Nat.zero_add, cell_of_heap hnew, ← hx]
    simp [Ow.uvs]) (Ow.uvs_one _) (by omega) (by unfold maxLen; omega) (by omega) (Nat.le_trans hB hbe.size) _ rfl
 rw [hn] at hr' hown;refine ⟨some ⟨g', 0, none⟩, cap', w', fun ty => hr', ?_, (hbe.mono hB).trans (Ow.below_grown hgrow (Nat.le_trans hB hbe.size) (Ow.ownsRow_low ho1))⟩;rw [List.length_append, Ow.uvs_app, hn];exact hown
theorem uappS {w : World} {B n c m cap : Nat} {a sa : Option Addr} {D E : List Int} (ho : w.ownsRow B 45 1 (.slice a n c) D.length (Ow.uvs D)) (hn : D.length = n) (hB : B ≤ w.heap.size) (hl : n ≤ 20000) (hE : E.length = m) (hm : m ≤ 10000) (hr : Ow.Rd w sa E) :
  ∃ a' c' w', (∀ ty, (Builtin.append_ #[22, 22] ty #[.slice a n c, .slice sa m cap]).run Tryz.prog w = .ok (.slice a' (n + m) c') w') ∧ w'.ownsRow B 45 1 (.slice a' (n + m) c') (D ++ E).length (Ow.uvs (D ++ E)) ∧ Below B w w' := by
 obtain ⟨i0, hi0, hzz⟩ := Option.map_eq_some_iff.1 Ow.wordInfo
 cases hc : E with
 | nil =>
  rw [hc] at hE;obtain rfl : m = 0 := hE.symm;exact ⟨a, c, w, fun ty => Ow.run_append_zero w 22 45 i0 Tryz.underlying22 hi0 a sa n c cap (Ow.own_cap ho) ty, by rw [List.append_nil]; exact ho, Below.refl _ _⟩
 | cons x r =>
  rw [hc] at hE hr;simp only [Prod.mk.injEq] at hzz;obtain ⟨hz0, hz1, hz2⟩ := hzz;obtain ⟨g, off, e, _⟩ := hr 0 x rfl;subst e;have hlen : (x :: r).length = m := hE
  obtain ⟨g', cap', w', hr', hown, hgrow, _, _⟩ := run_append_lies (P := Tryz.prog) _ 22 0 B 45 i0 _ 1 8 Tryz.underlying22 hi0 hz0 hz1 hz2 rfl (by omega) _ D.length (Ow.uvs D) ho
   ⟨g, off, none⟩ m cap (Ow.uvs (x :: r)) (by rw [Ow.uvs_len, Nat.mul_one]; exact hE) (fun j u hu => by
     obtain ⟨y, hy, rfl⟩ := Ow.uvs_get hu;obtain ⟨g2, off2, e2, hc2⟩ := hr j y hy;simp only [Option.some.injEq, Addr.mk.injEq, and_true] at e2;obtain ⟨rfl, rfl⟩ := e2
     have : (⟨g, off, none⟩ : Addr).add j = ⟨g, off + j, none⟩ := by simp [Addr.add]
     rw [this]
     exact hc2) (Ow.uvs_one _) (by rw [List.length_cons] at hlen; omega) (by unfold maxLen; omega) (by omega) hB _ rfl
  rw [hn] at hr' hown;refine ⟨some ⟨g', 0, none⟩, cap', w', fun ty => hr', ?_, Ow.below_grown hgrow hB (Ow.ownsRow_low ho)⟩;rw [List.length_append, Ow.uvs_app, hn, hlen];exact hown
theorem upart {w0 w : World} {a : Option Addr} {n c : Nat} {J : List Int} (ho : w.ownsRow w0.heap.size 45 1 (.slice a n c) J.length (Ow.uvs J)) (hn : J.length = n) (hB : Below w0.heap.size w0 w) (hl : n ≤ 9000) {pa : Option Addr} {m : Nat} (pc : Nat) {l : List Int} (hr : Ow.Rd w0 pa l) (hm : l.length = m) (hm2 : m ≤ 9000) :
  ∃ a1 c1 w1 a2 c2 w2, (∀ ty, (Builtin.append_ #[22, 22] ty #[.slice a n c, .slice (some ⟨w.heap.size, 0, none⟩) 1 1]).run Tryz.prog (w.alloc (.cells #[.int .u64 (m : Int)] 45)) = .ok (.slice a1 (n + 1) c1) w1) ∧ (∀ ty, (Builtin.append_ #[22, 22] ty #[.slice a1 (n + 1) c1, .slice pa m pc]).run Tryz.prog w1 = .ok (.slice a2 (n + 1 + m) c2) w2) ∧ w2.ownsRow w0.heap.size 45 1 (.slice a2 (n + 1 + m) c2) (J ++ ((m : Int) :: l)).length (Ow.uvs (J ++ ((m : Int) :: l))) ∧ (J ++ ((m : Int) :: l)).length = n + 1 + m ∧ Below w0.heap.size w0 w2 := by
 obtain ⟨a1, c1, w1, hr1, ho1, hb1⟩ := uapp1 ho hn hB.size (by omega) (m : Int);have hB1 := hB.trans hb1
 have hn1 : (J ++ [(m : Int)]).length = n + 1 := by rw [List.length_append, hn]; rfl
 obtain ⟨a2, c2, w2, hr2, ho2, hb2⟩ := uappS (cap := pc) ho1 hn1 hB1.size (by omega) hm (by omega) (hr.below hB1)
 have he : (J ++ [(m : Int)]) ++ l = J ++ ((m : Int) :: l) := by simp
 rw [he] at ho2;exact ⟨a1, c1, w1, a2, c2, w2, hr1, hr2, ho2, by rw [List.length_append, List.length_cons, hn, hm]; omega, hB1.trans hb2⟩
def jk (ps : List (List Int)) (k : Nat) : List Int := joinU (ps.take k)
theorem jk_0 (l0 l1 l2 l3 : List Int) : jk [l0, l1, l2, l3] 1 = jk [l0, l1, l2, l3] 0 ++ ((l0.length : Int) :: l0) := by simp [jk, joinU]
theorem jk_1 (l0 l1 l2 l3 : List Int) : jk [l0, l1, l2, l3] 2 = jk [l0, l1, l2, l3] 1 ++ ((l1.length : Int) :: l1) := by simp [jk, joinU]
theorem jk_2 (l0 l1 l2 l3 : List Int) : jk [l0, l1, l2, l3] 3 = jk [l0, l1, l2, l3] 2 ++ ((l2.length : Int) :: l2) := by simp [jk, joinU]
theorem jk_3 (l0 l1 l2 l3 : List Int) : jk [l0, l1, l2, l3] 4 = jk [l0, l1, l2, l3] 3 ++ ((l3.length : Int) :: l3) := by simp [jk, joinU]
theorem jk_le (ps : List (List Int)) (k : Nat) : (jk ps k).length ≤ (joinU ps).length := by
 unfold jk
 revert k
 induction ps with
 | nil => intro k; simp
 | cons m ps ih =>
  intro k
  cases k with
  | zero => simp [joinU]
  | succ k =>
   have := ih k;simp only [List.take_succ_cons, joinU, List.length_cons, List.length_append];omega
theorem parts_built (W : World) (n0 n1 n2 n3 : Nat) (a0 a1 a2 a3 : Option Addr) (c0 c1 c2 c3 : Nat) : (Instr.build 52 ([(0, .slice a0 n0 c0), (1, .slice a1 n1 c1), (2, .slice a2 n2 c2), (3, .slice a3 n3 c3)] : List (Nat × Value)).toArray).run Tryz.prog W = .ok (.agg #[.slice a0 n0 c0, .slice a1 n1 c1, .slice a2 n2 c2, .slice a3 n3 c3]) W := by kernel_rfl
theorem uencode_at {o0 o1 o2 o3 : List Int → Bool} {A0 A1 A2 A3 : List Int → World → Nat → Prop} (h0 : EncI 23 o0 A0) (h1 : EncI 24 o1 A1) (h2 : EncI 25 o2 A2) (h3 : EncI 26 o3 A3) (k0 : ∀ (l : List Int) (w w' : World) (b : Nat), A0 l w b → Below w.heap.size w w' → A0 l w' b) (k1 : ∀ (l : List Int) (w w' : World) (b : Nat), A1 l w b → Below w.heap.size w w' → A1 l w' b) (k2 : ∀ (l : List Int) (w w' : World) (b : Nat), A2 l w b → Below w.heap.size w w' → A2 l w' b) (k3 : ∀ (l : List Int) (w w' : World) (b : Nat), A3 l w b → Below w.heap.size w w' → A3 l w' b) (D l0 l1 l2 l3 : List Int) (b b0 b1 b2 b3 : Nat) (w : World) (hp : pts D = some [l0, l1, l2, l3]) (hok : okU o0 o1 o2 o3 D = true) (hu : Fd.U64 D) (hl : D.length ≤ 3000) (hb : w.heap[b]? = some (.cells #[ptr b0, ptr b1, ptr b2, ptr b3] 60)) (q0 : A0 l0 w b0) (q1 : A1 l1 w b1) (q2 : A2 l2 w b2) (q3 : A3 l3 w b3) :
  Calls Tryz.prog 8 #[ptr b] w fun e w' => ∃ a c, e = .returned (.slice a D.length c) ∧ Ow.Rd w' a D ∧ Below w.heap.size w w' := by
 have hm := pts_u64 hp hu;have hj := pts_join hp hu;unfold okU at hok;rw [hp] at hok;simp only [Bool.and_eq_true] at hok;obtain ⟨ok0, ok1, ok2, ok3⟩ := hok;obtain ⟨n0, hn0⟩ : ∃ n, n = l0.length := ⟨_, rfl⟩
 have hC0 : ∀ W, Below w.heap.size w W → Calls Tryz.prog 23 #[ptr b0] W fun e w' => ∃ a c, e = .returned (.slice a n0 c) ∧ n0 ≤ c ∧ Ow.Rd w' a l0 ∧ Below W.heap.size W w' := fun W hW => by rw [hn0]; exact h0.call l0 W b0 ok0 (hm l0 (by simp)).2 (k0 _ _ _ _ q0 hW)
 have HN0 : Hid (l0.length = n0 ∧ n0 ≤ 9000) := ⟨hn0.symm, by have := (hm l0 (by simp)).1; omega⟩;obtain ⟨n1, hn1⟩ : ∃ n, n = l1.length := ⟨_, rfl⟩
 have hC1 : ∀ W, Below w.heap.size w W → Calls Tryz.prog 24 #[ptr b1] W fun e w' => ∃ a c, e = .returned (.slice a n1 c) ∧ n1 ≤ c ∧ Ow.Rd w' a l1 ∧ Below W.heap.size W w' := fun W hW => by rw [hn1]; exact h1.call l1 W b1 ok1 (hm l1 (by simp)).2 (k1 _ _ _ _ q1 hW)
 have HN1 : Hid (l1.length = n1 ∧ n1 ≤ 9000) := ⟨hn1.symm, by have := (hm l1 (by simp)).1; omega⟩;obtain ⟨n2, hn2⟩ : ∃ n, n = l2.length := ⟨_, rfl⟩
 have hC2 : ∀ W, Below w.heap.size w W → Calls Tryz.prog 25 #[ptr b2] W fun e w' => ∃ a c, e = .returned (.slice a n2 c) ∧ n2 ≤ c ∧ Ow.Rd w' a l2 ∧ Below W.heap.size W w' := fun W hW => by rw [hn2]; exact h2.call l2 W b2 ok2 (hm l2 (by simp)).2 (k2 _ _ _ _ q2 hW)
 have HN2 : Hid (l2.length = n2 ∧ n2 ≤ 9000) := ⟨hn2.symm, by have := (hm l2 (by simp)).1; omega⟩;obtain ⟨n3, hn3⟩ : ∃ n, n = l3.length := ⟨_, rfl⟩
 have hC3 : ∀ W, Below w.heap.size w W → Calls Tryz.prog 26 #[ptr b3] W fun e w' => ∃ a c, e = .returned (.slice a n3 c) ∧ n3 ≤ c ∧ Ow.Rd w' a l3 ∧ Below W.heap.size W w' := fun W hW => by rw [hn3]; exact h3.call l3 W b3 ok3 (hm l3 (by simp)).2 (k3 _ _ _ _ q3 hW)
 have HN3 : Hid (l3.length = n3 ∧ n3 ≤ 9000) := ⟨hn3.symm, by have := (hm l3 (by simp)).1; omega⟩;have HJ := hid hj;have HL := hid hl;have hne := core_eq b
 have hBd : ∀ (a0 a1 a2 a3 : Option Addr) (c0 c1 c2 c3 : Nat) (W : World), _ := fun a0 a1 a2 a3 c0 c1 c2 c3 W => parts_built W n0 n1 n2 n3 a0 a1 a2 a3 c0 c1 c2 c3
 have hS : ∀ W, Below w.heap.size w W → W.cell? ⟨b, 0, none⟩ = some (ptr b0) ∧ W.cell? ⟨b, 1, none⟩ = some (ptr b1) ∧ W.cell? ⟨b, 2, none⟩ = some (ptr b2) ∧ W.cell? ⟨b, 3, none⟩ = some (ptr b3) := fun W hW => by
  have h := (hW.block _ (lt_of_heap hb)).trans hb
  refine ⟨?_, ?_, ?_, ?_⟩ <;> (rw [cell_of_heap h]; rfl)
 clear hm hj ok0 ok1 ok2 ok3 hl hu hp hb q0 q1 q2 q3 h0 h1 h2 h3 k0 k1 k2 k3 hn0 hn1 hn2 hn3
 go_enter Tryz.func8, Tryz.ntmps8
 go_upto_region 4 with fail
 go_cut [28, 29] (fun p i wc => i = .int .i64 0 ∧ ∃ a0 a1 a2 a3 c0 c1 c2 c3, p = .agg #[.slice a0 n0 c0, .slice a1 n1 c1, .slice a2 n2 c2, .slice a3 n3 c3] ∧ (n0 ≤ c0 ∧ Ow.Rd wc a0 l0) ∧ (n1 ≤ c1 ∧ Ow.Rd wc a1 l1) ∧ (n2 ≤ c2 ∧ Ow.Rd wc a2 l2) ∧ (n3 ≤ c3 ∧ Ow.Rd wc a3 l3) ∧ Below w.heap.size w wc)
 case first => as_aux_lemma =>
  refine wp_region_held_drew (S := fun w' => w'.cell? ⟨b, 0, none⟩ = some (ptr b0) ∧ w'.cell? ⟨b, 1, none⟩ = some (ptr b1) ∧ w'.cell? ⟨b, 2, none⟩ = some (ptr b2) ∧ w'.cell? ⟨b, 3, none⟩ = some (ptr b3)) (by kernel_rfl) (hS _ (Di.drewN_below (w := w) ⟨1, rfl⟩)) (fun hHeld => ?_);obtain ⟨v0, hv0⟩ : ∃ V, V = w.drew := ⟨_, rfl⟩
  have H0 : Hid (Below w.heap.size w v0) := by rw [hv0]; exact Di.drewN_below (w := w) ⟨1, rfl⟩
  rw [← hv0] at hHeld ⊢;clear hv0;refine tkz [0, 1, 2, 3, 5, 6, 7, 8, 10, 11, 12, 13, 15, 16, 17, 18, 21] ?_
  iterate 17
   refine tkq (v := ?_) rfl (Or.inl ⟨by kernel_rfl, ?_⟩) ?_
   rotate_left
   ·(intro w hSw; (try dsimp only at hSw); go_simp) <;> with_reducible rfl
   (try simp only [Act.put, lq])
  refine tkw ?_
  refine rdy 4 rfl fun K hK => ?_
  go_simp;refine (hC0 v0 H0.out).mono ?_;rintro e v1 ⟨a0, c0, rfl, hc, hr, hb⟩;have H1 : Hid (Below w.heap.size w v1) := H0.out.trans (hb.mono H0.out.size);have R0_1 : Hid (n0 ≤ c0 ∧ Ow.Rd v1 a0 l0) := ⟨hc, hr⟩;clear hb hc hr;refine hK.out _ _ (hS _ H1.out) (fun hHeld => ?_);clear hK K
  (try simp only [Act.put, lq])
  refine rdy 9 rfl fun K hK => ?_
  go_simp;refine (hC1 v1 H1.out).mono ?_;rintro e v2 ⟨a1, c1, rfl, hc, hr, hb⟩;have H2 : Hid (Below w.heap.size w v2) := H1.out.trans (hb.mono H1.out.size);have R1_2 : Hid (n1 ≤ c1 ∧ Ow.Rd v2 a1 l1) := ⟨hc, hr⟩;have R0_2 : Hid (n0 ≤ c0 ∧ Ow.Rd v2 a0 l0) := ⟨R0_1.out.1, R0_1.out.2.below hb⟩;clear hb hc hr R0_1;refine hK.out _ _ (hS _ H2.out) (fun hHeld => ?_);clear hK K
  (try simp only [Act.put, lq])
  refine rdy 14 rfl fun K hK => ?_
  go_simp;refine (hC2 v2 H2.out).mono ?_;rintro e v3 ⟨a2, c2, rfl, hc, hr, hb⟩;have H3 : Hid (Below w.heap.size w v3) := H2.out.trans (hb.mono H2.out.size);have R2_3 : Hid (n2 ≤ c2 ∧ Ow.Rd v3 a2 l2) := ⟨hc, hr⟩;have R0_3 : Hid (n0 ≤ c0 ∧ Ow.Rd v3 a0 l0) := ⟨R0_2.out.1, R0_2.out.2.below hb⟩;have R1_3 : Hid (n1 ≤ c1 ∧ Ow.Rd v3 a1 l1) := ⟨R1_2.out.1, R1_2.out.2.below hb⟩;clear hb hc hr R0_2 R1_2;refine hK.out _ _ (hS _ H3.out) (fun hHeld => ?_);clear hK K
  (try simp only [Act.put, lq])
  refine rdy 19 rfl fun K hK => ?_
  go_simp;refine (hC3 v3 H3.out).mono ?_;rintro e v4 ⟨a3, c3, rfl, hc, hr, hb⟩;have H4 : Hid (Below w.heap.size w v4) := H3.out.trans (hb.mono H3.out.size);have R3_4 : Hid (n3 ≤ c3 ∧ Ow.Rd v4 a3 l3) := ⟨hc, hr⟩;have R0_4 : Hid (n0 ≤ c0 ∧ Ow.Rd v4 a0 l0) := ⟨R0_3.out.1, R0_3.out.2.below hb⟩;have R1_4 : Hid (n1 ≤ c1 ∧ Ow.Rd v4 a1 l1) := ⟨R1_3.out.1, R1_3.out.2.below hb⟩;have R2_4 : Hid (n2 ≤ c2 ∧ Ow.Rd v4 a2 l2) := ⟨R2_3.out.1, R2_3.out.2.below hb⟩;clear hb hc hr R0_3 R1_3 R2_3;refine hK.out _ _ (hS _ H4.out) (fun hHeld => ?_);clear hK K
  (try simp only [Act.put, lq])
  refine tkv 20 (.agg #[.slice a0 n0 c0, .slice a1 n1 c1, .slice a2 n2 c2, .slice a3 n3 c3]) rfl (yieldsIf_build (by kernel_rfl) 52 [(0, .tmp 12), (1, .tmp 17), (2, .tmp 22), (3, .tmp 27)] rfl [(0, .slice a0 n0 c0), (1, .slice a1 n1 c1), (2, .slice a2 n2 c2), (3, .slice a3 n3 c3)] rfl _ (hBd a0 a1 a2 a3 c0 c1 c2 c3)) ?_
  (try simp only [Act.put, lq])
  refine wpAnyH_done (by kernel_rfl) ?_ _;clear hS hBd hC0 hC1 hC2 hC3
  go_wp2_with fail
  go_meet
  case rel => exact ⟨rfl, a0, a1, a2, a3, c0, c1, c2, c3, rfl, R0_4.out, R1_4.out, R2_4.out, R3_4.out, H4.out⟩
 case rest =>
 obtain ⟨rfl, a0, a1, a2, a3, c0, c1, c2, c3, rfl, r0, r1, r2, r3, hb4⟩ := hcut;obtain ⟨w4, hw4⟩ : ∃ V, V = wc := ⟨_, rfl⟩;rw [← hw4] at r0 r1 r2 r3 hb4 ⊢;have HR0 : Hid (Ow.Rd w4 a0 l0 ∧ n0 ≤ c0) := ⟨r0.2, r0.1⟩;have HR1 : Hid (Ow.Rd w4 a1 l1 ∧ n1 ≤ c1) := ⟨r1.2, r1.1⟩;have HR2 : Hid (Ow.Rd w4 a2 l2 ∧ n2 ≤ c2) := ⟨r2.2, r2.1⟩;have HR3 : Hid (Ow.Rd w4 a3 l3 ∧ n3 ≤ c3) := ⟨r3.2, r3.1⟩;have HB4 := hid hb4;obtain ⟨ps4, hps4⟩ : ∃ p, p = [l0, l1, l2, l3] := ⟨_, rfl⟩;have HP4 := hid hps4
 have HT : Hid (∀ k, (jk ps4 k).length ≤ 3000) := fun k => by
  have h1 := jk_le ps4 k;have h2 := HL.out;rw [HJ.out, ← hps4] at h2;omega
 have hIx := fun W => part_is W (.slice a0 n0 c0) (.slice a1 n1 c1) (.slice a2 n2 c2) (.slice a3 n3 c3)
 clear hw4 wc hS hBd hC0 hC1 hC2 hC3 r0 r1 r2 r3 hb4 hps4
 go_wp2_with fail
 go_loopw [3, 29] (fun s i wr => ∃ (k : Nat) (aa : Option Addr) (nn cc : Nat), k ≤ 4 ∧ s = .slice aa nn cc ∧ i = .int .i64 k ∧ Hid (wr.ownsRow w4.heap.size 45 1 (.slice aa nn cc) (jk ps4 k).length (Ow.uvs (jk ps4 k)) ∧ (jk ps4 k).length = nn ∧ Below w4.heap.size w4 wr ∧ nn ≤ 9000)) (fun _ i _ => 4 - (intOf i).toNat)
 case atStart => exact ⟨0, none, 0, 0, by omega, rfl, rfl, by simpa [jk, joinU, Ow.uvs] using World.ownsRow_nil _ _ _ _, by simp [jk, joinU], Below.refl _ _, by omega⟩
 case round =>
  obtain ⟨k, aa, nn, cc, hk, rfl, rfl, HK⟩ := hrel
  by_cases h4 : k < 4
  ·have g1 : decide ((k : Int) < 4) = true := decide_eq_true (by omega)
   have hk4 : k = 0 ∨ k = 1 ∨ k = 2 ∨ k = 3 := by omega
   clear hk h4
   rcases hk4 with rfl | rfl | rfl | rfl
   ·have hz : ((0 : Nat) : Int) = 0 := rfl
    rw [hz];obtain ⟨a', c', w1, a'', c'', w2, hr1, hr2, ho2, hn2, hb2⟩ := upart HK.out.1 HK.out.2.1 HK.out.2.2.1 HK.out.2.2.2 c0 HR0.out.1 HN0.out.1 HN0.out.2;have HRun1 : Hid _ := hr1;have HRun2 : Hid _ := hr2
    have HKn : Hid (w2.ownsRow w4.heap.size 45 1 (.slice a'' (nn + 1 + n0) c'') (jk ps4 1).length (Ow.uvs (jk ps4 1)) ∧ (jk ps4 1).length = nn + 1 + n0 ∧ Below w4.heap.size w4 w2 ∧ nn + 1 + n0 ≤ 9000) := by
     have he : jk ps4 1 = jk ps4 0 ++ ((n0 : Int) :: l0) := by rw [HP4.out, ← HN0.out.1]; exact jk_0 l0 l1 l2 l3
     rw [he];have hle := HT.out 1;rw [he] at hle;exact ⟨ho2, hn2, hb2, by omega⟩
    have hwl : IntKind.u64.wrap (n0 : Int) = n0 := by
     have := HN0.out.2;simp [IntKind.wrap, IntKind.bits, IntKind.signed];omega
    clear hr1 hr2 ho2 hn2 hb2 HK
    go_upto_region 7 with (refine wpList_index_eq rfl 52 (.tmp 28) (.tmp 29) rfl _ _ _ rfl rfl (hIx _).1 ?_)
    clear hIx
    go_upto_region 8 with (at_builtin; refine Ow.wpList_append_eq rfl _ _ _ rfl _ _ _ rfl rfl HRun1.out ?_)
    clear HRun1
    go_wp2_with (at_builtin; refine Ow.wpList_append_eq rfl _ _ _ rfl _ _ _ rfl rfl HRun2.out ?_)
    clear HRun2;go_roundw
    case rel => exact ⟨1, _, _, _, by omega, rfl, rfl, HKn.out⟩
    case measure => simp [intOf]
   ·have hz : ((1 : Nat) : Int) = 1 := rfl
    rw [hz];obtain ⟨a', c', w1, a'', c'', w2, hr1, hr2, ho2, hn2, hb2⟩ := upart HK.out.1 HK.out.2.1 HK.out.2.2.1 HK.out.2.2.2 c1 HR1.out.1 HN1.out.1 HN1.out.2;have HRun1 : Hid _ := hr1;have HRun2 : Hid _ := hr2
    have HKn : Hid (w2.ownsRow w4.heap.size 45 1 (.slice a'' (nn + 1 + n1) c'') (jk ps4 2).length (Ow.uvs (jk ps4 2)) ∧ (jk ps4 2).length = nn + 1 + n1 ∧ Below w4.heap.size w4 w2 ∧ nn + 1 + n1 ≤ 9000) := by
     have he : jk ps4 2 = jk ps4 1 ++ ((n1 : Int) :: l1) := by rw [HP4.out, ← HN1.out.1]; exact jk_1 l0 l1 l2 l3
     rw [he];have hle := HT.out 2;rw [he] at hle;exact ⟨ho2, hn2, hb2, by omega⟩
    have hwl : IntKind.u64.wrap (n1 : Int) = n1 := by
     have := HN1.out.2;simp [IntKind.wrap, IntKind.bits, IntKind.signed];omega
    clear hr1 hr2 ho2 hn2 hb2 HK
    go_upto_region 7 with (refine wpList_index_eq rfl 52 (.tmp 28) (.tmp 29) rfl _ _ _ rfl rfl (hIx _).2.1 ?_)
    clear hIx
    go_upto_region 8 with (at_builtin; refine Ow.wpList_append_eq rfl _ _ _ rfl _ _ _ rfl rfl HRun1.out ?_)
    clear HRun1
    go_wp2_with (at_builtin; refine Ow.wpList_append_eq rfl _ _ _ rfl _ _ _ rfl rfl HRun2.out ?_)
    clear HRun2;go_roundw
    case rel => exact ⟨2, _, _, _, by omega, rfl, rfl, HKn.out⟩
    case measure => simp [intOf]
   ·have hz : ((2 : Nat) : Int) = 2 := rfl
    rw [hz];obtain ⟨a', c', w1, a'', c'', w2, hr1, hr2, ho2, hn2, hb2⟩ := upart HK.out.1 HK.out.2.1 HK.out.2.2.1 HK.out.2.2.2 c2 HR2.out.1 HN2.out.1 HN2.out.2;have HRun1 : Hid _ := hr1;have HRun2 : Hid _ := hr2
    have HKn : Hid (w2.ownsRow w4.heap.size 45 1 (.slice a'' (nn + 1 + n2) c'') (jk ps4 3).length (Ow.uvs (jk ps4 3)) ∧ (jk ps4 3).length = nn + 1 + n2 ∧ Below w4.heap.size w4 w2 ∧ nn + 1 + n2 ≤ 9000) := by
     have he : jk ps4 3 = jk ps4 2 ++ ((n2 : Int) :: l2) := by rw [HP4.out, ← HN2.out.1]; exact jk_2 l0 l1 l2 l3
     rw [he];have hle := HT.out 3;rw [he] at hle;exact ⟨ho2, hn2, hb2, by omega⟩
    have hwl : IntKind.u64.wrap (n2 : Int) = n2 := by
     have := HN2.out.2;simp [IntKind.wrap, IntKind.bits, IntKind.signed];omega
    clear hr1 hr2 ho2 hn2 hb2 HK
    go_upto_region 7 with (refine wpList_index_eq rfl 52 (.tmp 28) (.tmp 29) rfl _ _ _ rfl rfl (hIx _).2.2.1 ?_)
    clear hIx
    go_upto_region 8 with (at_builtin; refine Ow.wpList_append_eq rfl _ _ _ rfl _ _ _ rfl rfl HRun1.out ?_)
    clear HRun1
    go_wp2_with (at_builtin; refine Ow.wpList_append_eq rfl _ _ _ rfl _ _ _ rfl rfl HRun2.out ?_)
    clear HRun2;go_roundw
    case rel => exact ⟨3, _, _, _, by omega, rfl, rfl, HKn.out⟩
    case measure => simp [intOf]
   ·have hz : ((3 : Nat) : Int) = 3 := rfl
    rw [hz];obtain ⟨a', c', w1, a'', c'', w2, hr1, hr2, ho2, hn2, hb2⟩ := upart HK.out.1 HK.out.2.1 HK.out.2.2.1 HK.out.2.2.2 c3 HR3.out.1 HN3.out.1 HN3.out.2;have HRun1 : Hid _ := hr1;have HRun2 : Hid _ := hr2
    have HKn : Hid (w2.ownsRow w4.heap.size 45 1 (.slice a'' (nn + 1 + n3) c'') (jk ps4 4).length (Ow.uvs (jk ps4 4)) ∧ (jk ps4 4).length = nn + 1 + n3 ∧ Below w4.heap.size w4 w2 ∧ nn + 1 + n3 ≤ 9000) := by
     have he : jk ps4 4 = jk ps4 3 ++ ((n3 : Int) :: l3) := by rw [HP4.out, ← HN3.out.1]; exact jk_3 l0 l1 l2 l3
     rw [he];have hle := HT.out 4;rw [he] at hle;exact ⟨ho2, hn2, hb2, by omega⟩
    have hwl : IntKind.u64.wrap (n3 : Int) = n3 := by
     have := HN3.out.2;simp [IntKind.wrap, IntKind.bits, IntKind.signed];omega
    clear hr1 hr2 ho2 hn2 hb2 HK
    go_upto_region 7 with (refine wpList_index_eq rfl 52 (.tmp 28) (.tmp 29) rfl _ _ _ rfl rfl (hIx _).2.2.2 ?_)
    clear hIx
    go_upto_region 8 with (at_builtin; refine Ow.wpList_append_eq rfl _ _ _ rfl _ _ _ rfl rfl HRun1.out ?_)
    clear HRun1
    go_wp2_with (at_builtin; refine Ow.wpList_append_eq rfl _ _ _ rfl _ _ _ rfl rfl HRun2.out ?_)
    clear HRun2;go_roundw
    case rel => exact ⟨4, _, _, _, by omega, rfl, rfl, HKn.out⟩
    case measure => simp [intOf]
  ·obtain rfl : k = 4 := by omega
   have g1 : decide (((4 : Nat) : Int) < 4) = false := by decide
   have he : jk ps4 4 = D := by rw [HP4.out, HJ.out]; rfl
   rw [he] at HK;obtain ⟨av, cv, hv, -, hrd⟩ := Ow.own_rd HK.out.1;simp only [Value.slice.injEq] at hv;obtain ⟨rfl, hnn, rfl⟩ := hv;have HF : Hid (Ow.Rd wr aa D ∧ Below w.heap.size w wr ∧ nn = D.length) := ⟨hrd, HB4.out.trans (HK.out.2.2.1.mono HB4.out.size), hnn⟩;clear HK hrd hnn he HR0 HR1 HR2 HR3 HN0 HN1 HN2 HN3;go_wp2;go_ret;exact ⟨aa, cc, by rw [HF.out.2.2]; rfl, HF.out.1, HF.out.2.1⟩
end Go.Proofs.YtinaeifpoljfoaaGreatDoor
