/- The reference of package caps: Drop of one that is there. -/
import Derived.Test.YtfnafjddajgahaaGreatRefF8
namespace Go.Proofs.YtfnafjddajgahaaGreat
open Go.RowKit
namespace Ca
set_option linter.unusedVariables false

abbrev ceCells (d : Ce) : Array Value := #[.int .i64 d.no, .int .i64 d.ob, .int .i64 d.env, .int .i64 d.slot, .int .i64 d.x.kind, .int .i64 d.x.id, .int .i64 d.x.len, .int .i64 d.x.rights]
theorem ce_cells {w : World} {g : Nat} {d : Ce} {t : TypeId} (h : w.heap[g]? = some (.cells (ceCells d) t)) :
    (w.cell? ⟨g, 0, none⟩ = some (.int .i64 d.no) ∧ w.cell? ⟨g, 1, none⟩ = some (.int .i64 d.ob)) ∧ w.cell? ⟨g, 4, none⟩ = some (.int .i64 d.x.kind) ∧ w.cell? ⟨g, 5, none⟩ = some (.int .i64 d.x.id) ∧ w.cell? ⟨g, 6, none⟩ = some (.int .i64 d.x.len) := by
  refine ⟨⟨?_, ?_⟩, ?_, ?_, ?_⟩ <;> (rw [cell_of_heap h]; rfl)
/-- Behind the list's new row: what region 5 leaves. -/
theorem RefAt.laid {M c : Nat} {w W w4 : World} {sv v : Value} {L R : List Ce} {last : Int} (h : RefAt M W c sv L last) (hc : c < W.heap.size) (B4 : Below W.heap.size W w4) (hown : w4.ownsRow W.heap.size 99 8 v R.length (ccells R)) (hnil : R = [] → v = .slice none 0 0) :
    RefAt W.heap.size (w4.setCell ⟨c, 0, none⟩ v) c v R last := by
  refine ⟨head0 ((B4.block c hc).trans h.head) _, ownsRow_at hown (fun g hg => Below.heap_setCell _ _ _ _ ?_), hnil⟩
  have := ownsRow_low hown g hg
  show g ≠ c
  omega

theorem addN (g o j : Nat) : (⟨g, o, none⟩ : Addr).add j = ⟨g, o + j, none⟩ := by unfold Addr.add; split <;> simp_all
theorem wrap8k (a : Int) (h0 : 0 ≤ a) (h : a ≤ 65535) : IntKind.i64.wrap a = a := by
  simp [IntKind.wrap, IntKind.bits, IntKind.signed]
  omega
theorem own_le {w : World} {base : Nat} {e : TypeId} {size g n cap : Nat} {xs : List Value} (h : w.ownsRow base e size (.slice (some ⟨g, 0, none⟩) n cap) n xs) : n ≤ cap := by
  rcases h.2 with ⟨e2, _⟩ | ⟨g', cap', cur, e2, _, _, q, _⟩
  · cases e2
  · simp only [Value.slice.injEq] at e2
    omega
theorem elemC : Tryz.prog.elem 63 = 99 := by kernel_rfl
set_option maxRecDepth 100000 in
theorem cut_h (g len cap k : Nat) (hk : k ≤ cap) (V : World) : (Instr.slice 63 (.slice (some ⟨g, 0, none⟩) len cap) none (some (.int .i64 k)) none).run Tryz.prog V = .ok (.slice (some ⟨g, 0, none⟩) k cap) V := by
  obtain ⟨i0, hi0, hzz⟩ := Option.map_eq_some_iff.1 ceInfo
  have hk0 : (k : Int) ≤ (cap : Int) := by omega
  rw [run_slice_h V 63 _ _ _ Tryz.underlying63 _ _ (by omega) hk0]
  simp [sizeOf, typeInfo, elemC, hi0, sliced, Addr.add]
set_option maxRecDepth 100000 in
theorem cut_l (g len cap k : Nat) (hk : k + 1 ≤ len) (V : World) : (Instr.slice 63 (.slice (some ⟨g, 0, none⟩) len cap) (some (.int .i64 ((k : Int) + 1))) none none).run Tryz.prog V = .ok (.slice (some (if cap = k + 1 then ⟨g, 0, none⟩ else ⟨g, (k + 1) * 8, none⟩)) (len - (k + 1)) (cap - (k + 1))) V := by
  obtain ⟨i0, hi0, hzz⟩ := Option.map_eq_some_iff.1 ceInfo
  simp only [Prod.mk.injEq] at hzz
  have hk0 : (k : Int) + 1 ≤ (len : Int) := by omega
  have e : ((k : Int) + 1).toNat = k + 1 := by omega
  rw [run_slice_l V 63 _ _ _ Tryz.underlying63 _ _ (by omega) hk0]
  simp only [sizeOf, typeInfo, elemC, sliced, e, Sem.run_bind, Sem.run_pure]
  by_cases h : cap = k + 1
  · simp [h, hi0]
  · simp [h, hi0, Addr.add, hzz.2.1]
set_option maxRecDepth 100000 in
set_option maxHeartbeats 8000000 in
theorem rdrop_yes (M c : Nat) (sv : Value) (L : List Ce) (last n s : Int) (k : Nat) (d : Ce) (w : World) (h : RefAt M w c sv L last) (hM : M ≤ w.heap.size) (hl : L.length ≤ 900) (hS : RSanes L) (hf : rfindI L n s = (k : Int)) (hd : L[k]? = some d) :
    Calls Tryz.prog 75 #[.pointer (some ⟨c, 0, none⟩), .int .i64 n, .int .i64 s] w fun e w' => e = .returned (.tuple #[.bool (!((L.take k ++ L.drop (k + 1)).any fun c => meetsB c.x d.x)), .int .i64 0]) ∧ ∃ sv', RefAt M w' c sv' ((L.take k ++ L.drop (k + 1)).map (rdropG d)) last ∧ Upd c w w' := by
  obtain ⟨i0, hi0, hzz⟩ := Option.map_eq_some_iff.1 ceInfo
  simp only [Prod.mk.injEq] at hzz
  obtain ⟨hz0, hz1, hz2⟩ := hzz
  have hfa := find_at M c sv L last n s w h (by omega)
  rw [hf] at hfa
  obtain ⟨g, cap, hsv, ⟨⟨d0, d1, d2, d3⟩, d4, d5, d6, d7⟩⟩ := h.at hd
  have c0 := h.c0
  have hkl : k < L.length := (List.getElem?_eq_some_iff.1 hd).1
  have hki : (k : Int) < (L.length : Int) := by omega
  have hcap : L.length ≤ cap := by
    rcases h.own.2 with ⟨_, e3⟩ | ⟨g', cap', cur, e2, _, _, q1, _⟩
    · omega
    · rw [hsv] at e2
      simp only [Value.slice.injEq] at e2
      omega
  have hlt := h.lt
  have hil : (L.length : Int) ≤ 900 := by omega
  obtain ⟨W, hW⟩ : ∃ W, W = w.alloc (.cells (ceCells d) 99) := ⟨_, rfl⟩
  have hbW : Below w.heap.size w W := by rw [hW]; exact below_alloc _ _
  have hRW := h.below hbW
  have HB : Hid _ := hbW
  have HRW : Hid _ := hRW
  have hcW := hRW.lt
  have HBX : Hid (W.heap[w.heap.size]? = some (.cells (ceCells d) 99)) := by rw [hW]; exact heap_alloc_new _ _
  have hwW : w.heap.size < W.heap.size := lt_of_heap HBX.out
  have hfz : W.frozen? ⟨c, 0, none⟩ = false := frozen_of_heap hRW.head
  have hW0 := hRW.c0
  have HSd : Hid (Sane d.x) := hS d (List.mem_of_getElem? hd)
  have HSR : Hid (∀ e ∈ L.take k ++ L.drop (k + 1), Sane e.x) := by
    intro e he
    refine hS e ?_
    rcases List.mem_append.1 he with he | he
    · exact List.mem_of_mem_take he
    · exact List.mem_of_mem_drop he
  have HRL : Hid ((L.take k ++ L.drop (k + 1)).length ≤ 900) := by
    show (L.take k ++ L.drop (k + 1)).length ≤ 900
    rw [List.length_append, List.length_take, List.length_drop]
    omega
  have N1 : Hid (∀ j u, (ccells L)[j]? = some u → W.cell? ((⟨g, 0, none⟩ : Addr).add j) = some u) := by
    have := hRW.own
    rw [hsv] at this
    exact own_news8 this
  have HW : Hid _ := hW
  rw [hW] at hW0 hfz
  clear hW
  subst hsv
  have hs1 := cut_h g L.length cap k (by omega)
  have hs2 := cut_l g L.length cap k (by omega)
  have HA2 : Hid (k + 1 < L.length → (if cap = k + 1 then (⟨g, 0, none⟩ : Addr) else ⟨g, (k + 1) * 8, none⟩) = ⟨g, (k + 1) * 8, none⟩) := fun hk1 => if_neg (by omega)
  generalize (if cap = k + 1 then (⟨g, 0, none⟩ : Addr) else ⟨g, (k + 1) * 8, none⟩) = a2 at *
  have HD : Hid _ := hd
  clear hd hf hS h hRW hbW
  obtain ⟨R, hR⟩ : ∃ R, R = L.take k ++ L.drop (k + 1) := ⟨_, rfl⟩
  rw [← hR] at HSR HRL ⊢
  have HR : Hid _ := hR
  clear hR
  obtain ⟨no, ob, env, slot, ⟨x0, x1, x2, x3⟩⟩ := d
  dsimp only at *
  go_enter Tryz.func75, Tryz.ntmps75
  go_wp2_with fail
  refine hfa.mono ?_
  rintro e w1 ⟨rfl, hw1⟩
  rw [hw1]
  clear hw1 w1 hfa
  go_upto_region 5 with fail
  rw [← HW.out]
  have hfzW : W.frozen? ⟨c, 0, none⟩ = false := frozen_of_heap HRW.out.head
  have hcW0 := HRW.out.c0
  clear hfz hW0 d0 d1 d2 d3 d4 d5 d6 d7 c0
  go_cut [] (fun wc => ∃ sv1, RefAt W.heap.size wc c sv1 R last ∧ Upd c w wc ∧ wc.heap[w.heap.size]? = some (.cells (ceCells ⟨no, ob, env, slot, ⟨x0, x1, x2, x3⟩⟩) 99))
  case first =>
    have HLen : Hid ((ccells (L.take k)).length = k * 8) := by
      show (ccells (L.take k)).length = k * 8
      rw [ccells_len, List.length_take]
      omega
    have HLen2 : Hid ((ccells (L.drop (k + 1))).length = (L.length - (k + 1)) * 8) := by
      show (ccells (L.drop (k + 1))).length = (L.length - (k + 1)) * 8
      rw [ccells_len, List.length_drop]
    have HO1 : Hid (∀ u ∈ ccells (L.take k), u.oneCell' = true) := ccells_one _
    have HO2 : Hid (∀ u ∈ ccells (L.drop (k + 1)), u.oneCell' = true) := ccells_one _
    have HE : Hid (ccells L = ccells (L.take k) ++ (ceRow ⟨no, ob, env, slot, ⟨x0, x1, x2, x3⟩⟩ ++ ccells (L.drop (k + 1)))) := by
      show ccells L = _
      conv => lhs; rw [split_at HD.out]
      rw [ccells_app]
      rfl
    have NA : Hid (∀ j u, (ccells (L.take k))[j]? = some u → W.cell? ((⟨g, 0, none⟩ : Addr).add j) = some u) := by
      intro j u hu
      refine N1.out j u ?_
      rw [HE.out, List.getElem?_append_left ((List.getElem?_eq_some_iff.1 hu).1)]
      exact hu
    have NB : Hid (k + 1 < L.length → ∀ j u, (ccells (L.drop (k + 1)))[j]? = some u → W.cell? (a2.add j) = some u) := by
      intro hk1 j u hu
      have := N1.out ((k + 1) * 8 + j) u (by
        rw [HE.out, List.getElem?_append_right (by rw [HLen.out]; omega), HLen.out, List.getElem?_append_right (by simp; omega)]
        rw [← hu]
        congr 1
        simp
        omega)
      rw [HA2.out hk1]
      rw [addN, Nat.zero_add] at this
      rw [addN]
      exact this
    have hgW : g < W.heap.size := by
      have := HRW.out.own
      exact (this.lt g rfl).2
    have ha2 : k + 1 < L.length → a2.block < W.heap.size := by
      intro hk1
      rw [HA2.out hk1]
      exact hgW
    clear HE N1 HA2
    have HRLn : Hid (R.length = k + (L.length - (k + 1))) := by
      rw [HR.out]
      show (L.take k ++ L.drop (k + 1)).length = _
      rw [List.length_append, List.length_take, List.length_drop]
      omega
    have HRC : Hid (ccells R = ccells (L.take k) ++ ccells (L.drop (k + 1))) := by
      rw [HR.out]
      exact ccells_app _ _
    have fin : ∀ (w4 : World) (v : Value), Below W.heap.size W w4 → w4.ownsRow W.heap.size 99 8 v R.length (ccells R) → (R = [] → v = .slice none 0 0) → ∃ sv1, RefAt W.heap.size (w4.setCell ⟨c, 0, none⟩ v) c sv1 R last ∧ Upd c w (w4.setCell ⟨c, 0, none⟩ v) ∧ (w4.setCell ⟨c, 0, none⟩ v).heap[w.heap.size]? = some (.cells (ceCells ⟨no, ob, env, slot, ⟨x0, x1, x2, x3⟩⟩) 99) := by
      intro w4 v B4 ho hn
      refine ⟨v, HRW.out.laid (w := w) hcW B4 ho hn, ((Upd.of_below HB.out).trans (Upd.of_below B4)).trans (Upd.setCell _ _ _ _), ?_⟩
      rw [Below.heap_setCell _ _ _ _ (by show w.heap.size ≠ c; omega)]
      exact (B4.block _ hwW).trans HBX.out
    have hwr : IntKind.i64.wrap ((k : Int) + 1) = (k : Int) + 1 := wrap8k _ (by omega) (by omega)
    by_cases hk0 : k = 0
    · have HZ1 : Hid (∀ ty, (Builtin.append_ #[63, 63] ty #[.slice none 0 0, .slice (some ⟨g, 0, none⟩) k cap]).run Tryz.prog W.drew = .ok (.slice none 0 0) W.drew) := by
        intro ty
        rw [hk0]
        exact run_append_none _ _ _ i0 Tryz.underlying63 hi0 (some ⟨g, 0, none⟩) cap ty
      have HK0 : Hid _ := hk0
      clear hk0
      by_cases hk1 : k + 1 < L.length
      · go_region_law (first
          | (refine step_append_eq rfl (.const (.slice none 0 0)) (.tmp 32) 63 rfl (.slice none 0 0) (.slice (some ⟨g, 0, none⟩) k cap) (.slice none 0 0) rfl (by rfl) HZ1.out ?_)
          | (refine step_append_lies _ (by rfl) (.tmp 33) (.tmp 40) _ (by rfl) W.heap.size 99 i0 _ 8 64 Tryz.underlying63 hi0 hz0 hz1 hz2 rfl (by omega) (.slice none 0 0) 0 [] (by rfl) (World.ownsRow_nil _ _ _ _)
              a2 (L.length - (k + 1)) (cap - (k + 1)) (ccells (L.drop (k + 1))) (by rfl) HLen2.out (fun j u hu => NB.out hk1 j u hu) HO2.out
              (by omega) (by unfold maxLen; omega) (by omega) (Nat.le_refl _) _ rfl ?_; intro g2 cap2 w4 hown4 hgrow4 hat4 hlt4; have B4 : Below W.heap.size W w4 := (Below.refl W.heap.size W).drew.trans (below_grown (v := .slice none 0 0) (w := W.drew) hgrow4 (Nat.le_refl _) (fun g hg => by simp [Value.ownBlock] at hg)); have hcw := B4.cell (p := ⟨c, 0, none⟩) hcW; have hfw := B4.frozen (p := ⟨c, 0, none⟩) hcW))
        all_goals
          go_wp2_with fail
          go_meet
          case rel =>
            refine fin w4 _ B4 ?_ ?_
            · have e0 : L.take k = [] := by rw [HK0.out]; rfl
              rw [show R.length = L.length - (k + 1) by have := HRLn.out; have := HK0.out; omega, show ccells R = ccells (L.drop (k + 1)) by rw [HRC.out, e0]; rfl]
              simpa only [Nat.zero_add, List.nil_append] using hown4
            · intro e
              have := HRLn.out
              rw [e] at this
              simp at this
              omega
      · have HZ2 : Hid (∀ ty, (Builtin.append_ #[63, 63] ty #[.slice none 0 0, .slice (some a2) (L.length - (k + 1)) (cap - (k + 1))]).run Tryz.prog W.drew = .ok (.slice none 0 0) W.drew) := by
          intro ty
          rw [show L.length - (k + 1) = 0 by omega]
          exact run_append_none _ _ _ i0 Tryz.underlying63 hi0 (some a2) _ ty
        go_region_law (first
          | (refine step_append_eq rfl (.const (.slice none 0 0)) (.tmp 32) 63 rfl (.slice none 0 0) (.slice (some ⟨g, 0, none⟩) k cap) (.slice none 0 0) rfl (by rfl) HZ1.out ?_)
          | (refine step_append_eq rfl (.tmp 33) (.tmp 40) 63 rfl (.slice none 0 0) (.slice (some a2) (L.length - (k + 1)) (cap - (k + 1))) (.slice none 0 0) rfl (by rfl) HZ2.out ?_))
        all_goals
          go_wp2_with fail
          go_meet
          case rel =>
            have hR0 : R = [] := List.eq_nil_of_length_eq_zero (by have := HRLn.out; have := HK0.out; omega)
            refine fin W.drew _ (Below.refl _ _).drew ?_ (fun _ => rfl)
            rw [hR0]
            exact World.ownsRow_nil _ _ _ _
    · by_cases hk1 : k + 1 < L.length
      · go_region_law (first
          | (refine step_append_lies _ (by rfl) (.const (.slice none 0 0)) (.tmp 32) _ (by rfl) W.heap.size 99 i0 _ 8 64 Tryz.underlying63 hi0 hz0 hz1 hz2 rfl (by omega) (.slice none 0 0) 0 [] (by rfl) (World.ownsRow_nil _ _ _ _)
              ⟨g, 0, none⟩ k cap (ccells (L.take k)) (by rfl) HLen.out (fun j u hu => NA.out j u hu) HO1.out
              (by omega) (by unfold maxLen; omega) (by omega) (Nat.le_refl _) _ rfl ?_; intro g1 cap1 w3 hown3 hgrow3 hat3 hlt3; simp only [Nat.zero_add, List.nil_append] at hown3; have B3 : Below W.heap.size W w3 := (Below.refl W.heap.size W).drew.trans (below_grown (v := .slice none 0 0) (w := W.drew) hgrow3 (Nat.le_refl _) (fun g hg => by simp [Value.ownBlock] at hg)); have hc3 := (B3.cell (p := ⟨c, 0, none⟩) hcW).trans hcW0)
          | (refine step_append_lies _ (by rfl) (.tmp 33) (.tmp 40) _ (by rfl) W.heap.size 99 i0 _ 8 64 Tryz.underlying63 hi0 hz0 hz1 hz2 rfl (by omega) (.slice (some ⟨g1, 0, none⟩) k cap1) k (ccells (L.take k)) (by rfl) hown3
              a2 (L.length - (k + 1)) (cap - (k + 1)) (ccells (L.drop (k + 1))) (by rfl) HLen2.out (fun j u hu => (B3.cell (cell_lt (NB.out hk1 j u hu))).trans (NB.out hk1 j u hu)) HO2.out
              (by omega) (by unfold maxLen; omega) (by omega) B3.size _ rfl ?_; intro g2 cap2 w4 hown4 hgrow4 hat4 hlt4; have B4 : Below W.heap.size W w4 := B3.trans (below_grown (v := .slice (some ⟨g1, 0, none⟩) k cap1) hgrow4 B3.size (ownsRow_low hown3)); have hcw := B4.cell (p := ⟨c, 0, none⟩) hcW; have hfw := B4.frozen (p := ⟨c, 0, none⟩) hcW))
        all_goals
          go_wp2_with fail
          go_meet
          case rel =>
            refine fin w4 _ B4 ?_ ?_
            · rw [HRC.out, HRLn.out]
              exact hown4
            · intro e
              have := HRLn.out
              rw [e] at this
              simp at this
              omega
      · have HZ3 : Hid (∀ (V : World) (g1 cap1 : Nat), k ≤ cap1 → ∀ ty, (Builtin.append_ #[63, 63] ty #[.slice (some ⟨g1, 0, none⟩) k cap1, .slice (some a2) (L.length - (k + 1)) (cap - (k + 1))]).run Tryz.prog V = .ok (.slice (some ⟨g1, 0, none⟩) k cap1) V) := by
          intro V g1 cap1 hle ty
          rw [show L.length - (k + 1) = 0 by omega]
          exact run_append_zero V _ _ i0 Tryz.underlying63 hi0 _ _ _ _ _ hle ty
        go_region_law (first
          | (refine step_append_lies _ (by rfl) (.const (.slice none 0 0)) (.tmp 32) _ (by rfl) W.heap.size 99 i0 _ 8 64 Tryz.underlying63 hi0 hz0 hz1 hz2 rfl (by omega) (.slice none 0 0) 0 [] (by rfl) (World.ownsRow_nil _ _ _ _)
              ⟨g, 0, none⟩ k cap (ccells (L.take k)) (by rfl) HLen.out (fun j u hu => NA.out j u hu) HO1.out
              (by omega) (by unfold maxLen; omega) (by omega) (Nat.le_refl _) _ rfl ?_; intro g1 cap1 w3 hown3 hgrow3 hat3 hlt3; simp only [Nat.zero_add, List.nil_append] at hown3; have B3 : Below W.heap.size W w3 := (Below.refl W.heap.size W).drew.trans (below_grown (v := .slice none 0 0) (w := W.drew) hgrow3 (Nat.le_refl _) (fun g hg => by simp [Value.ownBlock] at hg)); have hc3 := (B3.cell (p := ⟨c, 0, none⟩) hcW).trans hcW0)
          | (refine step_append_eq rfl (.tmp 33) (.tmp 40) 63 rfl (.slice (some ⟨g1, 0, none⟩) k cap1) (.slice (some a2) (L.length - (k + 1)) (cap - (k + 1))) (.slice (some ⟨g1, 0, none⟩) k cap1) rfl (by rfl) (HZ3.out w3 g1 cap1 (own_le hown3)) ?_; have hfw := (B3.frozen (p := ⟨c, 0, none⟩) hcW)))
        all_goals
          go_wp2_with fail
          go_meet
          case rel =>
            refine fin w3 _ B3 ?_ ?_
            · have e0 : L.drop (k + 1) = [] := List.drop_eq_nil_of_le (by omega)
              rw [show R.length = k by have := HRLn.out; omega, show ccells R = ccells (L.take k) by rw [HRC.out, e0]; exact List.append_nil _]
              exact hown3
            · intro e
              have := HRLn.out
              rw [e] at this
              simp at this
              omega
  case rest =>
    obtain ⟨sv1, hR1, hU1, hbx1⟩ := hcut
    obtain ⟨a, cp, rfl⟩ := hR1.form
    have HR1 : Hid _ := hR1
    have HU1 : Hid _ := hU1
    have HX1 : Hid _ := hbx1
    have hRLi := HRL.out
    clear hR1 hU1 hbx1 hs1 hs2 HA2 hcW0 hfzW HRW HB HBX HD
    go_wp2
    go_loopw [10, 11] (fun l i wr => ∃ (m : Nat), m ≤ R.length ∧ i = .int .i64 m ∧ l = .bool (mTo ⟨no, ob, env, slot, ⟨x0, x1, x2, x3⟩⟩ R m) ∧ RefAt W.heap.size wr c (.slice a R.length cp) (dTo ⟨no, ob, env, slot, ⟨x0, x1, x2, x3⟩⟩ R m) last ∧ wr.heap[w.heap.size]? = some (.cells (ceCells ⟨no, ob, env, slot, ⟨x0, x1, x2, x3⟩⟩) 99) ∧ Upd c w wr) (fun _ i _ => R.length - (intOf i).toNat)
    case atStart => exact ⟨0, by omega, rfl, rfl, by rw [dTo_zero]; exact HR1.out, HX1.out, HU1.out⟩
    case round =>
      clear HR1 HU1 HX1
      obtain ⟨m, hm, rfl, rfl, hR2, hX2, hU2⟩ := hrel
      have hc0 := hR2.c0
      by_cases hlt2 : m < R.length
      · obtain ⟨e, he⟩ : ∃ e, R[m]? = some e := ⟨R[m], List.getElem?_eq_getElem hlt2⟩
        obtain ⟨st1, st2⟩ := dTo_step (d := ⟨no, ob, env, slot, ⟨x0, x1, x2, x3⟩⟩) he
        have hmt := mTo_step (d := ⟨no, ob, env, slot, ⟨x0, x1, x2, x3⟩⟩) he
        obtain ⟨g1, cap', esv, ⟨⟨e0, e1, e2, e3⟩, e4, e5, e6, e7⟩⟩ := hR2.at st1
        rw [dTo_len] at esv
        simp only [Value.slice.injEq] at esv
        obtain ⟨rfl, _, rfl⟩ := esv
        obtain ⟨⟨q0, q1⟩, q4, q5, q6⟩ := ce_cells hX2
        have hfz1 : wr.frozen? ⟨g1, m * 8 + 1, none⟩ = false := by
          rcases hR2.own.2 with ⟨h1, _⟩ | ⟨g', cap', cur, h1, _, hh, _⟩
          · cases h1
          · simp only [Value.slice.injEq, Option.some.injEq, Addr.mk.injEq] at h1
            obtain ⟨⟨rfl, _⟩, _⟩ := h1
            exact frozen_of_heap hh
        have hg1 : W.heap.size ≤ g1 := ownsRow_low hR2.own g1 rfl
        have HST : Hid _ := st1
        have HHit : Hid (e.ob = no → (dTo ⟨no, ob, env, slot, ⟨x0, x1, x2, x3⟩⟩ R m).set m ⟨e.no, ob, e.env, e.slot, e.x⟩ = dTo ⟨no, ob, env, slot, ⟨x0, x1, x2, x3⟩⟩ R (m + 1)) := fun ho => dTo_hit he ho
        have HMiss : Hid (e.ob ≠ no → dTo ⟨no, ob, env, slot, ⟨x0, x1, x2, x3⟩⟩ R m = dTo ⟨no, ob, env, slot, ⟨x0, x1, x2, x3⟩⟩ R (m + 1)) := fun ho => dTo_miss he ho
        have HNX : Hid (∃ f, (dTo ⟨no, ob, env, slot, ⟨x0, x1, x2, x3⟩⟩ R (m + 1))[m]? = some f ∧ f.x = e.x) := by
          refine ⟨rdropG ⟨no, ob, env, slot, ⟨x0, x1, x2, x3⟩⟩ e, ?_, rdropG_x _ _⟩
          rw [← st2, List.getElem?_set_self (by rw [dTo_len]; exact hlt2)]
        have HSe : Hid (Sane e.x) := HSR.out e (List.mem_of_getElem? he)
        have HMT : Hid _ := hmt
        have HR2 : Hid _ := hR2
        have HX2 : Hid _ := hX2
        have HU2 : Hid _ := hU2
        have hmi : (m : Int) < (R.length : Int) := by omega
        clear he st1 st2 hmt hR2 hX2 hU2
        generalize mTo ⟨no, ob, env, slot, ⟨x0, x1, x2, x3⟩⟩ R m = lb at *
        obtain ⟨eno, eob, eenv, eslot, ⟨y0, y1, y2, y3⟩⟩ := e
        dsimp only at *
        go_upto_region 10 with fail
        go_quiet (fail)
        go_upto_if 63 with fail
        go_cut [] (fun wc => RefAt W.heap.size wc c (.slice (some ⟨g1, 0, none⟩) R.length cp) (dTo ⟨no, ob, env, slot, ⟨x0, x1, x2, x3⟩⟩ R (m + 1)) last ∧ wc.heap[w.heap.size]? = some (.cells (ceCells ⟨no, ob, env, slot, ⟨x0, x1, x2, x3⟩⟩) 99) ∧ Upd c w wc)
        case first =>
          obtain ⟨V, hV⟩ : ∃ V, V = wr.drewN nq := ⟨_, rfl⟩
          rw [← hV]
          have hbV : Below wr.heap.size wr V := by rw [hV]; exact below_drewN (Below.refl _ _) nq
          have HR3 : Hid _ := HR2.out.below hbV
          have HX3 : Hid _ := (hbV.block _ (lt_of_heap HX2.out)).trans HX2.out
          have HU3 : Hid _ := HU2.out.trans (Upd.of_below hbV)
          have p0 := HR3.out.c0
          have p1 := (hbV.cell (cell_lt q1)).trans q1
          have p2 := (hbV.frozen (p := ⟨g1, m * 8 + 1, none⟩) (cell_lt e1)).trans hfz1
          have p3 := (hbV.cell (cell_lt e1)).trans e1
          clear hV hbV q0 q1 q4 q5 q6 e0 e1 e2 e3 e4 e5 e6 e7 hc0 hfz1 HMT HNX HSe HSR HR2 HX2 HU2
          by_cases ho : eob = no
          · have hoo : (eob == no) = true := by simp [ho]
            have HS3 : Hid _ := HR3.out.setOb HST.out ob
            have HH3 : Hid _ := HHit.out ho
            clear HHit HMiss ho
            go_wp2_with fail
            go_region
            all_goals
              go_wp2_with fail
              go_meet
              case rel =>
                refine ⟨?_, ?_, ?_⟩
                · have h1 := HS3.out
                  rw [HH3.out] at h1
                  exact h1.below (Below.refl _ _).drew
                · exact (Below.heap_setCell _ _ _ _ (by show w.heap.size ≠ g1; omega)).trans HX3.out
                · exact (HU3.out.far (by omega) _).trans (Upd.drew _ _)
          · have hoo : (eob == no) = false := by simp [ho]
            have HH3 : Hid _ := HMiss.out ho
            clear HHit HMiss ho
            go_wp2_with fail
            go_meet
            case rel =>
              refine ⟨?_, HX3.out, HU3.out⟩
              rw [← HH3.out]
              exact HR3.out
        case rest =>
          obtain ⟨hR4, hX4, hU4⟩ := hcut
          obtain ⟨f, hf1, hf2⟩ := HNX.out
          obtain ⟨g1', cap', esv, ⟨zz, z4, z5, z6, z7⟩⟩ := hR4.at hf1
          rw [dTo_len] at esv
          simp only [Value.slice.injEq, Option.some.injEq, Addr.mk.injEq] at esv
          obtain ⟨⟨rfl, _⟩, _, rfl⟩ := esv
          rw [hf2] at z4 z5 z6 z7
          dsimp only at z4 z5 z6 z7
          obtain ⟨_, v4, v5, v6⟩ := ce_cells hX4
          dsimp only at v4 v5 v6
          have v0 := hR4.c0
          have HR4 : Hid _ := hR4
          have HX4 : Hid _ := hX4
          have HU4 : Hid _ := hU4
          obtain ⟨s1, s2, s3, s4, s5, s6, s7, s8⟩ := HSe.out
          obtain ⟨t1, t2, t3, t4, t5, t6, t7, t8⟩ := HSd.out
          dsimp only at s1 s2 s3 s4 s5 s6 s7 s8 t1 t2 t3 t4 t5 t6 t7 t8
          have hwlt : w.heap.size < wc.heap.size := lt_of_heap hX4
          clear hf1 hf2 hR4 hX4 hU4 HNX HHit HMiss HST HR2 HX2 HU2 q0 q1 q4 q5 q6 e0 e1 e2 e3 e4 e5 e6 e7 hc0 hfz1 HSR zz f
          go_wp2
          all_goals
            go_roundw
            case rel =>
              refine ⟨m + 1, by omega, by go_num, ?_, HR4.out.below (below_alloc _ _), ((below_alloc _ _).block _ hwlt).trans HX4.out, HU4.out.trans (Upd.of_below (below_alloc _ _))⟩
              rw [HMT.out]
              simp_all [meetsB]
              try omega
            case measure => simp [intOf]; omega
      · obtain rfl : m = R.length := by omega
        have HR2 : Hid _ := hR2
        have HU2 : Hid _ := hU2
        clear hR2 hU2
        go_wp2
        go_ret2
        refine ⟨?_, .slice a R.length cp, ?_, HU2.out⟩
        · unfold mTo
          rw [List.take_of_length_le (Nat.le_refl _)]
          rfl
        · have := HR2.out
          rw [dTo_all] at this
          exact this.mono (by omega)

theorem rdrop_at (M c : Nat) (sv : Value) (L : List Ce) (last n s : Int) (w : World) (h : RefAt M w c sv L last) (hM : M ≤ w.heap.size) (hl : L.length ≤ 900) (hS : RSanes L) :
    Calls Tryz.prog 75 #[.pointer (some ⟨c, 0, none⟩), .int .i64 n, .int .i64 s] w fun e w' => e = .returned (.tuple #[.bool (rdropA L n s), .int .i64 (if rfindI L n s < 0 then 104 else 0)]) ∧ ∃ sv', RefAt M w' c sv' (rdropL L n s) last ∧ Upd c w w' := by
  rcases rfindI_range L n s with e | ⟨k, d, e, hd, hat⟩
  · obtain ⟨e1, e2⟩ := rdrop_none e
    rw [e1, e2, if_pos (by omega)]
    refine (rdrop_no M c sv L last n s w h hl e).mono ?_
    rintro e w' ⟨rfl, rfl⟩
    exact ⟨rfl, sv, h, Upd.refl _ _⟩
  · obtain ⟨e1, e2⟩ := rdrop_some e hd
    rw [e1, e2, if_neg (by omega)]
    exact rdrop_yes M c sv L last n s k d w h hM hl hS e hd
theorem rdropL_sanes {L : List Ce} (h : RSanes L) (n s : Int) : RSanes (rdropL L n s) := by
  unfold rdropL
  split
  · exact h
  · rename_i d hd
    intro c hc
    obtain ⟨e, he, rfl⟩ := List.mem_map.1 hc
    rw [rdropG_x]
    rcases List.mem_append.1 he with he | he
    · exact h e (List.mem_of_mem_take he)
    · exact h e (List.mem_of_mem_drop he)
theorem rgoneL_sanes {L : List Ce} (h : RSanes L) (n : Int) : ∀ k, RSanes (rgoneL L n k)
  | 0 => h
  | k + 1 => rdropL_sanes (rgoneL_sanes h n k) _ _
theorem rgone_at (M c : Nat) (sv : Value) (L : List Ce) (last n : Int) (w : World) (h : RefAt M w c sv L last) (hM : M ≤ w.heap.size) (hl : L.length ≤ 900) (hS : RSanes L) :
    Calls Tryz.prog 85 #[.pointer (some ⟨c, 0, none⟩), .int .i64 n] w fun e w' => e = .returned (.tuple #[]) ∧ ∃ sv', RefAt M w' c sv' (rgoneL L n 64) last ∧ Upd c w w' := by
  have HH : Hid _ := h
  have HS : Hid _ := hS
  clear h hS
  go_enter Tryz.func85, Tryz.ntmps85
  go_wp2
  go_loopw [4] (fun s wr => ∃ (k : Nat), k ≤ 64 ∧ s = .int .i64 (k + 1 : Nat) ∧ (∃ sv', RefAt M wr c sv' (rgoneL L n k) last) ∧ Upd c w wr) (fun s _ => 65 - (intOf s).toNat)
  case atStart => exact ⟨0, by omega, rfl, ⟨sv, HH.out⟩, Upd.refl _ _⟩
  case round =>
    obtain ⟨k, hk, rfl, ⟨sv1, hR⟩, hU⟩ := hrel
    by_cases hlt : k < 64
    · have hd := rdrop_at M c sv1 (rgoneL L n k) last n (k + 1 : Nat) wr hR (Nat.le_trans hM hU.size) (Nat.le_trans (rgoneL_len L n k) hl) (rgoneL_sanes HS.out n k)
      generalize rdropA (rgoneL L n k) n (k + 1 : Nat) = DB at *
      generalize (if rfindI (rgoneL L n k) n (k + 1 : Nat) < 0 then (104 : Int) else 0) = DR at *
      have e : rdropL (rgoneL L n k) n (k + 1 : Nat) = rgoneL L n (k + 1) := rfl
      rw [e] at hd
      clear e
      go_wp2_with (go_at_call 75; refine hd.mono ?_; rintro e w1 ⟨rfl, sv2, hC1, hU1⟩)
      go_roundw
      case rel => exact ⟨k + 1, by omega, by go_num, ⟨sv2, hC1⟩, hU.trans hU1⟩
      case measure => simp [intOf]; omega
    · obtain rfl : k = 64 := by omega
      go_wp2
      go_end0
      exact ⟨rfl, sv1, hR, hU⟩
end Ca
end Go.Proofs.YtfnafjddajgahaaGreat
