/- Package exoipc: add, Send; copies of words; janusref01.Words. -/
import Derived.Test.YtikeknehkoccpaaIpcA
namespace Go.Proofs.Ytikeknehkoccpaa
open Go.RowKit
set_option linter.unusedVariables false

theorem wpList_append_eq {P : Program} {w w' : World} {ops : Array Oper} {rest : List Oper} {o : Oper} {a : Act} {Q : Exit → Act → World → Prop} (hgd : o.guard = none) (s x : Operand) (t : TypeId)
    (ho : o.op = .call { callee := .builtin .append, args := #[s, x], argTypes := #[t, t] }) (sv xv r : Value) (hs : a.eval s = sv) (hx : a.eval x = xv) (hr : ∀ ty, (Builtin.append_ #[t, t] ty #[sv, xv]).run P w = .ok r w')
    (h : wpList P ops Q rest (a.put o.dst r) w') : wpList P ops Q (o :: rest) a w := by
  refine wpList_plain hgd fun K hK => ?_
  unfold Oper.wp
  simp [execOp, ho, resolve, invoke, builtin, hs, hx, hr, Result.andThen]
  exact hK _ _ h
theorem step_append_eq {P : Program} {ops : Array Oper} {o : Oper} {a : Act} {w w' : World} {K : Act → World → Prop} {Q : Exit → Act → World → Prop} {E : Prop} (hgd : o.guard = none) (s x : Operand) (t : TypeId)
    (ho : o.op = .call { callee := .builtin .append, args := #[s, x], argTypes := #[t, t] }) (sv xv r : Value) (hs : a.eval s = sv) (hx : a.eval x = xv) (hr : ∀ ty, (Builtin.append_ #[t, t] ty #[sv, xv]).run P w = .ok r w') (hK : K (a.put o.dst r) w') :
    if Region.wanted o (yielded ops a.tmps) = true then Oper.wp P o a w K Q else E := by
  have hw : Region.wanted o (yielded ops a.tmps) = true := by simp [Region.wanted, hgd]
  rw [if_pos hw]
  unfold Oper.wp execOp
  simp only [ho, resolve, invoke, builtin, Sem.run_bind, Sem.run_pure, Result.andThen_ok, List.map_toArray, List.map_cons, List.map_nil, hs, hx, hr]
  exact hK
theorem run_append_none {P : Program} (w : World) (t e : TypeId) (i : TypeInfo) (ht : P.underlying t = some (.slice e)) (hi : P.info? e = some i) (b : Option Addr) (cap : Nat) (ty : TypeId) :
    (Builtin.append_ #[t, t] ty #[.slice none 0 0, .slice b 0 cap]).run P w = .ok (.slice none 0 0) w := by
  cases b <;> simp [Builtin.append_, run_underlying ht, sizeOf, typeInfo, hi, Builtin.lenOf, Builtin.firstCells, loadCells, loadCellsFrom]

theorem wordInfo : (Try.prog.info? 52).map (fun i => (i.zero, i.size, i.bytes)) = some (some (.int .u64 0), 1, 8) := by kernel_rfl
theorem msgInfo : (Try.prog.info? 64).map (fun i => (i.zero, i.size, i.bytes)) = some (some (.agg #[.int .i64 0, .slice none 0 0]), 2, 32) := by kernel_rfl
theorem add0 (g o j : Nat) : (⟨g, o, none⟩ : Addr).add j = ⟨g, o + j, none⟩ := by unfold Addr.add; split <;> simp_all
/-- Words as cells. -/
def uvs (zs : List Int) : List Value := zs.map (Value.int .u64)
theorem uvs_len (zs : List Int) : (uvs zs).length = zs.length := by simp [uvs]
theorem uvs_one (zs : List Int) : ∀ u ∈ uvs zs, u.oneCell' = true := by
  intro u hu
  simp only [uvs, List.mem_map] at hu
  obtain ⟨x, _, rfl⟩ := hu
  rfl
theorem uvs_get {zs : List Int} {j : Nat} {u : Value} (h : (uvs zs)[j]? = some u) : ∃ x, zs[j]? = some x ∧ u = .int .u64 x := by
  simp only [uvs, List.getElem?_map, Option.map_eq_some_iff] at h
  obtain ⟨a, ha, rfl⟩ := h
  exact ⟨a, ha, rfl⟩
theorem wd_of_own {w : World} {B g cap : Nat} {ws : List Int} (h : w.ownsRow B 52 1 (.slice (some ⟨g, 0, none⟩) ws.length cap) ws.length (uvs ws)) : Wd w (some ⟨g, 0, none⟩) ws := by
  intro j x hx
  obtain ⟨cs, hcs⟩ := own_type h (g := g) rfl
  refine ⟨g, 0, rfl, ⟨cs, _, hcs⟩, ?_⟩
  have := h.cells (g := g) rfl j (.int .u64 x) (by simp [uvs, hx])
  rw [add0] at this
  exact this
/-- append([]uint64(nil), words...): the words in a new place. -/
theorem copy_words {w : World} {a : Option Addr} {ws : List Int} (h : Rd w a ws) (c : Nat) (hl : ws.length * 8 ≤ 140737488355328) :
    ∃ a' cap' w', (∀ ty, (Builtin.append_ #[29, 29] ty #[.slice none 0 0, .slice a ws.length c]).run Try.prog w = .ok (.slice a' ws.length cap') w') ∧ Wd w' a' ws ∧ Below w.heap.size w w' := by
  obtain ⟨i0, hi0, hzz⟩ := Option.map_eq_some_iff.1 wordInfo
  simp only [Prod.mk.injEq] at hzz
  obtain ⟨hz0, hz1, hz2⟩ := hzz
  by_cases hn : ws.length = 0
  · have : ws = [] := List.length_eq_zero_iff.1 hn
    subst this
    exact ⟨none, 0, w, fun ty => run_append_none w _ _ i0 Try.underlying29 hi0 a c ty, Wd.nil _ _, Below.refl _ _⟩
  · obtain ⟨x, hx⟩ : ∃ x, ws[0]? = some x := ⟨ws[0], List.getElem?_eq_getElem (by omega)⟩
    obtain ⟨g, off, rfl, _⟩ := h 0 x hx
    obtain ⟨g', cap', w', hr, hown, hgrow, _, _⟩ := run_append_lies (P := Try.prog) w 29 0 w.heap.size 52 i0 _ 1 8 Try.underlying29 hi0 hz0 hz1 hz2 rfl (by omega) (.slice none 0 0) 0 [] (World.ownsRow_nil _ _ _ _)
      ⟨g, off, none⟩ ws.length c (uvs ws) (by rw [uvs_len]; omega) (fun j u hu => by
        obtain ⟨y, hy, rfl⟩ := uvs_get hu
        obtain ⟨g2, off2, e, hc⟩ := h j y hy
        simp only [Option.some.injEq, Addr.mk.injEq] at e
        obtain ⟨rfl, rfl, _⟩ := e
        rw [add0]
        exact hc) (uvs_one ws) (by omega) (by unfold maxLen; omega) (by omega) (Nat.le_refl _) _ rfl
    rw [Nat.zero_add] at hr hown
    rw [List.nil_append] at hown
    exact ⟨some ⟨g', 0, none⟩, cap', w', fun ty => hr, wd_of_own hown, below_grown hgrow (Nat.le_refl _) (fun k hk => by simp [Value.ownBlock] at hk)⟩

theorem words_same (D : List Int) (a b : Option Addr) (ca cb : Nat) (w : World) (ha : Rd w a D) (hb : Rd w b D) (hl : D.length ≤ 1000000) :
    Calls Try.prog 13 #[.slice a D.length ca, .slice b D.length cb] w fun e w' => e = .returned (.bool true) ∧ Below w.heap.size w w' := by
  have HA : Hid _ := ha
  have HB : Hid _ := hb
  clear ha hb
  go_enter Try.func13, Try.ntmps13
  go_wp2
  go_loopw [5] (fun s wr => ∃ (k : Nat), k ≤ D.length ∧ s = .int .i64 k ∧ Below w.heap.size w wr) (fun s _ => D.length - (intOf s).toNat)
  case atStart => exact ⟨0, by omega, rfl, Below.refl _ _⟩
  case round =>
    obtain ⟨k, hk, rfl, hbw⟩ := hrel
    by_cases hlt : k < D.length
    · obtain ⟨x, hx⟩ : ∃ x, D[k]? = some x := ⟨D[k], List.getElem?_eq_getElem hlt⟩
      obtain ⟨ga, oa, rfl, a0⟩ := (Rd.below HA.out hbw) k x hx
      obtain ⟨gb, ob, rfl, b0⟩ := (Rd.below HB.out hbw) k x hx
      clear hx
      go_wp2_with fail
      go_region
      all_goals
        go_wp2
        go_roundw
        case rel => exact ⟨k + 1, by omega, by go_num, hbw.drew⟩
        case measure => simp [intOf]; omega
    · obtain rfl : k = D.length := by omega
      go_wp2
      go_ret
      exact ⟨rfl, hbw⟩

/-- A message's two cells. -/
abbrev mrow (m : Mg) : Array Value := #[.int .i64 m.fr, .slice m.a m.ws.length m.cap]
set_option maxRecDepth 100000 in
set_option maxHeartbeats 3200000 in
theorem add_at (B b j : Nat) (V : Nat → Value) (Q : QS) (m : Mg) (w : World) (h : IpcIs w B b V Q) (hj : j < 12) (hm : Wd w m.a m.ws) (hl : (Q j).length < 4) (hB : B ≤ w.heap.size) :
    Calls Try.prog 25 #[.pointer (some ⟨b, j, none⟩), .agg (mrow m)] w fun e w' => e = .returned (.tuple #[]) ∧ IpcAt w' B b (Q.set j (Q j ++ [m])) ∧ Tch B w w' := by
  obtain ⟨i0, hi0, hzz⟩ := Option.map_eq_some_iff.1 msgInfo
  simp only [Prod.mk.injEq] at hzz
  obtain ⟨hz0, hz1, hz2⟩ := hzz
  obtain ⟨W, hW⟩ : ∃ W, W = w.alloc (.cells (mrow m) 64) := ⟨_, rfl⟩
  have hbW : Below w.heap.size w W := by rw [hW]; exact below_alloc _ _
  have hsW : w.heap.size + 1 = W.heap.size := by rw [hW]; simp
  have hbox : W.heap[w.heap.size]? = some (.cells (mrow m) 64) := by rw [hW]; exact heap_alloc_new _ _
  have hI := h.below hbW
  have c0 := hI.cell hj
  have f0 := hI.free j
  have hown := hI.own j hj
  have hfar := hI.far hj
  have hbl := hI.ltb
  have e0 : W.cell? ⟨w.heap.size, 0, none⟩ = some (.int .i64 m.fr) := by rw [cell_of_heap hbox]; rfl
  have e1 : W.cell? ⟨w.heap.size, 1, none⟩ = some (.slice m.a m.ws.length m.cap) := by rw [cell_of_heap hbox]; rfl
  obtain ⟨av, cv, hv⟩ := own_slice hown
  have HI : Hid _ := hI
  have HM : Hid (Wd W m.a m.ws) := hm.below hbW
  have HBW : Hid _ := hbW
  have HNB : Hid ((W.alloc (.cells (mrow m) 64)).drew.heap[W.heap.size]? = some (.cells (mrow m) 64)) := by
    show (W.alloc (.cells (mrow m) 64)).heap[W.heap.size]? = _
    exact heap_alloc_new _ _
  have HO : Hid _ := hown
  have HV : Hid _ := hv
  have hBW : B ≤ W.heap.size := by omega
  have hal : (W.alloc (.cells (mrow m) 64)).heap.size = W.heap.size + 1 := by simp
  have HT : Hid (Tch B w W) := Tch.of_below hbW
  rw [hv] at c0 hfar
  clear h hI hbW hbox hown hsW hv hm
  have HQL : Hid ((Q j).length < 4) := hl
  have HW : Hid _ := hW
  clear hW
  obtain ⟨fr, a, cap, ws⟩ := m
  dsimp only [mrow] at *
  generalize hk : (Q j).length = K at *
  have HK : Hid _ := hk
  clear hk
  go_enter Try.func25, Try.ntmps25
  go_wp2_with fail
  rw [← HW.out]
  go_region_law
    ((refine step_append_lies _ (by rfl) _ _ _ (by rfl) B 64 i0 _ 2 32 Try.underlying54 hi0 hz0 hz1 hz2 rfl (by omega) (.slice av K cv) K (mcells (Q j)) (by rfl) (by rw [← HV.out]; exact (World.ownsRow.alloc HO.out _).drew)
        ⟨W.heap.size, 0, none⟩ 1 1 [.int .i64 fr, .slice a ws.length cap] (by rfl) (by rfl) (World.news_of_block (cs := #[.int .i64 fr, .slice a ws.length cap]) (t := 64) (fr := (0, 0)) HNB.out) (by simp [Value.oneCell'])
        (by omega) (by unfold maxLen; omega) (by omega) (by rw [World.drew]; simp; omega) _ rfl ?_; intro gg cap2 w1 hown1 hgrow hat hlt1; have hcw := hgrow.cell_far ⟨b, j, none⟩ (by simp; omega) (Ne.symm hfar); have hfw := hgrow.frozen_far ⟨b, j, none⟩ (by simp; omega) (Ne.symm hfar)))
  all_goals
    go_wp2
    go_end0
    have hg : W.grownBy w1 (V j).ownBlock := by
      rw [HV.out]
      refine grown_trans (grown_below _ ?_) hgrow
      exact (below_alloc W _).drew
    have ho : w1.ownsRow B 64 2 (.slice (some ⟨gg, 0, none⟩) (K + 1) cap2) (Q j ++ [(⟨fr, a, cap, ws⟩ : Mg)]).length (mcells (Q j ++ [(⟨fr, a, cap, ws⟩ : Mg)])) := by
      rw [List.length_append, HK.out, mcells_app]
      exact hown1
    have hwm : ∀ q ∈ Q j ++ [(⟨fr, a, cap, ws⟩ : Mg)], Wd w1 q.a q.ws := by
      intro q hq
      have hwq : Wd W q.a q.ws := by
        rcases List.mem_append.1 hq with hq | hq
        · exact HI.out.wd j hj q hq
        · rw [List.mem_singleton] at hq
          subst hq
          exact HM.out
      refine hwq.keep (fun k cs fr hk => (hg.block k (lt_of_heap hk) (fun e => ?_)).trans hk)
      obtain ⟨cs', hcs⟩ := own_type (HI.out.own j hj) e.symm
      rw [hk] at hcs
      simp only [Option.some.injEq, Obj.cells.injEq] at hcs
      exact absurd hcs.2.1 (by decide)
    refine ⟨rfl, HI.out.put hj hg ho (fun g hgq => ?_) hwm ?_, HT.out.trans (HI.out.tch hj hg)⟩
    · simp only [Value.ownBlock, Option.some.injEq] at hgq
      subst hgq
      rcases hat with q | q
      · exact Or.inl (by rw [HV.out]; exact q)
      · right
        rw [q]
        show W.heap.size ≤ (W.alloc _).heap.size
        rw [World.size_alloc]
        omega
    · rw [List.length_append]
      have := HK.out
      have := HQL.out
      simp
      omega

theorem send_nil (f t : Int) (a : Option Addr) (n cap : Nat) (w : World) :
    Calls Try.prog 9 #[.pointer none, .int .i64 f, .int .i64 t, .slice a n cap] w fun e w' => e = .returned (.int .i64 101) ∧ w' = w := by
  go_enter Try.func9, Try.ntmps9
  go_wp2
  go_ret
  exact ⟨rfl, rfl⟩
theorem send_arg (b : Nat) (f t : Int) (a : Option Addr) (n cap : Nat) (w : World) (h : ¬ (isE f = true ∧ isE t = true ∧ n ≤ 8)) :
    Calls Try.prog 9 #[.pointer (some ⟨b, 0, none⟩), .int .i64 f, .int .i64 t, .slice a n cap] w fun e w' => e = .returned (.int .i64 101) ∧ w' = w := by
  have hne := ptr_eq b
  have hF := isEnv_at f w
  have hT := isEnv_at t w
  cases hf : isE f with
  | false =>
    rw [hf] at hF
    clear h hf hT
    go_enter Try.func9, Try.ntmps9
    go_wp2_with (go_at_call 23; refine hF.mono ?_; rintro e w1 ⟨rfl, hw⟩; rw [hw]; clear hw w1)
    go_ret
    exact ⟨rfl, rfl⟩
  | true =>
    rw [hf] at hF
    cases ht : isE t with
    | false =>
      rw [ht] at hT
      clear h hf ht
      go_enter Try.func9, Try.ntmps9
      go_wp2_with fail
      refine hF.mono ?_
      rintro e w1 ⟨rfl, hw⟩
      rw [hw]
      clear hw w1
      go_wp2_with fail
      refine hT.mono ?_
      rintro e w1 ⟨rfl, hw⟩
      rw [hw]
      clear hw w1
      go_wp2
      go_ret
      exact ⟨rfl, rfl⟩
    | true =>
      rw [ht] at hT
      have hn : 8 < n := by
        rcases Nat.lt_or_ge 8 n with q | q
        · exact q
        · exact absurd ⟨hf, ht, q⟩ h
      have gn : decide ((8 : Int) < (n : Int)) = true := decide_eq_true (by omega)
      clear h hf ht hn
      go_enter Try.func9, Try.ntmps9
      go_wp2_with fail
      refine hF.mono ?_
      rintro e w1 ⟨rfl, hw⟩
      rw [hw]
      clear hw w1
      go_wp2_with fail
      refine hT.mono ?_
      rintro e w1 ⟨rfl, hw⟩
      rw [hw]
      clear hw w1
      go_wp2
      go_ret
      exact ⟨rfl, rfl⟩
set_option maxHeartbeats 1000000 in
theorem send_at (B b : Nat) (Q : QS) (f t : Int) (a : Option Addr) (ws : List Int) (cap : Nat) (w : World) (h : IpcAt w B b Q) (hr : Rd w a ws) (hB : B ≤ w.heap.size) :
    Calls Try.prog 9 #[.pointer (some ⟨b, 0, none⟩), .int .i64 f, .int .i64 t, .slice a ws.length cap] w fun e w' => e = .returned (.int .i64 (sendR Q f t ws.length)) ∧ (∃ a' cap', IpcAt w' B b (sendQ Q f t a' cap' ws)) ∧ Tch B w w' := by
  by_cases hok : isE f = true ∧ isE t = true ∧ ws.length ≤ 8
  · obtain ⟨V, h⟩ := h
    obtain ⟨hf, ht, hn⟩ := hok
    have hne := ptr_eq b
    have hF := isEnv_at f w
    have hT := isEnv_at t w
    rw [hf] at hF
    rw [ht] at hT
    obtain ⟨m, rfl, hm⟩ := isE_nat ht
    have gn : decide ((8 : Int) < (ws.length : Int)) = false := decide_eq_false (by omega)
    have hmi : (m : Int) < 12 := by omega
    have c0 := h.cell hm
    obtain ⟨av, cv, hv⟩ := own_slice (h.own m hm)
    rw [hv] at c0
    have hL := length_at b m (Q m).length cv av w c0
    have HQ : Hid (qat Q m = Q m) := qat_nat Q hm
    by_cases hq : (Q m).length < 4
    · have HR : Hid (sendR Q f m ws.length = 0) := by show _ = _; unfold sendR; rw [if_pos ⟨hf, ht, hn⟩, HQ.out, if_pos hq]
      have g4 : decide ((4 : Int) ≤ ((Q m).length : Int)) = false := decide_eq_false (by omega)
      obtain ⟨a', cap', w', hrun, hwd, hbl⟩ := copy_words hr cap (by omega)
      have HA : Hid _ := add_at B b m V Q ⟨f, a', cap', ws⟩ w' (h.below hbl) hm hwd hq (Nat.le_trans hB hbl.size)
      have HB : Hid _ := hbl
      have HS : Hid (sendQ Q f m a' cap' ws = Q.set m (Q m ++ [⟨f, a', cap', ws⟩])) := by show _ = _; rw [sendQ_yes HR.out, HQ.out]; rfl
      have HRun : Hid _ := hrun
      clear h hr hf ht hn c0 hv hq hwd hbl hrun
      go_enter Try.func9, Try.ntmps9
      go_wp2_with fail
      refine hF.mono ?_
      rintro e w1 ⟨rfl, hw⟩
      rw [hw]
      clear hw w1
      go_wp2_with fail
      refine hT.mono ?_
      rintro e w1 ⟨rfl, hw⟩
      rw [hw]
      clear hw w1
      go_wp2_with fail
      refine hL.mono ?_
      rintro e w1 ⟨rfl, hw⟩
      rw [hw]
      clear hw w1
      go_wp2_with (at_builtin; refine wpList_append_eq rfl _ _ _ rfl _ _ _ rfl rfl HRun.out ?_)
      refine Calls.mono HA.out ?_
      rintro e w1 ⟨rfl, hE, hU⟩
      have HE : Hid _ := hE
      have HU : Hid _ := hU
      clear hE hU
      go_wp2
      go_ret
      refine ⟨by rw [HR.out]; rfl, ⟨a', cap', ?_⟩, (Tch.of_below HB.out).trans HU.out⟩
      rw [HS.out]
      exact HE.out
    · have HR : Hid (sendR Q f m ws.length = 105) := by show _ = _; unfold sendR; rw [if_pos ⟨hf, ht, hn⟩, HQ.out, if_neg hq]
      have g4 : decide ((4 : Int) ≤ ((Q m).length : Int)) = true := decide_eq_true (by omega)
      have HS : Hid (sendQ Q f m none 0 ws = Q) := sendQ_no (by rw [HR.out]; decide)
      have HI : Hid _ := h
      clear h hr hf ht hn c0 hv hq
      go_enter Try.func9, Try.ntmps9
      go_wp2_with fail
      refine hF.mono ?_
      rintro e w1 ⟨rfl, hw⟩
      rw [hw]
      clear hw w1
      go_wp2_with fail
      refine hT.mono ?_
      rintro e w1 ⟨rfl, hw⟩
      rw [hw]
      clear hw w1
      go_wp2_with fail
      refine hL.mono ?_
      rintro e w1 ⟨rfl, hw⟩
      rw [hw]
      clear hw w1
      go_wp2
      go_ret
      refine ⟨by rw [HR.out]; rfl, ⟨none, 0, ?_⟩, Tch.refl _ _⟩
      rw [HS.out]
      exact ⟨V, HI.out⟩
  · have hR : sendR Q f t ws.length = 101 := if_neg hok
    refine (send_arg b f t a ws.length cap w hok).mono ?_
    rintro e w' ⟨rfl, rfl⟩
    refine ⟨by rw [hR], ⟨none, 0, ?_⟩, Tch.refl _ _⟩
    rw [sendQ_no (by rw [hR]; decide)]
    exact h
end Go.Proofs.Ytikeknehkoccpaa
