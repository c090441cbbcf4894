/- Package exoipc: Recv, drop, Gone, From. -/
import Derived.Test.YtikeknehkoccpaaIpcD
import Derived.OwnWalk
namespace Go.Proofs.Ytikeknehkoccpaa
open Go.RowKit
set_option linter.unusedVariables false

theorem recv_nil (n : Int) (w : World) :
    Calls Try.prog 11 #[.pointer none, .int .i64 n] w fun e w' => e = .returned (.tuple #[.int .i64 0, .slice none 0 0, .bool false]) ∧ w' = w := by
  go_enter Try.func11, Try.ntmps11
  go_wp2
  go_ret3
  exact ⟨rfl, rfl⟩
set_option maxRecDepth 100000 in
set_option maxHeartbeats 2000000 in
theorem recv_at (B b : Nat) (Q : QS) (n : Int) (w : World) (h : IpcAt w B b Q) :
    Calls Try.prog 11 #[.pointer (some ⟨b, 0, none⟩), .int .i64 n] w fun e w' => e = .returned (.tuple #[.int .i64 (recvF (qat Q n)), recvV (qat Q n), .bool (recvB (qat Q n))]) ∧ IpcAt w' B b (recvQ Q n) ∧ Tch B w w' := by
  obtain ⟨V, h⟩ := h
  have hne := ptr_eq b
  have hI := isEnv_at n w
  cases hn : isE n with
  | false =>
    have HQ : Hid (qat Q n = []) := qat_no Q hn
    have HR : Hid (recvQ Q n = Q) := by show _ = _; unfold recvQ; rw [hn]; rfl
    rw [hn] at hI
    have HI : Hid _ := h
    clear h hn
    go_enter Try.func11, Try.ntmps11
    go_wp2_with (go_at_call 23; refine hI.mono ?_; rintro e w1 ⟨rfl, hw⟩; rw [hw]; clear hw w1)
    go_ret3
    exact ⟨by rw [HQ.out]; rfl, by rw [HR.out]; exact ⟨V, HI.out⟩, Tch.refl _ _⟩
  | true =>
    obtain ⟨k, rfl, hk⟩ := isE_nat hn
    have HQ : Hid (qat Q k = Q k) := qat_nat Q hk
    have HR : Hid (recvQ Q k = Q.set k (Q k).tail) := by show _ = _; unfold recvQ; rw [hn]; rfl
    have hki : (k : Int) < 12 := by omega
    rw [hn] at hI
    clear hn
    cases hq : Q k with
    | nil =>
      have hT := take_no B b k V Q w h hk hq
      rw [hq] at HQ HR
      have HI : Hid _ := h
      have HS : Hid (Q.set k [] = Q) := by
        show _ = _
        funext i
        by_cases e : i = k
        · subst e; rw [QS.set_same, hq]
        · rw [QS.set_other _ _ _ _ e]
      clear h hq
      go_enter Try.func11, Try.ntmps11
      go_wp2_with fail
      refine hI.mono ?_
      rintro e w1 ⟨rfl, hw⟩
      rw [hw]
      clear hw w1
      go_wp2_with fail
      refine hT.mono ?_
      rintro e w1 ⟨rfl, hb⟩
      have HB : Hid _ := hb
      clear hb
      go_wp2_with fail
      go_region
      all_goals
        go_wp2
        go_ret3
        refine ⟨by rw [HQ.out]; rfl, ?_, Tch.of_below (HB.out.trans ((below_alloc _ _).drew.mono HB.out.size))⟩
        rw [HR.out]
        show IpcAt _ _ _ (Q.set k [])
        rw [HS.out]
        exact ⟨V, (HI.out.below HB.out).below (below_alloc _ _).drew⟩
    | cons m R =>
      have hT := take_yes B b k V Q m R w h hk hq
      rw [hq] at HQ HR
      clear h hq
      unfold mrow at hT
      go_enter Try.func11, Try.ntmps11
      go_wp2_with fail
      refine hI.mono ?_
      rintro e w1 ⟨rfl, hw⟩
      rw [hw]
      clear hw w1
      go_wp2_with fail
      refine hT.mono ?_
      rintro e w1 ⟨rfl, hA, hU⟩
      have HA : Hid _ := hA
      have HU : Hid _ := hU
      clear hA hU
      go_wp2_with fail
      go_region
      all_goals
        go_wp2
        go_ret3
        refine ⟨by rw [HQ.out]; rfl, ?_, HU.out.trans (Tch.of_below (below_alloc _ _).drew)⟩
        rw [HR.out]
        exact IpcAt.below HA.out (below_alloc _ _).drew

set_option maxHeartbeats 1000000 in
theorem drop_at (B b j : Nat) (Q : QS) (pb : Nat) (n : Int) (w : World) (h : IpcAt w B b Q) (hj : j < 12) (hp : w.heap[pb]? = some (.cells #[.int .i64 n] 3)) :
    Calls Try.prog 28 #[.pointer (some ⟨b, j, none⟩), dropF pb] w fun e w' => e = .returned (.tuple #[]) ∧ IpcAt w' B b (Q.set j (dropM n (Q j))) ∧ Tch B w w' := by
  obtain ⟨V, h⟩ := h
  have c0 := h.cell hj
  have hl := h.len j hj
  obtain ⟨av, cv, hv⟩ := own_slice (h.own j hj)
  have hown := h.own j hj
  have hD := deleteFunc_at hown (by omega) pb n hp
  rw [hv] at c0 hD
  have HI : Hid _ := h
  have HV : Hid _ := hv
  have HL : Hid _ := hl
  have hfar := h.far hj
  rw [hv] at hfar
  have hbl := h.ltb
  clear h hv hown hp hl
  unfold dropF at hD ⊢
  go_enter Try.func28, Try.ntmps28
  go_wp2_with fail
  refine hD.mono ?_
  rintro o w1 ⟨a1, c1, rfl, hown1, hgrow, hat⟩
  have e4 := hgrow.cell_far ⟨b, j, none⟩ hbl (Ne.symm hfar)
  rw [c0] at e4
  have e5 := hgrow.frozen_far ⟨b, j, none⟩ hbl (Ne.symm hfar)
  rw [HI.out.free j] at e5
  have HO : Hid _ := hown1
  have HG : Hid _ := hgrow
  have HA : Hid _ := hat
  clear hown1 hgrow hat c0
  go_wp2
  go_end0
  have hg : w.grownBy w1 (V j).ownBlock := by rw [HV.out]; exact HG.out
  refine ⟨rfl, HI.out.put hj hg HO.out (fun g' hg' => Or.inl (by rw [HV.out]; exact HA.out g' hg')) (fun q hq => ?_) (Nat.le_trans (dropM_len _ _) HL.out), HI.out.tch hj hg⟩
  refine (HI.out.wd j hj q (dropM_mem hq)).keep (fun k cs fr hk => ?_)
  refine (hg.block k (lt_of_heap hk) (fun e => ?_)).trans hk
  obtain ⟨cs', hcs⟩ := own_type (HI.out.own j hj) e.symm
  rw [hk] at hcs
  simp only [Option.some.injEq, Obj.cells.injEq] at hcs
  exact absurd hcs.2.1 (by decide)

theorem gone_nil (n : Int) (w : World) :
    Calls Try.prog 14 #[.pointer none, .int .i64 n] w fun e w' => e = .returned (.tuple #[]) ∧ Below w.heap.size w w' := by
  go_enter Try.func14, Try.ntmps14
  go_wp2
  (try simp only [Exit.inBlock, Exit.then])
  refine bodyPost_ret (results_none rfl _ _ _) rfl ?_
  exact ⟨rfl, below_alloc _ _⟩
set_option maxRecDepth 100000 in
set_option maxHeartbeats 2000000 in
theorem gone_at (B b : Nat) (Q : QS) (n : Int) (w : World) (h : IpcAt w B b Q) :
    Calls Try.prog 14 #[.pointer (some ⟨b, 0, none⟩), .int .i64 n] w fun e w' => e = .returned (.tuple #[]) ∧ IpcAt w' B b (goneQ Q n) ∧ Tch B w w' := by
  have hne := ptr_eq b
  obtain ⟨W, hW⟩ : ∃ W, W = w.alloc (.cells #[.int .i64 n] 3) := ⟨_, rfl⟩
  have hbW : Below w.heap.size w W := by rw [hW]; exact below_alloc _ _
  have HBX : Hid (W.heap[w.heap.size]? = some (.cells #[.int .i64 n] 3)) := by show _ = _; rw [hW]; exact heap_alloc_new _ _
  have x0 : W.cell? ⟨w.heap.size, 0, none⟩ = some (.int .i64 n) := by rw [cell_of_heap HBX.out]; rfl
  have hI := isEnv_at n W
  have hA := h.below hbW
  have HB : Hid _ := hbW
  have hbl := h.ltb
  have hnb : b ≠ w.heap.size := by omega
  cases hn : isE n with
  | false =>
    have HR : Hid (goneQ Q n = Q) := by show _ = _; unfold goneQ; rw [hn]; rfl
    rw [hn] at hI
    have HA : Hid _ := hA
    have HW : Hid _ := hW
    clear hW h hn hA hbW x0
    go_enter Try.func14, Try.ntmps14
    go_wp2_with fail
    rw [← HW.out]
    refine hI.mono ?_
    rintro e w1 ⟨rfl, hw⟩
    rw [hw]
    clear hw w1
    go_wp2
    (try simp only [Exit.inBlock, Exit.then])
    refine bodyPost_ret (results_none rfl _ _ _) rfl ?_
    exact ⟨rfl, by rw [HR.out]; exact HA.out, Tch.of_below HB.out⟩
  | true =>
    obtain ⟨k, rfl, hk⟩ := isE_nat hn
    have HR : Hid (goneQ Q k = goneTo Q k 12) := by show _ = _; unfold goneQ; rw [hn]; rfl
    rw [hn] at hI
    have hki : (k : Int) < 12 := by omega
    obtain ⟨V, hV⟩ := hA
    have c0 := hV.cell hk
    have f0 := hV.free k
    have hP := hV.put hk (v := .slice none 0 0) (M := []) (w1 := W.drew) ⟨rfl, rfl, rfl, Nat.le_refl _, fun _ _ _ => rfl⟩ (World.ownsRow_nil _ _ _ _) (fun g hg => by simp [Value.ownBlock] at hg) (fun m hm => by simp at hm) (by simp)
    have HT : Hid (Tch B W (W.drew.setCell ⟨b, k, none⟩ (.slice none 0 0))) := hV.tch hk ⟨rfl, rfl, rfl, Nat.le_refl _, fun _ _ _ => rfl⟩
    have HP : Hid (IpcAt (W.drew.setCell ⟨b, k, none⟩ (.slice none 0 0)) B b (goneTo Q k 0)) := by rw [goneTo_zero]; exact hP
    have HX : Hid ((W.drew.setCell ⟨b, k, none⟩ (.slice none 0 0)).heap[w.heap.size]? = some (.cells #[.int .i64 k] 3)) := by
      show _ = _
      rw [Below.heap_setCell _ _ _ _ (Ne.symm hnb)]
      exact HBX.out
    have HW : Hid _ := hW
    clear hW h hn hV hP hbW HBX
    go_enter Try.func14, Try.ntmps14
    go_wp2_with fail
    rw [← HW.out]
    refine hI.mono ?_
    rintro e w1 ⟨rfl, hw⟩
    rw [hw]
    clear hw w1
    go_wp2_with fail
    go_region
    all_goals
      go_wp2_with fail
      obtain ⟨Z, hZ⟩ : ∃ Z, Z = (W.setCell ⟨b, k, none⟩ (.slice none 0 0)).drew := ⟨_, rfl⟩
      have HP2 : Hid (IpcAt Z B b (goneTo Q k 0)) := by rw [hZ]; exact HP.out
      have HX2 : Hid (Z.heap[w.heap.size]? = some (.cells #[.int .i64 k] 3)) := by rw [hZ]; exact HX.out
      have HT2 : Hid (Tch B w Z) := by rw [hZ]; exact (Tch.of_below HB.out).trans HT.out
      rw [← hZ]
      clear hZ HP HX HT c0 f0 x0 hI HB HW
      go_loopw [4, 18] (fun _ s wr => ∃ (i : Nat), i ≤ 12 ∧ s = .int .i64 i ∧ IpcAt wr B b (goneTo Q k i) ∧ Hid (wr.heap[w.heap.size]? = some (.cells #[.int .i64 k] 3)) ∧ Tch B w wr) (fun _ s _ => 12 - (intOf s).toNat)
      case atStart => exact ⟨0, by omega, rfl, HP2.out, HX2, HT2.out⟩
      case round =>
        clear HP2 HX2 HT2
        obtain ⟨i, hi, rfl, hA, HX, hT⟩ := hrel
        have HT : Hid _ := hT
        by_cases hlt : i < 12
        · have hD := drop_at B b i (goneTo Q k i) w.heap.size k wr hA hlt HX.out
          have hii : (i : Int) < 12 := by omega
          have HN : Hid (goneTo Q k (i + 1) = (goneTo Q k i).set i (dropM k (goneTo Q k i i))) := goneTo_at Q k i
          unfold dropF at hD
          clear hA hT
          go_wp2_with fail
          refine hD.mono ?_
          rintro e w1 ⟨rfl, hA, hT1⟩
          have HA : Hid _ := hA
          have HT1 : Hid _ := hT1
          clear hA hT1
          go_wp2
          go_roundw
          case rel => exact ⟨i + 1, by omega, by go_num, by rw [HN.out]; exact HA.out, HT1.out.other HX.out (by decide) (by decide), HT.out.trans HT1.out⟩
          case measure => simp [intOf]; omega
        · obtain rfl : i = 12 := by omega
          have HA : Hid _ := hA
          clear hA hT
          go_wp2
          go_end0
          exact ⟨rfl, by rw [HR.out]; exact HA.out, HT.out⟩

/-- Numbers as cells. -/
def ivs (zs : List Int) : List Value := zs.map (Value.int .i64)
theorem ivs_app (a b : List Int) : ivs (a ++ b) = ivs a ++ ivs b := by simp [ivs]
theorem intInfo : (Try.prog.info? 3).map (fun i => (i.zero, i.size, i.bytes)) = some (some (.int .i64 0), 1, 8) := by kernel_rfl
/-- A slice at a0 holds these ints. -/
def IRow (w : World) (a0 : Option Addr) (D : List Int) : Prop := ∀ (j : Nat) (x : Int), D[j]? = some x → ∃ gb off, a0 = some ⟨gb, off, none⟩ ∧ w.cell? ⟨gb, off + j, none⟩ = some (.int .i64 x)
theorem IRow.below {w w' : World} {a0 : Option Addr} {D : List Int} (h : IRow w a0 D) (hb : Below w.heap.size w w') : IRow w' a0 D := by
  intro j x hj
  obtain ⟨gb, off, ha, hc⟩ := h j x hj
  exact ⟨gb, off, ha, by rw [hb.cell (cell_lt hc)]; exact hc⟩
theorem own_irow {w : World} {base : Nat} {e : TypeId} {v : Value} {D : List Int} (h : w.ownsRow base e 1 v D.length (ivs D)) : ∃ a cap, v = .slice a D.length cap ∧ IRow w a D := by
  rcases h.2 with ⟨rfl, e2⟩ | ⟨g, cap, cur, rfl, _, hh, _, _, _, ht⟩
  · have : D = [] := List.eq_nil_of_length_eq_zero e2
    subst this
    exact ⟨none, 0, rfl, fun j x hx => by simp at hx⟩
  · refine ⟨_, cap, rfl, fun j x hx => ⟨g, 0, rfl, ?_⟩⟩
    have hj : j < D.length := (List.getElem?_eq_some_iff.1 hx).1
    have hq : (ivs D)[j]? = some (.int .i64 x) := by simp [ivs, hx]
    rw [Nat.zero_add, cell_of_heap hh]
    rw [← ht, Nat.mul_one, List.getElem?_take_of_lt hj] at hq
    simpa using hq
theorem take_snoc {α : Type} {L : List α} {i : Nat} {x : α} (h : L[i]? = some x) : L.take (i + 1) = L.take i ++ [x] := by
  rw [List.take_add_one, h]
  rfl
theorem from_nil (n : Int) (w : World) :
    Calls Try.prog 19 #[.pointer none, .int .i64 n] w fun e w' => e = .returned (.slice none 0 0) ∧ w' = w := by
  go_enter Try.func19, Try.ntmps19
  go_wp2
  go_ret
  exact ⟨rfl, rfl⟩
set_option maxHeartbeats 2000000 in
theorem from_at (B b : Nat) (Q : QS) (n : Int) (w : World) (h : IpcAt w B b Q) :
    Calls Try.prog 19 #[.pointer (some ⟨b, 0, none⟩), .int .i64 n] w fun e w' => ∃ v, e = .returned v ∧ w'.ownsRow w.heap.size 3 1 v (froms (qat Q n)).length (ivs (froms (qat Q n))) ∧ Below w.heap.size w w' := by
  obtain ⟨V, h⟩ := h
  have hne := ptr_eq b
  have hI := isEnv_at n w
  cases hn : isE n with
  | false =>
    have HQ : Hid (qat Q n = []) := qat_no Q hn
    rw [hn] at hI
    clear h hn
    go_enter Try.func19, Try.ntmps19
    go_wp2_with (go_at_call 23; refine hI.mono ?_; rintro e w1 ⟨rfl, hw⟩; rw [hw]; clear hw w1)
    go_ret
    refine ⟨_, rfl, ?_, Below.refl _ _⟩
    rw [HQ.out]
    exact World.ownsRow_nil _ _ _ _
  | true =>
    obtain ⟨k, rfl, hk⟩ := isE_nat hn
    have HQ : Hid (qat Q k = Q k) := qat_nat Q hk
    have hki : (k : Int) < 12 := by omega
    rw [hn] at hI
    obtain ⟨i0, hi0, hzz⟩ := Option.map_eq_some_iff.1 intInfo
    simp only [Prod.mk.injEq] at hzz
    obtain ⟨hz0, hz1, hz2⟩ := hzz
    have c0 := h.cell hk
    obtain ⟨av, cv, hv⟩ := own_slice (h.own k hk)
    have hown := h.own k hk
    have hl := h.len k hk
    rw [hv] at c0 hown
    have HO : Hid _ := own_pts hown
    obtain ⟨L, hL⟩ : ∃ L, L = (Q k).length := ⟨_, rfl⟩
    rw [← hL] at c0 hl
    have HL : Hid _ := hL
    clear h hn hv hown hL
    go_enter Try.func19, Try.ntmps19
    go_wp2_with fail
    refine hI.mono ?_
    rintro e w1 ⟨rfl, hw⟩
    rw [hw]
    clear hw w1 hI
    go_wp2
    clear c0
    go_loopw [5, 23] (fun s i wr => ∃ (j : Nat) (v : Value), j ≤ L ∧ i = .int .i64 j ∧ v = s ∧ wr.ownsRow w.heap.size 3 1 v (froms ((Q k).take j)).length (ivs (froms ((Q k).take j))) ∧ Below w.heap.size w wr) (fun _ i _ => L - (intOf i).toNat)
    case atStart => exact ⟨0, _, by omega, rfl, rfl, World.ownsRow_nil _ _ _ _, Below.refl _ _⟩
    case round =>
      obtain ⟨j, v, hj, rfl, rfl, hown, hb⟩ := hrel
      have hws := hb.size
      have HN : Hid _ := hown
      have HB : Hid _ := hb
      by_cases hlt : j < L
      · obtain ⟨m, hm⟩ : ∃ m, (Q k)[j]? = some m := ⟨(Q k)[j]'(by rw [← HL.out]; exact hlt), List.getElem?_eq_getElem _⟩
        rcases HO.out with ⟨_, e2⟩ | ⟨g, cap, cur, e1, _, hh, _, _, _, hpt⟩
        · rw [e2] at hm
          simp at hm
        simp only [Value.slice.injEq] at e1
        obtain ⟨rfl, _, rfl⟩ := e1
        obtain ⟨p0, p1⟩ := hpt j m hm
        have hh2 := (hb.block g (lt_of_heap hh)).trans hh
        have d0 : wr.cell? ⟨g, j * 2, none⟩ = some (.int .i64 m.fr) := by rw [cell_of_heap hh2]; exact p0
        have d1 : wr.cell? ⟨g, j * 2 + 1, none⟩ = some (.slice m.a m.ws.length m.cap) := by rw [cell_of_heap hh2]; exact p1
        have hji : (j : Int) < (L : Int) := by omega
        have HF : Hid (froms ((Q k).take (j + 1)) = froms ((Q k).take j) ++ [m.fr]) := by show _ = _; rw [take_snoc hm]; simp [froms]
        have hle : (froms ((Q k).take j)).length ≤ j := by simp [froms]; omega
        have HNB : Hid (((wr.alloc (.cells #[.int .i64 m.fr, .slice m.a m.ws.length m.cap] 64)).alloc (.cells #[.int .i64 m.fr] 3)).heap[wr.heap.size + 1]? = some (.cells #[.int .i64 m.fr] 3 (0, 0))) := by
          have := heap_alloc_new (wr.alloc (.cells #[.int .i64 m.fr, .slice m.a m.ws.length m.cap] 64)) (.cells #[.int .i64 m.fr] 3)
          rwa [World.size_alloc] at this
        clear hm hh hh2 hpt p0 p1 hown hb
        generalize froms ((Q k).take j) = D at *
        go_wp2_with (at_builtin; refine wpList_append_lies _ rfl _ _ _ rfl w.heap.size 3 i0 _ 1 8 Try.underlying41 hi0 hz0 hz1 hz2 rfl (by omega) v D.length (ivs D) rfl (World.ownsRow.alloc (World.ownsRow.alloc HN.out _) _) ⟨wr.heap.size + 1, 0, none⟩ 1 1 [.int .i64 m.fr] rfl rfl (World.news_of_block (cs := #[.int .i64 m.fr]) (t := 3) (fr := (0, 0)) HNB.out) (by simp [Value.oneCell']) (by omega) (by unfold maxLen; omega) (by omega) (by simp; omega) _ rfl ?_; intro gg capx w2 hown2 hgrow hat hlt2)
        go_roundw
        case rel =>
          refine ⟨j + 1, _, by omega, by go_num, rfl, ?_, HB.out.trans (((below_alloc wr _).mono hws).trans ((((below_alloc _ _).mono (by simp; omega))).trans (below_grown hgrow (by simp; omega) (ownsRow_low HN.out))))⟩
          rw [HF.out, ivs_app, List.length_append]
          exact hown2
        case measure => simp [intOf]; omega
      · obtain rfl : j = L := by omega
        have HT : Hid ((Q k).take j = Q k) := by show _ = _; rw [HL.out]; simp
        clear hb hown
        go_wp2
        go_ret
        refine ⟨_, rfl, ?_, HB.out⟩
        have := HN.out
        rw [HT.out] at this
        rw [HQ.out]
        exact this
end Go.Proofs.Ytikeknehkoccpaa
