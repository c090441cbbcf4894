/- The reference of package exoipc: Recv. -/
import Derived.Test.YtikeknehkoccpaaRmB11
import Derived.OwnWalk
namespace Go.Proofs.Ytikeknehkoccpaa
open Go.RowKit
set_option linter.unusedVariables false

theorem elemR : Try.prog.elem 26 = 67 := by kernel_rfl
set_option maxRecDepth 100000 in
theorem rcut_h (g len cap k : Nat) (hk : k ≤ cap) (V : World) : (Instr.slice 26 (.slice (some ⟨g, 0, none⟩) len cap) none (some (.int .i64 k)) none).run Try.prog V = .ok (.slice (some ⟨g, 0, none⟩) k cap) V := by
  obtain ⟨i0, hi0, hzz⟩ := Option.map_eq_some_iff.1 rInfo
  have hk0 : (k : Int) ≤ (cap : Int) := by omega
  rw [run_slice_h V 26 _ _ _ Try.underlying26 _ _ (by omega) hk0]
  simp [sizeOf, typeInfo, elemR, hi0, sliced, Addr.add]
set_option maxRecDepth 100000 in
theorem rcut_l (g len cap k : Nat) (hk : k + 1 ≤ len) (V : World) : (Instr.slice 26 (.slice (some ⟨g, 0, none⟩) len cap) (some (.int .i64 ((k : Int) + 1))) none none).run Try.prog V = .ok (.slice (some (if cap = k + 1 then ⟨g, 0, none⟩ else ⟨g, (k + 1) * 3, none⟩)) (len - (k + 1)) (cap - (k + 1))) V := by
  obtain ⟨i0, hi0, hzz⟩ := Option.map_eq_some_iff.1 rInfo
  simp only [Prod.mk.injEq] at hzz
  have hk0 : (k : Int) + 1 ≤ (len : Int) := by omega
  have e : ((k : Int) + 1).toNat = k + 1 := by omega
  rw [run_slice_l V 26 _ _ _ Try.underlying26 _ _ (by omega) hk0]
  simp only [sizeOf, typeInfo, elemR, sliced, e, Sem.run_bind, Sem.run_pure]
  by_cases h : cap = k + 1
  · simp [h, hi0]
  · simp [h, hi0, Addr.add, hzz.2.1]
/-- append(append([]M(nil), l[:k]...), l[k+1:]...). -/
theorem splice_msgs {W : World} {g cap k : Nat} {L : List RMg} {m : RMg} {a2 : Addr} {R : List RMg} (h : W.ownsRow 0 67 3 (.slice (some ⟨g, 0, none⟩) L.length cap) L.length (rcells L)) (hm : L[k]? = some m) (hl : L.length ≤ 1000) (hR : R = L.take k ++ L.drop (k + 1)) (ha : k + 1 < L.length → a2 = ⟨g, (k + 1) * 3, none⟩) :
    ∃ a1 c1 w1 a3 c3 w3, (∀ ty, (Builtin.append_ #[26, 26] ty #[.slice none 0 0, .slice (some ⟨g, 0, none⟩) k cap]).run Try.prog W.drew = .ok (.slice a1 k c1) w1) ∧
      (∀ ty, (Builtin.append_ #[26, 26] ty #[.slice a1 k c1, .slice (some a2) (L.length - (k + 1)) (cap - (k + 1))]).run Try.prog w1 = .ok (.slice a3 R.length c3) w3) ∧
      Below W.heap.size W w1 ∧ Below W.heap.size W w3 ∧ w3.ownsRow W.heap.size 67 3 (.slice a3 R.length c3) R.length (rcells R) := by
  obtain ⟨i0, hi0, hzz⟩ := Option.map_eq_some_iff.1 rInfo
  simp only [Prod.mk.injEq] at hzz
  obtain ⟨hz0, hz1, hz2⟩ := hzz
  have hk : k < L.length := (List.getElem?_eq_some_iff.1 hm).1
  have hsplit : L = L.take k ++ (m :: L.drop (k + 1)) := by
    have e := List.getElem?_eq_some_iff.1 hm
    rw [← e.2]
    simp
  have hE : rcells L = rcells (L.take k) ++ (rcells [m] ++ rcells (L.drop (k + 1))) := by
    conv => lhs; rw [hsplit]
    rw [rcells_app]
    rfl
  have hlk : (rcells (L.take k)).length = k * 3 := by rw [rcells_len, List.length_take]; omega
  have hRl : R.length = k + (L.length - (k + 1)) := by rw [hR, List.length_append, List.length_take, List.length_drop]; omega
  have hdr : Below W.heap.size W W.drew := (Below.refl _ _).drew
  have hnews := own_news3 h
  have hgl : g < W.heap.size := (h.lt g rfl).2
  -- the first append
  have first : ∃ a1 c1 w1, (∀ ty, (Builtin.append_ #[26, 26] ty #[.slice none 0 0, .slice (some ⟨g, 0, none⟩) k cap]).run Try.prog W.drew = .ok (.slice a1 k c1) w1) ∧ w1.ownsRow W.heap.size 67 3 (.slice a1 k c1) k (rcells (L.take k)) ∧ Below W.heap.size W w1 := by
    by_cases h0 : k = 0
    · subst h0
      exact ⟨none, 0, W.drew, fun ty => run_append_none W.drew _ _ i0 Try.underlying26 hi0 _ cap ty, World.ownsRow_nil _ _ _ _, hdr⟩
    · obtain ⟨g', cap', w', hr, hown, hgrow, _, _⟩ := run_append_lies (P := Try.prog) W.drew 26 0 W.heap.size 67 i0 _ 3 40 Try.underlying26 hi0 hz0 hz1 hz2 rfl (by omega) (.slice none 0 0) 0 [] (World.ownsRow_nil _ _ _ _)
        ⟨g, 0, none⟩ k cap (rcells (L.take k)) hlk (fun j u hu => by
          refine hnews j u ?_
          rw [hE, List.getElem?_append_left ((List.getElem?_eq_some_iff.1 hu).1)]
          exact hu) (rcells_one _) (by omega) (by unfold maxLen; omega) (by omega) (Nat.le_refl _) _ rfl
      rw [Nat.zero_add] at hr hown
      rw [List.nil_append] at hown
      exact ⟨some ⟨g', 0, none⟩, cap', w', fun ty => hr, hown, hdr.trans (below_grown hgrow (Nat.le_refl _) (fun k hk => by simp [Value.ownBlock] at hk))⟩
  obtain ⟨a1, c1, w1, hr1, ho1, hb1⟩ := first
  by_cases h2 : k + 1 < L.length
  · have ha2 := ha h2
    subst ha2
    have hread : ∀ j u, (rcells (L.drop (k + 1)))[j]? = some u → w1.cell? ((⟨g, (k + 1) * 3, none⟩ : Addr).add j) = some u := by
      intro j u hu
      have := hnews ((k + 1) * 3 + j) u (by
        rw [hE, List.getElem?_append_right (by rw [hlk]; omega), hlk, List.getElem?_append_right (by simp [rcells]; omega)]
        rw [← hu]
        congr 1
        simp [rcells]
        omega)
      rw [add0, Nat.zero_add] at this
      rw [add0, hb1.cell (p := ⟨g, (k + 1) * 3 + j, none⟩) hgl]
      exact this
    obtain ⟨g', cap', w', hr, hown, hgrow, _, _⟩ := run_append_lies (P := Try.prog) w1 26 0 W.heap.size 67 i0 _ 3 40 Try.underlying26 hi0 hz0 hz1 hz2 rfl (by omega) (.slice a1 k c1) k (rcells (L.take k)) ho1
      ⟨g, (k + 1) * 3, none⟩ (L.length - (k + 1)) (cap - (k + 1)) (rcells (L.drop (k + 1))) (by rw [rcells_len, List.length_drop]) hread (rcells_one _) (by omega) (by unfold maxLen; omega) (by omega) hb1.size _ rfl
    refine ⟨a1, c1, w1, some ⟨g', 0, none⟩, cap', w', hr1, fun ty => by rw [hRl]; exact hr, hb1, hb1.trans (below_grown hgrow hb1.size (ownsRow_low ho1)), ?_⟩
    rw [hRl, hR, rcells_app]
    exact hown
  · have e0 : L.length - (k + 1) = 0 := by omega
    have e1 : L.drop (k + 1) = [] := List.drop_eq_nil_of_le (by omega)
    have hRk : R = L.take k := by rw [hR, e1, List.append_nil]
    have hRl2 : R.length = k := by rw [hRl, e0]; rfl
    have hle : k ≤ c1 := by
      rcases ho1.2 with ⟨e, e2⟩ | ⟨g', cap', cur, e, _, _, q, _⟩
      · simp only [Value.slice.injEq] at e; omega
      · simp only [Value.slice.injEq] at e; omega
    refine ⟨a1, c1, w1, a1, c1, w1, hr1, fun ty => ?_, hb1, hb1, ?_⟩
    · rw [hRl2, e0]
      exact run_append_zero w1 _ _ i0 Try.underlying26 hi0 _ _ k c1 _ hle ty
    · rw [hRl2, hRk]
      exact ho1

set_option maxHeartbeats 1000000 in
theorem rrecv_no (c : Nat) (v : Value) (L : List RMg) (n : Int) (w : World) (h : RIs w c v L) (hl : L.length ≤ 900) (hno : ∀ m ∈ L, m.tt ≠ n) :
    Calls Try.prog 12 #[.pointer (some ⟨c, 0, none⟩), .int .i64 n] w fun e w' => e = .returned (.tuple #[.int .i64 0, .slice none 0 0, .bool false]) ∧ w' = w := by
  obtain ⟨av, cv, rfl⟩ := h.form
  obtain ⟨ll, hll⟩ : ∃ ll, ll = L.length := ⟨_, rfl⟩
  rw [← hll] at h hl
  have HR : Hid (RIs w c (.slice av ll cv) L) := h
  have HLL : Hid (ll = L.length) := hll
  have HN : Hid (∀ m ∈ L, m.tt ≠ n) := hno
  have c0 := h.c0
  clear h hll hno
  go_enter Try.func12, Try.ntmps12
  go_wp2
  go_loopw [7] (fun s wr => ∃ (j : Nat), j ≤ ll ∧ s = .int .i64 j ∧ wr = w) (fun s _ => ll - (intOf s).toNat)
  case atStart => exact ⟨0, by omega, rfl, rfl⟩
  case round =>
    obtain ⟨j, hj, rfl, hw⟩ := hrel
    subst hw
    by_cases hlt : j < ll
    · obtain ⟨m, hm⟩ : ∃ m, L[j]? = some m := ⟨L[j]'(by rw [← HLL.out]; exact hlt), List.getElem?_eq_getElem _⟩
      obtain ⟨g, cap, e, _, d0, d1, _⟩ := HR.out.at hm
      simp only [Value.slice.injEq] at e
      obtain ⟨rfl, _, rfl⟩ := e
      have hji : (j : Int) < (ll : Int) := by omega
      have ge : (m.tt == n) = false := by simpa using HN.out m (List.mem_of_getElem? hm)
      clear hm
      go_wp2
      go_roundw
      case rel => exact ⟨j + 1, by omega, by go_num, by first | rfl | trivial⟩
      case measure => simp [intOf]; omega
    · obtain rfl : j = ll := by omega
      go_wp2
      go_ret3
      exact ⟨rfl, rfl⟩
set_option maxRecDepth 100000 in
set_option maxHeartbeats 8000000 in
theorem rrecv_yes (c : Nat) (v : Value) (L : List RMg) (n : Int) (k : Nat) (m : RMg) (w : World) (h : RIs w c v L) (hl : L.length ≤ 900) (hm : L[k]? = some m) (ht : m.tt = n) (hno : ∀ (j : Nat) (x : RMg), j < k → L[j]? = some x → x.tt ≠ n) :
    Calls Try.prog 12 #[.pointer (some ⟨c, 0, none⟩), .int .i64 n] w fun e w' => e = .returned (.tuple #[.int .i64 m.fr, m.v, .bool true]) ∧ (∃ v', RIs w' c v' (L.take k ++ L.drop (k + 1))) ∧ Upd c w w' := by
  obtain ⟨g, cap, rfl, hcap, d0, d1, d2⟩ := h.at hm
  have hkl : k < L.length := (List.getElem?_eq_some_iff.1 hm).1
  obtain ⟨W, hW⟩ : ∃ W, W = w.alloc (.cells (rrow m) 67) := ⟨_, rfl⟩
  have hbW : Below w.heap.size w W := by rw [hW]; exact below_alloc _ _
  have hIW := h.below hbW
  have hXW : W.heap[w.heap.size]? = some (.cells (rrow m) 67 (0, 0)) := by rw [hW]; exact heap_alloc_new _ _
  have hwl : w.heap.size < W.heap.size := lt_of_heap hXW
  have hcl := h.lt
  have hs1 := rcut_h g L.length cap k (by omega)
  have hs2 := rcut_l g L.length cap k (by omega)
  have HA2 : Hid (k + 1 < L.length → (if cap = k + 1 then (⟨g, 0, none⟩ : Addr) else ⟨g, (k + 1) * 3, none⟩) = ⟨g, (k + 1) * 3, none⟩) := fun hk1 => if_neg (by omega)
  generalize (if cap = k + 1 then (⟨g, 0, none⟩ : Addr) else ⟨g, (k + 1) * 3, none⟩) = a2 at *
  obtain ⟨a1, c1, w1, a3, c3, w3, hr1, hr2, hb1, hb3, ho3⟩ := splice_msgs (R := L.take k ++ L.drop (k + 1)) (a2 := a2) hIW.own hm (by omega) rfl HA2.out
  have hwd3 : ∀ q ∈ L.take k ++ L.drop (k + 1), Wd w3 q.a q.ws := by
    intro q hq
    have : q ∈ L := by
      rcases List.mem_append.1 hq with hq | hq
      · exact List.mem_of_mem_take hq
      · exact List.mem_of_mem_drop hq
    exact (hIW.wd q this).below hb3
  have HP : Hid _ := hIW.put hb3 ho3 hwd3
  have HBW : Hid (Below w.heap.size w W) := hbW
  have c0 := h.c0
  have cW := hIW.c0
  have fW := hIW.free
  have cw1 := (hIW.below hb1).c0
  have fw1 := (hIW.below hb1).free
  have cw3 := (hIW.below hb3).c0
  have fw3 := (hIW.below hb3).free
  have hX3 : w3.heap[w.heap.size]? = some (.cells (rrow m) 67 (0, 0)) := (hb3.block _ hwl).trans hXW
  have x0 : w3.cell? ⟨w.heap.size, 0, none⟩ = some (.int .i64 m.fr) := by rw [cell_of_heap hX3]; rfl
  have x2 : w3.cell? ⟨w.heap.size, 2, none⟩ = some (.slice m.a m.ws.length m.cap) := by rw [cell_of_heap hX3]; rfl
  have hnc : c ≠ w.heap.size := by omega
  have HRun1 : Hid _ := hr1
  have HRun2 : Hid _ := hr2
  have HR : Hid (RIs w c (.slice (some ⟨g, 0, none⟩) L.length cap) L) := h
  have HN : Hid (∀ (j : Nat) (x : RMg), j < k → L[j]? = some x → x.tt ≠ n) := hno
  have HM : Hid (L[k]? = some m) := hm
  have ge : (m.tt == n) = true := by simpa using ht
  have hwr : IntKind.i64.wrap ((k : Int) + 1) = (k : Int) + 1 := by
    simp [IntKind.wrap, IntKind.bits, IntKind.signed]
    omega
  unfold rrow at hW
  have HW : Hid _ := hW
  generalize L.take k ++ L.drop (k + 1) = R at *
  generalize hll : L.length = ll at *
  have HLL : Hid (ll = L.length) := hll.symm
  clear h hm ht hno hbW hIW hXW hr1 hr2 hb1 hb3 ho3 hwd3 hX3 hW hll HA2
  go_enter Try.func12, Try.ntmps12
  go_wp2
  go_loopw [7] (fun s wr => ∃ (j : Nat), j ≤ k ∧ s = .int .i64 j ∧ wr = w) (fun s _ => ll - (intOf s).toNat)
  case atStart => exact ⟨0, by omega, rfl, rfl⟩
  case round =>
    obtain ⟨j, hj, rfl, hw⟩ := hrel
    subst hw
    have hji : (j : Int) < (ll : Int) := by omega
    by_cases hlt : j < k
    · obtain ⟨q, hq⟩ : ∃ q, L[j]? = some q := ⟨L[j]'(by rw [← HLL.out]; omega), List.getElem?_eq_getElem _⟩
      obtain ⟨g', cap', e, _, p0, p1, _⟩ := HR.out.at hq
      simp only [Value.slice.injEq, Option.some.injEq, Addr.mk.injEq] at e
      obtain ⟨⟨rfl, _⟩, _, rfl⟩ := e
      have gq : (q.tt == n) = false := by simpa using HN.out j q hlt hq
      clear hq d0 d1 d2 ge
      go_wp2
      go_roundw
      case rel => exact ⟨j + 1, by omega, by go_num, by first | rfl | trivial⟩
      case measure => simp [intOf]; omega
    · obtain rfl : j = k := by omega
      go_wp2_with fail
      rw [← HW.out]
      go_region_law (first
        | (refine step_append_eq rfl (.const (.slice none 0 0)) (.tmp 41) 26 rfl (.slice none 0 0) (.slice (some ⟨g, 0, none⟩) j cap) (.slice a1 j c1) rfl (by rfl) HRun1.out ?_)
        | (refine step_append_eq rfl (.tmp 42) (.tmp 49) 26 rfl (.slice a1 j c1) (.slice (some a2) (ll - (j + 1)) (cap - (j + 1))) (.slice a3 R.length c3) (by rfl) (by rfl) HRun2.out ?_))
      all_goals
        go_wp2_with fail
        go_region
        all_goals
          go_wp2
          go_ret3
          have hP := HP.out
          exact ⟨rfl, ⟨_, hP.1.below (Below.refl _ _).drew⟩, ((Upd.of_below HBW.out).trans hP.2).trans (Upd.drew _ _)⟩
end Go.Proofs.Ytikeknehkoccpaa
