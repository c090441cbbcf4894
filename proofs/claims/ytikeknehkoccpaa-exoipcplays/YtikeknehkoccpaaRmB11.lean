/- The reference of package exoipc: Send, Gone. -/
import Derived.Test.YtikeknehkoccpaaRmA11
import Derived.Test.YtikeknehkoccpaaOrdM11
namespace Go.Proofs.Ytikeknehkoccpaa
open Go.RowKit
set_option linter.unusedVariables false

theorem rInfo : (Try.prog.info? 67).map (fun i => (i.zero, i.size, i.bytes)) = some (some (.agg #[.int .i64 0, .int .i64 0, .slice none 0 0]), 3, 40) := by kernel_rfl
/-- The cells of a row, as what is appended. -/
theorem own_news3 {w : World} {base g n cap : Nat} {e : TypeId} {xs : List Value} (h : w.ownsRow base e 3 (.slice (some ⟨g, 0, none⟩) n cap) n xs) : ∀ j u, xs[j]? = some u → w.cell? ((⟨g, 0, none⟩ : Addr).add j) = some u := h.cells rfl
/-- append([]M(nil), l...). -/
theorem copy_msgs {w : World} {v : Value} {L : List RMg} (h : w.ownsRow 0 67 3 v L.length (rcells L)) (hl : L.length ≤ 1000) :
    ∃ a c w', (∀ ty, (Builtin.append_ #[26, 26] ty #[.slice none 0 0, v]).run Try.prog w = .ok (.slice a L.length c) w') ∧ w'.ownsRow w.heap.size 67 3 (.slice a L.length c) L.length (rcells L) ∧ Below w.heap.size w w' := by
  obtain ⟨i0, hi0, hzz⟩ := Option.map_eq_some_iff.1 rInfo
  simp only [Prod.mk.injEq] at hzz
  obtain ⟨hz0, hz1, hz2⟩ := hzz
  obtain ⟨av, cv, rfl⟩ := own_slice h
  by_cases hn : L.length = 0
  · have : L = [] := List.length_eq_zero_iff.1 hn
    subst this
    exact ⟨none, 0, w, fun ty => run_append_none w _ _ i0 Try.underlying26 hi0 av cv ty, World.ownsRow_nil _ _ _ _, Below.refl _ _⟩
  · obtain ⟨g, cap, e, _, _⟩ := h.form (by omega)
    simp only [Value.slice.injEq, true_and] at e
    obtain ⟨rfl, rfl⟩ := e
    obtain ⟨g', cap', w', hr, hown, hgrow, _, _⟩ := run_append_lies (P := Try.prog) w 26 0 w.heap.size 67 i0 _ 3 40 Try.underlying26 hi0 hz0 hz1 hz2 rfl (by omega) (.slice none 0 0) 0 [] (World.ownsRow_nil _ _ _ _)
      ⟨g, 0, none⟩ L.length cv (rcells L) (by rw [rcells_len]) (own_news3 h) (rcells_one L) (by omega) (by unfold maxLen; omega) (by omega) (Nat.le_refl _) _ rfl
    rw [Nat.zero_add] at hr hown
    rw [List.nil_append] at hown
    exact ⟨some ⟨g', 0, none⟩, cap', w', fun ty => hr, hown, below_grown hgrow (Nat.le_refl _) (fun k hk => by simp [Value.ownBlock] at hk)⟩
/-- What the reference's Send answers. -/
def rsendR (L : List RMg) (f t : Int) (len : Nat) : Int := if isE f = true ∧ isE t = true ∧ len ≤ 8 then (if (rfroms L t).length < 4 then 0 else 105) else 101
/-- What it leaves. -/
def rsendL (L : List RMg) (f t : Int) (a : Option Addr) (cap : Nat) (ws : List Int) : List RMg := if rsendR L f t ws.length = 0 then L ++ [⟨f, t, a, cap, ws⟩] else L
theorem rsend_arg (c : Nat) (f t : Int) (a : Option Addr) (n cap : Nat) (w : World) (h : ¬ (isE f = true ∧ isE t = true ∧ n ≤ 8)) :
    Calls Try.prog 10 #[.pointer (some ⟨c, 0, none⟩), .int .i64 f, .int .i64 t, .slice a n cap] w fun e w' => e = .returned (.int .i64 101) ∧ w' = w := by
  have hF := renv_at f w
  have hT := renv_at t w
  cases hf : isE f with
  | false =>
    rw [hf] at hF
    clear h hf hT
    go_enter Try.func10, Try.ntmps10
    go_wp2_with (go_at_call 26; refine hF.mono ?_; rintro e w1 ⟨rfl, hw⟩; rw [hw]; clear hw w1)
    go_ret
    exact ⟨rfl, rfl⟩
  | true =>
    rw [hf] at hF
    cases ht : isE t with
    | false =>
      rw [ht] at hT
      clear h hf ht
      go_enter Try.func10, Try.ntmps10
      go_wp2_with fail
      refine hF.mono ?_
      rintro e w1 ⟨rfl, hw⟩
      rw [hw]
      clear hw w1
      go_wp2_with fail
      refine hT.mono ?_
      rintro e w1 ⟨rfl, hw⟩
      rw [hw]
      clear hw w1
      go_wp2
      go_ret
      exact ⟨rfl, rfl⟩
    | true =>
      rw [ht] at hT
      have hn : 8 < n := by
        rcases Nat.lt_or_ge 8 n with q | q
        · exact q
        · exact absurd ⟨hf, ht, q⟩ h
      have gn : decide ((8 : Int) < (n : Int)) = true := decide_eq_true (by omega)
      clear h hf ht hn
      go_enter Try.func10, Try.ntmps10
      go_wp2_with fail
      refine hF.mono ?_
      rintro e w1 ⟨rfl, hw⟩
      rw [hw]
      clear hw w1
      go_wp2_with fail
      refine hT.mono ?_
      rintro e w1 ⟨rfl, hw⟩
      rw [hw]
      clear hw w1
      go_wp2
      go_ret
      exact ⟨rfl, rfl⟩
set_option maxRecDepth 100000 in
set_option maxHeartbeats 2000000 in
theorem rsend_at (c : Nat) (v : Value) (L : List RMg) (f t : Int) (a : Option Addr) (ws : List Int) (cap : Nat) (w : World) (h : RIs w c v L) (hl : L.length ≤ 900) (hr : Rd w a ws) :
    Calls Try.prog 10 #[.pointer (some ⟨c, 0, none⟩), .int .i64 f, .int .i64 t, .slice a ws.length cap] w fun e w' => e = .returned (.int .i64 (rsendR L f t ws.length)) ∧ (∃ v' a' cap', RIs w' c v' (rsendL L f t a' cap' ws)) ∧ Upd c w w' := by
  by_cases hok : isE f = true ∧ isE t = true ∧ ws.length ≤ 8
  · obtain ⟨hf, ht, hn⟩ := hok
    have hF := renv_at f w
    have hT := renv_at t w
    rw [hf] at hF
    rw [ht] at hT
    have gn : decide ((8 : Int) < (ws.length : Int)) = false := decide_eq_false (by omega)
    have hWt := rwaiting_at c v L t w h (by omega)
    by_cases hq : (rfroms L t).length < 4
    · have HR : Hid (rsendR L f t ws.length = 0) := by show _ = _; unfold rsendR; rw [if_pos ⟨hf, ht, hn⟩, if_pos hq]
      have g4 : decide ((4 : Int) ≤ ((rfroms L t).length : Int)) = false := decide_eq_false (by omega)
      have HN : Hid (ws.length ≤ 8) := hn
      have HRI : Hid (RIs w c v L) := h
      have HRd : Hid (Rd w a ws) := hr
      generalize (rfroms L t).length = K at *
      clear h hr hf ht hn hq
      go_enter Try.func10, Try.ntmps10
      go_wp2_with fail
      refine hF.mono ?_
      rintro e w1 ⟨rfl, hw⟩
      rw [hw]
      clear hw w1
      go_wp2_with fail
      refine hT.mono ?_
      rintro e w1 ⟨rfl, hw⟩
      rw [hw]
      clear hw w1
      go_wp2_with fail
      refine hWt.mono ?_
      rintro e w1 ⟨rfl, hb1⟩
      obtain ⟨i0, hi0, hzz⟩ := Option.map_eq_some_iff.1 rInfo
      simp only [Prod.mk.injEq] at hzz
      obtain ⟨hz0, hz1, hz2⟩ := hzz
      have hI1 := RIs.below HRI.out hb1
      have hR1 := Rd.below HRd.out hb1
      obtain ⟨a2, c2, w2, hrun2, hown2, hb2⟩ := copy_msgs hI1.own (by omega)
      obtain ⟨a3, c3, w3, hrun3, hwd3, hb3⟩ := copy_words (hR1.below hb2) cap (by have := HN.out; omega)
      obtain ⟨W, hW⟩ : ∃ W, W = w3.alloc (.cells #[.int .i64 f, .int .i64 t, .slice a3 ws.length c3] 67) := ⟨_, rfl⟩
      have hbW : Below w3.heap.size w3 W := by rw [hW]; exact below_alloc _ _
      have hXW : W.heap[w3.heap.size]? = some (.cells #[.int .i64 f, .int .i64 t, .slice a3 ws.length c3] 67 (0, 0)) := by rw [hW]; exact heap_alloc_new _ _
      have hownW := ownsRow_below (ownsRow_below hown2 hb3) hbW
      obtain ⟨g4', cap4, w4, hrun4, hown4, hgrow4, _, _⟩ := run_append_lies (P := Try.prog) W 26 0 w1.heap.size 67 i0 _ 3 40 Try.underlying26 hi0 hz0 hz1 hz2 rfl (by omega) (.slice a2 L.length c2) L.length (rcells L) hownW
        ⟨w3.heap.size, 0, none⟩ 1 1 [.int .i64 f, .int .i64 t, .slice a3 ws.length c3] rfl (World.news_of_block (cs := #[.int .i64 f, .int .i64 t, .slice a3 ws.length c3]) (t := 67) (fr := (0, 0)) hXW) (by simp [Value.oneCell']) (by omega) (by unfold maxLen; omega) (by omega) (Nat.le_trans (Nat.le_trans hb2.size hb3.size) hbW.size) _ rfl
      have hb12 : Below w1.heap.size w1 W := (hb2.trans (hb3.mono hb2.size)).trans (hbW.mono (Nat.le_trans hb2.size hb3.size))
      have hb14 : Below w1.heap.size w1 w4 := hb12.trans (below_grown hgrow4 hb12.size (ownsRow_low hownW))
      have hwd4 : ∀ m ∈ L ++ [(⟨f, t, a3, c3, ws⟩ : RMg)], Wd w4 m.a m.ws := by
        intro m hm
        rcases List.mem_append.1 hm with hm | hm
        · exact (hI1.wd m hm).below hb14
        · rw [List.mem_singleton] at hm
          subst hm
          refine (hwd3.below hbW).keep (fun k cs fr hk => (hgrow4.block k (lt_of_heap hk) (fun e => ?_)).trans hk)
          obtain ⟨cs', hcs⟩ := own_type hownW e.symm
          rw [hk] at hcs
          simp only [Option.some.injEq, Obj.cells.injEq] at hcs
          exact absurd hcs.2.1 (by decide)
      have ho4 : w4.ownsRow w1.heap.size 67 3 (.slice (some ⟨g4', 0, none⟩) (L.length + 1) cap4) (L ++ [(⟨f, t, a3, c3, ws⟩ : RMg)]).length (rcells (L ++ [(⟨f, t, a3, c3, ws⟩ : RMg)])) := by
        rw [List.length_append, rcells_app]
        exact hown4
      have HP : Hid _ := hI1.put hb14 ho4 hwd4
      have HB1 : Hid (Below w.heap.size w w1) := hb1
      have c1 := hI1.c0
      have hI4 := hI1.below hb14
      have c4 := hI4.c0
      have f4 := hI4.free
      obtain ⟨av, cv, rfl⟩ := hI1.form
      have HRun2 : Hid (∀ ty, (Builtin.append_ #[26, 26] ty #[.slice none 0 0, .slice av L.length cv]).run Try.prog w1 = .ok (.slice a2 L.length c2) w2) := hrun2
      have HRun3 : Hid (∀ ty, (Builtin.append_ #[29, 29] ty #[.slice none 0 0, .slice a ws.length cap]).run Try.prog w2 = .ok (.slice a3 ws.length c3) w3) := hrun3
      have HRun4 : Hid (∀ ty, (Builtin.append_ #[26, 26] ty #[.slice a2 L.length c2, .slice (some ⟨w3.heap.size, 0, none⟩) 1 1]).run Try.prog W = .ok (.slice (some ⟨g4', 0, none⟩) (L.length + 1) cap4) w4) := fun ty => hrun4
      have HW : Hid (W = w3.alloc (.cells #[.int .i64 f, .int .i64 t, .slice a3 ws.length c3] 67)) := hW
      clear hb1 hI1 hR1 hrun2 hown2 hb2 hrun3 hwd3 hb3 hW hbW hXW hownW hrun4 hown4 hgrow4 hb12 hb14 hwd4 ho4 hI4 hF hT hWt HRI
      go_wp2_with (first
        | (at_builtin; refine wpList_append_eq rfl _ _ _ rfl _ _ _ rfl rfl HRun2.out ?_)
        | (at_builtin; refine wpList_append_eq rfl _ _ _ rfl _ _ _ rfl rfl HRun3.out ?_)
        | (at_builtin; rw [← HW.out]; refine wpList_append_eq rfl _ _ _ rfl _ _ _ rfl rfl HRun4.out ?_))
      go_ret
      have hP := HP.out
      refine ⟨by rw [HR.out]; rfl, ⟨.slice (some ⟨g4', 0, none⟩) (L.length + 1) cap4, a3, c3, ?_⟩, (Upd.of_below HB1.out).trans hP.2⟩
      unfold rsendL
      rw [if_pos HR.out]
      exact hP.1
    · have HR : Hid (rsendR L f t ws.length = 105) := by show _ = _; unfold rsendR; rw [if_pos ⟨hf, ht, hn⟩, if_neg hq]
      have g4 : decide ((4 : Int) ≤ ((rfroms L t).length : Int)) = true := decide_eq_true (by omega)
      have HRI : Hid (RIs w c v L) := h
      generalize (rfroms L t).length = K at *
      clear h hr hf ht hn hq
      go_enter Try.func10, Try.ntmps10
      go_wp2_with fail
      refine hF.mono ?_
      rintro e w1 ⟨rfl, hw⟩
      rw [hw]
      clear hw w1
      go_wp2_with fail
      refine hT.mono ?_
      rintro e w1 ⟨rfl, hw⟩
      rw [hw]
      clear hw w1
      go_wp2_with fail
      refine hWt.mono ?_
      rintro e w1 ⟨rfl, hb1⟩
      have HB1 : Hid (Below w.heap.size w w1) := hb1
      clear hb1 hF hT hWt
      go_wp2
      go_ret
      refine ⟨by rw [HR.out]; rfl, ⟨v, none, 0, ?_⟩, Upd.of_below HB1.out⟩
      unfold rsendL
      rw [if_neg (by rw [HR.out]; decide)]
      exact RIs.below HRI.out HB1.out
  · have hR : rsendR L f t ws.length = 101 := if_neg hok
    refine (rsend_arg c f t a ws.length cap w hok).mono ?_
    rintro e w' ⟨rfl, rfl⟩
    refine ⟨by rw [hR], ⟨v, none, 0, ?_⟩, Upd.refl _ _⟩
    unfold rsendL
    rw [if_neg (by rw [hR]; decide)]
    exact h

/-- What the reference's Gone leaves. -/
def rgoneL (L : List RMg) (n : Int) : List RMg := L.filter (fun m => m.tt != n && m.fr != n)
theorem rgoneL_len (L : List RMg) (n : Int) : (rgoneL L n).length ≤ L.length := List.length_filter_le _ _
theorem rgoneL_snoc (L : List RMg) (n : Int) (m : RMg) : rgoneL (L ++ [m]) n = if m.tt ≠ n ∧ m.fr ≠ n then rgoneL L n ++ [m] else rgoneL L n := by
  unfold rgoneL
  rw [List.filter_append]
  split
  · rename_i h; simp [h]
  · rename_i h
    have : (m.tt != n && m.fr != n) = false := by
      rw [← Bool.not_eq_true]
      simpa using h
    simp [this]
set_option maxRecDepth 100000 in
set_option maxHeartbeats 2000000 in
theorem rgone_at (c : Nat) (v : Value) (L : List RMg) (n : Int) (w : World) (h : RIs w c v L) (hl : L.length ≤ 900) :
    Calls Try.prog 15 #[.pointer (some ⟨c, 0, none⟩), .int .i64 n] w fun e w' => e = .returned (.tuple #[]) ∧ (∃ v', RIs w' c v' (rgoneL L n)) ∧ Upd c w w' := by
  obtain ⟨i0, hi0, hzz⟩ := Option.map_eq_some_iff.1 rInfo
  simp only [Prod.mk.injEq] at hzz
  obtain ⟨hz0, hz1, hz2⟩ := hzz
  obtain ⟨av, cv, rfl⟩ := h.form
  obtain ⟨ll, hll⟩ : ∃ ll, ll = L.length := ⟨_, rfl⟩
  rw [← hll] at h hl
  have HR : Hid (RIs w c (.slice av ll cv) L) := h
  have HLL : Hid (ll = L.length) := hll
  clear h hll
  go_enter Try.func15, Try.ntmps15
  go_wp2
  go_loopw [4, 5] (fun s i wr => ∃ (j : Nat) (u : Value), j ≤ ll ∧ i = .int .i64 j ∧ u = s ∧ wr.ownsRow w.heap.size 67 3 u (rgoneL (L.take j) n).length (rcells (rgoneL (L.take j) n)) ∧ Below w.heap.size w wr) (fun _ i _ => ll - (intOf i).toNat)
  case atStart => exact ⟨0, _, by omega, rfl, rfl, World.ownsRow_nil _ _ _ _, Below.refl _ _⟩
  case round =>
    obtain ⟨j, u, hj, rfl, rfl, hown, hb⟩ := hrel
    have hR := RIs.below HR.out hb
    have c0 := hR.c0
    have hws := hb.size
    have HO : Hid (wr.ownsRow w.heap.size 67 3 u (rgoneL (L.take j) n).length (rcells (rgoneL (L.take j) n))) := hown
    have HB : Hid (Below w.heap.size w wr) := hb
    by_cases hlt : j < ll
    · obtain ⟨m, hm⟩ : ∃ m, L[j]? = some m := ⟨L[j]'(by rw [← HLL.out]; exact hlt), List.getElem?_eq_getElem _⟩
      obtain ⟨g, cap, e, _, d0, d1, d2⟩ := hR.at hm
      simp only [Value.slice.injEq] at e
      obtain ⟨rfl, _, rfl⟩ := e
      have hji : (j : Int) < (ll : Int) := by omega
      have hle : (rgoneL (L.take j) n).length ≤ j := Nat.le_trans (rgoneL_len _ _) (by simp; omega)
      by_cases ht : m.tt = n
      · have ge : (m.tt != n) = false := by simp [ht]
        have HF : Hid (rgoneL (L.take (j + 1)) n = rgoneL (L.take j) n) := by show _ = _; rw [take_snoc hm, rgoneL_snoc, if_neg (fun q => q.1 ht)]
        clear hR hown hb hm ht
        go_wp2
        go_roundw
        case rel => exact ⟨j + 1, _, by omega, by go_num, rfl, by rw [HF.out]; exact HO.out, HB.out⟩
        case measure => simp [intOf]; omega
      · have ge : (m.tt != n) = true := by simp [ht]
        by_cases hf : m.fr = n
        · have gf : (m.fr != n) = false := by simp [hf]
          have HF : Hid (rgoneL (L.take (j + 1)) n = rgoneL (L.take j) n) := by show _ = _; rw [take_snoc hm, rgoneL_snoc, if_neg (fun q => q.2 hf)]
          clear hR hown hb hm ht hf
          go_wp2
          go_roundw
          case rel => exact ⟨j + 1, _, by omega, by go_num, rfl, by rw [HF.out]; exact HO.out, HB.out⟩
          case measure => simp [intOf]; omega
        · have gf : (m.fr != n) = true := by simp [hf]
          have HF : Hid (rgoneL (L.take (j + 1)) n = rgoneL (L.take j) n ++ [m]) := by show _ = _; rw [take_snoc hm, rgoneL_snoc, if_pos ⟨ht, hf⟩]
          clear hR hown hb hm ht hf
          generalize rgoneL (L.take j) n = D at *
          go_wp2_with (at_builtin; refine wpList_append_lies _ rfl _ _ _ rfl w.heap.size 67 i0 _ 3 40 Try.underlying26 hi0 hz0 hz1 hz2 rfl (by omega) u D.length (rcells D) rfl (World.ownsRow.alloc HO.out _) ⟨wr.heap.size, 0, none⟩ 1 1 [.int .i64 m.fr, .int .i64 m.tt, .slice m.a m.ws.length m.cap] rfl rfl (World.news_of_block (cs := #[.int .i64 m.fr, .int .i64 m.tt, .slice m.a m.ws.length m.cap]) (t := 67) (fr := (0, 0)) (heap_alloc_new _ _)) (by simp [Value.oneCell']) (by omega) (by unfold maxLen; omega) (by omega) (by simp; omega) _ rfl ?_; intro gg capx w2 hown2 hgrow hat hlt2)
          go_roundw
          case rel =>
            refine ⟨j + 1, _, by omega, by go_num, rfl, ?_, (HB.out.alloc hws _).trans (below_grown hgrow (by simp; omega) (ownsRow_low HO.out))⟩
            rw [HF.out, rcells_app, List.length_append]
            exact hown2
          case measure => simp [intOf]; omega
    · obtain rfl : j = ll := by omega
      have HT : Hid (L.take j = L) := by show _ = _; rw [HLL.out]; simp
      have ho := HO.out
      rw [HT.out] at ho
      obtain ⟨au, cu, e⟩ := own_slice ho
      subst e
      have HP : Hid _ := (HR.out).put hb ho (fun m hm => by
        have : m ∈ L := (List.mem_filter.1 hm).1
        exact (hR.wd m this))
      have f0 := hR.free
      clear hR hown hb ho HO
      go_wp2
      go_end0
      exact ⟨rfl, ⟨_, HP.out.1⟩, HP.out.2⟩
end Go.Proofs.Ytikeknehkoccpaa
