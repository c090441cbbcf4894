/- Lists of ints as the references have them: is one among them, one put where it belongs. -/
import Derived.Test.YtkdbmfckfbmbiaaOwnR
import Derived.Laws.AppendOwnNone
import Derived.Lib.SmallJoins
namespace Go.Proofs.Ytkdbmfckfbmbiaa
open Go.RowKit
set_option linter.unusedVariables false

/-- A number where it belongs, once. -/
def insI (n : Int) : List Int → List Int
  | [] => [n]
  | a :: l => if a < n then a :: insI n l else if a = n then a :: l else n :: a :: l
def Up (l : List Int) : Prop := l.Pairwise (· < ·)
theorem insI_mem (n : Int) : ∀ (l : List Int) (a : Int), a ∈ insI n l ↔ a = n ∨ a ∈ l
  | [], a => by simp [insI]
  | b :: l, a => by
    unfold insI
    split
    · rw [List.mem_cons, insI_mem n l a, List.mem_cons]
      grind
    · split
      · rename_i e
        subst e
        simp
      · simp
theorem insI_up (n : Int) : ∀ (l : List Int), Up l → Up (insI n l)
  | [], _ => by simp [insI, Up]
  | b :: l, h => by
    unfold Up at h
    rw [List.pairwise_cons] at h
    unfold insI
    split
    · rename_i hb
      unfold Up
      rw [List.pairwise_cons]
      refine ⟨fun a ha => ?_, insI_up n l h.2⟩
      rcases (insI_mem n l a).1 ha with rfl | ha
      · exact hb
      · exact h.1 a ha
    · split
      · unfold Up
        rw [List.pairwise_cons]
        exact h
      · unfold Up
        rw [List.pairwise_cons, List.pairwise_cons]
        refine ⟨fun a ha => ?_, h⟩
        rcases List.mem_cons.1 ha with rfl | ha
        · omega
        · have := h.1 a ha
          omega
theorem insI_len (n : Int) : ∀ (l : List Int), (insI n l).length ≤ l.length + 1
  | [] => by simp [insI]
  | b :: l => by
    unfold insI
    have := insI_len n l
    split
    · simp; omega
    · split
      · simp
      · simp
theorem up_eq {l m : List Int} (h1 : Up l) (h2 : Up m) (h : ∀ a, a ∈ l ↔ a ∈ m) : l = m := by
  have n1 : l.Nodup := h1.imp (fun hab => by omega)
  have n2 : m.Nodup := h2.imp (fun hab => by omega)
  have hp := (List.perm_ext_iff_of_nodup n1 n2).2 h
  exact hp.eq_of_pairwise (fun a b _ _ h1 h2 => by omega) h1 h2
theorem insI_at (n : Int) : ∀ (i : Nat) (D : List Int), (∀ (j : Nat) (x : Int), j < i → D[j]? = some x → x < n) → i ≤ D.length → (∀ x, D[i]? = some x → ¬ x < n) → insI n D = D.take i ++ n :: D.drop (if D[i]? = some n then i + 1 else i)
  | 0, [], _, _, _ => by simp [insI]
  | 0, a :: l, _, _, h => by
    have := h a (by simp)
    unfold insI
    rw [if_neg this]
    by_cases e : a = n
    · simp [e]
    · simp [e]
  | i + 1, [], _, hi, _ => by simp at hi
  | i + 1, a :: l, h1, hi, h2 => by
    have ha := h1 0 a (by omega) (by simp)
    unfold insI
    rw [if_pos ha]
    have ih := insI_at n i l (fun j x hj hx => h1 (j + 1) x (by omega) (by simpa using hx)) (by simpa using hi) (fun x hx => h2 x (by simpa using hx))
    rw [ih]
    simp only [List.getElem?_cons_succ, List.take_succ_cons, List.cons_append]
    congr 2
    by_cases e : l[i]? = some n
    · simp [e]
    · simp [e]
theorem elemI : Try.prog.elem 56 = 3 := by kernel_rfl
set_option maxRecDepth 100000 in
/-- l[j:] of ints. -/
theorem cut_int (D : List Int) (a : Option Addr) (len cap j : Nat) (hl : len = D.length) (hj : j ≤ len) (W : World) (ha : IRow W a D) (hcap : len ≤ cap) : ∃ a2 c2, (∀ V, (Instr.slice 56 (.slice a len cap) (some (.int .i64 (j : Int))) none none).run Try.prog V = .ok (.slice a2 (len - j) c2) V) ∧ (j < len → ∃ ad, a2 = some ad ∧ ∀ i u, (ivs (D.drop j))[i]? = some u → W.cell? (ad.add i) = some u) := by
  obtain ⟨i0, hi0, hzz⟩ := Option.map_eq_some_iff.1 intInfo
  simp only [Prod.mk.injEq] at hzz
  refine ⟨if cap = j then a else a.map (·.add (j * 1)), cap - j, fun V => ?_, fun hlt => ?_⟩
  · have hk0 : (j : Int) ≤ (len : Int) := by omega
    rw [run_slice_l V 56 _ _ _ Try.underlying56 _ _ (by omega) hk0]
    simp [sizeOf, typeInfo, elemI, hi0, sliced, hzz.2.1]
  · have hj2 : j < D.length := by omega
    obtain ⟨ga, oa, rfl, hc⟩ := ha j _ (List.getElem?_eq_getElem hj2)
    refine ⟨⟨ga, oa + j, none⟩, ?_, fun i u hu => ?_⟩
    · rw [if_neg (by omega)]
      simp [Addr.add]
    · have hu2 : (D.drop j)[i]?.map (Value.int .i64) = some u := by
        rw [← hu]
        simp [ivs]
      obtain ⟨x, hx, rfl⟩ := Option.map_eq_some_iff.1 hu2
      rw [List.getElem?_drop] at hx
      obtain ⟨ga', oa', e, hc'⟩ := ha (j + i) x hx
      simp only [Option.some.injEq, Addr.mk.injEq] at e
      obtain ⟨rfl, rfl, _⟩ := e
      have e2 : (⟨ga, oa + j, none⟩ : Addr).add i = ⟨ga, oa + j + i, none⟩ := by unfold Addr.add; split <;> simp_all
      rw [e2, Nat.add_assoc]
      exact hc'
set_option maxRecDepth 100000 in
set_option maxHeartbeats 4000000 in
theorem rputi_at (D : List Int) (a : Option Addr) (cap : Nat) (n : Int) (w : World) (ha : IRow w a D) (hl : D.length ≤ 1000) (hcap : D.length ≤ cap) :
    Calls Try.prog 51 #[.slice a D.length cap, .int .i64 n] w fun e w' => ∃ v, e = .returned v ∧ w'.ownsRow w.heap.size 3 1 v (insI n D).length (ivs (insI n D)) ∧ Below w.heap.size w w' := by
  obtain ⟨i0, hi0, hzz⟩ := Option.map_eq_some_iff.1 intInfo
  simp only [Prod.mk.injEq] at hzz
  obtain ⟨hz0, hz1, hz2⟩ := hzz
  have HA : Hid _ := ha
  clear ha
  obtain ⟨len, hlen⟩ : ∃ len, len = D.length := ⟨_, rfl⟩
  have HLen : Hid _ := hlen
  rw [← hlen] at hl hcap ⊢
  clear hlen
  go_enter Try.func51, Try.ntmps51
  go_wp2
  go_loopw [5, 6] (fun s5 s6 wr => ∃ (i : Nat) (v : Value), i ≤ len ∧ v = s5 ∧ s6 = .int .i64 i ∧ wr.ownsRow w.heap.size 3 1 v i (ivs (D.take i)) ∧ Hid (∀ (j : Nat) (x : Int), j < i → D[j]? = some x → x < n) ∧ Below w.heap.size w wr) (fun _ s6 _ => len - (intOf s6).toNat)
  case atStart => exact ⟨0, _, by omega, rfl, rfl, World.ownsRow_nil _ _ _ _, (show Hid _ from fun j x hj => absurd hj (Nat.not_lt_zero _)), Below.refl _ _⟩
  case round =>
    obtain ⟨i, v, hi, rfl, rfl, hown, HN, hb⟩ := hrel
    have HO : Hid _ := hown
    have HOA : Hid (∀ o, (wr.alloc o).ownsRow w.heap.size 3 1 v i (ivs (D.take i))) := fun o => hown.alloc o
    have HB : Hid _ := hb
    have hws := hb.size
    have hown9 := hown
    clear hown hb
    by_cases hlt : i < len
    · obtain ⟨x, hx⟩ : ∃ x, D[i]? = some x := ⟨D[i]'(by rw [← HLen.out]; exact hlt), List.getElem?_eq_getElem _⟩
      obtain ⟨ga, oa, rfl, c0⟩ := HA.out i x hx
      have c1 := (HB.out.cell (cell_lt c0)).trans c0
      have hii : (i : Int) < (len : Int) := by omega
      by_cases hxn : x < n
      · have gd : decide (x < n) = true := decide_eq_true hxn
        have HT : Hid (D.take (i + 1) = D.take i ++ [x]) := by
          obtain ⟨h1, rfl⟩ := List.getElem?_eq_some_iff.1 hx
          show D.take (i + 1) = D.take i ++ [D[i]]
          simp
        have HN2 : Hid (∀ (j : Nat) (y : Int), j < i + 1 → D[j]? = some y → y < n) := by
          intro j y hj hy
          by_cases e : j = i
          · rw [e, hx] at hy
            cases hy
            exact hxn
          · exact HN.out j y (by omega) hy
        clear hx hxn hown9
        go_wp2_with (at_builtin; refine wpList_append_lies _ rfl _ _ _ rfl w.heap.size 3 i0 _ 1 8 Try.underlying56 hi0 hz0 hz1 hz2 rfl (by omega) v i (ivs (D.take i)) rfl (HOA.out _) ⟨wr.heap.size, 0, none⟩ 1 1 [.int .i64 x] rfl rfl (World.news_of_block (cs := #[.int .i64 x]) (t := 3) (fr := (0, 0)) (heap_alloc_new _ _)) (by simp [Value.oneCell']) (by omega) (by unfold maxLen; omega) (by omega) (by simp; omega) _ rfl ?_; intro gg capx w2 hown2 hgrow hat hlt2)
        go_roundw
        case rel =>
          refine ⟨i + 1, _, by omega, rfl, by go_num, ?_, HN2, (HB.out.alloc hws _).trans (below_grown hgrow (by simp; omega) (ownsRow_low HO.out))⟩
          rw [HT.out, ivs_app]
          exact hown2
        case measure => simp [intOf]; omega
      · have gd : decide (x < n) = false := decide_eq_false hxn
        by_cases hxe : x = n
        · have ge : (x == n) = true := by simp [hxe]
          by_cases hj1 : i + 1 < len
          · have HI : Hid (insI n D = D.take i ++ n :: D.drop (i + 1)) := by
              show insI n D = _
              rw [insI_at n i D HN.out (by have := HLen.out; omega) (fun y hy => by rw [hx] at hy; cases hy; exact hxn), if_pos (by rw [hx, hxe])]
            obtain ⟨a2, c2, hs2, hcells⟩ := cut_int D _ len cap (i + 1) HLen.out (by omega) w HA.out hcap
            obtain ⟨ad, rfl, hnw⟩ := hcells (by omega)
            have HNW : Hid _ := hnw
            have HDL : Hid ((ivs (D.drop (i + 1))).length = (len - (i + 1)) * 1) := by
              show (ivs (D.drop (i + 1))).length = (len - (i + 1)) * 1
              have := HLen.out
              rw [ivs_len, List.length_drop]
              omega
            rw [show ((i + 1 : Nat) : Int) = (i : Int) + 1 by omega] at hs2
            clear hnw HA HN hown9 hx hxe hxn
            go_wp2_with (first | (at_builtin; refine wpList_append_lies _ rfl (.tmp 28) (.tmp 30) _ rfl w.heap.size 3 i0 _ 1 8 Try.underlying56 hi0 hz0 hz1 hz2 rfl (by omega) v i (ivs (D.take i)) rfl (HOA.out _) ⟨wr.heap.size, 0, none⟩ 1 1 [.int .i64 n] rfl rfl (World.news_of_block (cs := #[.int .i64 n]) (t := 3) (fr := (0, 0)) (heap_alloc_new _ _)) (by simp [Value.oneCell']) (by omega) (by unfold maxLen; omega) (by omega) (by simp; omega) _ rfl ?_; intro g2 cap2 w2 hown2 hgrow2 hat2 hlt2; have B2 : Below w.heap.size w w2 := (HB.out.alloc hws _).trans (below_grown hgrow2 (by simp; omega) (ownsRow_low HO.out)); have c3x := (B2.cell (cell_lt c0)).trans c0) | (at_builtin; refine wpList_append_lies _ rfl (.tmp 46) (.tmp 49) _ rfl w.heap.size 3 i0 _ 1 8 Try.underlying56 hi0 hz0 hz1 hz2 rfl (by omega) (.slice (some ⟨g2, 0, none⟩) (i + 1) cap2) (i + 1) (ivs (D.take i) ++ [.int .i64 n]) rfl hown2 ad (len - (i + 1)) c2 (ivs (D.drop ((i + 1)))) rfl HDL.out (fun t u hu => (B2.cell (cell_lt (HNW.out t u hu))).trans (HNW.out t u hu)) (ivs_one _) (by omega) (by unfold maxLen; omega) (by omega) B2.size _ rfl ?_; intro g3 cap3 w3 hown3 hgrow3 hat3 hlt3))
            go_ret
            refine ⟨_, rfl, ?_, B2.trans (below_grown hgrow3 B2.size (ownsRow_low hown2))⟩
            have e1 : (insI n D).length = i + 1 + (len - (i + 1)) := by
              have := HLen.out
              rw [HI.out, List.length_append, List.length_take, List.length_cons, List.length_drop]
              omega
            have e2 : ivs (insI n D) = ivs (D.take i) ++ [.int .i64 n] ++ ivs (D.drop (i + 1)) := by
              rw [HI.out, ivs_app]
              simp [ivs]
            rw [e1, e2]
            exact hown3
          · have HI : Hid (insI n D = D.take i ++ [n]) := by
              show insI n D = D.take i ++ [n]
              rw [insI_at n i D HN.out (by have := HLen.out; omega) (fun y hy => by rw [hx] at hy; cases hy; exact hxn), if_pos (by rw [hx, hxe]), List.drop_eq_nil_of_le (by have := HLen.out; omega)]
            obtain ⟨a2, c2, hs2, _⟩ := cut_int D _ len cap (i + 1) HLen.out (by omega) w HA.out hcap
            have HZ : Hid (∀ (V : World) (g1 cap1 : Nat), i + 1 ≤ cap1 → ∀ ty, (Builtin.append_ #[56, 56] ty #[.slice (some ⟨g1, 0, none⟩) (i + 1) cap1, .slice a2 (len - (i + 1)) c2]).run Try.prog V = .ok (.slice (some ⟨g1, 0, none⟩) (i + 1) cap1) V) := by
              intro V g1 cap1 hle ty
              rw [show len - (i + 1) = 0 by omega]
              exact run_append_zero V _ _ i0 Try.underlying56 hi0 _ _ _ _ _ hle ty
            rw [show ((i + 1 : Nat) : Int) = (i : Int) + 1 by omega] at hs2
            clear HA HN hown9 hx hxe hxn
            go_wp2_with (first | (at_builtin; refine wpList_append_lies _ rfl (.tmp 28) (.tmp 30) _ rfl w.heap.size 3 i0 _ 1 8 Try.underlying56 hi0 hz0 hz1 hz2 rfl (by omega) v i (ivs (D.take i)) rfl (HOA.out _) ⟨wr.heap.size, 0, none⟩ 1 1 [.int .i64 n] rfl rfl (World.news_of_block (cs := #[.int .i64 n]) (t := 3) (fr := (0, 0)) (heap_alloc_new _ _)) (by simp [Value.oneCell']) (by omega) (by unfold maxLen; omega) (by omega) (by simp; omega) _ rfl ?_; intro g2 cap2 w2 hown2 hgrow2 hat2 hlt2; have B2 : Below w.heap.size w w2 := (HB.out.alloc hws _).trans (below_grown hgrow2 (by simp; omega) (ownsRow_low HO.out)); have c3x := (B2.cell (cell_lt c0)).trans c0) | (at_builtin; refine wpList_append_eq rfl (.tmp 46) (.tmp 49) _ rfl (.slice (some ⟨g2, 0, none⟩) (i + 1) cap2) (.slice a2 (len - (i + 1)) c2) (.slice (some ⟨g2, 0, none⟩) (i + 1) cap2) rfl rfl (HZ.out w2 g2 cap2 (own_le1 hown2)) ?_))
            go_ret
            refine ⟨_, rfl, ?_, B2⟩
            have e1 : (insI n D).length = i + 1 := by
              have := HLen.out
              rw [HI.out, List.length_append, List.length_take]
              simp
              omega
            have e2 : ivs (insI n D) = ivs (D.take i) ++ [.int .i64 n] := by
              rw [HI.out, ivs_app]
              simp [ivs]
            rw [e1, e2]
            exact hown2
        · have ge : (x == n) = false := by simp [hxe]
          have HI : Hid (insI n D = D.take i ++ n :: D.drop (i)) := by
            show insI n D = _
            rw [insI_at n i D HN.out (by have := HLen.out; omega) (fun y hy => by rw [hx] at hy; cases hy; exact hxn), if_neg (by rw [hx]; simpa using hxe)]
          obtain ⟨a2, c2, hs2, hcells⟩ := cut_int D _ len cap (i) HLen.out (by omega) w HA.out hcap
          obtain ⟨ad, rfl, hnw⟩ := hcells (by omega)
          have HNW : Hid _ := hnw
          have HDL : Hid ((ivs (D.drop (i))).length = (len - (i)) * 1) := by
            show (ivs (D.drop (i))).length = (len - (i)) * 1
            have := HLen.out
            rw [ivs_len, List.length_drop]
            omega
          clear hnw HA HN hown9 hx hxe hxn
          go_wp2_with (first | (at_builtin; refine wpList_append_lies _ rfl (.tmp 28) (.tmp 30) _ rfl w.heap.size 3 i0 _ 1 8 Try.underlying56 hi0 hz0 hz1 hz2 rfl (by omega) v i (ivs (D.take i)) rfl (HOA.out _) ⟨wr.heap.size, 0, none⟩ 1 1 [.int .i64 n] rfl rfl (World.news_of_block (cs := #[.int .i64 n]) (t := 3) (fr := (0, 0)) (heap_alloc_new _ _)) (by simp [Value.oneCell']) (by omega) (by unfold maxLen; omega) (by omega) (by simp; omega) _ rfl ?_; intro g2 cap2 w2 hown2 hgrow2 hat2 hlt2; have B2 : Below w.heap.size w w2 := (HB.out.alloc hws _).trans (below_grown hgrow2 (by simp; omega) (ownsRow_low HO.out)); have c3x := (B2.cell (cell_lt c0)).trans c0) | (at_builtin; refine wpList_append_lies _ rfl (.tmp 46) (.tmp 49) _ rfl w.heap.size 3 i0 _ 1 8 Try.underlying56 hi0 hz0 hz1 hz2 rfl (by omega) (.slice (some ⟨g2, 0, none⟩) (i + 1) cap2) (i + 1) (ivs (D.take i) ++ [.int .i64 n]) rfl hown2 ad (len - i) c2 (ivs (D.drop (i))) rfl HDL.out (fun t u hu => (B2.cell (cell_lt (HNW.out t u hu))).trans (HNW.out t u hu)) (ivs_one _) (by omega) (by unfold maxLen; omega) (by omega) B2.size _ rfl ?_; intro g3 cap3 w3 hown3 hgrow3 hat3 hlt3))
          go_ret
          refine ⟨_, rfl, ?_, B2.trans (below_grown hgrow3 B2.size (ownsRow_low hown2))⟩
          have e1 : (insI n D).length = i + 1 + (len - (i)) := by
            have := HLen.out
            rw [HI.out, List.length_append, List.length_take, List.length_cons, List.length_drop]
            omega
          have e2 : ivs (insI n D) = ivs (D.take i) ++ [.int .i64 n] ++ ivs (D.drop (i)) := by
            rw [HI.out, ivs_app]
            simp [ivs]
          rw [e1, e2]
          exact hown3
    · obtain rfl : i = len := by omega
      have HI : Hid (insI n D = D.take i ++ [n]) := by
        show insI n D = D.take i ++ [n]
        rw [insI_at n i D HN.out (by have := HLen.out; omega) (fun y hy => by have h9 := (List.getElem?_eq_some_iff.1 hy).1; have := HLen.out; omega), List.drop_eq_nil_of_le (by have := HLen.out; split <;> omega)]
      obtain ⟨a2, c2, hs2, _⟩ := cut_int D _ i cap (i) HLen.out (by omega) w HA.out hcap
      rw [Nat.sub_self] at hs2
      have HZ : Hid (∀ (V : World) (g1 cap1 : Nat), i + 1 ≤ cap1 → ∀ ty, (Builtin.append_ #[56, 56] ty #[.slice (some ⟨g1, 0, none⟩) (i + 1) cap1, .slice a2 0 c2]).run Try.prog V = .ok (.slice (some ⟨g1, 0, none⟩) (i + 1) cap1) V) := by
        intro V g1 cap1 hle ty
        exact run_append_zero V _ _ i0 Try.underlying56 hi0 _ _ _ _ _ hle ty
      clear HA HN hown9
      go_wp2_with (first | (at_builtin; refine wpList_append_lies _ rfl (.tmp 28) (.tmp 30) _ rfl w.heap.size 3 i0 _ 1 8 Try.underlying56 hi0 hz0 hz1 hz2 rfl (by omega) v i (ivs (D.take i)) rfl (HOA.out _) ⟨wr.heap.size, 0, none⟩ 1 1 [.int .i64 n] rfl rfl (World.news_of_block (cs := #[.int .i64 n]) (t := 3) (fr := (0, 0)) (heap_alloc_new _ _)) (by simp [Value.oneCell']) (by omega) (by unfold maxLen; omega) (by omega) (by simp; omega) _ rfl ?_; intro g2 cap2 w2 hown2 hgrow2 hat2 hlt2; have B2 : Below w.heap.size w w2 := (HB.out.alloc hws _).trans (below_grown hgrow2 (by simp; omega) (ownsRow_low HO.out))) | (at_builtin; refine wpList_append_eq rfl (.tmp 46) (.tmp 49) _ rfl (.slice (some ⟨g2, 0, none⟩) (i + 1) cap2) (.slice a2 0 c2) (.slice (some ⟨g2, 0, none⟩) (i + 1) cap2) rfl rfl (HZ.out w2 g2 cap2 (own_le1 hown2)) ?_))
      go_ret
      refine ⟨_, rfl, ?_, B2⟩
      have e1 : (insI n D).length = i + 1 := by
        have := HLen.out
        rw [HI.out, List.length_append, List.length_take]
        simp
        omega
      have e2 : ivs (insI n D) = ivs (D.take i) ++ [.int .i64 n] := by
        rw [HI.out, ivs_app]
        simp [ivs]
      rw [e1, e2]
      exact hown2
end Go.Proofs.Ytkdbmfckfbmbiaa
