/- Revoke, Gone. -/
import Derived.Test.YtfnafjddajgahaaGreatCapH
import Derived.Laws.AppendOwnNone
namespace Go.Proofs.YtfnafjddajgahaaGreat
open Go.RowKit
namespace Ca
set_option linter.unusedVariables false

/-- Behind i places that were looked at: the slots, and the places found. -/
def revS (T0 : Tab) (p : Int × Int) : Nat → Tab × List (Int × Int)
  | 0 => (T0, [p])
  | i + 1 => match (revS T0 p i).2[i]? with
    | none => revS T0 p i
    | some q => (clTo (revS T0 p i).1 q.1 q.2 768, (revS T0 p i).2 ++ madeTo (revS T0 p i).1 q.1 q.2 768)
theorem revS_succ {T0 : Tab} {p q : Int × Int} {i : Nat} {T : Tab} {F : List (Int × Int)} (h : revS T0 p i = (T, F)) (hq : F[i]? = some q) : revS T0 p (i + 1) = (clTo T q.1 q.2 768, F ++ madeTo T q.1 q.2 768) := by
  simp only [revS, h, hq]
/-- How many are made of another one. -/
def cntT (T : Tab) (k : Nat) : Nat := ((List.range k).filter (fun j => (T j).s != 0)).length
theorem cntT_le (T : Tab) (k : Nat) : cntT T k ≤ k := by
  unfold cntT
  exact Nat.le_trans (List.length_filter_le _ _) (by simp)
theorem cnt_step (T : Tab) (pe ps : Int) (hp : ps ≠ 0) (K : Nat) : ∀ k, k ≤ K → cntT (clTo T pe ps K) k + (madeTo T pe ps k).length = cntT T k
  | 0, _ => by simp [cntT, madeTo]
  | k + 1, h => by
    have ih := cnt_step T pe ps hp K k (by omega)
    have e1 : ∀ T : Tab, cntT T (k + 1) = cntT T k + (if (T k).s != 0 then 1 else 0) := by
      intro T
      simp only [cntT, List.range_succ, List.filter_append, List.length_append]
      cases hq : ((T k).s != 0) <;> simp [hq]
    have e2 : (madeTo T pe ps (k + 1)).length = (madeTo T pe ps k).length + (if ofB (T k) pe ps = true then 1 else 0) := by
      simp only [madeTo, List.range_succ, List.filter_append, List.map_append, List.length_append]
      cases hq : ofB (T k) pe ps <;> simp [hq]
    rw [e1, e1, e2]
    by_cases ho : ofB (T k) pe ps = true
    · have h1 : (clTo T pe ps K k).s = 0 := by
        unfold clTo
        rw [if_pos ⟨by omega, ho⟩]
      have h2 : (T k).s = ps := by
        simp [ofB] at ho
        exact ho.2
      have h3 : ((T k).s != 0) = true := by rw [h2]; simpa using hp
      rw [h1, h3, if_pos ho]
      simp
      omega
    · have h1 : clTo T pe ps K k = T k := by
        unfold clTo
        rw [if_neg (fun e => ho e.2)]
      rw [h1, if_neg ho]
      omega
theorem revS_pos (T0 : Tab) (p : Int × Int) (hp : p.2 ≠ 0) : ∀ i, ∀ q ∈ (revS T0 p i).2, q.2 ≠ 0
  | 0 => by
    intro q hq
    simp [revS] at hq
    rw [hq]
    exact hp
  | i + 1 => by
    have ih := revS_pos T0 p hp i
    intro q hq
    unfold revS at hq
    split at hq
    · exact ih q hq
    · simp only [List.mem_append] at hq
      rcases hq with hq | hq
      · exact ih q hq
      · simp only [madeTo, List.mem_map] at hq
        obtain ⟨j, _, rfl⟩ := hq
        simp [plOf]
        omega
theorem revS_cnt (T0 : Tab) (p : Int × Int) (hp : p.2 ≠ 0) : ∀ i, (revS T0 p i).2.length + cntT (revS T0 p i).1 768 = 1 + cntT T0 768
  | 0 => by simp [revS]
  | i + 1 => by
    have ih := revS_cnt T0 p hp i
    have hpos := revS_pos T0 p hp i
    unfold revS
    split
    · exact ih
    · rename_i q hq
      have := cnt_step (revS T0 p i).1 q.1 q.2 (hpos q (List.mem_of_getElem? hq)) 768 768 (Nat.le_refl _)
      simp only [List.length_append]
      omega
theorem revS_len (T0 : Tab) (p : Int × Int) (hp : p.2 ≠ 0) (i : Nat) : (revS T0 p i).2.length ≤ 769 := by
  have h1 := revS_cnt T0 p hp i
  have h2 := cntT_le T0 768
  omega

theorem own_news {w : World} {base : Nat} {e : TypeId} {g n cap : Nat} {xs : List Value} (h : w.ownsRow base e 2 (.slice (some ⟨g, 0, none⟩) n cap) n xs) : ∀ j u, xs[j]? = some u → w.cell? ((⟨g, 0, none⟩ : Addr).add j) = some u := by
  intro j u hj
  rcases h.2 with ⟨e2, _⟩ | ⟨g', cap', cur, e2, _, hh, _, _, _, ht⟩
  · cases e2
  · simp only [Value.slice.injEq, Option.some.injEq, Addr.mk.injEq] at e2
    obtain ⟨⟨rfl, _⟩, _⟩ := e2
    have ea : (⟨g, 0, none⟩ : Addr).add j = ⟨g, 0 + j, none⟩ := by unfold Addr.add; split <;> simp_all
    rw [ea, cell_of_heap hh, Nat.zero_add]
    rw [← ht] at hj
    have hl : j < n * 2 := by
      rcases Nat.lt_or_ge j (n * 2) with hl | hl
      · exact hl
      · rw [List.getElem?_take_eq_none hl] at hj
        cases hj
    rw [List.getElem?_take_of_lt hl] at hj
    simpa using hj
theorem own_cell2 {w : World} {base : Nat} {e : TypeId} {v : Value} {L : List (Int × Int)} {i : Nat} {q : Int × Int} (h : w.ownsRow base e 2 v L.length (pcells L)) (hq : L[i]? = some q) :
    ∃ g cap, v = .slice (some ⟨g, 0, none⟩) L.length cap ∧ w.cell? ⟨g, i * 2, none⟩ = some (.int .i64 q.1) ∧ w.cell? ⟨g, i * 2 + 1, none⟩ = some (.int .i64 q.2) := by
  have hlen : i < L.length := (List.getElem?_eq_some_iff.1 hq).1
  have hv : ∃ g cap, v = .slice (some ⟨g, 0, none⟩) L.length cap := by
    rcases h.2 with ⟨_, e2⟩ | ⟨g, cap, cur, e2, _⟩
    · omega
    · exact ⟨g, cap, e2⟩
  obtain ⟨g, cap, rfl⟩ := hv
  have hn := own_news h
  have hp : ∀ (L : List (Int × Int)) (i : Nat) (q : Int × Int), L[i]? = some q → (pcells L)[i * 2]? = some (.int .i64 q.1) ∧ (pcells L)[i * 2 + 1]? = some (.int .i64 q.2) := by
    intro L
    induction L with
    | nil => intro i q hq; simp at hq
    | cons x L ih =>
      intro i q hq
      have e : pcells (x :: L) = .int .i64 x.1 :: .int .i64 x.2 :: pcells L := rfl
      rw [e]
      cases i with
      | zero =>
        simp at hq
        subst hq
        exact ⟨rfl, rfl⟩
      | succ i =>
        simp at hq
        have h2 : (i + 1) * 2 = i * 2 + 1 + 1 := by omega
        rw [h2]
        simpa using ih i q hq
  obtain ⟨p0, p1⟩ := hp L i q hq
  refine ⟨g, cap, rfl, ?_, ?_⟩
  · have := hn _ _ p0
    have ea : (⟨g, 0, none⟩ : Addr).add (i * 2) = ⟨g, 0 + i * 2, none⟩ := by unfold Addr.add; split <;> simp_all
    rwa [ea, Nat.zero_add] at this
  · have := hn _ _ p1
    have ea : (⟨g, 0, none⟩ : Addr).add (i * 2 + 1) = ⟨g, 0 + (i * 2 + 1), none⟩ := by unfold Addr.add; split <;> simp_all
    rwa [ea, Nat.zero_add] at this

theorem revoke_nil (n s : Int) (w : World) :
    Calls Tryz.prog 71 #[.pointer none, .int .i64 n, .int .i64 s] w fun e w' => e = .returned (.tuple #[.int .i64 0, .int .i64 101]) ∧ w' = w := by
  go_enter Tryz.func71, Tryz.ntmps71
  go_wp2
  go_ret2
  exact ⟨rfl, rfl⟩

theorem revoke_no (b : Nat) (T : Tab) (n s : Int) (w : World) (h : CapsAt w b T) (hq : (getT T n s).is = false) :
    Calls Tryz.prog 71 #[.pointer (some ⟨b, 0, none⟩), .int .i64 n, .int .i64 s] w fun e w' => e = .returned (.tuple #[.int .i64 0, .int .i64 104]) ∧ Below w.heap.size w w' := by
  have hg := get_at b T n s w h
  rw [hq] at hg
  clear hq h
  generalize getT T n s = x at *
  obtain ⟨k, i, l, q⟩ := x
  dsimp only [cpRow] at *
  go_enter Tryz.func71, Tryz.ntmps71
  go_wp2_with (go_at_call 103; refine hg.mono ?_; rintro e w1 ⟨rfl, hb1⟩)
  go_ret2
  exact ⟨rfl, hb1.trans ((below_alloc w1 (.cells #[.int .i64 k, .int .i64 i, .int .i64 l, .int .i64 q] 95)).mono hb1.size)⟩

set_option maxRecDepth 100000 in
set_option maxHeartbeats 2000000 in
theorem revoke_yes (b : Nat) (T : Tab) (n s : Int) (w : World) (h : CapsAt w b T) (hq : (getT T n s).is = true) :
    Calls Tryz.prog 71 #[.pointer (some ⟨b, 0, none⟩), .int .i64 n, .int .i64 s] w fun e w' => ∃ N : Nat, (revS T (n, s) (N + 1)).2.length = N + 1 ∧ e = .returned (.tuple #[.int .i64 N, .int .i64 0]) ∧ CapsAt w' b (revS T (n, s) (N + 1)).1 ∧ Upd b w w' := by
  obtain ⟨i0, hi0, hzz⟩ := Option.map_eq_some_iff.1 placeInfo
  simp only [Prod.mk.injEq] at hzz
  obtain ⟨hz0, hz1, hz2⟩ := hzz
  have hg := get_at b T n s w h
  have hs0 : s ≠ 0 := by
    obtain ⟨a, c, rfl, rfl, ha, hc⟩ := isP_nat (is_isP hq)
    omega
  rw [hq] at hg
  have HH : Hid _ := h
  have hlt := h.lt
  have HLN : Hid (∀ i, (revS T (n, s) i).2.length ≤ 769) := revS_len T (n, s) hs0
  clear hq h hs0
  generalize getT T n s = x at *
  obtain ⟨k, i, l, q⟩ := x
  dsimp only [cpRow] at *
  go_enter Tryz.func71, Tryz.ntmps71
  go_wp2_with (go_at_call 103; refine hg.mono ?_; rintro e w1 ⟨rfl, hb1⟩)
  clear hg
  obtain ⟨W, hW⟩ : ∃ W, W = (w1.alloc (.cells #[.int .i64 k, .int .i64 i, .int .i64 l, .int .i64 q] 95)).alloc (.cells #[.int .i64 n, .int .i64 s] 115) := ⟨_, rfl⟩
  have hbW : Below w1.heap.size w1 W := by rw [hW]; exact below_alloc2 _ _ _
  have HB : Hid (Below w.heap.size w W) := hb1.trans (hbW.mono hb1.size)
  have hs1 := hb1.size
  have hI : W.heap[w1.heap.size + 1]? = some (.cells #[.int .i64 n, .int .i64 s] 115) := by
    have := heap_alloc_new (w1.alloc (.cells #[.int .i64 k, .int .i64 i, .int .i64 l, .int .i64 q] 95)) (.cells #[.int .i64 n, .int .i64 s] 115)
    rw [World.size_alloc] at this
    rw [hW]
    exact this
  have HO : Hid (W.ownsRow w.heap.size 115 2 (.slice (some ⟨w1.heap.size + 1, 0, none⟩) 1 1) 1 (pcells [(n, s)])) :=
    ⟨rfl, Or.inr ⟨_, 1, _, rfl, by omega, hI, Nat.le_refl _, by unfold maxLen; omega, rfl, rfl⟩⟩
  have HC : Hid (CapsAt W b T) := HH.out.below HB.out
  clear hbW hb1 hI
  rw [← hW]
  clear hW
  go_loopw [10, 11] (fun u a wr => ∃ (j : Nat) (v : Value) (T' : Tab) (F : List (Int × Int)), j ≤ F.length ∧ F.length ≤ 769 ∧ a = .int .i64 j ∧ v = u ∧ Hid (revS T (n, s) j = (T', F)) ∧ wr.ownsRow w.heap.size 115 2 v F.length (pcells F) ∧ CapsAt wr b T' ∧ Upd b w wr) (fun _ a _ => 769 - (intOf a).toNat)
  case atStart => exact ⟨0, _, T, [(n, s)], by simp, by simp, rfl, rfl, (show Hid _ from rfl), HO.out, HC.out, Upd.of_below HB.out⟩
  case round =>
    obtain ⟨j, v, T', F, hj, hF, rfl, rfl, HR, hown, hC, hU⟩ := hrel
    by_cases hjl : j < F.length
    · obtain ⟨q', hq'⟩ : ∃ q', F[j]? = some q' := ⟨F[j], List.getElem?_eq_getElem hjl⟩
      obtain ⟨g, cap, rfl, p0, p1⟩ := own_cell2 hown hq'
      have HN : Hid _ := revS_succ HR.out hq'
      have hF2 : F.length + (madeTo T' q'.1 q'.2 768).length ≤ 769 := by
        have := HLN.out (j + 1)
        rw [HN.out] at this
        simpa using this
      have ht := takeMadeOf_at b T' q'.1 q'.2 wr hC
      have HOW : Hid _ := hown
      have HUW : Hid _ := hU
      clear hq' HR hown hC hU
      obtain ⟨qe, qs⟩ := q'
      dsimp only at *
      go_wp2_with fail
      refine ht.mono ?_
      rintro e w2 ⟨v2, rfl, hown2, hnil, hC2, hU2⟩
      clear ht p0 p1
      have hown1 := own_upd HOW.out hlt hU2
      generalize madeTo T' qe qs 768 = L2 at *
      have hsz2 : w.heap.size ≤ w2.heap.size := Nat.le_trans HUW.out.size hU2.size
      have HC2 : Hid _ := hC2
      have HU2 : Hid _ := HUW.out.trans hU2
      clear hC2 hU2 HUW HOW
      cases L2 with
      | nil =>
        have hv2 := hnil rfl
        subst hv2
        have HO1 : Hid _ := hown1
        clear hnil hown2 hown1
        go_wp2_with (at_builtin; refine wpList_append_own_none rfl _ _ _ rfl w.heap.size 115 i0 2 Tryz.underlying155 hi0 _ _ _ rfl HO1.out rfl ?_)
        go_roundw
        case rel =>
          refine ⟨j + 1, _, _, _, ?_, ?_, by go_num, rfl, HN, ?_, HC2.out, HU2.out⟩
          · simp; omega
          · simp; omega
          · rw [List.append_nil]
            exact HO1.out
        case measure => simp [intOf]; omega
      | cons y L2 =>
        have hv2 : ∃ g2 cap2, v2 = .slice (some ⟨g2, 0, none⟩) (L2.length + 1) cap2 := by
          rcases hown2.2 with ⟨_, e2⟩ | ⟨g2, cap2, cur, e2, _⟩
          · simp at e2
          · exact ⟨g2, cap2, e2⟩
        obtain ⟨g2, cap2, rfl⟩ := hv2
        have HNW : Hid _ := own_news hown2
        have HLen : Hid ((pcells (y :: L2)).length = (L2.length + 1) * 2) := by show (pcells (y :: L2)).length = (L2.length + 1) * 2; rw [pcells_len]; rfl
        have HLow : Hid _ := ownsRow_low hown1
        have HO1 : Hid _ := hown1
        have HONE : Hid (∀ u ∈ pcells (y :: L2), u.oneCell' = true) := by
          intro u hu
          simp only [pcells, List.mem_flatMap] at hu
          obtain ⟨z, _, hz⟩ := hu
          simp at hz
          rcases hz with rfl | rfl <;> rfl
        simp only [List.length_cons] at hF2
        clear hnil hown2 hown1
        go_wp2_with (at_builtin; refine wpList_append_lies _ rfl _ _ _ rfl w.heap.size 115 i0 _ 2 16 Tryz.underlying155 hi0 hz0 hz1 hz2 rfl (by omega) _ F.length (pcells F) rfl HO1.out ⟨g2, 0, none⟩ (L2.length + 1) cap2 (pcells (y :: L2)) rfl HLen.out HNW.out HONE.out (by omega) (by unfold maxLen; omega) (by omega) hsz2 _ rfl ?_; intro gg cc w3 hown3 hgrow hat hlt3)
        go_roundw
        case rel =>
          refine ⟨j + 1, _, _, _, ?_, ?_, by go_num, rfl, HN, ?_, ?_, HU2.out.grown hgrow HLow.out⟩
          · simp; omega
          · simp; omega
          · rw [pcells_app, List.length_append]
            exact hown3
          · exact HC2.out.keep (hgrow.block b HC2.out.lt (fun e => by have := HLow.out b e.symm; omega))
        case measure => simp [intOf]; omega
    · obtain rfl : j = F.length := by omega
      obtain ⟨a, cap, rfl⟩ := own_slice2 hown
      have hpos : 1 ≤ F.length := by
        have : ∀ i, 1 ≤ (revS T (n, s) i).2.length := by
          intro i
          induction i with
          | zero => simp [revS]
          | succ i ih =>
            unfold revS
            split
            · exact ih
            · simp; omega
        have h2 := this F.length
        rw [HR.out] at h2
        exact h2
      obtain ⟨N, hN⟩ : ∃ N, F.length = N + 1 := ⟨F.length - 1, by omega⟩
      have HR2 : Hid (revS T (n, s) (N + 1) = (T', F)) := by
        have := HR.out
        rwa [hN] at this
      have HN : Hid _ := hN
      have hi1 : (1 : Int) ≤ (F.length : Int) := by omega
      have hi2 : (F.length : Int) ≤ 769 := by omega
      clear hN HR
      go_wp2
      go_ret2
      refine ⟨N, ?_, ?_, ?_, hU⟩
      · rw [HR2.out]
        exact HN.out
      · have e : (F.length : Int) - 1 = (N : Int) := by have := HN.out; omega
        rw [← e]
        rfl
      · rw [HR2.out]
        exact hC

/-- Behind a Drop of its first k slots. -/
def goneT (T : Tab) (n : Int) : Nat → Tab
  | 0 => T
  | k + 1 => dropT (goneT T n k) n (k + 1 : Nat)
theorem goneT_sanes {T : Tab} (h : Sanes T) (n : Int) : ∀ k, Sanes (goneT T n k)
  | 0 => h
  | k + 1 => dropT_sanes (goneT_sanes h n k) _ _
theorem gone_nil (n : Int) (w : World) :
    Calls Tryz.prog 64 #[.pointer none, .int .i64 n] w fun e w' => e = .returned (.tuple #[]) ∧ w' = w := by
  go_enter Tryz.func64, Tryz.ntmps64
  go_wp2
  go_loopw [4] (fun s wr => ∃ (k : Nat), k ≤ 64 ∧ s = .int .i64 (k + 1 : Nat) ∧ wr = w) (fun s _ => 65 - (intOf s).toNat)
  case atStart => exact ⟨0, by omega, rfl, rfl⟩
  case round =>
    obtain ⟨k, hk, rfl, hwr⟩ := hrel
    subst hwr
    by_cases hlt : k < 64
    · go_wp2_with (go_at_call 74; refine (drop_nil _ _ _).mono ?_; rintro e w1 ⟨rfl, hw1⟩; rw [hw1]; clear hw1 w1)
      go_roundw
      case rel => exact ⟨k + 1, by omega, by go_num, by first | rfl | trivial⟩
      case measure => simp [intOf]; omega
    · obtain rfl : k = 64 := by omega
      go_wp2
      go_end0
      exact ⟨rfl, rfl⟩
theorem gone_at (b : Nat) (T : Tab) (n : Int) (w : World) (h : CapsAt w b T) (hS : Sanes T) :
    Calls Tryz.prog 64 #[.pointer (some ⟨b, 0, none⟩), .int .i64 n] w fun e w' => e = .returned (.tuple #[]) ∧ CapsAt w' b (goneT T n 64) ∧ Upd b w w' := by
  have HH : Hid _ := h
  have HS : Hid _ := hS
  clear h hS
  go_enter Tryz.func64, Tryz.ntmps64
  go_wp2
  go_loopw [4] (fun s wr => ∃ (k : Nat), k ≤ 64 ∧ s = .int .i64 (k + 1 : Nat) ∧ CapsAt wr b (goneT T n k) ∧ Upd b w wr) (fun s _ => 65 - (intOf s).toNat)
  case atStart => exact ⟨0, by omega, rfl, HH.out, Upd.refl _ _⟩
  case round =>
    obtain ⟨k, hk, rfl, hC, hU⟩ := hrel
    by_cases hlt : k < 64
    · have hd := drop_at b (goneT T n k) n (k + 1 : Nat) wr hC (goneT_sanes HS.out n k)
      generalize dropB (goneT T n k) n (k + 1 : Nat) = DB at *
      generalize dropR (goneT T n k) n (k + 1 : Nat) = DR at *
      have e : dropT (goneT T n k) n (k + 1 : Nat) = goneT T n (k + 1) := rfl
      rw [e] at hd
      clear e
      go_wp2_with (go_at_call 74; refine hd.mono ?_; rintro e w1 ⟨rfl, hC1, hU1⟩)
      go_roundw
      case rel => exact ⟨k + 1, by omega, by go_num, hC1, hU.trans hU1⟩
      case measure => simp [intOf]; omega
    · obtain rfl : k = 64 := by omega
      go_wp2
      go_end0
      exact ⟨rfl, hC, hU⟩
end Ca
end Go.Proofs.YtfnafjddajgahaaGreat
