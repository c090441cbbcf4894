/- The reference kernel of blocks: Look, Get, Put. -/
import Derived.Test.YtfnafjddajgahaaRdA
namespace Go.Proofs.Ytfnafjddajgahaa
open Go.RowKit Ca
set_option linter.unusedVariables false

theorem WRow.set {w : World} {wb n b : Nat} {l : Lines} (h : WRow w wb n l) (hb : b < n) (u : Value) (ws : List Int) (c : Bool) (hu : URow 0 w u ws) : WRow (w.setCell ⟨wb, b, none⟩ u) wb n (l.set b (some ws, c)) := by
  obtain ⟨row, hr, hs, hc⟩ := h
  have hup : UpdP (fun k => k = wb) w (w.setCell ⟨wb, b, none⟩ u) := (Upd.setCell _ _ _ _).p _ rfl
  have hp : ∀ k, k = wb → ∀ cur fr, w.heap[k]? ≠ some (.cells cur 22 fr) := fun k e cur fr hk => apart hk hr (by decide) e
  refine ⟨row.setIfInBounds b u, by rw [setCell_eq_setRow w wb _ _ _ _ _ hr, setRow_heap w wb _ _ _ _ hr], by simp [hs], fun i hi => ?_⟩
  by_cases e : i = b
  · subst e
    refine ⟨u, by rw [Array.getElem?_setIfInBounds, if_pos rfl, if_pos (by omega)], fun ws' e' => ?_⟩
    rw [Lines.set_same] at e'
    cases e'
    exact hu.keepT hup hp
  · obtain ⟨v, g1, g2⟩ := hc i hi
    refine ⟨v, by rw [Array.getElem?_setIfInBounds, if_neg (by omega)]; exact g1, fun ws' e' => ?_⟩
    rw [Lines.set_other _ _ _ _ e] at e'
    exact (g2 ws' e').keepT hup hp
theorem WRow.some {w : World} {wb n b : Nat} {l : Lines} (h : WRow w wb n l) (hb : b < n) : (∃ v, w.cell? ⟨wb, b, none⟩ = some v) ∧ w.frozen? ⟨wb, b, none⟩ = false := by
  obtain ⟨row, hr, hs, hc⟩ := h
  exact ⟨⟨_, by rw [cell_of_heap hr]; exact Array.getElem?_eq_getElem (by omega)⟩, frozen_of_heap hr⟩
theorem set2_heap {w : World} {X : Nat} {t : TypeId} {a b c d e : Value} (h : w.heap[X]? = some (.cells #[a, b, c, d, e] t)) (v : Value) : (w.setCell ⟨X, 2, none⟩ v).heap[X]? = some (.cells #[a, b, v, d, e] t) := by
  rw [setCell_eq_setRow w X _ _ _ _ _ h, setRow_heap w X _ _ _ _ h]; rfl
theorem set3_heap {w : World} {X : Nat} {t : TypeId} {a b c d e : Value} (h : w.heap[X]? = some (.cells #[a, b, c, d, e] t)) (v : Value) : (w.setCell ⟨X, 3, none⟩ v).heap[X]? = some (.cells #[a, b, c, v, e] t) := by
  rw [setCell_eq_setRow w X _ _ _ _ _ h, setRow_heap w X _ _ _ _ h]; rfl
theorem cells5 {w : World} {X : Nat} {t : TypeId} {a b c d e : Value} (h : w.heap[X]? = some (.cells #[a, b, c, d, e] t)) : w.cell? ⟨X, 0, none⟩ = some a ∧ w.cell? ⟨X, 1, none⟩ = some b ∧ w.cell? ⟨X, 2, none⟩ = some c ∧ w.cell? ⟨X, 3, none⟩ = some d ∧ w.cell? ⟨X, 4, none⟩ = some e := by
  refine ⟨?_, ?_, ?_, ?_, ?_⟩ <;> (rw [cell_of_heap h]; rfl)

section
variable {w w' : World} {X : Nat} {Q : Rq} {n m : Nat} {vs : List Int} {l : Lines} {L : List Ce} {last : Int} {T : Tab}
theorem RkX.Xwb (h : RkX w X Q n m vs l L last) : X ≠ Q.wb := by
  obtain ⟨iv, nv, hx, _⟩ := h.head
  obtain ⟨row, hr, _⟩ := h.wrow
  exact apart hx hr (by decide)
set_option maxRecDepth 100000 in
set_option maxHeartbeats 1000000 in
theorem rxlook_at (h : RkX w X Q n m vs l L last) (hn : n ≤ 1000) (b : Nat) (hb : b < n) :
    Calls Try.prog 115 #[ptr X, .int .i64 b] w fun x w' => ∃ r c, x = .returned (.slice (some ⟨r, 0, none⟩) 32 c) ∧ (∀ (j : Nat) (y : Int), (lookW l vs b)[j]? = some y → w.cell? ⟨r, 0 + j, none⟩ = some (.int .u64 y)) ∧ w' = w := by
  obtain ⟨iv, nv, hx, hi, hnv⟩ := h.head
  obtain ⟨x0, x1, x2, x3, x4⟩ := cells5 hx
  obtain ⟨a, cap, rfl, hrow, _⟩ := hi.row
  have hin := rin_at (inL l n) a cap b w hrow (by have := fl_len (fun i => (l i).1.isSome) n; unfold inL; omega)
  rw [in_has hb] at hin
  have ib : (b : Int) < (n : Int) := by omega
  have ib2 : ¬ ((n : Int) ≤ (b : Int)) := by omega
  cases hl : (l b).1 with
  | some ws =>
    rw [hl] at hin
    obtain ⟨row, hr, hs, hc⟩ := h.wrow
    obtain ⟨v, g1, g2⟩ := hc b hb
    have c1 : w.cell? ⟨Q.wb, b, none⟩ = some v := by rw [cell_of_heap hr]; exact g1
    obtain ⟨r, c, rfl, hcs⟩ := (g2 ws hl).has (h.linv.len b hb ws hl)
    have HV : Hid (∀ (j : Nat) (y : Int), (lookW l vs b)[j]? = Option.some y → w.cell? ⟨r, 0 + j, none⟩ = Option.some (.int .u64 y)) := by
      show ∀ _, _
      unfold lookW
      rw [hl]
      exact hcs
    clear h hr hc g1 g2 hrow hi hnv hx hl hcs
    generalize (inL l n).length = z at *
    go_enter Try.func115, Try.ntmps115
    go_wp2_with (go_at_call 114; refine hin.mono ?_; rintro x w1 ⟨rfl, hw1⟩; rw [hw1]; clear hw1 w1)
    go_ret
    exact ⟨r, c, rfl, HV.out, rfl⟩
  | none =>
    rw [hl] at hin
    obtain ⟨gt, pt, hd, _⟩ := h.disk
    have d0 := hd.c0
    obtain ⟨cur, hh, ht⟩ := hd.tab
    obtain ⟨r, c, row, q1, q2, q3, q4, q5⟩ := ht b hb
    have c1 : w.cell? ⟨Q.lb, b, none⟩ = some (.slice (some ⟨r, 0, none⟩) 32 c) := by rw [cell_of_heap hh]; exact q1
    have HV : Hid (∀ (j : Nat) (y : Int), (lookW l vs b)[j]? = Option.some y → w.cell? ⟨r, 0 + j, none⟩ = Option.some (.int .u64 y)) := by
      show ∀ _, _
      unfold lookW
      rw [hl]
      intro j y hy
      rw [cell_of_heap q2, Nat.zero_add]
      exact q5 j y hy
    clear h hd hh ht hrow hi hnv hx hl q1 q2 q3 q4 q5
    generalize (inL l n).length = z at *
    go_enter Try.func115, Try.ntmps115
    go_wp2_with (go_at_call 114; refine hin.mono ?_; rintro x w1 ⟨rfl, hw1⟩; rw [hw1]; clear hw1 w1)
    go_ret
    exact ⟨r, c, rfl, HV.out, rfl⟩

theorem rxget_no (h : RkX w X Q n m vs l L last) (hk : Lx T L last n) (e s b : Int) (hb : I64 b) (hq : mayX T e s b 1 = false) :
    Calls Try.prog 78 #[ptr X, .int .i64 e, .int .i64 s, .int .i64 b] w fun x w' => x = .returned (.tuple #[.slice none 0 0, .int .i64 104]) ∧ Below w.heap.size w w' := by
  have hM := rxmay_at h hk e s b 1 hb (Or.inl rfl)
  rw [hq] at hM
  clear h hk hq
  go_enter Try.func78, Try.ntmps78
  go_wp2_with (go_at_call 72; refine hM.mono ?_; rintro x w1 ⟨rfl, hb1⟩)
  go_ret2
  exact ⟨rfl, hb1⟩

theorem RkX.getEnd {b : Nat} {v u : Value} (h : RkX w X Q n m vs l L last) (hb : b < n) (hv : IV w v (insI b (inL l n))) (hu : URow 0 w u (lookW l vs b)) (hl : (lookW l vs b).length = 32) :
    RkX ((w.setCell ⟨X, 2, none⟩ v).setCell ⟨Q.wb, b, none⟩ u) X Q n m vs (getL l vs b) L last ∧ UpdP (fun k => k = X ∨ k = Q.wb) w ((w.setCell ⟨X, 2, none⟩ v).setCell ⟨Q.wb, b, none⟩ u) := by
  obtain ⟨iv, nv, hx, hi, hn⟩ := h.head
  have hne := h.Xwb
  have hup1 : UpdP (fun k => k = X) w (w.setCell ⟨X, 2, none⟩ v) := (Upd.setCell _ _ _ _).p _ rfl
  have hup : UpdP (fun k => k = X ∨ k = Q.wb) w ((w.setCell ⟨X, 2, none⟩ v).setCell ⟨Q.wb, b, none⟩ u) := ((Upd.setCell _ _ _ _).p _ (Or.inl rfl)).trans ((Upd.setCell _ _ _ _).p _ (Or.inr rfl))
  have h3 : ∀ k, (k = X ∨ k = Q.wb) → NoT w k := fun k e => h.noT k (by rcases e with e | e; exact Or.inl e; exact Or.inr (Or.inr (Or.inr (Or.inr e))))
  have hw1 : WRow (w.setCell ⟨X, 2, none⟩ v) Q.wb n l := h.wrow.keepT hup1 (fun e => hne e.symm) (fun k e => h3 k (Or.inl e))
  have hu1 : URow 0 (w.setCell ⟨X, 2, none⟩ v) u (lookW l vs b) := hu.keepT hup1 (fun k e => (h3 k (Or.inl e)).1)
  refine ⟨h.updL hup ⟨v, nv, ?_, ?_, ?_⟩ (hw1.set hb u _ _ hu1) (h.linv.set _ _ _ hl), hup⟩
  · exact (Below.heap_setCell _ _ _ _ hne).trans (set2_heap hx v)
  · have := hv.keepT hup (fun k hk => (h3 k hk).2.1)
    rw [in_set hb (lookW l vs b) (l b).2] at this
    exact this
  · rw [new_get]
    exact hn.keepT hup (fun k hk => (h3 k hk).2.1)

set_option maxRecDepth 100000 in
set_option maxHeartbeats 2000000 in
theorem rxget_yes (h : RkX w X Q n m vs l L last) (hk : Lx T L last n) (e s : Int) (b : Nat) (hb : I64 b) (hq : mayX T e s b 1 = true) :
    Calls Try.prog 78 #[ptr X, .int .i64 e, .int .i64 s, .int .i64 b] w fun x w' => ∃ u, x = .returned (.tuple #[u, .int .i64 0]) ∧ URow w.heap.size w' u (lookW l vs b) ∧ RkX w' X Q n m vs (getL l vs b) L last ∧ UpdP (RF X Q) w w' := by
  obtain ⟨i0, hi0, hzz⟩ := Option.map_eq_some_iff.1 Di.wordInfo
  simp only [Prod.mk.injEq] at hzz
  obtain ⟨hz0, hz1, hz2⟩ := hzz
  have hM := rxmay_at h hk e s b 1 hb (Or.inl rfl)
  rw [hq] at hM
  have hbn : b < n := by have := (mayX_in hk.inv hq).2; omega
  have HH : Hid _ := h
  have hn := hk.n2
  have HL : Hid ((lookW l vs b).length = 32) := by
    obtain ⟨gt, pt, hd, _⟩ := h.disk
    exact lookW_len h.linv hd.len hbn
  have ib : (b : Int) < (n : Int) := by omega
  clear h hk hq hb
  go_enter Try.func78, Try.ntmps78
  go_wp2_with (first | (go_at_call 72; refine hM.mono ?_; rintro x w1 ⟨rfl, hb1⟩) | fail)
  have HB1 : Hid _ := hb1
  refine (rxlook_at (HH.out.below hb1) hn b hbn).mono ?_
  rintro x w2 ⟨r, c, rfl, hcs, hw2⟩
  rw [hw2]
  clear hw2 w2
  have hK1 := HH.out.below hb1
  have HK1 : Hid _ := hK1
  have HN : Hid (∀ (j : Nat) (y : Value), (uvs (lookW l vs b))[j]? = some y → w1.cell? ((⟨r, 0, none⟩ : Addr).add j) = some y) := by
    intro j y hy
    obtain ⟨z, hz, rfl⟩ := uvs_get hy
    rw [add0]
    exact hcs j z hz
  have hown := World.ownsRow_nil w1 w1.heap.size 22 1
  clear hK1 hb1 hcs hM
  go_wp2_with (first
    | (at_builtin; refine wpList_append_lies _ rfl _ _ _ rfl w1.heap.size 22 i0 _ 1 8 Try.underlying58 hi0 hz0 hz1 hz2 rfl (by omega) (.slice none 0 0) 0 [] rfl hown ⟨r, 0, none⟩ 32 c (uvs (lookW l vs b)) rfl (by rw [uvs_len, HL.out])
        HN.out (uvs_one _) (by omega) (by unfold maxLen; omega) (by omega) (by omega) _ rfl ?_; intro gg cap2 w3 hown3 hgrow hat hlt2
       have hb3 : Below w1.heap.size w1 w3 := below_grown hgrow (Nat.le_refl _) (fun g e => by simp [Value.ownBlock] at e)
       have hK3 := HK1.out.below hb3
       obtain ⟨iv, nv, hx3, hi3, hn3⟩ := hK3.head
       obtain ⟨a3, cap3, rfl, hrow3, hcap3⟩ := hi3.row
       obtain ⟨-, -, x2, -, -⟩ := cells5 hx3)
    | fail)
  have HR3 : Hid (URow w1.heap.size w3 (.slice (some ⟨gg, 0, none⟩) 32 cap2) (lookW l vs b)) := by
    have := urow_of_own (zs := lookW l vs b) (w := w3) (base := w1.heap.size) (v := .slice (some ⟨gg, 0, none⟩) 32 cap2) (by rw [HL.out]; simpa using hown3)
    exact this
  have HB3 : Hid _ := hb3
  have HK3 : Hid _ := hK3
  have hpi := rputi_at (inL l n) a3 cap3 b w3 hrow3 (by have := fl_len (fun i => (l i).1.isSome) n; unfold inL; omega) hcap3
  clear hown3 hgrow hat hlt2 hb3 hK3 hi3 hn3 hrow3 hcap3 hx3
  refine hpi.mono ?_
  rintro x w4 ⟨v4, rfl, hown4, hb4⟩
  have hiv4 := iv_of_own hown4
  obtain ⟨a4, cap4, rfl, -, -⟩ := id hiv4
  have hK4 := HK3.out.below hb4
  have hr4 := URow.keepT HR3.out (UpdP.of_below (P := fun _ => False) hb4) (fun _ q => q.elim)
  obtain ⟨q1, q2⟩ := hK4.getEnd hbn hiv4 (hr4.mono (Nat.zero_le _)) HL.out
  obtain ⟨iv4, nv4, hx4, -, -⟩ := hK4.head
  obtain ⟨-, -, x2, -, -⟩ := cells5 hx4
  have hf4 : w4.frozen? ⟨X, 2, none⟩ = false := frozen_of_heap hx4
  have hx5 := set2_heap hx4 (.slice a4 (insI (b : Int) (inL l n)).length cap4)
  obtain ⟨-, -, -, -, x4⟩ := cells5 hx5
  have hw5 : WRow (w4.setCell ⟨X, 2, none⟩ (.slice a4 (insI (b : Int) (inL l n)).length cap4)) Q.wb n l := hK4.wrow.keepT ((Upd.setCell X 2 w4 _).p (fun k => k = X) rfl) (fun e => hK4.Xwb e.symm) (fun k e => hK4.noT k (Or.inl e))
  obtain ⟨⟨u5, c5⟩, f5⟩ := hw5.some hbn
  have HQ1 : Hid _ := q1
  have HU : Hid (UpdP (RF X Q) w _) := (((UpdP.of_below HB1.out).trans (UpdP.of_below HB3.out)).trans (UpdP.of_below hb4)).trans (q2.mono (fun k hk => by rcases hk with e | e; exact Or.inl e; exact Or.inr (Or.inr (Or.inr (Or.inr e)))))
  have HR : Hid (URow w.heap.size _ (.slice (some ⟨gg, 0, none⟩) 32 cap2) (lookW l vs b)) := (hr4.keepT q2 (fun k hk => (hK4.noT k (by rcases hk with e | e; exact Or.inl e; exact Or.inr (Or.inr (Or.inr (Or.inr e))))).1)).mono HB1.out.size
  clear q1 q2 hK4 hr4 hiv4 hown4 hb4 hx4 hx5 hw5 hpi HR3
  generalize (insI (b : Int) (inL l n)).length = z4 at *
  go_wp2
  go_ret2
  exact ⟨_, rfl, HR.out, HQ1.out, HU.out⟩
end
end Go.Proofs.Ytfnafjddajgahaa
