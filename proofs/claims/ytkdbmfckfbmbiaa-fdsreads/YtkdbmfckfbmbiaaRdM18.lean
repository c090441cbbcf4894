/- What is read is written again, of any words: plain. -/
import Derived.Test.YtkdbmfckfbmbiaaRfU18
import Derived.Test.YtkdbmfckfbmbiaaFdN
namespace Go.Proofs.Ytkdbmfckfbmbiaa
open Go.RowKit
set_option linter.unusedVariables false

section
variable {ws : List Int}
theorem okL_facts (h : okL ws = true) : 1 ≤ ws.length ∧ ws.getD 0 0 ≤ 32 ∧ ws.length = 1 + wN ws * 4 + 48 := by
  unfold okL at h
  simp only [Bool.and_eq_true, decide_eq_true_eq] at h
  exact ⟨h.1.1, h.1.2, h.2⟩
theorem wN_le (h : okL ws = true) : wN ws ≤ 32 := by
  have := (okL_facts h).2.1
  unfold wN
  omega
theorem wF_get (h : okL ws = true) {j : Nat} (hj : j < wN ws * 4) : (wF ws).getD j 0 = ws.getD (1 + j) 0 := by
  unfold wF
  rw [List.getD_eq_getElem?_getD, List.getElem?_drop, List.getElem?_take_of_lt (by omega), List.getD_eq_getElem?_getD]
theorem wT_get (h : okL ws = true) (j : Nat) : (wT ws).getD j 0 = ws.getD (1 + wN ws * 4 + j) 0 := by
  unfold wT
  rw [List.getD_eq_getElem?_getD, List.getElem?_drop, List.getD_eq_getElem?_getD]
theorem okNs_get (h : okNs ws = true) {k : Nat} (hk : k < 48) : (wT ws).getD k 0 ≤ (wN ws : Int) := by
  unfold okNs okNm at h
  rw [List.all_eq_true] at h
  have := h k (List.mem_range.2 hk)
  simpa using this
theorem okFs_get (h : okFs ws = true) {i : Nat} (hi : i < wN ws) : okAt (wF ws) i = true := by
  unfold okFs okFm at h
  rw [List.all_eq_true] at h
  exact h i (List.mem_range.2 hi)
theorem decS_t (k : Nat) (hk : k < 48) : (decS ws).t k = ((wT ws).getD k 0).toNat := by
  unfold decS
  rw [namesTo_t (filesTo_t _ _), if_pos hk]
theorem decS_iv (h1 : okL ws = true) (h2 : okNs ws = true) : Inv (decS ws) := by
  unfold decS
  refine namesTo_inv (filesTo_inv _ _) (filesTo_t _ _) _ 48 (Nat.le_refl _) (fun j hj => ?_)
  have := okNs_get h2 hj
  have := wN_le h1
  omega
theorem decS_re {i : Nat} (hi : i < wN ws) : ((decS ws).f i).re 0 = flAt (wF ws) i := by
  unfold decS
  rw [namesTo_f, filesTo_f, if_pos hi]
  rfl
theorem okAt_fit {xs : List Int} {i : Nat} (h : okAt xs i = true) (hu : ∀ j, 0 ≤ xs.getD j 0) : Fit (flAt xs i) := by
  unfold okAt okF at h
  simp only [Bool.and_eq_true, decide_eq_true_eq] at h
  obtain ⟨⟨⟨⟨h1, h2⟩, h3⟩, h4⟩, h5⟩ := h
  exact ⟨h1, h2, hu _, h3, hu _, h4⟩
theorem re_fit {x : Fl} {n : Int} (h : Fit (x.re n)) : Fit x := ⟨h.k1, h.k2, h.i1, h.i2, h.o1, h.o2⟩
theorem u64_getD (hu : U64 ws) (j : Nat) : 0 ≤ ws.getD j 0 ∧ ws.getD j 0 < 18446744073709551616 := by
  rw [List.getD_eq_getElem?_getD]
  cases h : ws[j]? with
  | none => simp
  | some x => exact u64_get hu h
theorem wF_pos (hu : U64 ws) (j : Nat) : 0 ≤ (wF ws).getD j 0 := by
  have : U64 (wF ws) := fun x hx => by
    unfold wF at hx
    exact hu x (List.mem_of_mem_take (List.mem_of_mem_drop hx))
  exact (u64_getD this j).1
theorem wT_pos (hu : U64 ws) (j : Nat) : 0 ≤ (wT ws).getD j 0 := by
  have : U64 (wT ws) := fun x hx => by
    unfold wT at hx
    exact hu x (List.mem_of_mem_drop hx)
  exact (u64_getD this j).1
theorem decS_mem (h1 : okL ws = true) (h2 : okNs ws = true) {p : Nat} (hp : p < 32) (hr : ((decS ws).f p).refs ≠ 0) : p < wN ws := by
  have hb := (decS_iv h1 h2).bound hp
  have hm := (taken_iff (decS_iv h1 h2) hp).1 (by omega)
  obtain ⟨h0, k, hk, e⟩ := (mem_ord _ _).1 hm
  rw [decS_t k hk] at e
  have := okNs_get h2 hk
  omega
theorem decS_fit (hu : U64 ws) (h1 : okL ws = true) (h2 : okNs ws = true) (h3 : okFs ws = true) : FitS (decS ws) := by
  intro p hp hr
  have hpn := decS_mem h1 h2 hp hr
  refine re_fit (n := 0) ?_
  rw [decS_re hpn]
  exact okAt_fit (okFs_get h3 hpn) (wF_pos hu)
theorem okO_ord (h : okO ws = true) : (ord (decS ws).t).length = wN ws ∧ ∀ i, i < wN ws → (ord (decS ws).t)[i]? = some (i + 1) := by
  unfold okO at h
  simp only [Bool.and_eq_true, decide_eq_true_eq] at h
  obtain ⟨h1, h2⟩ := h
  rw [List.all_eq_true] at h1
  refine ⟨h2, fun i hi => ?_⟩
  obtain ⟨q, hq⟩ : ∃ q, (ord (decS ws).t)[i]? = some q := ⟨(ord (decS ws).t)[i]'(by omega), List.getElem?_eq_getElem _⟩
  have hm := List.mem_of_getElem? hq
  obtain ⟨h0, k, hk, e⟩ := (mem_ord _ _).1 hm
  have h3 := h1 k (List.mem_range.2 hk)
  have h4 : inO (decS ws).t k = (decS ws).t k := by simpa using h3
  have h5 : inO (decS ws).t k = i + 1 := by
    unfold inO cn
    rw [e, if_neg h0, if_pos hm]
    congr 1
    obtain ⟨hl, he⟩ := List.getElem?_eq_some_iff.1 hq
    have h6 := List.idxOf_lt_length_of_mem hm
    have h7 : (ord (decS ws).t)[(ord (decS ws).t).idxOf q] = q := List.getElem_idxOf h6
    exact nd_inj (ord_nodup _) (h7.trans he.symm)
  rw [hq]
  congr 1
  omega
theorem flW_re {x : Fl} {a b c d : Int} (h : okF a b c d = true) (hd : 0 ≤ d) (hx : x.re 0 = flOf a b c d) : flW x = [a, b, c, d] := by
  obtain ⟨k, i, o, p, r⟩ := x
  simp only [Fl.re, flOf, Fl.mk.injEq] at hx
  obtain ⟨rfl, rfl, rfl, rfl, -⟩ := hx
  unfold okF at h
  simp only [Bool.and_eq_true, decide_eq_true_eq] at h
  have hd1 : d = 0 ∨ d = 1 := by omega
  rcases hd1 with rfl | rfl <;> rfl
theorem enc_dec (hu : U64 ws) (h : okW ws = true) : encW (decS ws) = ws := by
  unfold okW at h
  simp only [Bool.and_eq_true] at h
  obtain ⟨⟨⟨h1, h2⟩, h3⟩, h4⟩ := h
  obtain ⟨ho, hg⟩ := okO_ord h4
  obtain ⟨l1, l2, l3⟩ := okL_facts h1
  have hO := h4
  unfold okO at hO
  simp only [Bool.and_eq_true, decide_eq_true_eq] at hO
  have hin := hO.1
  rw [List.all_eq_true] at hin
  apply List.ext_getElem?
  intro i
  by_cases hi : i < ws.length
  · have hw : ws[i]? = some (ws.getD i 0) := by rw [List.getD_eq_getElem?_getD, List.getElem?_eq_getElem hi]; rfl
    rw [hw]
    have hHl : (encH (decS ws)).length = 1 + wN ws * 4 := by rw [encH_len, ho]
    unfold encW
    by_cases hi1 : i < 1 + wN ws * 4
    · rw [List.getElem?_append_left (by omega)]
      unfold encH
      cases i with
      | zero =>
        rw [List.getElem?_cons_zero, ho]
        have := (u64_getD hu 0).1
        unfold wN
        congr 1
        omega
      | succ i =>
        rw [List.getElem?_cons_succ]
        have hq := hg (i / 4) (by omega)
        have hf := flat_get (fun q => (decS ws).f (q - 1)) (ord (decS ws).t) (i / 4) (i / 4 + 1) (i % 4) hq (by omega)
        rw [show i / 4 * 4 + i % 4 = i by omega, show i / 4 + 1 - 1 = i / 4 by omega] at hf
        have hlen : i < ((ord (decS ws).t).flatMap (fun q => flW ((decS ws).f (q - 1)))).length := by rw [flat_len, ho]; omega
        rw [List.getElem?_eq_getElem hlen]
        rw [List.getD_eq_getElem?_getD, List.getElem?_eq_getElem hlen] at hf
        have hf2 : ((ord (decS ws).t).flatMap (fun q => flW ((decS ws).f (q - 1))))[i] = (flW ((decS ws).f (i / 4))).getD (i % 4) 0 := hf
        rw [hf2, flW_re (okFs_get h2 (i := i / 4) (by omega)) (wF_pos hu _) (decS_re (by omega))]
        congr 1
        have hgw : ∀ m, m < 4 → (wF ws).getD (i / 4 * 4 + m) 0 = ws.getD (1 + (i / 4 * 4 + m)) 0 := fun m hm => wF_get h1 (by omega)
        have hm4 : i % 4 = 0 ∨ i % 4 = 1 ∨ i % 4 = 2 ∨ i % 4 = 3 := by omega
        rcases hm4 with q | q | q | q
        · rw [q]
          have := hgw 0 (by omega)
          rw [Nat.add_zero] at this
          show (wF ws).getD (i / 4 * 4) 0 = _
          rw [this]
          congr 1
          omega
        · rw [q]
          show (wF ws).getD (i / 4 * 4 + 1) 0 = _
          rw [hgw 1 (by omega)]
          congr 1
          omega
        · rw [q]
          show (wF ws).getD (i / 4 * 4 + 2) 0 = _
          rw [hgw 2 (by omega)]
          congr 1
          omega
        · rw [q]
          show (wF ws).getD (i / 4 * 4 + 3) 0 = _
          rw [hgw 3 (by omega)]
          congr 1
          omega
    · rw [List.getElem?_append_right (by omega), hHl]
      have hk : i - (1 + wN ws * 4) < 48 := by omega
      have h5 : inO (decS ws).t (i - (1 + wN ws * 4)) = (decS ws).t (i - (1 + wN ws * 4)) := by
        have := hin _ (List.mem_range.2 hk)
        simpa using this
      unfold encN
      rw [List.getElem?_map, List.getElem?_range hk]
      show some ((inO (decS ws).t (i - (1 + wN ws * 4)) : Nat) : Int) = _
      rw [h5, decS_t _ hk]
      have h6 := wT_pos hu (i - (1 + wN ws * 4))
      have h7 := wT_get h1 (i - (1 + wN ws * 4))
      rw [show 1 + wN ws * 4 + (i - (1 + wN ws * 4)) = i by omega] at h7
      rw [← h7]
      congr 1
      omega
  · rw [List.getElem?_eq_none (by rw [encW_len, ho]; omega), List.getElem?_eq_none (by omega)]
/-- Names counted so far: the descriptors of a name among the first k. -/
def dK (T : Nat → Nat) (q k : Nat) : List Nat := (List.range k).filter (fun j => T j == q)
theorem dK_succ (T : Nat → Nat) (q k : Nat) : dK T q (k + 1) = if T k = q then dK T q k ++ [k] else dK T q k := by
  unfold dK
  rw [List.range_succ, List.filter_append]
  by_cases h : T k = q
  · rw [if_pos h]; simp [h]
  · rw [if_neg h]; simp [h]
theorem dK_len (T : Nat → Nat) (q k : Nat) : (dK T q k).length ≤ k := by
  unfold dK
  exact Nat.le_trans (List.length_filter_le _ _) (by simp)
/-- The table that the words tell. -/
def tT (ws : List Int) : Nat → Nat := fun k => ((wT ws).getD k 0).toNat
/-- The reference's files behind k names. -/
structure FK (ws : List Int) (L : List En) (n k : Nat) : Prop where
  len : L.length = n
  each : ∀ i e, L[i]? = some e → e.x = flAt (wF ws) i ∧ e.d = dK (tT ws) (i + 1) k
theorem FK.lay {L : List En} (h1 : okL ws = true) (h2 : okNs ws = true) (h : FK ws L (wN ws) 48) : Lay L (List.range' 1 (wN ws)) (decS ws) := by
  have hks : ∀ q, ks (decS ws).t q = dK (tT ws) q 48 := fun q => by
    refine nat_eq (ks_up _ _) ?_ (fun k => ?_)
    · unfold dK
      exact List.Pairwise.filter _ List.pairwise_lt_range
    · rw [mem_ks]
      unfold dK tT
      rw [List.mem_filter, List.mem_range]
      constructor
      · rintro ⟨hk, e⟩
        rw [decS_t k hk] at e
        exact ⟨hk, by simpa using e⟩
      · rintro ⟨hk, e⟩
        rw [decS_t k hk]
        exact ⟨hk, by simpa using e⟩
  refine ⟨List.nodup_range', by rw [h.len, List.length_range'], fun q hq => ?_, fun i q e hq he => ?_, fun k hk hn => ?_⟩
  · rw [List.mem_range'_1] at hq
    omega
  · have hil := (List.getElem?_eq_some_iff.1 hq).1
    rw [List.length_range'] at hil
    have hqi : q = i + 1 := by
      rw [List.getElem?_range' hil] at hq
      have := Option.some.inj hq
      omega
    subst hqi
    obtain ⟨e1, e2⟩ := h.each i e he
    refine ⟨by rw [e2, hks], fun hne => ?_⟩
    rw [show i + 1 - 1 = i by omega]
    refine re_re ?_ ?_
    · rw [decS_re hil, e1]
      unfold flAt flOf Fl.re
      rfl
    · rw [(decS_iv h1 h2).refs i (by have := wN_le h1; omega), hks, ← e2]
      rfl
  · rw [List.mem_range'_1]
    rw [decS_t k hk] at hn ⊢
    have := okNs_get h2 hk
    omega
end
end Go.Proofs.Ytkdbmfckfbmbiaa
