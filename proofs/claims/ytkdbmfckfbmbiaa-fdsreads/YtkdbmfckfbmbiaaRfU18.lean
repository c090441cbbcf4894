/- What is written is read again: plain. -/
import Derived.Test.YtkdbmfckfbmbiaaRfT18
import Derived.Test.YtkdbmfckfbmbiaaRfS18
namespace Go.Proofs.Ytkdbmfckfbmbiaa
open Go.RowKit
set_option linter.unusedVariables false

theorem ordTo_congr {t u : Nat → Nat} : ∀ k, (∀ i, i < k → t i = u i) → ordTo t k = ordTo u k
  | 0, _ => rfl
  | k + 1, h => by
    rw [ordTo_succ, ordTo_succ, ordTo_congr k (fun i hi => h i (by omega)), h k (by omega)]
theorem ord_congr {t u : Nat → Nat} (h : ∀ i, i < 48 → t i = u i) : ord t = ord u := ordTo_congr 48 h
theorem inO_congr {t u : Nat → Nat} (h : ∀ i, i < 48 → t i = u i) {k : Nat} (hk : k < 48) : inO t k = inO u k := by
  unfold inO
  rw [ord_congr h, h k hk]
theorem ks_congr {t u : Nat → Nat} (h : ∀ i, i < 48 → t i = u i) (q : Nat) : ks t q = ks u q := by
  refine nat_eq (ks_up _ _) (ks_up _ _) (fun k => ?_)
  rw [mem_ks, mem_ks]
  constructor
  · rintro ⟨hk, e⟩; exact ⟨hk, by rw [← h k hk]; exact e⟩
  · rintro ⟨hk, e⟩; exact ⟨hk, by rw [h k hk]; exact e⟩
theorem flat_get (g : Nat → Fl) : ∀ (l : List Nat) (i q m : Nat), l[i]? = some q → m < 4 → (l.flatMap (fun q => flW (g q))).getD (i * 4 + m) 0 = (flW (g q)).getD m 0
  | [], i, q, m, h, _ => by simp at h
  | c :: l, 0, q, m, h, hm => by
    simp at h
    subst h
    rw [List.flatMap_cons, List.getD_eq_getElem?_getD, List.getElem?_append_left (by rw [flW_len]; omega), List.getD_eq_getElem?_getD, Nat.zero_mul, Nat.zero_add]
  | c :: l, i + 1, q, m, h, hm => by
    have ih := flat_get g l i q m (by simpa using h) hm
    rw [← ih, List.flatMap_cons, List.getD_eq_getElem?_getD, List.getElem?_append_right (by rw [flW_len]; omega), flW_len, List.getD_eq_getElem?_getD]
    congr 2
    omega
theorem ord_le32 {S : FS} (hI : Inv S) : (ord S.t).length ≤ 32 := by
  have := nodup_le (ord S.t) (List.range' 1 32) (ord_nodup _) (fun x hx => by
    obtain ⟨h0, k, hk, e⟩ := (mem_ord _ _).1 hx
    have := hI.name k hk
    rw [List.mem_range'_1]
    omega)
  simpa using this
theorem wN_enc (S : FS) : wN (encW S) = (ord S.t).length := by simp [wN, encW, encH]
theorem wF_enc (S : FS) : wF (encW S) = (ord S.t).flatMap (fun q => flW (S.f (q - 1))) := by
  unfold wF
  rw [wN_enc]
  unfold encW
  have hl := encH_len S
  rw [← hl, List.take_left]
  rfl
theorem wT_enc (S : FS) : wT (encW S) = encN S 48 := by
  unfold wT
  rw [wN_enc]
  unfold encW
  rw [← encH_len S, List.drop_left]
theorem encN_get (S : FS) {k : Nat} (hk : k < 48) : (encN S 48).getD k 0 = (inO S.t k : Int) := by
  simp [encN, List.getD_eq_getElem?_getD, hk]
theorem dec_t (S : FS) : ∀ k, k < 48 → (decS (encW S)).t k = inO S.t k := by
  intro k hk
  unfold decS
  rw [namesTo_t (filesTo_t _ _), if_pos hk, wT_enc, encN_get S hk]
  rfl
theorem inO_len (t : Nat → Nat) (k : Nat) : inO t k ≤ (ord t).length := by
  unfold inO cn
  split
  · omega
  · split
    · rename_i hm
      exact List.idxOf_lt_length_of_mem hm
    · omega
theorem dec_inv {S : FS} (hI : Inv S) : Inv (decS (encW S)) := by
  unfold decS
  refine namesTo_inv (filesTo_inv _ _) (filesTo_t _ _) _ 48 (Nat.le_refl _) (fun j hj => ?_)
  rw [wT_enc, encN_get S hj]
  have := inO_len S.t j
  have := ord_le32 hI
  omega
theorem re_re {x y : Fl} (h : x.re 0 = y.re 0) (hr : x.refs = y.refs) : x = y := by
  obtain ⟨a, b, c, d, e⟩ := x
  obtain ⟨a', b', c', d', e'⟩ := y
  simp only [Fl.re, Fl.mk.injEq] at h hr ⊢
  exact ⟨h.1, h.2.1, h.2.2.1, h.2.2.2.1, hr⟩
theorem flAt_enc (S : FS) {i q : Nat} (h : (ord S.t)[i]? = some q) : flAt (wF (encW S)) i = (S.f (q - 1)).re 0 := by
  have hg := fun m hm => flat_get (fun q => S.f (q - 1)) (ord S.t) i q m h hm
  unfold flAt
  rw [wF_enc]
  have h0 := hg 0 (by omega)
  rw [Nat.add_zero] at h0
  rw [h0, hg 1 (by omega), hg 2 (by omega), hg 3 (by omega)]
  generalize S.f (q - 1) = x
  obtain ⟨a, b, c, d, e⟩ := x
  cases d <;> rfl
theorem dec_f {S : FS} (hI : Inv S) {i q : Nat} (h : (ord S.t)[i]? = some q) : (decS (encW S)).f i = S.f (q - 1) := by
  have hil := (List.getElem?_eq_some_iff.1 h).1
  have h32 := ord_le32 hI
  refine re_re ?_ ?_
  · unfold decS
    rw [namesTo_f, filesTo_f, if_pos (by rw [wN_enc]; exact hil), flAt_enc S h]
    rfl
  · rw [(dec_inv hI).refs i (by omega), ks_congr (dec_t S), ks_inO h]
    exact congrArg Fl.refs (ref_count hI (List.mem_of_getElem? h))
theorem dec_ord (S : FS) : ord (decS (encW S)).t = ord (inO S.t) := ord_congr (dec_t S)
theorem dec_ref {S : FS} (hI : Inv S) : refL (decS (encW S)) = refL S := by
  apply List.ext_getElem?
  intro i
  have hlen : (ord (decS (encW S)).t).length = (ord S.t).length := by rw [dec_ord, ord_inO, List.length_map]
  by_cases hi : i < (ord S.t).length
  · have hq : (ord S.t)[i]? = some ((ord S.t)[i]) := List.getElem?_eq_getElem hi
    rw [refL_get hq]
    have h1 : (ord (decS (encW S)).t)[i]? = some (i + 1) := by rw [dec_ord]; exact (ord_inO_get hq).1
    rw [refL_get h1, show i + 1 - 1 = i by omega, dec_f hI hq, ks_congr (dec_t S), ks_inO hq]
  · rw [List.getElem?_eq_none (by rw [refL_len, hlen]; omega), List.getElem?_eq_none (by rw [refL_len]; omega)]
theorem dec_fit {S : FS} (hI : Inv S) (hF : FitS S) : FitS (decS (encW S)) := by
  intro p hp hr
  have hb := (dec_inv hI).bound hp
  have hm := (taken_iff (dec_inv hI) hp).1 (by omega)
  rw [dec_ord, ord_inO, List.mem_map] at hm
  obtain ⟨q, hq, e⟩ := hm
  obtain ⟨i, hi⟩ := List.mem_iff_getElem?.1 hq
  have hc := (ord_inO_get hi).2
  have : i = p := by omega
  subst this
  rw [dec_f hI hi]
  exact (fit_ord hI hF hi).2.2
theorem dec_ok {S : FS} (hI : Inv S) (hF : FitS S) : okW (encW S) = true := by
  have h32 := ord_le32 hI
  unfold okW
  simp only [Bool.and_eq_true]
  refine ⟨⟨⟨?_, ?_⟩, ?_⟩, ?_⟩
  · unfold okL
    have h0 : (encW S).getD 0 0 = ((ord S.t).length : Int) := by simp [encW, encH]
    rw [wN_enc, encW_len, h0]
    simp only [Bool.and_eq_true, decide_eq_true_eq]
    omega
  · unfold okFs okFm
    rw [wN_enc, List.all_eq_true]
    intro i hi
    rw [List.mem_range] at hi
    have hq : (ord S.t)[i]? = some ((ord S.t)[i]) := List.getElem?_eq_getElem hi
    obtain ⟨-, -, hf⟩ := fit_ord hI hF hq
    have hg := fun m hm => flat_get (fun q => S.f (q - 1)) (ord S.t) i _ m hq hm
    unfold okAt
    rw [wF_enc]
    have h0 := hg 0 (by omega)
    rw [Nat.add_zero] at h0
    rw [h0, hg 1 (by omega), hg 2 (by omega), hg 3 (by omega)]
    generalize S.f ((ord S.t)[i] - 1) = x at *
    obtain ⟨a, b, c, d, e⟩ := x
    obtain ⟨k1, k2, i1, i2, o1, o2⟩ := hf
    dsimp only at *
    show okF a b c (if d then 1 else 0) = true
    unfold okF
    cases d <;> simp <;> omega
  · unfold okNs okNm
    rw [wN_enc, wT_enc, List.all_eq_true]
    intro i hi
    rw [List.mem_range] at hi
    rw [encN_get S hi]
    have := inO_len S.t i
    simp
    omega
  · unfold okO
    rw [wN_enc, dec_ord, ord_inO, List.length_map]
    simp only [Bool.and_eq_true, decide_true, and_true]
    rw [List.all_eq_true]
    intro i hi
    rw [List.mem_range] at hi
    rw [inO_congr (dec_t S) hi, dec_t S i hi, inO_inO S.t hi]
    simp
end Go.Proofs.Ytkdbmfckfbmbiaa
