/- The reference of package fds as plain data: what each call leaves. -/
import Derived.Test.YtkdbmfckfbmbiaaRfN18
namespace Go.Proofs.Ytkdbmfckfbmbiaa
open Go.RowKit
set_option linter.unusedVariables false

theorem nd_inj {l : List Nat} (h : l.Nodup) {i j : Nat} {hi : i < l.length} {hj : j < l.length} (e : l[i] = l[j]) : i = j := by
  have h1 := List.Nodup.idxOf_getElem h i hi
  have h2 := List.Nodup.idxOf_getElem h j hj
  rw [e, h2] at h1
  exact h1.symm
/-- The reference's files are the state's. -/
def RL (L : List En) (S : FS) : Prop := L.map En.ab = refL S
theorem RL.len {L : List En} {S : FS} (h : RL L S) : L.length = (ord S.t).length := by
  have := congrArg List.length h
  rwa [List.length_map, refL_len] at this
theorem RL.get {L : List En} {S : FS} (h : RL L S) {i : Nat} {e : En} {q : Nat} (he : L[i]? = some e) (hq : (ord S.t)[i]? = some q) : e.x = S.f (q - 1) ∧ e.d = ks S.t q := by
  have h1 : (L.map En.ab)[i]? = some e.ab := by rw [List.getElem?_map, he]; rfl
  rw [h, refL_get hq] at h1
  have h2 := Option.some.inj h1
  have h3 := congrArg Prod.fst h2
  have h4 := congrArg Prod.snd h2
  exact ⟨h3.symm, h4.symm⟩
theorem RL.some {L : List En} {S : FS} (h : RL L S) {i q : Nat} (hq : (ord S.t)[i]? = some q) : ∃ e, L[i]? = some e := by
  have := (List.getElem?_eq_some_iff.1 hq).1
  have := h.len
  exact ⟨_, List.getElem?_eq_getElem (by omega)⟩
theorem RL.at {L : List En} {S : FS} (h : RL L S) (pid fd : Int) : atL pid fd (L.map En.d) = atR S pid fd := by
  rw [← at_ref, ← h, List.map_map]
  rfl
/-- Files, each under a name of its own, as they are told by a table. -/
structure Lay (L : List En) (Q : List Nat) (S : FS) : Prop where
  nd : Q.Nodup
  len : L.length = Q.length
  nz : ∀ q ∈ Q, q ≠ 0
  each : ∀ (i q : Nat) (e : En), Q[i]? = some q → L[i]? = some e → e.d = ks S.t q ∧ (e.d ≠ [] → e.x.re e.d.length = S.f (q - 1))
  all : ∀ k, k < 48 → S.t k ≠ 0 → S.t k ∈ Q
theorem headD_mem {d : List Nat} (h : d ≠ []) : d.headD 0 ∈ d := by
  cases d with
  | nil => exact absurd rfl h
  | cons a l => simp
theorem Lay.apart {L : List En} {Q : List Nat} {S : FS} (h : Lay L Q S) : Apart L := by
  unfold Apart
  rw [List.pairwise_iff_getElem]
  intro i j hi hj hij ha hb e
  have hli := h.len
  have q1 : Q[i]? = some (Q[i]'(by omega)) := List.getElem?_eq_getElem _
  have q2 : Q[j]? = some (Q[j]'(by omega)) := List.getElem?_eq_getElem _
  obtain ⟨d1, _⟩ := h.each i _ _ q1 (List.getElem?_eq_getElem hi)
  obtain ⟨d2, _⟩ := h.each j _ _ q2 (List.getElem?_eq_getElem hj)
  have m1 := headD_mem ha
  have m2 := headD_mem hb
  rw [← e] at m2
  have k1 : (L[i]).d.headD 0 ∈ ks S.t (Q[i]'(by omega)) := by rw [← d1]; exact m1
  have k2 : (L[i]).d.headD 0 ∈ ks S.t (Q[j]'(by omega)) := by rw [← d2]; exact m2
  rw [mem_ks] at k1 k2
  have : Q[i]'(by omega) = Q[j]'(by omega) := by rw [← k1.2, ← k2.2]
  have := nd_inj h.nd this
  omega
theorem Lay.sort {L : List En} {Q : List Nat} {S : FS} (h : Lay L Q S) : RL (sortE L) S := by
  refine sort_ref h.apart (fun p => ?_)
  rw [mem_refL]
  constructor
  · rintro ⟨e, he, hne, rfl⟩
    obtain ⟨i, hi⟩ := List.mem_iff_getElem?.1 he
    have hl := (List.getElem?_eq_some_iff.1 hi).1
    have hli := h.len
    have q1 : Q[i]? = some (Q[i]'(by omega)) := List.getElem?_eq_getElem _
    obtain ⟨d1, x1⟩ := h.each i _ _ q1 hi
    have m1 := headD_mem hne
    rw [d1, mem_ks] at m1
    refine ⟨Q[i]'(by omega), (mem_ord _ _).2 ⟨h.nz _ (List.getElem_mem _), _, m1.1, m1.2⟩, ?_⟩
    rw [x1 hne, d1]
  · rintro ⟨q, hq, rfl⟩
    rw [mem_ord] at hq
    obtain ⟨h0, k, hk, e⟩ := hq
    have hm := h.all k hk (by omega)
    rw [e] at hm
    obtain ⟨i, hi⟩ := List.mem_iff_getElem?.1 hm
    have hl := (List.getElem?_eq_some_iff.1 hi).1
    have hli := h.len
    have l1 : L[i]? = some (L[i]'(by omega)) := List.getElem?_eq_getElem _
    obtain ⟨d1, x1⟩ := h.each i _ _ hi l1
    have hne : (L[i]'(by omega)).d ≠ [] := by
      intro e2
      rw [e2] at d1
      have : k ∈ ks S.t q := (mem_ks _ _ _).2 ⟨hk, e⟩
      rw [← d1] at this
      simp at this
    exact ⟨_, List.getElem_mem _, hne, by rw [x1 hne, d1]⟩
theorem re_self {x : Fl} {n : Int} (h : x.refs = n) : x.re n = x := by
  unfold Fl.re
  rw [← h]
/-- A file that is named has its count. -/
theorem ref_count {S : FS} (hI : Inv S) {q : Nat} (hq : q ∈ ord S.t) : (S.f (q - 1)).re ((ks S.t q).length : Int) = S.f (q - 1) := by
  rw [mem_ord] at hq
  obtain ⟨h0, k, hk, e⟩ := hq
  have h1 := hI.pos hk (by omega)
  rw [e] at h1
  have h2 := hI.refs (q - 1) h1.1
  rw [show q - 1 + 1 = q by omega] at h2
  exact re_self h2
theorem ks_setT (S : FS) (k q : Nat) {r : Nat} (hk : k < 48) (h1 : S.t k ≠ r) (h2 : q ≠ r) : ks (S.setT k q).t r = ks S.t r := by
  refine nat_eq (ks_up _ _) (ks_up _ _) (fun i => ?_)
  rw [mem_ks, mem_ks]
  by_cases e : i = k
  · subst e
    rw [FS.setT_same]
    constructor
    · rintro ⟨_, h⟩; exact absurd h h2
    · rintro ⟨_, h⟩; exact absurd h h1
  · rw [FS.setT_other _ _ _ _ e]
/-- Where it belongs. -/
def insN (x : Nat) (d : List Nat) : List Nat := d.filter (fun k => decide (k < x)) ++ x :: d.filter (fun k => decide (x < k))
theorem mem_insN (x k : Nat) (d : List Nat) (hx : x ∉ d) : k ∈ insN x d ↔ k = x ∨ k ∈ d := by
  unfold insN
  rw [List.mem_append, List.mem_cons, List.mem_filter, List.mem_filter]
  simp only [decide_eq_true_eq]
  constructor
  · rintro (⟨h, _⟩ | h | ⟨h, _⟩)
    · exact Or.inr h
    · exact Or.inl h
    · exact Or.inr h
  · rintro (h | h)
    · exact Or.inr (Or.inl h)
    · rcases Nat.lt_trichotomy k x with e | e | e
      · exact Or.inl ⟨h, e⟩
      · exact Or.inr (Or.inl e)
      · exact Or.inr (Or.inr ⟨h, e⟩)
theorem insN_up {x : Nat} {d : List Nat} (h : d.Pairwise (· < ·)) : (insN x d).Pairwise (· < ·) := by
  unfold insN
  rw [List.pairwise_append, List.pairwise_cons]
  refine ⟨h.filter _, ⟨fun a ha => ?_, h.filter _⟩, fun a ha b hb => ?_⟩
  · rw [List.mem_filter] at ha
    simpa using ha.2
  · rw [List.mem_filter] at ha
    have h1 : a < x := by simpa using ha.2
    rcases List.mem_cons.1 hb with rfl | hb
    · exact h1
    · rw [List.mem_filter] at hb
      have h2 : x < b := by simpa using hb.2
      omega
theorem ks_ins (S : FS) {k q : Nat} (hk : k < 48) (h : S.t k ≠ q) : ks (S.setT k q).t q = insN k (ks S.t q) := by
  have hn : k ∉ ks S.t q := fun e => h ((mem_ks _ _ _).1 e).2
  refine nat_eq (ks_up _ _) (insN_up (ks_up _ _)) (fun i => ?_)
  rw [mem_insN _ _ _ hn, mem_ks, mem_ks]
  by_cases e : i = k
  · subst e
    rw [FS.setT_same]
    simp [hk]
  · rw [FS.setT_other _ _ _ _ e]
    simp [e]
theorem ks_del (S : FS) {k q : Nat} (hk : k < 48) (hq : q ≠ 0) : ks (S.setT k 0).t q = (ks S.t q).filter (fun i => i != k) := by
  refine nat_eq (ks_up _ _) ((ks_up _ _).filter _) (fun i => ?_)
  rw [List.mem_filter, mem_ks, mem_ks]
  by_cases e : i = k
  · subst e
    rw [FS.setT_same]
    simp
    omega
  · rw [FS.setT_other _ _ _ _ e]
    simp [e]
/-- A new file. -/
theorem open_ref {L : List En} {S : FS} (h : RL L S) (hI : Inv S) {k p : Nat} {x : Fl} (hk : k < 48) (h0 : S.t k = 0) (hp : p < 32) (hr : (S.f p).refs = 0) (a : Option Addr) (cap : Nat) :
    RL (sortE (L ++ [⟨x, a, cap, [k]⟩])) ((S.setF p (x.re 1)).setT k (p + 1)) := by
  have hno : p + 1 ∉ ord S.t := by
    intro hm
    rw [mem_ord] at hm
    obtain ⟨_, j, hj, e⟩ := hm
    have := hI.pos hj (by omega)
    rw [e, show p + 1 - 1 = p by omega] at this
    omega
  have hkp : ks (S.setT k (p + 1)).t (p + 1) = [k] := by
    rw [ks_ins S hk (by omega)]
    have : ks S.t (p + 1) = [] := by
      rw [List.eq_nil_iff_forall_not_mem]
      intro j hj
      rw [mem_ks] at hj
      exact hno ((mem_ord _ _).2 ⟨by omega, j, hj.1, hj.2⟩)
    rw [this]
    rfl
  have ht : ((S.setF p (x.re 1)).setT k (p + 1)).t = (S.setT k (p + 1)).t := rfl
  have hll := h.len
  refine Lay.sort (Q := ord S.t ++ [p + 1]) ⟨?_, by simp [hll], ?_, ?_, ?_⟩
  · rw [List.nodup_append]
    refine ⟨ord_nodup _, by simp, fun a ha b hb => ?_⟩
    rw [List.mem_singleton] at hb
    rintro rfl
    exact hno (hb ▸ ha)
  · intro q hq
    rcases List.mem_append.1 hq with hq | hq
    · exact ((mem_ord _ _).1 hq).1
    · rw [List.mem_singleton] at hq
      omega
  · intro i q e hq he
    rw [ht]
    by_cases hi : i < (ord S.t).length
    · rw [List.getElem?_append_left hi] at hq
      rw [List.getElem?_append_left (by omega)] at he
      obtain ⟨e1, e2⟩ := h.get he hq
      have hqm := List.mem_of_getElem? hq
      have hqp : p + 1 ≠ q := fun e => hno (e ▸ hqm)
      have hq0 := ((mem_ord _ _).1 hqm).1
      refine ⟨by rw [e2, ks_setT S k (p + 1) hk (by omega) hqp], fun _ => ?_⟩
      rw [e1, e2]
      show _ = (S.setF p (x.re 1)).f (q - 1)
      rw [FS.setF_other _ _ _ _ (by omega), ref_count hI hqm]
    · have hil := (List.getElem?_eq_some_iff.1 hq).1
      simp at hil
      have hi2 : i = (ord S.t).length := by omega
      rw [hi2, List.getElem?_append_right (Nat.le_refl _), Nat.sub_self] at hq
      rw [hi2, ← hll, List.getElem?_append_right (Nat.le_refl _), Nat.sub_self] at he
      simp at hq he
      subst hq he
      refine ⟨hkp.symm, fun _ => ?_⟩
      show x.re ((1 : Nat) : Int) = (S.setF p (x.re 1)).f (p + 1 - 1)
      rw [show p + 1 - 1 = p by omega, FS.setF_same]
      rfl
  · intro j hj hn
    rw [ht] at hn ⊢
    by_cases e : j = k
    · subst e
      rw [FS.setT_same]
      simp
    · rw [FS.setT_other _ _ _ _ e] at hn ⊢
      exact List.mem_append_left _ ((mem_ord _ _).2 ⟨hn, j, hj, rfl⟩)
/-- One of them is changed. -/
theorem set_ref {L : List En} {S S' : FS} (h : RL L S) (hI : Inv S) {i q k r : Nat} {x : Fl} {d : List Nat} (hq : (ord S.t)[i]? = some q) (hk : k < 48) (hr : S.t k = 0 ∨ S.t k = q) (hr2 : r = 0 ∨ r = q) (ht : S'.t = (S.setT k r).t) (hf : ∀ p, p ≠ q - 1 → S'.f p = S.f p) (hd : d = ks S'.t q) (hx : d ≠ [] → x.re d.length = S'.f (q - 1)) (a : Option Addr) (cap : Nat) :
    RL (sortE (L.set i ⟨x, a, cap, d⟩)) S' := by
  have hqm := List.mem_of_getElem? hq
  have hq0 := ((mem_ord _ _).1 hqm).1
  have hil := (List.getElem?_eq_some_iff.1 hq).1
  have hll := h.len
  refine Lay.sort (Q := ord S.t) ⟨ord_nodup _, by simp [hll], fun q hq => ((mem_ord _ _).1 hq).1, ?_, ?_⟩
  · intro j p e hp he
    rw [List.getElem?_set] at he
    by_cases hij : i = j
    · subst hij
      rw [if_pos rfl, if_pos (by omega)] at he
      have he2 := Option.some.inj he
      subst he2
      rw [hq] at hp
      have hp2 := Option.some.inj hp
      subst hp2
      exact ⟨hd, hx⟩
    · rw [if_neg hij] at he
      obtain ⟨e1, e2⟩ := h.get he hp
      have hpm := List.mem_of_getElem? hp
      have hp0 := ((mem_ord _ _).1 hpm).1
      have hpq : p ≠ q := by
        rintro rfl
        obtain ⟨l1, g1⟩ := List.getElem?_eq_some_iff.1 hq
        obtain ⟨l2, g2⟩ := List.getElem?_eq_some_iff.1 hp
        have := nd_inj (ord_nodup S.t) (g1.trans g2.symm)
        exact hij this
      refine ⟨?_, fun _ => ?_⟩
      · rw [e2, ht, ks_setT S k r hk (by rcases hr with e | e <;> omega) (by rcases hr2 with e | e <;> omega)]
      · rw [e1, e2, hf (p - 1) (by omega), ref_count hI hpm]
  · intro j hj hn
    rw [ht] at hn ⊢
    by_cases e : j = k
    · subst e
      rw [FS.setT_same] at hn ⊢
      rcases hr2 with e | e
      · exact absurd e hn
      · rw [e]; exact hqm
    · rw [FS.setT_other _ _ _ _ e] at hn ⊢
      exact (mem_ord _ _).2 ⟨hn, j, hj, rfl⟩
/-- One more descriptor names a file. -/
theorem name_ref {L : List En} {S : FS} (h : RL L S) (hI : Inv S) {i q k : Nat} {e : En} (he : L[i]? = some e) (hq : (ord S.t)[i]? = some q) (hk : k < 48) (h0 : S.t k = 0) (a : Option Addr) (cap : Nat) :
    RL (sortE (L.set i ⟨e.x, a, cap, insN k e.d⟩)) ((S.setT k q).addR (q - 1) 1) := by
  obtain ⟨e1, e2⟩ := h.get he hq
  have hqm := List.mem_of_getElem? hq
  have hq0 := ((mem_ord _ _).1 hqm).1
  have hks : ks ((S.setT k q).addR (q - 1) 1).t q = insN k e.d := by rw [FS.addR_t, ks_ins S hk (by omega), e2]
  refine set_ref (S' := (S.setT k q).addR (q - 1) 1) h hI (k := k) (r := q) hq hk (Or.inl h0) (Or.inr rfl) rfl (fun p hp => ?_) hks.symm (fun _ => ?_) a cap
  · unfold FS.addR
    rw [FS.setF_other _ _ _ _ hp]
    rfl
  · unfold FS.addR
    rw [FS.setF_same, ← hks, FS.addR_t, e1]
    have h1 := ks_set S k q q hk
    rw [if_neg (by omega), if_pos rfl] at h1
    have h2 := congrArg Fl.refs (ref_count hI hqm)
    have h3 : ((ks S.t q).length : Int) = (S.f (q - 1)).refs := h2
    show Fl.re _ _ = Fl.re (S.f (q - 1)) ((S.f (q - 1)).refs + 1)
    rw [show ((ks (S.setT k q).t q).length : Int) = (S.f (q - 1)).refs + 1 by omega]
/-- One fewer. -/
theorem close_ref {L : List En} {S : FS} (h : RL L S) (hI : Inv S) {i q k : Nat} {e : En} (he : L[i]? = some e) (hq : (ord S.t)[i]? = some q) (hk : k < 48) (h0 : S.t k = q) (a : Option Addr) (cap : Nat) :
    RL (sortE (L.set i ⟨e.x, a, cap, e.d.filter (fun j => j != k)⟩)) ((S.setT k 0).setF (q - 1) (S.f (q - 1)).less) := by
  obtain ⟨e1, e2⟩ := h.get he hq
  have hqm := List.mem_of_getElem? hq
  have hq0 := ((mem_ord _ _).1 hqm).1
  have hks : ks (S.setT k 0).t q = e.d.filter (fun j => j != k) := by rw [ks_del S hk hq0, e2]
  refine set_ref (S' := (S.setT k 0).setF (q - 1) (S.f (q - 1)).less) h hI (k := k) (r := 0) hq hk (Or.inr h0) (Or.inl rfl) rfl (fun p hp => ?_) (by rw [FS.setF_t]; exact hks.symm) (fun hne => ?_) a cap
  · rw [FS.setF_other _ _ _ _ hp]
    rfl
  · rw [FS.setF_same, ← hks, e1]
    have h1 := ks_set S k 0 q hk
    rw [if_pos h0, if_neg (by omega)] at h1
    have h2 := congrArg Fl.refs (ref_count hI hqm)
    have h3 : ((ks S.t q).length : Int) = (S.f (q - 1)).refs := h2
    have h4 : 0 < (ks (S.setT k 0).t q).length := by
      rw [hks]
      exact List.length_pos_iff.2 hne
    unfold Fl.less
    rw [if_neg (by omega), show ((ks (S.setT k 0).t q).length : Int) = (S.f (q - 1)).refs - 1 by omega]
/-- Another place. -/
theorem seek_ref {L : List En} {S : FS} (h : RL L S) {i q : Nat} {e : En} (he : L[i]? = some e) (hq : (ord S.t)[i]? = some q) (o : Int) :
    RL (L.set i ⟨e.x.at o, e.a, e.cap, e.d⟩) (S.setF (q - 1) ((S.f (q - 1)).at o)) := by
  obtain ⟨e1, e2⟩ := h.get he hq
  have hqm := List.mem_of_getElem? hq
  have hq0 := ((mem_ord _ _).1 hqm).1
  have hil := (List.getElem?_eq_some_iff.1 hq).1
  have hll := h.len
  unfold RL
  apply List.ext_getElem?
  intro j
  rw [List.getElem?_map, List.getElem?_set]
  by_cases hj : j < (ord S.t).length
  · have hp : (ord S.t)[j]? = some ((ord S.t)[j]) := List.getElem?_eq_getElem hj
    obtain ⟨e', he'⟩ := h.some hp
    rw [refL_get (S := S.setF (q - 1) ((S.f (q - 1)).at o)) hp]
    by_cases hij : i = j
    · subst hij
      rw [hq] at hp
      have hp2 := Option.some.inj hp
      rw [if_pos rfl, if_pos (by omega), ← hp2, FS.setF_same]
      show some (e.x.at o, e.d) = _
      rw [e1, e2]
      rfl
    · rw [if_neg hij, he']
      obtain ⟨f1, f2⟩ := h.get he' hp
      have hpq : (ord S.t)[j] ≠ q := by
        intro e3
        obtain ⟨l1, g1⟩ := List.getElem?_eq_some_iff.1 hq
        have := nd_inj (ord_nodup S.t) (g1.trans e3.symm)
        exact hij this
      have hp0 := ((mem_ord _ _).1 (List.mem_of_getElem? hp)).1
      rw [FS.setF_other _ _ _ _ (by omega)]
      show some (e'.x, e'.d) = _
      rw [f1, f2]
      rfl
  · have hr : (refL (S.setF (q - 1) ((S.f (q - 1)).at o)))[j]? = none := List.getElem?_eq_none (by rw [refL_len]; exact Nat.le_of_not_lt hj)
    rw [hr, if_neg (by omega), List.getElem?_eq_none (by omega)]
    rfl
end Go.Proofs.Ytkdbmfckfbmbiaa
