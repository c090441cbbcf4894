/- Package fds: Ids of the code and of the reference are the same; when all places are taken. Plain. -/
import Derived.Test.YtkdbmfckfbmbiaaRfR18
import Derived.Test.YtkdbmfckfbmbiaaFdH
namespace Go.Proofs.Ytkdbmfckfbmbiaa
open Go.RowKit
set_option linter.unusedVariables false

theorem compactTo_up (d : Array Int) (hs : ∀ i j, i ≤ j → j < d.size → d[i]! ≤ d[j]!) : ∀ m, m ≤ d.size → Up (Lib.compactUpTo d m) ∧ ∀ a, a ∈ Lib.compactUpTo d m ↔ ∃ j, j < m ∧ d[j]! = a
  | 0, _ => ⟨List.Pairwise.nil, fun a => by simp [Lib.compactUpTo]⟩
  | m + 1, hm => by
    obtain ⟨h1, h2⟩ := compactTo_up d hs m (by omega)
    rw [Lib.compactUpTo_succ]
    by_cases hk : Lib.keeps d m = true
    · rw [if_pos hk]
      constructor
      · unfold Up
        rw [List.pairwise_append]
        refine ⟨h1, by simp, fun a ha b hb => ?_⟩
        rw [List.mem_singleton] at hb
        subst hb
        obtain ⟨j, hj, rfl⟩ := (h2 a).1 ha
        simp only [Lib.keeps, decide_eq_true_eq] at hk
        have h3 := hs j (m - 1) (by omega) (by omega)
        have h4 := hs (m - 1) m (by omega) (by omega)
        rcases hk with e | e
        · omega
        · omega
      · intro a
        rw [List.mem_append, h2, List.mem_singleton]
        constructor
        · rintro (⟨j, hj, e⟩ | e)
          · exact ⟨j, by omega, e⟩
          · exact ⟨m, by omega, e.symm⟩
        · rintro ⟨j, hj, e⟩
          rcases Nat.lt_or_ge j m with q | q
          · exact Or.inl ⟨j, q, e⟩
          · have : j = m := by omega
            rw [this] at e
            exact Or.inr e.symm
    · rw [if_neg hk, List.append_nil]
      refine ⟨h1, fun a => ?_⟩
      rw [h2]
      simp only [Lib.keeps, decide_eq_true_eq, not_or, Classical.not_not] at hk
      constructor
      · rintro ⟨j, hj, e⟩
        exact ⟨j, by omega, e⟩
      · rintro ⟨j, hj, e⟩
        rcases Nat.lt_or_ge j m with q | q
        · exact ⟨j, q, e⟩
        · have : j = m := by omega
          rw [this, hk.2] at e
          exact ⟨m - 1, by omega, e⟩
theorem compact_sorted (l : List Int) : Up (Lib.compact (l.mergeSort fun x y => decide (x ≤ y))) ∧ ∀ a, a ∈ Lib.compact (l.mergeSort fun x y => decide (x ≤ y)) ↔ a ∈ l := by
  have hp := List.pairwise_mergeSort (le := fun x y : Int => decide (x ≤ y)) (fun a b c h1 h2 => by simp at *; omega) (fun a b => by simp; omega) l
  have hm : ∀ a, a ∈ l.mergeSort (fun x y => decide (x ≤ y)) ↔ a ∈ l := fun a => List.mem_mergeSort
  generalize l.mergeSort (fun x y => decide (x ≤ y)) = z at *
  rw [List.pairwise_iff_getElem] at hp
  obtain ⟨h1, h2⟩ := compactTo_up z.toArray (fun i j hij hj => by
    have hjl : j < z.length := by simpa using hj
    have hi : i < z.toArray.size := by simp; omega
    rw [getElem!_pos z.toArray j hj, getElem!_pos z.toArray i hi]
    simp only [List.getElem_toArray]
    rcases Nat.lt_or_ge i j with q | q
    · have := hp i j (by omega) hjl q
      simpa using this
    · have : i = j := by omega
      subst this
      exact Int.le_refl _) z.length (by simp)
  refine ⟨h1, fun a => ?_⟩
  rw [← hm]
  unfold Lib.compact
  rw [h2, List.mem_iff_getElem]
  constructor
  · rintro ⟨j, hj, e⟩
    rw [getElem!_pos z.toArray j (by simpa using hj)] at e
    exact ⟨j, hj, by simpa using e⟩
  · rintro ⟨j, hj, e⟩
    refine ⟨j, hj, ?_⟩
    rw [getElem!_pos z.toArray j (by simpa using hj)]
    simpa using e
theorem mem_idsTo (S : FS) (kind a : Int) : ∀ k, a ∈ idsTo S kind k ↔ ∃ p, p < k ∧ 0 < (S.f p).refs ∧ (S.f p).kind = kind ∧ (S.f p).id = a
  | 0 => by simp [idsTo]
  | k + 1 => by
    have ih := mem_idsTo S kind a k
    rw [idsTo_succ]
    split
    · rename_i h
      rw [List.mem_append, ih, List.mem_singleton]
      constructor
      · rintro (⟨p, hp, r⟩ | e)
        · exact ⟨p, by omega, r⟩
        · exact ⟨k, by omega, h.1, h.2, e.symm⟩
      · rintro ⟨p, hp, r1, r2, r3⟩
        rcases Nat.lt_or_ge p k with q | q
        · exact Or.inl ⟨p, q, r1, r2, r3⟩
        · have : p = k := by omega
          rw [this] at r3
          exact Or.inr r3.symm
    · rename_i h
      rw [ih]
      constructor
      · rintro ⟨p, hp, r⟩
        exact ⟨p, by omega, r⟩
      · rintro ⟨p, hp, r1, r2, r3⟩
        rcases Nat.lt_or_ge p k with q | q
        · exact ⟨p, q, r1, r2, r3⟩
        · have : p = k := by omega
          rw [this] at r1 r2
          exact absurd ⟨r1, r2⟩ h
/-- A place is taken just where its number is among the names. -/
theorem taken_iff {S : FS} (hI : Inv S) {p : Nat} (hp : p < 32) : 0 < (S.f p).refs ↔ p + 1 ∈ ord S.t := by
  rw [mem_ord, hI.refs p hp]
  constructor
  · intro h
    obtain ⟨k, hk⟩ := List.exists_mem_of_length_pos (l := ks S.t (p + 1)) (by omega)
    rw [mem_ks] at hk
    exact ⟨by omega, k, hk.1, hk.2⟩
  · rintro ⟨_, k, hk, e⟩
    have := List.length_pos_of_mem ((mem_ks S.t (p + 1) k).2 ⟨hk, e⟩)
    omega
theorem ids_same {L : List En} {S : FS} (h : RL L S) (hI : Inv S) (kind : Int) : idsF kind (L.map En.x) = idsA S kind := by
  obtain ⟨h1, h2⟩ := compact_sorted (idsTo S kind 32)
  refine up_eq (idsF_up _ _) h1 (fun a => ?_)
  rw [idsF_mem]
  unfold idsA
  rw [h2, mem_idsTo]
  constructor
  · rintro ⟨x, hx, r1, r2⟩
    rw [List.mem_map] at hx
    obtain ⟨e, he, rfl⟩ := hx
    obtain ⟨q, hq, e1, -⟩ := h.mem he
    have hq2 := (mem_ord _ _).1 hq
    obtain ⟨hq0, k, hk, e3⟩ := hq2
    have hps := hI.pos hk (by omega)
    rw [e3] at hps
    exact ⟨q - 1, hps.1, hps.2.1, by rw [← e1]; exact r1, by rw [← e1]; exact r2⟩
  · rintro ⟨p, hp, r1, r2, r3⟩
    have hm := (taken_iff hI hp).1 r1
    have hr : (S.f (p + 1 - 1), ks S.t (p + 1)) ∈ refL S := (mem_refL S _).2 ⟨p + 1, hm, rfl⟩
    rw [← h, List.mem_map] at hr
    obtain ⟨e, he, e2⟩ := hr
    have e3 := congrArg Prod.fst e2
    have e4 : e.x = S.f p := e3
    exact ⟨e.x, List.mem_map_of_mem he, by rw [e4]; exact r2, by rw [e4]; exact r3⟩
theorem nodup_le : ∀ (l m : List Nat), l.Nodup → (∀ x ∈ l, x ∈ m) → l.length ≤ m.length
  | [], m, _, _ => Nat.zero_le _
  | a :: l, m, hn, hs => by
    rw [List.nodup_cons] at hn
    have ha := hs a List.mem_cons_self
    have ih := nodup_le l (m.erase a) hn.2 (fun x hx => (List.mem_erase_of_ne (show x ≠ a from fun e => hn.1 (by rw [← e]; exact hx))).2 (hs x (List.mem_cons_of_mem _ hx)))
    rw [List.length_erase_of_mem ha] at ih
    have := List.length_pos_of_mem ha
    simp
    omega
/-- All places are taken just where 32 files are open. -/
theorem full_iff {S : FS} (hI : Inv S) : 32 ≤ (ord S.t).length ↔ plOf S = -1 := by
  have hone : ∀ q ∈ ord S.t, q ≠ 0 ∧ q ≤ 32 := fun q hq => by
    obtain ⟨h0, k, hk, e⟩ := (mem_ord _ _).1 hq
    have := hI.name k hk
    exact ⟨h0, by omega⟩
  rcases low_spec (fun p => (S.f p).refs == 0) 32 with ⟨p, hp, h1, _, h3⟩ | ⟨h1, h3⟩
  · have hpl : plOf S = (p : Int) := h3
    rw [hpl]
    constructor
    · intro h
      have hno : p + 1 ∉ ord S.t := fun hm => by
        have h4 := (taken_iff hI hp).2 hm
        have h5 : (S.f p).refs = 0 := by simpa using h1
        omega
      have := nodup_le (ord S.t) ((List.range' 1 32).erase (p + 1)) (ord_nodup _) (fun x hx => by
        have := hone x hx
        refine (List.mem_erase_of_ne (show x ≠ p + 1 from fun e => hno (by rw [← e]; exact hx))).2 ?_
        rw [List.mem_range'_1]
        omega)
      rw [List.length_erase_of_mem (by rw [List.mem_range'_1]; omega)] at this
      simp at this
      omega
    · intro h
      omega
  · have hpl : plOf S = -1 := h3
    rw [hpl]
    refine ⟨fun _ => rfl, fun _ => ?_⟩
    have := nodup_le (List.range' 1 32) (ord S.t) List.nodup_range' (fun x hx => by
      rw [List.mem_range'_1] at hx
      have h4 := h1 (x - 1) (by omega)
      have h5 := (hI.bound (p := x - 1) (by omega)).1
      have h6 := (taken_iff hI (p := x - 1) (by omega)).1 (by
        have : (S.f (x - 1)).refs ≠ 0 := by simpa using h4
        omega)
      rwa [show x - 1 + 1 = x by omega] at h6)
    simpa using this
end Go.Proofs.Ytkdbmfckfbmbiaa
