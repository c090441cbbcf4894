/- The reference of package fds: Ids, bit. -/
import Derived.Test.YtkdbmfckfbmbiaaRfL18
import Derived.Test.YtkdbmfckfbmbiaaIntsR
namespace Go.Proofs.Ytkdbmfckfbmbiaa
open Go.RowKit
set_option linter.unusedVariables false

theorem own_lower {w : World} {B B' : Nat} {e : TypeId} {s n : Nat} {v : Value} {xs : List Value} (h : w.ownsRow B' e s v n xs) (hB : B ≤ B') : w.ownsRow B e s v n xs := by
  refine ⟨h.1, ?_⟩
  rcases h.2 with h2 | ⟨g, cap, cur, h2, h3, r⟩
  · exact Or.inl h2
  · exact Or.inr ⟨g, cap, cur, h2, Nat.le_trans hB h3, r⟩
/-- The ids of files of a kind, each once. -/
def idsF (kind : Int) (xs : List Fl) : List Int := xs.foldl (fun D x => if x.kind = kind then insI x.id D else D) []
theorem idsF_snoc (kind : Int) (xs : List Fl) (x : Fl) : idsF kind (xs ++ [x]) = if x.kind = kind then insI x.id (idsF kind xs) else idsF kind xs := by
  simp [idsF]
theorem idsF_up (kind : Int) (xs : List Fl) : Up (idsF kind xs) := by
  induction xs using snoc_ind with
  | h0 => exact List.Pairwise.nil
  | h1 L e ih =>
    rw [idsF_snoc]
    split
    · exact insI_up _ _ ih
    · exact ih
theorem idsF_len (kind : Int) (xs : List Fl) : (idsF kind xs).length ≤ xs.length := by
  induction xs using snoc_ind with
  | h0 => exact Nat.le_refl _
  | h1 L e ih =>
    rw [idsF_snoc, List.length_append]
    split
    · have := insI_len e.id (idsF kind L)
      simp
      omega
    · simp
      omega
theorem idsF_mem (kind a : Int) (xs : List Fl) : a ∈ idsF kind xs ↔ ∃ x ∈ xs, x.kind = kind ∧ x.id = a := by
  induction xs using snoc_ind with
  | h0 => simp [idsF]
  | h1 L e ih =>
    rw [idsF_snoc]
    split
    · rename_i hk
      rw [insI_mem, ih]
      constructor
      · rintro (rfl | ⟨x, hx, h1, h2⟩)
        · exact ⟨e, by simp, hk, rfl⟩
        · exact ⟨x, by simp [hx], h1, h2⟩
      · rintro ⟨x, hx, h1, h2⟩
        rcases List.mem_append.1 hx with hx | hx
        · exact Or.inr ⟨x, hx, h1, h2⟩
        · rw [List.mem_singleton] at hx
          subst hx
          exact Or.inl h2.symm
    · rename_i hk
      rw [ih]
      constructor
      · rintro ⟨x, hx, h1, h2⟩
        exact ⟨x, by simp [hx], h1, h2⟩
      · rintro ⟨x, hx, h1, h2⟩
        rcases List.mem_append.1 hx with hx | hx
        · exact ⟨x, hx, h1, h2⟩
        · rw [List.mem_singleton] at hx
          subst hx
          exact absurd h1 hk
set_option maxHeartbeats 2000000 in
theorem rids_at (B c : Nat) (v : Value) (L : List En) (kind : Int) (w : World) (h : RIs w B c v L) (hl : L.length ≤ 48) :
    Calls Try.prog 30 #[.pointer (some ⟨c, 0, none⟩), .int .i64 kind] w fun e w' => ∃ u, e = .returned u ∧ w'.ownsRow w.heap.size 3 1 u (idsF kind (L.map En.x)).length (ivs (idsF kind (L.map En.x))) ∧ Below w.heap.size w w' := by
  obtain ⟨av, cv, rfl, hcv⟩ := h.form
  generalize hlg : L.length = ll at *
  have HLl : Hid (L.length = ll) := hlg
  have HH : Hid (RIs w B c (.slice av ll cv) L) := h
  clear h hlg
  go_enter Try.func30, Try.ntmps30
  go_wp2
  go_loopw [5, 6] (fun t s wr => ∃ (i : Nat) (u : Value), i ≤ ll ∧ s = .int .i64 i ∧ u = t ∧ wr.ownsRow w.heap.size 3 1 u (idsF kind ((L.take i).map En.x)).length (ivs (idsF kind ((L.take i).map En.x))) ∧ Below w.heap.size w wr) (fun _ s _ => ll - (intOf s).toNat)
  case atStart => exact ⟨0, _, by omega, rfl, rfl, World.ownsRow_nil _ _ _ _, Below.refl _ _⟩
  case round =>
    obtain ⟨i, u, hi, rfl, rfl, hown, hb⟩ := hrel
    have hR := HH.out.below hb
    have c0 := hR.c0
    have HO : Hid (wr.ownsRow w.heap.size 3 1 u (idsF kind ((L.take i).map En.x)).length (ivs (idsF kind ((L.take i).map En.x)))) := hown
    have HB : Hid (Below w.heap.size w wr) := hb
    by_cases hlt : i < ll
    · obtain ⟨e, he⟩ : ∃ e, L[i]? = some e := ⟨L[i]'(by rw [HLl.out]; exact hlt), List.getElem?_eq_getElem _⟩
      obtain ⟨g, cap, e1, _, _, hc⟩ := hR.at he
      simp only [Value.slice.injEq] at e1
      obtain ⟨rfl, -, rfl⟩ := e1
      have d0 : wr.cell? ⟨g, i * 6, none⟩ = some (.int .i64 e.x.kind) := hc 0 (by omega)
      have d1 : wr.cell? ⟨g, i * 6 + 1, none⟩ = some (.int .i64 e.x.id) := hc 1 (by omega)
      have hii : (i : Int) < (ll : Int) := by omega
      have i1 : decide ((i : Int) < (ll : Int)) = true := decide_eq_true hii
      have HS : Hid (idsF kind ((L.take (i + 1)).map En.x) = if e.x.kind = kind then insI e.x.id (idsF kind ((L.take i).map En.x)) else idsF kind ((L.take i).map En.x)) := by
        show _ = _
        rw [take_snocE he, List.map_append, ← idsF_snoc]
        rfl
      by_cases hk : e.x.kind = kind
      · have HS2 : Hid (idsF kind ((L.take (i + 1)).map En.x) = insI e.x.id (idsF kind ((L.take i).map En.x))) := by show _ = _; rw [HS.out, if_pos hk]
        have hle := idsF_len kind ((L.take i).map En.x)
        rw [List.length_map, List.length_take] at hle
        obtain ⟨a, cp, rfl, hrow⟩ := own_irow hown
        have hcp := own_cap hown
        have hP := rputi_at (idsF kind ((L.take i).map En.x)) a cp e.x.id wr hrow (by omega) hcp
        have hkk : (e.x.kind == kind) = true := by simp [hk]
        rw [← HS2.out] at hP
        generalize e.x.kind = ek at *
        generalize e.x.id = ei at *
        generalize (idsF kind ((L.take i).map En.x)).length = dl at *
        subst hk
        clear hR hc he hown hb hrow HS hkk HO HS2
        go_wp2_with fail
        refine hP.mono ?_
        rintro e1 w1 ⟨u1, rfl, hown1, hb1⟩
        have HO1 : Hid _ := own_lower hown1 HB.out.size
        have HB1 : Hid (Below w.heap.size w w1) := HB.out.trans (hb1.mono HB.out.size)
        clear hown1 hb1 hP
        go_wp2
        go_roundw
        case rel => exact ⟨i + 1, u1, by omega, by go_num, rfl, HO1.out, HB1.out⟩
        case measure => simp [intOf]; omega
      · have HS2 : Hid (idsF kind ((L.take (i + 1)).map En.x) = idsF kind ((L.take i).map En.x)) := by show _ = _; rw [HS.out, if_neg hk]
        have hkk : (e.x.kind == kind) = false := by simp [hk]
        generalize e.x.kind = ek at *
        clear hR hc he hown hb HS hk
        go_wp2
        go_roundw
        case rel => exact ⟨i + 1, u, by omega, by go_num, rfl, by rw [HS2.out]; exact HO.out, HB.out⟩
        case measure => simp [intOf]; omega
    · obtain rfl : i = ll := by omega
      have HT : Hid (L.take i = L) := by show _ = _; rw [← HLl.out, List.take_length]
      rw [HT.out] at HO
      clear hR hown hb
      go_wp2
      go_ret
      exact ⟨u, rfl, HO.out, HB.out⟩
theorem rbit_at (b : Bool) (w : World) :
    Calls Try.prog 52 #[.bool b] w fun e w' => e = .returned (.int .u64 (if b then 1 else 0)) ∧ w' = w := by
  cases b with
  | true =>
    go_enter Try.func52, Try.ntmps52
    go_wp2
    go_ret
    exact ⟨rfl, rfl⟩
  | false =>
    go_enter Try.func52, Try.ntmps52
    go_wp2
    go_ret
    exact ⟨rfl, rfl⟩
end Go.Proofs.Ytkdbmfckfbmbiaa
