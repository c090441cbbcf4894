/- Plain laws that name no program: what a bound on the bulk of what came in says of its strings. -/
import Derived.Test.YtbihcaacpeoghaaRows
import Derived.Test.YtbihcaacpeoghaaKinds
namespace Go.Proofs.Ytbihcaacpeoghaa
open Go.ChangeShapes Go.WideShapes Go.ChangeAt Go.RowKit Go.Joins
set_option linter.unusedVariables false

theorem bulk_part {H : Type} {d : DataW H} {l : List (DataW H)} (h : d ∈ l) : Rows.uptoBulk d ≤ Rows.uptoBulkAll l := by
  induction l with
  | nil => cases h
  | cons a r ih =>
    rw [Rows.uptoBulkAll]
    rcases List.mem_cons.1 h with rfl | h
    · omega
    · have := ih h
      omega
theorem bulk_elem {H : Type} {d : DataW H} {l r : List (DataW H)} (h : d ∈ l) : Rows.uptoBulk d ≤ Rows.uptoBulk (.slice l r) := by
  have := bulk_part h
  rw [Rows.uptoBulk]
  omega
theorem bulk_agg {H : Type} {d : DataW H} {l : List (DataW H)} (h : d ∈ l) : Rows.uptoBulk d ≤ Rows.uptoBulk (.agg l) := by
  have := bulk_part h
  rw [Rows.uptoBulk]
  omega

/-- A string that is a cell is no longer than M. -/
def Small (M : Nat) (v : Value) : Prop := ∀ s : ByteArray, v = .string s → s.size ≤ M

section
variable {H : Type} {enc : TypeId × Value → H} {P : Program} {w : World} {base : Nat} {spare : Nat → Bool} {held : Bool} {M : Nat}

theorem small_fields {K : TypeId → Option (List CK)} {n : Nat} {cs : List Value} (hK : ∀ t l cs' x, K t = some l → DataW.trod enc P w base spare held n t cs' = some x → Rows.uptoBulk x.1 ≤ M → ∀ v ∈ cs', Small M v) :
    ∀ (fs : List Field) (o : Nat) (l : List CK), kindsFields P K o fs = some l → (∀ f ∈ fs, ∃ y, DataW.trod enc P w base spare held n f.type ((cs.drop f.offset).take (P.cellsOf f.type)) = some y ∧ Rows.uptoBulk y.1 ≤ M) → ∀ v ∈ (cs.drop o).take l.length, Small M v
  | [], o, l, h, _ => by
    simp [kindsFields] at h
    subst h
    simp
  | f :: r, o, l, h, hy => by
    unfold kindsFields at h
    split at h
    · cases h
    · rename_i l0 hl0
      split at h
      · rename_i hc
        obtain ⟨ho, hcell⟩ := hc
        rw [Option.map_eq_some_iff] at h
        obtain ⟨l1, hl1, rfl⟩ := h
        obtain ⟨y, hy0, hy1⟩ := hy f (by simp)
        have h0 := hK f.type l0 _ y hl0 hy0 hy1
        rw [ho, hcell] at h0
        have h1 := small_fields hK r (o + l0.length) l1 hl1 (fun g hg => hy g (by simp [hg]))
        have e : (cs.drop o).take (l0 ++ l1).length = (cs.drop o).take l0.length ++ (cs.drop (o + l0.length)).take l1.length := by
          rw [List.length_append, List.take_add, List.drop_drop]
        rw [e]
        intro v hv
        rcases List.mem_append.1 hv with hv | hv
        · exact h0 v hv
        · exact h1 v hv
      · cases h

theorem small_times {m : Nat} {l : List CK} {cs : List Value} (h : ∀ i, i < m → ∀ v ∈ (cs.drop (i * l.length)).take l.length, Small M v) : ∀ k o, o + k = m → ∀ v ∈ (cs.drop (o * l.length)).take (timesL l k).length, Small M v
  | 0, o, _ => by simp [timesL]
  | k + 1, o, hk => by
    have h0 := h o (by omega)
    have h1 := small_times h k (o + 1) (by omega)
    have e : (cs.drop (o * l.length)).take (l ++ timesL l k).length = (cs.drop (o * l.length)).take l.length ++ (cs.drop ((o + 1) * l.length)).take (timesL l k).length := by
      rw [List.length_append, List.take_add, List.drop_drop]
      congr 3
      rw [Nat.add_mul]; omega
    simp only [timesL]
    rw [e]
    intro v hv
    rcases List.mem_append.1 hv with hv | hv
    · exact h0 v hv
    · exact h1 v hv

/-- THE LAW: a value that reads with a bulk of at most M has no cell with a longer string. -/
theorem small_of_trod : ∀ (n : Nat) (t : TypeId) (l : List CK) (fuel : Nat) (cs : List Value) (x : DataW H × List MemPlace), kindsOf P n t = some l → DataW.trod enc P w base spare held fuel t cs = some x → Rows.uptoBulk x.1 ≤ M → ∀ v ∈ cs, Small M v
  | 0, t, l, fuel, cs, x, hl, h, _ => by simp [kindsOf] at hl
  | n + 1, t, l, fuel, cs, x, hl, h, hM => by
    unfold kindsOf at hl
    split at hl
    · rename_i ht
      obtain ⟨b, rfl, _⟩ := DataW.trod_bool ht h
      intro v hv s e
      simp at hv
      rw [hv] at e
      cases e
    · rename_i k ht
      obtain ⟨a, rfl, _, hw⟩ := DataW.trod_int ht h
      intro v hv s e
      simp at hv
      rw [hv] at e
      cases e
    · rename_i ht
      obtain ⟨s, rfl, rfl, hs⟩ := DataW.trod_string ht h
      intro v hv s' e
      simp at hv
      rw [hv] at e
      cases e
      rw [Rows.uptoBulk] at hM
      have : s.data.toList.length = s.size := by simp [ByteArray.size_data]
      omega
    · rename_i fs ht
      obtain ⟨xs, m, rfl, rfl, hlen, hxs, hf⟩ := DataW.trod_struct ht h
      split at hl
      · cases hl
      · rename_i l' hl'
        split at hl
        · rename_i hc
          cases hl
          have := small_fields (enc := enc) (w := w) (base := base) (spare := spare) (held := held) (n := m) (cs := cs) (M := M) (fun t l cs' x h1 h2 h3 => small_of_trod n t l m cs' x h1 h2 h3) fs.toList 0 l hl' (fun f hf' => by
            obtain ⟨i, hi⟩ := List.getElem?_of_mem hf'
            have hi' : fs[i]? = some f := by simpa using hi
            have hlt : i < xs.length := by rw [hxs]; exact (Array.getElem?_eq_some_iff.1 hi').1
            refine ⟨xs[i], by rw [hf i f hi']; simp, Nat.le_trans (bulk_agg (List.mem_map_of_mem (List.getElem_mem hlt))) hM⟩)
          rw [List.drop_zero, List.take_of_length_le (by omega)] at this
          exact this
        · cases hl
    · rename_i m e ht
      obtain ⟨xs, m', rfl, rfl, hlen, hxs, hf⟩ := DataW.trod_array ht h
      split at hl
      · cases hl
      · rename_i l' hl'
        split at hl
        · rename_i hc
          cases hl
          obtain ⟨hc1, hc2⟩ := hc
          have := small_times (m := m) (l := l') (cs := cs) (M := M) (fun i hi => by
            have hfi := hf i hi
            rw [hc1] at hfi
            have hlt : i < xs.length := by omega
            exact small_of_trod n e l' m' _ (xs[i]'hlt) hl' (by rw [hfi]; simp) (Nat.le_trans (bulk_agg (List.mem_map_of_mem (List.getElem_mem hlt))) hM)) m 0 (by omega)
          rw [Nat.zero_mul, List.drop_zero, List.take_of_length_le (by omega)] at this
          exact this
        · cases hl
    · cases hl

/-- A slice of structs that came in, of bulk at most M: each element's cells. -/
theorem slice_small {t e : TypeId} {a0 : Option Addr} {len cap fuel : Nat} {x : DataW H × List MemPlace} {l : List CK} (ht : P.underlying t = some (.slice e)) (hl : kindsOf P 9 e = some l) (h0 : 0 < l.length) (hc : P.cellsOf e = l.length)
    (h : DataW.trod enc P w base spare held fuel t [.slice a0 len cap] = some x) (hM : Rows.uptoBulk x.1 ≤ M) :
    len ≤ 9223372036854775807 ∧ ∀ j, j < len → ∃ gb off cs, a0 = some ⟨gb, off, none⟩ ∧ Fits l cs ∧ (∀ v ∈ cs, Small M v) ∧ ∀ i u, cs[i]? = some u → w.cell? ⟨gb, off + j * l.length + i, none⟩ = some u := by
  obtain ⟨hlen, hall⟩ := slice_fits ht hl h0 hc h
  refine ⟨hlen, fun j hj => ?_⟩
  obtain ⟨gb, off, cs, ea, hfit, hcell⟩ := hall j hj
  refine ⟨gb, off, cs, ea, hfit, ?_, hcell⟩
  rcases Go.Deep.open_slice ht h with ⟨h0, _⟩ | ⟨a, len', cap', m, n, D, Pl, hcs, hb, hl1, hm, hmm, hxx, hx⟩
  · simp at h0
    omega
  · simp at hcs
    obtain ⟨rfl, rfl, rfl⟩ := hcs
    cases ea
    obtain ⟨cs', h1, h2⟩ := hx j (by rw [hmm]; split <;> omega)
    rw [hc] at h1
    obtain ⟨_, hlen', hcell'⟩ := World.cells?_some h1
    have hdj : Rows.uptoBulk (D j) ≤ M := by
      rw [hxx] at hM
      exact Nat.le_trans (bulk_elem (List.mem_map_of_mem (List.mem_range.2 hj))) hM
    have hs := small_of_trod 9 e l _ cs' _ hl h2 hdj
    have ecs : cs = cs' := by
      apply List.ext_getElem
      · rw [hfit.length, hlen']
      · intro i q1 q2
        have c1 := hcell i _ (List.getElem?_eq_getElem q1)
        have c2 := hcell' i (by omega)
        rw [Go.Deep.add_add] at c2
        simp only [Go.WideShapes.add_plain] at c2
        rw [← Nat.add_assoc, c1, List.getElem?_eq_getElem q2] at c2
        exact Option.some.inj c2
    rw [ecs]
    exact hs

end
end Go.Proofs.Ytbihcaacpeoghaa
