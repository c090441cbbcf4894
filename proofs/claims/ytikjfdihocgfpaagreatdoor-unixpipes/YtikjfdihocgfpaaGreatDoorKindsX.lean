/- Plain laws that name no program: what the cells of a value that came in are, by its type (bools, integers, strings, and structs and arrays of them, however deep). -/
import Derived.Test.YtikjfdihocgfpaaGreatDoorKinds
import Derived.ProofKit
import Derived.OpenShut
import Derived.Lib.SmallJoins
import Derived.Deep.Slices
set_option linter.all false
namespace Go.Proofs.YtikjfdihocgfpaaGreatDoor
open Go.ChangeShapes Go.WideShapes Go.ChangeAt Go.RowKit Go.Joins
abbrev CK.b : CK := none
abbrev CK.i (k : IntKind) : CK := some (some k)
abbrev CK.s : CK := some none
theorem Fits.append : ∀ {ks ks' : List CK} {vs vs' : List Value}, Fits ks vs → Fits ks' vs' → Fits (ks ++ ks') (vs ++ vs')
  | [], _, vs, _, h, h' => by cases h; exact h'
  | k :: ks, _, vs, vs', h, h' => by obtain ⟨v, r, rfl, hv, hr⟩ := h; exact ⟨v, r ++ vs', rfl, hv, hr.append h'⟩
/-- The kinds of a struct's fields, laid one behind the other from cell o on. -/
def kindsFields (P : Program) (K : TypeId → Option (List CK)) : Nat → List Field → Option (List CK)
  | _, [] => some []
  | o, f :: r => match K f.type with
    | none => none
    | some l => if f.offset = o ∧ P.cellsOf f.type = l.length then (kindsFields P K (o + l.length) r).map (l ++ ·) else none
/-- So many times the same. -/
def timesL (l : List CK) : Nat → List CK
  | 0 => []
  | n + 1 => l ++ timesL l n
/-- The kinds of a type's cells. -/
def kindsOf (P : Program) : Nat → TypeId → Option (List CK)
  | 0, _ => none
  | n + 1, t => match P.underlying t with
    | some .bool => some [CK.b]
    | some (.int k) => some [CK.i k]
    | some .string => some [CK.s]
    | some (.struct fs) => match kindsFields P (kindsOf P n) 0 fs.toList with
      | none => none
      | some l => if P.cellsOf t = l.length then some l else none
    | some (.array m e) => match kindsOf P n e with
      | none => none
      | some l => if P.cellsOf e = l.length ∧ P.cellsOf t = (timesL l m).length then some (timesL l m) else none
    | _ => none
section
variable {H : Type} {enc : TypeId × Value → H} {P : Program} {w : World} {base : Nat} {spare : Nat → Bool} {held : Bool}
theorem fits_fields {K : TypeId → Option (List CK)} {n : Nat} {cs : List Value} (hK : ∀ t l cs' x, K t = some l → DataW.trod enc P w base spare held n t cs' = some x → Fits l cs') :
    ∀ (fs : List Field) (o : Nat) (l : List CK), kindsFields P K o fs = some l → (∀ f ∈ fs, ∃ y, DataW.trod enc P w base spare held n f.type ((cs.drop f.offset).take (P.cellsOf f.type)) = some y) → Fits l ((cs.drop o).take l.length)
  | [], o, l, h, _ => by
    simp [kindsFields] at h
    subst h
    simp [Fits]
  | f :: r, o, l, h, hy => by
    unfold kindsFields at h
    split at h
    · cases h
    · rename_i l0 hl0
      split at h
      · rename_i hc
        obtain ⟨ho, hcell⟩ := hc
        rw [Option.map_eq_some_iff] at h
        obtain ⟨l1, hl1, rfl⟩ := h
        obtain ⟨y, hy0⟩ := hy f (by simp)
        have h0 := hK f.type l0 _ y hl0 hy0
        rw [ho, hcell] at h0
        have h1 := fits_fields hK r (o + l0.length) l1 hl1 (fun g hg => hy g (by simp [hg]))
        have e : (cs.drop o).take (l0 ++ l1).length = (cs.drop o).take l0.length ++ (cs.drop (o + l0.length)).take l1.length := by
          rw [List.length_append, List.take_add, List.drop_drop]
        rw [e]
        exact h0.append h1
      · cases h
theorem fits_times {m : Nat} {l : List CK} {cs : List Value} (h : ∀ i, i < m → Fits l ((cs.drop (i * l.length)).take l.length)) : ∀ k o, o + k = m → Fits (timesL l k) ((cs.drop (o * l.length)).take (timesL l k).length)
  | 0, o, _ => by simp [timesL, Fits]
  | k + 1, o, hk => by
    have h0 := h o (by omega)
    have h1 := fits_times h k (o + 1) (by omega)
    have e : (cs.drop (o * l.length)).take (l ++ timesL l k).length = (cs.drop (o * l.length)).take l.length ++ (cs.drop ((o + 1) * l.length)).take (timesL l k).length := by
      rw [List.length_append, List.take_add, List.drop_drop]
      congr 3
      rw [Nat.add_mul]; omega
    show Fits (l ++ timesL l k) _
    simp only [timesL]
    rw [e]
    exact h0.append h1
/-- THE LAW: a value that reads at a type has the cells of the type's kinds. -/
theorem fits_of_trod : ∀ (n : Nat) (t : TypeId) (l : List CK) (fuel : Nat) (cs : List Value) (x : DataW H × List MemPlace), kindsOf P n t = some l → DataW.trod enc P w base spare held fuel t cs = some x → Fits l cs
  | 0, t, l, fuel, cs, x, hl, h => by simp [kindsOf] at hl
  | n + 1, t, l, fuel, cs, x, hl, h => by
    unfold kindsOf at hl
    split at hl
    · rename_i ht
      cases hl
      obtain ⟨b, rfl, _⟩ := DataW.trod_bool ht h
      exact ⟨_, [], rfl, ⟨b, rfl⟩, rfl⟩
    · rename_i k ht
      cases hl
      obtain ⟨a, rfl, _, hw⟩ := DataW.trod_int ht h
      exact ⟨_, [], rfl, ⟨a, rfl, hw⟩, rfl⟩
    · rename_i ht
      cases hl
      obtain ⟨s, rfl, _, hs⟩ := DataW.trod_string ht h
      exact ⟨_, [], rfl, ⟨s, rfl, hs⟩, rfl⟩
    · rename_i fs ht
      obtain ⟨xs, m, rfl, _, hlen, hxs, hf⟩ := DataW.trod_struct ht h
      split at hl
      · cases hl
      · rename_i l' hl'
        split at hl
        · rename_i hc
          cases hl
          have := fits_fields (enc := enc) (w := w) (base := base) (spare := spare) (held := held) (n := m) (cs := cs) (fun t l cs' x h1 h2 => fits_of_trod n t l m cs' x h1 h2) fs.toList 0 l hl' (fun f hf' => by
            obtain ⟨i, hi⟩ := List.getElem?_of_mem hf'
            have hi' : fs[i]? = some f := by simpa using hi
            have hlt : i < xs.length := by rw [hxs]; exact (Array.getElem?_eq_some_iff.1 hi').1
            exact ⟨xs[i], by rw [hf i f hi']; simp⟩)
          rw [List.drop_zero, List.take_of_length_le (by omega)] at this
          exact this
        · cases hl
    · rename_i m e ht
      obtain ⟨xs, m', rfl, _, hlen, hxs, hf⟩ := DataW.trod_array ht h
      split at hl
      · cases hl
      · rename_i l' hl'
        split at hl
        · rename_i hc
          cases hl
          obtain ⟨hc1, hc2⟩ := hc
          have := fits_times (m := m) (l := l') (cs := cs) (fun i hi => by
            have hfi := hf i hi
            rw [hc1] at hfi
            exact fits_of_trod n e l' m' _ (xs[i]'(by omega)) hl' (by rw [hfi]; simp)) m 0 (by omega)
          rw [Nat.zero_mul, List.drop_zero, List.take_of_length_le (by omega)] at this
          exact this
        · cases hl
    · cases hl
/-- A slice of structs that came in: each element's cells. -/
theorem slice_fits {t e : TypeId} {a0 : Option Addr} {len cap fuel : Nat} {x : DataW H × List MemPlace} {l : List CK} (ht : P.underlying t = some (.slice e)) (hl : kindsOf P 9 e = some l) (h0 : 0 < l.length) (hc : P.cellsOf e = l.length)
    (h : DataW.trod enc P w base spare held fuel t [.slice a0 len cap] = some x) :
    len ≤ 9223372036854775807 ∧ ∀ j, j < len → ∃ gb off cs, a0 = some ⟨gb, off, none⟩ ∧ Fits l cs ∧ ∀ i u, cs[i]? = some u → w.cell? ⟨gb, off + j * l.length + i, none⟩ = some u := by
  rcases Go.Deep.open_slice ht h with ⟨h0, _⟩ | ⟨a, len', cap', m, n, D, Pl, hcs, hb, hl1, hm, hmm, _, hx⟩
  · simp at h0
    obtain ⟨rfl, rfl, rfl⟩ := h0
    exact ⟨by omega, fun j hj => by omega⟩
  · simp at hcs
    obtain ⟨rfl, rfl, rfl⟩ := hcs
    refine ⟨by unfold maxLen at hm; omega, fun j hj => ?_⟩
    have hlm : len ≤ m := by rw [hmm]; split <;> omega
    obtain ⟨cs', h1, h2⟩ := hx j (by omega)
    have hf := fits_of_trod 9 e l _ _ _ hl h2
    rw [hc] at h1
    obtain ⟨_, hlen, hcell⟩ := World.cells?_some h1
    have hz : ∃ u, w.cell? a = some u := by
      obtain ⟨cs0, z1, _⟩ := hx 0 (by omega)
      rw [hc] at z1
      obtain ⟨_, zl, z2⟩ := World.cells?_some z1
      have z3 := z2 0 (by omega)
      rw [Go.Deep.add_add] at z3
      have z4 : w.cell? a = cs0[0]? := by simpa [Addr.add] using z3
      exact ⟨cs0[0]'(by omega), by rw [z4]; simp⟩
    obtain ⟨gb, off, spot⟩ := a
    obtain ⟨u, hu⟩ := hz
    have hspot : spot = none := by simpa using World.cell?_spot hu
    subst hspot
    refine ⟨gb, off, cs', rfl, hf, fun i u hi => ?_⟩
    have hil : i < cs'.length := (List.getElem?_eq_some_iff.1 hi).1
    have q := hcell i (by omega)
    rw [Go.Deep.add_add] at q
    simp only [Go.WideShapes.add_plain] at q
    rw [Nat.add_assoc, q]
    exact hi
end
end Go.Proofs.YtikjfdihocgfpaaGreatDoor
