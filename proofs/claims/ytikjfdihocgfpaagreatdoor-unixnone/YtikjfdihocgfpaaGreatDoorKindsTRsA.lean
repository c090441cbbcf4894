/- Plain laws that name no program: what the cells of a value that came in are, by its type (bools, integers, strings, and structs and arrays of them, however deep). -/
/- The reference of package procs in the heap: Pid, Live, Parent, Begin, Fork. -/
/- januslaw20: awake; machines that came in. -/
/- Deeds of januslaw20 that came in, machines, numbers. -/
/- The reference of package signals: its processes in the heap; Pid, Copy, fresh, New. -/
import Derived.Test.YtikjfdihocgfpaaGreatDoorPlainTBitM
import Derived.Test.YtikjfdihocgfpaaGreatDoorPcATPcB
import Derived.Test.YtikjfdihocgfpaaGreatDoorSgCTSgD
import Derived.ProofKit
import Derived.OpenShut
import Derived.Lib.SmallJoins
import Derived.Deep.Slices
import Derived.Deep.RegionLaw
import Derived.Deep.RegionHeld3
import Derived.ChangeOld
import Derived.ChangeSlices
import Derived.Below
import Derived.Laws.StructEq
import Derived.Maps.AppendAt
import Derived.Laws.ResultCell
import Derived.Deep.CutBlock
import Derived.Laws.Tables
import Derived.LaidEqlPtr
import Derived.Laws.IdiomCopy
set_option linter.all false
namespace Go.Proofs.YtikjfdihocgfpaaGreatDoor
open Go.ChangeShapes Go.WideShapes Go.ChangeAt Go.RowKit Go.Joins
/-- What a cell may hold: a bool, an integer of a kind, a string. -/
abbrev CK := Option (Option IntKind)
abbrev CK.b : CK := none
abbrev CK.i (k : IntKind) : CK := some (some k)
abbrev CK.s : CK := some none
def CK.fits : CK → Value → Prop
  | none, v => ∃ x, v = .bool x
  | some (some k), v => ∃ n, v = .int k n ∧ (Lit.int k n).wf = true
  | some none, v => ∃ x, v = .string x ∧ x.size ≤ maxLen
def Fits : List CK → List Value → Prop
  | [], vs => vs = []
  | k :: ks, vs => ∃ v r, vs = v :: r ∧ CK.fits k v ∧ Fits ks r
theorem Fits.length : ∀ {ks : List CK} {vs : List Value}, Fits ks vs → vs.length = ks.length
  | [], vs, h => by cases h; rfl
  | k :: ks, vs, h => by obtain ⟨v, r, rfl, _, hr⟩ := h; simp [hr.length]
theorem Fits.append : ∀ {ks ks' : List CK} {vs vs' : List Value}, Fits ks vs → Fits ks' vs' → Fits (ks ++ ks') (vs ++ vs')
  | [], _, vs, _, h, h' => by cases h; exact h'
  | k :: ks, _, vs, vs', h, h' => by obtain ⟨v, r, rfl, hv, hr⟩ := h; exact ⟨v, r ++ vs', rfl, hv, hr.append h'⟩
/-- The kinds of a struct's fields, laid one behind the other from cell o on. -/
def kindsFields (P : Program) (K : TypeId → Option (List CK)) : Nat → List Field → Option (List CK)
  | _, [] => some []
  | o, f :: r => match K f.type with
    | none => none
    | some l => if f.offset = o ∧ P.cellsOf f.type = l.length then (kindsFields P K (o + l.length) r).map (l ++ ·) else none
/-- So many times the same. -/
def timesL (l : List CK) : Nat → List CK
  | 0 => []
  | n + 1 => l ++ timesL l n
/-- The kinds of a type's cells. -/
def kindsOf (P : Program) : Nat → TypeId → Option (List CK)
  | 0, _ => none
  | n + 1, t => match P.underlying t with
    | some .bool => some [CK.b]
    | some (.int k) => some [CK.i k]
    | some .string => some [CK.s]
    | some (.struct fs) => match kindsFields P (kindsOf P n) 0 fs.toList with
      | none => none
      | some l => if P.cellsOf t = l.length then some l else none
    | some (.array m e) => match kindsOf P n e with
      | none => none
      | some l => if P.cellsOf e = l.length ∧ P.cellsOf t = (timesL l m).length then some (timesL l m) else none
    | _ => none
section
variable {H : Type} {enc : TypeId × Value → H} {P : Program} {w : World} {base : Nat} {spare : Nat → Bool} {held : Bool}
theorem fits_fields {K : TypeId → Option (List CK)} {n : Nat} {cs : List Value} (hK : ∀ t l cs' x, K t = some l → DataW.trod enc P w base spare held n t cs' = some x → Fits l cs') :
    ∀ (fs : List Field) (o : Nat) (l : List CK), kindsFields P K o fs = some l → (∀ f ∈ fs, ∃ y, DataW.trod enc P w base spare held n f.type ((cs.drop f.offset).take (P.cellsOf f.type)) = some y) → Fits l ((cs.drop o).take l.length)
  | [], o, l, h, _ => by
    simp [kindsFields] at h
    subst h
    simp [Fits]
  | f :: r, o, l, h, hy => by
    unfold kindsFields at h
    split at h
    · cases h
    · rename_i l0 hl0
      split at h
      · rename_i hc
        obtain ⟨ho, hcell⟩ := hc
        rw [Option.map_eq_some_iff] at h
        obtain ⟨l1, hl1, rfl⟩ := h
        obtain ⟨y, hy0⟩ := hy f (by simp)
        have h0 := hK f.type l0 _ y hl0 hy0
        rw [ho, hcell] at h0
        have h1 := fits_fields hK r (o + l0.length) l1 hl1 (fun g hg => hy g (by simp [hg]))
        have e : (cs.drop o).take (l0 ++ l1).length = (cs.drop o).take l0.length ++ (cs.drop (o + l0.length)).take l1.length := by
          rw [List.length_append, List.take_add, List.drop_drop]
        rw [e]
        exact h0.append h1
      · cases h
theorem fits_times {m : Nat} {l : List CK} {cs : List Value} (h : ∀ i, i < m → Fits l ((cs.drop (i * l.length)).take l.length)) : ∀ k o, o + k = m → Fits (timesL l k) ((cs.drop (o * l.length)).take (timesL l k).length)
  | 0, o, _ => by simp [timesL, Fits]
  | k + 1, o, hk => by
    have h0 := h o (by omega)
    have h1 := fits_times h k (o + 1) (by omega)
    have e : (cs.drop (o * l.length)).take (l ++ timesL l k).length = (cs.drop (o * l.length)).take l.length ++ (cs.drop ((o + 1) * l.length)).take (timesL l k).length := by
      rw [List.length_append, List.take_add, List.drop_drop]
      congr 3
      rw [Nat.add_mul]; omega
    show Fits (l ++ timesL l k) _
    simp only [timesL]
    rw [e]
    exact h0.append h1
/-- THE LAW: a value that reads at a type has the cells of the type's kinds. -/
theorem fits_of_trod : ∀ (n : Nat) (t : TypeId) (l : List CK) (fuel : Nat) (cs : List Value) (x : DataW H × List MemPlace), kindsOf P n t = some l → DataW.trod enc P w base spare held fuel t cs = some x → Fits l cs
  | 0, t, l, fuel, cs, x, hl, h => by simp [kindsOf] at hl
  | n + 1, t, l, fuel, cs, x, hl, h => by
    unfold kindsOf at hl
    split at hl
    · rename_i ht
      cases hl
      obtain ⟨b, rfl, _⟩ := DataW.trod_bool ht h
      exact ⟨_, [], rfl, ⟨b, rfl⟩, rfl⟩
    · rename_i k ht
      cases hl
      obtain ⟨a, rfl, _, hw⟩ := DataW.trod_int ht h
      exact ⟨_, [], rfl, ⟨a, rfl, hw⟩, rfl⟩
    · rename_i ht
      cases hl
      obtain ⟨s, rfl, _, hs⟩ := DataW.trod_string ht h
      exact ⟨_, [], rfl, ⟨s, rfl, hs⟩, rfl⟩
    · rename_i fs ht
      obtain ⟨xs, m, rfl, _, hlen, hxs, hf⟩ := DataW.trod_struct ht h
      split at hl
      · cases hl
      · rename_i l' hl'
        split at hl
        · rename_i hc
          cases hl
          have := fits_fields (enc := enc) (w := w) (base := base) (spare := spare) (held := held) (n := m) (cs := cs) (fun t l cs' x h1 h2 => fits_of_trod n t l m cs' x h1 h2) fs.toList 0 l hl' (fun f hf' => by
            obtain ⟨i, hi⟩ := List.getElem?_of_mem hf'
            have hi' : fs[i]? = some f := by simpa using hi
            have hlt : i < xs.length := by rw [hxs]; exact (Array.getElem?_eq_some_iff.1 hi').1
            exact ⟨xs[i], by rw [hf i f hi']; simp⟩)
          rw [List.drop_zero, List.take_of_length_le (by omega)] at this
          exact this
        · cases hl
    · rename_i m e ht
      obtain ⟨xs, m', rfl, _, hlen, hxs, hf⟩ := DataW.trod_array ht h
      split at hl
      · cases hl
      · rename_i l' hl'
        split at hl
        · rename_i hc
          cases hl
          obtain ⟨hc1, hc2⟩ := hc
          have := fits_times (m := m) (l := l') (cs := cs) (fun i hi => by
            have hfi := hf i hi
            rw [hc1] at hfi
            exact fits_of_trod n e l' m' _ (xs[i]'(by omega)) hl' (by rw [hfi]; simp)) m 0 (by omega)
          rw [Nat.zero_mul, List.drop_zero, List.take_of_length_le (by omega)] at this
          exact this
        · cases hl
    · cases hl
end
end Go.Proofs.YtikjfdihocgfpaaGreatDoor
namespace Go.Proofs.YtikjfdihocgfpaaGreatDoor
open Go.RowKit Go.Lib
namespace Ow
end Ow
namespace Pc
open Ow
/-- What the reference's row says of a pid. -/
structure Tr where
  is : Int
  par : Int
  st : Int
abbrev TS := Nat → Tr
def TS.cell (T : TS) (j : Nat) : Int := if j % 3 = 0 then (T (j / 3)).is else if j % 3 = 1 then (T (j / 3)).par else (T (j / 3)).st
def rqL (T : TS) : List Int := (List.range 24).map T.cell
def TS.set (T : TS) (i : Nat) (t : Tr) : TS := fun j => if j = i then t else T j
theorem rq_get (T : TS) {j : Nat} (hj : j < 24) : (rqL T)[j]? = some (T.cell j) := by simp [rqL, hj]
theorem cell_1 (T : TS) (i : Nat) : T.cell (i * 3 + 1) = (T i).par := by
  unfold TS.cell
  rw [if_neg (by omega), if_pos (by omega), show (i * 3 + 1) / 3 = i by omega]
theorem cell_2 (T : TS) (i : Nat) : T.cell (i * 3 + 2) = (T i).st := by
  unfold TS.cell
  rw [if_neg (by omega), if_neg (by omega), show (i * 3 + 2) / 3 = i by omega]
theorem TS.set_same (T : TS) (i : Nat) (t : Tr) : T.set i t i = t := by unfold TS.set; rw [if_pos rfl]
theorem TS.set_other {T : TS} {i j : Nat} (t : Tr) (h : j ≠ i) : T.set i t j = T j := by unfold TS.set; rw [if_neg h]
/-- Block b holds this row. -/
def RT (w : World) (b : Nat) (T : TS) : Prop := w.heap[b]? = some (.cells (irow (rqL T)) 171)
section
variable {w w' : World} {b : Nat} {T : TS}
theorem RT.lt (h : RT w b T) : b < w.heap.size := lt_of_heap h
theorem RT.keep (h : RT w b T) (hb : w'.heap[b]? = w.heap[b]?) : RT w' b T := hb.trans h
theorem RT.below (h : RT w b T) (hb : Below w.heap.size w w') : RT w' b T := h.keep (hb.block _ h.lt)
theorem RT.par (h : RT w b T) {i : Nat} (hi : i < 8) : w.cell? ⟨b, i * 3 + 1, none⟩ = some (.int .i64 (T i).par) := by rw [irow_cell h (rq_get T (show i * 3 + 1 < 24 by omega)), cell_1]
theorem RT.st (h : RT w b T) {i : Nat} (hi : i < 8) : w.cell? ⟨b, i * 3 + 2, none⟩ = some (.int .i64 (T i).st) := by rw [irow_cell h (rq_get T (show i * 3 + 2 < 24 by omega)), cell_2]
theorem RT.free (h : RT w b T) (j : Nat) : w.frozen? ⟨b, j, none⟩ = false := frozen_of_heap h
end
/-- What processes are as a row. -/
def trO : Option Pr → Tr
  | none => ⟨0, 0, 0⟩
  | some p => ⟨if p.zom = true then 2 else 1, p.par, p.st⟩
def trS (S : St) : TS := fun i => trO (S ((i : Int) + 1))
end Pc
end Go.Proofs.YtikjfdihocgfpaaGreatDoor
namespace Go.Proofs.YtikjfdihocgfpaaGreatDoor
open Go.ChangeShapes Go.WideShapes Go.ChangeAt Go.RowKit Go.Lib
namespace Ow
end Ow
namespace Sg
open Ow
end Sg
end Go.Proofs.YtikjfdihocgfpaaGreatDoor
namespace Go.Proofs.YtikjfdihocgfpaaGreatDoor
open Go.ChangeShapes Go.WideShapes Go.ChangeAt Go.RowKit Go.Lib Go.Joins
namespace Ow
end Ow
namespace Sg
open Ow
section
variable {H : Type} {enc : TypeId × Value → H} {w : World} {base : Nat} {held : Bool}
theorem int_in {n : Nat} {v : Value} {y : DataW H × List MemPlace} (h : DataW.trod enc Tryz.prog w base (fun _ => true) held n 3 [v] = some y) : ∃ x : Int, v = .int .i64 x ∧ -9223372036854775808 ≤ x ∧ x ≤ 9223372036854775807 := by
  obtain ⟨x, e, _, hw⟩ := DataW.trod_int Tryz.underlying3 h
  simp only [List.cons.injEq, and_true] at e
  exact ⟨x, e, bounds_i64 hw⟩
theorem trod_struct5 {P : Program} {spare : Nat → Bool} {t : TypeId} {f0 f1 f2 f3 f4 : Field} {fuel : Nat} {cs : List Value} {x : DataW H × List MemPlace} (ht : P.underlying t = some (.struct #[f0, f1, f2, f3, f4])) (h : DataW.trod enc P w base spare held fuel t cs = some x) :
    ∃ y0 y1 y2 y3 y4 n, cs.length = P.cellsOf t ∧ DataW.trod enc P w base spare held n f0.type ((cs.drop f0.offset).take (P.cellsOf f0.type)) = some y0 ∧
      DataW.trod enc P w base spare held n f1.type ((cs.drop f1.offset).take (P.cellsOf f1.type)) = some y1 ∧ DataW.trod enc P w base spare held n f2.type ((cs.drop f2.offset).take (P.cellsOf f2.type)) = some y2 ∧
      DataW.trod enc P w base spare held n f3.type ((cs.drop f3.offset).take (P.cellsOf f3.type)) = some y3 ∧ DataW.trod enc P w base spare held n f4.type ((cs.drop f4.offset).take (P.cellsOf f4.type)) = some y4 := by
  obtain ⟨xs, n, _, rfl, hl, hlen, hf⟩ := DataW.trod_struct ht h
  match xs, hlen with
  | [y0, y1, y2, y3, y4], _ => exact ⟨y0, y1, y2, y3, y4, n, hl, by simpa using hf 0 f0 rfl, by simpa using hf 1 f1 rfl, by simpa using hf 2 f2 rfl, by simpa using hf 3 f3 rfl, by simpa using hf 4 f4 rfl⟩
end
section
variable {H : Type} {enc : TypeId × Value → H} {w : World} {base : Nat} {held : Bool}
end
end Sg
end Go.Proofs.YtikjfdihocgfpaaGreatDoor
namespace Go.Proofs.YtikjfdihocgfpaaGreatDoor
open Go.RowKit Go.Lib
namespace Ow
end Ow
namespace Sg
open Ow
/-- The reference's process at place o of a row. -/
structure RgR (w : World) (row : Array Value) (o : Nat) (p : Sg) : Prop where
  size : o + 33 ≤ row.size
  hnd : ∀ j, j < 15 → row[o + j]? = some (.int .u64 (p.h.getD j 0))
  pen : ∀ j, j < 15 → row[o + 15 + j]? = some (.bool (p.q.testBit (j + 1)))
  inh : row[o + 30]? = some (.bool p.k.isSome)
  pc : row[o + 31]? = some (.int .i64 p.pc)
  stk : ∃ a c, row[o + 32]? = some (.slice a p.st.length c) ∧ p.st.length ≤ c ∧ TRd w a p.st
theorem RgR.keep {w w' : World} {row row' : Array Value} {o : Nat} {p : Sg} (h : RgR w row o p) (hs : row'.size = row.size) (hk : ∀ k, o ≤ k → k < o + 33 → row'[k]? = row[k]?) (hw : KeepW w w') : RgR w' row' o p := by
  obtain ⟨a, c, h1, h2, h3⟩ := h.stk
  refine ⟨by rw [hs]; exact h.size, fun j hj => ?_, fun j hj => ?_, ?_, ?_, ⟨a, c, ?_, h2, h3.kept hw⟩⟩
  · rw [hk _ (by omega) (by omega)]; exact h.hnd j hj
  · rw [hk _ (by omega) (by omega)]; exact h.pen j hj
  · rw [hk _ (by omega) (by omega)]; exact h.inh
  · rw [hk _ (by omega) (by omega)]; exact h.pc
  · rw [hk _ (by omega) (by omega)]; exact h1
theorem RgR.kept {w w' : World} {row : Array Value} {o : Nat} {p : Sg} (h : RgR w row o p) (hw : KeepW w w') : RgR w' row o p := h.keep rfl (fun _ _ _ => rfl) hw
/-- Outside of the process at place o nothing changed. -/
def SameR (o : Nat) (row row' : Array Value) : Prop := row'.size = row.size ∧ ∀ k, k < o ∨ o + 33 ≤ k → row'[k]? = row[k]?
theorem SameR.refl (o : Nat) (row : Array Value) : SameR o row row := ⟨rfl, fun _ _ => rfl⟩
theorem SameR.trans {o : Nat} {r1 r2 r3 : Array Value} (h : SameR o r1 r2) (k : SameR o r2 r3) : SameR o r1 r3 := ⟨k.1.trans h.1, fun i hi => (k.2 i hi).trans (h.2 i hi)⟩
theorem SameR.set {o i : Nat} (row : Array Value) (v : Value) (h : i < 33) : SameR o row (row.setIfInBounds (o + i) v) := ⟨by simp, fun k hk => by rw [Array.getElem?_setIfInBounds, if_neg (by omega)]⟩
/-- Block b holds this row of the reference. -/
def RB (w : World) (b : Nat) (row : Array Value) : Prop := w.heap[b]? = some (.cells row 165)
section
variable {w w' : World} {b : Nat} {row : Array Value}
theorem RB.lt (h : RB w b row) : b < w.heap.size := lt_of_heap h
theorem RB.keep (h : RB w b row) (hb : w'.heap[b]? = w.heap[b]?) : RB w' b row := hb.trans h
theorem RB.below (h : RB w b row) (hb : Below w.heap.size w w') : RB w' b row := h.keep (hb.block _ h.lt)
theorem RB.drew (h : RB w b row) : RB w.drew b row := h
theorem RB.cell (h : RB w b row) (i : Nat) : w.cell? ⟨b, i, none⟩ = row[i]? := cell_of_heap h
theorem RB.free (h : RB w b row) (i : Nat) : w.frozen? ⟨b, i, none⟩ = false := frozen_of_heap h
theorem RB.set (h : RB w b row) (i : Nat) (v : Value) : RB (w.setCell ⟨b, i, none⟩ v) b (row.setIfInBounds i v) := by
  unfold RB at *
  rw [setCell_eq_setRow w b i _ _ _ _ h, setRow_heap w b _ _ _ _ h]
theorem RB.kw (h : RB w b row) (hu : Upd b w w') : KeepW w w' := KeepW.upd h (by decide) hu
end
theorem RB.sets {b : Nat} : ∀ (vs : List Value) (o : Nat) (w : World) (row : Array Value), RB w b row → RB (w.setCells b o vs) b (putA row o vs)
  | [], _, _, _, h => h
  | v :: r, o, w, row, h => RB.sets r (o + 1) _ _ (h.set o v)
theorem RB.there {w : World} {b : Nat} {row : Array Value} (h : RB w b row) (o n : Nat) (hn : o + n ≤ row.size) : w.there b o n := fun j hj => by
  refine ⟨?_, h.free _⟩
  rw [h.cell, Array.getElem?_eq_getElem (by omega)]
  rfl
theorem putA_sameR {vs : List Value} (o : Nat) (row : Array Value) (h : vs.length = 33) : SameR o row (putA row o vs) := ⟨putA_size _ _ _, fun k hk => putA_out vs o row k (by omega)⟩
/-- What is told of the processes in the row. -/
structure RgRow (w : World) (row : Array Value) (S : SS) : Prop where
  size : row.size = 264
  at' : ∀ i, i < 8 → RgR w row (i * 33) (S i)
theorem RgRow.kept {w w' : World} {row : Array Value} {S : SS} (h : RgRow w row S) (hw : KeepW w w') : RgRow w' row S := ⟨h.size, fun i hi => (h.at' i hi).kept hw⟩
/-- Block b holds the reference's signals S. -/
def RgAt (w : World) (b : Nat) (S : SS) : Prop := ∃ row, RB w b row ∧ RgRow w row S
section
variable {w w' : World} {b : Nat} {S : SS}
theorem RgAt.lt (h : RgAt w b S) : b < w.heap.size := by
  obtain ⟨row, hr, _⟩ := h
  exact hr.lt
theorem RgAt.keep (h : RgAt w b S) (hb : w'.heap[b]? = w.heap[b]?) (hw : KeepW w w') : RgAt w' b S := by
  obtain ⟨row, hr, h1⟩ := h
  exact ⟨row, hr.keep hb, h1.kept hw⟩
theorem RgAt.ne {c : Nat} {T : SS} (h : RgAt w b S) (hc : SgAt w c T) : b ≠ c := by
  obtain ⟨row, hr, _⟩ := h
  obtain ⟨row2, hp, _⟩ := hc
  intro e
  unfold RB at hr
  unfold SB at hp
  rw [e, hp] at hr
  simp only [Option.some.injEq, Obj.cells.injEq] at hr
  exact absurd hr.2.1 (by decide)
end
end Sg
end Go.Proofs.YtikjfdihocgfpaaGreatDoor
