import Derived.Test.YtbhpafgoofkkmaaGreatDoorCapAll
import Derived.Test.YtbhpafgoofkkmaaGreatDoorMemAll
import Derived.Test.YtbhpafgoofkkmaaGreatDoorMmuAll
import Derived.Laws.Cells
import Derived.Deep.MidRow
set_option linter.all false
namespace Go.Proofs.YtbhpafgoofkkmaaGreatDoor
open Go.RowKit Ca
namespace Ex
abbrev Pages := Nat → Int → Option (Int × Bool)
def setF (F : Pages) (e : Nat) (f : Int → Option (Int × Bool)) : Pages := fun i => if i = e then f else F i
theorem setF_same (F : Pages) (e : Nat) (f : Int → Option (Int × Bool)) : setF F e f e = f := by simp [setF]
theorem setF_other (F : Pages) (e i : Nat) (f : Int → Option (Int × Bool)) (h : i ≠ e) : setF F e f i = F i := by simp [setF, h]
def OkC (n : Nat) (x : Cp) : Prop := x.kind = 1 ∧ 0 ≤ x.id ∧ x.id < n ∧ x.len = 1 ∧ 1 ≤ x.rights ∧ x.rights ≤ 7
def KInv (T : Tab) (n : Nat) : Prop := ∀ j, j < 768 → (T j).x = Cp.no ∨ OkC n (T j).x
theorem no_is : Cp.no.is = false := rfl
theorem OkC.is {n : Nat} {x : Cp} (h : OkC n x) : x.is = true := by
 obtain ⟨h1, _⟩ := h
 simp [Cp.is, h1]
theorem KInv.ok {T : Tab} {n : Nat} (h : KInv T n) {j : Nat} (hj : j < 768) (hi : (T j).x.is = true) : OkC n (T j).x := by
 rcases h j hj with e | e
 ·rw [e, no_is] at hi; cases hi
 ·exact e
theorem KInv.sanes {T : Tab} {n : Nat} (h : KInv T n) (hn : n ≤ 1024) : Sanes T := by
 intro j hj
 rcases h j hj with e | ⟨h1, h2, h3, h4, h5, h6⟩
 ·rw [e]; exact Sane.no
 ·constructor <;> omega
theorem KInv.get {T : Tab} {n : Nat} (h : KInv T n) {e s : Int} (hi : (getT T e s).is = true) : OkC n (getT T e s) := by
 obtain ⟨i, hi', _, hx, _⟩ := get_slot hi
 rw [hx] at hi ⊢
 exact h.ok hi' hi
theorem KInv.put {T : Tab} {n : Nat} (h : KInv T n) (m : Nat) (H : Hd) (hH : OkC n H.x) : KInv (putT T m H) n := by
 intro j hj
 unfold putT
 split
 ·by_cases e : j = m * 64 + freeT T m
  ·subst e; rw [Tab.set_same]; exact Or.inr hH
  ·rw [Tab.set_other _ _ _ _ e]; exact h j hj
 ·exact h j hj
theorem KInv.add {T : Tab} {n : Nat} (h : KInv T n) (e f : Int) (h0 : 0 ≤ f) (h1 : f < n) : KInv (addT T e ⟨1, f, 1, 7⟩) n := by
 unfold addT
 split
 ·exact h.put _ _ ⟨rfl, h0, h1, rfl, (by decide : (1 : Int) ≤ 7), (by decide : (7 : Int) ≤ 7)⟩
 ·exact h
theorem KInv.give {T : Tab} {n : Nat} (h : KInv T n) (e s q r : Int) : KInv (giveT T e s q r) n := by
 unfold giveT
 split
 ·rename_i hg
  split
  ·simp only [giveOK, Bool.and_eq_true] at hg
   obtain ⟨h1, h2, h3, h4, h5, h6⟩ := h.get hg.1
   have hr := hg.2
   simp only [mayG, areR, Bool.and_eq_true, decide_eq_true_eq] at hr
   exact h.put _ _ ⟨h1, h2, h3, h4, hr.1.2.1, hr.1.2.2⟩
  ·exact h
 ·exact h
theorem KInv.drop {T : Tab} {n : Nat} (h : KInv T n) (e s : Int) : KInv (dropT T e s) n := by
 intro j hj
 unfold dropT
 split
 ·by_cases he : j = dropJ e s
  ·subst he; rw [Tab.set_same]; exact Or.inl rfl
  ·rw [Tab.set_other _ _ _ _ he, hoTo_x]; exact h j hj
 ·exact h j hj
theorem KInv.gone {T : Tab} {n : Nat} (h : KInv T n) (e : Int) : ∀ k, KInv (goneT T e k) n
 | 0 => h
 | k + 1 => (h.gone e k).drop _ _
theorem revS_or (T : Tab) (p : Int × Int) (j : Nat) : ∀ i, (revS T p i).1 j = T j ∨ (revS T p i).1 j = Hd.no
 | 0 => Or.inl rfl
 | i + 1 => by
  have ih := revS_or T p j i
  unfold revS
  split
  ·exact ih
  ·dsimp only [clTo]
   split
   ·exact Or.inr rfl
   ·exact ih
theorem KInv.revS {T : Tab} {n : Nat} (h : KInv T n) (p : Int × Int) (i : Nat) : KInv (revS T p i).1 n := by
 intro j hj
 rcases revS_or T p j i with e | e
 ·rw [e]; exact h j hj
 ·rw [e]; exact Or.inl rfl
def revT (T : Tab) (e s : Int) : Tab := if (getT T e s).is = true then (Ca.revS T (e, s) 769).1 else T
def revR (T : Tab) (e s : Int) : Int := if (getT T e s).is = true then 0 else 104
theorem revT_is {T : Tab} {e s : Int} (hi : (getT T e s).is = true) {N : Nat} (hN : (Ca.revS T (e, s) (N + 1)).2.length = N + 1) : revT T e s = (Ca.revS T (e, s) (N + 1)).1 := by
 obtain ⟨i, _, hp, _⟩ := get_slot hi
 have hs : s ≠ 0 := by have := plOf_pos i; rw [hp] at this; exact this
 have hl := revS_len T (e, s) hs (N + 1)
 have := revS_stay (T := T) (p := (e, s)) (i := N + 1) (by omega) (769 - (N + 1))
 rw [show N + 1 + (769 - (N + 1)) = 769 from by omega] at this
 unfold revT
 rw [if_pos hi, this]
theorem KInv.rev {T : Tab} {n : Nat} (h : KInv T n) (e s : Int) : KInv (revT T e s) n := by
 unfold revT
 split
 ·exact h.revS _ _
 ·exact h
theorem KInv.zero (n : Nat) : KInv (fun _ => Hd.no) n := fun j _ => Or.inl rfl
def frm (T : Tab) (e s r : Int) : Option Int := if ((getT T e s).is && among r (getT T e s).rights) = true then some (getT T e s).id else none
theorem KInv.frm {T : Tab} {n : Nat} (h : KInv T n) {e s r f : Int} (hf : frm T e s r = some f) : 0 ≤ f ∧ f < n := by
 unfold Go.Proofs.YtbhpafgoofkkmaaGreatDoor.Ex.frm at hf
 split at hf
 ·rename_i hc
  simp only [Bool.and_eq_true] at hc
  obtain ⟨h1, h2, h3, _⟩ := h.get hc.1
  cases hf
  exact ⟨h2, h3⟩
 ·cases hf
theorem among0 (r : Int) (h : 0 ≤ r ∧ r ≤ 7) : among 0 r = true := by
 have : ((List.range 8).all fun a => among 0 (a : Nat)) = true := by decide +kernel
 rw [List.all_eq_true] at this
 have := this r.toNat (by simp; omega)
 rwa [Int.toNat_of_nonneg h.1] at this
theorem KInv.frm0 {T : Tab} {n : Nat} (h : KInv T n) (e s : Int) : Go.Proofs.YtbhpafgoofkkmaaGreatDoor.Ex.frm T e s 0 = if (getT T e s).is = true then some (getT T e s).id else none := by
 unfold Go.Proofs.YtbhpafgoofkkmaaGreatDoor.Ex.frm
 cases hi : (getT T e s).is with
 | false => simp
 | true =>
  obtain ⟨_, _, _, _, h5, h6⟩ := h.get hi
  rw [among0 _ ⟨by omega, h6⟩]
  simp
def cnt (T : Tab) (k : Nat) (i : Int) : Nat := ((List.range k).filter (fun j => (T j).x.is && (T j).x.id == i)).length
theorem cnt_le (T : Tab) (k : Nat) (i : Int) : cnt T k i ≤ k := by
 have := List.length_filter_le (fun j => (T j).x.is && (T j).x.id == i) (List.range k)
 simpa [cnt] using this
theorem cnt_succ (T : Tab) (k : Nat) (i : Int) : cnt T (k + 1) i = cnt T k i + if ((T k).x.is && (T k).x.id == i) = true then 1 else 0 := by
 unfold cnt
 rw [List.range_succ, List.filter_append, List.length_append]
 congr 1
 simp [List.filter_cons]
 split <;> rfl
theorem cnt_zero (T : Tab) (i : Int) : cnt T 768 i = 0 ↔ ∀ j, j < 768 → (T j).x.is = true → (T j).x.id ≠ i := by
 unfold cnt
 rw [List.length_eq_zero_iff, List.filter_eq_nil_iff]
 constructor
 ·intro h j hj hi he
  exact h j (by simpa using hj) (by simp [hi, he])
 ·intro h j hj hc
  simp only [Bool.and_eq_true, beq_iff_eq] at hc
  exact h j (by simpa using hj) hc.1 hc.2
def refsTo (T : Tab) (k n : Nat) : List Int := (List.range n).map (fun (i : Nat) => ((cnt T k (i : Int) : Nat) : Int))
theorem refsTo_len (T : Tab) (k n : Nat) : (refsTo T k n).length = n := by simp [refsTo]
theorem refsTo_get (T : Tab) (k n i : Nat) (h : i < n) : (refsTo T k n)[i]? = some ((cnt T k (i : Int) : Nat) : Int) := by simp [refsTo, h]
theorem refsTo_zero (T : Tab) (n : Nat) : refsTo T 0 n = List.replicate n 0 := by
 apply List.ext_getElem
 ·simp [refsTo]
 ·intro i h1 h2
  simp [refsTo, cnt]
theorem refsTo_hit {T : Tab} {k n f : Nat} (hi : (T k).x.is = true) (hf : (T k).x.id = f) (hn : f < n) : refsTo T (k + 1) n = (refsTo T k n).set f (((cnt T k (f : Int) : Nat) : Int) + 1) := by
 apply List.ext_getElem?
 intro i
 rw [List.getElem?_set]
 by_cases hin : i < n
 ·rw [refsTo_get _ _ _ _ hin, refsTo_get _ _ _ _ hin, refsTo_len, cnt_succ, hi, hf]
  by_cases e : f = i
  ·subst e
   simp [hn]
  ·have e2 : ¬ ((f : Int) = (i : Int)) := by omega
   simp [e, e2]
 ·have h1 : (refsTo T (k + 1) n)[i]? = none := by rw [List.getElem?_eq_none]; rw [refsTo_len]; omega
  have h2 : (refsTo T k n)[i]? = none := by rw [List.getElem?_eq_none]; rw [refsTo_len]; omega
  rw [h1, h2]
  split
  ·rename_i e
   rw [refsTo_len, if_neg (by omega)]
  ·rfl
theorem refsTo_miss {T : Tab} {k n : Nat} (hi : (T k).x.is = false) : refsTo T (k + 1) n = refsTo T k n := by
 unfold refsTo
 apply List.map_congr_left
 intro i _
 rw [cnt_succ, hi]
 simp
def idx0 (L : List Int) : Int := if L.findIdx (fun x => x == 0) < L.length then ((L.findIdx (fun x => x == 0) : Nat) : Int) else -1
theorem idx0_hit {L : List Int} {k : Nat} (hk : L[k]? = some 0) (hb : ∀ (j : Nat) (x : Int), j < k → L[j]? = some x → x ≠ 0) : idx0 L = (k : Int) := by
 have hl : k < L.length := (List.getElem?_eq_some_iff.1 hk).1
 have e : L.findIdx (fun x => x == 0) = k := by
  rw [List.findIdx_eq hl]
  refine ⟨by have := (List.getElem?_eq_some_iff.1 hk).2; simp [this], fun j hj => ?_⟩
  have hjl : j < L.length := by omega
  have := hb j L[j] hj (List.getElem?_eq_getElem hjl)
  simpa using this
 unfold idx0
 rw [e, if_pos hl]
theorem idx0_miss {L : List Int} (hb : ∀ (j : Nat) (x : Int), L[j]? = some x → x ≠ 0) : idx0 L = -1 := by
 unfold idx0
 rw [if_neg]
 intro h
 have := List.findIdx_getElem (w := h)
 have h2 := hb _ _ (List.getElem?_eq_getElem h)
 simp at this
 exact h2 this
def freeI (T : Tab) (n : Nat) : Int := idx0 (refsTo T 768 n)
theorem freeI_cases (T : Tab) (n : Nat) : (freeI T n = -1 ∧ ∀ i : Nat, i < n → cnt T 768 (i : Int) ≠ 0) ∨ ∃ f : Nat, f < n ∧ freeI T n = (f : Int) ∧ cnt T 768 (f : Int) = 0 ∧ ∀ i : Nat, i < f → cnt T 768 (i : Int) ≠ 0 := by
 by_cases h : (refsTo T 768 n).findIdx (fun x => x == 0) < (refsTo T 768 n).length
 ·right
  have hn : (refsTo T 768 n).findIdx (fun x => x == 0) < n := by rw [refsTo_len] at h; exact h
  refine ⟨_, hn, by unfold freeI idx0; rw [if_pos h], ?_, fun i hi => ?_⟩
  ·have := List.findIdx_getElem (w := h)
   have h2 := refsTo_get T 768 n _ hn
   rw [List.getElem?_eq_getElem h] at h2
   simp only [beq_iff_eq] at this
   rw [this] at h2
   have := Option.some.inj h2
   omega
  ·have := List.not_of_lt_findIdx hi
   have h2 := refsTo_get T 768 n i (by omega)
   rw [List.getElem?_eq_getElem (by omega)] at h2
   rw [Option.some.inj h2] at this
   simpa using this
 ·left
  refine ⟨by unfold freeI idx0; rw [if_neg h], fun i hi hc => ?_⟩
  have h2 := refsTo_get T 768 n i hi
  rw [hc] at h2
  apply h
  exact List.findIdx_lt_length_of_exists ⟨0, List.mem_of_getElem? h2, by simp⟩
def prt (w : Bool) : Int := if w then 3 else 1
def holdB (T : Tab) (e : Nat) (x : Int × Bool) : Bool := hasB T e 1 x.1 (prt x.2)
def tidy1 (T : Tab) (e : Nat) (f : Int → Option (Int × Bool)) : Int → Option (Int × Bool) := fun p => match f p with
 | none => none
 | some x => if holdB T e x = true then some x else none
def tidyF (T : Tab) (F : Pages) : Pages := fun e => tidy1 T e (F e)
def tidyTo (T : Tab) (e : Nat) (f : Int → Option (Int × Bool)) (k : Nat) : Int → Option (Int × Bool) := fun p => if p < (k : Int) then tidy1 T e f p else f p
theorem tidyTo_zero (T : Tab) (e : Nat) (f : Int → Option (Int × Bool)) (hf : ∀ k x, f k = some x → 0 ≤ k ∧ k < 4 ∧ 0 ≤ x.1) : tidyTo T e f 0 = f := by
 funext p
 unfold tidyTo
 split
 ·unfold tidy1
  cases h : f p with
  | none => rfl
  | some x => have := hf p x h; omega
 ·rfl
theorem tidyTo_four (T : Tab) (e : Nat) (f : Int → Option (Int × Bool)) (hf : ∀ k x, f k = some x → 0 ≤ k ∧ k < 4 ∧ 0 ≤ x.1) : tidyTo T e f 4 = tidy1 T e f := by
 funext p
 unfold tidyTo
 split
 ·rfl
 ·unfold tidy1
  cases h : f p with
  | none => rfl
  | some x => have := hf p x h; omega
theorem tidyTo_at (T : Tab) (e : Nat) (f : Int → Option (Int × Bool)) (k : Nat) : tidyTo T e f k k = f k := by
 unfold tidyTo
 rw [if_neg (by omega)]
theorem tidyTo_keep {T : Tab} {e : Nat} {f : Int → Option (Int × Bool)} {k : Nat} (h : tidy1 T e f k = f k) : tidyTo T e f (k + 1 : Nat) = tidyTo T e f k := by
 funext p
 unfold tidyTo
 by_cases hp : p = k
 ·subst hp
  rw [if_pos (by omega), if_neg (by omega), h]
 ·by_cases hq : p < (k : Int)
  ·rw [if_pos (by omega), if_pos hq]
  ·rw [if_neg (by omega), if_neg hq]
theorem tidyTo_lose {T : Tab} {e : Nat} {f : Int → Option (Int × Bool)} {k : Nat} (h : tidy1 T e f k = none) : tidyTo T e f (k + 1 : Nat) = Mu.unmapF (tidyTo T e f k) k := by
 funext p
 unfold tidyTo Mu.unmapF
 by_cases hp : p = k
 ·subst hp
  rw [if_pos (by omega), if_pos rfl, h]
 ·rw [if_neg hp]
  by_cases hq : p < (k : Int)
  ·rw [if_pos (by omega)]
   exact (if_pos hq).symm
  ·rw [if_neg (by omega)]
   exact (if_neg hq).symm
end Ex
end Go.Proofs.YtbhpafgoofkkmaaGreatDoor
namespace Go.Proofs.YtbhpafgoofkkmaaGreatDoor
open Go.RowKit Ca
namespace Ex
structure Lay where
 mb : Nat
 g : Nat
 cb : Nat
 tb : Nat → Nat
 mp : Nat → Nat
abbrev ptr (b : Nat) : Value := .pointer (some ⟨b, 0, none⟩)
def HeadAt (w : World) (K mb cb : Nat) (tb : Nat → Nat) (k : Nat) : Prop :=
 ∃ row : Array Value, w.heap[K]? = some (.cells row 188) ∧ row.size = 14 ∧ row[0]? = some (ptr mb) ∧ row[1]? = some (ptr cb) ∧ (∀ e, e < k → row[2 + e]? = some (ptr (tb e))) ∧ ∀ e, k ≤ e → e < 12 → row[2 + e]? = some (.pointer none)
theorem HeadAt.lt {w : World} {K mb cb k : Nat} {tb : Nat → Nat} (h : HeadAt w K mb cb tb k) : K < w.heap.size := by
 obtain ⟨row, hr, _⟩ := h
 exact lt_of_heap hr
theorem HeadAt.keep {w w' : World} {K mb cb k : Nat} {tb : Nat → Nat} (h : HeadAt w K mb cb tb k) (hb : w'.heap[K]? = w.heap[K]?) : HeadAt w' K mb cb tb k := by
 obtain ⟨row, hr, r⟩ := h
 exact ⟨row, hb.trans hr, r⟩
theorem HeadAt.set {w : World} {K mb cb k : Nat} {tb : Nat → Nat} (h : HeadAt w K mb cb tb k) (hk : k < 12) (t : Nat) : HeadAt (w.setCell ⟨K, 2 + k, none⟩ (ptr t)) K mb cb (fun e => if e = k then t else tb e) (k + 1) := by
 obtain ⟨row, hr, hs, h0, h1, h2, h3⟩ := h
 refine ⟨row.setIfInBounds (2 + k) (ptr t), ?_, by simp [hs], ?_, ?_, fun e he => ?_, fun e h4 h5 => ?_⟩
 ·rw [setCell_eq_setRow w K _ _ _ _ _ hr, setRow_heap w K _ _ _ _ hr]
 ·rw [Array.getElem?_setIfInBounds, if_neg (by omega)]; exact h0
 ·rw [Array.getElem?_setIfInBounds, if_neg (by omega)]; exact h1
 ·rw [Array.getElem?_setIfInBounds]
  dsimp only
  by_cases e1 : e = k
  ·subst e1; rw [if_pos rfl, if_pos (by omega), if_pos rfl]
  ·rw [if_neg (by omega), if_neg e1]; exact h2 e (by omega)
 ·rw [Array.getElem?_setIfInBounds, if_neg (by omega)]; exact h3 e (by omega) h5
structure KerAt (w : World) (K : Nat) (Y : Lay) (n : Nat) (vs : List Int) (T : Tab) (F : Pages) : Prop where
 head : HeadAt w K Y.mb Y.cb Y.tb 12
 mem : Me.MemAt w Y.mb Y.g n vs
 caps : CapsAt w Y.cb T
 tbl : ∀ e, e < 12 → Mu.TblAt w (Y.tb e) (Y.mp e) (F e)
 inj : ∀ i j, i < 12 → j < 12 → Y.mp i = Y.mp j → i = j
 inv : KInv T n
 n1 : 1 ≤ n
 n2 : n ≤ 1024
 pg : ∀ e, e < 12 → ∀ p x, F e p = some x → x.1 < n
section
variable {w w' : World} {K : Nat} {Y : Lay} {n : Nat} {vs : List Int} {T : Tab} {F : Pages}
theorem KerAt.below (h : KerAt w K Y n vs T F) (hb : Below w.heap.size w w') : KerAt w' K Y n vs T F :=
 ⟨h.head.keep (hb.block _ h.head.lt), h.mem.below hb, h.caps.below hb, fun e he => (h.tbl e he).below hb, h.inj, h.inv, h.n1, h.n2, h.pg⟩
theorem KerAt.k0 (h : KerAt w K Y n vs T F) : w.cell? ⟨K, 0, none⟩ = some (ptr Y.mb) := by
 obtain ⟨row, hr, hs, h0, h1, h2, _⟩ := h.head
 rw [cell_of_heap hr]; exact h0
theorem KerAt.k1 (h : KerAt w K Y n vs T F) : w.cell? ⟨K, 1, none⟩ = some (ptr Y.cb) := by
 obtain ⟨row, hr, hs, h0, h1, h2, _⟩ := h.head
 rw [cell_of_heap hr]; exact h1
theorem KerAt.kt (h : KerAt w K Y n vs T F) {e : Nat} (he : e < 12) : w.cell? ⟨K, 2 + e, none⟩ = some (ptr (Y.tb e)) := by
 obtain ⟨row, hr, hs, h0, h1, h2, _⟩ := h.head
 rw [cell_of_heap hr]; exact h2 e he
theorem KerAt.sanes (h : KerAt w K Y n vs T F) : Sanes T := h.inv.sanes h.n2
theorem apart {w : World} {a b : Nat} {r r' : Array Value} {t t' : TypeId} {q q' : Nat × Nat} (h : w.heap[a]? = some (.cells r t q)) (h' : w.heap[b]? = some (.cells r' t' q')) (hn : t ≠ t') : a ≠ b := by
 intro e
 subst e
 rw [h] at h'
 injection h' with h1
 injection h1 with _ h2
 exact hn h2
theorem apartM {w : World} {a b : Nat} {r : Array Value} {t : TypeId} {q : Nat × Nat} {k : IntKind} {f : Int → Option Value} (h : w.heap[a]? = some (.cells r t q)) (h' : MapIs w k b f) : a ≠ b := by
 intro e
 subst e
 obtain ⟨es, c, hb, _⟩ := h'
 rw [h] at hb
 injection hb with h1
 cases h1
theorem KerAt.gK (h : KerAt w K Y n vs T F) : K ≠ Y.g := by
 obtain ⟨row, hr, _⟩ := h.head
 exact apart hr h.mem.row (by decide)
theorem KerAt.cK (h : KerAt w K Y n vs T F) : K ≠ Y.cb := by
 obtain ⟨row, hr, _⟩ := h.head
 obtain ⟨row2, hr2, _⟩ := h.caps.head
 exact apart hr hr2 (by decide)
theorem KerAt.pK (h : KerAt w K Y n vs T F) {e : Nat} (he : e < 12) : K ≠ Y.mp e := by
 obtain ⟨row, hr, _⟩ := h.head
 exact apartM hr (h.tbl e he).map
theorem KerAt.cg (h : KerAt w K Y n vs T F) : Y.cb ≠ Y.g := by
 obtain ⟨row2, hr2, _⟩ := h.caps.head
 exact apart hr2 h.mem.row (by decide)
theorem KerAt.cm (h : KerAt w K Y n vs T F) : Y.cb ≠ Y.mb := by
 obtain ⟨row2, hr2, _⟩ := h.caps.head
 exact apart hr2 h.mem.head (by decide)
theorem KerAt.cp (h : KerAt w K Y n vs T F) {e : Nat} (he : e < 12) : Y.cb ≠ Y.mp e := by
 obtain ⟨row2, hr2, _⟩ := h.caps.head
 exact apartM hr2 (h.tbl e he).map
theorem KerAt.mp (h : KerAt w K Y n vs T F) {e : Nat} (he : e < 12) : Y.mb ≠ Y.mp e := apartM h.mem.head (h.tbl e he).map
theorem KerAt.gp (h : KerAt w K Y n vs T F) {e : Nat} (he : e < 12) : Y.g ≠ Y.mp e := apartM h.mem.row (h.tbl e he).map
theorem KerAt.tg (h : KerAt w K Y n vs T F) {e : Nat} (he : e < 12) : Y.tb e ≠ Y.g := apart (h.tbl e he).head h.mem.row (by decide)
theorem KerAt.tc (h : KerAt w K Y n vs T F) {e : Nat} (he : e < 12) : Y.tb e ≠ Y.cb := by
 obtain ⟨row2, hr2, _⟩ := h.caps.head
 exact apart (h.tbl e he).head hr2 (by decide)
theorem KerAt.tp (h : KerAt w K Y n vs T F) {e i : Nat} (he : e < 12) (hi : i < 12) : Y.tb e ≠ Y.mp i := apartM (h.tbl e he).head (h.tbl i hi).map
theorem KerAt.updM {vs' : List Int} (h : KerAt w K Y n vs T F) (hm : Me.MemAt w' Y.mb Y.g n vs') (hu : Upd Y.g w w') : KerAt w' K Y n vs' T F :=
 ⟨h.head.keep (hu.block _ h.head.lt h.gK), hm, h.caps.keep (hu.block _ h.caps.lt h.cg), fun e he => (h.tbl e he).keep (hu.block _ (h.tbl e he).lt (h.tg he)) (hu.block _ (h.tbl e he).mlt (fun x => h.gp he x.symm)), h.inj, h.inv, h.n1, h.n2, h.pg⟩
theorem KerAt.updC {T' : Tab} (h : KerAt w K Y n vs T F) (hc : CapsAt w' Y.cb T') (hi : KInv T' n) (hu : Upd Y.cb w w') : KerAt w' K Y n vs T' F :=
 ⟨h.head.keep (hu.block _ h.head.lt h.cK), h.mem.keep (hu.block _ (lt_of_heap h.mem.head) (fun x => h.cm x.symm)) (hu.block _ (lt_of_heap h.mem.row) (fun x => h.cg x.symm)), hc, fun e he => (h.tbl e he).keep (hu.block _ (h.tbl e he).lt (h.tc he)) (hu.block _ (h.tbl e he).mlt (fun x => h.cp he x.symm)), h.inj, hi, h.n1, h.n2, h.pg⟩
theorem KerAt.updT {e : Nat} {f : Int → Option (Int × Bool)} (h : KerAt w K Y n vs T F) (he : e < 12) (ht : Mu.TblAt w' (Y.tb e) (Y.mp e) f) (hp : ∀ p x, f p = some x → x.1 < n) (hu : Upd (Y.mp e) w w') : KerAt w' K Y n vs T (setF F e f) := by
 refine ⟨h.head.keep (hu.block _ h.head.lt (h.pK he)), h.mem.keep (hu.block _ (lt_of_heap h.mem.head) (h.mp he)) (hu.block _ (lt_of_heap h.mem.row) (h.gp he)), h.caps.keep (hu.block _ h.caps.lt (h.cp he)), fun i hi => ?_, h.inj, h.inv, h.n1, h.n2, fun i hi p x hx => ?_⟩
 rotate_left
 ·by_cases e1 : i = e
  ·subst e1; rw [setF_same] at hx; exact hp p x hx
  ·rw [setF_other _ _ _ _ e1] at hx; exact h.pg i hi p x hx
 by_cases e1 : i = e
 ·subst e1; rw [setF_same]; exact ht
 ·rw [setF_other _ _ _ _ e1]
  exact (h.tbl i hi).keep (hu.block _ (h.tbl i hi).lt (h.tp hi he)) (hu.block _ (h.tbl i hi).mlt (fun x => e1 (h.inj i e hi he x)))
theorem KerAt.same {F' : Pages} (h : KerAt w K Y n vs T F) (hF : ∀ e, e < 12 → F e = F' e) : KerAt w K Y n vs T F' :=
 ⟨h.head, h.mem, h.caps, fun e he => by rw [← hF e he]; exact h.tbl e he, h.inj, h.inv, h.n1, h.n2, fun e he => by rw [← hF e he]; exact h.pg e he⟩
end
def Foot (Y : Lay) (b : Nat) : Prop := b = Y.g ∨ b = Y.cb ∨ ∃ e, e < 12 ∧ b = Y.mp e
theorem kisEnv_at (n : Int) (w : World) :
  Calls Tryz.prog 120 #[.int .i64 n] w fun e w' => e = .returned (.bool (isE n)) ∧ w' = w := by
 go_enter Tryz.func120, Tryz.ntmps120
 go_wp2
 all_goals
  go_ret
  refine ⟨ret_bool ?_, rfl⟩
  simp [isE]
  try omega
theorem kisPage_at (n : Int) (w : World) :
  Calls Tryz.prog 129 #[.int .i64 n] w fun e w' => e = .returned (.bool (Mu.isPg n)) ∧ w' = w := by
 go_enter Tryz.func129, Tryz.ntmps129
 go_wp2
 all_goals
  go_ret
  refine ⟨ret_bool ?_, rfl⟩
  simp [Mu.isPg]
  try omega
theorem kpr_at (b : Bool) (w : World) :
  Calls Tryz.prog 131 #[.bool b] w fun e w' => e = .returned (.int .i64 (prt b)) ∧ w' = w := by
 cases b
 all_goals
  go_enter Tryz.func131, Tryz.ntmps131
  go_wp2
  go_ret
  exact ⟨rfl, rfl⟩
theorem isE_nat {e : Int} (h : isE e = true) : ∃ m : Nat, e = (m : Int) ∧ m < 12 := by
 simp [isE] at h
 exact ⟨e.toNat, by omega, by omega⟩
theorem ktable_no (K : Nat) (e : Int) (w : World) (he : isE e = false) :
  Calls Tryz.prog 133 #[ptr K, .int .i64 e] w fun x w' => x = .returned (.pointer none) ∧ w' = w := by
 have hE := kisEnv_at e
 rw [he] at hE
 clear he
 go_enter Tryz.func133, Tryz.ntmps133
 go_wp2_with (go_at_call 120; refine (hE _).mono ?_; rintro e w1 ⟨rfl, rfl⟩)
 go_ret
 exact ⟨rfl, rfl⟩
theorem ktable_yes {K : Nat} {Y : Lay} {n : Nat} {vs : List Int} {T : Tab} {F : Pages} {w : World} (h : KerAt w K Y n vs T F) (m : Nat) (hm : m < 12) :
  Calls Tryz.prog 133 #[ptr K, .int .i64 m] w fun x w' => x = .returned (ptr (Y.tb m)) ∧ w' = w := by
 have hE := kisEnv_at m
 rw [show isE m = true from by simp [isE]; omega] at hE
 have ht := h.kt hm
 clear h
 have i1 : (m : Int) < 12 := by omega
 go_enter Tryz.func133, Tryz.ntmps133
 go_wp2_with (go_at_call 120; refine (hE _).mono ?_; rintro e w1 ⟨rfl, rfl⟩)
 go_ret
 exact ⟨rfl, rfl⟩
theorem kcap_at {K : Nat} {Y : Lay} {n : Nat} {vs : List Int} {T : Tab} {F : Pages} {w : World} (h : KerAt w K Y n vs T F) (e s : Int) :
  Calls Tryz.prog 100 #[ptr K, .int .i64 e, .int .i64 s] w fun x w' => x = .returned (.tuple #[.agg (cpRow (getT T e s)), .bool (getT T e s).is]) ∧ Below w.heap.size w w' := by
 obtain ⟨W, hW⟩ : ∃ W, W = w.alloc (.cells #[.int .i64 0, .int .i64 0, .int .i64 0, .int .i64 0] 97) := ⟨_, rfl⟩
 have hbW : Below w.heap.size w W := by rw [hW]; exact below_alloc _ _
 have hsW : W.heap.size = w.heap.size + 1 := by rw [hW]; simp
 have hbox : W.heap[w.heap.size]? = some (.cells #[.int .i64 0, .int .i64 0, .int .i64 0, .int .i64 0] 97) := by rw [hW]; exact heap_alloc_new _ _
 have hg := Ca.get_at Y.cb T e s W (h.below hbW).caps
 have hc := cell_alloc_old h.k1 (.cells #[.int .i64 0, .int .i64 0, .int .i64 0, .int .i64 0] 97)
 have HB : Hid _ := hbW
 have HS : Hid _ := hsW
 have HO : Hid _ := hbox
 clear h hbW hsW hbox
 generalize getT T e s = x at *
 obtain ⟨k, i, q, p⟩ := x
 generalize Cp.is ⟨k, i, q, p⟩ = B at *
 dsimp only [cpRow] at *
 go_enter Tryz.func100, Tryz.ntmps100
 go_wp2_with fail
 rw [← hW]
 clear hW
 refine hg.mono ?_
 rintro x w1 ⟨rfl, hb1⟩
 have HB1 : Hid _ := hb1
 have hbx : w1.heap[w.heap.size]? = some (.cells #[.int .i64 0, .int .i64 0, .int .i64 0, .int .i64 0] 97) := (hb1.block _ (by rw [HS.out]; omega)).trans HO.out
 have x0 := cell_of_heap (i := 0) hbx
 have x1 := cell_of_heap (i := 1) hbx
 have x2 := cell_of_heap (i := 2) hbx
 have x3 := cell_of_heap (i := 3) hbx
 have xf := fun i => frozen_of_heap (i := i) hbx
 simp only [List.getElem?_toArray, List.getElem?_cons_zero, List.getElem?_cons_succ] at x0 x1 x2 x3
 clear hb1 hbx hg
 go_wp2
 refine bodyPost_ret (by rw [results_cell_tmp rfl]; go_simp) rfl ⟨rfl, ?_⟩
 exact (((((HB.out.trans (HB1.out.mono (by have := HS.out; omega))).setCell (Nat.le_refl _) _).setCell (Nat.le_refl _) _).setCell (Nat.le_refl _) _).setCell (Nat.le_refl _) _)
theorem kframe_at {K : Nat} {Y : Lay} {n : Nat} {vs : List Int} {T : Tab} {F : Pages} {w : World} (h : KerAt w K Y n vs T F) (e s r : Int) :
  Calls Tryz.prog 130 #[ptr K, .int .i64 e, .int .i64 s, .int .i64 r] w fun x w' => x = .returned (.tuple #[.int .i64 ((frm T e s r).getD 0), .bool (frm T e s r).isSome]) ∧ Below w.heap.size w w' := by
 have hg := kcap_at h e s
 clear h
 have HF : Hid (frm T e s r = if ((getT T e s).is && among r (getT T e s).rights) = true then some (getT T e s).id else none) := rfl
 generalize frm T e s r = R at *
 generalize getT T e s = x at *
 obtain ⟨k, i, l, q⟩ := x
 have HF2 : Hid (R = if (Cp.is ⟨k, i, l, q⟩ && (bits .andNot .i64 r q == 0)) = true then some i else none) := HF.out
 clear HF
 generalize Cp.is ⟨k, i, l, q⟩ = B at *
 dsimp only [cpRow] at *
 cases B
 ·have HR : Hid (R = none) := by rw [HF2.out]; rfl
  clear HF2
  go_enter Tryz.func130, Tryz.ntmps130
  go_wp2_with (go_at_call 100; refine hg.mono ?_; rintro e w1 ⟨rfl, hb⟩)
  go_ret2
  exact ⟨by rw [HR.out]; rfl, hb.alloc hb.size _⟩
 ·cases ha : (bits .andNot .i64 r q == 0)
  ·have HR : Hid (R = none) := by rw [HF2.out, ha]; rfl
   clear HF2
   have hne : bits .andNot .i64 r q ≠ 0 := by simpa using ha
   clear ha
   go_enter Tryz.func130, Tryz.ntmps130
   go_wp2_with (go_at_call 100; refine hg.mono ?_; rintro e w1 ⟨rfl, hb⟩)
   go_ret2
   exact ⟨by rw [HR.out]; rfl, hb.alloc hb.size _⟩
  ·have HR : Hid (R = some i) := by rw [HF2.out, ha]; rfl
   clear HF2
   have hne : bits .andNot .i64 r q = 0 := by simpa using ha
   clear ha
   go_enter Tryz.func130, Tryz.ntmps130
   go_wp2_with (go_at_call 100; refine hg.mono ?_; rintro e w1 ⟨rfl, hb⟩)
   go_ret2
   exact ⟨by rw [HR.out]; rfl, hb.alloc hb.size _⟩
end Ex
end Go.Proofs.YtbhpafgoofkkmaaGreatDoor
namespace Go.Proofs.YtbhpafgoofkkmaaGreatDoor
open Go.RowKit Ca
namespace Ex
def irow (L : List Int) : Array Value := (L.map (Value.int .i64)).toArray
theorem irow_zero (n : Nat) : Array.replicate (n * 1) (Value.int .i64 0) = irow (List.replicate n 0) := by simp [irow]
theorem irow_set (L : List Int) (f : Nat) (v : Int) : (irow L).setIfInBounds f (.int .i64 v) = irow (L.set f v) := by
 apply Array.ext'
 simp [irow, List.map_set]
theorem irow_cell {w : World} {B : Nat} {L : List Int} {t : TypeId} (h : w.heap[B]? = some (.cells (irow L) t)) {i : Nat} {x : Int} (hx : L[i]? = some x) : w.cell? ⟨B, i, none⟩ = some (.int .i64 x) := by
 rw [cell_of_heap h]
 simp [irow, hx]
theorem make_ints (n : Nat) (h : n ≤ 1024) (w : World) :
  (Instr.makeSlice 46 (.int .i64 (n : Int)) (.int .i64 (n : Int))).run Tryz.prog w = .ok (.slice (some ⟨w.heap.size, 0, none⟩) n n) (w.alloc (.cells (irow (List.replicate n 0)) 3)) := by
 have := run_make_flat 46 3 (.int .i64 0) (.int .i64 0) 1 8 Tryz.underlying46 intInfo rfl (by omega) .i64 .i64 n (by omega) (by omega) w
 rwa [irow_zero] at this
set_option maxHeartbeats 1000000 in
theorem index0_at (L : List Int) (B cap : Nat) (w : World) (h : w.heap[B]? = some (.cells (irow L) 3)) (hl : L.length ≤ 1000000) :
  Calls Tryz.prog 121 #[.slice (some ⟨B, 0, none⟩) L.length cap, .int .i64 0] w fun e w' => e = .returned (.int .i64 (idx0 L)) ∧ w' = w := by
 have HH : Hid _ := h
 clear h
 go_enter Tryz.func121, Tryz.ntmps121
 go_wp2
 go_loopw [8] (fun s wr => ∃ (k : Nat), k ≤ L.length ∧ s = .int .i64 k ∧ Hid (∀ (j : Nat) (x : Int), j < k → L[j]? = some x → x ≠ 0) ∧ wr = w) (fun s _ => L.length - (intOf s).toNat)
 case atStart => exact ⟨0, by omega, rfl, (show Hid _ from fun j x hj => absurd hj (Nat.not_lt_zero _)), rfl⟩
 case round =>
  obtain ⟨k, hk, rfl, HN, hwr⟩ := hrel
  subst hwr
  by_cases hlt : k < L.length
  ·obtain ⟨x, hx⟩ : ∃ x, L[k]? = some x := ⟨L[k], List.getElem?_eq_getElem hlt⟩
   have hc := irow_cell HH.out hx
   have HX : Hid _ := hx
   clear hx
   by_cases h0 : x = 0
   ·have HF : Hid (idx0 L = (k : Int)) := idx0_hit (by rw [HX.out, h0]) HN.out
    subst h0
    clear HX HN
    go_wp2
    go_ret
    exact ⟨by rw [HF.out]; rfl, rfl⟩
   ·have HM : Hid (∀ (j : Nat) (y : Int), j < k + 1 → L[j]? = some y → y ≠ 0) := by
     intro j y hj hy
     by_cases e : j = k
     ·subst e
      rw [HX.out] at hy
      cases hy
      exact h0
     ·exact HN.out j y (by omega) hy
    have hd : (0 = x) = False := by simp [Ne.symm h0]
    clear HX HN
    have h0' : ¬ (0 = x) := fun e => h0 e.symm
    clear hd
    go_wp2
    go_roundw
    case rel => exact ⟨k + 1, by omega, by go_num, HM, by first | rfl | trivial⟩
    case measure => simp [intOf]; omega
  ·obtain rfl : k = L.length := by omega
   have HF : Hid (idx0 L = -1) := idx0_miss (fun j x hx => HN.out j x (List.getElem?_eq_some_iff.1 hx).1 hx)
   go_wp2
   go_ret
   exact ⟨by rw [HF.out]; rfl, rfl⟩
set_option maxRecDepth 100000 in
set_option maxHeartbeats 4000000 in
theorem krefs_at {K : Nat} {Y : Lay} {n : Nat} {vs : List Int} {T : Tab} {F : Pages} {w : World} (h : KerAt w K Y n vs T F) :
  Calls Tryz.prog 122 #[ptr K] w fun x w' => x = .returned (.slice (some ⟨w.heap.size, 0, none⟩) n n) ∧ w'.heap[w.heap.size]? = some (.cells (irow (refsTo T 768 n)) 3) ∧ Below w.heap.size w w' := by
 have hc := h.k0
 have hfr := Me.frames_mem _ _ _ _ _ h.mem
 have hmk := make_ints n h.n2 w
 have HK : Hid _ := h
 clear h
 obtain ⟨W, hW⟩ : ∃ W, W = w.alloc (.cells (irow (List.replicate n 0)) 3) := ⟨_, rfl⟩
 have HB : Hid (Below w.heap.size w W) := by rw [hW]; exact below_alloc _ _
 have HI : Hid (W.heap[w.heap.size]? = some (.cells (irow (refsTo T 0 n)) 3)) := by rw [hW, refsTo_zero]; exact heap_alloc_new _ _
 rw [← hW] at hmk
 clear hW
 go_enter Tryz.func122, Tryz.ntmps122
 go_wp2_with (go_at_call 163; refine hfr.mono ?_; rintro e w1 ⟨rfl, hw1⟩; rw [hw1]; clear hw1 w1)
 clear hc hfr hmk
 go_loopw [16] (fun s wr => ∃ (m : Nat), m ≤ 12 ∧ s = .int .i64 m ∧ wr.heap[w.heap.size]? = some (.cells (irow (refsTo T (m * 64) n)) 3) ∧ Below w.heap.size w wr) (fun s _ => 12 - (intOf s).toNat)
 case atStart => exact ⟨0, by omega, rfl, HI.out, HB.out⟩
 case round =>
  clear HB HI
  obtain ⟨m, hm', rfl, hR, hB⟩ := hrel
  by_cases hm : m < 12
  ·have H0 : Hid _ := hR
   have H1 : Hid _ := hB
   clear hR hB
   have i1 : decide ((m : Int) < 12) = true := decide_eq_true (by omega)
   go_wp2
   go_loopw [5] (fun s wr => ∃ (k : Nat), k ≤ 64 ∧ s = .int .i64 (k + 1 : Nat) ∧ wr.heap[w.heap.size]? = some (.cells (irow (refsTo T (m * 64 + k) n)) 3) ∧ Below w.heap.size w wr) (fun s _ => 65 - (intOf s).toNat)
   case atStart => exact ⟨0, by omega, rfl, H0.out, H1.out⟩
   case round =>
    clear H0 H1
    obtain ⟨s, hs', rfl, hR, hB⟩ := hrel
    by_cases hs : s < 64
    ·have hk := HK.out.below hB
     have hf := kframe_at hk m (s + 1 : Nat) 0
     rw [hk.inv.frm0, getT_nat T m s hm hs] at hf
     have HR : Hid _ := hR
     clear hR
     cases hi : (T (m * 64 + s)).x.is with
     | false =>
      rw [hi] at hf
      have HM : Hid _ := refsTo_miss (n := n) hi
      clear hi hk
      simp only [Bool.false_eq_true, if_false, Option.getD_none, Option.isSome_none] at hf
      go_wp2_with (go_at_call 130; refine hf.mono ?_; rintro e w1 ⟨rfl, hb1⟩)
      go_roundw
      case rel =>
       exact ⟨s + 1, by omega, by go_num, by rw [← Nat.add_assoc, HM.out]; exact (hb1.block _ (lt_of_heap HR.out)).trans HR.out, hB.trans (hb1.mono hB.size)⟩
      case measure => simp [intOf]; omega
     | true =>
      rw [hi] at hf
      obtain ⟨_, f1, f2, _⟩ := hk.inv.ok (by omega) hi
      obtain ⟨f, hfe⟩ : ∃ f : Nat, (T (m * 64 + s)).x.id = (f : Int) := ⟨(T (m * 64 + s)).x.id.toNat, by omega⟩
      rw [hfe] at hf f2
      have hfn : f < n := by omega
      have HM : Hid _ := refsTo_hit (n := n) hi hfe hfn
      have hcl := cnt_le T (m * 64 + s) f
      have HG : Hid ((refsTo T (m * 64 + s) n)[f]? = some ((cnt T (m * 64 + s) (f : Int) : Nat) : Int)) := refsTo_get _ _ _ _ hfn
      clear hi hk f1 f2 hfe
      simp only [if_true, Option.getD_some, Option.isSome_some] at hf
      generalize cnt T (m * 64 + s) (f : Int) = c at *
      have hnn := HK.out.n2
      go_wp2_with fail
      refine hf.mono ?_
      rintro e w1 ⟨rfl, hb1⟩
      have hr1 := (hb1.block _ (lt_of_heap HR.out)).trans HR.out
      have hc := irow_cell hr1 HG.out
      have hz := frozen_of_heap (i := f) hr1
      have HR1 : Hid _ := hr1
      clear hr1
      go_wp2
      go_roundw
      case rel =>
       refine ⟨s + 1, by omega, by go_num, ?_, ?_⟩
       ·rw [← Nat.add_assoc, HM.out, ← irow_set]
        rw [setCell_eq_setRow _ _ _ _ _ _ _ HR1.out, setRow_heap _ _ _ _ _ _ HR1.out]
       ·exact (hB.trans (hb1.mono hB.size)).setCell (Nat.le_refl _) _
      case measure => simp [intOf]; omega
    ·obtain rfl : s = 64 := by omega
     go_wp2
     go_roundw
     case rel => exact ⟨m + 1, by omega, by go_num, by rw [show (m + 1) * 64 = m * 64 + 64 from by omega]; exact hR, hB⟩
     case measure => simp [intOf]; omega
  ·obtain rfl : m = 12 := by omega
   go_wp2
   go_ret
   exact ⟨rfl, hR, hB⟩
end Ex
end Go.Proofs.YtbhpafgoofkkmaaGreatDoor
namespace Go.Proofs.YtbhpafgoofkkmaaGreatDoor
open Go.RowKit Ca
namespace Ex
theorem cell_notmap {w : World} {b c o : Nat} {v : Value} {k : IntKind} {f : Int → Option Value} (h : w.cell? ⟨b, o, none⟩ = some v) (h' : MapIs w k c f) : b ≠ c := by
 intro e
 subst e
 obtain ⟨es, q, hb, _⟩ := h'
 simp [World.cell?, hb] at h
section
variable {K : Nat} {Y : Lay} {n : Nat} {vs : List Int} {T : Tab} {F : Pages} {w : World}
set_option maxHeartbeats 1000000 in
theorem klost_at (h : KerAt w K Y n vs T F) (x : Int × Bool) (B1 B2 m : Nat) (h1 : w.cell? ⟨B1, 0, none⟩ = some (ptr K)) (h2 : w.cell? ⟨B2, 0, none⟩ = some (.int .i64 m)) (hx : I64 x.1) :
  Calls Tryz.prog 171 #[Mu.pv x, .pointer (some ⟨B1, 0, none⟩), .pointer (some ⟨B2, 0, none⟩)] w fun e w' => e = .returned (.bool (!holdB T m x)) ∧ Below w.heap.size w w' := by
 obtain ⟨W, hW⟩ : ∃ W, W = w.alloc (.cells #[.int .i64 x.1, .bool x.2] 50) := ⟨_, rfl⟩
 have hbW : Below w.heap.size w W := by rw [hW]; exact below_alloc _ _
 have hnew : W.heap[w.heap.size]? = some (.cells #[.int .i64 x.1, .bool x.2] 50) := by rw [hW]; exact heap_alloc_new _ _
 have hbD : Below w.heap.size w W.drew := hbW.drew
 have c0 : W.drew.cell? ⟨w.heap.size, 0, none⟩ = some (.int .i64 x.1) := by rw [cell_of_heap (w := W.drew) hnew]; rfl
 have c1 : W.drew.cell? ⟨w.heap.size, 1, none⟩ = some (.bool x.2) := by rw [cell_of_heap (w := W.drew) hnew]; rfl
 have hK := h.below hbD
 have e1 : W.drew.cell? ⟨B1, 0, none⟩ = some (ptr K) := by rw [hbD.cell (cell_lt h1)]; exact h1
 have e2 : W.drew.cell? ⟨B2, 0, none⟩ = some (.int .i64 m) := by rw [hbD.cell (cell_lt h2)]; exact h2
 have hS := hK.k1
 have hh := has_at Y.cb T m 1 x.1 (prt x.2) W.drew hK.caps hK.sanes hx
 have HB : Hid (holdB T m x = hasB T m 1 x.1 (prt x.2)) := rfl
 generalize hasB T m 1 x.1 (prt x.2) = R at *
 clear hnew hK h1 h2 h hbW
 have HD : Hid _ := hbD
 clear hbD
 unfold Mu.pv
 go_enter Tryz.func171, Tryz.ntmps171
 go_wp2_with fail
 rw [← hW]
 clear hW
 refine wp_region_held_drew (S := fun w' => w'.cell? ⟨B1, 0, none⟩ = some (ptr K) ∧ w'.cell? ⟨K, 1, none⟩ = some (ptr Y.cb) ∧ w'.cell? ⟨B2, 0, none⟩ = some (.int .i64 m) ∧ w'.cell? ⟨w.heap.size, 0, none⟩ = some (.int .i64 x.1) ∧ w'.cell? ⟨w.heap.size, 1, none⟩ = some (.bool x.2)) (by kernel_rfl) ⟨e1, hS, e2, c0, c1⟩ (fun hHeld => ?_)
 refine tkz [0, 1, 2, 3, 4, 5, 6, 7, 8] ?_
 iterate 9
  refine tky (v := ?_) rfl (by kernel_rfl) (by kernel_rfl) (by kernel_rfl) (fun _ _ _ h => h) (Or.inl ⟨by kernel_rfl, ?_⟩) (by assumption) ?_
  rotate_left
  ·(intro w hSw; (try dsimp only at hSw); go_simp) <;> with_reducible rfl
  (try simp only [Act.put, lqa, lqb, lqc, lqd, lqe, lqf])
 refine tkw ?_
 refine wpAnyH_ready (rs := [9]) (by kernel_rfl) (by simp) ?_
 refine AllReadyH.cons rfl (fun K hK => ?_) AllReadyH.nil
 go_simp
 refine (kpr_at x.2 _).mono ?_
 rintro e wq ⟨rfl, rfl⟩
 refine hK.out _ _ ⟨e1, hS, e2, c0, c1⟩ (fun hHeld => ?_)
 clear hK K
 (try simp only [Act.put, lqa, lqb, lqc, lqd, lqe, lqf])
 refine wpAnyH_ready (rs := [10]) (by kernel_rfl) (by simp) ?_
 refine AllReadyH.cons rfl (fun K hK => ?_) AllReadyH.nil
 go_simp
 refine hh.mono ?_
 rintro e wz ⟨rfl, hbz⟩
 refine hK.out _ _ ⟨by rw [hbz.cell (cell_lt e1)]; exact e1, by rw [hbz.cell (cell_lt hS)]; exact hS, by rw [hbz.cell (cell_lt e2)]; exact e2, by rw [hbz.cell (cell_lt c0)]; exact c0, by rw [hbz.cell (cell_lt c1)]; exact c1⟩ (fun hHeld => ?_)
 clear hK K
 (try simp only [Act.put, lqa, lqb, lqc, lqd, lqe, lqf])
 refine tkz [11, 12] ?_
 iterate 2
  refine tky (v := ?_) rfl (by kernel_rfl) (by kernel_rfl) (by kernel_rfl) (fun _ _ _ h => h) (Or.inl ⟨by kernel_rfl, ?_⟩) (by assumption) ?_
  rotate_left
  ·(intro w hSw; (try dsimp only at hSw); go_simp) <;> with_reducible rfl
  (try simp only [Act.put, lqa, lqb, lqc, lqd, lqe, lqf])
 refine tkw ?_
 refine wpAnyH_done (by kernel_rfl) ?_ _
 go_wp2_with fail
 go_ret
 exact ⟨by rw [HB.out]; rfl, HD.out.trans (hbz.mono HD.out.size)⟩
theorem tidy1_some {T : Tab} {e : Nat} {f : Int → Option (Int × Bool)} {p : Int} {x : Int × Bool} (h : tidy1 T e f p = some x) : f p = some x := by
 unfold tidy1 at h
 cases hf : f p with
 | none => rw [hf] at h; cases h
 | some y =>
  rw [hf] at h
  dsimp only at h
  split at h
  ·exact h
  ·cases h
theorem tidyTo_some {T : Tab} {e k : Nat} {f : Int → Option (Int × Bool)} {p : Int} {x : Int × Bool} (h : tidyTo T e f k p = some x) : f p = some x := by
 unfold tidyTo at h
 split at h
 ·exact tidy1_some h
 ·exact h
theorem unmapF_some {f : Int → Option (Int × Bool)} {k p : Int} {x : Int × Bool} (h : Mu.unmapF f k p = some x) : f p = some x := by
 unfold Mu.unmapF at h
 split at h
 ·cases h
 ·exact h
theorem setF_setF (F : Pages) (e : Nat) (f g : Int → Option (Int × Bool)) : setF (setF F e f) e g = setF F e g := by
 funext i
 unfold setF
 split <;> rfl
theorem setF_self (F : Pages) (e : Nat) : setF F e (F e) = F := by
 funext i
 unfold setF
 split
 ·rename_i h; rw [h]
 ·rfl
set_option maxHeartbeats 4000000 in
theorem kwhere_at (h : KerAt w K Y n vs T F) (B1 B2 m : Nat) (hm : m < 12) (h1 : w.cell? ⟨B1, 0, none⟩ = some (ptr K)) (h2 : w.cell? ⟨B2, 0, none⟩ = some (.int .i64 m)) :
  Calls Tryz.prog 170 #[ptr (Y.tb m), .func (.func 171) #[] #[.pointer (some ⟨B1, 0, none⟩), .pointer (some ⟨B2, 0, none⟩)]] w fun e w' => e = .returned (.tuple #[]) ∧ KerAt w' K Y n vs T (setF F m (tidy1 T m (F m))) ∧ Upd (Y.mp m) w w' := by
 have HN := (h.tbl m hm).near
 have b1 : B1 ≠ Y.mp m := cell_notmap h1 (h.tbl m hm).map
 have b2 : B2 ≠ Y.mp m := cell_notmap h2 (h.tbl m hm).map
 have HZ : Hid (KerAt w K Y n vs T (setF F m (tidyTo T m (F m) 0))) := by rw [tidyTo_zero _ _ _ HN, setF_self]; exact h
 have H1 : Hid _ := h1
 have H2 : Hid _ := h2
 have HF : Hid (tidyTo T m (F m) 4 = tidy1 T m (F m)) := tidyTo_four _ _ _ HN
 have HP : Hid (∀ p x, F m p = some x → x.1 < n) := h.pg m hm
 have hn2 := h.n2
 have HNN : Hid _ := HN
 clear h h1 h2 HN
 go_enter Tryz.func170, Tryz.ntmps170
 go_wp2
 go_loopw [7] (fun s wr => ∃ (k : Nat), k ≤ 4 ∧ s = .int .i64 k ∧ KerAt wr K Y n vs T (setF F m (tidyTo T m (F m) k)) ∧ Upd (Y.mp m) w wr) (fun s _ => 4 - (intOf s).toNat)
 case atStart => exact ⟨0, by omega, rfl, HZ.out, Upd.refl _ _⟩
 case round =>
  clear HZ
  obtain ⟨k, hk', rfl, hK, hU⟩ := hrel
  by_cases hk : k < 4
  ·have ht := hK.tbl m hm
   rw [setF_same] at ht
   have ha := Mu.at_at _ _ _ (k : Int) _ ht
   rw [tidyTo_at] at ha
   have e1 : wr.cell? ⟨B1, 0, none⟩ = some (ptr K) := by rw [World.cell?_of_block (w := w) (a := ⟨B1, 0, none⟩) (hU.block B1 (cell_lt H1.out) b1)]; exact H1.out
   have e2 : wr.cell? ⟨B2, 0, none⟩ = some (.int .i64 m) := by rw [World.cell?_of_block (w := w) (a := ⟨B2, 0, none⟩) (hU.block B2 (cell_lt H2.out) b2)]; exact H2.out
   cases hf : F m k with
   | none =>
    rw [hf] at ha
    have HM : Hid (tidyTo T m (F m) (k + 1) = tidyTo T m (F m) k) := tidyTo_keep (by unfold tidy1; rw [hf])
    clear hf
    go_wp2_with fail
    refine ha.mono ?_
    rintro e w1 ⟨rfl, hb1⟩
    simp only [Mu.pv, Option.getD_none, Option.isSome_none]
    have HK1 : Hid _ := hK
    have HE : Hid _ := And.intro e1 e2
    clear hK ht ha e1 e2
    go_wp2
    go_roundw
    case rel =>
     have hb2 : Below wr.heap.size wr (w1.alloc (.cells #[.int .i64 0, .bool false] 50)) := hb1.alloc hb1.size _
     exact ⟨k + 1, by omega, by go_num, by rw [HM.out]; exact HK1.out.below hb2, hU.trans (Upd.of_below hb2)⟩
    case measure => simp [intOf]; omega
   | some x =>
    rw [hf] at ha
    have hx1 := HNN.out k x hf
    have hx2 := HP.out k x hf
    have hI : I64 x.1 := ⟨by omega, by omega⟩
    go_wp2_with fail
    refine ha.mono ?_
    rintro e w1 ⟨rfl, hb1⟩
    simp only [Mu.pv, Option.getD_some, Option.isSome_some]
    obtain ⟨W, hW⟩ : ∃ W, W = w1.alloc (.cells #[.int .i64 x.1, .bool x.2] 50) := ⟨_, rfl⟩
    have hbW : Below wr.heap.size wr W := by rw [hW]; exact hb1.alloc hb1.size _
    have hcl := klost_at (hK.below hbW) x B1 B2 m (by rw [hbW.cell (cell_lt e1)]; exact e1) (by rw [hbW.cell (cell_lt e2)]; exact e2) hI
    unfold Mu.pv at hcl
    have HKW : Hid _ := hK.below hbW
    have HUW : Hid (Upd (Y.mp m) w W) := hU.trans (Upd.of_below hbW)
    have HY : Hid (holdB T m x = true → tidyTo T m (F m) (k + 1) = tidyTo T m (F m) k) := fun hh => tidyTo_keep (by unfold tidy1; rw [hf]; dsimp only; rw [if_pos hh])
    have HX : Hid (holdB T m x = false → tidyTo T m (F m) (k + 1) = Mu.unmapF (tidyTo T m (F m) k) k) := fun hh => tidyTo_lose (by unfold tidy1; rw [hf]; dsimp only; rw [if_neg (by rw [hh]; exact Bool.false_ne_true)])
    clear hK ht ha e1 e2 hU hbW hf hx1 hx2 hI hb1
    generalize holdB T m x = R at *
    cases R
    ·have HX2 : Hid _ := HX.out rfl
     clear HX HY
     go_wp2_with fail
     rw [← hW]
     refine hcl.mono ?_
     rintro e w2 ⟨rfl, hb2⟩
     have hK2 := HKW.out.below hb2
     have ht2 := hK2.tbl m hm
     rw [setF_same] at ht2
     have hun := Mu.unmap_at _ _ _ (k : Int) _ ht2
     have HK2 : Hid _ := hK2
     have HU2 : Hid (Upd (Y.mp m) w w2) := HUW.out.trans (Upd.of_below hb2)
     clear hK2 ht2 hcl HKW HUW hb2 hW
     generalize Mu.unmapV (tidyTo T m (F m) k) k = V at *
     go_wp2_with fail
     refine hun.mono ?_
     rintro e w3 ⟨rfl, ht3, hu3⟩
     rw [← HX2.out] at ht3
     have HK3 : Hid (KerAt w3 K Y n vs T (setF F m (tidyTo T m (F m) (k + 1)))) := by
      have := HK2.out.updT hm ht3 (fun p y hy => HP.out p y (tidyTo_some hy)) hu3
      rwa [setF_setF] at this
     have HU3 : Hid _ := HU2.out.trans hu3
     clear ht3 hu3 hun HK2 HU2
     go_wp2
     go_roundw
     case rel => exact ⟨k + 1, by omega, by go_num, HK3.out, HU3.out⟩
     case measure => simp [intOf]; omega
    ·have HX2 : Hid _ := HY.out rfl
     clear HX HY
     go_wp2_with fail
     rw [← hW]
     refine hcl.mono ?_
     rintro e w2 ⟨rfl, hb2⟩
     have HK2 : Hid _ := HKW.out.below hb2
     have HU2 : Hid (Upd (Y.mp m) w w2) := HUW.out.trans (Upd.of_below hb2)
     clear hcl HKW HUW hb2 hW
     go_wp2
     go_roundw
     case rel => exact ⟨k + 1, by omega, by go_num, by rw [HX2.out]; exact HK2.out, HU2.out⟩
     case measure => simp [intOf]; omega
  ·obtain rfl : k = 4 := by omega
   go_wp2
   go_end0
   exact ⟨rfl, by rw [← HF.out]; exact hK, hU⟩
def tarr (Y : Lay) : List Value := (List.range 12).map fun e => ptr (Y.tb e)
theorem tables_there (h : KerAt w K Y n vs T F) : w.rangeAt K 2 (tarr Y) := by
 intro j v hv
 have hj : j < 12 := by have := (List.getElem?_eq_some_iff.1 hv).1; simpa [tarr] using this
 simp [tarr, hj] at hv
 rw [← hv]
 exact h.kt hj
theorem tables_index (Y : Lay) (m : Nat) (hm : m < 12) (W : World) : (Instr.index 186 (.agg (tarr Y).toArray) (.int .i64 m)).run Tryz.prog W = .ok (ptr (Y.tb m)) W := by
 have h1 : (tarr Y).toArray[m]? = some (ptr (Y.tb m)) := by simp [tarr, hm]
 have hs : (sizeOf 185).run Tryz.prog W = .ok 1 W := by kernel_rfl
 have ha : (isAgg 185).run Tryz.prog W = .ok false W := by kernel_rfl
 have hi : 0 ≤ (m : Int) ∧ (m : Int) < (12 : Nat) := by omega
 simp only [Instr.index, Sem.run_bind, asIntOf, Sem.run_pure, Result.andThen_ok, run_underlying Tryz.underlying186, if_pos hi, hs, part, ha, Bool.false_eq_true, if_false, Int.toNat_natCast, Nat.mul_one, h1]
def tidyUp (T : Tab) (F : Pages) (k : Nat) : Pages := fun e => if e < k then tidy1 T e (F e) else F e
theorem tidyUp_zero (T : Tab) (F : Pages) : tidyUp T F 0 = F := by
 funext e
 unfold tidyUp
 rw [if_neg (by omega)]
theorem tidyUp_step (T : Tab) (F : Pages) (k : Nat) : setF (tidyUp T F k) k (tidy1 T k (tidyUp T F k k)) = tidyUp T F (k + 1) := by
 funext e
 unfold setF tidyUp
 by_cases h : e = k
 ·subst h
  rw [if_pos rfl, if_neg (by omega), if_pos (by omega)]
 ·rw [if_neg h]
  by_cases h2 : e < k
  ·rw [if_pos h2, if_pos (by omega)]
  ·rw [if_neg h2, if_neg (by omega)]
set_option maxRecDepth 100000 in
set_option maxHeartbeats 4000000 in
theorem kunmapLost_at (h : KerAt w K Y n vs T F) :
  Calls Tryz.prog 127 #[ptr K] w fun e w' => e = .returned (.tuple #[]) ∧ KerAt w' K Y n vs T (tidyF T F) ∧ UpdP (Foot Y) w w' := by
 obtain ⟨W, hW⟩ : ∃ W, W = w.alloc (.cells #[ptr K] 76) := ⟨_, rfl⟩
 have hbW : Below w.heap.size w W := by rw [hW]; exact below_alloc _ _
 have hnew : W.heap[w.heap.size]? = some (.cells #[ptr K] 76) := by rw [hW]; exact heap_alloc_new _ _
 have hc : W.cell? ⟨w.heap.size, 0, none⟩ = some (ptr K) := by rw [cell_of_heap hnew]; rfl
 have hK := h.below hbW
 have HL : Hid _ := tables_there hK
 have HK : Hid (KerAt W K Y n vs T (tidyUp T F 0)) := by rw [tidyUp_zero]; exact hK
 have HU : Hid (UpdP (Foot Y) w W) := UpdP.of_below hbW
 have HC : Hid _ := hc
 have HFP : Hid (∀ b, Foot Y b → b < w.heap.size) := by
  rintro b (e | e | ⟨i, hi, e⟩)
  ·rw [e]; exact lt_of_heap h.mem.row
  ·rw [e]; exact h.caps.lt
  ·rw [e]; exact (h.tbl i hi).mlt
 clear h hbW hnew hK
 rw [hW] at hc HL
 go_enter Tryz.func127, Tryz.ntmps127
 go_wp2_with (first | (refine wpList_load_mid rfl 186 _ rfl K 2 rfl (tarr Y) _ HL.out Tryz.underlying186 rfl (by kernel_rfl) ?_) | go_in)
 rw [← hW]
 clear hW HL hc
 go_loopw [8] (fun s wr => ∃ (k : Nat), k ≤ 12 ∧ s = .int .i64 k ∧ KerAt wr K Y n vs T (tidyUp T F k) ∧ UpdP (Foot Y) w wr ∧ wr.cell? ⟨w.heap.size, 0, none⟩ = some (ptr K)) (fun s _ => 12 - (intOf s).toNat)
 case atStart => exact ⟨0, by omega, rfl, HK.out, HU.out, HC.out⟩
 case round =>
  clear HK HU HC
  obtain ⟨k, hk', rfl, hK, hU, hC⟩ := hrel
  by_cases hk : k < 12
  ·obtain ⟨V, hV⟩ : ∃ V, V = wr.alloc (.cells #[.int .i64 k] 3) := ⟨_, rfl⟩
   have hbV : Below wr.heap.size wr V := by rw [hV]; exact below_alloc _ _
   have hnew : V.heap[wr.heap.size]? = some (.cells #[.int .i64 k] 3) := by rw [hV]; exact heap_alloc_new _ _
   have hc2 : V.cell? ⟨wr.heap.size, 0, none⟩ = some (.int .i64 k) := by rw [cell_of_heap hnew]; rfl
   have hc1 : V.cell? ⟨w.heap.size, 0, none⟩ = some (ptr K) := by rw [hbV.cell (cell_lt hC)]; exact hC
   have hwh := kwhere_at (hK.below hbV) w.heap.size wr.heap.size k hk hc1 hc2
   rw [tidyUp_step] at hwh
   have hix := tables_index Y k hk
   have b1 : w.heap.size ≠ Y.mp k := cell_notmap hC (hK.tbl k hk).map
   have HU2 : Hid (UpdP (Foot Y) w V) := hU.trans (UpdP.of_below hbV)
   have HC1 : Hid _ := hc1
   have i1 : decide ((k : Int) < 12) = true := decide_eq_true (by omega)
   clear hK hU hC hbV hnew hc2 hc1
   go_wp2_with fail
   rw [← hV]
   clear hV
   refine hwh.mono ?_
   rintro e w1 ⟨rfl, hK1, hu1⟩
   have HK1 : Hid _ := hK1
   have HU1 : Hid (UpdP (Foot Y) w w1) := HU2.out.trans (hu1.p _ (Or.inr (Or.inr ⟨k, hk, rfl⟩)))
   have HC2 : Hid (w1.cell? ⟨w.heap.size, 0, none⟩ = some (ptr K)) := by rw [World.cell?_of_block (w := V) (a := ⟨w.heap.size, 0, none⟩) (hu1.block _ (cell_lt HC1.out) b1)]; exact HC1.out
   clear hK1 hu1 hwh hix
   go_wp2
   go_roundw
   case rel => exact ⟨k + 1, by omega, by go_num, HK1.out, HU1.out, HC2.out⟩
   case measure => simp [intOf]; omega
  ·obtain rfl : k = 12 := by omega
   go_wp2
   go_end0
   exact ⟨rfl, hK.same (fun e he => by unfold tidyUp; rw [if_pos he]; rfl), hU⟩
end
end Ex
end Go.Proofs.YtbhpafgoofkkmaaGreatDoor
namespace Go.Proofs.YtbhpafgoofkkmaaGreatDoor
open Go.RowKit Ca
namespace Ex
def allocR (T : Tab) (n : Nat) (e : Int) : Int := if isE e = true then (if freeI T n < 0 then 106 else putE T e.toNat) else 101
def allocA (T : Tab) (n : Nat) (e : Int) : Int := if isE e = true then (if freeI T n < 0 then 0 else putA T e.toNat) else 0
def allocT (T : Tab) (n : Nat) (e : Int) : Tab := if isE e = true then (if freeI T n < 0 then T else putT T e.toNat ⟨⟨1, freeI T n, 1, 7⟩, 0, 0⟩) else T
def allocV (T : Tab) (n : Nat) (e : Int) (vs : List Int) : List Int := if isE e = true then (if freeI T n < 0 then vs else if freeT T e.toNat < 64 then Me.putZ n vs (freeI T n) else vs) else vs
section
variable {K : Nat} {Y : Lay} {n : Nat} {vs : List Int} {T : Tab} {F : Pages} {w : World}
theorem addOK_frame {e : Int} {f : Nat} (he : isE e = true) (hf : f < 1024) : addOK e ⟨1, f, 1, 7⟩ = true := by
 simp [addOK, he, mayB, longOk, areR]
 omega
set_option maxHeartbeats 1000000 in
theorem kalloc_at (h : KerAt w K Y n vs T F) (e : Int) :
  Calls Tryz.prog 61 #[ptr K, .int .i64 e] w fun x w' => x = .returned (.tuple #[.int .i64 (allocA T n e), .int .i64 (allocR T n e)]) ∧ KerAt w' K Y n (allocV T n e vs) (allocT T n e) F ∧ UpdP (Foot Y) w w' := by
 have hE := kisEnv_at e
 cases he : isE e with
 | false =>
  rw [he] at hE
  have HA : Hid (allocA T n e = 0 ∧ allocR T n e = 101 ∧ allocT T n e = T ∧ allocV T n e vs = vs) := by
   show _ ∧ _
   simp [allocA, allocR, allocT, allocV, he]
  have HK : Hid _ := h
  clear he h
  go_enter Tryz.func61, Tryz.ntmps61
  go_wp2_with (go_at_call 120; refine (hE _).mono ?_; rintro e w1 ⟨rfl, hw1⟩; rw [hw1]; clear hw1 w1)
  go_ret2
  obtain ⟨a1, a2, a3, a4⟩ := HA.out
  exact ⟨by rw [a1, a2]; rfl, by rw [a3, a4]; exact HK.out, UpdP.refl _ _⟩
 | true =>
  rw [he] at hE
  have hr := krefs_at h
  have hn2 := h.n2
  have hix : ∀ W : World, W.heap[w.heap.size]? = some (.cells (irow (refsTo T 768 n)) 3) → Calls Tryz.prog 121 #[.slice (some ⟨w.heap.size, 0, none⟩) n n, .int .i64 0] W fun e w' => e = .returned (.int .i64 (freeI T n)) ∧ w' = W := by
   intro W hW
   have := index0_at (refsTo T 768 n) w.heap.size n W hW (by rw [refsTo_len]; omega)
   rwa [refsTo_len] at this
  rcases freeI_cases T n with ⟨hf, _⟩ | ⟨f, hfn, hf, _⟩
  ·have HA : Hid (allocA T n e = 0 ∧ allocR T n e = 106 ∧ allocT T n e = T ∧ allocV T n e vs = vs) := by
    show _ ∧ _
    simp [allocA, allocR, allocT, allocV, he, hf]
   rw [hf] at hix
   have HK : Hid _ := h
   clear he h hf
   go_enter Tryz.func61, Tryz.ntmps61
   go_wp2_with fail
   refine (hE _).mono ?_
   rintro e w1 ⟨rfl, hw1⟩
   rw [hw1]
   clear hw1 w1
   go_wp2_with fail
   refine hr.mono ?_
   rintro e w1 ⟨rfl, hR, hB⟩
   go_wp2_with fail
   refine (hix w1 hR).mono ?_
   rintro e w2 ⟨rfl, hw2⟩
   rw [hw2]
   clear hw2 w2 hR
   go_wp2
   go_ret2
   obtain ⟨a1, a2, a3, a4⟩ := HA.out
   exact ⟨by rw [a1, a2]; rfl, by rw [a3, a4]; exact HK.out.below hB, UpdP.of_below hB⟩
  ·have hn0 : ¬ (freeI T n < 0) := by rw [hf]; omega
   have hok := addOK_frame (f := f) he (by omega)
   have HA0 : Hid (allocA T n e = putA T e.toNat ∧ allocR T n e = putE T e.toNat ∧ allocT T n e = putT T e.toNat ⟨⟨1, f, 1, 7⟩, 0, 0⟩ ∧ allocV T n e vs = if freeT T e.toNat < 64 then Me.putZ n vs f else vs) := by
    simp only [allocA, allocR, allocT, allocV, he, if_true, hf]
    exact ⟨rfl, rfl, rfl, rfl⟩
   have HT : Hid (addT T e ⟨1, f, 1, 7⟩ = putT T e.toNat ⟨⟨1, f, 1, 7⟩, 0, 0⟩) := by show _ = _; unfold addT; rw [if_pos hok]
   have ha : ∀ W, KerAt W K Y n vs T F → Calls Tryz.prog 123 #[ptr Y.cb, .int .i64 e, .agg #[.int .i64 1, .int .i64 f, .int .i64 1, .int .i64 7]] W fun x w' => x = .returned (.tuple #[.int .i64 (putA T e.toNat), .int .i64 (putE T e.toNat)]) ∧ KerAt w' K Y n vs (putT T e.toNat ⟨⟨1, f, 1, 7⟩, 0, 0⟩) F ∧ Upd Y.cb W w' := by
    intro W hW
    have := add_at Y.cb T e ⟨1, f, 1, 7⟩ W hW.caps
    rw [HT.out] at this
    rw [show addA T e ⟨1, f, 1, 7⟩ = putA T e.toNat from by unfold addA; rw [if_pos hok], show addR T e ⟨1, f, 1, 7⟩ = putE T e.toNat from by unfold addR; rw [if_pos hok]] at this
    refine this.mono ?_
    rintro x w' ⟨hx, hc, hu⟩
    exact ⟨hx, hW.updC hc (by rw [← HT.out]; exact hW.inv.add e f (by omega) (by omega)) hu, hu⟩
   rw [hf] at hix
   have HK : Hid _ := h
   clear he h hf hn0 hok HT
   by_cases hfr : freeT T e.toNat < 64
   ·have HE : Hid (putE T e.toNat = 0) := by show _ = _; unfold putE; rw [if_pos hfr]
    have HV : Hid (allocV T n e vs = Me.putZ n vs f) := by show _ = _; rw [HA0.out.2.2.2, if_pos hfr]
    rw [HE.out] at ha
    generalize putA T e.toNat = A at *
    generalize putT T e.toNat ⟨⟨1, f, 1, 7⟩, 0, 0⟩ = T' at *
    generalize Me.errZ n f = Z at *
    clear hfr
    go_enter Tryz.func61, Tryz.ntmps61
    go_wp2_with fail
    refine (hE _).mono ?_
    rintro x w1 ⟨rfl, hw1⟩
    rw [hw1]
    clear hw1 w1
    go_wp2_with fail
    refine hr.mono ?_
    rintro x w1 ⟨rfl, hR, hB⟩
    go_wp2_with fail
    refine (hix w1 hR).mono ?_
    rintro x w2 ⟨rfl, hw2⟩
    rw [hw2]
    clear hw2 w2 hR hix hr
    have hK1 := HK.out.below hB
    have hc1 := hK1.k1
    have H1 : Hid _ := hK1
    clear hK1
    go_wp2_with fail
    refine (ha w1 H1.out).mono ?_
    rintro x w2 ⟨rfl, hK2, hu2⟩
    have hc0 := hK2.k0
    have hz := Me.zero_all hK2.mem f
    have H2 : Hid _ := hK2
    clear hK2 hc1
    generalize Me.errZ n f = Z at *
    go_wp2_with fail
    refine hz.mono ?_
    rintro x w3 ⟨rfl, hM3, hu3⟩
    have H3 : Hid _ := H2.out.updM hM3 hu3
    have HU : Hid (UpdP (Foot Y) w w3) := ((UpdP.of_below hB).trans (hu2.p _ (Or.inr (Or.inl rfl)))).trans (hu3.p _ (Or.inl rfl))
    clear hM3 hu3 hu2 hz ha hc0
    go_wp2_with fail
    go_ret2
    obtain ⟨a1, a2, a3, a4⟩ := HA0.out
    exact ⟨by rw [a1, a2, HE.out]; rfl, by rw [a3, HV.out]; exact H3.out, HU.out⟩
   ·have HE : Hid (putE T e.toNat = 105) := by show _ = _; unfold putE; rw [if_neg hfr]
    have HA : Hid (putA T e.toNat = 0) := by show _ = _; unfold putA; rw [if_neg hfr]
    have HV : Hid (allocV T n e vs = vs) := by show _ = _; rw [HA0.out.2.2.2, if_neg hfr]
    rw [HE.out] at ha
    generalize putT T e.toNat ⟨⟨1, f, 1, 7⟩, 0, 0⟩ = T' at *
    clear hfr
    go_enter Tryz.func61, Tryz.ntmps61
    go_wp2_with fail
    refine (hE _).mono ?_
    rintro x w1 ⟨rfl, hw1⟩
    rw [hw1]
    clear hw1 w1
    go_wp2_with fail
    refine hr.mono ?_
    rintro x w1 ⟨rfl, hR, hB⟩
    go_wp2_with fail
    refine (hix w1 hR).mono ?_
    rintro x w2 ⟨rfl, hw2⟩
    rw [hw2]
    clear hw2 w2 hR hix hr
    have hK1 := HK.out.below hB
    have hc1 := hK1.k1
    have H1 : Hid _ := hK1
    clear hK1
    go_wp2_with fail
    refine (ha w1 H1.out).mono ?_
    rintro x w2 ⟨rfl, hK2, hu2⟩
    have H2 : Hid _ := hK2
    have HU : Hid (UpdP (Foot Y) w w2) := (UpdP.of_below hB).trans (hu2.p _ (Or.inr (Or.inl rfl)))
    clear hK2 hc1 hu2 ha
    go_wp2_with fail
    go_ret2
    obtain ⟨a1, a2, a3, a4⟩ := HA0.out
    exact ⟨by rw [a1, a2, HE.out, HA.out]; rfl, by rw [a3, HV.out]; exact H2.out, HU.out⟩
theorem kgrant_at (h : KerAt w K Y n vs T F) (e s q r : Int) :
  Calls Tryz.prog 63 #[ptr K, .int .i64 e, .int .i64 s, .int .i64 q, .int .i64 r] w fun x w' => x = .returned (.tuple #[.int .i64 (giveA T e s q r), .int .i64 (giveR T e s q r)]) ∧ KerAt w' K Y n vs (giveT T e s q r) F ∧ UpdP (Foot Y) w w' := by
 have hg := give_at Y.cb T e s q r w h.caps
 have hc := h.k1
 have HK : Hid _ := h
 clear h
 generalize giveA T e s q r = A at *
 generalize giveR T e s q r = R at *
 go_enter Tryz.func63, Tryz.ntmps63
 go_wp2_with fail
 refine hg.mono ?_
 rintro x w1 ⟨rfl, hC, hu⟩
 have H1 : Hid _ := HK.out.updC hC (HK.out.inv.give e s q r) hu
 have HU : Hid (UpdP (Foot Y) w w1) := hu.p _ (Or.inr (Or.inl rfl))
 clear hC hu hg hc
 go_wp2_with fail
 go_ret2
 exact ⟨rfl, H1.out, HU.out⟩
theorem kfree_at (h : KerAt w K Y n vs T F) (e s : Int) :
  Calls Tryz.prog 64 #[ptr K, .int .i64 e, .int .i64 s] w fun x w' => x = .returned (.int .i64 (dropR T e s)) ∧ KerAt w' K Y n vs (dropT T e s) (tidyF (dropT T e s) F) ∧ UpdP (Foot Y) w w' := by
 have hg := drop_at Y.cb T e s w h.caps h.sanes
 have hc := h.k1
 have HK : Hid _ := h
 clear h
 generalize dropB T e s = A at *
 generalize dropR T e s = R at *
 go_enter Tryz.func64, Tryz.ntmps64
 go_wp2_with fail
 refine hg.mono ?_
 rintro x w1 ⟨rfl, hC, hu⟩
 have hun := kunmapLost_at (HK.out.updC hC (HK.out.inv.drop e s) hu)
 have HU : Hid (UpdP (Foot Y) w w1) := hu.p _ (Or.inr (Or.inl rfl))
 clear hC hu hg hc
 go_wp2_with fail
 refine hun.mono ?_
 rintro x w2 ⟨rfl, hK2, hu2⟩
 have H2 : Hid _ := hK2
 have HU2 : Hid _ := HU.out.trans hu2
 clear hK2 hu2 hun
 go_wp2_with fail
 go_ret
 exact ⟨rfl, H2.out, HU2.out⟩
theorem krevoke_caps (h : KerAt w K Y n vs T F) (e s : Int) :
  Calls Tryz.prog 128 #[ptr Y.cb, .int .i64 e, .int .i64 s] w fun x w' => ∃ N : Int, x = .returned (.tuple #[.int .i64 N, .int .i64 (revR T e s)]) ∧ CapsAt w' Y.cb (revT T e s) ∧ Upd Y.cb w w' := by
 cases hi : (getT T e s).is with
 | false =>
  refine (revoke_no Y.cb T e s w h.caps hi).mono ?_
  rintro x w' ⟨hx, hb⟩
  refine ⟨0, by rw [hx]; unfold revR; rw [hi]; rfl, ?_, Upd.of_below hb⟩
  unfold revT
  rw [hi]
  exact h.caps.below hb
 | true =>
  refine (revoke_yes Y.cb T e s w h.caps hi).mono ?_
  rintro x w' ⟨N, hN, hx, hC, hu⟩
  refine ⟨N, by rw [hx]; unfold revR; rw [if_pos hi], ?_, hu⟩
  rw [revT_is hi hN]
  exact hC
theorem krevoke_at (h : KerAt w K Y n vs T F) (e s : Int) :
  Calls Tryz.prog 65 #[ptr K, .int .i64 e, .int .i64 s] w fun x w' => x = .returned (.int .i64 (revR T e s)) ∧ KerAt w' K Y n vs (revT T e s) (tidyF (revT T e s) F) ∧ UpdP (Foot Y) w w' := by
 have hg := krevoke_caps h e s
 have hc := h.k1
 have HK : Hid _ := h
 clear h
 generalize revR T e s = R at *
 go_enter Tryz.func65, Tryz.ntmps65
 go_wp2_with fail
 refine hg.mono ?_
 rintro x w1 ⟨N, rfl, hC, hu⟩
 have hun := kunmapLost_at (HK.out.updC hC (HK.out.inv.rev e s) hu)
 have HU : Hid (UpdP (Foot Y) w w1) := hu.p _ (Or.inr (Or.inl rfl))
 clear hC hu hg hc
 go_wp2_with fail
 refine hun.mono ?_
 rintro x w2 ⟨rfl, hK2, hu2⟩
 have H2 : Hid _ := hK2
 have HU2 : Hid _ := HU.out.trans hu2
 clear hK2 hu2 hun
 go_wp2_with fail
 go_ret
 exact ⟨rfl, H2.out, HU2.out⟩
end
end Ex
end Go.Proofs.YtbhpafgoofkkmaaGreatDoor
namespace Go.Proofs.YtbhpafgoofkkmaaGreatDoor
open Go.RowKit Ca
namespace Ex
def kmapR (T : Tab) (e p s : Int) (b : Bool) : Int := if (isE e && Mu.isPg p) = true then (if (frm T e s (prt b)).isSome = true then 0 else 104) else 101
def kmapF (T : Tab) (F : Pages) (e p s : Int) (b : Bool) : Pages := if (isE e && Mu.isPg p) = true then (match frm T e s (prt b) with
  | none => F
  | some f => setF F e.toNat (Mu.mapF (F e.toNat) p (f, b))) else F
def kunmapR (F : Pages) (e p : Int) : Int := if isE e = true then Mu.unmapV (F e.toNat) p else 101
def kunmapF (F : Pages) (e p : Int) : Pages := if isE e = true then setF F e.toNat (Mu.unmapF (F e.toNat) p) else F
def kloadR (n : Nat) (vs : List Int) (F : Pages) (e a : Int) : Int × Int := if isE e = true then (if (Mu.walkV (F e.toNat) a false).2.2 = 0 then (Me.valR n vs (Mu.walkV (F e.toNat) a false).1 (Mu.walkV (F e.toNat) a false).2.1, Me.errW n (Mu.walkV (F e.toNat) a false).1 (Mu.walkV (F e.toNat) a false).2.1) else (0, (Mu.walkV (F e.toNat) a false).2.2)) else (0, 101)
def kstoreR (n : Nat) (F : Pages) (e a : Int) : Int := if isE e = true then (if (Mu.walkV (F e.toNat) a true).2.2 = 0 then Me.errW n (Mu.walkV (F e.toNat) a true).1 (Mu.walkV (F e.toNat) a true).2.1 else (Mu.walkV (F e.toNat) a true).2.2) else 101
def kstoreV (n : Nat) (vs : List Int) (F : Pages) (e a v : Int) : List Int := if isE e = true then (if (Mu.walkV (F e.toNat) a true).2.2 = 0 then Me.putW n vs (Mu.walkV (F e.toNat) a true).1 (Mu.walkV (F e.toNat) a true).2.1 v else vs) else vs
def kcopyR (T : Tab) (n : Nat) (e a b : Int) : Int := match frm T e a 2, frm T e b 1 with
 | some f, some g => Me.errC n f g
 | _, _ => 104
def kcopyV (T : Tab) (n : Nat) (vs : List Int) (e a b : Int) : List Int := match frm T e a 2, frm T e b 1 with
 | some f, some g => Me.putC n vs f g
 | _, _ => vs
def kreadR (T : Tab) (n : Nat) (vs : List Int) (e s k : Int) : Int × Int := match frm T e s 1 with
 | none => (0, 104)
 | some f => (Me.valR n vs f k, Me.errW n f k)
def kwriteR (T : Tab) (n : Nat) (e s k : Int) : Int := match frm T e s 2 with
 | none => 104
 | some f => Me.errW n f k
def kwriteV (T : Tab) (n : Nat) (vs : List Int) (e s k v : Int) : List Int := match frm T e s 2 with
 | none => vs
 | some f => Me.putW n vs f k v
def kpageV (F : Pages) (e p : Int) : Option (Int × Bool) := if isE e = true then F e.toNat p else none
section
variable {K : Nat} {Y : Lay} {n : Nat} {vs : List Int} {T : Tab} {F : Pages} {w : World}
set_option maxHeartbeats 1000000 in
theorem kmap_at (h : KerAt w K Y n vs T F) (e p s : Int) (b : Bool) :
  Calls Tryz.prog 66 #[ptr K, .int .i64 e, .int .i64 p, .int .i64 s, .bool b] w fun x w' => x = .returned (.int .i64 (kmapR T e p s b)) ∧ KerAt w' K Y n vs T (kmapF T F e p s b) ∧ UpdP (Foot Y) w w' := by
 have hE := kisEnv_at e
 have hP := kisPage_at p
 cases he : isE e with
 | false =>
  rw [he] at hE
  have HA : Hid (kmapR T e p s b = 101 ∧ kmapF T F e p s b = F) := by
   show _ ∧ _
   simp [kmapR, kmapF, he]
  have HK : Hid _ := h
  clear he h hP
  go_enter Tryz.func66, Tryz.ntmps66
  go_wp2_with (go_at_call 120; refine (hE _).mono ?_; rintro e w1 ⟨rfl, hw1⟩; rw [hw1]; clear hw1 w1)
  go_ret
  exact ⟨by rw [HA.out.1]; rfl, by rw [HA.out.2]; exact HK.out, UpdP.refl _ _⟩
 | true =>
  rw [he] at hE
  cases hp : Mu.isPg p with
  | false =>
   rw [hp] at hP
   have HA : Hid (kmapR T e p s b = 101 ∧ kmapF T F e p s b = F) := by
    show _ ∧ _
    simp [kmapR, kmapF, hp]
   have HK : Hid _ := h
   clear he h hp
   go_enter Tryz.func66, Tryz.ntmps66
   go_wp2_with fail
   refine (hE _).mono ?_
   rintro x w1 ⟨rfl, hw1⟩
   rw [hw1]
   clear hw1 w1
   go_wp2_with fail
   refine (hP _).mono ?_
   rintro x w1 ⟨rfl, hw1⟩
   rw [hw1]
   clear hw1 w1
   go_wp2_with fail
   go_ret
   exact ⟨by rw [HA.out.1]; rfl, by rw [HA.out.2]; exact HK.out, UpdP.refl _ _⟩
  | true =>
   rw [hp] at hP
   obtain ⟨m, rfl, hm⟩ := isE_nat he
   have hr := kpr_at b
   have hf := kframe_at h m s (prt b)
   have hv := fun f (hh : frm T m s (prt b) = some f) => h.inv.frm hh
   have HA : Hid (kmapR T m p s b = (if (frm T m s (prt b)).isSome = true then 0 else 104) ∧ kmapF T F m p s b = match frm T m s (prt b) with | none => F | some f => setF F m (Mu.mapF (F m) p (f, b))) := by
    show _ ∧ _
    simp only [kmapR, kmapF, he, hp, Bool.and_self, if_true, Int.toNat_natCast]
    exact ⟨trivial, trivial⟩
   have HK : Hid _ := h
   have HPG : Hid _ := hp
   clear he h hp
   generalize prt b = q at *
   cases hfr : frm T m s q with
   | none =>
    rw [hfr] at hf
    have HA2 : Hid (kmapR T m p s b = 104 ∧ kmapF T F m p s b = F) := by
     show _ ∧ _
     rw [HA.out.1, HA.out.2, hfr]
     exact ⟨rfl, rfl⟩
    simp only [Option.getD_none, Option.isSome_none] at hf
    clear HA hfr hv
    go_enter Tryz.func66, Tryz.ntmps66
    go_wp2_with fail
    refine (hE _).mono ?_
    rintro x w1 ⟨rfl, hw1⟩
    rw [hw1]
    clear hw1 w1
    go_wp2_with fail
    refine (hP _).mono ?_
    rintro x w1 ⟨rfl, hw1⟩
    rw [hw1]
    clear hw1 w1
    go_wp2_with fail
    refine (hr _).mono ?_
    rintro x w1 ⟨rfl, hw1⟩
    rw [hw1]
    clear hw1 w1
    go_wp2_with fail
    refine hf.mono ?_
    rintro x w1 ⟨rfl, hb1⟩
    go_wp2_with fail
    go_ret
    exact ⟨by rw [HA2.out.1]; rfl, by rw [HA2.out.2]; exact HK.out.below hb1, UpdP.of_below hb1⟩
   | some f =>
    rw [hfr] at hf
    have hfv := hv f hfr
    have HA2 : Hid (kmapR T m p s b = 0 ∧ kmapF T F m p s b = setF F m (Mu.mapF (F m) p (f, b))) := by
     show _ ∧ _
     rw [HA.out.1, HA.out.2, hfr]
     exact ⟨rfl, rfl⟩
    simp only [Option.getD_some, Option.isSome_some] at hf
    clear HA hfr hv
    have HMV : Hid (Mu.mapV p (f, b) = 0) := by
     show _ = _
     simp [Mu.mapV, HPG.out, hfv.1]
    go_enter Tryz.func66, Tryz.ntmps66
    go_wp2_with fail
    refine (hE _).mono ?_
    rintro x w1 ⟨rfl, hw1⟩
    rw [hw1]
    clear hw1 w1
    go_wp2_with fail
    refine (hP _).mono ?_
    rintro x w1 ⟨rfl, hw1⟩
    rw [hw1]
    clear hw1 w1
    go_wp2_with fail
    refine (hr _).mono ?_
    rintro x w1 ⟨rfl, hw1⟩
    rw [hw1]
    clear hw1 w1
    go_wp2_with fail
    refine hf.mono ?_
    rintro x w1 ⟨rfl, hb1⟩
    have hK1 := HK.out.below hb1
    have hct := hK1.kt hm
    have hma := Mu.map_at _ _ _ p (f, b) _ (hK1.tbl m hm)
    rw [HMV.out] at hma
    unfold Mu.pv at hma
    have H1 : Hid _ := hK1
    have i1 : (m : Int) < 12 := by omega
    clear hK1 hE hP hr hf
    go_wp2_with fail
    refine hma.mono ?_
    rintro x w2 ⟨rfl, ht2, hu2⟩
    have H2 : Hid _ := H1.out.updT hm ht2 (fun k y hy => by
      unfold Mu.mapF at hy
      split at hy
      · dsimp only at hy
        split at hy
        · cases hy; exact hfv.2
        · exact HK.out.pg m hm k y hy
      · exact HK.out.pg m hm k y hy) hu2
    have HU : Hid (UpdP (Foot Y) w w2) := (UpdP.of_below hb1).trans (hu2.p _ (Or.inr (Or.inr ⟨m, hm, rfl⟩)))
    clear ht2 hu2 hma hct
    go_wp2_with fail
    go_ret
    exact ⟨by rw [HA2.out.1]; rfl, by rw [HA2.out.2]; exact H2.out, HU.out⟩
theorem kunmap_at (h : KerAt w K Y n vs T F) (e p : Int) :
  Calls Tryz.prog 67 #[ptr K, .int .i64 e, .int .i64 p] w fun x w' => x = .returned (.int .i64 (kunmapR F e p)) ∧ KerAt w' K Y n vs T (kunmapF F e p) ∧ UpdP (Foot Y) w w' := by
 cases he : isE e with
 | false =>
  have ht := ktable_no K e w he
  have HA : Hid (kunmapR F e p = 101 ∧ kunmapF F e p = F) := by
   show _ ∧ _
   simp [kunmapR, kunmapF, he]
  have HK : Hid _ := h
  clear he h
  go_enter Tryz.func67, Tryz.ntmps67
  go_wp2_with fail
  refine ht.mono ?_
  rintro x w1 ⟨rfl, rfl⟩
  go_wp2_with fail
  refine (Mu.unmap_nil _ _).mono ?_
  rintro x w1 ⟨rfl, rfl⟩
  go_wp2_with fail
  go_ret
  exact ⟨by rw [HA.out.1]; rfl, by rw [HA.out.2]; exact HK.out, UpdP.refl _ _⟩
 | true =>
  obtain ⟨m, rfl, hm⟩ := isE_nat he
  have ht := ktable_yes h m hm
  have hun := Mu.unmap_at _ _ _ p _ (h.tbl m hm)
  have HA : Hid (kunmapR F m p = Mu.unmapV (F m) p ∧ kunmapF F m p = setF F m (Mu.unmapF (F m) p)) := by
   show _ ∧ _
   simp [kunmapR, kunmapF, he]
  have HK : Hid _ := h
  clear he h
  generalize Mu.unmapV (F m) p = V at *
  go_enter Tryz.func67, Tryz.ntmps67
  go_wp2_with fail
  refine ht.mono ?_
  rintro x w1 ⟨rfl, hw1⟩
  rw [hw1]
  clear hw1 w1
  go_wp2_with fail
  refine hun.mono ?_
  rintro x w1 ⟨rfl, ht1, hu1⟩
  have H1 : Hid _ := HK.out.updT hm ht1 (fun k y hy => HK.out.pg m hm k y (unmapF_some hy)) hu1
  have HU : Hid (UpdP (Foot Y) w w1) := hu1.p _ (Or.inr (Or.inr ⟨m, hm, rfl⟩))
  clear ht1 hu1 hun ht
  go_wp2_with fail
  go_ret
  exact ⟨by rw [HA.out.1]; rfl, by rw [HA.out.2]; exact H1.out, HU.out⟩
set_option maxHeartbeats 1000000 in
theorem kload_at (h : KerAt w K Y n vs T F) (e a : Int) (ha : 0 ≤ a) :
  Calls Tryz.prog 68 #[ptr K, .int .i64 e, .int .u64 a] w fun x w' => x = .returned (.tuple #[.int .u64 (kloadR n vs F e a).1, .int .i64 (kloadR n vs F e a).2]) ∧ Below w.heap.size w w' := by
 cases he : isE e with
 | false =>
  have ht := ktable_no K e w he
  have HA : Hid (kloadR n vs F e a = (0, 101)) := by
   show _ = _
   simp [kloadR, he]
  clear he h
  go_enter Tryz.func68, Tryz.ntmps68
  go_wp2_with fail
  refine ht.mono ?_
  rintro x w1 ⟨rfl, rfl⟩
  go_wp2_with fail
  go_ret2
  exact ⟨by rw [HA.out]; rfl, Below.refl _ _⟩
 | true =>
  obtain ⟨m, rfl, hm⟩ := isE_nat he
  have ht := ktable_yes h m hm
  have hwk := Mu.walk_at _ _ _ a false _ (h.tbl m hm) ha
  have HA : Hid (kloadR n vs F m a = if (Mu.walkV (F m) a false).2.2 = 0 then (Me.valR n vs (Mu.walkV (F m) a false).1 (Mu.walkV (F m) a false).2.1, Me.errW n (Mu.walkV (F m) a false).1 (Mu.walkV (F m) a false).2.1) else (0, (Mu.walkV (F m) a false).2.2)) := by
   show _ = _
   simp only [kloadR, he, if_true, Int.toNat_natCast]
  have HK : Hid _ := h
  clear he h
  generalize Mu.walkV (F m) a false = r at *
  generalize kloadR n vs F m a = R at *
  obtain ⟨f, k, er⟩ := r
  dsimp only [Mu.t3] at *
  by_cases h0 : er = 0
  ·subst h0
   have HA2 : Hid (R = (Me.valR n vs f k, Me.errW n f k)) := HA.out
   clear HA
   have hrd : ∀ W, KerAt W K Y n vs T F → _ := fun W hW => Me.read_all (W := W) hW.mem f k
   generalize Me.valR n vs f k = V at *
   generalize Me.errW n f k = E at *
   go_enter Tryz.func68, Tryz.ntmps68
   go_wp2_with fail
   refine ht.mono ?_
   rintro x w1 ⟨rfl, hw1⟩
   rw [hw1]
   clear hw1 w1
   go_wp2_with fail
   refine hwk.mono ?_
   rintro x w1 ⟨rfl, hb1⟩
   have hK1 := HK.out.below hb1
   have hc0 := hK1.k0
   have hr1 := hrd w1 hK1
   clear hK1 hrd hwk ht
   go_wp2_with fail
   refine hr1.mono ?_
   rintro x w2 ⟨rfl, hw2⟩
   rw [hw2]
   clear hw2 w2
   go_wp2_with fail
   go_ret2
   exact ⟨by rw [HA2.out]; rfl, hb1⟩
  ·have HA2 : Hid (R = (0, er)) := by
    show _ = _
    rw [HA.out, if_neg h0]
   clear HA
   go_enter Tryz.func68, Tryz.ntmps68
   go_wp2_with fail
   refine ht.mono ?_
   rintro x w1 ⟨rfl, hw1⟩
   rw [hw1]
   clear hw1 w1
   go_wp2_with fail
   refine hwk.mono ?_
   rintro x w1 ⟨rfl, hb1⟩
   go_wp2_with fail
   go_ret2
   exact ⟨by rw [HA2.out]; rfl, hb1⟩
set_option maxHeartbeats 1000000 in
theorem kstore_at (h : KerAt w K Y n vs T F) (e a v : Int) (ha : 0 ≤ a) :
  Calls Tryz.prog 69 #[ptr K, .int .i64 e, .int .u64 a, .int .u64 v] w fun x w' => x = .returned (.int .i64 (kstoreR n F e a)) ∧ KerAt w' K Y n (kstoreV n vs F e a v) T F ∧ UpdP (Foot Y) w w' := by
 cases he : isE e with
 | false =>
  have ht := ktable_no K e w he
  have HA : Hid (kstoreR n F e a = 101 ∧ kstoreV n vs F e a v = vs) := by
   show _ ∧ _
   simp [kstoreR, kstoreV, he]
  have HK : Hid _ := h
  clear he h
  go_enter Tryz.func69, Tryz.ntmps69
  go_wp2_with fail
  refine ht.mono ?_
  rintro x w1 ⟨rfl, rfl⟩
  go_wp2_with fail
  go_ret
  exact ⟨by rw [HA.out.1]; rfl, by rw [HA.out.2]; exact HK.out, UpdP.refl _ _⟩
 | true =>
  obtain ⟨m, rfl, hm⟩ := isE_nat he
  have ht := ktable_yes h m hm
  have hwk := Mu.walk_at _ _ _ a true _ (h.tbl m hm) ha
  have HA : Hid (kstoreR n F m a = (if (Mu.walkV (F m) a true).2.2 = 0 then Me.errW n (Mu.walkV (F m) a true).1 (Mu.walkV (F m) a true).2.1 else (Mu.walkV (F m) a true).2.2) ∧ kstoreV n vs F m a v = if (Mu.walkV (F m) a true).2.2 = 0 then Me.putW n vs (Mu.walkV (F m) a true).1 (Mu.walkV (F m) a true).2.1 v else vs) := by
   show _ ∧ _
   simp only [kstoreR, kstoreV, he, if_true, Int.toNat_natCast, and_self]
  have HK : Hid _ := h
  clear he h
  generalize Mu.walkV (F m) a true = r at *
  generalize kstoreR n F m a = R at *
  generalize kstoreV n vs F m a v = vs' at *
  obtain ⟨f, k, er⟩ := r
  dsimp only [Mu.t3] at *
  by_cases h0 : er = 0
  ·subst h0
   have HA2 : Hid (R = Me.errW n f k ∧ vs' = Me.putW n vs f k v) := HA.out
   clear HA
   have hrd : ∀ W, KerAt W K Y n vs T F → _ := fun W hW => Me.write_all (W := W) hW.mem f k v
   generalize Me.errW n f k = E at *
   go_enter Tryz.func69, Tryz.ntmps69
   go_wp2_with fail
   refine ht.mono ?_
   rintro x w1 ⟨rfl, hw1⟩
   rw [hw1]
   clear hw1 w1
   go_wp2_with fail
   refine hwk.mono ?_
   rintro x w1 ⟨rfl, hb1⟩
   have hK1 := HK.out.below hb1
   have hc0 := hK1.k0
   have hr1 := hrd w1 hK1
   have H1 : Hid _ := hK1
   clear hK1 hrd hwk ht
   go_wp2_with fail
   refine hr1.mono ?_
   rintro x w2 ⟨rfl, hM2, hu2⟩
   have H2 : Hid _ := H1.out.updM hM2 hu2
   have HU : Hid (UpdP (Foot Y) w w2) := (UpdP.of_below hb1).trans (hu2.p _ (Or.inl rfl))
   clear hM2 hu2 hr1 hc0
   go_wp2_with fail
   go_ret
   exact ⟨by rw [HA2.out.1]; rfl, by rw [HA2.out.2]; exact H2.out, HU.out⟩
  ·have HA2 : Hid (R = er ∧ vs' = vs) := by
    show _ ∧ _
    rw [HA.out.1, HA.out.2, if_neg h0, if_neg h0]
    exact ⟨rfl, rfl⟩
   clear HA
   go_enter Tryz.func69, Tryz.ntmps69
   go_wp2_with fail
   refine ht.mono ?_
   rintro x w1 ⟨rfl, hw1⟩
   rw [hw1]
   clear hw1 w1
   go_wp2_with fail
   refine hwk.mono ?_
   rintro x w1 ⟨rfl, hb1⟩
   go_wp2_with fail
   go_ret
   exact ⟨by rw [HA2.out.1]; rfl, by rw [HA2.out.2]; exact HK.out.below hb1, UpdP.of_below hb1⟩
end
end Ex
end Go.Proofs.YtbhpafgoofkkmaaGreatDoor
namespace Go.Proofs.YtbhpafgoofkkmaaGreatDoor
open Go.RowKit Ca
namespace Ex
section
variable {K : Nat} {Y : Lay} {n : Nat} {vs : List Int} {T : Tab} {F : Pages} {w : World}
theorem page_ret (x : Int × Bool) (B : Bool) (w w1 : World) (hb1 : Below (w.alloc (.cells #[.int .i64 0, .bool false] 50)).heap.size (w.alloc (.cells #[.int .i64 0, .bool false] 50)) w1) :
  (w1.cell? ⟨w.heap.size, 0, none⟩ = some (.int .i64 0) ∧ w1.cell? ⟨w.heap.size, 1, none⟩ = some (.bool false) ∧ w1.frozen? ⟨w.heap.size, 0, none⟩ = false ∧ w1.frozen? ⟨w.heap.size, 1, none⟩ = false ∧ w.heap.size < w1.heap.size) ∧ Below w.heap.size w w1 := by
 have hs : w.heap.size < w1.heap.size := by have := hb1.size; simp at this; omega
 have hc := (hb1.block w.heap.size (by simp)).trans (heap_alloc_new w (.cells #[.int .i64 0, .bool false] 50))
 exact ⟨⟨by rw [cell_of_heap hc]; rfl, by rw [cell_of_heap hc]; rfl, frozen_of_heap hc, frozen_of_heap hc, hs⟩, (below_alloc w _).trans (hb1.mono (by simp))⟩
set_option maxHeartbeats 1000000 in
theorem kpage_at (h : KerAt w K Y n vs T F) (e p : Int) :
  Calls Tryz.prog 101 #[ptr K, .int .i64 e, .int .i64 p] w fun x w' => x = .returned (.tuple #[Mu.pv ((kpageV F e p).getD (0, false)), .bool (kpageV F e p).isSome]) ∧ Below w.heap.size w w' := by
 have hK := h.below (below_alloc w (.cells #[.int .i64 0, .bool false] 50))
 clear h
 cases he : isE e with
 | false =>
  have ht := ktable_no K e (w.alloc (.cells #[.int .i64 0, .bool false] 50)) he
  have HA : Hid (kpageV F e p = none) := by
   show _ = _
   simp [kpageV, he]
  clear he hK
  go_enter Tryz.func101, Tryz.ntmps101
  go_wp2_with fail
  refine ht.mono ?_
  rintro x w1 ⟨rfl, hw1⟩
  rw [hw1]
  clear hw1 w1
  go_wp2_with fail
  refine (Mu.at_nil _ _).mono ?_
  rintro x w1 ⟨rfl, hb1⟩
  obtain ⟨⟨c0, c1, f0, f1, hs⟩, hB⟩ := page_ret (0, false) false w w1 hb1
  have HB : Hid _ := hB
  clear hb1 hB ht
  unfold Mu.pv
  go_wp2_with fail
  (try simp only [Exit.inBlock, Exit.then])
  refine bodyPost_ret (v := .tuple #[.agg #[.int .i64 0, .bool false], .bool false]) ?_ rfl ⟨by rw [HA.out]; rfl, ?_⟩
  ·rw [results_cell_tmp rfl]
   go_simp
  ·(repeat' (first | exact HB.out | refine Below.setCell ?_ (by simp) _ | refine Below.alloc ?_ (by simp) _))
 | true =>
  obtain ⟨m, rfl, hm⟩ := isE_nat he
  have ht := ktable_yes hK m hm
  have ha := Mu.at_at _ _ _ p _ (hK.tbl m hm)
  have HA : Hid (kpageV F m p = F m p) := by
   show _ = _
   simp [kpageV, he]
  clear he hK
  generalize F m p = r at *
  have HG : Hid (∀ A B, r.getD (0, false) = (A, B) → r.getD (0, false) = (A, B)) := fun A B h => h
  generalize hg : r.getD (0, false) = y at *
  obtain ⟨f, b⟩ := y
  have HR : Hid _ := hg
  clear hg HG
  generalize hi : r.isSome = B at *
  have HI : Hid _ := hi
  clear hi
  unfold Mu.pv at ha
  go_enter Tryz.func101, Tryz.ntmps101
  go_wp2_with fail
  refine ht.mono ?_
  rintro x w1 ⟨rfl, hw1⟩
  rw [hw1]
  clear hw1 w1
  go_wp2_with fail
  refine ha.mono ?_
  rintro x w1 ⟨rfl, hb1⟩
  obtain ⟨⟨c0, c1, f0, f1, hs⟩, hB⟩ := page_ret (0, false) false w w1 hb1
  have HB : Hid _ := hB
  clear hb1 hB ht ha
  go_wp2_with fail
  (try simp only [Exit.inBlock, Exit.then])
  refine bodyPost_ret (v := .tuple #[.agg #[.int .i64 f, .bool b], .bool B]) ?_ rfl ⟨by rw [HA.out, HR.out, HI.out]; rfl, ?_⟩
  ·rw [results_cell_tmp rfl]
   go_simp
  ·(repeat' (first | exact HB.out | refine Below.setCell ?_ (by simp) _ | refine Below.alloc ?_ (by simp) _))
set_option maxHeartbeats 1000000 in
theorem kcopy_at (h : KerAt w K Y n vs T F) (e a b : Int) :
  Calls Tryz.prog 70 #[ptr K, .int .i64 e, .int .i64 a, .int .i64 b] w fun x w' => x = .returned (.int .i64 (kcopyR T n e a b)) ∧ KerAt w' K Y n (kcopyV T n vs e a b) T F ∧ UpdP (Foot Y) w w' := by
 have h1 := kframe_at h e a 2
 have h2 : ∀ W, KerAt W K Y n vs T F → _ := fun W hW => kframe_at (w := W) hW e b 1
 have HA : Hid (kcopyR T n e a b = (match frm T e a 2, frm T e b 1 with | some f, some g => Me.errC n f g | _, _ => 104) ∧ kcopyV T n vs e a b = match frm T e a 2, frm T e b 1 with | some f, some g => Me.putC n vs f g | _, _ => vs) := ⟨rfl, rfl⟩
 have HK : Hid _ := h
 clear h
 generalize frm T e a 2 = p at *
 generalize frm T e b 1 = q at *
 generalize kcopyR T n e a b = R at *
 generalize kcopyV T n vs e a b = vs' at *
 cases p with
 | none =>
  have HA2 : Hid (R = 104 ∧ vs' = vs) := HA.out
  clear HA
  cases q
  all_goals
   simp only [Option.getD_none, Option.isSome_none, Option.getD_some, Option.isSome_some] at h1 h2
   go_enter Tryz.func70, Tryz.ntmps70
   go_wp2_with fail
   refine h1.mono ?_
   rintro x w1 ⟨rfl, hb1⟩
   go_wp2_with fail
   refine (h2 w1 (HK.out.below hb1)).mono ?_
   rintro x w2 ⟨rfl, hb2⟩
   go_wp2_with fail
   go_ret
   exact ⟨by rw [HA2.out.1]; rfl, by rw [HA2.out.2]; exact (HK.out.below hb1).below hb2, UpdP.of_below (hb1.trans (hb2.mono hb1.size))⟩
 | some f =>
  cases q with
  | none =>
   have HA2 : Hid (R = 104 ∧ vs' = vs) := HA.out
   clear HA
   simp only [Option.getD_none, Option.isSome_none, Option.getD_some, Option.isSome_some] at h1 h2
   go_enter Tryz.func70, Tryz.ntmps70
   go_wp2_with fail
   refine h1.mono ?_
   rintro x w1 ⟨rfl, hb1⟩
   go_wp2_with fail
   refine (h2 w1 (HK.out.below hb1)).mono ?_
   rintro x w2 ⟨rfl, hb2⟩
   go_wp2_with fail
   go_ret
   exact ⟨by rw [HA2.out.1]; rfl, by rw [HA2.out.2]; exact (HK.out.below hb1).below hb2, UpdP.of_below (hb1.trans (hb2.mono hb1.size))⟩
  | some g =>
   have HA2 : Hid (R = Me.errC n f g ∧ vs' = Me.putC n vs f g) := HA.out
   clear HA
   have hcp : ∀ W, KerAt W K Y n vs T F → _ := fun W hW => Me.copy_all (W := W) hW.mem f g
   generalize Me.errC n f g = E at *
   simp only [Option.getD_some, Option.isSome_some] at h1 h2
   go_enter Tryz.func70, Tryz.ntmps70
   go_wp2_with fail
   refine h1.mono ?_
   rintro x w1 ⟨rfl, hb1⟩
   go_wp2_with fail
   refine (h2 w1 (HK.out.below hb1)).mono ?_
   rintro x w2 ⟨rfl, hb2⟩
   have hK2 := (HK.out.below hb1).below hb2
   have hc0 := hK2.k0
   have hr2 := hcp w2 hK2
   have H2 : Hid _ := hK2
   clear hK2 hcp h1 h2
   go_wp2_with fail
   refine hr2.mono ?_
   rintro x w3 ⟨rfl, hM3, hu3⟩
   have H3 : Hid _ := H2.out.updM hM3 hu3
   have HU : Hid (UpdP (Foot Y) w w3) := (UpdP.of_below (hb1.trans (hb2.mono hb1.size))).trans (hu3.p _ (Or.inl rfl))
   clear hM3 hu3 hr2 hc0
   go_wp2_with fail
   go_ret
   exact ⟨by rw [HA2.out.1]; rfl, by rw [HA2.out.2]; exact H3.out, HU.out⟩
theorem kread_at (h : KerAt w K Y n vs T F) (e s k : Int) :
  Calls Tryz.prog 71 #[ptr K, .int .i64 e, .int .i64 s, .int .i64 k] w fun x w' => x = .returned (.tuple #[.int .u64 (kreadR T n vs e s k).1, .int .i64 (kreadR T n vs e s k).2]) ∧ Below w.heap.size w w' := by
 have h1 := kframe_at h e s 1
 have HA : Hid (kreadR T n vs e s k = match frm T e s 1 with | none => (0, 104) | some f => (Me.valR n vs f k, Me.errW n f k)) := rfl
 have HK : Hid _ := h
 clear h
 generalize frm T e s 1 = p at *
 generalize kreadR T n vs e s k = R at *
 cases p with
 | none =>
  have HA2 : Hid (R = (0, 104)) := HA.out
  clear HA
  simp only [Option.getD_none, Option.isSome_none] at h1
  go_enter Tryz.func71, Tryz.ntmps71
  go_wp2_with fail
  refine h1.mono ?_
  rintro x w1 ⟨rfl, hb1⟩
  go_wp2_with fail
  go_ret2
  exact ⟨by rw [HA2.out]; rfl, hb1⟩
 | some f =>
  have HA2 : Hid (R = (Me.valR n vs f k, Me.errW n f k)) := HA.out
  clear HA
  have hrd : ∀ W, KerAt W K Y n vs T F → _ := fun W hW => Me.read_all (W := W) hW.mem f k
  generalize Me.valR n vs f k = V at *
  generalize Me.errW n f k = E at *
  simp only [Option.getD_some, Option.isSome_some] at h1
  go_enter Tryz.func71, Tryz.ntmps71
  go_wp2_with fail
  refine h1.mono ?_
  rintro x w1 ⟨rfl, hb1⟩
  have hK1 := HK.out.below hb1
  have hc0 := hK1.k0
  have hr1 := hrd w1 hK1
  clear hK1 hrd h1
  go_wp2_with fail
  refine hr1.mono ?_
  rintro x w2 ⟨rfl, hw2⟩
  rw [hw2]
  clear hw2 w2
  go_wp2_with fail
  go_ret2
  exact ⟨by rw [HA2.out]; rfl, hb1⟩
theorem kwrite_at (h : KerAt w K Y n vs T F) (e s k v : Int) :
  Calls Tryz.prog 72 #[ptr K, .int .i64 e, .int .i64 s, .int .i64 k, .int .u64 v] w fun x w' => x = .returned (.int .i64 (kwriteR T n e s k)) ∧ KerAt w' K Y n (kwriteV T n vs e s k v) T F ∧ UpdP (Foot Y) w w' := by
 have h1 := kframe_at h e s 2
 have HA : Hid (kwriteR T n e s k = (match frm T e s 2 with | none => 104 | some f => Me.errW n f k) ∧ kwriteV T n vs e s k v = match frm T e s 2 with | none => vs | some f => Me.putW n vs f k v) := ⟨rfl, rfl⟩
 have HK : Hid _ := h
 clear h
 generalize frm T e s 2 = p at *
 generalize kwriteR T n e s k = R at *
 generalize kwriteV T n vs e s k v = vs' at *
 cases p with
 | none =>
  have HA2 : Hid (R = 104 ∧ vs' = vs) := HA.out
  clear HA
  simp only [Option.getD_none, Option.isSome_none] at h1
  go_enter Tryz.func72, Tryz.ntmps72
  go_wp2_with fail
  refine h1.mono ?_
  rintro x w1 ⟨rfl, hb1⟩
  go_wp2_with fail
  go_ret
  exact ⟨by rw [HA2.out.1]; rfl, by rw [HA2.out.2]; exact HK.out.below hb1, UpdP.of_below hb1⟩
 | some f =>
  have HA2 : Hid (R = Me.errW n f k ∧ vs' = Me.putW n vs f k v) := HA.out
  clear HA
  have hrd : ∀ W, KerAt W K Y n vs T F → _ := fun W hW => Me.write_all (W := W) hW.mem f k v
  generalize Me.errW n f k = E at *
  simp only [Option.getD_some, Option.isSome_some] at h1
  go_enter Tryz.func72, Tryz.ntmps72
  go_wp2_with fail
  refine h1.mono ?_
  rintro x w1 ⟨rfl, hb1⟩
  have hK1 := HK.out.below hb1
  have hc0 := hK1.k0
  have hr1 := hrd w1 hK1
  have H1 : Hid _ := hK1
  clear hK1 hrd h1
  go_wp2_with fail
  refine hr1.mono ?_
  rintro x w2 ⟨rfl, hM2, hu2⟩
  have H2 : Hid _ := H1.out.updM hM2 hu2
  have HU : Hid (UpdP (Foot Y) w w2) := (UpdP.of_below hb1).trans (hu2.p _ (Or.inl rfl))
  clear hM2 hu2 hr1 hc0
  go_wp2_with fail
  go_ret
  exact ⟨by rw [HA2.out.1]; rfl, by rw [HA2.out.2]; exact H2.out, HU.out⟩
end
structure Newing (w wr : World) (K mb cb : Nat) (n : Nat) (tb mp : Nat → Nat) (k : Nat) : Prop where
 head : HeadAt wr K mb cb tb k
 mem : Me.MemAt wr mb w.heap.size n (List.replicate (n * 32) 0)
 caps : CapsAt wr cb (fun _ => Hd.no)
 tbl : ∀ e, e < k → Mu.TblAt wr (tb e) (mp e) (fun _ => none)
 far : ∀ e, e < k → K < mp e ∧ K < tb e
 inj : ∀ i j, i < k → j < k → mp i = mp j → i = j
 old : Below w.heap.size w wr
 mbw : w.heap.size ≤ mb
 cbw : w.heap.size ≤ cb
 Kw : w.heap.size ≤ K
 cbK : cb < K
 mbc : mb < cb
theorem Newing.lt {w wr : World} {K mb cb n k : Nat} {tb mp : Nat → Nat} (h : Newing w wr K mb cb n tb mp k) : K < wr.heap.size := h.head.lt
theorem Newing.cell {w wr : World} {K mb cb n k : Nat} {tb mp : Nat → Nat} (h : Newing w wr K mb cb n tb mp k) (hk : k < 12) : wr.cell? ⟨K, 2 + k, none⟩ = some (.pointer none) ∧ wr.frozen? ⟨K, 2 + k, none⟩ = false := by
 obtain ⟨row, hr, _, _, _, _, h3⟩ := h.head
 exact ⟨by rw [cell_of_heap hr]; exact h3 k (Nat.le_refl _) hk, frozen_of_heap hr⟩
theorem Newing.below {w wr w' : World} {K mb cb n k : Nat} {tb mp : Nat → Nat} (h : Newing w wr K mb cb n tb mp k) (hb : Below wr.heap.size wr w') : Newing w w' K mb cb n tb mp k :=
 ⟨h.head.keep (hb.block _ h.lt), h.mem.below hb, h.caps.below hb, fun e he => (h.tbl e he).below hb, h.far, h.inj, h.old.trans (hb.mono h.old.size), h.mbw, h.cbw, h.Kw, h.cbK, h.mbc⟩
theorem Newing.step {w w1 : World} {K mb cb n k t m : Nat} {tb mp : Nat → Nat} (h : Newing w w1 K mb cb n tb mp k) (hk : k < 12) (ht : Mu.TblAt w1 t m (fun _ => none)) (h1 : K < t) (h2 : K < m) (h3 : ∀ e, e < k → mp e < m) :
  Newing w (w1.setCell ⟨K, 2 + k, none⟩ (ptr t)) K mb cb n (fun e => if e = k then t else tb e) (fun e => if e = k then m else mp e) (k + 1) := by
 have hw := h.mbw
 have hc := h.cbK
 have hm := h.mbc
 have hu := Upd.setCell K (2 + k) w1 (ptr t)
 refine ⟨h.head.set hk t, h.mem.keep (hu.block _ (lt_of_heap h.mem.head) (by omega)) (hu.block _ (lt_of_heap h.mem.row) (by omega)), h.caps.keep (hu.block _ h.caps.lt (by omega)), fun e he => ?_, fun e he => ?_, fun i j hi hj hij => ?_, h.old.trans (hu.below h.Kw h.old.size), h.mbw, h.cbw, h.Kw, h.cbK, h.mbc⟩
 ·by_cases e1 : e = k
  ·rw [if_pos e1, if_pos e1]
   exact ht.keep (hu.block _ ht.lt (by omega)) (hu.block _ ht.mlt (by omega))
  ·rw [if_neg e1, if_neg e1]
   have := h.far e (by omega)
   have hte := h.tbl e (by omega)
   exact hte.keep (hu.block _ hte.lt (by omega)) (hu.block _ hte.mlt (by omega))
 ·by_cases e1 : e = k
  ·rw [if_pos e1, if_pos e1]
   exact ⟨h2, h1⟩
  ·rw [if_neg e1, if_neg e1]
   exact h.far e (by omega)
 ·by_cases e1 : i = k <;> by_cases e2 : j = k
  ·omega
  ·rw [if_pos e1, if_neg e2] at hij
   have := h3 j (by omega)
   omega
  ·rw [if_neg e1, if_pos e2] at hij
   have := h3 i (by omega)
   omega
  ·rw [if_neg e1, if_neg e2] at hij
   exact h.inj i j (by omega) (by omega) hij
set_option maxHeartbeats 4000000 in
theorem knew_at (n : Int) (w : World) (h1 : 1 ≤ n) (h2 : n ≤ 1024) :
  Calls Tryz.prog 52 #[.int .i64 n] w fun x w' => ∃ K Y, x = .returned (ptr K) ∧ KerAt w' K Y n.toNat (List.replicate (n.toNat * 32) 0) (fun _ => Hd.no) (fun _ _ => none) ∧ Below w.heap.size w w' ∧ w.heap.size ≤ K ∧ ∀ b, Foot Y b → w.heap.size ≤ b := by
 have hm := Me.new_at n w h1 h2
 have HN : Hid (1 ≤ n.toNat ∧ n.toNat ≤ 1024) := ⟨by omega, by omega⟩
 clear h1 h2
 go_enter Tryz.func52, Tryz.ntmps52
 go_wp2_with fail
 refine hm.mono ?_
 rintro x w1 ⟨rfl, hM1, hb1, hs1⟩
 go_wp2_with fail
 refine (Ca.new_at w1).mono ?_
 rintro x w2 ⟨rfl, hC2, hb2, hs2⟩
 obtain ⟨W, hW⟩ : ∃ W, W = w2.alloc (.cells #[.pointer (some ⟨w.heap.size + 1, 0, none⟩), .pointer (some ⟨w1.heap.size, 0, none⟩), .pointer none, .pointer none, .pointer none, .pointer none, .pointer none, .pointer none, .pointer none, .pointer none, .pointer none, .pointer none, .pointer none, .pointer none] 188) := ⟨_, rfl⟩
 have hbW : Below w2.heap.size w2 W := by rw [hW]; exact below_alloc _ _
 have HI : Hid (Newing w W w2.heap.size (w.heap.size + 1) w1.heap.size n.toNat (fun _ => 0) (fun _ => 0) 0) := by
  refine ⟨⟨_, by rw [hW]; exact heap_alloc_new _ _, rfl, rfl, rfl, fun e he => by omega, fun e h3 h4 => ?_⟩, (hM1.below hb2).below hbW, hC2.below hbW, fun e he => by omega, fun e he => by omega, fun i j hi => by omega, (hb1.trans (hb2.mono hb1.size)).trans (hbW.mono (by have := hb1.size; have := hb2.size; omega)), by omega, hb1.size, by have := hb1.size; have := hb2.size; omega, by omega, by omega⟩
  match e, h4 with
  | 0, _ => rfl
  | 1, _ => rfl
  | 2, _ => rfl
  | 3, _ => rfl
  | 4, _ => rfl
  | 5, _ => rfl
  | 6, _ => rfl
  | 7, _ => rfl
  | 8, _ => rfl
  | 9, _ => rfl
  | 10, _ => rfl
  | 11, _ => rfl
 clear hM1 hb1 hs1 hC2 hb2 hs2 hbW
 go_wp2_with fail
 rw [← hW]
 clear hW hm
 generalize w2.heap.size = K at *
 generalize w1.heap.size = cb at *
 go_loopw [14] (fun s wr => ∃ (k : Nat) (tb mp : Nat → Nat), k ≤ 12 ∧ s = .int .i64 k ∧ Newing w wr K (w.heap.size + 1) cb n.toNat tb mp k) (fun s _ => 12 - (intOf s).toNat)
 case atStart => exact ⟨0, _, _, by omega, rfl, HI.out⟩
 case round =>
  clear HI
  obtain ⟨k, tb, mp, hk', rfl, hN⟩ := hrel
  by_cases hk : k < 12
  ·have i1 : decide ((k : Int) < 12) = true := decide_eq_true (by omega)
   have i2 : (k : Int) < 12 := by omega
   have HW : Hid _ := hN
   have hnew := Mu.new_any wr.drew
   clear hN
   go_wp2_with fail
   refine wp_region_held_drew (S := fun w' => True) (by kernel_rfl) trivial (fun hHeld => ?_)
   refine tkz [0, 1, 3, 4] ?_
   iterate 4
    refine tky (v := ?_) rfl (by kernel_rfl) (by kernel_rfl) (by kernel_rfl) (fun _ _ _ h => h) (Or.inl ⟨by kernel_rfl, ?_⟩) (by assumption) ?_
    rotate_left
    ·(intro w hSw; (try dsimp only at hSw); go_simp) <;> with_reducible rfl
    (try simp only [Act.put, lqa, lqb, lqc, lqd, lqe, lqf])
   refine tkw ?_
   refine wpAnyH_ready (rs := [2]) (by kernel_rfl) (by simp) ?_
   refine AllReadyH.cons rfl (fun K hK => ?_) AllReadyH.nil
   go_simp
   refine hnew.mono ?_
   rintro x w3 ⟨rfl, ht3, hb3⟩
   refine hK.out _ _ trivial (fun hHeld => ?_)
   clear hK K
   (try simp only [Act.put, lqa, lqb, lqc, lqd, lqe, lqf])
   refine tkz [5] ?_
   iterate 1
    refine tky (v := ?_) rfl (by kernel_rfl) (by kernel_rfl) (by kernel_rfl) (fun _ _ _ h => h) (Or.inl ⟨by kernel_rfl, ?_⟩) (by assumption) ?_
    rotate_left
    ·(intro w hSw; (try dsimp only at hSw); go_simp) <;> with_reducible rfl
    (try simp only [Act.put, lqa, lqb, lqc, lqd, lqe, lqf])
   refine tkw ?_
   have hN3 := HW.out.below (w' := w3) ⟨hb3.os, hb3.tape, hb3.output, hb3.size, hb3.block⟩
   obtain ⟨c3, f3⟩ := hN3.cell hk
   have HS : Hid _ := hN3.step hk ht3 (by have := HW.out.lt; show K < wr.heap.size + 1; omega) (by have := HW.out.lt; show K < wr.heap.size; omega) (fun e he => (HW.out.tbl e he).mlt)
   clear hN3 ht3 hb3 hnew
   refine wpAnyH_ready (rs := [6]) (by kernel_rfl) (by simp) ?_
   refine AllReadyH.cons rfl (fun K hK => ?_) AllReadyH.nil
   go_simp
   refine hK.out _ _ trivial (fun hHeld => ?_)
   clear hK K
   (try simp only [Act.put, lqa, lqb, lqc, lqd, lqe, lqf])
   refine wpAnyH_done (by kernel_rfl) ?_ _
   go_wp2_with fail
   go_roundw
   case rel => exact ⟨k + 1, _, _, by omega, by go_num, HS.out⟩
   case measure => simp [intOf]; omega
  ·obtain rfl : k = 12 := by omega
   go_wp2
   go_ret
   refine ⟨K, ⟨w.heap.size + 1, w.heap.size, cb, tb, mp⟩, rfl, ⟨hN.head, hN.mem, hN.caps, hN.tbl, hN.inj, KInv.zero _, HN.out.1, HN.out.2, fun e he p x hx => by cases hx⟩, hN.old, hN.Kw, ?_⟩
   have h1 := hN.Kw
   rintro b (e | e | ⟨i, hi, e⟩)
   ·rw [e]; exact Nat.le_refl _
   ·rw [e]; exact hN.cbw
   ·have := hN.far i hi
    rw [e]
    show w.heap.size ≤ mp i
    omega
end Ex
end Go.Proofs.YtbhpafgoofkkmaaGreatDoor
