import Derived.Test.YtbhpafgoofkkmaaGreatDoorCapAll
import Derived.Test.YtbhpafgoofkkmaaGreatDoorDiskAB
import Derived.Laws.Cells
import Derived.OwnWalk
import Derived.Deep.RegionHeld3
import Derived.Deep.AppendLies
import Derived.Deep.QuietTactic
import Derived.BigQuiet
set_option linter.all false
namespace Go.Proofs.YtbhpafgoofkkmaaGreatDoor
open Go.RowKit Ca
namespace Xd
def OkX (n : Nat) (x : Cp) : Prop := x.kind = 2 ∧ 0 ≤ x.id ∧ 1 ≤ x.len ∧ x.id + x.len ≤ n ∧ 1 ≤ x.rights ∧ x.rights ≤ 7
def XInv (T : Tab) (n : Nat) : Prop := ∀ j, j < 768 → (T j).x = Cp.no ∨ OkX n (T j).x
theorem no_is : Cp.no.is = false := rfl
theorem OkX.is {n : Nat} {x : Cp} (h : OkX n x) : x.is = true := by
 obtain ⟨h1, _⟩ := h
 simp [Cp.is, h1]
theorem XInv.zero (n : Nat) : XInv (fun _ => Hd.no) n := fun _ _ => Or.inl rfl
theorem XInv.ok {T : Tab} {n : Nat} (h : XInv T n) {j : Nat} (hj : j < 768) (hi : (T j).x.is = true) : OkX n (T j).x := by
 rcases h j hj with e | e
 ·rw [e, no_is] at hi; cases hi
 ·exact e
theorem XInv.sanes {T : Tab} {n : Nat} (h : XInv T n) (hn : n ≤ 1024) : Sanes T := by
 intro j hj
 rcases h j hj with e | ⟨h1, h2, h3, h4, h5, h6⟩
 ·rw [e]; exact Sane.no
 ·constructor <;> omega
theorem XInv.get {T : Tab} {n : Nat} (h : XInv T n) {e s : Int} (hi : (getT T e s).is = true) : OkX n (getT T e s) := by
 obtain ⟨i, hi', _, hx, _⟩ := get_slot hi
 rw [hx] at hi ⊢
 exact h.ok hi' hi
theorem XInv.put {T : Tab} {n : Nat} (h : XInv T n) (m : Nat) (H : Hd) (hH : OkX n H.x) : XInv (putT T m H) n := by
 intro j hj
 unfold putT
 split
 ·by_cases e : j = m * 64 + freeT T m
  ·subst e; rw [Tab.set_same]; exact Or.inr hH
  ·rw [Tab.set_other _ _ _ _ e]; exact h j hj
 ·exact h j hj
theorem XInv.add {T : Tab} {n : Nat} (h : XInv T n) (e f k : Int) (h0 : 0 ≤ f) (h1 : 1 ≤ k) (h2 : f + k ≤ n) : XInv (addT T e ⟨2, f, k, 7⟩) n := by
 unfold addT
 split
 ·exact h.put _ _ ⟨rfl, h0, h1, h2, (by decide : (1 : Int) ≤ 7), (by decide : (7 : Int) ≤ 7)⟩
 ·exact h
theorem XInv.give {T : Tab} {n : Nat} (h : XInv T n) (e s q r : Int) : XInv (giveT T e s q r) n := by
 unfold giveT
 split
 ·rename_i hg
  split
  ·simp only [giveOK, Bool.and_eq_true] at hg
   obtain ⟨h1, h2, h3, h4, h5, h6⟩ := h.get hg.1
   have hr := hg.2
   simp only [mayG, areR, Bool.and_eq_true, decide_eq_true_eq] at hr
   exact h.put _ _ ⟨h1, h2, h3, h4, hr.1.2.1, hr.1.2.2⟩
  ·exact h
 ·exact h
theorem XInv.drop {T : Tab} {n : Nat} (h : XInv T n) (e s : Int) : XInv (dropT T e s) n := by
 intro j hj
 unfold dropT
 split
 ·by_cases he : j = dropJ e s
  ·subst he; rw [Tab.set_same]; exact Or.inl rfl
  ·rw [Tab.set_other _ _ _ _ he, hoTo_x]; exact h j hj
 ·exact h j hj
theorem XInv.gone {T : Tab} {n : Nat} (h : XInv T n) (e : Int) : ∀ k, XInv (goneT T e k) n
 | 0 => h
 | k + 1 => (h.gone e k).drop _ _
theorem revS_or (T : Tab) (p : Int × Int) (j : Nat) : ∀ i, (revS T p i).1 j = T j ∨ (revS T p i).1 j = Hd.no
 | 0 => Or.inl rfl
 | i + 1 => by
  have ih := revS_or T p j i
  unfold revS
  split
  ·exact ih
  ·dsimp only [clTo]
   split
   ·exact Or.inr rfl
   ·exact ih
theorem XInv.revS {T : Tab} {n : Nat} (h : XInv T n) (p : Int × Int) (i : Nat) : XInv (revS T p i).1 n := by
 intro j hj
 rcases revS_or T p j i with e | e
 ·rw [e]; exact h j hj
 ·rw [e]; exact Or.inl rfl
def revT (T : Tab) (e s : Int) : Tab := if (getT T e s).is = true then (Ca.revS T (e, s) 769).1 else T
def revR (T : Tab) (e s : Int) : Int := if (getT T e s).is = true then 0 else 104
theorem revT_is {T : Tab} {e s : Int} (hi : (getT T e s).is = true) {N : Nat} (hN : (Ca.revS T (e, s) (N + 1)).2.length = N + 1) : revT T e s = (Ca.revS T (e, s) (N + 1)).1 := by
 obtain ⟨i, _, hp, _⟩ := get_slot hi
 have hs : s ≠ 0 := by have := plOf_pos i; rw [hp] at this; exact this
 have hl := revS_len T (e, s) hs (N + 1)
 have := revS_stay (T := T) (p := (e, s)) (i := N + 1) (by omega) (769 - (N + 1))
 rw [show N + 1 + (769 - (N + 1)) = 769 from by omega] at this
 unfold revT
 rw [if_pos hi, this]
theorem XInv.rev {T : Tab} {n : Nat} (h : XInv T n) (e s : Int) : XInv (revT T e s) n := by
 unfold revT
 split
 ·exact h.revS _ _
 ·exact h
def hasR (T : Tab) (e s r : Int) : Bool := (getT T e s).is && (bits .and .i64 (getT T e s).rights r != 0)
def extC (T : Tab) (e s r : Int) : Cp := if hasR T e s r = true then getT T e s else Cp.no
def mayX (T : Tab) (e s b r : Int) : Bool := hasR T e s r && (decide ((getT T e s).id ≤ b) && decide (b - (getT T e s).id < (getT T e s).len))
theorem mayX_in {T : Tab} {n : Nat} (h : XInv T n) {e s b r : Int} (hm : mayX T e s b r = true) : 0 ≤ b ∧ b < n := by
 simp only [mayX, hasR, Bool.and_eq_true, decide_eq_true_eq] at hm
 obtain ⟨⟨h1, _⟩, h2, h3⟩ := hm
 obtain ⟨_, q1, q2, q3, _⟩ := h.get h1
 omega
def anyX (T : Tab) (f : Int) : Nat → Bool
 | 0 => false
 | k + 1 => anyX T f k || !(holdTo T 2 (f + k) 12).isEmpty
def areX (n : Nat) (f k : Int) : Bool := decide (1 ≤ k) && (decide (0 ≤ f) && decide (f ≤ n - k))
def xallocA (T : Tab) (n : Nat) (e f k : Int) : Int := if (isE e && areX n f k) = true then (if anyX T f k.toNat = true then 0 else addA T e ⟨2, f, k, 7⟩) else 0
def xallocR (T : Tab) (n : Nat) (e f k : Int) : Int := if (isE e && areX n f k) = true then (if anyX T f k.toNat = true then 104 else addR T e ⟨2, f, k, 7⟩) else 101
def xallocT (T : Tab) (n : Nat) (e f k : Int) : Tab := if (isE e && areX n f k) = true then (if anyX T f k.toNat = true then T else addT T e ⟨2, f, k, 7⟩) else T
theorem XInv.alloc {T : Tab} {n : Nat} (h : XInv T n) (e f k : Int) : XInv (xallocT T n e f k) n := by
 unfold xallocT
 split
 ·rename_i hc
  simp only [areX, Bool.and_eq_true, decide_eq_true_eq] at hc
  split
  ·exact h
  ·exact h.add _ _ _ (by omega) (by omega) (by omega)
 ·exact h
abbrev Lp := Option (List Int) × Bool
abbrev Lines := Nat → Lp
def Lines.set (l : Lines) (j : Nat) (p : Lp) : Lines := fun i => if i = j then p else l i
theorem Lines.set_same (l : Lines) (j : Nat) (p : Lp) : l.set j p j = p := by simp [Lines.set]
theorem Lines.set_other (l : Lines) (j i : Nat) (p : Lp) (h : i ≠ j) : l.set j p i = l i := by simp [Lines.set, h]
def lookW (l : Lines) (vs : List Int) (b : Nat) : List Int := (l b).1.getD (frameOf vs b)
def getL (l : Lines) (vs : List Int) (b : Nat) : Lines := l.set b (some (lookW l vs b), (l b).2)
def putL (l : Lines) (b : Nat) (ws : List Int) : Lines := l.set b (some ws, true)
structure LInv (n : Nat) (l : Lines) : Prop where
 ch : ∀ i, i < n → (l i).2 = true → (l i).1.isSome = true
 len : ∀ i, i < n → ∀ ws, (l i).1 = some ws → ws.length = 32
theorem LInv.set {n : Nat} {l : Lines} (h : LInv n l) (j : Nat) (ws : List Int) (b : Bool) (hw : ws.length = 32) : LInv n (l.set j (some ws, b)) := by
 refine ⟨fun i hi hc => ?_, fun i hi ws' hw' => ?_⟩
 ·by_cases e : i = j
  ·subst e; rw [Lines.set_same]; rfl
  ·rw [Lines.set_other _ _ _ _ e] at hc ⊢; exact h.ch i hi hc
 ·by_cases e : i = j
  ·subst e; rw [Lines.set_same] at hw'; cases hw'; exact hw
  ·rw [Lines.set_other _ _ _ _ e] at hw'; exact h.len i hi ws' hw'
theorem lookW_len {n : Nat} {l : Lines} {vs : List Int} (h : LInv n l) (hv : vs.length = n * 32) {b : Nat} (hb : b < n) : (lookW l vs b).length = 32 := by
 unfold lookW
 cases hl : (l b).1 with
 | none => exact frameOf_length vs b n hv hb
 | some ws => exact h.len b hb ws hl
end Xd
end Go.Proofs.YtbhpafgoofkkmaaGreatDoor
namespace Go.Proofs.YtbhpafgoofkkmaaGreatDoor
open Go.RowKit Ca
namespace Xd
abbrev ptr (b : Nat) : Value := .pointer (some ⟨b, 0, none⟩)
abbrev sto (b : Nat) : Value := .iface 254 (ptr b)
theorem apart {w : World} {a b : Nat} {r r' : Array Value} {t t' : TypeId} {q q' : Nat × Nat} (h : w.heap[a]? = some (.cells r t q)) (h' : w.heap[b]? = some (.cells r' t' q')) (hn : t ≠ t') : a ≠ b := by
 intro e
 subst e
 rw [h] at h'
 injection h' with h1
 injection h1 with _ h2
 exact hn h2
theorem _root_.Go.Proofs.YtbhpafgoofkkmaaGreatDoor.URow.keepM {M : Nat} {P : Nat → Prop} {w w' : World} {v : Value} {xs : List Int} (h : URow M w v xs) (hu : UpdP P w w') (hp : ∀ k, P k → M ≤ k → ∀ cur fr, w.heap[k]? ≠ some (.cells cur 42 fr)) : URow M w' v xs := by
 obtain ⟨a, cap, e, h1, h2, hf⟩ := h
 refine ⟨a, cap, e, h1, h2, fun hne => ?_⟩
 obtain ⟨g, cur, ea, hm, hh, hc⟩ := hf hne
 exact ⟨g, cur, ea, hm, (hu.block g (lt_of_heap hh) (fun hP => hp g hP hm _ _ hh)).trans hh, hc⟩
theorem _root_.Go.Proofs.YtbhpafgoofkkmaaGreatDoor.URow.keepT {M : Nat} {P : Nat → Prop} {w w' : World} {v : Value} {xs : List Int} (h : URow M w v xs) (hu : UpdP P w w') (hp : ∀ k, P k → ∀ cur fr, w.heap[k]? ≠ some (.cells cur 42 fr)) : URow M w' v xs := by
 obtain ⟨a, cap, e, h1, h2, hf⟩ := h
 refine ⟨a, cap, e, h1, h2, fun hne => ?_⟩
 obtain ⟨g, cur, ea, hm, hh, hc⟩ := hf hne
 exact ⟨g, cur, ea, hm, (hu.block g (lt_of_heap hh) (fun hP => hp g hP _ _ hh)).trans hh, hc⟩
def LnV (M : Nat) (w : World) (v : Value) (o : Option (List Int)) : Prop := (o = none → v = .slice none 0 0) ∧ ∀ ws, o = some ws → URow M w v ws
def LinesAt (M : Nat) (w : World) (q n : Nat) (l : Lines) : Prop :=
 ∃ row : Array Value, w.heap[q]? = some (.cells row 242) ∧ row.size = n * 2 ∧ ∀ i, i < n → ∃ v, row[i * 2]? = some v ∧ row[i * 2 + 1]? = some (.bool (l i).2) ∧ LnV M w v (l i).1
theorem LinesAt.lt {M : Nat} {w : World} {q n : Nat} {l : Lines} (h : LinesAt M w q n l) : q < w.heap.size := by
 obtain ⟨row, hr, _⟩ := h
 exact lt_of_heap hr
theorem LnV.keepM {M : Nat} {P : Nat → Prop} {w w' : World} {v : Value} {o : Option (List Int)} (h : LnV M w v o) (hu : UpdP P w w') (hp : ∀ k, P k → M ≤ k → ∀ cur fr, w.heap[k]? ≠ some (.cells cur 42 fr)) : LnV M w' v o :=
 ⟨h.1, fun ws e => (h.2 ws e).keepM hu hp⟩
theorem LnV.keepT {M : Nat} {P : Nat → Prop} {w w' : World} {v : Value} {o : Option (List Int)} (h : LnV M w v o) (hu : UpdP P w w') (hp : ∀ k, P k → ∀ cur fr, w.heap[k]? ≠ some (.cells cur 42 fr)) : LnV M w' v o :=
 ⟨h.1, fun ws e => (h.2 ws e).keepT hu hp⟩
theorem LinesAt.keepM {M : Nat} {P : Nat → Prop} {w w' : World} {q n : Nat} {l : Lines} (h : LinesAt M w q n l) (hq : w'.heap[q]? = w.heap[q]?) (hu : UpdP P w w') (hp : ∀ k, P k → M ≤ k → ∀ cur fr, w.heap[k]? ≠ some (.cells cur 42 fr)) : LinesAt M w' q n l := by
 obtain ⟨row, hr, hs, hc⟩ := h
 exact ⟨row, hq.trans hr, hs, fun i hi => by obtain ⟨v, h1, h2, h3⟩ := hc i hi; exact ⟨v, h1, h2, h3.keepM hu hp⟩⟩
theorem LinesAt.keep {M : Nat} {P : Nat → Prop} {w w' : World} {q n : Nat} {l : Lines} (h : LinesAt M w q n l) (hq : w'.heap[q]? = w.heap[q]?) (hu : UpdP P w w') (hp : ∀ k, P k → ∀ cur fr, w.heap[k]? ≠ some (.cells cur 42 fr)) : LinesAt M w' q n l := by
 obtain ⟨row, hr, hs, hc⟩ := h
 exact ⟨row, hq.trans hr, hs, fun i hi => by obtain ⟨v, h1, h2, h3⟩ := hc i hi; exact ⟨v, h1, h2, h3.keepT hu hp⟩⟩
theorem lines_core {M : Nat} {w w' : World} {q n : Nat} {l : Lines} {row row' : Array Value} {b : Nat} {p : Lp} (hr : w.heap[q]? = some (.cells row 242)) (hs : row.size = n * 2)
  (hc : ∀ i, i < n → ∃ v, row[i * 2]? = some v ∧ row[i * 2 + 1]? = some (.bool (l i).2) ∧ LnV M w v (l i).1) (hu : Upd q w w') (hr' : w'.heap[q]? = some (.cells row' 242)) (hs' : row'.size = row.size)
  (ho : ∀ j, j ≠ b * 2 → j ≠ b * 2 + 1 → row'[j]? = row[j]?) (hv : ∃ v, row'[b * 2]? = some v ∧ row'[b * 2 + 1]? = some (.bool p.2) ∧ LnV M w v p.1) : LinesAt M w' q n (l.set b p) := by
 have hnp : ∀ k, k = q → ∀ cur fr, w.heap[k]? ≠ some (.cells cur 42 fr) := by
  intro k e cur fr hk
  exact apart hk hr (by decide) e
 have hup : UpdP (fun k => k = q) w w' := hu.p _ rfl
 refine ⟨row', hr', by rw [hs', hs], fun i hi => ?_⟩
 by_cases e : i = b
 ·subst e
  obtain ⟨v, h1, h2, h3⟩ := hv
  rw [Lines.set_same]
  exact ⟨v, h1, h2, h3.keepT hup hnp⟩
 ·obtain ⟨u, g1, g2, g3⟩ := hc i hi
  rw [Lines.set_other _ _ _ _ e]
  exact ⟨u, by rw [ho _ (by omega) (by omega)]; exact g1, by rw [ho _ (by omega) (by omega)]; exact g2, g3.keepT hup hnp⟩
section
variable {M : Nat} {w : World} {q n b : Nat} {l : Lines}
theorem LinesAt.set (h : LinesAt M w q n l) (hb : b < n) (v : Value) (p : Lp) (hv : LnV M w v p.1) : LinesAt M ((w.setCell ⟨q, b * 2, none⟩ v).setCell ⟨q, b * 2 + 1, none⟩ (.bool p.2)) q n (l.set b p) := by
 obtain ⟨row, hr, hs, hc⟩ := h
 have h1 : (w.setCell ⟨q, b * 2, none⟩ v).heap[q]? = some (.cells (row.setIfInBounds (b * 2) v) 242) := by
  rw [setCell_eq_setRow w q _ _ _ _ _ hr, setRow_heap w q _ _ _ _ hr]
 refine lines_core hr hs hc ((Upd.setCell _ _ _ _).trans (Upd.setCell _ _ _ _)) (row' := (row.setIfInBounds (b * 2) v).setIfInBounds (b * 2 + 1) (.bool p.2)) (by rw [setCell_eq_setRow _ q _ _ _ _ _ h1, setRow_heap _ q _ _ _ _ h1]) (by simp) (fun j h1 h2 => ?_) ⟨v, ?_, ?_, hv⟩
 ·rw [Array.getElem?_setIfInBounds, if_neg (by omega), Array.getElem?_setIfInBounds, if_neg (by omega)]
 ·rw [Array.getElem?_setIfInBounds, if_neg (by omega), Array.getElem?_setIfInBounds, if_pos rfl, if_pos (by omega)]
 ·rw [Array.getElem?_setIfInBounds, if_pos rfl, if_pos (by simp; omega)]
theorem LinesAt.setW (h : LinesAt M w q n l) (hb : b < n) (v : Value) (o : Option (List Int)) (hv : LnV M w v o) : LinesAt M (w.setCell ⟨q, b * 2, none⟩ v) q n (l.set b (o, (l b).2)) := by
 obtain ⟨row, hr, hs, hc⟩ := h
 obtain ⟨u, g1, g2, g3⟩ := hc b hb
 refine lines_core hr hs hc (Upd.setCell _ _ _ _) (row' := row.setIfInBounds (b * 2) v) (by rw [setCell_eq_setRow w q _ _ _ _ _ hr, setRow_heap w q _ _ _ _ hr]) (by simp) (fun j h1 h2 => ?_) ⟨v, ?_, ?_, hv⟩
 ·rw [Array.getElem?_setIfInBounds, if_neg (by omega)]
 ·rw [Array.getElem?_setIfInBounds, if_pos rfl, if_pos (by omega)]
 ·rw [Array.getElem?_setIfInBounds, if_neg (by omega)]; exact g2
theorem LinesAt.free (h : LinesAt M w q n l) (i : Nat) : w.frozen? ⟨q, i, none⟩ = false := by
 obtain ⟨row, hr, _⟩ := h
 exact frozen_of_heap hr
theorem LinesAt.cell (h : LinesAt M w q n l) (hb : b < n) : ∃ v, w.cell? ⟨q, b * 2, none⟩ = some v ∧ w.cell? ⟨q, b * 2 + 1, none⟩ = some (.bool (l b).2) ∧ LnV M w v (l b).1 := by
 obtain ⟨row, hr, hs, hc⟩ := h
 obtain ⟨u, g1, g2, g3⟩ := hc b hb
 exact ⟨u, by rw [cell_of_heap hr]; exact g1, by rw [cell_of_heap hr]; exact g2, g3⟩
end
structure Yd where
 b : Nat
 g : Nat
 q : Nat
 cb : Nat
 M : Nat
def XFoot (Y : Yd) (k : Nat) : Prop := k = Y.q ∨ k = Y.b ∨ k = Y.g ∨ k = Y.cb
structure KAt (w : World) (K : Nat) (Y : Yd) (n m : Nat) (vs : List Int) (l : Lines) (T : Tab) : Prop where
 head : w.heap[K]? = some (.cells #[sto Y.b, sto Y.b, .slice (some ⟨Y.q, 0, none⟩) n n, ptr Y.cb] 196)
 disk : ∃ gt pt, Di.DiskAt w Y.b Y.g n vs gt pt ∧ gt ≤ m ∧ pt ≤ m
 lines : LinesAt Y.M w Y.q n l
 caps : CapsAt w Y.cb T
 inv : XInv T n
 linv : LInv n l
 n1 : 1 ≤ n
 n2 : n ≤ 1024
 ML : Y.M ≤ w.heap.size
section
variable {w w' : World} {K : Nat} {Y : Yd} {n m : Nat} {vs : List Int} {l : Lines} {T : Tab}
theorem KAt.k1 (h : KAt w K Y n m vs l T) : w.cell? ⟨K, 1, none⟩ = some (sto Y.b) := by rw [cell_of_heap h.head]; rfl
theorem KAt.k2 (h : KAt w K Y n m vs l T) : w.cell? ⟨K, 2, none⟩ = some (.slice (some ⟨Y.q, 0, none⟩) n n) := by rw [cell_of_heap h.head]; rfl
theorem KAt.k3 (h : KAt w K Y n m vs l T) : w.cell? ⟨K, 3, none⟩ = some (ptr Y.cb) := by rw [cell_of_heap h.head]; rfl
theorem KAt.lt (h : KAt w K Y n m vs l T) : K < w.heap.size := lt_of_heap h.head
theorem KAt.len (h : KAt w K Y n m vs l T) : vs.length = n * 32 := by
 obtain ⟨gt, pt, hd, _⟩ := h.disk
 exact hd.len
theorem KAt.sanes (h : KAt w K Y n m vs l T) : Sanes T := h.inv.sanes h.n2
theorem KAt.noW (h : KAt w K Y n m vs l T) : ∀ k, XFoot Y k → ∀ cur fr, w.heap[k]? ≠ some (.cells cur 42 fr) := by
 obtain ⟨gt, pt, hd, _⟩ := h.disk
 obtain ⟨row, hr, _⟩ := h.lines
 obtain ⟨row2, hr2, _⟩ := h.caps.head
 rintro k (e | e | e | e) cur fr hk
 ·exact apart hk hr (by decide) e
 ·exact apart hk hd.head (by decide) e
 ·exact apart hk hd.row (by decide) e
 ·exact apart hk hr2 (by decide) e
theorem KAt.keepP {P : Nat → Prop} (h : KAt w K Y n m vs l T) (hu : UpdP P w w') (hK : ¬ P K) (hF : ∀ k, XFoot Y k → ¬ P k) (hW : ∀ k, P k → ∀ cur fr, w.heap[k]? ≠ some (.cells cur 42 fr)) : KAt w' K Y n m vs l T := by
 obtain ⟨gt, pt, hd, h1, h2⟩ := h.disk
 exact ⟨(hu.block _ h.lt hK).trans h.head, ⟨gt, pt, hd.keep (hu.block _ (lt_of_heap hd.head) (hF _ (Or.inr (Or.inl rfl)))) (hu.block _ (lt_of_heap hd.row) (hF _ (Or.inr (Or.inr (Or.inl rfl))))), h1, h2⟩,
   h.lines.keep (hu.block _ h.lines.lt (hF _ (Or.inl rfl))) hu hW, h.caps.keep (hu.block _ h.caps.lt (hF _ (Or.inr (Or.inr (Or.inr rfl))))), h.inv, h.linv, h.n1, h.n2, Nat.le_trans h.ML hu.size⟩
theorem KAt.keepM {P : Nat → Prop} (h : KAt w K Y n m vs l T) (hu : UpdP P w w') (hK : ¬ P K) (hF : ∀ k, XFoot Y k → ¬ P k) (hW : ∀ k, P k → Y.M ≤ k → ∀ cur fr, w.heap[k]? ≠ some (.cells cur 42 fr)) : KAt w' K Y n m vs l T := by
 obtain ⟨gt, pt, hd, h1, h2⟩ := h.disk
 exact ⟨(hu.block _ h.lt hK).trans h.head, ⟨gt, pt, hd.keep (hu.block _ (lt_of_heap hd.head) (hF _ (Or.inr (Or.inl rfl)))) (hu.block _ (lt_of_heap hd.row) (hF _ (Or.inr (Or.inr (Or.inl rfl))))), h1, h2⟩,
   h.lines.keepM (hu.block _ h.lines.lt (hF _ (Or.inl rfl))) hu hW, h.caps.keep (hu.block _ h.caps.lt (hF _ (Or.inr (Or.inr (Or.inr rfl))))), h.inv, h.linv, h.n1, h.n2, Nat.le_trans h.ML hu.size⟩
theorem KAt.below (h : KAt w K Y n m vs l T) (hb : Below w.heap.size w w') : KAt w' K Y n m vs l T :=
 h.keepP (UpdP.of_below (P := fun _ => False) hb) (fun e => e) (fun _ _ e => e) (fun _ e => e.elim)
theorem KAt.mono {m' : Nat} (h : KAt w K Y n m vs l T) (hm : m ≤ m') : KAt w K Y n m' vs l T := by
 obtain ⟨gt, pt, hd, h1, h2⟩ := h.disk
 exact ⟨h.head, ⟨gt, pt, hd, by omega, by omega⟩, h.lines, h.caps, h.inv, h.linv, h.n1, h.n2, h.ML⟩
theorem KAt.updC {T' : Tab} (h : KAt w K Y n m vs l T) (hc : CapsAt w' Y.cb T') (hi : XInv T' n) (hu : Upd Y.cb w w') : KAt w' K Y n m vs l T' := by
 obtain ⟨gt, pt, hd, h1, h2⟩ := h.disk
 obtain ⟨row, hr, _⟩ := h.lines
 obtain ⟨row2, hr2, _⟩ := h.caps.head
 exact ⟨(hu.block _ h.lt (apart h.head hr2 (by decide))).trans h.head, ⟨gt, pt, hd.keep (hu.block _ (lt_of_heap hd.head) (apart hd.head hr2 (by decide))) (hu.block _ (lt_of_heap hd.row) (apart hd.row hr2 (by decide))), h1, h2⟩,
   h.lines.keep (hu.block _ h.lines.lt (apart hr hr2 (by decide))) (hu.p (fun k => k = Y.cb) rfl) (fun k e => h.noW k (Or.inr (Or.inr (Or.inr e)))), hc, hi, h.linv, h.n1, h.n2, Nat.le_trans h.ML hu.size⟩
theorem KAt.updD {m' gt pt : Nat} {vs' : List Int} (h : KAt w K Y n m vs l T) (hd' : Di.DiskAt w' Y.b Y.g n vs' gt pt) (h1 : gt ≤ m') (h2 : pt ≤ m') (hu : UpdP (fun k => k = Y.b ∨ k = Y.g) w w') : KAt w' K Y n m' vs' l T := by
 obtain ⟨_, _, hd, _, _⟩ := h.disk
 obtain ⟨row, hr, _⟩ := h.lines
 obtain ⟨row2, hr2, _⟩ := h.caps.head
 refine ⟨(hu.block _ h.lt ?_).trans h.head, ⟨gt, pt, hd', h1, h2⟩, h.lines.keep (hu.block _ h.lines.lt ?_) hu (fun k e => h.noW k (by rcases e with e | e; exact Or.inr (Or.inl e); exact Or.inr (Or.inr (Or.inl e)))), h.caps.keep (hu.block _ h.caps.lt ?_), h.inv, h.linv, h.n1, h.n2, Nat.le_trans h.ML hu.size⟩
 ·rintro (e | e)
  ·exact apart h.head hd.head (by decide) e
  ·exact apart h.head hd.row (by decide) e
 ·rintro (e | e)
  ·exact apart hr hd.head (by decide) e
  ·exact apart hr hd.row (by decide) e
 ·rintro (e | e)
  ·exact apart hr2 hd.head (by decide) e
  ·exact apart hr2 hd.row (by decide) e
theorem KAt.updL {l' : Lines} (h : KAt w K Y n m vs l T) (hl : LinesAt Y.M w' Y.q n l') (hi : LInv n l') (hu : Upd Y.q w w') : KAt w' K Y n m vs l' T := by
 obtain ⟨gt, pt, hd, h1, h2⟩ := h.disk
 obtain ⟨row, hr, _⟩ := h.lines
 obtain ⟨row2, hr2, _⟩ := h.caps.head
 exact ⟨(hu.block _ h.lt (apart h.head hr (by decide))).trans h.head, ⟨gt, pt, hd.keep (hu.block _ (lt_of_heap hd.head) (apart hd.head hr (by decide))) (hu.block _ (lt_of_heap hd.row) (apart hd.row hr (by decide))), h1, h2⟩,
   hl, h.caps.keep (hu.block _ h.caps.lt (apart hr2 hr (by decide))), h.inv, hi, h.n1, h.n2, Nat.le_trans h.ML hu.size⟩
end
theorem xisEnv_at (n : Int) (w : World) :
  Calls Tryz.prog 141 #[.int .i64 n] w fun e w' => e = .returned (.bool (isE n)) ∧ w' = w := by
 go_enter Tryz.func141, Tryz.ntmps141
 go_wp2
 all_goals
  go_ret
  refine ⟨?_, rfl⟩
  first | (simp_all [isE]; done) | (simp [isE]; omega)
section
variable {w w' : World} {K : Nat} {Y : Yd} {n m : Nat} {vs : List Int} {l : Lines} {T : Tab}
theorem xare_at (h : KAt w K Y n m vs l T) (f k : Int) (hf : I64 f) (hk : I64 k) :
  Calls Tryz.prog 111 #[ptr K, .int .i64 f, .int .i64 k] w fun x w' => x = .returned (.bool (areX n f k)) ∧ w' = w := by
 have c2 := h.k2
 have hn := h.n2
 obtain ⟨f1, f2⟩ := hf
 obtain ⟨k1, k2⟩ := hk
 clear h
 unfold areX
 by_cases h1 : 1 ≤ k
 ·by_cases h0 : 0 ≤ f
  ·have hw : IntKind.i64.wrap ((n : Int) - k) = (n : Int) - k := by simp [IntKind.wrap, IntKind.bits, IntKind.signed]; omega
   go_enter Tryz.func111, Tryz.ntmps111
   go_wp2
   go_ret
   refine ⟨?_, rfl⟩
   simp [h1, h0]
  ·go_enter Tryz.func111, Tryz.ntmps111
   go_wp2
   go_ret
   refine ⟨?_, rfl⟩
   simp <;> omega
 ·go_enter Tryz.func111, Tryz.ntmps111
  go_wp2
  go_ret
  refine ⟨?_, rfl⟩
  simp <;> omega
end
end Xd
end Go.Proofs.YtbhpafgoofkkmaaGreatDoor
namespace Go.Proofs.YtbhpafgoofkkmaaGreatDoor
open Go.RowKit Ca
namespace Xd
section
variable {w w' : World} {K : Nat} {Y : Yd} {n m : Nat} {vs : List Int} {l : Lines} {T : Tab}
theorem xcap_at (h : KAt w K Y n m vs l T) (e s : Int) :
  Calls Tryz.prog 103 #[ptr K, .int .i64 e, .int .i64 s] w fun x w' => x = .returned (.tuple #[.agg (cpRow (getT T e s)), .bool (getT T e s).is]) ∧ Below w.heap.size w w' := by
 obtain ⟨W, hW⟩ : ∃ W, W = w.alloc (.cells #[.int .i64 0, .int .i64 0, .int .i64 0, .int .i64 0] 97) := ⟨_, rfl⟩
 have hbW : Below w.heap.size w W := by rw [hW]; exact below_alloc _ _
 have hsW : W.heap.size = w.heap.size + 1 := by rw [hW]; simp
 have hbox : W.heap[w.heap.size]? = some (.cells #[.int .i64 0, .int .i64 0, .int .i64 0, .int .i64 0] 97) := by rw [hW]; exact heap_alloc_new _ _
 have hg := Ca.get_at Y.cb T e s W (h.below hbW).caps
 have hc := cell_alloc_old h.k3 (.cells #[.int .i64 0, .int .i64 0, .int .i64 0, .int .i64 0] 97)
 have HB : Hid _ := hbW
 have HS : Hid _ := hsW
 have HO : Hid _ := hbox
 clear h hbW hsW hbox
 generalize getT T e s = x at *
 obtain ⟨k, i, q, p⟩ := x
 generalize Cp.is ⟨k, i, q, p⟩ = B at *
 dsimp only [cpRow] at *
 go_enter Tryz.func103, Tryz.ntmps103
 go_wp2_with fail
 rw [← hW]
 clear hW
 refine hg.mono ?_
 rintro x w1 ⟨rfl, hb1⟩
 have HB1 : Hid _ := hb1
 have hbx : w1.heap[w.heap.size]? = some (.cells #[.int .i64 0, .int .i64 0, .int .i64 0, .int .i64 0] 97) := (hb1.block _ (by rw [HS.out]; omega)).trans HO.out
 have x0 := cell_of_heap (i := 0) hbx
 have x1 := cell_of_heap (i := 1) hbx
 have x2 := cell_of_heap (i := 2) hbx
 have x3 := cell_of_heap (i := 3) hbx
 have xf := fun i => frozen_of_heap (i := i) hbx
 simp only [List.getElem?_toArray, List.getElem?_cons_zero, List.getElem?_cons_succ] at x0 x1 x2 x3
 clear hb1 hbx hg
 go_wp2
 refine bodyPost_ret (by rw [results_cell_tmp rfl]; go_simp) rfl ⟨rfl, ?_⟩
 exact (((((HB.out.trans (HB1.out.mono (by have := HS.out; omega))).setCell (Nat.le_refl _) _).setCell (Nat.le_refl _) _).setCell (Nat.le_refl _) _).setCell (Nat.le_refl _) _)
theorem xext_at (h : KAt w K Y n m vs l T) (e s r : Int) :
  Calls Tryz.prog 180 #[ptr K, .int .i64 e, .int .i64 s, .int .i64 r] w fun x w' => x = .returned (.tuple #[.agg (cpRow (extC T e s r)), .bool (hasR T e s r)]) ∧ Below w.heap.size w w' := by
 obtain ⟨W, hW⟩ : ∃ W, W = w.alloc (.cells #[.int .i64 0, .int .i64 0, .int .i64 0, .int .i64 0] 97) := ⟨_, rfl⟩
 have hbW : Below w.heap.size w W := by rw [hW]; exact below_alloc _ _
 have hsW : W.heap.size = w.heap.size + 1 := by rw [hW]; simp
 have hbox : W.heap[w.heap.size]? = some (.cells #[.int .i64 0, .int .i64 0, .int .i64 0, .int .i64 0] 97) := by rw [hW]; exact heap_alloc_new _ _
 have hg := xcap_at (h.below hbW) e s
 have HX : Hid (hasR T e s r = ((getT T e s).is && (bits .and .i64 (getT T e s).rights r != 0))) := rfl
 have HC : Hid (extC T e s r = if hasR T e s r = true then getT T e s else Cp.no) := rfl
 have HB : Hid _ := hbW
 have HS : Hid _ := hsW
 have HO : Hid _ := hbox
 clear h hbW hsW hbox
 generalize extC T e s r = C at *
 generalize hasR T e s r = R at *
 generalize getT T e s = x at *
 obtain ⟨k, i, q, p⟩ := x
 have hcase : (Cp.is ⟨k, i, q, p⟩ = false ∧ R = false ∧ C = Cp.no) ∨ (Cp.is ⟨k, i, q, p⟩ = true ∧ (bits .and .i64 p r == 0) = true ∧ R = false ∧ C = Cp.no) ∨ (Cp.is ⟨k, i, q, p⟩ = true ∧ (bits .and .i64 p r == 0) = false ∧ R = true ∧ C = ⟨k, i, q, p⟩) := by
  have h1 := HX.out
  have h2 := HC.out
  cases hi : Cp.is ⟨k, i, q, p⟩ with
  | false =>
   rw [hi] at h1
   have h1' : R = false := h1
   rw [h1'] at h2
   exact Or.inl ⟨rfl, h1', h2⟩
  | true =>
   rw [hi] at h1
   cases hb : (bits .and .i64 p r == 0) with
   | true =>
    have h1' : R = false := by rw [h1]; simp [bne, hb]
    rw [h1'] at h2
    exact Or.inr (Or.inl ⟨rfl, rfl, h1', h2⟩)
   | false =>
    have h1' : R = true := by rw [h1]; simp [bne, hb]
    rw [h1'] at h2
    exact Or.inr (Or.inr ⟨rfl, rfl, h1', h2⟩)
 clear HX HC
 rcases hcase with ⟨hi, hR, hCC⟩ | ⟨hi, hbq, hR, hCC⟩ | ⟨hi, hbq, hR, hCC⟩
 all_goals
  rw [hi] at hg
  subst hR
  subst hCC
  clear hi
  dsimp only [cpRow] at *
  go_enter Tryz.func180, Tryz.ntmps180
  go_wp2_with fail
  rw [← hW]
  clear hW
  refine hg.mono ?_
  rintro x w1 ⟨rfl, hb1⟩
  have HB1 : Hid _ := hb1
  have hb2 := (below_alloc w1 (.cells #[.int .i64 k, .int .i64 i, .int .i64 q, .int .i64 p] 97))
  have hbx : (w1.alloc (.cells #[.int .i64 k, .int .i64 i, .int .i64 q, .int .i64 p] 97)).heap[w.heap.size]? = some (.cells #[.int .i64 0, .int .i64 0, .int .i64 0, .int .i64 0] 97) :=
   (hb2.block _ (by have := hb1.size; rw [HS.out] at this; omega)).trans ((hb1.block _ (by rw [HS.out]; omega)).trans HO.out)
  have x0 := cell_of_heap (i := 0) hbx
  have x1 := cell_of_heap (i := 1) hbx
  have x2 := cell_of_heap (i := 2) hbx
  have x3 := cell_of_heap (i := 3) hbx
  have xf := fun i => frozen_of_heap (i := i) hbx
  simp only [List.getElem?_toArray, List.getElem?_cons_zero, List.getElem?_cons_succ] at x0 x1 x2 x3
  clear hb1 hb2 hbx hg
  go_wp2
  refine bodyPost_ret (by rw [results_cell_tmp rfl]; go_simp) rfl ⟨rfl, ?_⟩
  exact ((((((HB.out.trans (HB1.out.mono (by have := HS.out; omega))).alloc (by have := HS.out; have := HB1.out.size; omega) _).setCell (Nat.le_refl _) _).setCell (Nat.le_refl _) _).setCell (Nat.le_refl _) _).setCell (Nat.le_refl _) _)
theorem xmay_at (h : KAt w K Y n m vs l T) (e s b r : Int) (hb : I64 b) :
  Calls Tryz.prog 143 #[ptr K, .int .i64 e, .int .i64 s, .int .i64 b, .int .i64 r] w fun x w' => x = .returned (.bool (mayX T e s b r)) ∧ Below w.heap.size w w' := by
 have hx := xext_at h e s r
 have HO : Hid (hasR T e s r = true → OkX n (extC T e s r)) := fun hr => by
  have : extC T e s r = getT T e s := by unfold extC; rw [if_pos hr]
  rw [this]
  simp only [hasR, Bool.and_eq_true] at hr
  exact h.inv.get hr.1
 have HM : Hid (mayX T e s b r = (hasR T e s r && (decide ((extC T e s r).id ≤ b) && decide (b - (extC T e s r).id < (extC T e s r).len)))) := by
  show _ = _
  unfold mayX extC
  cases hasR T e s r <;> rfl
 have hn := h.n2
 obtain ⟨b1, b2⟩ := hb
 clear h
 generalize mayX T e s b r = M at *
 generalize extC T e s r = C at *
 generalize hasR T e s r = R at *
 obtain ⟨k, i, q, p⟩ := C
 dsimp only [cpRow] at *
 cases R with
 | false =>
  have hM : M = false := HM.out
  subst hM
  clear HM HO
  go_enter Tryz.func143, Tryz.ntmps143
  go_wp2_with fail
  refine hx.mono ?_
  rintro x w1 ⟨rfl, hb1⟩
  go_wp2
  go_ret
  exact ⟨rfl, hb1.alloc hb1.size _⟩
 | true =>
  obtain ⟨_, o1, o2, o3, _⟩ := HO.out rfl
  have hM : M = (decide (i ≤ b) && decide (b - i < q)) := HM.out
  dsimp only at o1 o2 o3
  clear HM HO
  by_cases hib : i ≤ b
  ·have g0 : decide (i ≤ b) = true := decide_eq_true hib
   rw [g0, Bool.true_and] at hM
   have HM2 : Hid _ := hM
   clear hM
   go_enter Tryz.func143, Tryz.ntmps143
   go_wp2_with fail
   refine hx.mono ?_
   rintro x w1 ⟨rfl, hb1⟩
   go_wp2
   go_ret
   exact ⟨by rw [HM2.out]; rfl, hb1.alloc hb1.size _⟩
  ·have g0 : decide (i ≤ b) = false := decide_eq_false hib
   rw [g0, Bool.false_and] at hM
   subst hM
   go_enter Tryz.func143, Tryz.ntmps143
   go_wp2_with fail
   refine hx.mono ?_
   rintro x w1 ⟨rfl, hb1⟩
   go_wp2
   go_ret
   exact ⟨rfl, hb1.alloc hb1.size _⟩
theorem xany_at (h : KAt w K Y n m vs l T) (f k : Nat) (hk : f + k ≤ n) :
  Calls Tryz.prog 142 #[ptr K, .int .i64 f, .int .i64 k] w fun x w' => x = .returned (.bool (anyX T f k)) ∧ Below w.heap.size w w' := by
 have hn := h.n2
 have HH : Hid _ := h
 clear h
 go_enter Tryz.func142, Tryz.ntmps142
 go_wp2
 go_loopw [7] (fun s wr => ∃ (j : Nat), j ≤ k ∧ s = .int .i64 (f + j : Nat) ∧ anyX T f j = false ∧ Below w.heap.size w wr) (fun s _ => f + k - (intOf s).toNat)
 case atStart => exact ⟨0, by omega, rfl, rfl, Below.refl _ _⟩
 case round =>
  obtain ⟨j, hj, rfl, hno, hb⟩ := hrel
  by_cases hjk : j < k
  ·have hK := HH.out.below hb
   have hc := hK.k3
   have hh := holders_at Y.cb T 2 (f + j : Nat) wr hK.caps hK.sanes ⟨by omega, by omega⟩
   have i1 : ((f + j : Nat) : Int) < (f : Int) + (k : Int) := by omega
   have HN : Hid _ := hno
   have HB : Hid _ := hb
   have HE : Hid (anyX T f (j + 1) = (anyX T f j || !(holdTo T 2 (f + j : Nat) 12).isEmpty)) := by
    show _ = _
    rw [show (((f + j : Nat) : Int)) = (f : Int) + (j : Int) from by omega]
    rfl
   clear hno hb hK
   generalize holdTo T 2 (f + j : Nat) 12 = L at *
   go_wp2_with fail
   refine hh.mono ?_
   rintro x w1 ⟨v, rfl, hown, hb1⟩
   have HB1 : Hid (Below w.heap.size w w1) := HB.out.trans (hb1.mono HB.out.size)
   obtain ⟨a, cap, rfl⟩ : ∃ a cap, v = .slice a L.length cap := by
    rcases hown.2 with ⟨e2, e3⟩ | ⟨g, cap, cur, e2, _⟩
    ·exact ⟨none, 0, by rw [e2, e3]⟩
    ·exact ⟨_, _, e2⟩
   clear hh hown hb1
   cases L with
   | nil =>
    go_wp2
    go_roundw
    case rel => exact ⟨j + 1, by omega, by go_num, by rw [HE.out, HN.out]; rfl, HB1.out⟩
    case measure => simp [intOf]; omega
   | cons d L =>
    have i2 : 0 < (d :: L).length := by simp
    have HA : Hid (anyX T f k = true) := by
     show _ = _
     have h1 : anyX T f (j + 1) = true := by rw [HE.out, HN.out]; rfl
     clear HE HN
     have : ∀ d, anyX T f (j + 1 + d) = true := by
      intro d
      induction d with
      | zero => exact h1
      | succ d ih => show (anyX T f (j + 1 + d) || _) = true; rw [ih]; rfl
     have := this (k - (j + 1))
     rwa [show j + 1 + (k - (j + 1)) = k from by omega] at this
    clear HE HN
    generalize (d :: L).length = z at *
    go_wp2
    go_ret
    exact ⟨by rw [HA.out]; rfl, HB1.out⟩
  ·obtain rfl : j = k := by omega
   have i1 : ¬ (((f + j : Nat) : Int) < (f : Int) + (j : Int)) := by omega
   have HN : Hid _ := hno
   clear hno
   go_wp2
   go_ret
   exact ⟨by rw [HN.out]; rfl, hb⟩
theorem areX_nat {f k : Int} (h : areX n f k = true) : ∃ f' k' : Nat, f = f' ∧ k = k' ∧ f' + k' ≤ n ∧ 1 ≤ k' := by
 simp only [areX, Bool.and_eq_true, decide_eq_true_eq] at h
 exact ⟨f.toNat, k.toNat, by omega, by omega, by omega, by omega⟩
theorem xalloc_at (h : KAt w K Y n m vs l T) (e f k : Int) (hf : I64 f) (hk : I64 k) :
  Calls Tryz.prog 75 #[ptr K, .int .i64 e, .int .i64 f, .int .i64 k] w fun x w' => x = .returned (.tuple #[.int .i64 (xallocA T n e f k), .int .i64 (xallocR T n e f k)]) ∧ KAt w' K Y n m vs l (xallocT T n e f k) ∧ UpdP (XFoot Y) w w' := by
 have hE := fun W => xisEnv_at e W
 have hA := xare_at h f k hf hk
 have HH : Hid _ := h
 have HI : Hid (XInv (xallocT T n e f k) n) := h.inv.alloc e f k
 have HQ : Hid (xallocA T n e f k = if (isE e && areX n f k) = true then (if anyX T f k.toNat = true then 0 else addA T e ⟨2, f, k, 7⟩) else 0) := rfl
 have HR : Hid (xallocR T n e f k = if (isE e && areX n f k) = true then (if anyX T f k.toNat = true then 104 else addR T e ⟨2, f, k, 7⟩) else 101) := rfl
 have HT : Hid (xallocT T n e f k = if (isE e && areX n f k) = true then (if anyX T f k.toNat = true then T else addT T e ⟨2, f, k, 7⟩) else T) := rfl
 have hc := h.k3
 clear hf hk
 generalize xallocA T n e f k = A at *
 generalize xallocR T n e f k = R at *
 generalize xallocT T n e f k = T' at *
 cases he : isE e with
 | false =>
  rw [he] at hE
  have hAA : A = 0 := by rw [HQ.out, he]; rfl
  have hRR : R = 101 := by rw [HR.out, he]; rfl
  have hTT : T' = T := by rw [HT.out, he]; rfl
  subst hAA hRR hTT
  clear HQ HR HT he h hc hA
  go_enter Tryz.func75, Tryz.ntmps75
  go_wp2_with (go_at_call 141; refine (hE _).mono ?_; rintro x w1 ⟨rfl, hw1⟩; rw [hw1]; clear hw1 w1)
  go_ret2
  exact ⟨rfl, HH.out, UpdP.refl _ _⟩
 | true =>
  rw [he] at hE HQ HR HT
  cases ha : areX n f k with
  | false =>
   rw [ha] at hA
   have hAA : A = 0 := by rw [HQ.out, ha]; rfl
   have hRR : R = 101 := by rw [HR.out, ha]; rfl
   have hTT : T' = T := by rw [HT.out, ha]; rfl
   subst hAA hRR hTT
   clear HQ HR HT he h hc ha
   go_enter Tryz.func75, Tryz.ntmps75
   go_wp2_with (first | (go_at_call 141; refine (hE _).mono ?_; rintro x w1 ⟨rfl, hw1⟩; rw [hw1]; clear hw1 w1) | (go_at_call 111; refine hA.mono ?_; rintro x w1 ⟨rfl, hw1⟩; rw [hw1]; clear hw1 w1))
   go_ret2
   exact ⟨rfl, HH.out, UpdP.refl _ _⟩
  | true =>
   rw [ha] at hA HQ HR HT
   obtain ⟨f, k, rfl, rfl, hfk, hk1⟩ := areX_nat ha
   have hY := xany_at h f k hfk
   simp only [Int.toNat_natCast] at HQ HR HT
   cases hy : anyX T f k with
   | true =>
    rw [hy] at hY
    have hAA : A = 0 := by rw [HQ.out]; simp [hy]
    have hRR : R = 104 := by rw [HR.out]; simp [hy]
    have hTT : T' = T := by rw [HT.out]; simp [hy]
    subst hAA hRR hTT
    clear HQ HR HT he h hc ha hy
    go_enter Tryz.func75, Tryz.ntmps75
    go_wp2_with (first | (go_at_call 141; refine (hE _).mono ?_; rintro x w1 ⟨rfl, hw1⟩; rw [hw1]; clear hw1 w1) | (go_at_call 111; refine hA.mono ?_; rintro x w1 ⟨rfl, hw1⟩; rw [hw1]; clear hw1 w1) | (go_at_call 142; refine hY.mono ?_; rintro x w1 ⟨rfl, hb1⟩))
    go_ret2
    exact ⟨rfl, HH.out.below hb1, UpdP.of_below hb1⟩
   | false =>
    rw [hy] at hY
    have hAA : A = addA T e ⟨2, f, k, 7⟩ := by rw [HQ.out]; simp [hy]
    have hRR : R = addR T e ⟨2, f, k, 7⟩ := by rw [HR.out]; simp [hy]
    have hTT : T' = addT T e ⟨2, f, k, 7⟩ := by rw [HT.out]; simp [hy]
    clear HQ HR HT he h hc ha hy
    go_enter Tryz.func75, Tryz.ntmps75
    have HA3 : Hid _ := hAA
    have HR3 : Hid _ := hRR
    have HT3 : Hid _ := hTT
    clear hAA hRR hTT
    go_wp2_with (first | (go_at_call 141; refine (hE _).mono ?_; rintro x w1 ⟨rfl, hw1⟩; rw [hw1]; clear hw1 w1) | (go_at_call 111; refine hA.mono ?_; rintro x w1 ⟨rfl, hw1⟩; rw [hw1]; clear hw1 w1) | (go_at_call 142; refine hY.mono ?_; rintro x w1 ⟨rfl, hb1⟩; have hc1 := (HH.out.below hb1).k3) | fail)
    have hadd := Ca.add_at Y.cb T e ⟨2, f, k, 7⟩ w1 (HH.out.below hb1).caps
    rw [← HA3.out, ← HR3.out, ← HT3.out] at hadd
    dsimp only [cpRow] at hadd
    refine hadd.mono ?_
    rintro x w2 ⟨rfl, hC2, hu2⟩
    have HK : Hid _ := (HH.out.below hb1).updC hC2 HI.out hu2
    have HU : Hid (UpdP (XFoot Y) w w2) := (UpdP.of_below hb1).trans (hu2.p _ (Or.inr (Or.inr (Or.inr rfl))))
    clear hC2 hu2 hadd
    go_wp2
    go_ret2
    exact ⟨rfl, HK.out, HU.out⟩
theorem xgrant_at (h : KAt w K Y n m vs l T) (e s q r : Int) :
  Calls Tryz.prog 76 #[ptr K, .int .i64 e, .int .i64 s, .int .i64 q, .int .i64 r] w fun x w' => x = .returned (.tuple #[.int .i64 (giveA T e s q r), .int .i64 (giveR T e s q r)]) ∧ KAt w' K Y n m vs l (giveT T e s q r) ∧ UpdP (XFoot Y) w w' := by
 have hg := give_at Y.cb T e s q r w h.caps
 have hc := h.k3
 have HH : Hid _ := h
 have HI : Hid _ := h.inv.give e s q r
 clear h
 generalize giveA T e s q r = A at *
 generalize giveR T e s q r = R at *
 generalize giveT T e s q r = T' at *
 go_enter Tryz.func76, Tryz.ntmps76
 go_wp2_with fail
 refine hg.mono ?_
 rintro x w1 ⟨rfl, hC1, hu1⟩
 have HK : Hid _ := HH.out.updC hC1 HI.out hu1
 have HU : Hid (UpdP (XFoot Y) w w1) := hu1.p _ (Or.inr (Or.inr (Or.inr rfl)))
 clear hC1 hu1 hg
 go_wp2
 go_ret2
 exact ⟨rfl, HK.out, HU.out⟩
theorem xrevoke_caps (cb : Nat) (h : CapsAt w cb T) (e s : Int) :
  Calls Tryz.prog 128 #[ptr cb, .int .i64 e, .int .i64 s] w fun x w' => ∃ N : Int, x = .returned (.tuple #[.int .i64 N, .int .i64 (revR T e s)]) ∧ CapsAt w' cb (revT T e s) ∧ Upd cb w w' := by
 cases hi : (getT T e s).is with
 | false =>
  refine (Ca.revoke_no cb T e s w h hi).mono ?_
  rintro x w' ⟨hx, hb⟩
  refine ⟨0, by rw [hx]; unfold revR; rw [hi]; rfl, ?_, Upd.of_below hb⟩
  unfold revT
  rw [hi]
  exact h.below hb
 | true =>
  refine (Ca.revoke_yes cb T e s w h hi).mono ?_
  rintro x w' ⟨N, hN, hx, hc, hu⟩
  refine ⟨N, by rw [hx]; unfold revR; rw [if_pos hi], ?_, hu⟩
  rw [revT_is hi hN]
  exact hc
theorem xrevoke_at (h : KAt w K Y n m vs l T) (e s : Int) :
  Calls Tryz.prog 77 #[ptr K, .int .i64 e, .int .i64 s] w fun x w' => x = .returned (.int .i64 (revR T e s)) ∧ KAt w' K Y n m vs l (revT T e s) ∧ UpdP (XFoot Y) w w' := by
 have hg := xrevoke_caps Y.cb h.caps e s
 have hc := h.k3
 have HH : Hid _ := h
 have HI : Hid _ := h.inv.rev e s
 clear h
 generalize revR T e s = R at *
 generalize revT T e s = T' at *
 go_enter Tryz.func77, Tryz.ntmps77
 go_wp2_with fail
 refine hg.mono ?_
 rintro x w1 ⟨N, rfl, hC1, hu1⟩
 have HK : Hid _ := HH.out.updC hC1 HI.out hu1
 have HU : Hid (UpdP (XFoot Y) w w1) := hu1.p _ (Or.inr (Or.inr (Or.inr rfl)))
 clear hC1 hu1 hg
 go_wp2
 go_ret
 exact ⟨rfl, HK.out, HU.out⟩
end
end Xd
end Go.Proofs.YtbhpafgoofkkmaaGreatDoor
namespace Go.Proofs.YtbhpafgoofkkmaaGreatDoor
open Go.RowKit Ca
namespace Xd
section
variable {w w' : World} {K : Nat} {Y : Yd} {n m : Nat} {vs : List Int} {l : Lines} {T : Tab}
theorem slice_nil_no (g cap k : Nat) (W : World) : (binOp BinOp.eql 27 (.slice (some ⟨g, 0, none⟩) k cap) (.slice none 0 0)).run Tryz.prog W = .ok (.bool false) W := by kernel_rfl
theorem slice_nil_yes (W : World) : (binOp BinOp.eql 27 (.slice none 0 0) (.slice none 0 0)).run Tryz.prog W = .ok (.bool true) W := by kernel_rfl
theorem _root_.Go.Proofs.YtbhpafgoofkkmaaGreatDoor.URow.has {M : Nat} {v : Value} {ws : List Int} (h : URow M w v ws) (hl : ws.length = 32) : ∃ g cap, v = .slice (some ⟨g, 0, none⟩) 32 cap ∧ ∀ (j : Nat) (x : Int), ws[j]? = some x → w.cell? ⟨g, 0 + j, none⟩ = some (.int .u64 x) := by
 obtain ⟨a, cap, e, _, _, hf⟩ := h
 obtain ⟨g, cur, rfl, _, hh, hc⟩ := hf (by intro e; rw [e] at hl; simp at hl)
 rw [hl] at e
 exact ⟨g, cap, e, fun j x hx => by rw [cell_of_heap hh, Nat.zero_add]; exact hc j x hx⟩
theorem xclone_at (g cap : Nat) (ws : List Int) (hl : ws.length = 32) (hx : ∀ (j : Nat) (x : Int), ws[j]? = some x → w.cell? ⟨g, 0 + j, none⟩ = some (.int .u64 x)) :
  Calls Tryz.prog 60 #[.slice (some ⟨g, 0, none⟩) 32 cap] w fun e w' => ∃ gg cap', e = .returned (.slice (some ⟨gg, 0, none⟩) 32 cap') ∧ URow w.heap.size w' (.slice (some ⟨gg, 0, none⟩) 32 cap') ws ∧ Below w.heap.size w w' := by
 refine (Di.clone_at g 0 32 cap ws w hl (by omega) (by omega) hx).mono ?_
 rintro e w' ⟨gg, cap', he, hown, hb⟩
 exact ⟨gg, cap', he, urow_of_own (by rw [hl]; exact hown), hb⟩
theorem xcloneO_at (g o cap : Nat) (ws : List Int) (hl : ws.length = 32) (hx : ∀ (j : Nat) (x : Int), ws[j]? = some x → w.cell? ⟨g, o + j, none⟩ = some (.int .u64 x)) :
  Calls Tryz.prog 60 #[.slice (some ⟨g, o, none⟩) 32 cap] w fun e w' => ∃ gg cap', e = .returned (.slice (some ⟨gg, 0, none⟩) 32 cap') ∧ URow w.heap.size w' (.slice (some ⟨gg, 0, none⟩) 32 cap') ws ∧ Below w.heap.size w w' := by
 refine (Di.clone_at g o 32 cap ws w hl (by omega) (by omega) hx).mono ?_
 rintro e w' ⟨gg, cap', he, hown, hb⟩
 exact ⟨gg, cap', he, urow_of_own (by rw [hl]; exact hown), hb⟩
theorem meth_get (b : Nat) (W : World) : (method 396 254 (ptr b) "Get").run Tryz.prog W = .ok (212, ptr b) W := by kernel_rfl
theorem updQ {w1 : World} (h : Upd Y.q w w1) : UpdP (XFoot Y) w w1 := h.p _ (Or.inl rfl)
theorem updB {w1 : World} (h : Upd Y.b w w1) : UpdP (XFoot Y) w w1 := h.p _ (Or.inr (Or.inl rfl))
set_option maxHeartbeats 1000000 in
set_option maxRecDepth 100000 in
theorem xcget_at (h : KAt w K Y n m vs l T) (b : Nat) (hb : b < n) (hm : m ≤ 900000) :
  Calls Tryz.prog 144 #[.pointer (some ⟨K, 1, none⟩), .int .i64 b] w fun x w' => ∃ gg cap, x = .returned (.tuple #[.slice (some ⟨gg, 0, none⟩) 32 cap, .int .i64 0]) ∧ URow w.heap.size w' (.slice (some ⟨gg, 0, none⟩) 32 cap) (lookW l vs b) ∧ KAt w' K Y n (m + 1) vs (getL l vs b) T ∧ UpdP (XFoot Y) w w' := by
 obtain ⟨v, c0, c1, hv⟩ := h.lines.cell hb
 have k1 := h.k1
 have k2 := h.k2
 have ib : (b : Int) < (n : Int) := by omega
 have HH : Hid _ := h
 have HL : Hid _ := lookW_len h.linv h.len hb
 cases hl : (l b).1 with
 | some ws =>
  have hW : lookW l vs b = ws := by unfold lookW; rw [hl]; rfl
  have hG : getL l vs b = l := by
   unfold getL
   rw [hW]
   funext i
   by_cases e : i = b
   ·subst e; rw [Lines.set_same, ← hl]
   ·rw [Lines.set_other _ _ _ _ e]
  rw [hW] at HL
  obtain ⟨g, cap, rfl, hx⟩ := (hv.2 ws hl).has HL.out
  have hcl := xclone_at g cap ws HL.out hx
  have HW : Hid _ := hW
  have HG : Hid _ := hG
  clear hW hG hx hv h hl
  have hnil := slice_nil_no g cap 32
  go_enter Tryz.func144, Tryz.ntmps144
  go_wp2_with fail
  refine hcl.mono ?_
  rintro x w1 ⟨gg, cap', rfl, hr1, hb1⟩
  have HR : Hid _ := hr1
  have HB : Hid _ := hb1
  clear hr1 hb1 hcl
  go_wp2
  go_ret2
  exact ⟨gg, cap', rfl, by rw [HW.out]; exact HR.out, by rw [HG.out]; exact (HH.out.below HB.out).mono (by omega), UpdP.of_below HB.out⟩
 | none =>
  have hvn := hv.1 hl
  subst hvn
  obtain ⟨gt, pt, hd, hgt, hpt⟩ := h.disk
  have hget := Di.get_at Y.b Y.g n vs gt pt b w hd (by omega) (by omega) (by omega)
  have hnil := slice_nil_yes
  have hme := meth_get Y.b
  have HLn : Hid _ := hl
  simp only [Int.toNat_natCast] at hget
  clear hv hd h hl
  go_enter Tryz.func144, Tryz.ntmps144
  go_wp2_with fail
  refine hget.mono ?_
  rintro x w1 ⟨g1, rfl, hr1, hd1, hu1⟩
  have hK1 := HH.out.updD (m' := m + 1) hd1 (by omega) (by omega) (hu1.p _ (Or.inl rfl))
  obtain ⟨v1, d0, d1, hv1⟩ := hK1.lines.cell hb
  have hfz := hK1.lines.free (b * 2)
  have HW : Hid (lookW l vs b = frameOf vs b) := by show _ = _; unfold lookW; rw [HLn.out]; rfl
  rw [HW.out] at HL
  have hLa := hK1.lines.setW hb (.slice (some ⟨g1, 0, none⟩) 32 32) (some (frameOf vs b)) ⟨fun e => (by cases e), fun ws e => by cases e; exact hr1.mono HH.out.ML⟩
  have hK2 := hK1.updL hLa (hK1.linv.set _ _ _ HL.out) (Upd.setCell _ _ _ _)
  have hr2 := hr1.keepT ((Upd.setCell Y.q (b * 2) w1 (.slice (some ⟨g1, 0, none⟩) 32 32)).p (fun k => k = Y.q) rfl) (fun k e => hK1.noW k (Or.inl e))
  have HU2 : Hid (UpdP (XFoot Y) w (w1.setCell ⟨Y.q, b * 2, none⟩ (.slice (some ⟨g1, 0, none⟩) 32 32))) := (updB hu1).trans (updQ (Upd.setCell _ _ _ _))
  have HK2 : Hid _ := hK2
  obtain ⟨g1', cap1, e1, hx⟩ := hr2.has HL.out
  have hcl := xclone_at g1 32 (frameOf vs b) HL.out (by
    simp only [Value.slice.injEq, Option.some.injEq, Addr.mk.injEq] at e1
    obtain ⟨⟨e2, _⟩, _⟩ := e1
    subst e2
    exact hx)
  have HS1 : Hid _ := hu1.size
  clear hr1 hd1 hu1 hK1 hLa hK2 hr2 hx hv1 e1 hget d1
  go_wp2_with fail
  refine hcl.mono ?_
  rintro x w2 ⟨gg, cap', rfl, hr3, hb3⟩
  have HB3 : Hid _ := hb3
  have HR3 : Hid _ := hr3
  clear hr3 hb3 hcl
  go_wp2
  go_ret2
  refine ⟨gg, cap', rfl, ?_, ?_, HU2.out.trans (UpdP.of_below HB3.out)⟩
  ·rw [HW.out]
   exact URow.mono HR3.out (by have := HS1.out; simp [World.setCell]; omega)
  ·have := HK2.out.below HB3.out
   rw [← HW.out] at this
   exact this
set_option maxHeartbeats 1000000 in
set_option maxRecDepth 100000 in
theorem xcput_no (h : KAt w K Y n m vs l T) (b : Int) (a : Option Addr) (k cap : Nat) (hk : k ≠ 32) :
  Calls Tryz.prog 145 #[.pointer (some ⟨K, 1, none⟩), .int .i64 b, .slice a k cap] w fun x w' => x = .returned (.int .i64 101) ∧ w' = w := by
 have h1 : ((k : Int) != 32) = true := by simp; omega
 clear h
 go_enter Tryz.func145, Tryz.ntmps145
 go_wp2
 go_ret
 exact ⟨rfl, rfl⟩
set_option maxHeartbeats 1000000 in
set_option maxRecDepth 100000 in
theorem xcputR_at {v : Value} {ws : List Int} (h : KAt w K Y n m vs l T) (b : Nat) (hb : b < n) (hv : RdV w v ws) (hl : ws.length = 32) :
  Calls Tryz.prog 145 #[.pointer (some ⟨K, 1, none⟩), .int .i64 b, v] w fun x w' => x = .returned (.int .i64 0) ∧ KAt w' K Y n m vs (putL l b ws) T ∧ UpdP (XFoot Y) w w' := by
 have k2 := h.k2
 have ib : (b : Int) < (n : Int) := by omega
 have HH : Hid _ := h
 have HL : Hid _ := hl
 obtain ⟨g, o, cap, hve, hx⟩ := hv.has 31 hl
 have hve' : v = .slice (some ⟨g, o, none⟩) 32 cap := hve
 subst hve'
 clear hve
 have hcl := xcloneO_at (w := w.drew) g o cap ws hl hx
 clear h hv hx hl
 go_enter Tryz.func145, Tryz.ntmps145
 go_wp2_with fail
 refine wp_region_held_drew (S := fun w' => w'.cell? ⟨K, 2, none⟩ = some (.slice (some ⟨Y.q, 0, none⟩) n n)) (by kernel_rfl) k2 (fun hHeld => ?_)
 refine tkz [0, 1, 2, 3, 4, 5] ?_
 iterate 6
  refine tky (v := ?_) rfl (by kernel_rfl) (by kernel_rfl) (by kernel_rfl) (fun _ _ _ h => h) (Or.inl ⟨by kernel_rfl, ?_⟩) (by assumption) ?_
  rotate_left
  ·(intro w hSw; (try dsimp only at hSw); go_simp) <;> with_reducible rfl
  (try simp only [Act.put, lqa, lqb, lqc, lqd, lqe, lqf])
 refine tkw ?_
 refine wpAnyH_ready (rs := [6]) (by kernel_rfl) (by simp) ?_
 refine AllReadyH.cons rfl (fun K hK => ?_) AllReadyH.nil
 go_simp
 refine hcl.mono ?_
 rintro x w1 ⟨gg, cap', rfl, hr1, hb1⟩
 have hB1 : Below w.heap.size w w1 := ⟨hb1.os, hb1.tape, hb1.output, hb1.size, hb1.block⟩
 have hK1 := HH.out.below hB1
 refine hK.out _ _ hK1.k2 (fun hHeld => ?_)
 clear hK K
 (try simp only [Act.put, lqa, lqb, lqc, lqd, lqe, lqf])
 refine tkz [7, 8] ?_
 iterate 2
  refine tky (v := ?_) rfl (by kernel_rfl) (by kernel_rfl) (by kernel_rfl) (fun _ _ _ h => h) (Or.inl ⟨by kernel_rfl, ?_⟩) (by assumption) ?_
  rotate_left
  ·(intro w hSw; (try dsimp only at hSw); go_simp) <;> with_reducible rfl
  (try simp only [Act.put, lqa, lqb, lqc, lqd, lqe, lqf])
 refine tkw ?_
 obtain ⟨v1, d0, d1, hv1⟩ := hK1.lines.cell hb
 have hfz := hK1.lines.free (b * 2)
 have hfz1 := hK1.lines.free (b * 2 + 1)
 have hLa := hK1.lines.set hb (.slice (some ⟨gg, 0, none⟩) 32 cap') (some ws, true) ⟨fun e => (by cases e), fun ws' e => by cases e; exact hr1.mono HH.out.ML⟩
 have hU : Upd Y.q w1 ((w1.setCell ⟨Y.q, b * 2, none⟩ (.slice (some ⟨gg, 0, none⟩) 32 cap')).setCell ⟨Y.q, b * 2 + 1, none⟩ (.bool true)) := (Upd.setCell _ _ _ _).trans (Upd.setCell _ _ _ _)
 have hK2 := hK1.updL hLa (hK1.linv.set _ _ _ HL.out) hU
 have HK2 : Hid (KAt _ K Y n m vs (putL l b ws) T) := hK2
 have HU : Hid (UpdP (XFoot Y) w _) := (UpdP.of_below hB1).trans (updQ hU)
 clear hK1 hLa hU hK2 hr1 hb1 hB1 hv1 hcl
 refine wpAnyH_ready (rs := [9]) (by kernel_rfl) (by simp) ?_
 refine AllReadyH.cons rfl (fun K hK => ?_) AllReadyH.nil
 go_simp
 refine hK.out _ _ HK2.out.k2 (fun hHeld => ?_)
 clear hK K
 (try simp only [Act.put, lqa, lqb, lqc, lqd, lqe, lqf])
 refine wpAnyH_done (by kernel_rfl) ?_ _
 go_wp2
 go_ret
 exact ⟨rfl, HK2.out, HU.out⟩
end
end Xd
end Go.Proofs.YtbhpafgoofkkmaaGreatDoor
namespace Go.Proofs.YtbhpafgoofkkmaaGreatDoor
open Go.RowKit Ca
namespace Xd
def getRr (T : Tab) (e s b : Int) : Int := if mayX T e s b 1 = true then 0 else 104
def getWw (T : Tab) (l : Lines) (vs : List Int) (e s b : Int) : List Int := if mayX T e s b 1 = true then lookW l vs b.toNat else []
def getLl (T : Tab) (l : Lines) (vs : List Int) (e s b : Int) : Lines := if mayX T e s b 1 = true then getL l vs b.toNat else l
def putRr (T : Tab) (e s b : Int) (k : Nat) : Int := if mayX T e s b 2 = true then (if k = 32 then 0 else 101) else 104
def putLl (T : Tab) (l : Lines) (e s b : Int) (ws : List Int) : Lines := if mayX T e s b 2 = true then (if ws.length = 32 then putL l b.toNat ws else l) else l
section
variable {w w' : World} {K : Nat} {Y : Yd} {n m : Nat} {vs : List Int} {l : Lines} {T : Tab}
theorem xget_at (h : KAt w K Y n m vs l T) (e s b : Int) (hb : I64 b) (hm : m ≤ 900000) :
  Calls Tryz.prog 78 #[ptr K, .int .i64 e, .int .i64 s, .int .i64 b] w fun x w' => ∃ v, x = .returned (.tuple #[v, .int .i64 (getRr T e s b)]) ∧ URow w.heap.size w' v (getWw T l vs e s b) ∧ KAt w' K Y n (m + 1) vs (getLl T l vs e s b) T ∧ UpdP (XFoot Y) w w' := by
 have hM := xmay_at h e s b 1 hb
 have HH : Hid _ := h
 cases hq : mayX T e s b 1 with
 | false =>
  rw [hq] at hM
  have HA : Hid (getRr T e s b = 104 ∧ getWw T l vs e s b = [] ∧ getLl T l vs e s b = l) := by
   show _ ∧ _
   simp [getRr, getWw, getLl, hq]
  clear hq h
  generalize getRr T e s b = R at *
  go_enter Tryz.func78, Tryz.ntmps78
  go_wp2_with (go_at_call 143; refine hM.mono ?_; rintro x w1 ⟨rfl, hb1⟩)
  go_ret2
  refine ⟨_, by rw [HA.out.1]; rfl, by rw [HA.out.2.1]; exact URow.nil _ _, by rw [HA.out.2.2]; exact (HH.out.below hb1).mono (by omega), UpdP.of_below hb1⟩
 | true =>
  rw [hq] at hM
  obtain ⟨b0, b1⟩ := mayX_in h.inv hq
  obtain ⟨b, rfl⟩ := nat_of b b0
  have HA : Hid (getRr T e s b = 0 ∧ getWw T l vs e s b = lookW l vs b ∧ getLl T l vs e s b = getL l vs b) := by
   show _ ∧ _
   simp [getRr, getWw, getLl, hq]
  have hbn : b < n := by omega
  clear hq h b0 b1 hb
  generalize getRr T e s b = R at *
  go_enter Tryz.func78, Tryz.ntmps78
  go_wp2_with (first | (go_at_call 143; refine hM.mono ?_; rintro x w1 ⟨rfl, hb1⟩) | fail)
  refine (xcget_at (HH.out.below hb1) b hbn hm).mono ?_
  rintro x w2 ⟨gg, cap, rfl, hr2, hK2, hu2⟩
  have HR : Hid _ := hr2
  have HK : Hid _ := hK2
  have HU : Hid (UpdP (XFoot Y) w w2) := (UpdP.of_below hb1).trans hu2
  have HS : Hid _ := hb1.size
  clear hr2 hK2 hu2
  go_wp2
  go_ret2
  exact ⟨_, by rw [HA.out.1]; rfl, by rw [HA.out.2.1]; exact URow.mono HR.out HS.out, by rw [HA.out.2.2]; exact HK.out, HU.out⟩
theorem xputR_at {v : Value} {ws : List Int} (h : KAt w K Y n m vs l T) (e s b : Int) (hb : I64 b) (hv : RdV w v ws) :
  Calls Tryz.prog 79 #[ptr K, .int .i64 e, .int .i64 s, .int .i64 b, v] w fun x w' => x = .returned (.int .i64 (putRr T e s b ws.length)) ∧ KAt w' K Y n m vs (putLl T l e s b ws) T ∧ UpdP (XFoot Y) w w' := by
 have hM := xmay_at h e s b 2 hb
 have HH : Hid _ := h
 have HV : Hid (RdV w v ws) := hv
 cases hq : mayX T e s b 2 with
 | false =>
  rw [hq] at hM
  have HA : Hid (putRr T e s b ws.length = 104 ∧ putLl T l e s b ws = l) := by
   show _ ∧ _
   simp [putRr, putLl, hq]
  clear hq h hv
  generalize putRr T e s b ws.length = R at *
  go_enter Tryz.func79, Tryz.ntmps79
  go_wp2_with (go_at_call 143; refine hM.mono ?_; rintro x w1 ⟨rfl, hb1⟩)
  go_ret
  exact ⟨by rw [HA.out.1]; rfl, by rw [HA.out.2]; exact HH.out.below hb1, UpdP.of_below hb1⟩
 | true =>
  rw [hq] at hM
  obtain ⟨b0, b1⟩ := mayX_in h.inv hq
  obtain ⟨b, rfl⟩ := nat_of b b0
  have hbn : b < n := by omega
  by_cases hl : ws.length = 32
  ·have HA : Hid (putRr T e s b ws.length = 0 ∧ putLl T l e s b ws = putL l b ws) := by
    show _ ∧ _
    simp [putRr, putLl, hq, hl]
   have HL : Hid _ := hl
   clear hq h b0 b1 hb hl hv
   generalize putRr T e s b ws.length = R at *
   go_enter Tryz.func79, Tryz.ntmps79
   go_wp2_with (first | (go_at_call 143; refine hM.mono ?_; rintro x w1 ⟨rfl, hb1⟩) | fail)
   refine (xcputR_at (HH.out.below hb1) b hbn (RdV.below HV.out hb1) HL.out).mono ?_
   rintro x w2 ⟨rfl, hK2, hu2⟩
   have HK : Hid _ := hK2
   have HU : Hid (UpdP (XFoot Y) w w2) := (UpdP.of_below hb1).trans hu2
   clear hK2 hu2
   go_wp2
   go_ret
   exact ⟨by rw [HA.out.1]; rfl, by rw [HA.out.2]; exact HK.out, HU.out⟩
  ·have HA : Hid (putRr T e s b ws.length = 101 ∧ putLl T l e s b ws = l) := by
    show _ ∧ _
    simp [putRr, putLl, hq, hl]
   obtain ⟨a, cap, rfl, _⟩ := hv
   have HL : Hid _ := hl
   clear hq h b0 b1 hb hl HV
   generalize putRr T e s b ws.length = R at *
   go_enter Tryz.func79, Tryz.ntmps79
   go_wp2_with (first | (go_at_call 143; refine hM.mono ?_; rintro x w1 ⟨rfl, hb1⟩) | fail)
   refine (xcput_no (HH.out.below hb1) b a ws.length cap HL.out).mono ?_
   rintro x w2 ⟨rfl, rfl⟩
   go_wp2
   go_ret
   exact ⟨by rw [HA.out.1]; rfl, by rw [HA.out.2]; exact HH.out.below hb1, UpdP.of_below hb1⟩
theorem sto_nil (b : Nat) (W : World) : (binOp BinOp.eql 191 (sto b) .nilIface).run Tryz.prog W = .ok (.bool false) W := by kernel_rfl
end
end Xd
end Go.Proofs.YtbhpafgoofkkmaaGreatDoor
namespace Go.Proofs.YtbhpafgoofkkmaaGreatDoor
open Go.RowKit Ca
namespace Xd
def wordsW (n : Nat) (l : Lines) (vs : List Int) (b : Int) : List Int := if 0 ≤ b ∧ b < n then lookW l vs b.toNat else []
section
variable {w w' : World} {K : Nat} {Y : Yd} {n m : Nat} {vs : List Int} {l : Lines} {T : Tab}
theorem slice_neq_yes (g cap k : Nat) (W : World) : (binOp BinOp.neq 27 (.slice (some ⟨g, 0, none⟩) k cap) (.slice none 0 0)).run Tryz.prog W = .ok (.bool true) W := by kernel_rfl
theorem slice_neq_no (W : World) : (binOp BinOp.neq 27 (.slice none 0 0) (.slice none 0 0)).run Tryz.prog W = .ok (.bool false) W := by kernel_rfl
set_option maxHeartbeats 1000000 in
set_option maxRecDepth 100000 in
theorem xclook_at (h : KAt w K Y n m vs l T) (b : Nat) (hb : b < n) (hm : m ≤ 900000) :
  Calls Tryz.prog 112 #[.pointer (some ⟨K, 1, none⟩), .int .i64 b] w fun x w' => ∃ gg cap, x = .returned (.slice (some ⟨gg, 0, none⟩) 32 cap) ∧ URow w.heap.size w' (.slice (some ⟨gg, 0, none⟩) 32 cap) (lookW l vs b) ∧ KAt w' K Y n (m + 1) vs l T ∧ Upd Y.b w w' := by
 obtain ⟨v, c0, c1, hv⟩ := h.lines.cell hb
 have k1 := h.k1
 have k2 := h.k2
 have ib : (b : Int) < (n : Int) := by omega
 have HH : Hid _ := h
 have HL : Hid _ := lookW_len h.linv h.len hb
 cases hl : (l b).1 with
 | some ws =>
  have hW : lookW l vs b = ws := by unfold lookW; rw [hl]; rfl
  rw [hW] at HL
  obtain ⟨g, cap, rfl, hx⟩ := (hv.2 ws hl).has HL.out
  have hcl := xclone_at g cap ws HL.out hx
  have HW : Hid _ := hW
  clear hW hx hv h hl
  have hnil := slice_neq_yes g cap 32
  go_enter Tryz.func112, Tryz.ntmps112
  go_wp2_with fail
  refine hcl.mono ?_
  rintro x w1 ⟨gg, cap', rfl, hr1, hb1⟩
  have HR : Hid _ := hr1
  have HB : Hid _ := hb1
  clear hr1 hb1 hcl
  go_wp2
  go_ret
  exact ⟨gg, cap', rfl, by rw [HW.out]; exact HR.out, (HH.out.below HB.out).mono (by omega), Upd.of_below HB.out⟩
 | none =>
  have hvn := hv.1 hl
  subst hvn
  obtain ⟨gt, pt, hd, hgt, hpt⟩ := h.disk
  have hget := Di.get_at Y.b Y.g n vs gt pt b w hd (by omega) (by omega) (by omega)
  have hnil := slice_neq_no
  have hme := meth_get Y.b
  have HW : Hid (lookW l vs b = frameOf vs b) := by show _ = _; unfold lookW; rw [hl]; rfl
  simp only [Int.toNat_natCast] at hget
  clear hv hd h hl
  go_enter Tryz.func112, Tryz.ntmps112
  go_wp2_with fail
  refine hget.mono ?_
  rintro x w1 ⟨g1, rfl, hr1, hd1, hu1⟩
  have HK1 : Hid (KAt w1 K Y n (m + 1) vs l T) := HH.out.updD (m' := m + 1) hd1 (by omega) (by omega) (hu1.p _ (Or.inl rfl))
  have HR1 : Hid (URow w.heap.size w1 (.slice (some ⟨g1, 0, none⟩) 32 32) (frameOf vs b)) := hr1
  have HU1 : Hid (Upd Y.b w w1) := hu1
  clear hr1 hd1 hu1 hget
  go_wp2
  go_ret
  exact ⟨g1, 32, rfl, by rw [HW.out]; exact HR1.out, HK1.out, HU1.out⟩
theorem areX_one (n : Nat) (b : Int) (h : n ≤ 1024) : areX n b 1 = decide (0 ≤ b ∧ b < n) := by
 unfold areX
 by_cases h1 : 0 ≤ b ∧ b < n
 ·simp [h1.1, h1]; omega
 ·rw [decide_eq_false h1]
  simp
  omega
set_option maxRecDepth 100000 in
theorem xwords_at (h : KAt w K Y n m vs l T) (b : Int) (hb : I64 b) (hm : m ≤ 900000) :
  Calls Tryz.prog 48 #[ptr K, .int .i64 b] w fun x w' => ∃ v, x = .returned v ∧ URow w.heap.size w' v (wordsW n l vs b) ∧ KAt w' K Y n (m + 1) vs l T ∧ Upd Y.b w w' := by
 have hA := xare_at h b 1 hb (by unfold I64; omega)
 rw [areX_one n b h.n2] at hA
 have HH : Hid _ := h
 by_cases hi : 0 ≤ b ∧ b < n
 ·rw [decide_eq_true hi] at hA
  obtain ⟨b, rfl⟩ := nat_of b hi.1
  have hbn : b < n := by omega
  have HW : Hid (wordsW n l vs b = lookW l vs b) := by show _ = _; unfold wordsW; rw [if_pos hi]; rfl
  have hL := xclook_at h b hbn hm
  clear hi h hb
  go_enter Tryz.func48, Tryz.ntmps48
  go_wp2_with (first | (go_at_call 111; refine hA.mono ?_; rintro x w1 ⟨rfl, hw1⟩; rw [hw1]; clear hw1 w1) | fail)
  refine hL.mono ?_
  rintro x w2 ⟨gg, cap, rfl, hr, hk, hu⟩
  have HR : Hid (URow w.heap.size w2 (.slice (some ⟨gg, 0, none⟩) 32 cap) (lookW l vs b)) := hr
  have HK : Hid _ := hk
  have HU : Hid _ := hu
  clear hr hk hu
  go_wp2
  go_ret
  exact ⟨_, rfl, by rw [HW.out]; exact HR.out, HK.out, HU.out⟩
 ·rw [decide_eq_false hi] at hA
  have HW : Hid (wordsW n l vs b = []) := by show _ = _; unfold wordsW; rw [if_neg hi]
  clear hi h hb
  go_enter Tryz.func48, Tryz.ntmps48
  go_wp2_with (first | (go_at_call 111; refine hA.mono ?_; rintro x w1 ⟨rfl, hw1⟩; rw [hw1]; clear hw1 w1) | fail)
  go_ret
  exact ⟨_, rfl, by rw [HW.out]; exact URow.nil _ _, HH.out.mono (by omega), Upd.refl _ _⟩
end
end Xd
end Go.Proofs.YtbhpafgoofkkmaaGreatDoor
namespace Go.Proofs.YtbhpafgoofkkmaaGreatDoor
open Go.RowKit Ca
namespace Xd
section
variable {w w' : World} {K : Nat} {Y : Yd} {n m : Nat} {vs : List Int} {l : Lines} {T : Tab}
end
end Xd
end Go.Proofs.YtbhpafgoofkkmaaGreatDoor
namespace Go.Proofs.YtbhpafgoofkkmaaGreatDoor
open Go.RowKit Ca
namespace Xd
section
variable {w w' : World} {K : Nat} {Y : Yd} {n m : Nat} {vs : List Int} {l : Lines} {T : Tab}
def L0 : Lines := fun _ => (none, false)
theorem lineInfo : (Tryz.prog.info? 242).map (fun i => (i.zero, i.size, i.bytes)) = some (some (.agg #[.slice none 0 0, .bool false]), 2, 32) := by kernel_rfl
theorem make_lines (n : Nat) (h : n ≤ 1024) (w : World) :
  (Instr.makeSlice 192 (.int .i64 (n : Int)) (.int .i64 (n : Int))).run Tryz.prog w = .ok (.slice (some ⟨w.heap.size, 0, none⟩) n n) (w.alloc (.cells (madeCells #[.slice none 0 0, .bool false] (n * 2)) 242)) := by
 obtain ⟨i, hi, hzz⟩ := Option.map_eq_some_iff.1 lineInfo
 simp only [Prod.mk.injEq] at hzz
 obtain ⟨h1, h2, h3⟩ := hzz
 have hr := run_make (P := Tryz.prog) w 192 242 i _ Tryz.underlying192 hi h1 .i64 .i64 n n (by omega) (by omega) (by rw [h3]; omega) (by omega)
 simp only [Int.toNat_natCast] at hr
 rw [hr, h2]
 rfl
theorem made_lines {q n : Nat} (hq : w.heap[q]? = some (.cells (madeCells #[.slice none 0 0, .bool false] (n * 2)) 242)) (M : Nat) : LinesAt M w q n L0 := by
 refine ⟨_, hq, size_madeCells _ _, fun i hi => ⟨.slice none 0 0, ?_, ?_, fun _ => rfl, fun ws e => (by cases e)⟩⟩
 ·have h1 : i * 2 < n * 2 := by omega
  have h2 : i * 2 % 2 = 0 := by omega
  simp [madeCells, h1, h2]
 ·have h1 : i * 2 + 1 < n * 2 := by omega
  have h2 : (i * 2 + 1) % 2 = 1 := by omega
  simp [madeCells, h1, h2, L0]
theorem LInv.zero (n : Nat) : LInv n L0 := ⟨fun i _ h => (by cases h), fun i _ ws h => (by cases h)⟩
set_option maxRecDepth 100000 in
set_option maxHeartbeats 1000000 in
theorem xcache_at (n b : Nat) (h : n ≤ 1024) (w : World) :
  Calls Tryz.prog 117 #[sto b, .int .i64 n] w fun x w' => ∃ q, x = .returned (.agg #[sto b, .slice (some ⟨q, 0, none⟩) n n]) ∧ (∀ M, LinesAt M w' q n L0) ∧ Below w.heap.size w w' ∧ w.heap.size ≤ q := by
 have hmk := fun w => make_lines n h w
 obtain ⟨C, hC⟩ : ∃ C, C = madeCells #[.slice none 0 0, .bool false] (n * 2) := ⟨_, rfl⟩
 rw [← hC] at hmk
 have HC : Hid _ := hC
 clear hC h
 go_enter Tryz.func117, Tryz.ntmps117
 go_wp2
 have hb1 := below_alloc2 w (Obj.cells #[sto b, Value.slice (some ⟨w.heap.size + 1, 0, none⟩) n n] 194) (Obj.cells C 242)
 have e1 : ((w.alloc (Obj.cells #[sto b, Value.slice (some ⟨w.heap.size + 1, 0, none⟩) n n] 194)).alloc (Obj.cells C 242)).heap[w.heap.size]? = some (Obj.cells #[sto b, Value.slice (some ⟨w.heap.size + 1, 0, none⟩) n n] 194) :=
  (Below.heap_alloc _ _ _ (by simp)).trans (heap_alloc_new _ _)
 have e2 := heap_alloc_new (w.alloc (Obj.cells #[sto b, Value.slice (some ⟨w.heap.size + 1, 0, none⟩) n n] 194)) (Obj.cells C 242)
 rw [World.size_alloc] at e2
 refine bodyPost_ret (v := .agg #[sto b, .slice (some ⟨w.heap.size + 1, 0, none⟩) n n]) ?_ rfl ⟨w.heap.size + 1, rfl, made_lines (by rw [e2, HC.out]), hb1, by omega⟩
 rw [results_cell_row rfl _ _ w.heap.size 194 #[sto b, .slice (some ⟨w.heap.size + 1, 0, none⟩) n n] (0, 0) _ rfl e1 Tryz.underlying194 rfl (by kernel_rfl)]
theorem xnewDisk_at (n : Int) (w : World) (h : 1 ≤ n) (h2 : n ≤ 1024) :
  Calls Tryz.prog 116 #[.int .i64 n] w fun x w' => x = .returned (sto (w.heap.size + 1)) ∧
   Di.DiskAt w' (w.heap.size + 1) w.heap.size n.toNat (List.replicate (n.toNat * 32) 0) 0 0 ∧ Below w.heap.size w w' ∧ w'.heap.size = w.heap.size + 2 := by
 have hn := Di.new_at n w h h2
 clear h h2
 go_enter Tryz.func116, Tryz.ntmps116
 go_wp2_with fail
 refine hn.mono ?_
 rintro x w1 ⟨rfl, hd, hb, hs⟩
 have HD : Hid _ := hd
 have HB : Hid _ := hb
 have HS : Hid _ := hs
 clear hd hb hs hn
 go_wp2
 go_ret
 exact ⟨rfl, HD.out, HB.out, HS.out⟩
set_option maxHeartbeats 1000000 in
theorem xnew_at (n : Int) (w : World) (h1 : 1 ≤ n) (h2 : n ≤ 1024) :
  Calls Tryz.prog 55 #[.int .i64 n] w fun x w' => ∃ K Y, x = .returned (ptr K) ∧ KAt w' K Y n.toNat 0 (List.replicate (n.toNat * 32) 0) L0 (fun _ => Hd.no) ∧ Below w.heap.size w w' ∧ w.heap.size ≤ K ∧ ∀ b, XFoot Y b → w.heap.size ≤ b := by
 obtain ⟨n, rfl⟩ := nat_of n (by omega)
 simp only [Int.toNat_natCast]
 have hn := xnewDisk_at n w h1 h2
 have hni := sto_nil
 have HN : Hid (1 ≤ n ∧ n ≤ 1024) := ⟨by omega, by omega⟩
 clear h1 h2
 go_enter Tryz.func55, Tryz.ntmps55
 go_wp2_with fail
 refine hn.mono ?_
 rintro x w1 ⟨rfl, hd, hb, hs⟩
 have HD : Hid _ := hd
 have HB : Hid _ := hb
 have HS : Hid _ := hs
 clear hd hb hs hn
 obtain ⟨B, hBB⟩ : ∃ B, B = w.heap.size + 1 := ⟨_, rfl⟩
 rw [← hBB] at HD ⊢
 have HBB : Hid _ := hBB
 clear hBB
 go_wp2_with fail
 refine (xcache_at n B HN.out.2 w1).mono ?_
 rintro x w2 ⟨q, rfl, hl2, hb2, hq2⟩
 have HL2 : Hid _ := hl2
 have HB2 : Hid _ := hb2
 have HQ2 : Hid _ := hq2
 clear hl2 hb2 hq2
 go_wp2_with fail
 refine (Ca.new_at w2).mono ?_
 rintro x w3 ⟨rfl, hc3, hb3, hs3⟩
 have HC3 : Hid _ := hc3
 have HB3 : Hid _ := hb3
 have HS3 : Hid _ := hs3
 clear hc3 hb3 hs3
 obtain ⟨W, hW⟩ : ∃ W, W = w3.alloc (.cells #[sto B, sto B, .slice (some ⟨q, 0, none⟩) n n, ptr w2.heap.size] 196) := ⟨_, rfl⟩
 have hbW : Below w3.heap.size w3 W := by rw [hW]; exact below_alloc _ _
 have hhW : W.heap[w3.heap.size]? = some (.cells #[sto B, sto B, .slice (some ⟨q, 0, none⟩) n n, ptr w2.heap.size] 196) := by rw [hW]; exact heap_alloc_new _ _
 have HW : Hid _ := hbW
 have HHW : Hid _ := hhW
 clear hbW hhW
 go_wp2
 rw [← hW]
 clear hW
 go_ret
 have s1 := HB.out.size
 have s2 := HB2.out.size
 have s3 := HB3.out.size
 have hd := HD.out
 have hsB : B < w1.heap.size := lt_of_heap hd.head
 simp only [Int.toNat_natCast] at hd
 have hB' : w.heap.size ≤ B := by
  rcases Nat.lt_or_ge B w.heap.size with hlt | hge
  ·exact absurd hlt (by have := HBB.out; omega)
  ·exact hge
 refine ⟨w3.heap.size, ⟨B, w.heap.size, q, w2.heap.size, w.heap.size⟩, rfl, ⟨HHW.out, ⟨0, 0, (((hd.below HB2.out).below HB3.out).below HW.out), Nat.le_refl _, Nat.le_refl _⟩, ?_, HC3.out.below HW.out, XInv.zero n, LInv.zero n, HN.out.1, HN.out.2, (show w.heap.size ≤ _ by have := HW.out.size; omega)⟩, ?_, by omega, ?_⟩
 ·have := LinesAt.keep (LinesAt.keep (HL2.out w.heap.size) (HB3.out.block _ (LinesAt.lt (HL2.out w.heap.size))) (UpdP.of_below (P := fun _ => False) HB3.out) (fun _ e => e.elim)) (HW.out.block _ (by have := LinesAt.lt (HL2.out w.heap.size); omega)) (UpdP.of_below (P := fun _ => False) HW.out) (fun _ e => e.elim)
  exact this
 ·exact ((HB.out.trans (HB2.out.mono s1)).trans (HB3.out.mono (by omega))).trans (HW.out.mono (by omega))
 ·have := HQ2.out
  rintro b (e | e | e | e)
  ·rw [e]; show _ ≤ q; omega
  ·rw [e]; exact hB'
  ·rw [e]; exact Nat.le_refl _
  ·rw [e]; show _ ≤ w2.heap.size; omega
theorem set4_heap {w : World} {B : Nat} {t : TypeId} {a b c d : Value} (h : w.heap[B]? = some (.cells #[a, b, c, d] t)) (x y z u : Value) :
  ((((w.setCell ⟨B, 0, none⟩ x).setCell ⟨B, 1, none⟩ y).setCell ⟨B, 2, none⟩ z).setCell ⟨B, 3, none⟩ u).heap[B]? = some (.cells #[x, y, z, u] t) := by
 have h1 : (w.setCell ⟨B, 0, none⟩ x).heap[B]? = some (.cells #[x, b, c, d] t) := by rw [setCell_eq_setRow w B _ _ _ _ _ h, setRow_heap w B _ _ _ _ h]; rfl
 have h2 : ((w.setCell ⟨B, 0, none⟩ x).setCell ⟨B, 1, none⟩ y).heap[B]? = some (.cells #[x, y, c, d] t) := by rw [setCell_eq_setRow _ B _ _ _ _ _ h1, setRow_heap _ B _ _ _ _ h1]; rfl
 have h3 : (((w.setCell ⟨B, 0, none⟩ x).setCell ⟨B, 1, none⟩ y).setCell ⟨B, 2, none⟩ z).heap[B]? = some (.cells #[x, y, z, d] t) := by rw [setCell_eq_setRow _ B _ _ _ _ _ h2, setRow_heap _ B _ _ _ _ h2]; rfl
 rw [setCell_eq_setRow _ B _ _ _ _ _ h3, setRow_heap _ B _ _ _ _ h3]; rfl
end
end Xd
end Go.Proofs.YtbhpafgoofkkmaaGreatDoor
