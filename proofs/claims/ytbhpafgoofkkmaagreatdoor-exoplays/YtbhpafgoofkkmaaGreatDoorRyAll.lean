import Derived.Test.YtbhpafgoofkkmaaGreatDoorXdAll
import Derived.Test.YtbhpafgoofkkmaaGreatDoorRefDisk
import Derived.Test.YtbhpafgoofkkmaaGreatDoorRefCb
set_option linter.all false
namespace Go.Proofs.YtbhpafgoofkkmaaGreatDoor
open Go.RowKit Ca
namespace Xd
def fl (p : Nat → Bool) (n : Nat) : List Int := ((List.range n).filter p).map Int.ofNat
theorem fl_mem {p : Nat → Bool} {n : Nat} {a : Int} : a ∈ fl p n ↔ ∃ i, i < n ∧ p i = true ∧ a = (i : Int) := by
 unfold fl
 simp only [List.mem_map, List.mem_filter, List.mem_range]
 constructor
 ·rintro ⟨i, ⟨h1, h2⟩, rfl⟩; exact ⟨i, h1, h2, rfl⟩
 ·rintro ⟨i, h1, h2, rfl⟩; exact ⟨i, ⟨h1, h2⟩, rfl⟩
theorem fl_len (p : Nat → Bool) (n : Nat) : (fl p n).length ≤ n := by
 unfold fl
 rw [List.length_map]
 exact Nat.le_trans (List.length_filter_le _ _) (by simp)
theorem fl_up (p : Nat → Bool) (n : Nat) : Up (fl p n) := by
 unfold Up fl
 rw [List.pairwise_map]
 have h1 : (List.range n).Pairwise (· < ·) := List.pairwise_lt_range
 exact (h1.filter p).imp (fun h => by simpa using h)
theorem fl_ins {p q : Nat → Bool} {n b : Nat} (hb : b < n) (h : ∀ i, i < n → q i = (p i || decide (i = b))) : insI b (fl p n) = fl q n := by
 refine up_eq (insI_up _ _ (fl_up p n)) (fl_up q n) (fun a => ?_)
 rw [insI_mem, fl_mem, fl_mem]
 constructor
 ·rintro (rfl | ⟨i, h1, h2, rfl⟩)
  ·exact ⟨b, hb, by rw [h b hb]; simp, rfl⟩
  ·exact ⟨i, h1, by rw [h i h1, h2]; rfl, rfl⟩
 ·rintro ⟨i, h1, h2, rfl⟩
  rw [h i h1] at h2
  simp only [Bool.or_eq_true, decide_eq_true_eq] at h2
  rcases h2 with h2 | rfl
  ·exact Or.inr ⟨i, h1, h2, rfl⟩
  ·exact Or.inl rfl
theorem fl_same {p q : Nat → Bool} {n : Nat} (h : ∀ i, i < n → q i = p i) : fl q n = fl p n := by
 unfold fl
 congr 1
 exact List.filter_congr (fun i hi => h i (by simpa using hi))
def inL (l : Lines) (n : Nat) : List Int := fl (fun i => (l i).1.isSome) n
def newL (l : Lines) (n : Nat) : List Int := fl (fun i => (l i).2) n
theorem in_set {l : Lines} {n b : Nat} (hb : b < n) (ws : List Int) (c : Bool) : insI b (inL l n) = inL (l.set b (some ws, c)) n :=
 fl_ins hb (fun i _ => by
   by_cases e : i = b
   · subst e; rw [Lines.set_same]; simp
   · rw [Lines.set_other _ _ _ _ e]; simp [e])
theorem new_set {l : Lines} {n b : Nat} (hb : b < n) (ws : List Int) : insI b (newL l n) = newL (putL l b ws) n :=
 fl_ins hb (fun i _ => by
   unfold putL
   by_cases e : i = b
   · subst e; rw [Lines.set_same]; simp
   · rw [Lines.set_other _ _ _ _ e]; simp [e])
theorem new_get (l : Lines) (vs : List Int) (n b : Nat) : newL (getL l vs b) n = newL l n :=
 fl_same (fun i _ => by
   unfold getL
   by_cases e : i = b
   · subst e; rw [Lines.set_same]
   · rw [Lines.set_other _ _ _ _ e])
theorem in_has {l : Lines} {n b : Nat} (hb : b < n) : (inL l n).contains (b : Int) = (l b).1.isSome := by
 cases h : (l b).1.isSome with
 | true =>
  rw [List.contains_iff_mem]
  exact fl_mem.2 ⟨b, hb, h, rfl⟩
 | false =>
  rw [← Bool.not_eq_true, List.contains_iff_mem]
  intro hm
  obtain ⟨i, _, h2, h3⟩ := fl_mem.1 hm
  have : i = b := by omega
  subst this
  rw [h] at h2
  cases h2
def IV (w : World) (v : Value) (xs : List Int) : Prop :=
 ∃ a cap, v = .slice a xs.length cap ∧ xs.length ≤ cap ∧ (xs ≠ [] → ∃ g cur, a = some ⟨g, 0, none⟩ ∧ w.heap[g]? = some (.cells cur 3 (0, 0)) ∧ ∀ (j : Nat) (x : Int), xs[j]? = some x → cur[j]? = some (.int .i64 x))
section
variable {w w' : World} {v : Value} {xs : List Int}
theorem IV.nil (w : World) : IV w (.slice none 0 0) [] := ⟨none, 0, rfl, Nat.le_refl _, fun h => absurd rfl h⟩
theorem IV.keepT {P : Nat → Prop} (h : IV w v xs) (hu : UpdP P w w') (hp : ∀ k, P k → ∀ cur fr, w.heap[k]? ≠ some (.cells cur 3 fr)) : IV w' v xs := by
 obtain ⟨a, cap, e, h1, hf⟩ := h
 refine ⟨a, cap, e, h1, fun hne => ?_⟩
 obtain ⟨g, cur, ea, hh, hc⟩ := hf hne
 exact ⟨g, cur, ea, (hu.block g (lt_of_heap hh) (fun hP => hp g hP _ _ hh)).trans hh, hc⟩
theorem iv_of_own {base : Nat} (h : w.ownsRow base 3 1 v xs.length (ivs xs)) : IV w v xs := by
 rcases h.2 with ⟨e2, e3⟩ | ⟨g, cap, cur, e2, hb, hh, h1, h2, h3, h4⟩
 ·have : xs = [] := List.length_eq_zero_iff.1 e3
  subst this
  rw [e2]
  exact IV.nil _
 ·refine ⟨_, cap, e2, by omega, fun _ => ⟨g, cur, rfl, hh, fun j x hx => ?_⟩⟩
  have hi : j < xs.length := (List.getElem?_eq_some_iff.1 hx).1
  have : (ivs xs)[j]? = some (.int .i64 x) := by simp [ivs, hx]
  rw [← h4, List.getElem?_take_of_lt (by omega)] at this
  simpa using this
theorem IV.row (h : IV w v xs) : ∃ a cap, v = .slice a xs.length cap ∧ IRow w a xs ∧ xs.length ≤ cap := by
 obtain ⟨a, cap, e, h1, hf⟩ := h
 refine ⟨a, cap, e, fun j x hx => ?_, h1⟩
 obtain ⟨g, cur, ea, hh, hc⟩ := hf (by intro e; rw [e] at hx; simp at hx)
 exact ⟨g, 0, ea, by rw [cell_of_heap hh, Nat.zero_add]; exact hc j x hx⟩
end
def WRow (M : Nat) (w : World) (wb n : Nat) (l : Lines) : Prop :=
 ∃ row : Array Value, w.heap[wb]? = some (.cells row 27) ∧ row.size = n ∧ ∀ i, i < n → ∃ v, row[i]? = some v ∧ ∀ ws, (l i).1 = some ws → URow M w v ws
structure Rq where
 dx : Nat
 lb : Nat
 lc : Nat
 c : Nat
 wb : Nat
 M : Nat
def RF (X : Nat) (Q : Rq) (k : Nat) : Prop := k = X ∨ k = Q.dx ∨ k = Q.lb ∨ k = Q.c ∨ k = Q.wb
structure RkX (w : World) (X : Nat) (Q : Rq) (n m : Nat) (vs : List Int) (l : Lines) (L : List Ce) (last : Int) : Prop where
 head : ∃ iv nv, w.heap[X]? = some (.cells #[ptr Q.dx, ptr Q.c, iv, nv, .slice (some ⟨Q.wb, 0, none⟩) n n] 70) ∧ IV w iv (inL l n) ∧ IV w nv (newL l n)
 disk : ∃ gt pt, Di.RefAt w Q.dx Q.lb Q.lc n vs gt pt ∧ pt ≤ m
 wrow : WRow Q.dx w Q.wb n l
 caps : ∃ sv, Ca.RefAt Q.M w Q.c sv L last
 ne : Q.lb ≠ Q.wb
 MS : Q.M ≤ w.heap.size
 linv : LInv n l
def NoT (w : World) (k : Nat) : Prop := (∀ cur fr, w.heap[k]? ≠ some (.cells cur 42 fr)) ∧ (∀ cur fr, w.heap[k]? ≠ some (.cells cur 3 fr)) ∧ ∀ cur fr, w.heap[k]? ≠ some (.cells cur 107 fr)
theorem noT_of {w : World} {k : Nat} {cs : Array Value} {t : TypeId} {fr : Nat × Nat} (h : w.heap[k]? = some (.cells cs t fr)) (h1 : t ≠ 42) (h2 : t ≠ 3) (h3 : t ≠ 107) : NoT w k :=
 ⟨fun cur fr hk => apart h hk h1 rfl, fun cur fr hk => apart h hk h2 rfl, fun cur fr hk => apart h hk h3 rfl⟩
theorem diRef_keep {P : Nat → Prop} {w w' : World} {bx gx cap n : Nat} {vs : List Int} {gt pt : Nat} (h : Di.RefAt w bx gx cap n vs gt pt) (hu : UpdP P w w') (h1 : ¬ P bx) (h2 : ¬ P gx) (h3 : ∀ k, P k → NoT w k) : Di.RefAt w' bx gx cap n vs gt pt := by
 obtain ⟨cur, hh, ht⟩ := h.tab
 refine ⟨(hu.block _ (lt_of_heap h.head) h1).trans h.head, ⟨cur, (hu.block _ (lt_of_heap hh) h2).trans hh, fun i hi => ?_⟩, h.len, h.low⟩
 obtain ⟨r, c, row, q1, q2, q3, q4⟩ := ht i hi
 exact ⟨r, c, row, q1, (hu.block _ (lt_of_heap q2) (fun e => (h3 r e).1 _ _ q2)).trans q2, q3, q4⟩
theorem caRef_keep {P : Nat → Prop} {M : Nat} {w w' : World} {c : Nat} {sv : Value} {L : List Ce} {last : Int} (h : Ca.RefAt M w c sv L last) (hu : UpdP P w w') (h1 : ¬ P c) (h3 : ∀ k, P k → NoT w k) : Ca.RefAt M w' c sv L last := by
 refine ⟨(hu.block _ h.lt h1).trans h.head, ?_, h.nil⟩
 obtain ⟨o1, o2⟩ := h.own
 refine ⟨o1, ?_⟩
 rcases o2 with o2 | ⟨g, cap, cur, hv, hg, hh, r⟩
 ·exact Or.inl o2
 ·exact Or.inr ⟨g, cap, cur, hv, hg, (hu.block g (lt_of_heap hh) (fun e => (h3 g e).2.2 _ _ hh)).trans hh, r⟩
theorem WRow.keepT {M : Nat} {P : Nat → Prop} {w w' : World} {wb n : Nat} {l : Lines} (h : WRow M w wb n l) (hu : UpdP P w w') (h1 : ¬ P wb) (h3 : ∀ k, P k → NoT w k) : WRow M w' wb n l := by
 obtain ⟨row, hr, hs, hc⟩ := h
 exact ⟨row, (hu.block _ (lt_of_heap hr) h1).trans hr, hs, fun i hi => by obtain ⟨v, g1, g2⟩ := hc i hi; exact ⟨v, g1, fun ws e => (g2 ws e).keepT hu (fun k hk => (h3 k hk).1)⟩⟩
section
variable {w w' : World} {X : Nat} {Q : Rq} {n m : Nat} {vs : List Int} {l : Lines} {L : List Ce} {last : Int}
theorem RkX.noT (h : RkX w X Q n m vs l L last) : ∀ k, RF X Q k → NoT w k := by
 obtain ⟨iv, nv, hx, _⟩ := h.head
 obtain ⟨gt, pt, hd, _⟩ := h.disk
 obtain ⟨row, hr, _⟩ := h.wrow
 obtain ⟨sv, hc⟩ := h.caps
 obtain ⟨cur, hh, _⟩ := hd.tab
 rintro k (e | e | e | e | e)
 ·rw [e]; exact noT_of hx (by decide) (by decide) (by decide)
 ·rw [e]; exact noT_of hd.head (by decide) (by decide) (by decide)
 ·rw [e]; exact noT_of hh (by decide) (by decide) (by decide)
 ·rw [e]; exact noT_of hc.head (by decide) (by decide) (by decide)
 ·rw [e]; exact noT_of hr (by decide) (by decide) (by decide)
theorem RkX.lows (h : RkX w X Q n m vs l L last) : ∀ k, RF X Q k → k < w.heap.size := by
 obtain ⟨iv, nv, hx, _⟩ := h.head
 obtain ⟨gt, pt, hd, _⟩ := h.disk
 obtain ⟨row, hr, _⟩ := h.wrow
 obtain ⟨sv, hc⟩ := h.caps
 obtain ⟨cur, hh, _⟩ := hd.tab
 rintro k (e | e | e | e | e)
 ·rw [e]; exact lt_of_heap hx
 ·rw [e]; exact lt_of_heap hd.head
 ·rw [e]; exact lt_of_heap hh
 ·rw [e]; exact hc.lt
 ·rw [e]; exact lt_of_heap hr
theorem RkX.keepP {P : Nat → Prop} (h : RkX w X Q n m vs l L last) (hu : UpdP P w w') (hF : ∀ k, RF X Q k → ¬ P k) (h3 : ∀ k, P k → NoT w k) : RkX w' X Q n m vs l L last := by
 obtain ⟨iv, nv, hx, hi, hn⟩ := h.head
 obtain ⟨gt, pt, hd, hp⟩ := h.disk
 obtain ⟨sv, hc⟩ := h.caps
 exact ⟨⟨iv, nv, (hu.block _ (lt_of_heap hx) (hF _ (Or.inl rfl))).trans hx, hi.keepT hu (fun k hk => (h3 k hk).2.1), hn.keepT hu (fun k hk => (h3 k hk).2.1)⟩,
   ⟨gt, pt, diRef_keep hd hu (hF _ (Or.inr (Or.inl rfl))) (hF _ (Or.inr (Or.inr (Or.inl rfl)))) h3, hp⟩, h.wrow.keepT hu (hF _ (Or.inr (Or.inr (Or.inr (Or.inr rfl))))) h3,
   ⟨sv, caRef_keep hc hu (hF _ (Or.inr (Or.inr (Or.inr (Or.inl rfl))))) h3⟩, h.ne, Nat.le_trans h.MS hu.size, h.linv⟩
theorem RkX.keepM {P : Nat → Prop} (h : RkX w X Q n m vs l L last) (hu : UpdP P w w') (hF : ∀ k, RF X Q k → ¬ P k) (h3 : ∀ k, P k → (Q.dx ≤ k → ∀ cur fr, w.heap[k]? ≠ some (.cells cur 42 fr)) ∧ (∀ cur fr, w.heap[k]? ≠ some (.cells cur 3 fr)) ∧ ∀ cur fr, w.heap[k]? ≠ some (.cells cur 107 fr)) : RkX w' X Q n m vs l L last := by
 obtain ⟨iv, nv, hx, hi, hn⟩ := h.head
 obtain ⟨gt, pt, hd, hp⟩ := h.disk
 obtain ⟨sv, hc⟩ := h.caps
 refine ⟨⟨iv, nv, (hu.block _ (lt_of_heap hx) (hF _ (Or.inl rfl))).trans hx, hi.keepT hu (fun k hk => (h3 k hk).2.1), hn.keepT hu (fun k hk => (h3 k hk).2.1)⟩,
   ⟨gt, pt, ?_, hp⟩, ?_, ⟨sv, ?_⟩, h.ne, Nat.le_trans h.MS hu.size, h.linv⟩
 ·obtain ⟨cur, hh, ht⟩ := hd.tab
  refine ⟨(hu.block _ (lt_of_heap hd.head) (hF _ (Or.inr (Or.inl rfl)))).trans hd.head, ⟨cur, (hu.block _ (lt_of_heap hh) (hF _ (Or.inr (Or.inr (Or.inl rfl))))).trans hh, fun i hi => ?_⟩, hd.len, hd.low⟩
  obtain ⟨r, c, row, q1, q2, q3, q4⟩ := ht i hi
  exact ⟨r, c, row, q1, (hu.block r (lt_of_heap q2) (fun e => (h3 r e).1 (Nat.le_of_lt q3) _ _ q2)).trans q2, q3, q4⟩
 ·obtain ⟨row, hr, hs, hc'⟩ := h.wrow
  refine ⟨row, (hu.block _ (lt_of_heap hr) (hF _ (Or.inr (Or.inr (Or.inr (Or.inr rfl)))))).trans hr, hs, fun i hi => ?_⟩
  obtain ⟨v, e1, e2⟩ := hc' i hi
  exact ⟨v, e1, fun ws hw => (e2 ws hw).keepM hu (fun k hk hM => (h3 k hk).1 hM)⟩
 ·refine ⟨(hu.block _ hc.lt (hF _ (Or.inr (Or.inr (Or.inr (Or.inl rfl)))))).trans hc.head, ?_, hc.nil⟩
  obtain ⟨o1, o2⟩ := hc.own
  refine ⟨o1, ?_⟩
  rcases o2 with o2 | ⟨g, cap, cur, hv, hg, hh, r⟩
  ·exact Or.inl o2
  ·exact Or.inr ⟨g, cap, cur, hv, hg, (hu.block g (lt_of_heap hh) (fun e => (h3 g e).2.2 _ _ hh)).trans hh, r⟩
theorem RkX.below (h : RkX w X Q n m vs l L last) (hb : Below w.heap.size w w') : RkX w' X Q n m vs l L last :=
 h.keepP (UpdP.of_below (P := fun _ => False) hb) (fun _ _ e => e) (fun _ e => e.elim)
theorem RkX.updC {sv' : Value} {L' : List Ce} {last' : Int} (h : RkX w X Q n m vs l L last) (hc' : Ca.RefAt Q.M w' Q.c sv' L' last') (hu : Upd Q.c w w') : RkX w' X Q n m vs l L' last' := by
 obtain ⟨iv, nv, hx, hi, hn⟩ := h.head
 obtain ⟨gt, pt, hd, hp⟩ := h.disk
 obtain ⟨sv, hc⟩ := h.caps
 obtain ⟨row, hr, _⟩ := h.wrow
 obtain ⟨cur, hh, _⟩ := hd.tab
 have h3 : ∀ k, k = Q.c → NoT w k := fun k e => h.noT k (Or.inr (Or.inr (Or.inr (Or.inl e))))
 have hup : UpdP (fun k => k = Q.c) w w' := hu.p _ rfl
 exact ⟨⟨iv, nv, (hup.block _ (lt_of_heap hx) (apart hx hc.head (by decide))).trans hx, hi.keepT hup (fun k hk => (h3 k hk).2.1), hn.keepT hup (fun k hk => (h3 k hk).2.1)⟩,
   ⟨gt, pt, diRef_keep hd hup (apart hd.head hc.head (by decide)) (apart hh hc.head (by decide)) h3, hp⟩, h.wrow.keepT hup (apart hr hc.head (by decide)) h3, ⟨sv', hc'⟩, h.ne, Nat.le_trans h.MS hu.size, h.linv⟩
theorem RkX.updL {l' : Lines} (h : RkX w X Q n m vs l L last) (hup : UpdP (fun k => k = X ∨ k = Q.wb) w w') (hx' : ∃ iv nv, w'.heap[X]? = some (.cells #[ptr Q.dx, ptr Q.c, iv, nv, .slice (some ⟨Q.wb, 0, none⟩) n n] 70) ∧ IV w' iv (inL l' n) ∧ IV w' nv (newL l' n)) (hw' : WRow Q.dx w' Q.wb n l') (hl' : LInv n l') : RkX w' X Q n m vs l' L last := by
 obtain ⟨iv, nv, hx, hi, hn⟩ := h.head
 obtain ⟨gt, pt, hd, hp⟩ := h.disk
 obtain ⟨sv, hc⟩ := h.caps
 obtain ⟨row, hr, _⟩ := h.wrow
 obtain ⟨cur, hh, _⟩ := hd.tab
 have h3 : ∀ k, (k = X ∨ k = Q.wb) → NoT w k := fun k e => h.noT k (by rcases e with e | e; exact Or.inl e; exact Or.inr (Or.inr (Or.inr (Or.inr e))))
 have ho : ∀ {k : Nat} {cs : Array Value} {t : TypeId} {fr : Nat × Nat}, w.heap[k]? = some (.cells cs t fr) → t ≠ 70 → k ≠ Q.wb → ¬ (k = X ∨ k = Q.wb) := by
  rintro k cs t fr hk ht hl (e | e)
  ·exact apart hk hx ht e
  ·exact hl e
 exact ⟨hx', ⟨gt, pt, diRef_keep hd hup (ho hd.head (by decide) (apart hd.head hr (by decide))) (ho hh (by decide) h.ne) h3, hp⟩, hw', ⟨sv, caRef_keep hc hup (ho hc.head (by decide) (apart hc.head hr (by decide))) h3⟩, h.ne, Nat.le_trans h.MS hup.size, hl'⟩
theorem RkX.x1 (h : RkX w X Q n m vs l L last) : w.cell? ⟨X, 1, none⟩ = some (ptr Q.c) := by
 obtain ⟨iv, nv, hx, _⟩ := h.head
 rw [cell_of_heap hx]; rfl
theorem RkX.x4 (h : RkX w X Q n m vs l L last) : w.cell? ⟨X, 4, none⟩ = some (.slice (some ⟨Q.wb, 0, none⟩) n n) := by
 obtain ⟨iv, nv, hx, _⟩ := h.head
 rw [cell_of_heap hx]; rfl
end
structure Lx (T : Tab) (L : List Ce) (last : Int) (n : Nat) : Prop where
 rel : Rel T L last
 inv : XInv T n
 n1 : 1 ≤ n
 n2 : n ≤ 1000
 pos : 0 ≤ last
 len : L.length ≤ 850
 top : last ≤ 850
theorem and_one : ((List.range 8).all fun q => [1, 2].all fun r => (bits .and .i64 (q : Nat) (r : Nat) == (r : Nat)) == (bits .and .i64 (q : Nat) (r : Nat) != 0)) = true := by decide +kernel
theorem and_same {q : Int} (h : 0 ≤ q ∧ q ≤ 7) {r : Int} (hr : r = 1 ∨ r = 2) : (bits .and .i64 q r == r) = (bits .and .i64 q r != 0) := by
 have h1 := and_one
 rw [List.all_eq_true] at h1
 have h2 := h1 q.toNat (by simp; omega)
 rw [List.all_eq_true] at h2
 have hq : ((q.toNat : Nat) : Int) = q := by omega
 rcases hr with rfl | rfl
 ·have := h2 1 (by simp)
  rw [hq] at this
  simpa using this
 ·have := h2 2 (by simp)
  rw [hq] at this
  simpa using this
section
variable {w w' : World} {X : Nat} {Q : Rq} {n m : Nat} {vs : List Int} {l : Lines} {L : List Ce} {last : Int} {T : Tab}
set_option maxHeartbeats 1000000 in
theorem rxmay_at (h : RkX w X Q n m vs l L last) (hk : Lx T L last n) (e s b r : Int) (hb : I64 b) (hr : r = 1 ∨ r = 2) :
  Calls Tryz.prog 148 #[ptr X, .int .i64 e, .int .i64 s, .int .i64 b, .int .i64 r] w fun x w' => x = .returned (.bool (mayX T e s b r)) ∧ Below w.heap.size w w' := by
 obtain ⟨sv, hC⟩ := h.caps
 have hg := rget_at Q.M Q.c sv L last e s w hC (by have := hk.len; omega)
 obtain ⟨q1, q2⟩ := hk.rel.get e s
 rw [← q1, ← q2] at hg
 have hc := h.x1
 have HM : Hid (mayX T e s b r = (((getT T e s).is && (bits .and .i64 (getT T e s).rights r != 0)) && (decide ((getT T e s).id ≤ b) && decide (b - (getT T e s).id < (getT T e s).len)))) := rfl
 have HO : Hid ((getT T e s).is = true → OkX n (getT T e s)) := fun hi => hk.inv.get hi
 have hn := hk.n2
 obtain ⟨b1, b2⟩ := hb
 clear h hC q1 q2 hk
 generalize mayX T e s b r = M at *
 generalize getT T e s = x at *
 obtain ⟨k, i, q, p⟩ := x
 dsimp only [cpRow] at *
 cases hi : Cp.is ⟨k, i, q, p⟩ with
 | false =>
  rw [hi] at hg HM
  have hM : M = false := HM.out
  subst hM
  clear HM HO hi
  go_enter Tryz.func148, Tryz.ntmps148
  go_wp2_with fail
  refine hg.mono ?_
  rintro x w1 ⟨rfl, hb1⟩
  go_wp2
  go_ret
  exact ⟨rfl, hb1.alloc hb1.size _⟩
 | true =>
  rw [hi] at hg HM
  obtain ⟨_, o1, o2, o3, o4, o5⟩ := HO.out hi
  dsimp only at o1 o2 o3 o4 o5
  have ha := and_same (q := p) ⟨by omega, o5⟩ hr
  rw [← ha] at HM
  clear HO hi ha
  cases hbq : (bits .and .i64 p r == r) with
  | false =>
   rw [hbq] at HM
   have hM : M = false := HM.out
   subst hM
   clear HM
   go_enter Tryz.func148, Tryz.ntmps148
   go_wp2_with fail
   refine hg.mono ?_
   rintro x w1 ⟨rfl, hb1⟩
   go_wp2
   go_ret
   exact ⟨rfl, hb1.alloc hb1.size _⟩
  | true =>
   rw [hbq] at HM
   have hM : M = (decide (i ≤ b) && decide (b - i < q)) := HM.out
   clear HM
   by_cases hib : i ≤ b
   ·have g0 : decide (i ≤ b) = true := decide_eq_true hib
    rw [g0, Bool.true_and] at hM
    have HM2 : Hid _ := hM
    clear hM
    go_enter Tryz.func148, Tryz.ntmps148
    go_wp2_with fail
    refine hg.mono ?_
    rintro x w1 ⟨rfl, hb1⟩
    go_wp2
    go_ret
    exact ⟨by rw [HM2.out]; rfl, hb1.alloc hb1.size _⟩
   ·have g0 : decide (i ≤ b) = false := decide_eq_false hib
    rw [g0, Bool.false_and] at hM
    subst hM
    go_enter Tryz.func148, Tryz.ntmps148
    go_wp2_with fail
    refine hg.mono ?_
    rintro x w1 ⟨rfl, hb1⟩
    go_wp2
    go_ret
    exact ⟨rfl, hb1.alloc hb1.size _⟩
end
end Xd
end Go.Proofs.YtbhpafgoofkkmaaGreatDoor
namespace Go.Proofs.YtbhpafgoofkkmaaGreatDoor
open Go.RowKit Ca
namespace Xd
theorem WRow.set {M : Nat} {w : World} {wb n b : Nat} {l : Lines} (h : WRow M w wb n l) (hb : b < n) (u : Value) (ws : List Int) (c : Bool) (hu : URow M w u ws) : WRow M (w.setCell ⟨wb, b, none⟩ u) wb n (l.set b (some ws, c)) := by
 obtain ⟨row, hr, hs, hc⟩ := h
 have hup : UpdP (fun k => k = wb) w (w.setCell ⟨wb, b, none⟩ u) := (Upd.setCell _ _ _ _).p _ rfl
 have hp : ∀ k, k = wb → ∀ cur fr, w.heap[k]? ≠ some (.cells cur 42 fr) := fun k e cur fr hk => apart hk hr (by decide) e
 refine ⟨row.setIfInBounds b u, by rw [setCell_eq_setRow w wb _ _ _ _ _ hr, setRow_heap w wb _ _ _ _ hr], by simp [hs], fun i hi => ?_⟩
 by_cases e : i = b
 ·subst e
  refine ⟨u, by rw [Array.getElem?_setIfInBounds, if_pos rfl, if_pos (by omega)], fun ws' e' => ?_⟩
  rw [Lines.set_same] at e'
  cases e'
  exact hu.keepT hup hp
 ·obtain ⟨v, g1, g2⟩ := hc i hi
  refine ⟨v, by rw [Array.getElem?_setIfInBounds, if_neg (by omega)]; exact g1, fun ws' e' => ?_⟩
  rw [Lines.set_other _ _ _ _ e] at e'
  exact (g2 ws' e').keepT hup hp
theorem WRow.some {M : Nat} {w : World} {wb n b : Nat} {l : Lines} (h : WRow M w wb n l) (hb : b < n) : (∃ v, w.cell? ⟨wb, b, none⟩ = some v) ∧ w.frozen? ⟨wb, b, none⟩ = false := by
 obtain ⟨row, hr, hs, hc⟩ := h
 exact ⟨⟨_, by rw [cell_of_heap hr]; exact Array.getElem?_eq_getElem (by omega)⟩, frozen_of_heap hr⟩
theorem set2_heap {w : World} {X : Nat} {t : TypeId} {a b c d e : Value} (h : w.heap[X]? = some (.cells #[a, b, c, d, e] t)) (v : Value) : (w.setCell ⟨X, 2, none⟩ v).heap[X]? = some (.cells #[a, b, v, d, e] t) := by
 rw [setCell_eq_setRow w X _ _ _ _ _ h, setRow_heap w X _ _ _ _ h]; rfl
theorem set3_heap {w : World} {X : Nat} {t : TypeId} {a b c d e : Value} (h : w.heap[X]? = some (.cells #[a, b, c, d, e] t)) (v : Value) : (w.setCell ⟨X, 3, none⟩ v).heap[X]? = some (.cells #[a, b, c, v, e] t) := by
 rw [setCell_eq_setRow w X _ _ _ _ _ h, setRow_heap w X _ _ _ _ h]; rfl
theorem cells5 {w : World} {X : Nat} {t : TypeId} {a b c d e : Value} (h : w.heap[X]? = some (.cells #[a, b, c, d, e] t)) : w.cell? ⟨X, 0, none⟩ = some a ∧ w.cell? ⟨X, 1, none⟩ = some b ∧ w.cell? ⟨X, 2, none⟩ = some c ∧ w.cell? ⟨X, 3, none⟩ = some d ∧ w.cell? ⟨X, 4, none⟩ = some e := by
 refine ⟨?_, ?_, ?_, ?_, ?_⟩ <;> (rw [cell_of_heap h]; rfl)
section
variable {w w' : World} {X : Nat} {Q : Rq} {n m : Nat} {vs : List Int} {l : Lines} {L : List Ce} {last : Int} {T : Tab}
theorem RkX.Xwb (h : RkX w X Q n m vs l L last) : X ≠ Q.wb := by
 obtain ⟨iv, nv, hx, _⟩ := h.head
 obtain ⟨row, hr, _⟩ := h.wrow
 exact apart hx hr (by decide)
set_option maxRecDepth 100000 in
set_option maxHeartbeats 1000000 in
theorem rxlook_at (h : RkX w X Q n m vs l L last) (hn : n ≤ 1000) (b : Nat) (hb : b < n) :
  Calls Tryz.prog 45 #[ptr X, .int .i64 b] w fun x w' => ∃ r c, x = .returned (.slice (some ⟨r, 0, none⟩) 32 c) ∧ (∀ (j : Nat) (y : Int), (lookW l vs b)[j]? = some y → w.cell? ⟨r, 0 + j, none⟩ = some (.int .u64 y)) ∧ w' = w := by
 obtain ⟨iv, nv, hx, hi, hnv⟩ := h.head
 obtain ⟨x0, x1, x2, x3, x4⟩ := cells5 hx
 obtain ⟨a, cap, rfl, hrow, _⟩ := hi.row
 have hin := rin_at (inL l n) a cap b w hrow (by have := fl_len (fun i => (l i).1.isSome) n; unfold inL; omega)
 rw [in_has hb] at hin
 have ib : (b : Int) < (n : Int) := by omega
 have ib2 : ¬ ((n : Int) ≤ (b : Int)) := by omega
 cases hl : (l b).1 with
 | some ws =>
  rw [hl] at hin
  obtain ⟨row, hr, hs, hc⟩ := h.wrow
  obtain ⟨v, g1, g2⟩ := hc b hb
  have c1 : w.cell? ⟨Q.wb, b, none⟩ = some v := by rw [cell_of_heap hr]; exact g1
  obtain ⟨r, c, rfl, hcs⟩ := (g2 ws hl).has (h.linv.len b hb ws hl)
  have HV : Hid (∀ (j : Nat) (y : Int), (lookW l vs b)[j]? = Option.some y → w.cell? ⟨r, 0 + j, none⟩ = Option.some (.int .u64 y)) := by
   show ∀ _, _
   unfold lookW
   rw [hl]
   exact hcs
  clear h hr hc g1 g2 hrow hi hnv hx hl hcs
  generalize (inL l n).length = z at *
  go_enter Tryz.func45, Tryz.ntmps45
  go_wp2_with (go_at_call 80; refine hin.mono ?_; rintro x w1 ⟨rfl, hw1⟩; rw [hw1]; clear hw1 w1)
  go_ret
  exact ⟨r, c, rfl, HV.out, rfl⟩
 | none =>
  rw [hl] at hin
  obtain ⟨gt, pt, hd, _⟩ := h.disk
  have d0 := hd.c0
  obtain ⟨cur, hh, ht⟩ := hd.tab
  obtain ⟨r, c, row, q1, q2, q3, q4, q5⟩ := ht b hb
  have c1 : w.cell? ⟨Q.lb, b, none⟩ = some (.slice (some ⟨r, 0, none⟩) 32 c) := by rw [cell_of_heap hh]; exact q1
  have HV : Hid (∀ (j : Nat) (y : Int), (lookW l vs b)[j]? = Option.some y → w.cell? ⟨r, 0 + j, none⟩ = Option.some (.int .u64 y)) := by
   show ∀ _, _
   unfold lookW
   rw [hl]
   intro j y hy
   rw [cell_of_heap q2, Nat.zero_add]
   exact q5 j y hy
  clear h hd hh ht hrow hi hnv hx hl q1 q2 q3 q4 q5
  generalize (inL l n).length = z at *
  go_enter Tryz.func45, Tryz.ntmps45
  go_wp2_with (go_at_call 80; refine hin.mono ?_; rintro x w1 ⟨rfl, hw1⟩; rw [hw1]; clear hw1 w1)
  go_ret
  exact ⟨r, c, rfl, HV.out, rfl⟩
theorem rxget_no (h : RkX w X Q n m vs l L last) (hk : Lx T L last n) (e s b : Int) (hb : I64 b) (hq : mayX T e s b 1 = false) :
  Calls Tryz.prog 86 #[ptr X, .int .i64 e, .int .i64 s, .int .i64 b] w fun x w' => x = .returned (.tuple #[.slice none 0 0, .int .i64 104]) ∧ Below w.heap.size w w' := by
 have hM := rxmay_at h hk e s b 1 hb (Or.inl rfl)
 rw [hq] at hM
 clear h hk hq
 go_enter Tryz.func86, Tryz.ntmps86
 go_wp2_with (go_at_call 148; refine hM.mono ?_; rintro x w1 ⟨rfl, hb1⟩)
 go_ret2
 exact ⟨rfl, hb1⟩
theorem RkX.getEnd {b : Nat} {v u : Value} (h : RkX w X Q n m vs l L last) (hb : b < n) (hv : IV w v (insI b (inL l n))) (hu : URow Q.dx w u (lookW l vs b)) (hl : (lookW l vs b).length = 32) :
  RkX ((w.setCell ⟨X, 2, none⟩ v).setCell ⟨Q.wb, b, none⟩ u) X Q n m vs (getL l vs b) L last ∧ UpdP (fun k => k = X ∨ k = Q.wb) w ((w.setCell ⟨X, 2, none⟩ v).setCell ⟨Q.wb, b, none⟩ u) := by
 obtain ⟨iv, nv, hx, hi, hn⟩ := h.head
 have hne := h.Xwb
 have hup1 : UpdP (fun k => k = X) w (w.setCell ⟨X, 2, none⟩ v) := (Upd.setCell _ _ _ _).p _ rfl
 have hup : UpdP (fun k => k = X ∨ k = Q.wb) w ((w.setCell ⟨X, 2, none⟩ v).setCell ⟨Q.wb, b, none⟩ u) := ((Upd.setCell _ _ _ _).p _ (Or.inl rfl)).trans ((Upd.setCell _ _ _ _).p _ (Or.inr rfl))
 have h3 : ∀ k, (k = X ∨ k = Q.wb) → NoT w k := fun k e => h.noT k (by rcases e with e | e; exact Or.inl e; exact Or.inr (Or.inr (Or.inr (Or.inr e))))
 have hw1 : WRow Q.dx (w.setCell ⟨X, 2, none⟩ v) Q.wb n l := h.wrow.keepT hup1 (fun e => hne e.symm) (fun k e => h3 k (Or.inl e))
 have hu1 : URow Q.dx (w.setCell ⟨X, 2, none⟩ v) u (lookW l vs b) := hu.keepT hup1 (fun k e => (h3 k (Or.inl e)).1)
 refine ⟨h.updL hup ⟨v, nv, ?_, ?_, ?_⟩ (hw1.set hb u _ _ hu1) (h.linv.set _ _ _ hl), hup⟩
 ·exact (Below.heap_setCell _ _ _ _ hne).trans (set2_heap hx v)
 ·have := hv.keepT hup (fun k hk => (h3 k hk).2.1)
  rw [in_set hb (lookW l vs b) (l b).2] at this
  exact this
 ·rw [new_get]
  exact hn.keepT hup (fun k hk => (h3 k hk).2.1)
set_option maxRecDepth 100000 in
set_option maxHeartbeats 2000000 in
theorem rxget_yes (h : RkX w X Q n m vs l L last) (hk : Lx T L last n) (e s : Int) (b : Nat) (hb : I64 b) (hq : mayX T e s b 1 = true) :
  Calls Tryz.prog 86 #[ptr X, .int .i64 e, .int .i64 s, .int .i64 b] w fun x w' => ∃ u, x = .returned (.tuple #[u, .int .i64 0]) ∧ URow w.heap.size w' u (lookW l vs b) ∧ RkX w' X Q n m vs (getL l vs b) L last ∧ UpdP (RF X Q) w w' := by
 have HDx : Hid (Q.dx ≤ w.heap.size) := Nat.le_of_lt (h.lows Q.dx (Or.inr (Or.inl rfl)))
 obtain ⟨i0, hi0, hzz⟩ := Option.map_eq_some_iff.1 Di.wordInfo
 simp only [Prod.mk.injEq] at hzz
 obtain ⟨hz0, hz1, hz2⟩ := hzz
 have hM := rxmay_at h hk e s b 1 hb (Or.inl rfl)
 rw [hq] at hM
 have hbn : b < n := by have := (mayX_in hk.inv hq).2; omega
 have HH : Hid _ := h
 have hn := hk.n2
 have HL : Hid ((lookW l vs b).length = 32) := by
  obtain ⟨gt, pt, hd, _⟩ := h.disk
  exact lookW_len h.linv hd.len hbn
 have ib : (b : Int) < (n : Int) := by omega
 clear h hk hq hb
 go_enter Tryz.func86, Tryz.ntmps86
 go_wp2_with (first | (go_at_call 148; refine hM.mono ?_; rintro x w1 ⟨rfl, hb1⟩) | fail)
 have HB1 : Hid _ := hb1
 refine (rxlook_at (HH.out.below hb1) hn b hbn).mono ?_
 rintro x w2 ⟨r, c, rfl, hcs, hw2⟩
 rw [hw2]
 clear hw2 w2
 have hK1 := HH.out.below hb1
 have HK1 : Hid _ := hK1
 have HN : Hid (∀ (j : Nat) (y : Value), (uvs (lookW l vs b))[j]? = some y → w1.cell? ((⟨r, 0, none⟩ : Addr).add j) = some y) := by
  intro j y hy
  obtain ⟨z, hz, rfl⟩ := uvs_get hy
  rw [add0]
  exact hcs j z hz
 have hown := World.ownsRow_nil w1 w1.heap.size 42 1
 clear hK1 hb1 hcs hM
 go_wp2_with (first
   | (at_builtin; refine wpList_append_lies _ rfl _ _ _ rfl w1.heap.size 42 i0 _ 1 8 Tryz.underlying27 hi0 hz0 hz1 hz2 rfl (by omega) (.slice none 0 0) 0 [] rfl hown ⟨r, 0, none⟩ 32 c (uvs (lookW l vs b)) rfl (by rw [uvs_len, HL.out])
       HN.out (uvs_one _) (by omega) (by unfold maxLen; omega) (by omega) (by omega) _ rfl ?_; intro gg cap2 w3 hown3 hgrow hat hlt2
      have hb3 : Below w1.heap.size w1 w3 := below_grown hgrow (Nat.le_refl _) (fun g e => by simp [Value.ownBlock] at e)
      have hK3 := HK1.out.below hb3
      obtain ⟨iv, nv, hx3, hi3, hn3⟩ := hK3.head
      obtain ⟨a3, cap3, rfl, hrow3, hcap3⟩ := hi3.row
      obtain ⟨-, -, x2, -, -⟩ := cells5 hx3)
   | fail)
 have HR3 : Hid (URow w1.heap.size w3 (.slice (some ⟨gg, 0, none⟩) 32 cap2) (lookW l vs b)) := by
  have := urow_of_own (zs := lookW l vs b) (w := w3) (base := w1.heap.size) (v := .slice (some ⟨gg, 0, none⟩) 32 cap2) (by rw [HL.out]; simpa using hown3)
  exact this
 have HB3 : Hid _ := hb3
 have HK3 : Hid _ := hK3
 have hpi := rputi_at (inL l n) a3 cap3 b w3 hrow3 (by have := fl_len (fun i => (l i).1.isSome) n; unfold inL; omega) hcap3
 clear hown3 hgrow hat hlt2 hb3 hK3 hi3 hn3 hrow3 hcap3 hx3
 refine hpi.mono ?_
 rintro x w4 ⟨v4, rfl, hown4, hb4⟩
 have hiv4 := iv_of_own hown4
 obtain ⟨a4, cap4, rfl, -, -⟩ := id hiv4
 have hK4 := HK3.out.below hb4
 have hr4 := URow.keepT HR3.out (UpdP.of_below (P := fun _ => False) hb4) (fun _ q => q.elim)
 obtain ⟨q1, q2⟩ := hK4.getEnd hbn hiv4 (hr4.mono (Nat.le_trans HDx.out HB1.out.size)) HL.out
 obtain ⟨iv4, nv4, hx4, -, -⟩ := hK4.head
 obtain ⟨-, -, x2, -, -⟩ := cells5 hx4
 have hf4 : w4.frozen? ⟨X, 2, none⟩ = false := frozen_of_heap hx4
 have hx5 := set2_heap hx4 (.slice a4 (insI (b : Int) (inL l n)).length cap4)
 obtain ⟨-, -, -, -, x4⟩ := cells5 hx5
 have hw5 : WRow Q.dx (w4.setCell ⟨X, 2, none⟩ (.slice a4 (insI (b : Int) (inL l n)).length cap4)) Q.wb n l := hK4.wrow.keepT ((Upd.setCell X 2 w4 _).p (fun k => k = X) rfl) (fun e => hK4.Xwb e.symm) (fun k e => hK4.noT k (Or.inl e))
 obtain ⟨⟨u5, c5⟩, f5⟩ := hw5.some hbn
 have HQ1 : Hid _ := q1
 have HU : Hid (UpdP (RF X Q) w _) := (((UpdP.of_below HB1.out).trans (UpdP.of_below HB3.out)).trans (UpdP.of_below hb4)).trans (q2.mono (fun k hk => by rcases hk with e | e; exact Or.inl e; exact Or.inr (Or.inr (Or.inr (Or.inr e)))))
 have HR : Hid (URow w.heap.size _ (.slice (some ⟨gg, 0, none⟩) 32 cap2) (lookW l vs b)) := (hr4.keepT q2 (fun k hk => (hK4.noT k (by rcases hk with e | e; exact Or.inl e; exact Or.inr (Or.inr (Or.inr (Or.inr e))))).1)).mono HB1.out.size
 clear q1 q2 hK4 hr4 hiv4 hown4 hb4 hx4 hx5 hw5 hpi HR3
 generalize (insI (b : Int) (inL l n)).length = z4 at *
 go_wp2
 go_ret2
 exact ⟨_, rfl, HR.out, HQ1.out, HU.out⟩
end
end Xd
end Go.Proofs.YtbhpafgoofkkmaaGreatDoor
namespace Go.Proofs.YtbhpafgoofkkmaaGreatDoor
open Go.RowKit Ca
namespace Xd
section
variable {w w' : World} {X : Nat} {Q : Rq} {n m : Nat} {vs : List Int} {l : Lines} {L : List Ce} {last : Int} {T : Tab}
theorem rfX : ∀ k, (k = X ∨ k = Q.wb) → RF X Q k := fun k hk => by rcases hk with e | e; exact Or.inl e; exact Or.inr (Or.inr (Or.inr (Or.inr e)))
set_option maxRecDepth 100000 in
set_option maxHeartbeats 4000000 in
theorem rxput_yes {v : Value} {ws : List Int} (h : RkX w X Q n m vs l L last) (hk : Lx T L last n) (e s : Int) (b : Nat) (hb : I64 b) (hv : ∀ w', UpdP (RF X Q) w w' → RdV w' v ws) (hl : ws.length = 32) (hq : mayX T e s b 2 = true) :
  Calls Tryz.prog 87 #[ptr X, .int .i64 e, .int .i64 s, .int .i64 b, v] w fun x w' => x = .returned (.int .i64 0) ∧ RkX w' X Q n m vs (putL l b ws) L last ∧ UpdP (RF X Q) w w' := by
 obtain ⟨i0, hi0, hzz⟩ := Option.map_eq_some_iff.1 Di.wordInfo
 simp only [Prod.mk.injEq] at hzz
 obtain ⟨hz0, hz1, hz2⟩ := hzz
 have hM := rxmay_at h hk e s b 2 hb (Or.inr rfl)
 rw [hq] at hM
 have hbn : b < n := by have := (mayX_in hk.inv hq).2; omega
 have HH : Hid _ := h
 have hn := hk.n2
 have HL : Hid _ := hl
 have HV : Hid (∀ w', UpdP (RF X Q) w w' → RdV w' v ws) := hv
 obtain ⟨p, po, pc, hvv, -⟩ := (hv w (UpdP.refl _ _)).has 31 (by omega)
 rw [show 31 + 1 = 32 from rfl] at hvv
 subst hvv
 have ib : (b : Int) < (n : Int) := by omega
 clear h hk hq hb hl hv
 go_enter Tryz.func87, Tryz.ntmps87
 go_wp2_with (first | (go_at_call 148; refine hM.mono ?_; rintro x w1 ⟨rfl, hb1⟩
                       have hK1 := HH.out.below hb1
                       obtain ⟨iv, nv, hx1, hi1, hn1⟩ := hK1.head
                       obtain ⟨a1, cap1, rfl, hrow1, hcap1⟩ := hi1.row
                       obtain ⟨-, -, x2, -, -⟩ := cells5 hx1) | fail)
 have HB1 : Hid _ := hb1
 have HK1 : Hid _ := hK1
 have hpi := rputi_at (inL l n) a1 cap1 b w1 hrow1 (by have := fl_len (fun i => (l i).1.isSome) n; unfold inL; omega) hcap1
 clear hb1 hK1 hi1 hn1 hrow1 hcap1 hx1 hM
 refine hpi.mono ?_
 rintro x w2 ⟨v2, rfl, hown2, hb2⟩
 have hiv2 := iv_of_own hown2
 obtain ⟨a2, cap2, rfl, -, -⟩ := id hiv2
 have hK2 := HK1.out.below hb2
 obtain ⟨iv2, nv2, hx2, hi2, hn2⟩ := hK2.head
 obtain ⟨-, -, x2, x3, -⟩ := cells5 hx2
 have hf2 : w2.frozen? ⟨X, 2, none⟩ = false := frozen_of_heap hx2
 have hx3 := set2_heap hx2 (.slice a2 (insI (b : Int) (inL l n)).length cap2)
 obtain ⟨W3, hW3⟩ : ∃ W, W = w2.setCell ⟨X, 2, none⟩ (.slice a2 (insI (b : Int) (inL l n)).length cap2) := ⟨_, rfl⟩
 have hup3 : UpdP (fun k => k = X) w2 W3 := by rw [hW3]; exact (Upd.setCell _ _ _ _).p _ rfl
 rw [← hW3] at hx3
 have hnx : ∀ k, k = X → NoT w2 k := fun k e => hK2.noT k (Or.inl e)
 have hiv3 := hiv2.keepT hup3 (fun k e => (hnx k e).2.1)
 have hnv3 := hn2.keepT hup3 (fun k e => (hnx k e).2.1)
 obtain ⟨a3, cap3, rfl, hrow3, hcap3⟩ := hnv3.row
 have hpn := rputi_at (newL l n) a3 cap3 b W3 hrow3 (by have := fl_len (fun i => (l i).2) n; unfold newL; omega) hcap3
 obtain ⟨-, -, -, y3, -⟩ := cells5 hx3
 have HB2 : Hid (Below w.heap.size w w2) := HB1.out.trans (hb2.mono HB1.out.size)
 have HK2 : Hid _ := hK2
 have HU3 : Hid _ := hup3
 have HX3 : Hid _ := hx3
 have HI3 : Hid (IV W3 (.slice a2 (insI (b : Int) (inL l n)).length cap2) (insI (b : Int) (inL l n))) := hiv3
 clear hpi hown2 hb2 hiv2 hK2 hx2 hx3 hi2 hn2 hup3 hnx hiv3 hnv3 hrow3 hcap3 HB1 HK1
 generalize (insI (b : Int) (inL l n)).length = z2 at *
 go_wp2_with fail
 rw [← hW3]
 clear hW3 x2 x3 hf2
 refine hpn.mono ?_
 rintro x w4 ⟨v4, rfl, hown4, hb4⟩
 have hiv4 := iv_of_own hown4
 obtain ⟨a4, cap4, rfl, -, -⟩ := id hiv4
 have hx4 := (hb4.block _ (lt_of_heap HX3.out)).trans HX3.out
 have hx5 := set3_heap hx4 (.slice a4 (insI (b : Int) (newL l n)).length cap4)
 obtain ⟨-, -, -, x3, -⟩ := cells5 hx4
 have hf4 : w4.frozen? ⟨X, 3, none⟩ = false := frozen_of_heap hx4
 obtain ⟨W5, hW5⟩ : ∃ W, W = w4.setCell ⟨X, 3, none⟩ (.slice a4 (insI (b : Int) (newL l n)).length cap4) := ⟨_, rfl⟩
 have hup5 : UpdP (fun k => k = X) w4 W5 := by rw [hW5]; exact (Upd.setCell _ _ _ _).p _ rfl
 have hup25 : UpdP (fun k => k = X) w2 W5 := (HU3.out.trans (UpdP.of_below hb4)).trans hup5
 rw [← hW5] at hx5
 have hnx : ∀ k, k = X → NoT w2 k := fun k e => HK2.out.noT k (Or.inl e)
 have hnx4 : ∀ k, k = X → NoT w4 k := fun k e => by subst e; exact noT_of hx4 (by decide) (by decide) (by decide)
 have HIV5 : Hid (IV W5 (.slice a2 z2 cap2) (insI (b : Int) (inL l n))) := (IV.keepT HI3.out (UpdP.of_below (P := fun _ => False) hb4) (fun _ q => q.elim)).keepT hup5 (fun k e => (hnx4 k e).2.1)
 have HNV5 : Hid (IV W5 (.slice a4 (insI (b : Int) (newL l n)).length cap4) (insI (b : Int) (newL l n))) := hiv4.keepT hup5 (fun k e => (hnx4 k e).2.1)
 have HWR5 : Hid (WRow Q.dx W5 Q.wb n l) := HK2.out.wrow.keepT hup25 (fun e => HK2.out.Xwb e.symm) hnx
 have HV5 : Hid (RdV W5 (.slice (some ⟨p, po, none⟩) 32 pc) ws) := HV.out W5 ((UpdP.of_below HB2.out).trans (hup25.mono (fun k e => Or.inl e)))
 obtain ⟨-, -, -, -, x4⟩ := cells5 hx5
 have HX5 : Hid _ := hx5
 have HU5 : Hid _ := hup25
 clear hpn hown4 hb4 hiv4 hx4 hx5 hup5 hup25 hnx hnx4 HU3 HX3 HI3 HV
 generalize (insI (b : Int) (newL l n)).length = z4 at *
 go_wp2_with fail
 rw [← hW5]
 clear hW5 x3 hf4 y3
 have hnews : ∀ (j : Nat) (x : Value), (uvs ws)[j]? = some x → W5.drew.cell? ((⟨p, po, none⟩ : Addr).add j) = some x := by
  intro j x hx
  obtain ⟨z, hz, rfl⟩ := uvs_get hx
  obtain ⟨p', pc', ep, _, hcs⟩ := HV5.out
  simp only [Value.slice.injEq] at ep
  obtain ⟨g', o', e1, e2⟩ := hcs j z hz
  rw [← ep.1] at e1
  simp only [Option.some.injEq, Addr.mk.injEq] at e1
  obtain ⟨rfl, rfl, _⟩ := e1
  rw [add0]
  exact e2
 have HN : Hid _ := hnews
 have hown := World.ownsRow_nil W5.drew W5.heap.size 42 1
 clear hnews
 refine wp_region_held_drew (S := fun w' => w'.cell? ⟨X, 4, none⟩ = some (.slice (some ⟨Q.wb, 0, none⟩) n n)) (by kernel_rfl) x4 (fun hHeld => ?_)
 refine tkz [0, 1, 2, 3, 4, 5] ?_
 iterate 6
  refine tky (v := ?_) rfl (by kernel_rfl) (by kernel_rfl) (by kernel_rfl) (fun _ _ _ h => h) (Or.inl ⟨by kernel_rfl, ?_⟩) (by assumption) ?_
  rotate_left
  ·(intro w hSw; (try dsimp only at hSw); go_simp) <;> with_reducible rfl
  (try simp only [Act.put, lqa, lqb, lqc, lqd, lqe, lqf])
 refine tkw ?_
 refine wpAnyH_ready (rs := [6]) (by kernel_rfl) (by simp) ?_
 refine AllReadyH.cons rfl (fun K hK => ?_) AllReadyH.nil
 refine step_append_lies _ (by rfl) _ _ _ (by rfl) W5.heap.size 42 i0 _ 1 8 Tryz.underlying27 hi0 hz0 hz1 hz2 rfl (by omega) (.slice none 0 0) 0 [] (by rfl) hown ⟨p, po, none⟩ 32 pc (uvs ws) (by rfl) (by rw [uvs_len, HL.out])
    HN.out (uvs_one _) (by omega) (by unfold maxLen; omega) (by omega) (by show W5.heap.size ≤ W5.heap.size; omega) _ rfl ?_
 intro gg cap6 w6 hown6 hgrow hat hlt6
 have hb6 : Below W5.heap.size W5 w6 := by
  have := below_grown (B := W5.heap.size) hgrow (Nat.le_refl _) (fun g e => by simp [Value.ownBlock] at e)
  exact ⟨this.os, this.tape, this.output, this.size, this.block⟩
 have hx6 := (hb6.block _ (lt_of_heap HX5.out)).trans HX5.out
 obtain ⟨-, -, -, -, x46⟩ := cells5 hx6
 have hu6 : URow W5.heap.size w6 (.slice (some ⟨gg, 0, none⟩) 32 cap6) ws := urow_of_own (zs := ws) (by rw [HL.out]; simpa using hown6)
 have hwr6 := WRow.keepT HWR5.out (UpdP.of_below (P := fun _ => False) hb6) (fun e => e) (fun _ q => q.elim)
 obtain ⟨⟨u6, c6⟩, f6⟩ := hwr6.some hbn
 obtain ⟨Z, hZ⟩ : ∃ Z, Z = w6.setCell ⟨Q.wb, b, none⟩ (.slice (some ⟨gg, 0, none⟩) 32 cap6) := ⟨_, rfl⟩
 have hne := HK2.out.Xwb
 have hxZ : Z.heap[X]? = some (.cells #[ptr Q.dx, ptr Q.c, .slice a2 z2 cap2, .slice a4 z4 cap4, .slice (some ⟨Q.wb, 0, none⟩) n n] 70) := by
  rw [hZ]
  exact (Below.heap_setCell _ _ _ _ hne).trans hx6
 have hupZ : UpdP (fun k => k = Q.wb) w6 Z := by rw [hZ]; exact (Upd.setCell _ _ _ _).p _ rfl
 have hnw : ∀ k, k = Q.wb → NoT w6 k := fun k e => by
  obtain ⟨row, hr, _⟩ := hwr6
  subst e
  exact noT_of hr (by decide) (by decide) (by decide)
 have hup2Z : UpdP (fun k => k = X ∨ k = Q.wb) w2 Z := ((HU5.out.mono (fun k e => Or.inl e)).trans (UpdP.of_below hb6)).trans (hupZ.mono (fun k e => Or.inr e))
 have HFin : Hid (RkX Z X Q n m vs (putL l b ws) L last) := by
  refine HK2.out.updL hup2Z ⟨_, _, hxZ, ?_, ?_⟩ ?_ (HK2.out.linv.set _ _ _ HL.out)
  ·have := (IV.keepT HIV5.out (UpdP.of_below (P := fun _ => False) hb6) (fun _ q => q.elim)).keepT hupZ (fun k e => (hnw k e).2.1)
   rw [in_set hbn ws true] at this
   exact this
  ·have := (IV.keepT HNV5.out (UpdP.of_below (P := fun _ => False) hb6) (fun _ q => q.elim)).keepT hupZ (fun k e => (hnw k e).2.1)
   rw [new_set hbn ws] at this
   exact this
  ·rw [hZ]
   exact hwr6.set hbn _ ws true (hu6.mono (Nat.le_trans (Nat.le_of_lt (HK2.out.lows Q.dx (Or.inr (Or.inl rfl)))) HU5.out.size))
 have HUF : Hid (UpdP (RF X Q) w Z) := (UpdP.of_below (HB2.out : Below w.heap.size w w2)).trans (hup2Z.mono rfX)
 obtain ⟨-, -, -, -, xZ4⟩ := cells5 hxZ
 clear hb6 hx6 hu6 hwr6 hxZ hupZ hnw hup2Z hown6 hgrow hat hlt6 hne
 refine hK.out _ _ x46 (fun hHeld => ?_)
 clear hK K
 (try simp only [Act.put, lqa, lqb, lqc, lqd, lqe, lqf])
 refine tkz [7] ?_
 iterate 1
  refine tky (v := ?_) rfl (by kernel_rfl) (by kernel_rfl) (by kernel_rfl) (fun _ _ _ h => h) (Or.inl ⟨by kernel_rfl, ?_⟩) (by assumption) ?_
  rotate_left
  ·(intro w hSw; (try dsimp only at hSw); go_simp) <;> with_reducible rfl
  (try simp only [Act.put, lqa, lqb, lqc, lqd, lqe, lqf])
 refine tkw ?_
 refine wpAnyH_ready (rs := [8]) (by kernel_rfl) (by simp) ?_
 refine AllReadyH.cons rfl (fun K hK => ?_) AllReadyH.nil
 go_simp
 rw [← hZ]
 clear hZ
 refine hK.out _ _ xZ4 (fun hHeld => ?_)
 clear hK K
 (try simp only [Act.put, lqa, lqb, lqc, lqd, lqe, lqf])
 refine wpAnyH_done (by kernel_rfl) ?_ _
 go_wp2
 go_ret
 exact ⟨rfl, HFin.out, HUF.out⟩
theorem rxput_at {v : Value} {ws : List Int} (h : RkX w X Q n m vs l L last) (hk : Lx T L last n) (e s b : Int) (hb : I64 b) (hv : ∀ w', UpdP (RF X Q) w w' → RdV w' v ws) :
  Calls Tryz.prog 87 #[ptr X, .int .i64 e, .int .i64 s, .int .i64 b, v] w fun x w' => x = .returned (.int .i64 (putRr T e s b ws.length)) ∧ RkX w' X Q n m vs (putLl T l e s b ws) L last ∧ UpdP (RF X Q) w w' := by
 have hM := rxmay_at h hk e s b 2 hb (Or.inr rfl)
 have HH : Hid _ := h
 cases hq : mayX T e s b 2 with
 | false =>
  rw [hq] at hM
  have HA : Hid (putRr T e s b ws.length = 104 ∧ putLl T l e s b ws = l) := by
   show _ ∧ _
   simp [putRr, putLl, hq]
  clear hq h hv hk
  generalize putRr T e s b ws.length = R at *
  go_enter Tryz.func87, Tryz.ntmps87
  go_wp2_with (go_at_call 148; refine hM.mono ?_; rintro x w1 ⟨rfl, hb1⟩)
  go_ret
  exact ⟨by rw [HA.out.1]; rfl, by rw [HA.out.2]; exact HH.out.below hb1, UpdP.of_below hb1⟩
 | true =>
  obtain ⟨b0, b1⟩ := mayX_in hk.inv hq
  obtain ⟨b, rfl⟩ := nat_of b b0
  by_cases hl : ws.length = 32
  ·have h1 : putRr T e s b ws.length = 0 ∧ putLl T l e s b ws = putL l b ws := by simp [putRr, putLl, hq, hl]
   rw [h1.1, h1.2]
   exact rxput_yes h hk e s b hb hv hl hq
  ·rw [hq] at hM
   have HA : Hid (putRr T e s b ws.length = 101 ∧ putLl T l e s b ws = l) := by
    show _ ∧ _
    simp [putRr, putLl, hq, hl]
   obtain ⟨a, cap, rfl, _⟩ := hv w (UpdP.refl _ _)
   have h32 : (((ws.length : Nat) : Int) != 32) = true := by simp; omega
   clear hq h hk b0 b1 hb hl
   generalize putRr T e s b ws.length = R at *
   generalize ws.length = z at *
   go_enter Tryz.func87, Tryz.ntmps87
   go_wp2_with (go_at_call 148; refine hM.mono ?_; rintro x w1 ⟨rfl, hb1⟩)
   go_ret
   exact ⟨by rw [HA.out.1]; rfl, by rw [HA.out.2]; exact HH.out.below hb1, UpdP.of_below hb1⟩
end
end Xd
end Go.Proofs.YtbhpafgoofkkmaaGreatDoor
namespace Go.Proofs.YtbhpafgoofkkmaaGreatDoor
open Go.RowKit Ca
namespace Xd
def Gw (w' : World) (X : Nat) (Q : Rq) (n m : Nat) (vs : List Int) (l : Lines) (L : List Ce) (last : Int) (T : Tab) : Prop :=
 ∃ L' last', RkX w' X Q n m vs l L' last' ∧ Rel T L' last' ∧ 0 ≤ last' ∧ L'.length ≤ L.length + 1 ∧ last' ≤ last + 1
theorem rev_N (T : Tab) (p : Int × Int) (hp : p.2 ≠ 0) : ∃ N, (Ca.revS T p (N + 1)).2.length = N + 1 := by
 have mono : ∀ i, (Ca.revS T p i).2.length ≤ (Ca.revS T p (i + 1)).2.length := by
  intro i
  show _ ≤ (Ca.revS T p (i + 1)).2.length
  rw [Ca.revS]
  split
  ·exact Nat.le_refl _
  ·simp
 have step : ∀ i, (∃ N, (Ca.revS T p (N + 1)).2.length = N + 1) ∨ i < (Ca.revS T p i).2.length := by
  intro i
  induction i with
  | zero => right; simp [Ca.revS]
  | succ i ih =>
   rcases ih with h | h
   ·exact Or.inl h
   ·have := mono i
    by_cases e : (Ca.revS T p (i + 1)).2.length = i + 1
    ·exact Or.inl ⟨i, e⟩
    ·right; omega
 rcases step 769 with h | h
 ·exact h
 ·have := revS_len T p hp 769
  omega
theorem rrev_len (L : List Ce) (root : Int) (bad : List Int) : (rrevL L root bad).length ≤ L.length := List.length_filter_le _ _
section
variable {w w' : World} {X : Nat} {Q : Rq} {n m : Nat} {vs : List Int} {l : Lines} {L : List Ce} {last : Int} {T : Tab}
theorem rfC {w1 : World} (hu : Upd Q.c w w1) : UpdP (RF X Q) w w1 := hu.p _ (Or.inr (Or.inr (Or.inr (Or.inl rfl))))
theorem rxgive_at (h : RkX w X Q n m vs l L last) (hk : Lx T L last n) (e s q r : Int) :
  Calls Tryz.prog 84 #[ptr Q.c, .int .i64 e, .int .i64 s, .int .i64 q, .int .i64 r] w fun x w' => x = .returned (.tuple #[.int .i64 (giveA T e s q r), .int .i64 (giveR T e s q r)]) ∧ Gw w' X Q n m vs l L last (giveT T e s q r) ∧ UpdP (RF X Q) w w' := by
 obtain ⟨sv, hC⟩ := h.caps
 have hl := hk.len
 have ht := hk.top
 rcases hk.rel.find e s with ⟨hf, hi⟩ | ⟨k, d, hf, hd, rfl, rfl, hg, hi⟩
 ·obtain ⟨q1, q2, q3⟩ := Rel.giveNo hi q r
  rw [q1, q2, q3]
  refine (rgive_no Q.M Q.c sv L last e s q r w hC (by omega) hf).mono ?_
  rintro x w' ⟨hx, rfl⟩
  exact ⟨hx, ⟨L, last, h, hk.rel, hk.pos, by omega, by omega⟩, UpdP.refl _ _⟩
 ·obtain ⟨q1, q2, q3, q4, q5, q6⟩ := hk.rel.give hk.pos (List.mem_of_getElem? hd) hg hi q r
  rw [q1, q2]
  refine (rgive_yes Q.M Q.c sv L last d.env d.slot q r k d w hC h.MS (by omega) ⟨hk.pos, by omega⟩ hf hd).mono ?_
  rintro x w' ⟨hx, sv', hc', hu⟩
  have hp := hk.pos
  exact ⟨hx, ⟨_, _, h.updC hc' hu, q3, by omega, q4, q6⟩, rfC hu⟩
theorem rxrevoke_at (h : RkX w X Q n m vs l L last) (hk : Lx T L last n) (e s : Int) :
  Calls Tryz.prog 85 #[ptr Q.c, .int .i64 e, .int .i64 s] w fun x w' => ∃ N : Int, x = .returned (.tuple #[.int .i64 N, .int .i64 (revR T e s)]) ∧ Gw w' X Q n m vs l L last (revT T e s) ∧ UpdP (RF X Q) w w' := by
 obtain ⟨sv, hC⟩ := h.caps
 have hl := hk.len
 rcases hk.rel.find e s with ⟨hf, hi⟩ | ⟨k, d, hf, hd, rfl, rfl, hg, hi⟩
 ·refine (rrevoke_no Q.M Q.c sv L last e s w hC (by omega) hf).mono ?_
  rintro x w' ⟨hx, rfl⟩
  refine ⟨0, by rw [hx]; unfold revR; rw [hi]; rfl, ⟨L, last, h, ?_, hk.pos, by omega, by omega⟩, UpdP.refl _ _⟩
  unfold revT
  rw [hi]
  exact hk.rel
 ·have hm := List.mem_of_getElem? hd
  obtain ⟨N, hN⟩ := rev_N T (d.env, d.slot) (hk.rel.slot hm)
  refine (rrevoke_yes Q.M Q.c sv L last d.env d.slot k d w hC h.MS (by omega) hf hd).mono ?_
  rintro x w' ⟨bad, hb, hx, sv', hc', hu⟩
  obtain ⟨_, hr⟩ := hk.rel.rev hm N hN hb
  have hle := rrev_len L d.no bad
  refine ⟨_, by rw [hx]; unfold revR; rw [if_pos hi], ⟨rrevL L d.no bad, last, h.updC hc' hu, ?_, hk.pos, by omega, by omega⟩, rfC hu⟩
  rw [revT_is hi hN]
  exact hr
set_option maxRecDepth 100000 in
set_option maxHeartbeats 2000000 in
theorem rxalloc_at (h : RkX w X Q n m vs l L last) (hk : Lx T L last n) (e f k : Int) (hf : I64 f) (hkk : I64 k) :
  Calls Tryz.prog 83 #[ptr X, .int .i64 e, .int .i64 f, .int .i64 k] w fun x w' => x = .returned (.tuple #[.int .i64 (xallocA T n e f k), .int .i64 (xallocR T n e f k)]) ∧ Gw w' X Q n m vs l L last (xallocT T n e f k) ∧ UpdP (RF X Q) w w' := by
 have hE := fun W => renv_at e W
 have HH : Hid _ := h
 have HK : Hid _ := hk
 have HQ : Hid (xallocA T n e f k = if (isE e && areX n f k) = true then (if anyX T f k.toNat = true then 0 else addA T e ⟨2, f, k, 7⟩) else 0) := rfl
 have HR : Hid (xallocR T n e f k = if (isE e && areX n f k) = true then (if anyX T f k.toNat = true then 104 else addR T e ⟨2, f, k, 7⟩) else 101) := rfl
 have HT : Hid (xallocT T n e f k = if (isE e && areX n f k) = true then (if anyX T f k.toNat = true then T else addT T e ⟨2, f, k, 7⟩) else T) := rfl
 have x4 := h.x4
 have hn := hk.n2
 have HG : Hid (Gw w X Q n m vs l L last T) := ⟨L, last, h, hk.rel, hk.pos, by omega, by omega⟩
 obtain ⟨f1, f2⟩ := hf
 obtain ⟨k1, k2⟩ := hkk
 generalize xallocA T n e f k = A at *
 generalize xallocR T n e f k = R at *
 generalize xallocT T n e f k = T' at *
 cases he : isE e with
 | false =>
  rw [he] at hE
  have hAA : A = 0 := by rw [HQ.out, he]; rfl
  have hRR : R = 101 := by rw [HR.out, he]; rfl
  have hTT : T' = T := by rw [HT.out, he]; rfl
  subst hAA hRR hTT
  clear HQ HR HT he h hk HH HK
  go_enter Tryz.func83, Tryz.ntmps83
  go_wp2_with (go_at_call 59; refine (hE _).mono ?_; rintro x w1 ⟨rfl, hw1⟩; rw [hw1]; clear hw1 w1)
  go_ret2
  exact ⟨rfl, HG.out, UpdP.refl _ _⟩
 | true =>
  rw [he] at hE HQ HR HT
  cases ha : areX n f k with
  | false =>
   have hAA : A = 0 := by rw [HQ.out, ha]; rfl
   have hRR : R = 101 := by rw [HR.out, ha]; rfl
   have hTT : T' = T := by rw [HT.out, ha]; rfl
   subst hAA hRR hTT
   have hcase : k < 1 ∨ (1 ≤ k ∧ f < 0) ∨ (1 ≤ k ∧ 0 ≤ f ∧ (n : Int) ≤ f) ∨ (1 ≤ k ∧ 0 ≤ f ∧ f < n ∧ (n : Int) - f < k) := by
    simp [areX] at ha
    omega
   clear HQ HR HT he h hk HH HK ha
   rcases hcase with g | ⟨g0, g⟩ | ⟨g0, g1, g⟩ | ⟨g0, g1, g2, g⟩
   all_goals
    go_enter Tryz.func83, Tryz.ntmps83
    go_wp2_with (go_at_call 59; refine (hE _).mono ?_; rintro x w1 ⟨rfl, hw1⟩; rw [hw1]; clear hw1 w1)
    go_ret2
    exact ⟨rfl, HG.out, UpdP.refl _ _⟩
  | true =>
   rw [ha] at HQ HR HT
   obtain ⟨f, k, rfl, rfl, hfk, hk1⟩ := areX_nat ha
   simp only [Int.toNat_natCast] at HQ HR HT
   clear h hk he ha f1 f2 k1 k2
   have g0 : decide ((k : Int) < 1) = false := decide_eq_false (by omega)
   have g1 : decide ((f : Int) < 0) = false := decide_eq_false (by omega)
   have g2 : decide ((n : Int) ≤ (f : Int)) = false := decide_eq_false (by omega)
   have g3 : decide ((n : Int) - (f : Int) < (k : Int)) = false := decide_eq_false (by omega)
   have g4 : decide (n ≤ f) = false := decide_eq_false (by omega)
   go_enter Tryz.func83, Tryz.ntmps83
   go_wp2_with (go_at_call 59; refine (hE _).mono ?_; rintro x w1 ⟨rfl, hw1⟩; rw [hw1]; clear hw1 w1)
   go_loopw [10] (fun s wr => ∃ (j : Nat), j ≤ k ∧ s = .int .i64 (f + j : Nat) ∧ anyX T f j = false ∧ Below w.heap.size w wr) (fun s _ => f + k - (intOf s).toNat)
   case atStart => exact ⟨0, by omega, rfl, rfl, Below.refl _ _⟩
   case round =>
    obtain ⟨j, hj, rfl, hno, hb⟩ := hrel
    have hKr := HH.out.below hb
    have c1 := hKr.x1
    obtain ⟨sv, hC⟩ := hKr.caps
    by_cases hjk : j < k
    ·have hh := rhold_at Q.M Q.c sv L last 2 (f + j : Nat) wr hC (by have := HK.out.len; omega) HK.out.rel.rsanes ⟨by omega, by omega⟩
     rw [← HK.out.rel.hold] at hh
     have i1 : ((f + j : Nat) : Int) < (f : Int) + (k : Int) := by omega
     have HN : Hid _ := hno
     have HB : Hid _ := hb
     have HE : Hid (anyX T f (j + 1) = (anyX T f j || !(holdTo T 2 (f + j : Nat) 12).isEmpty)) := by
      show _ = _
      rw [show (((f + j : Nat) : Int)) = (f : Int) + (j : Int) from by omega]
      rfl
     clear hno hb hKr hC
     generalize holdTo T 2 (f + j : Nat) 12 = H at *
     go_wp2_with fail
     refine hh.mono ?_
     rintro x w1 ⟨v, rfl, hown, hb1⟩
     have HB1 : Hid (Below w.heap.size w w1) := HB.out.trans (hb1.mono HB.out.size)
     obtain ⟨a, cap, rfl⟩ : ∃ a cap, v = .slice a H.length cap := by
      rcases hown.2 with ⟨e2, e3⟩ | ⟨g, cap, cur, e2, _⟩
      ·exact ⟨none, 0, by rw [e2, e3]⟩
      ·exact ⟨_, _, e2⟩
     clear hh hown hb1
     cases H with
     | nil =>
      go_wp2
      go_roundw
      case rel => exact ⟨j + 1, by omega, by go_num, by rw [HE.out, HN.out]; rfl, HB1.out⟩
      case measure => simp [intOf]; omega
     | cons d H =>
      have i2 : 0 < (d :: H).length := by simp
      have HA : Hid (anyX T f k = true) := by
       show _ = _
       have h1 : anyX T f (j + 1) = true := by rw [HE.out, HN.out]; rfl
       clear HE HN
       have : ∀ d, anyX T f (j + 1 + d) = true := by
        intro d
        induction d with
        | zero => exact h1
        | succ d ih => show (anyX T f (j + 1 + d) || _) = true; rw [ih]; rfl
       have := this (k - (j + 1))
       rwa [show j + 1 + (k - (j + 1)) = k from by omega] at this
      have hA3 : A = 0 := by rw [HQ.out]; simp [HA.out]
      have hR3 : R = 104 := by rw [HR.out]; simp [HA.out]
      have hT3 : T' = T := by rw [HT.out]; simp [HA.out]
      have HA3 : Hid _ := hA3
      have HR3 : Hid _ := hR3
      have HT3 : Hid _ := hT3
      clear HE HN hA3 hR3 hT3
      generalize (d :: H).length = z at *
      go_wp2
      go_ret2
      refine ⟨by rw [HA3.out, HR3.out]; rfl, ?_, UpdP.of_below HB1.out⟩
      rw [HT3.out]
      exact ⟨L, last, HH.out.below HB1.out, HK.out.rel, HK.out.pos, by omega, by omega⟩
    ·obtain rfl : j = k := by omega
     have i1 : ¬ (((f + j : Nat) : Int) < (f : Int) + (j : Int)) := by omega
     have hadd := radd_at Q.M Q.c sv L last e ⟨2, f, j, 7⟩ wr hC hKr.MS (by have := HK.out.len; omega) ⟨HK.out.pos, by have := HK.out.top; omega⟩
     obtain ⟨p1, p2, p3, p4, p5, p6⟩ := HK.out.rel.add HK.out.pos e ⟨2, f, j, 7⟩
     rw [← p1, ← p2] at hadd
     have hA3 : A = addA T e ⟨2, f, j, 7⟩ := by rw [HQ.out]; simp [hno]
     have hR3 : R = addR T e ⟨2, f, j, 7⟩ := by rw [HR.out]; simp [hno]
     have hT3 : T' = addT T e ⟨2, f, j, 7⟩ := by rw [HT.out]; simp [hno]
     rw [← hA3, ← hR3] at hadd
     rw [← hT3] at p3
     dsimp only [cpRow] at hadd
     have HKr : Hid _ := hKr
     have HP : Hid (Rel T' (raddL L last e ⟨2, f, j, 7⟩) (raddN L last e ⟨2, f, j, 7⟩) ∧ 0 ≤ raddN L last e ⟨2, f, j, 7⟩ ∧ (raddL L last e ⟨2, f, j, 7⟩).length ≤ L.length + 1 ∧ raddN L last e ⟨2, f, j, 7⟩ ≤ last + 1) := ⟨p3, by have := HK.out.pos; omega, p4, p6⟩
     have HB : Hid _ := hb
     clear hno hb hC hA3 hR3 hT3 p1 p2 p3 p4 p5 p6 HQ HR HT hKr
     go_wp2_with fail
     refine hadd.mono ?_
     rintro x w2 ⟨rfl, sv2, hc2, hu2⟩
     have HF : Hid (Gw w2 X Q n m vs l L last T') := ⟨_, _, HKr.out.updC hc2 hu2, HP.out.1, HP.out.2.1, HP.out.2.2.1, HP.out.2.2.2⟩
     have HU : Hid (UpdP (RF X Q) w w2) := (UpdP.of_below HB.out).trans (rfC hu2)
     clear hc2 hu2 hadd
     go_wp2
     go_ret2
     exact ⟨rfl, HF.out, HU.out⟩
end
theorem rowInfo : (Tryz.prog.info? 27).map (fun i => (i.zero, i.size, i.bytes)) = some (some (.slice none 0 0), 1, 24) := by kernel_rfl
def nils (n : Nat) : Array Value := Array.replicate (n * 1) (.slice none 0 0)
theorem make_rows (n : Nat) (h : n ≤ 1024) (w : World) : (Instr.makeSlice 41 (.int .i64 (n : Int)) (.int .i64 (n : Int))).run Tryz.prog w = .ok (.slice (some ⟨w.heap.size, 0, none⟩) n n) (w.alloc (.cells (nils n) 27)) :=
 run_make_flat 41 27 (.slice none 0 0) (.slice none 0 0) 1 24 Tryz.underlying41 rowInfo rfl (by omega) .i64 .i64 n (by omega) (by omega) w
theorem in_zero (n : Nat) : inL L0 n = [] ∧ newL L0 n = [] := by
 constructor
 ·unfold inL fl
  rw [List.map_eq_nil_iff, List.filter_eq_nil_iff]
  intro i _ h
  cases h
 ·unfold newL fl
  rw [List.map_eq_nil_iff, List.filter_eq_nil_iff]
  intro i _ h
  cases h
set_option maxRecDepth 100000 in
set_option maxHeartbeats 2000000 in
theorem rxnew_at (n : Int) (w : World) (h1 : 1 ≤ n) (h2 : n ≤ 1024) :
  Calls Tryz.prog 57 #[.int .i64 n] w fun x w' => ∃ X Q, x = .returned (ptr X) ∧ RkX w' X Q n.toNat 0 (List.replicate (n.toNat * 32) 0) L0 [] 0 ∧ Below w.heap.size w w' ∧ ∀ k, RF X Q k → w.heap.size ≤ k := by
 obtain ⟨n, rfl⟩ := nat_of n (by omega)
 simp only [Int.toNat_natCast]
 have hnew := Di.rnew_ref n w h1 h2
 have hmk := fun w => make_rows n (by omega) w
 simp only [Int.toNat_natCast] at hnew
 obtain ⟨R, hR⟩ : ∃ R, R = nils n := ⟨_, rfl⟩
 rw [← hR] at hmk
 have HR : Hid _ := hR
 clear hR h1 h2
 go_enter Tryz.func57, Tryz.ntmps57
 go_wp2_with fail
 refine hnew.mono ?_
 rintro x w1 ⟨rfl, ⟨gx, cap, hd⟩, hb1⟩
 have HD : Hid _ := hd
 have HB1 : Hid _ := hb1
 clear hd hb1 hnew
 obtain ⟨A1, hA1⟩ : ∃ A, A = w1.alloc (.cells #[.slice none 0 0, .int .i64 0] 104) := ⟨_, rfl⟩
 obtain ⟨A2, hA2⟩ : ∃ A, A = A1.alloc (.cells R 27) := ⟨_, rfl⟩
 obtain ⟨A3, hA3⟩ : ∃ A, A = A2.alloc (.cells #[ptr w.heap.size, ptr w1.heap.size, .slice none 0 0, .slice none 0 0, .slice (some ⟨w1.heap.size + 1, 0, none⟩) n n] 70) := ⟨_, rfl⟩
 have s1 : A1.heap.size = w1.heap.size + 1 := by rw [hA1]; simp
 have s2 : A2.heap.size = w1.heap.size + 1 + 1 := by rw [hA2, World.size_alloc, s1]
 have s3 : A3.heap.size = w1.heap.size + 1 + 1 + 1 := by rw [hA3, World.size_alloc, s2]
 have b1 : Below w1.heap.size w1 A1 := by rw [hA1]; exact below_alloc _ _
 have b2 : Below A1.heap.size A1 A2 := by rw [hA2]; exact below_alloc _ _
 have b3 : Below A2.heap.size A2 A3 := by rw [hA3]; exact below_alloc _ _
 have e1 : A3.heap[w1.heap.size]? = some (.cells #[.slice none 0 0, .int .i64 0] 104) :=
  (b3.block _ (by omega)).trans ((b2.block _ (by omega)).trans (by rw [hA1]; exact heap_alloc_new _ _))
 have e2 : A3.heap[w1.heap.size + 1]? = some (.cells R 27) :=
  (b3.block _ (by omega)).trans (by rw [hA2, ← s1]; exact heap_alloc_new _ _)
 have e3 : A3.heap[w1.heap.size + 1 + 1]? = some (.cells #[ptr w.heap.size, ptr w1.heap.size, .slice none 0 0, .slice none 0 0, .slice (some ⟨w1.heap.size + 1, 0, none⟩) n n] 70) := by
  rw [hA3, ← s2]; exact heap_alloc_new _ _
 have HB3 : Hid (Below w1.heap.size w1 A3) := (b1.trans (b2.mono (by omega))).trans (b3.mono (by omega))
 have HF : Hid (RkX A3 (w1.heap.size + 1 + 1) ⟨w.heap.size, gx, cap, w1.heap.size, w1.heap.size + 1, w1.heap.size + 3⟩ n 0 (List.replicate (n * 32) 0) L0 [] 0) := by
  have hz := in_zero n
  refine ⟨⟨.slice none 0 0, .slice none 0 0, e3, by rw [hz.1]; exact IV.nil _, by rw [hz.2]; exact IV.nil _⟩, ⟨0, 0, HD.out.below HB3.out, Nat.le_refl _⟩, ⟨R, e2, by rw [HR.out]; simp [nils], fun i hi => ⟨.slice none 0 0, by rw [HR.out]; simp [nils, hi], fun ws h => (by cases h)⟩⟩, ⟨.slice none 0 0, e1, World.ownsRow_nil _ _ _ _, fun _ => rfl⟩, ?_, by show w1.heap.size + 3 ≤ _; omega, LInv.zero n⟩
  have := HD.out.glt
  show gx ≠ w1.heap.size + 1
  omega
 clear s1 s2 s3 b1 b2 b3 e1 e2 e3
 go_wp2
 rw [← hA1, ← hA2, ← hA3]
 clear hA1 hA2 hA3
 go_ret
 have s1 := HB1.out.size
 have hgx : w.heap.size < gx := HD.out.low
 refine ⟨_, _, rfl, HF.out, HB1.out.trans (HB3.out.mono s1), ?_⟩
 rintro k (e | e | e | e | e)
 ·rw [e]; omega
 ·rw [e]; exact Nat.le_refl _
 ·rw [e]; show _ ≤ gx; omega
 ·rw [e]; exact s1
 ·rw [e]; show _ ≤ w1.heap.size + 1; omega
end Xd
end Go.Proofs.YtbhpafgoofkkmaaGreatDoor
