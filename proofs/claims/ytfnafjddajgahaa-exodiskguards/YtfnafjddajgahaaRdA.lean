/- The reference kernel of blocks in the heap: where it lies, what keeps it; may, Rel, Look. -/
import Derived.Test.YtfnafjddajgahaaXdG
import Derived.Test.YtfnafjddajgahaaRefDisk
import Derived.Test.YtfnafjddajgahaaDo8
namespace Go.Proofs.Ytfnafjddajgahaa
open Go.RowKit Ca
set_option linter.unusedVariables false

/-- The numbers under n of which p holds. -/
def fl (p : Nat → Bool) (n : Nat) : List Int := ((List.range n).filter p).map Int.ofNat
theorem fl_mem {p : Nat → Bool} {n : Nat} {a : Int} : a ∈ fl p n ↔ ∃ i, i < n ∧ p i = true ∧ a = (i : Int) := by
  unfold fl
  simp only [List.mem_map, List.mem_filter, List.mem_range]
  constructor
  · rintro ⟨i, ⟨h1, h2⟩, rfl⟩; exact ⟨i, h1, h2, rfl⟩
  · rintro ⟨i, h1, h2, rfl⟩; exact ⟨i, ⟨h1, h2⟩, rfl⟩
theorem fl_len (p : Nat → Bool) (n : Nat) : (fl p n).length ≤ n := by
  unfold fl
  rw [List.length_map]
  exact Nat.le_trans (List.length_filter_le _ _) (by simp)
theorem fl_up (p : Nat → Bool) (n : Nat) : Up (fl p n) := by
  unfold Up fl
  rw [List.pairwise_map]
  have h1 : (List.range n).Pairwise (· < ·) := List.pairwise_lt_range
  exact (h1.filter p).imp (fun h => by simpa using h)
theorem fl_ins {p q : Nat → Bool} {n b : Nat} (hb : b < n) (h : ∀ i, i < n → q i = (p i || decide (i = b))) : insI b (fl p n) = fl q n := by
  refine up_eq (insI_up _ _ (fl_up p n)) (fl_up q n) (fun a => ?_)
  rw [insI_mem, fl_mem, fl_mem]
  constructor
  · rintro (rfl | ⟨i, h1, h2, rfl⟩)
    · exact ⟨b, hb, by rw [h b hb]; simp, rfl⟩
    · exact ⟨i, h1, by rw [h i h1, h2]; rfl, rfl⟩
  · rintro ⟨i, h1, h2, rfl⟩
    rw [h i h1] at h2
    simp only [Bool.or_eq_true, decide_eq_true_eq] at h2
    rcases h2 with h2 | rfl
    · exact Or.inr ⟨i, h1, h2, rfl⟩
    · exact Or.inl rfl
theorem fl_same {p q : Nat → Bool} {n : Nat} (h : ∀ i, i < n → q i = p i) : fl q n = fl p n := by
  unfold fl
  congr 1
  exact List.filter_congr (fun i hi => h i (by simpa using hi))
/-- Which blocks are there; which are changed. -/
def inL (l : Lines) (n : Nat) : List Int := fl (fun i => (l i).1.isSome) n
def newL (l : Lines) (n : Nat) : List Int := fl (fun i => (l i).2) n
theorem in_set {l : Lines} {n b : Nat} (hb : b < n) (ws : List Int) (c : Bool) : insI b (inL l n) = inL (l.set b (some ws, c)) n :=
  fl_ins hb (fun i _ => by
    by_cases e : i = b
    · subst e; rw [Lines.set_same]; simp
    · rw [Lines.set_other _ _ _ _ e]; simp [e])
theorem new_set {l : Lines} {n b : Nat} (hb : b < n) (ws : List Int) : insI b (newL l n) = newL (putL l b ws) n :=
  fl_ins hb (fun i _ => by
    unfold putL
    by_cases e : i = b
    · subst e; rw [Lines.set_same]; simp
    · rw [Lines.set_other _ _ _ _ e]; simp [e])
theorem new_get (l : Lines) (vs : List Int) (n b : Nat) : newL (getL l vs b) n = newL l n :=
  fl_same (fun i _ => by
    unfold getL
    by_cases e : i = b
    · subst e; rw [Lines.set_same]
    · rw [Lines.set_other _ _ _ _ e])
theorem in_has {l : Lines} {n b : Nat} (hb : b < n) : (inL l n).contains (b : Int) = (l b).1.isSome := by
  cases h : (l b).1.isSome with
  | true =>
    rw [List.contains_iff_mem]
    exact fl_mem.2 ⟨b, hb, h, rfl⟩
  | false =>
    rw [← Bool.not_eq_true, List.contains_iff_mem]
    intro hm
    obtain ⟨i, _, h2, h3⟩ := fl_mem.1 hm
    have : i = b := by omega
    subst this
    rw [h] at h2
    cases h2

/-- A row of ints that can be read. -/
def IV (w : World) (v : Value) (xs : List Int) : Prop :=
  ∃ a cap, v = .slice a xs.length cap ∧ xs.length ≤ cap ∧ (xs ≠ [] → ∃ g cur, a = some ⟨g, 0, none⟩ ∧ w.heap[g]? = some (.cells cur 3 (0, 0)) ∧ ∀ (j : Nat) (x : Int), xs[j]? = some x → cur[j]? = some (.int .i64 x))
section
variable {w w' : World} {v : Value} {xs : List Int}
theorem IV.nil (w : World) : IV w (.slice none 0 0) [] := ⟨none, 0, rfl, Nat.le_refl _, fun h => absurd rfl h⟩
theorem IV.keepT {P : Nat → Prop} (h : IV w v xs) (hu : UpdP P w w') (hp : ∀ k, P k → ∀ cur fr, w.heap[k]? ≠ some (.cells cur 3 fr)) : IV w' v xs := by
  obtain ⟨a, cap, e, h1, hf⟩ := h
  refine ⟨a, cap, e, h1, fun hne => ?_⟩
  obtain ⟨g, cur, ea, hh, hc⟩ := hf hne
  exact ⟨g, cur, ea, (hu.block g (lt_of_heap hh) (fun hP => hp g hP _ _ hh)).trans hh, hc⟩
theorem iv_of_own {base : Nat} (h : w.ownsRow base 3 1 v xs.length (ivs xs)) : IV w v xs := by
  rcases h.2 with ⟨e2, e3⟩ | ⟨g, cap, cur, e2, hb, hh, h1, h2, h3, h4⟩
  · have : xs = [] := List.length_eq_zero_iff.1 e3
    subst this
    rw [e2]
    exact IV.nil _
  · refine ⟨_, cap, e2, by omega, fun _ => ⟨g, cur, rfl, hh, fun j x hx => ?_⟩⟩
    have hi : j < xs.length := (List.getElem?_eq_some_iff.1 hx).1
    have : (ivs xs)[j]? = some (.int .i64 x) := by simp [ivs, hx]
    rw [← h4, List.getElem?_take_of_lt (by omega)] at this
    simpa using this
theorem IV.row (h : IV w v xs) : ∃ a cap, v = .slice a xs.length cap ∧ IRow w a xs ∧ xs.length ≤ cap := by
  obtain ⟨a, cap, e, h1, hf⟩ := h
  refine ⟨a, cap, e, fun j x hx => ?_, h1⟩
  obtain ⟨g, cur, ea, hh, hc⟩ := hf (by intro e; rw [e] at hx; simp at hx)
  exact ⟨g, 0, ea, by rw [cell_of_heap hh, Nat.zero_add]; exact hc j x hx⟩
end

/-- The rows of the cache's words. -/
def WRow (w : World) (wb n : Nat) (l : Lines) : Prop :=
  ∃ row : Array Value, w.heap[wb]? = some (.cells row 58) ∧ row.size = n ∧ ∀ i, i < n → ∃ v, row[i]? = some v ∧ ∀ ws, (l i).1 = some ws → URow 0 w v ws
/-- Where the reference kernel's parts lie. -/
structure Rq where
  dx : Nat
  lb : Nat
  lc : Nat
  c : Nat
  wb : Nat
  M : Nat
/-- What its calls write. -/
def RF (X : Nat) (Q : Rq) (k : Nat) : Prop := k = X ∨ k = Q.dx ∨ k = Q.lb ∨ k = Q.c ∨ k = Q.wb
/-- Block X is the reference kernel. -/
structure RkX (w : World) (X : Nat) (Q : Rq) (n m : Nat) (vs : List Int) (l : Lines) (L : List Ce) (last : Int) : Prop where
  head : ∃ iv nv, w.heap[X]? = some (.cells #[ptr Q.dx, ptr Q.c, iv, nv, .slice (some ⟨Q.wb, 0, none⟩) n n] 116) ∧ IV w iv (inL l n) ∧ IV w nv (newL l n)
  disk : ∃ gt pt, Di.RefAt w Q.dx Q.lb Q.lc n vs gt pt ∧ pt ≤ m
  wrow : WRow w Q.wb n l
  caps : ∃ sv, Ca.RefAt Q.M w Q.c sv L last
  ne : Q.lb ≠ Q.wb
  MS : Q.M ≤ w.heap.size
  linv : LInv n l
/-- Of no type that is only made and read. -/
def NoT (w : World) (k : Nat) : Prop := (∀ cur fr, w.heap[k]? ≠ some (.cells cur 22 fr)) ∧ (∀ cur fr, w.heap[k]? ≠ some (.cells cur 3 fr)) ∧ ∀ cur fr, w.heap[k]? ≠ some (.cells cur 165 fr)
theorem noT_of {w : World} {k : Nat} {cs : Array Value} {t : TypeId} {fr : Nat × Nat} (h : w.heap[k]? = some (.cells cs t fr)) (h1 : t ≠ 22) (h2 : t ≠ 3) (h3 : t ≠ 165) : NoT w k :=
  ⟨fun cur fr hk => apart h hk h1 rfl, fun cur fr hk => apart h hk h2 rfl, fun cur fr hk => apart h hk h3 rfl⟩
theorem diRef_keep {P : Nat → Prop} {w w' : World} {bx gx cap n : Nat} {vs : List Int} {gt pt : Nat} (h : Di.RefAt w bx gx cap n vs gt pt) (hu : UpdP P w w') (h1 : ¬ P bx) (h2 : ¬ P gx) (h3 : ∀ k, P k → NoT w k) : Di.RefAt w' bx gx cap n vs gt pt := by
  obtain ⟨cur, hh, ht⟩ := h.tab
  refine ⟨(hu.block _ (lt_of_heap h.head) h1).trans h.head, ⟨cur, (hu.block _ (lt_of_heap hh) h2).trans hh, fun i hi => ?_⟩, h.len, h.low⟩
  obtain ⟨r, c, row, q1, q2, q3, q4⟩ := ht i hi
  exact ⟨r, c, row, q1, (hu.block _ (lt_of_heap q2) (fun e => (h3 r e).1 _ _ q2)).trans q2, q3, q4⟩
theorem caRef_keep {P : Nat → Prop} {M : Nat} {w w' : World} {c : Nat} {sv : Value} {L : List Ce} {last : Int} (h : Ca.RefAt M w c sv L last) (hu : UpdP P w w') (h1 : ¬ P c) (h3 : ∀ k, P k → NoT w k) : Ca.RefAt M w' c sv L last := by
  refine ⟨(hu.block _ h.lt h1).trans h.head, ?_, h.nil⟩
  obtain ⟨o1, o2⟩ := h.own
  refine ⟨o1, ?_⟩
  rcases o2 with o2 | ⟨g, cap, cur, hv, hg, hh, r⟩
  · exact Or.inl o2
  · exact Or.inr ⟨g, cap, cur, hv, hg, (hu.block g (lt_of_heap hh) (fun e => (h3 g e).2.2 _ _ hh)).trans hh, r⟩
theorem WRow.keepT {P : Nat → Prop} {w w' : World} {wb n : Nat} {l : Lines} (h : WRow w wb n l) (hu : UpdP P w w') (h1 : ¬ P wb) (h3 : ∀ k, P k → NoT w k) : WRow w' wb n l := by
  obtain ⟨row, hr, hs, hc⟩ := h
  exact ⟨row, (hu.block _ (lt_of_heap hr) h1).trans hr, hs, fun i hi => by obtain ⟨v, g1, g2⟩ := hc i hi; exact ⟨v, g1, fun ws e => (g2 ws e).keepT hu (fun k hk => (h3 k hk).1)⟩⟩

section
variable {w w' : World} {X : Nat} {Q : Rq} {n m : Nat} {vs : List Int} {l : Lines} {L : List Ce} {last : Int}
theorem RkX.noT (h : RkX w X Q n m vs l L last) : ∀ k, RF X Q k → NoT w k := by
  obtain ⟨iv, nv, hx, _⟩ := h.head
  obtain ⟨gt, pt, hd, _⟩ := h.disk
  obtain ⟨row, hr, _⟩ := h.wrow
  obtain ⟨sv, hc⟩ := h.caps
  obtain ⟨cur, hh, _⟩ := hd.tab
  rintro k (e | e | e | e | e)
  · rw [e]; exact noT_of hx (by decide) (by decide) (by decide)
  · rw [e]; exact noT_of hd.head (by decide) (by decide) (by decide)
  · rw [e]; exact noT_of hh (by decide) (by decide) (by decide)
  · rw [e]; exact noT_of hc.head (by decide) (by decide) (by decide)
  · rw [e]; exact noT_of hr (by decide) (by decide) (by decide)
theorem RkX.lows (h : RkX w X Q n m vs l L last) : ∀ k, RF X Q k → k < w.heap.size := by
  obtain ⟨iv, nv, hx, _⟩ := h.head
  obtain ⟨gt, pt, hd, _⟩ := h.disk
  obtain ⟨row, hr, _⟩ := h.wrow
  obtain ⟨sv, hc⟩ := h.caps
  obtain ⟨cur, hh, _⟩ := hd.tab
  rintro k (e | e | e | e | e)
  · rw [e]; exact lt_of_heap hx
  · rw [e]; exact lt_of_heap hd.head
  · rw [e]; exact lt_of_heap hh
  · rw [e]; exact hc.lt
  · rw [e]; exact lt_of_heap hr
theorem RkX.keepP {P : Nat → Prop} (h : RkX w X Q n m vs l L last) (hu : UpdP P w w') (hF : ∀ k, RF X Q k → ¬ P k) (h3 : ∀ k, P k → NoT w k) : RkX w' X Q n m vs l L last := by
  obtain ⟨iv, nv, hx, hi, hn⟩ := h.head
  obtain ⟨gt, pt, hd, hp⟩ := h.disk
  obtain ⟨sv, hc⟩ := h.caps
  exact ⟨⟨iv, nv, (hu.block _ (lt_of_heap hx) (hF _ (Or.inl rfl))).trans hx, hi.keepT hu (fun k hk => (h3 k hk).2.1), hn.keepT hu (fun k hk => (h3 k hk).2.1)⟩,
    ⟨gt, pt, diRef_keep hd hu (hF _ (Or.inr (Or.inl rfl))) (hF _ (Or.inr (Or.inr (Or.inl rfl)))) h3, hp⟩, h.wrow.keepT hu (hF _ (Or.inr (Or.inr (Or.inr (Or.inr rfl))))) h3,
    ⟨sv, caRef_keep hc hu (hF _ (Or.inr (Or.inr (Or.inr (Or.inl rfl))))) h3⟩, h.ne, Nat.le_trans h.MS hu.size, h.linv⟩
theorem RkX.below (h : RkX w X Q n m vs l L last) (hb : Below w.heap.size w w') : RkX w' X Q n m vs l L last :=
  h.keepP (UpdP.of_below (P := fun _ => False) hb) (fun _ _ e => e) (fun _ e => e.elim)
theorem RkX.mono {m' : Nat} (h : RkX w X Q n m vs l L last) (hm : m ≤ m') : RkX w X Q n m' vs l L last := by
  obtain ⟨gt, pt, hd, hp⟩ := h.disk
  exact ⟨h.head, ⟨gt, pt, hd, by omega⟩, h.wrow, h.caps, h.ne, h.MS, h.linv⟩
/-- The capabilities changed. -/
theorem RkX.updC {sv' : Value} {L' : List Ce} {last' : Int} (h : RkX w X Q n m vs l L last) (hc' : Ca.RefAt Q.M w' Q.c sv' L' last') (hu : Upd Q.c w w') : RkX w' X Q n m vs l L' last' := by
  obtain ⟨iv, nv, hx, hi, hn⟩ := h.head
  obtain ⟨gt, pt, hd, hp⟩ := h.disk
  obtain ⟨sv, hc⟩ := h.caps
  obtain ⟨row, hr, _⟩ := h.wrow
  obtain ⟨cur, hh, _⟩ := hd.tab
  have h3 : ∀ k, k = Q.c → NoT w k := fun k e => h.noT k (Or.inr (Or.inr (Or.inr (Or.inl e))))
  have hup : UpdP (fun k => k = Q.c) w w' := hu.p _ rfl
  exact ⟨⟨iv, nv, (hup.block _ (lt_of_heap hx) (apart hx hc.head (by decide))).trans hx, hi.keepT hup (fun k hk => (h3 k hk).2.1), hn.keepT hup (fun k hk => (h3 k hk).2.1)⟩,
    ⟨gt, pt, diRef_keep hd hup (apart hd.head hc.head (by decide)) (apart hh hc.head (by decide)) h3, hp⟩, h.wrow.keepT hup (apart hr hc.head (by decide)) h3, ⟨sv', hc'⟩, h.ne, Nat.le_trans h.MS hu.size, h.linv⟩
/-- The disk changed. -/
theorem RkX.updD {vs' : List Int} {m' gt pt : Nat} (h : RkX w X Q n m vs l L last) (hd' : Di.RefAt w' Q.dx Q.lb Q.lc n vs' gt pt) (hm : pt ≤ m') (hup : UpdP (fun k => k = Q.dx ∨ k = Q.lb) w w') : RkX w' X Q n m' vs' l L last := by
  obtain ⟨iv, nv, hx, hi, hn⟩ := h.head
  obtain ⟨_, _, hd, _⟩ := h.disk
  obtain ⟨sv, hc⟩ := h.caps
  obtain ⟨row, hr, _⟩ := h.wrow
  obtain ⟨cur, hh, _⟩ := hd.tab
  have h3 : ∀ k, (k = Q.dx ∨ k = Q.lb) → NoT w k := fun k e => h.noT k (by rcases e with e | e; exact Or.inr (Or.inl e); exact Or.inr (Or.inr (Or.inl e)))
  have ho : ∀ {k : Nat} {cs : Array Value} {t : TypeId} {fr : Nat × Nat}, w.heap[k]? = some (.cells cs t fr) → t ≠ 162 → k ≠ Q.lb → ¬ (k = Q.dx ∨ k = Q.lb) := by
    rintro k cs t fr hk ht hl (e | e)
    · exact apart hk hd.head ht e
    · exact hl e
  exact ⟨⟨iv, nv, (hup.block _ (lt_of_heap hx) (ho hx (by decide) (apart hx hh (by decide)))).trans hx, hi.keepT hup (fun k hk => (h3 k hk).2.1), hn.keepT hup (fun k hk => (h3 k hk).2.1)⟩,
    ⟨gt, pt, hd', hm⟩, h.wrow.keepT hup (ho hr (by decide) (fun e => h.ne e.symm)) h3, ⟨sv, caRef_keep hc hup (ho hc.head (by decide) (apart hc.head hh (by decide))) h3⟩, h.ne, Nat.le_trans h.MS hup.size, h.linv⟩
/-- The cache changed. -/
theorem RkX.updL {l' : Lines} (h : RkX w X Q n m vs l L last) (hup : UpdP (fun k => k = X ∨ k = Q.wb) w w') (hx' : ∃ iv nv, w'.heap[X]? = some (.cells #[ptr Q.dx, ptr Q.c, iv, nv, .slice (some ⟨Q.wb, 0, none⟩) n n] 116) ∧ IV w' iv (inL l' n) ∧ IV w' nv (newL l' n)) (hw' : WRow w' Q.wb n l') (hl' : LInv n l') : RkX w' X Q n m vs l' L last := by
  obtain ⟨iv, nv, hx, hi, hn⟩ := h.head
  obtain ⟨gt, pt, hd, hp⟩ := h.disk
  obtain ⟨sv, hc⟩ := h.caps
  obtain ⟨row, hr, _⟩ := h.wrow
  obtain ⟨cur, hh, _⟩ := hd.tab
  have h3 : ∀ k, (k = X ∨ k = Q.wb) → NoT w k := fun k e => h.noT k (by rcases e with e | e; exact Or.inl e; exact Or.inr (Or.inr (Or.inr (Or.inr e))))
  have ho : ∀ {k : Nat} {cs : Array Value} {t : TypeId} {fr : Nat × Nat}, w.heap[k]? = some (.cells cs t fr) → t ≠ 116 → k ≠ Q.wb → ¬ (k = X ∨ k = Q.wb) := by
    rintro k cs t fr hk ht hl (e | e)
    · exact apart hk hx ht e
    · exact hl e
  exact ⟨hx', ⟨gt, pt, diRef_keep hd hup (ho hd.head (by decide) (apart hd.head hr (by decide))) (ho hh (by decide) h.ne) h3, hp⟩, hw', ⟨sv, caRef_keep hc hup (ho hc.head (by decide) (apart hc.head hr (by decide))) h3⟩, h.ne, Nat.le_trans h.MS hup.size, hl'⟩
theorem RkX.x1 (h : RkX w X Q n m vs l L last) : w.cell? ⟨X, 1, none⟩ = some (ptr Q.c) := by
  obtain ⟨iv, nv, hx, _⟩ := h.head
  rw [cell_of_heap hx]; rfl
theorem RkX.x0 (h : RkX w X Q n m vs l L last) : w.cell? ⟨X, 0, none⟩ = some (ptr Q.dx) := by
  obtain ⟨iv, nv, hx, _⟩ := h.head
  rw [cell_of_heap hx]; rfl
theorem RkX.x4 (h : RkX w X Q n m vs l L last) : w.cell? ⟨X, 4, none⟩ = some (.slice (some ⟨Q.wb, 0, none⟩) n n) := by
  obtain ⟨iv, nv, hx, _⟩ := h.head
  rw [cell_of_heap hx]; rfl
end

/-- What links the two kernels. -/
structure Lx (T : Tab) (L : List Ce) (last : Int) (n : Nat) : Prop where
  rel : Rel T L last
  inv : XInv T n
  n1 : 1 ≤ n
  n2 : n ≤ 1000
  pos : 0 ≤ last
  len : L.length ≤ 850
  top : last ≤ 850
theorem and_one : ((List.range 8).all fun q => [1, 2].all fun r => (bits .and .i64 (q : Nat) (r : Nat) == (r : Nat)) == (bits .and .i64 (q : Nat) (r : Nat) != 0)) = true := by decide +kernel
theorem and_same {q : Int} (h : 0 ≤ q ∧ q ≤ 7) {r : Int} (hr : r = 1 ∨ r = 2) : (bits .and .i64 q r == r) = (bits .and .i64 q r != 0) := by
  have h1 := and_one
  rw [List.all_eq_true] at h1
  have h2 := h1 q.toNat (by simp; omega)
  rw [List.all_eq_true] at h2
  have hq : ((q.toNat : Nat) : Int) = q := by omega
  rcases hr with rfl | rfl
  · have := h2 1 (by simp)
    rw [hq] at this
    simpa using this
  · have := h2 2 (by simp)
    rw [hq] at this
    simpa using this

section
variable {w w' : World} {X : Nat} {Q : Rq} {n m : Nat} {vs : List Int} {l : Lines} {L : List Ce} {last : Int} {T : Tab}
set_option maxHeartbeats 1000000 in
theorem rxmay_at (h : RkX w X Q n m vs l L last) (hk : Lx T L last n) (e s b r : Int) (hb : I64 b) (hr : r = 1 ∨ r = 2) :
    Calls Try.prog 72 #[ptr X, .int .i64 e, .int .i64 s, .int .i64 b, .int .i64 r] w fun x w' => x = .returned (.bool (mayX T e s b r)) ∧ Below w.heap.size w w' := by
  obtain ⟨sv, hC⟩ := h.caps
  have hg := rget_at Q.M Q.c sv L last e s w hC (by have := hk.len; omega)
  obtain ⟨q1, q2⟩ := hk.rel.get e s
  rw [← q1, ← q2] at hg
  have hc := h.x1
  have HM : Hid (mayX T e s b r = (((getT T e s).is && (bits .and .i64 (getT T e s).rights r != 0)) && (decide ((getT T e s).id ≤ b) && decide (b - (getT T e s).id < (getT T e s).len)))) := rfl
  have HO : Hid ((getT T e s).is = true → OkX n (getT T e s)) := fun hi => hk.inv.get hi
  have hn := hk.n2
  obtain ⟨b1, b2⟩ := hb
  clear h hC q1 q2 hk
  generalize mayX T e s b r = M at *
  generalize getT T e s = x at *
  obtain ⟨k, i, q, p⟩ := x
  dsimp only [cpRow] at *
  cases hi : Cp.is ⟨k, i, q, p⟩ with
  | false =>
    rw [hi] at hg HM
    have hM : M = false := HM.out
    subst hM
    clear HM HO hi
    go_enter Try.func72, Try.ntmps72
    go_wp2_with fail
    refine hg.mono ?_
    rintro x w1 ⟨rfl, hb1⟩
    go_wp2
    go_ret
    exact ⟨rfl, hb1.alloc hb1.size _⟩
  | true =>
    rw [hi] at hg HM
    obtain ⟨_, o1, o2, o3, o4, o5⟩ := HO.out hi
    dsimp only at o1 o2 o3 o4 o5
    have ha := and_same (q := p) ⟨by omega, o5⟩ hr
    rw [← ha] at HM
    clear HO hi ha
    cases hbq : (bits .and .i64 p r == r) with
    | false =>
      rw [hbq] at HM
      have hM : M = false := HM.out
      subst hM
      clear HM
      go_enter Try.func72, Try.ntmps72
      go_wp2_with fail
      refine hg.mono ?_
      rintro x w1 ⟨rfl, hb1⟩
      go_wp2
      go_ret
      exact ⟨rfl, hb1.alloc hb1.size _⟩
    | true =>
      rw [hbq] at HM
      have hM : M = (decide (i ≤ b) && decide (b - i < q)) := HM.out
      clear HM
      by_cases hib : i ≤ b
      · have g0 : decide (i ≤ b) = true := decide_eq_true hib
        rw [g0, Bool.true_and] at hM
        have HM2 : Hid _ := hM
        clear hM
        go_enter Try.func72, Try.ntmps72
        go_wp2_with fail
        refine hg.mono ?_
        rintro x w1 ⟨rfl, hb1⟩
        go_wp2
        go_ret
        exact ⟨by rw [HM2.out]; rfl, hb1.alloc hb1.size _⟩
      · have g0 : decide (i ≤ b) = false := decide_eq_false hib
        rw [g0, Bool.false_and] at hM
        subst hM
        go_enter Try.func72, Try.ntmps72
        go_wp2_with fail
        refine hg.mono ?_
        rintro x w1 ⟨rfl, hb1⟩
        go_wp2
        go_ret
        exact ⟨rfl, hb1.alloc hb1.size _⟩
/-- What Rel answers. -/
def relE (T : Tab) (e s b : Int) : Int := if (getT T e s).is = true then (if 0 ≤ b ∧ b < (getT T e s).len then 0 else 101) else 104
def relA (T : Tab) (e s b : Int) : Int := if (getT T e s).is = true then (if 0 ≤ b ∧ b < (getT T e s).len then (getT T e s).id + b else 0) else 0
set_option maxHeartbeats 1000000 in
theorem rxrel_at (h : RkX w X Q n m vs l L last) (hk : Lx T L last n) (e s b : Int) (hb : I64 b) :
    Calls Try.prog 117 #[ptr X, .int .i64 e, .int .i64 s, .int .i64 b] w fun x w' => x = .returned (.tuple #[.int .i64 (relA T e s b), .int .i64 (relE T e s b)]) ∧ Below w.heap.size w w' := by
  obtain ⟨sv, hC⟩ := h.caps
  have hg := rget_at Q.M Q.c sv L last e s w hC (by have := hk.len; omega)
  obtain ⟨q1, q2⟩ := hk.rel.get e s
  rw [← q1, ← q2] at hg
  have hc := h.x1
  have HE : Hid (relE T e s b = if (getT T e s).is = true then (if 0 ≤ b ∧ b < (getT T e s).len then 0 else 101) else 104) := rfl
  have HA : Hid (relA T e s b = if (getT T e s).is = true then (if 0 ≤ b ∧ b < (getT T e s).len then (getT T e s).id + b else 0) else 0) := rfl
  have HO : Hid ((getT T e s).is = true → OkX n (getT T e s)) := fun hi => hk.inv.get hi
  have hn := hk.n2
  obtain ⟨b1, b2⟩ := hb
  clear h hC q1 q2 hk
  generalize relE T e s b = E at *
  generalize relA T e s b = A at *
  generalize getT T e s = x at *
  obtain ⟨k, i, q, p⟩ := x
  dsimp only [cpRow] at *
  cases hi : Cp.is ⟨k, i, q, p⟩ with
  | false =>
    rw [hi] at hg
    have hE : E = 104 := by rw [HE.out, hi]; rfl
    have hA : A = 0 := by rw [HA.out, hi]; rfl
    subst hE hA
    clear HE HA HO hi
    go_enter Try.func117, Try.ntmps117
    go_wp2_with fail
    refine hg.mono ?_
    rintro x w1 ⟨rfl, hb1⟩
    go_wp2
    go_ret2
    exact ⟨rfl, hb1.alloc hb1.size _⟩
  | true =>
    rw [hi] at hg
    obtain ⟨_, o1, o2, o3, o4, o5⟩ := HO.out hi
    dsimp only at o1 o2 o3 o4 o5
    have hcase : b < 0 ∨ (0 ≤ b ∧ q ≤ b) ∨ (0 ≤ b ∧ b < q) := by omega
    have hEE : E = if 0 ≤ b ∧ b < q then 0 else 101 := by rw [HE.out, if_pos hi]
    have hAA : A = if 0 ≤ b ∧ b < q then i + b else 0 := by rw [HA.out, if_pos hi]
    clear HE HA HO hi
    rcases hcase with h0 | ⟨h0, h1⟩ | ⟨h0, h1⟩
    · have hE : E = 101 := by rw [hEE, if_neg (by omega)]
      have hA : A = 0 := by rw [hAA, if_neg (by omega)]
      subst hE hA
      clear hEE hAA
      go_enter Try.func117, Try.ntmps117
      go_wp2_with fail
      refine hg.mono ?_
      rintro x w1 ⟨rfl, hb1⟩
      go_wp2
      go_ret2
      exact ⟨rfl, hb1.alloc hb1.size _⟩
    · have hE : E = 101 := by rw [hEE, if_neg (by omega)]
      have hA : A = 0 := by rw [hAA, if_neg (by omega)]
      subst hE hA
      clear hEE hAA
      go_enter Try.func117, Try.ntmps117
      go_wp2_with fail
      refine hg.mono ?_
      rintro x w1 ⟨rfl, hb1⟩
      go_wp2
      go_ret2
      exact ⟨rfl, hb1.alloc hb1.size _⟩
    · have hE : E = 0 := by rw [hEE, if_pos ⟨h0, h1⟩]
      have HA2 : Hid (A = i + b) := by show _ = _; rw [hAA, if_pos ⟨h0, h1⟩]
      subst hE
      clear hEE hAA
      go_enter Try.func117, Try.ntmps117
      go_wp2_with fail
      refine hg.mono ?_
      rintro x w1 ⟨rfl, hb1⟩
      go_wp2
      go_ret2
      exact ⟨by rw [HA2.out]; rfl, hb1.alloc hb1.size _⟩
end
end Go.Proofs.Ytfnafjddajgahaa
