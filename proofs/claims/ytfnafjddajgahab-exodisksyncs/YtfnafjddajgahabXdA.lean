/- A kernel of blocks in the heap; the small functions of package exodisk: isEnv, areBlocks, extent, may. -/
import Derived.Test.YtfnafjddajgahabXdM
import Derived.Laws.Cells
namespace Go.Proofs.Ytfnafjddajgahab
open Go.RowKit Ca
set_option linter.unusedVariables false

abbrev ptr (b : Nat) : Value := .pointer (some ⟨b, 0, none⟩)
/-- A disk, as a store. -/
abbrev sto (b : Nat) : Value := .iface 73 (ptr b)
theorem apart {w : World} {a b : Nat} {r r' : Array Value} {t t' : TypeId} {q q' : Nat × Nat} (h : w.heap[a]? = some (.cells r t q)) (h' : w.heap[b]? = some (.cells r' t' q')) (hn : t ≠ t') : a ≠ b := by
  intro e
  subst e
  rw [h] at h'
  injection h' with h1
  injection h1 with _ h2
  exact hn h2
theorem URow.keepM {M : Nat} {P : Nat → Prop} {w w' : World} {v : Value} {xs : List Int} (h : URow M w v xs) (hu : UpdP P w w') (hp : ∀ k, P k → M ≤ k → ∀ cur fr, w.heap[k]? ≠ some (.cells cur 30 fr)) : URow M w' v xs := by
  obtain ⟨a, cap, e, h1, h2, hf⟩ := h
  refine ⟨a, cap, e, h1, h2, fun hne => ?_⟩
  obtain ⟨g, cur, ea, hm, hh, hc⟩ := hf hne
  exact ⟨g, cur, ea, hm, (hu.block g (lt_of_heap hh) (fun hP => hp g hP hm _ _ hh)).trans hh, hc⟩
theorem URow.keepT {M : Nat} {P : Nat → Prop} {w w' : World} {v : Value} {xs : List Int} (h : URow M w v xs) (hu : UpdP P w w') (hp : ∀ k, P k → ∀ cur fr, w.heap[k]? ≠ some (.cells cur 30 fr)) : URow M w' v xs := by
  obtain ⟨a, cap, e, h1, h2, hf⟩ := h
  refine ⟨a, cap, e, h1, h2, fun hne => ?_⟩
  obtain ⟨g, cur, ea, hm, hh, hc⟩ := hf hne
  exact ⟨g, cur, ea, hm, (hu.block g (lt_of_heap hh) (fun hP => hp g hP _ _ hh)).trans hh, hc⟩

/-- The value of a line's words. -/
def LnV (M : Nat) (w : World) (v : Value) (o : Option (List Int)) : Prop := (o = none → v = .slice none 0 0) ∧ ∀ ws, o = some ws → URow M w v ws
/-- Block q holds the lines. -/
def LinesAt (M : Nat) (w : World) (q n : Nat) (l : Lines) : Prop :=
  ∃ row : Array Value, w.heap[q]? = some (.cells row 91) ∧ row.size = n * 2 ∧ ∀ i, i < n → ∃ v, row[i * 2]? = some v ∧ row[i * 2 + 1]? = some (.bool (l i).2) ∧ LnV M w v (l i).1
theorem LinesAt.lt {M : Nat} {w : World} {q n : Nat} {l : Lines} (h : LinesAt M w q n l) : q < w.heap.size := by
  obtain ⟨row, hr, _⟩ := h
  exact lt_of_heap hr
theorem LnV.keepM {M : Nat} {P : Nat → Prop} {w w' : World} {v : Value} {o : Option (List Int)} (h : LnV M w v o) (hu : UpdP P w w') (hp : ∀ k, P k → M ≤ k → ∀ cur fr, w.heap[k]? ≠ some (.cells cur 30 fr)) : LnV M w' v o :=
  ⟨h.1, fun ws e => (h.2 ws e).keepM hu hp⟩
theorem LnV.keepT {M : Nat} {P : Nat → Prop} {w w' : World} {v : Value} {o : Option (List Int)} (h : LnV M w v o) (hu : UpdP P w w') (hp : ∀ k, P k → ∀ cur fr, w.heap[k]? ≠ some (.cells cur 30 fr)) : LnV M w' v o :=
  ⟨h.1, fun ws e => (h.2 ws e).keepT hu hp⟩
theorem LinesAt.keepM {M : Nat} {P : Nat → Prop} {w w' : World} {q n : Nat} {l : Lines} (h : LinesAt M w q n l) (hq : w'.heap[q]? = w.heap[q]?) (hu : UpdP P w w') (hp : ∀ k, P k → M ≤ k → ∀ cur fr, w.heap[k]? ≠ some (.cells cur 30 fr)) : LinesAt M w' q n l := by
  obtain ⟨row, hr, hs, hc⟩ := h
  exact ⟨row, hq.trans hr, hs, fun i hi => by obtain ⟨v, h1, h2, h3⟩ := hc i hi; exact ⟨v, h1, h2, h3.keepM hu hp⟩⟩
theorem LinesAt.keep {M : Nat} {P : Nat → Prop} {w w' : World} {q n : Nat} {l : Lines} (h : LinesAt M w q n l) (hq : w'.heap[q]? = w.heap[q]?) (hu : UpdP P w w') (hp : ∀ k, P k → ∀ cur fr, w.heap[k]? ≠ some (.cells cur 30 fr)) : LinesAt M w' q n l := by
  obtain ⟨row, hr, hs, hc⟩ := h
  exact ⟨row, hq.trans hr, hs, fun i hi => by obtain ⟨v, h1, h2, h3⟩ := hc i hi; exact ⟨v, h1, h2, h3.keepT hu hp⟩⟩
theorem lines_core {M : Nat} {w w' : World} {q n : Nat} {l : Lines} {row row' : Array Value} {b : Nat} {p : Lp} (hr : w.heap[q]? = some (.cells row 91)) (hs : row.size = n * 2)
    (hc : ∀ i, i < n → ∃ v, row[i * 2]? = some v ∧ row[i * 2 + 1]? = some (.bool (l i).2) ∧ LnV M w v (l i).1) (hu : Upd q w w') (hr' : w'.heap[q]? = some (.cells row' 91)) (hs' : row'.size = row.size)
    (ho : ∀ j, j ≠ b * 2 → j ≠ b * 2 + 1 → row'[j]? = row[j]?) (hv : ∃ v, row'[b * 2]? = some v ∧ row'[b * 2 + 1]? = some (.bool p.2) ∧ LnV M w v p.1) : LinesAt M w' q n (l.set b p) := by
  have hnp : ∀ k, k = q → ∀ cur fr, w.heap[k]? ≠ some (.cells cur 30 fr) := by
    intro k e cur fr hk
    exact apart hk hr (by decide) e
  have hup : UpdP (fun k => k = q) w w' := hu.p _ rfl
  refine ⟨row', hr', by rw [hs', hs], fun i hi => ?_⟩
  by_cases e : i = b
  · subst e
    obtain ⟨v, h1, h2, h3⟩ := hv
    rw [Lines.set_same]
    exact ⟨v, h1, h2, h3.keepT hup hnp⟩
  · obtain ⟨u, g1, g2, g3⟩ := hc i hi
    rw [Lines.set_other _ _ _ _ e]
    exact ⟨u, by rw [ho _ (by omega) (by omega)]; exact g1, by rw [ho _ (by omega) (by omega)]; exact g2, g3.keepT hup hnp⟩
section
variable {M : Nat} {w : World} {q n b : Nat} {l : Lines}
/-- A line is set. -/
theorem LinesAt.set (h : LinesAt M w q n l) (hb : b < n) (v : Value) (p : Lp) (hv : LnV M w v p.1) : LinesAt M ((w.setCell ⟨q, b * 2, none⟩ v).setCell ⟨q, b * 2 + 1, none⟩ (.bool p.2)) q n (l.set b p) := by
  obtain ⟨row, hr, hs, hc⟩ := h
  have h1 : (w.setCell ⟨q, b * 2, none⟩ v).heap[q]? = some (.cells (row.setIfInBounds (b * 2) v) 91) := by
    rw [setCell_eq_setRow w q _ _ _ _ _ hr, setRow_heap w q _ _ _ _ hr]
  refine lines_core hr hs hc ((Upd.setCell _ _ _ _).trans (Upd.setCell _ _ _ _)) (row' := (row.setIfInBounds (b * 2) v).setIfInBounds (b * 2 + 1) (.bool p.2)) (by rw [setCell_eq_setRow _ q _ _ _ _ _ h1, setRow_heap _ q _ _ _ _ h1]) (by simp) (fun j h1 h2 => ?_) ⟨v, ?_, ?_, hv⟩
  · rw [Array.getElem?_setIfInBounds, if_neg (by omega), Array.getElem?_setIfInBounds, if_neg (by omega)]
  · rw [Array.getElem?_setIfInBounds, if_neg (by omega), Array.getElem?_setIfInBounds, if_pos rfl, if_pos (by omega)]
  · rw [Array.getElem?_setIfInBounds, if_pos rfl, if_pos (by simp; omega)]
/-- A line's words are set. -/
theorem LinesAt.setW (h : LinesAt M w q n l) (hb : b < n) (v : Value) (o : Option (List Int)) (hv : LnV M w v o) : LinesAt M (w.setCell ⟨q, b * 2, none⟩ v) q n (l.set b (o, (l b).2)) := by
  obtain ⟨row, hr, hs, hc⟩ := h
  obtain ⟨u, g1, g2, g3⟩ := hc b hb
  refine lines_core hr hs hc (Upd.setCell _ _ _ _) (row' := row.setIfInBounds (b * 2) v) (by rw [setCell_eq_setRow w q _ _ _ _ _ hr, setRow_heap w q _ _ _ _ hr]) (by simp) (fun j h1 h2 => ?_) ⟨v, ?_, ?_, hv⟩
  · rw [Array.getElem?_setIfInBounds, if_neg (by omega)]
  · rw [Array.getElem?_setIfInBounds, if_pos rfl, if_pos (by omega)]
  · rw [Array.getElem?_setIfInBounds, if_neg (by omega)]; exact g2
/-- A line is not changed any more. -/
theorem LinesAt.setC (h : LinesAt M w q n l) (hb : b < n) (c : Bool) : LinesAt M (w.setCell ⟨q, b * 2 + 1, none⟩ (.bool c)) q n (l.set b ((l b).1, c)) := by
  obtain ⟨row, hr, hs, hc⟩ := h
  obtain ⟨u, g1, g2, g3⟩ := hc b hb
  refine lines_core hr hs hc (Upd.setCell _ _ _ _) (row' := row.setIfInBounds (b * 2 + 1) (.bool c)) (by rw [setCell_eq_setRow w q _ _ _ _ _ hr, setRow_heap w q _ _ _ _ hr]) (by simp) (fun j h1 h2 => ?_) ⟨u, ?_, ?_, g3⟩
  · rw [Array.getElem?_setIfInBounds, if_neg (by omega)]
  · rw [Array.getElem?_setIfInBounds, if_neg (by omega)]; exact g1
  · rw [Array.getElem?_setIfInBounds, if_pos rfl, if_pos (by omega)]
theorem LinesAt.free (h : LinesAt M w q n l) (i : Nat) : w.frozen? ⟨q, i, none⟩ = false := by
  obtain ⟨row, hr, _⟩ := h
  exact frozen_of_heap hr
theorem LinesAt.cell (h : LinesAt M w q n l) (hb : b < n) : ∃ v, w.cell? ⟨q, b * 2, none⟩ = some v ∧ w.cell? ⟨q, b * 2 + 1, none⟩ = some (.bool (l b).2) ∧ LnV M w v (l b).1 := by
  obtain ⟨row, hr, hs, hc⟩ := h
  obtain ⟨u, g1, g2, g3⟩ := hc b hb
  exact ⟨u, by rw [cell_of_heap hr]; exact g1, by rw [cell_of_heap hr]; exact g2, g3⟩
end

/-- Where a kernel's parts lie. -/
structure Yd where
  b : Nat
  g : Nat
  q : Nat
  cb : Nat
  M : Nat
/-- What its calls write. -/
def XFoot (Y : Yd) (k : Nat) : Prop := k = Y.q ∨ k = Y.b ∨ k = Y.g ∨ k = Y.cb
/-- Block K is a kernel of n blocks: the disk's words, the lines, the slots; m: a bound on the disk's moves. -/
structure KAt (w : World) (K : Nat) (Y : Yd) (n m : Nat) (vs : List Int) (l : Lines) (T : Tab) : Prop where
  head : w.heap[K]? = some (.cells #[sto Y.b, sto Y.b, .slice (some ⟨Y.q, 0, none⟩) n n, ptr Y.cb] 63)
  disk : ∃ gt pt, Di.DiskAt w Y.b Y.g n vs gt pt ∧ gt ≤ m ∧ pt ≤ m
  lines : LinesAt Y.M w Y.q n l
  caps : CapsAt w Y.cb T
  inv : XInv T n
  linv : LInv n l
  n1 : 1 ≤ n
  n2 : n ≤ 1024
  ML : Y.M ≤ w.heap.size

section
variable {w w' : World} {K : Nat} {Y : Yd} {n m : Nat} {vs : List Int} {l : Lines} {T : Tab}
theorem KAt.k0 (h : KAt w K Y n m vs l T) : w.cell? ⟨K, 0, none⟩ = some (sto Y.b) := by rw [cell_of_heap h.head]; rfl
theorem KAt.k1 (h : KAt w K Y n m vs l T) : w.cell? ⟨K, 1, none⟩ = some (sto Y.b) := by rw [cell_of_heap h.head]; rfl
theorem KAt.k2 (h : KAt w K Y n m vs l T) : w.cell? ⟨K, 2, none⟩ = some (.slice (some ⟨Y.q, 0, none⟩) n n) := by rw [cell_of_heap h.head]; rfl
theorem KAt.k3 (h : KAt w K Y n m vs l T) : w.cell? ⟨K, 3, none⟩ = some (ptr Y.cb) := by rw [cell_of_heap h.head]; rfl
theorem KAt.lt (h : KAt w K Y n m vs l T) : K < w.heap.size := lt_of_heap h.head
theorem KAt.len (h : KAt w K Y n m vs l T) : vs.length = n * 32 := by
  obtain ⟨gt, pt, hd, _⟩ := h.disk
  exact hd.len
theorem KAt.sanes (h : KAt w K Y n m vs l T) : Sanes T := h.inv.sanes h.n2
theorem KAt.noK (h : KAt w K Y n m vs l T) : ¬ XFoot Y K := by
  obtain ⟨gt, pt, hd, _⟩ := h.disk
  obtain ⟨row, hr, _⟩ := h.lines
  obtain ⟨row2, hr2, _⟩ := h.caps.head
  rintro (e | e | e | e)
  · exact apart h.head hr (by decide) e
  · exact apart h.head hd.head (by decide) e
  · exact apart h.head hd.row (by decide) e
  · exact apart h.head hr2 (by decide) e
theorem KAt.noW (h : KAt w K Y n m vs l T) : ∀ k, XFoot Y k → ∀ cur fr, w.heap[k]? ≠ some (.cells cur 30 fr) := by
  obtain ⟨gt, pt, hd, _⟩ := h.disk
  obtain ⟨row, hr, _⟩ := h.lines
  obtain ⟨row2, hr2, _⟩ := h.caps.head
  rintro k (e | e | e | e) cur fr hk
  · exact apart hk hr (by decide) e
  · exact apart hk hd.head (by decide) e
  · exact apart hk hd.row (by decide) e
  · exact apart hk hr2 (by decide) e
theorem KAt.low (h : KAt w K Y n m vs l T) : ∀ k, XFoot Y k → k < w.heap.size := by
  obtain ⟨gt, pt, hd, _⟩ := h.disk
  rintro k (e | e | e | e)
  · rw [e]; exact h.lines.lt
  · rw [e]; exact lt_of_heap hd.head
  · rw [e]; exact lt_of_heap hd.row
  · rw [e]; exact h.caps.lt
theorem KAt.keepP {P : Nat → Prop} (h : KAt w K Y n m vs l T) (hu : UpdP P w w') (hK : ¬ P K) (hF : ∀ k, XFoot Y k → ¬ P k) (hW : ∀ k, P k → ∀ cur fr, w.heap[k]? ≠ some (.cells cur 30 fr)) : KAt w' K Y n m vs l T := by
  obtain ⟨gt, pt, hd, h1, h2⟩ := h.disk
  exact ⟨(hu.block _ h.lt hK).trans h.head, ⟨gt, pt, hd.keep (hu.block _ (lt_of_heap hd.head) (hF _ (Or.inr (Or.inl rfl)))) (hu.block _ (lt_of_heap hd.row) (hF _ (Or.inr (Or.inr (Or.inl rfl))))), h1, h2⟩,
    h.lines.keep (hu.block _ h.lines.lt (hF _ (Or.inl rfl))) hu hW, h.caps.keep (hu.block _ h.caps.lt (hF _ (Or.inr (Or.inr (Or.inr rfl))))), h.inv, h.linv, h.n1, h.n2, Nat.le_trans h.ML hu.size⟩
theorem KAt.keepM {P : Nat → Prop} (h : KAt w K Y n m vs l T) (hu : UpdP P w w') (hK : ¬ P K) (hF : ∀ k, XFoot Y k → ¬ P k) (hW : ∀ k, P k → Y.M ≤ k → ∀ cur fr, w.heap[k]? ≠ some (.cells cur 30 fr)) : KAt w' K Y n m vs l T := by
  obtain ⟨gt, pt, hd, h1, h2⟩ := h.disk
  exact ⟨(hu.block _ h.lt hK).trans h.head, ⟨gt, pt, hd.keep (hu.block _ (lt_of_heap hd.head) (hF _ (Or.inr (Or.inl rfl)))) (hu.block _ (lt_of_heap hd.row) (hF _ (Or.inr (Or.inr (Or.inl rfl))))), h1, h2⟩,
    h.lines.keepM (hu.block _ h.lines.lt (hF _ (Or.inl rfl))) hu hW, h.caps.keep (hu.block _ h.caps.lt (hF _ (Or.inr (Or.inr (Or.inr rfl))))), h.inv, h.linv, h.n1, h.n2, Nat.le_trans h.ML hu.size⟩
theorem KAt.below (h : KAt w K Y n m vs l T) (hb : Below w.heap.size w w') : KAt w' K Y n m vs l T :=
  h.keepP (UpdP.of_below (P := fun _ => False) hb) (fun e => e) (fun _ _ e => e) (fun _ e => e.elim)
theorem KAt.mono {m' : Nat} (h : KAt w K Y n m vs l T) (hm : m ≤ m') : KAt w K Y n m' vs l T := by
  obtain ⟨gt, pt, hd, h1, h2⟩ := h.disk
  exact ⟨h.head, ⟨gt, pt, hd, by omega, by omega⟩, h.lines, h.caps, h.inv, h.linv, h.n1, h.n2, h.ML⟩
/-- The slots changed. -/
theorem KAt.updC {T' : Tab} (h : KAt w K Y n m vs l T) (hc : CapsAt w' Y.cb T') (hi : XInv T' n) (hu : Upd Y.cb w w') : KAt w' K Y n m vs l T' := by
  obtain ⟨gt, pt, hd, h1, h2⟩ := h.disk
  obtain ⟨row, hr, _⟩ := h.lines
  obtain ⟨row2, hr2, _⟩ := h.caps.head
  exact ⟨(hu.block _ h.lt (apart h.head hr2 (by decide))).trans h.head, ⟨gt, pt, hd.keep (hu.block _ (lt_of_heap hd.head) (apart hd.head hr2 (by decide))) (hu.block _ (lt_of_heap hd.row) (apart hd.row hr2 (by decide))), h1, h2⟩,
    h.lines.keep (hu.block _ h.lines.lt (apart hr hr2 (by decide))) (hu.p (fun k => k = Y.cb) rfl) (fun k e => h.noW k (Or.inr (Or.inr (Or.inr e)))), hc, hi, h.linv, h.n1, h.n2, Nat.le_trans h.ML hu.size⟩
/-- The disk changed. -/
theorem KAt.updD {m' gt pt : Nat} {vs' : List Int} (h : KAt w K Y n m vs l T) (hd' : Di.DiskAt w' Y.b Y.g n vs' gt pt) (h1 : gt ≤ m') (h2 : pt ≤ m') (hu : UpdP (fun k => k = Y.b ∨ k = Y.g) w w') : KAt w' K Y n m' vs' l T := by
  obtain ⟨_, _, hd, _, _⟩ := h.disk
  obtain ⟨row, hr, _⟩ := h.lines
  obtain ⟨row2, hr2, _⟩ := h.caps.head
  refine ⟨(hu.block _ h.lt ?_).trans h.head, ⟨gt, pt, hd', h1, h2⟩, h.lines.keep (hu.block _ h.lines.lt ?_) hu (fun k e => h.noW k (by rcases e with e | e; exact Or.inr (Or.inl e); exact Or.inr (Or.inr (Or.inl e)))), h.caps.keep (hu.block _ h.caps.lt ?_), h.inv, h.linv, h.n1, h.n2, Nat.le_trans h.ML hu.size⟩
  · rintro (e | e)
    · exact apart h.head hd.head (by decide) e
    · exact apart h.head hd.row (by decide) e
  · rintro (e | e)
    · exact apart hr hd.head (by decide) e
    · exact apart hr hd.row (by decide) e
  · rintro (e | e)
    · exact apart hr2 hd.head (by decide) e
    · exact apart hr2 hd.row (by decide) e
/-- The lines changed. -/
theorem KAt.updL {l' : Lines} (h : KAt w K Y n m vs l T) (hl : LinesAt Y.M w' Y.q n l') (hi : LInv n l') (hu : Upd Y.q w w') : KAt w' K Y n m vs l' T := by
  obtain ⟨gt, pt, hd, h1, h2⟩ := h.disk
  obtain ⟨row, hr, _⟩ := h.lines
  obtain ⟨row2, hr2, _⟩ := h.caps.head
  exact ⟨(hu.block _ h.lt (apart h.head hr (by decide))).trans h.head, ⟨gt, pt, hd.keep (hu.block _ (lt_of_heap hd.head) (apart hd.head hr (by decide))) (hu.block _ (lt_of_heap hd.row) (apart hd.row hr (by decide))), h1, h2⟩,
    hl, h.caps.keep (hu.block _ h.caps.lt (apart hr2 hr (by decide))), h.inv, hi, h.n1, h.n2, Nat.le_trans h.ML hu.size⟩
end

theorem xisEnv_at (n : Int) (w : World) :
    Calls Try.prog 25 #[.int .i64 n] w fun e w' => e = .returned (.bool (isE n)) ∧ w' = w := by
  go_enter Try.func25, Try.ntmps25
  go_wp2
  all_goals
    go_ret
    refine ⟨?_, rfl⟩
    first | (simp_all [isE]; done) | (simp [isE]; omega)

section
variable {w w' : World} {K : Nat} {Y : Yd} {n m : Nat} {vs : List Int} {l : Lines} {T : Tab}
theorem xare_at (h : KAt w K Y n m vs l T) (f k : Int) (hf : I64 f) (hk : I64 k) :
    Calls Try.prog 26 #[ptr K, .int .i64 f, .int .i64 k] w fun x w' => x = .returned (.bool (areX n f k)) ∧ w' = w := by
  have c2 := h.k2
  have hn := h.n2
  obtain ⟨f1, f2⟩ := hf
  obtain ⟨k1, k2⟩ := hk
  clear h
  unfold areX
  by_cases h1 : 1 ≤ k
  · by_cases h0 : 0 ≤ f
    · have hw : IntKind.i64.wrap ((n : Int) - k) = (n : Int) - k := by simp [IntKind.wrap, IntKind.bits, IntKind.signed]; omega
      go_enter Try.func26, Try.ntmps26
      go_wp2
      go_ret
      refine ⟨?_, rfl⟩
      simp [h1, h0]
    · go_enter Try.func26, Try.ntmps26
      go_wp2
      go_ret
      refine ⟨?_, rfl⟩
      simp <;> omega
  · go_enter Try.func26, Try.ntmps26
    go_wp2
    go_ret
    refine ⟨?_, rfl⟩
    simp <;> omega
end
end Go.Proofs.Ytfnafjddajgahab
