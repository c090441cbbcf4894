/- Package inode: a draft in the heap: the sheets of the blocks that a call changes; at. -/
import Derived.Test.YtinjllnoonbjmaaInoA
import Derived.Great.FillDense
namespace Go.Proofs.Ytinjllnoonbjmaa
open Go.RowKit
set_option linter.unusedVariables false

theorem ownsRow_at {w w' : World} {base : Nat} {e : TypeId} {size : Nat} {v : Value} {n : Nat} {xs : List Value} (h : w.ownsRow base e size v n xs) (hb : ∀ g, v.ownBlock = some g → w'.heap[g]? = w.heap[g]?) : w'.ownsRow base e size v n xs := by
  obtain ⟨h1, h2⟩ := h
  refine ⟨h1, ?_⟩
  rcases h2 with h2 | ⟨g, cap, cur, hv, hg, hh, r⟩
  · exact Or.inl h2
  · exact Or.inr ⟨g, cap, cur, hv, hg, (hb g (by rw [hv]; rfl)).trans hh, r⟩
theorem own_slice {w : World} {base : Nat} {e : TypeId} {size : Nat} {v : Value} {n : Nat} {xs : List Value} (h : w.ownsRow base e size v n xs) : ∃ a cap, v = .slice a n cap := by
  rcases h.2 with ⟨rfl, rfl⟩ | ⟨g, cap, cur, rfl, _⟩
  · exact ⟨none, 0, rfl⟩
  · exact ⟨_, cap, rfl⟩
theorem own_type {w : World} {base : Nat} {e : TypeId} {size : Nat} {v : Value} {n : Nat} {xs : List Value} (h : w.ownsRow base e size v n xs) {g : Nat} (hg : v.ownBlock = some g) : base ≤ g ∧ ∃ cs, w.heap[g]? = some (.cells cs e (0, 0)) := by
  rcases h.2 with ⟨rfl, _⟩ | ⟨g', cap, cur, rfl, hb, hh, _⟩
  · simp [Value.ownBlock] at hg
  · simp [Value.ownBlock] at hg
    subst hg
    exact ⟨hb, cur, hh⟩
theorem nodup_le : ∀ (n : Nat) (l : List Nat), l.Nodup → (∀ x ∈ l, x < n) → l.length ≤ n
  | 0, l, _, h => by
    cases l with
    | nil => exact Nat.le_refl _
    | cons x l => exact absurd (h x List.mem_cons_self) (by omega)
  | n + 1, l, hn, h => by
    by_cases q : n ∈ l
    · have := nodup_le n (l.erase n) (hn.erase n) (fun x hx => by
        have h1 := (hn.mem_erase_iff).1 hx
        have := h x h1.2
        have := h1.1
        omega)
      rw [List.length_erase_of_mem q] at this
      omega
    · have := nodup_le n l hn (fun x hx => by
        have := h x hx
        have : x ≠ n := fun e => q (by rw [← e]; exact hx)
        omega)
      omega

theorem nd_fst : ∀ {S : List (Nat × Nat)}, (S.map (fun p => p.1)).Nodup → ∀ {p q : Nat × Nat}, p ∈ S → q ∈ S → p.1 = q.1 → p = q
  | [], _, p, q, hp, _, _ => by cases hp
  | x :: S, h, p, q, hp, hq, e => by
    rw [List.map_cons, List.nodup_cons] at h
    rcases List.mem_cons.1 hp with hp | hp
    · rcases List.mem_cons.1 hq with hq | hq
      · rw [hp, hq]
      · exact absurd (List.mem_map.2 ⟨q, hq, by rw [← e, hp]⟩) h.1
    · rcases List.mem_cons.1 hq with hq | hq
      · exact absurd (List.mem_map.2 ⟨p, hp, by rw [e, hq]⟩) h.1
      · exact nd_fst h.2 hp hq e
/-- A sheet's cells. -/
def shRow (k : Nat) (A C : Array Value) : Array Value := #[.int .i64 (k : Int)] ++ A ++ C
theorem shRow_size {k : Nat} {A C : Array Value} (hA : A.size = 32) (hC : C.size = 32) : (shRow k A C).size = 65 := by simp [shRow, hA, hC]
theorem shRow_0 (k : Nat) (A C : Array Value) : (shRow k A C)[0]? = some (.int .i64 (k : Int)) := by simp [shRow, Array.getElem?_append]
theorem shRow_now {k : Nat} {A C : Array Value} (hA : A.size = 32) (j : Nat) : (shRow k A C)[33 + j]? = C[j]? := by
  unfold shRow
  rw [Array.getElem?_append_right (by simp [hA])]
  congr 1
  simp [hA]
/-- Cells laid from off on. -/
def setAt (cells : Array Value) (off : Nat) (cs : Array Value) : Array Value := (cells.toList.take off ++ cs.toList ++ cells.toList.drop (off + cs.size)).toArray
theorem setAt_size {cells cs : Array Value} {off : Nat} (h : off + cs.size ≤ cells.size) : (setAt cells off cs).size = cells.size := by
  simp [setAt]
  omega
theorem fill_put (place : Nat → Option (Nat × Nat)) (cells : Array Value) (i off : Nat) (v : Value) (cs : Array Value) (hv : v.cells = cs) (rest : List (Nat × Value)) (hp : place i = some (off, cs.size)) (hs : off + cs.size ≤ cells.size) :
    Instr.fill place cells ((i, v) :: rest) = Instr.fill place (setAt cells off cs) rest := by
  subst hv
  have e : (v.cells.zipIdx.foldl (fun cs (x : Value × Nat) => cs.setIfInBounds (off + x.2) x.1) cells) = setAt cells off v.cells := by
    obtain ⟨h1, h2⟩ := Go.Great.foldl_set off v.cells.toList 0 cells
    have e0 : v.cells.zipIdx.foldl (fun cs (x : Value × Nat) => cs.setIfInBounds (off + x.2) x.1) cells = (v.cells.toList.zipIdx 0).foldl (fun cs (x : Value × Nat) => cs.setIfInBounds (off + x.2) x.1) cells := by
      rw [← Array.foldl_toList, Array.toList_zipIdx]
    rw [e0]
    apply Array.ext_getElem?
    intro k
    rw [h2 k]
    unfold setAt
    simp only [Nat.add_zero, Array.length_toList, List.getElem?_toArray]
    by_cases q : off ≤ k ∧ k < off + v.cells.size ∧ k < cells.size
    · rw [if_pos q, List.getElem?_append_left (by simp; omega), List.getElem?_append_right (by simp; omega)]
      congr 1
      simp
      omega
    · rw [if_neg q]
      rcases Nat.lt_or_ge k off with q1 | q1
      · rw [List.getElem?_append_left (by simp; omega), List.getElem?_append_left (by simp; omega), List.getElem?_take, if_pos q1]
        simp
      · rcases Nat.lt_or_ge k (off + v.cells.size) with q2 | q2
        · omega
        · rw [List.getElem?_append_right (by simp; omega), List.getElem?_drop]
          simp only [List.length_append, List.length_take, Array.length_toList, Array.getElem?_toList]
          congr 1
          omega
  conv => lhs; unfold Instr.fill
  simp only [hp]
  rw [if_neg (by simp; omega)]
  exact congrArg (fun z => Instr.fill place z rest) e
theorem setAt_sheet {Z A C : Array Value} (k : Nat) (hZ : Z.size = 65) (hA : A.size = 32) (hC : C.size = 32) : setAt (setAt (setAt Z 0 #[.int .i64 (k : Int)]) 1 A) 33 C = shRow k A C := by
  have h1 : (setAt Z 0 #[.int .i64 (k : Int)]) = #[.int .i64 (k : Int)] ++ (Z.toList.drop 1).toArray := by
    apply Array.ext'
    simp [setAt]
  rw [h1]
  have h2 : setAt (#[.int .i64 (k : Int)] ++ (Z.toList.drop 1).toArray) 1 A = #[.int .i64 (k : Int)] ++ A ++ (Z.toList.drop 33).toArray := by
    apply Array.ext'
    simp only [setAt, Array.toList_append, List.toList_toArray]
    rw [hA]
    simp
  rw [h2]
  apply Array.ext'
  unfold setAt shRow
  simp only [Array.toList_append]
  have h3 : (([Value.int .i64 (k : Int)] ++ A.toList) ++ Z.toList.drop 33).take 33 = [Value.int .i64 (k : Int)] ++ A.toList := by
    rw [List.take_append_of_le_length (by simp [hA]), List.take_of_length_le (by simp [hA])]
  have h4 : (([Value.int .i64 (k : Int)] ++ A.toList) ++ Z.toList.drop 33).drop (33 + C.size) = [] := by
    rw [List.drop_eq_nil_of_le]
    simp [hA, hZ, hC]
  show ((([Value.int .i64 (k : Int)] ++ A.toList) ++ Z.toList.drop 33).take 33 ++ C.toList ++ (([Value.int .i64 (k : Int)] ++ A.toList) ++ Z.toList.drop 33).drop (33 + C.size)) = _
  rw [h3, h4, List.append_nil]
theorem sheet_built {k : Nat} {A C : Array Value} (hA : A.size = 32) (hC : C.size = 32) : Try.prog.built 134 [(0, .int .i64 (k : Int)), (1, .agg A), (2, .agg C)] = some (shRow k A C) := by
  have hinfo : ((Try.prog.info? 134).bind (·.zero)).map (fun z => z.cells.size) = some 65 := by kernel_rfl
  have hpl : (match Try.prog.underlying 134 with | some (.struct fields) => fields.toList.mapM (fun f => (Try.prog.info? f.type).map fun i => (f.offset, i.size)) | _ => none) = some [(0, 1), (1, 32), (33, 32)] := by kernel_rfl
  have hst : (match Try.prog.underlying 134 with | some (.struct _) => true | _ => false) = true := by kernel_rfl
  unfold Program.built
  cases hi : Try.prog.info? 134 with
  | none => rw [hi] at hinfo; cases hinfo
  | some it =>
    cases hu : Try.prog.underlying 134 with
    | none => rw [hu] at hst; cases hst
    | some d =>
      rw [hu] at hpl hst
      rw [hi] at hinfo
      cases hz : it.zero with
      | none => simp [hz] at hinfo
      | some z =>
        have hzs : z.cells.size = 65 := by simpa [hz] using hinfo
        cases d <;> try (cases hst; done)
        rename_i fields
        simp only at hpl
        simp only [hpl, hz]
        generalize z.cells = Z at *
        rw [fill_put _ _ _ 0 _ #[.int .i64 (k : Int)] rfl _ rfl (by rw [hzs]; show 0 + 1 ≤ 65; omega)]
        have hs1 : (setAt Z 0 #[.int .i64 (k : Int)]).size = 65 := by rw [setAt_size (by rw [hzs]; show 0 + 1 ≤ 65; omega), hzs]
        rw [fill_put _ _ _ 1 _ A rfl _ (by rw [hA]; rfl) (by rw [hs1, hA]; omega)]
        have hs2 : (setAt (setAt Z 0 #[.int .i64 (k : Int)]) 1 A).size = 65 := by rw [setAt_size (by rw [hs1, hA]; omega), hs1]
        rw [fill_put _ _ _ 33 _ C rfl _ (by rw [hC]; rfl) (by rw [hs2, hC]; omega), setAt_sheet k hzs hA hC]
        rfl
theorem build_sheet {k : Nat} {A C : Array Value} (hA : A.size = 32) (hC : C.size = 32) (W : World) : (Instr.build 134 #[(0, .int .i64 (k : Int)), (1, .agg A), (2, .agg C)]).run Try.prog W = .ok (.agg (shRow k A C)) W := run_build W _ _ _ (sheet_built hA hC)

/-- A block of a draft's own. -/
def IsD (w : World) (k : Nat) : Prop := ∃ cs t fr, w.heap[k]? = some (.cells cs t fr) ∧ (t = 78 ∨ t = 134 ∨ t = 131)
theorem isD_same {w w' : World} {k : Nat} (h : w'.heap[k]? = w.heap[k]?) : IsD w' k ↔ IsD w k := by unfold IsD; rw [h]
/-- What a draft's calls may touch: block B, and blocks of a draft's own from base on. -/
structure DT (base B : Nat) (w w' : World) : Prop where
  os : w'.os = w.os
  tape : w'.tape = w.tape
  output : w'.output = w.output
  size : w.heap.size ≤ w'.heap.size
  block : ∀ k, k < w.heap.size → k ≠ B → (k < base ∨ ¬ IsD w k) → w'.heap[k]? = w.heap[k]?
theorem DT.refl (base B : Nat) (w : World) : DT base B w w := ⟨rfl, rfl, rfl, Nat.le_refl _, fun _ _ _ _ => rfl⟩
theorem DT.trans {base B : Nat} {a b c : World} (h : DT base B a b) (k : DT base B b c) : DT base B a c :=
  ⟨k.os.trans h.os, k.tape.trans h.tape, k.output.trans h.output, Nat.le_trans h.size k.size, fun i hi hB hg => by
    have e := h.block i hi hB hg
    refine (k.block i (Nat.lt_of_lt_of_le hi h.size) hB ?_).trans e
    rcases hg with hg | hg
    · exact Or.inl hg
    · exact Or.inr (fun x => hg ((isD_same e).1 x))⟩
theorem DT.of_below {base B : Nat} {w w' : World} (h : Below w.heap.size w w') : DT base B w w' := ⟨h.os, h.tape, h.output, h.size, fun k hk _ _ => h.block k hk⟩
theorem DT.of_upd {base B : Nat} {w w' : World} (h : Upd B w w') : DT base B w w' := ⟨h.os, h.tape, h.output, h.size, fun k hk hB _ => h.block k hk hB⟩
/-- A store into a block of the draft's own. -/
theorem DT.of_own {base B q : Nat} {w w' : World} (h : Upd q w w') (hq : base ≤ q) (hd : IsD w q) : DT base B w w' := ⟨h.os, h.tape, h.output, h.size, fun k hk _ hg => h.block k hk (fun e => by
  subst e
  rcases hg with hg | hg
  · omega
  · exact hg hd)⟩
theorem DT.other {base B : Nat} {w w' : World} (h : DT base B w w') {k : Nat} {cs : Array Value} {t : TypeId} {fr : Nat × Nat} (hk : w.heap[k]? = some (.cells cs t fr)) (hB : k ≠ B) (ht : t ≠ 78 ∧ t ≠ 134 ∧ t ≠ 131) : w'.heap[k]? = some (.cells cs t fr) := by
  rw [h.block k (lt_of_heap hk) hB (Or.inr ?_)]
  · exact hk
  · rintro ⟨cs', t', fr', e, ht'⟩
    rw [hk] at e
    simp only [Option.some.injEq, Obj.cells.injEq] at e
    obtain ⟨_, rfl, _⟩ := e
    rcases ht' with e | e | e
    · exact ht.1 e
    · exact ht.2.1 e
    · exact ht.2.2 e
theorem DT.bm {base B : Nat} {w w' : World} (h : DT base B w w') {b g n : Nat} {ws : List Nat} (hb : Bi.BmAt w b g n ws) (h1 : b ≠ B) (h2 : g ≠ B) : Bi.BmAt w' b g n ws :=
  hb.keep ((h.other hb.head h1 (by decide)).trans hb.head.symm) ((h.other hb.row h2 (by decide)).trans hb.row.symm)

/-- A draft: its head is block bd, its store the disk B; the disk's words are vs, what they shall be is ws. -/
structure DrAt (w : World) (base bd B G n : Nat) (vs ws : List Int) (m : Nat) (sv : Value) (S : List (Nat × Nat)) : Prop where
  head : w.heap[bd]? = some (.cells #[sto B, sv, .int .i64 0] 78)
  own : w.ownsRow base 131 1 sv S.length (S.map (fun p => ptr p.2))
  bB : base ≤ bd
  sh : ∀ p ∈ S, base ≤ p.2 ∧ p.1 < n ∧ ∃ A : Array Value, A.size = 32 ∧ w.heap[p.2]? = some (.cells (shRow p.1 A (urow (frameOf ws p.1))) 134)
  nd : (S.map (fun p => p.1)).Nodup
  out : ∀ k, k < n → k ∉ S.map (fun p => p.1) → frameOf ws k = frameOf vs k
  len : ws.length = n * 32
  disk : ∃ gt pt, Di.DiskAt w B G n vs gt pt ∧ gt ≤ m + S.length ∧ pt ≤ m
  low : B < base ∧ G < base
  nn : n ≤ 1024
section
variable {w w' : World} {base bd B G n m : Nat} {vs ws : List Int} {sv : Value} {S : List (Nat × Nat)}
theorem DrAt.few (h : DrAt w base bd B G n vs ws m sv S) : S.length ≤ n := by
  have := nodup_le n (S.map (fun p => p.1)) h.nd (fun x hx => by
    obtain ⟨p, hp, rfl⟩ := List.mem_map.1 hx
    exact (h.sh p hp).2.1)
  simpa using this
theorem DrAt.isd (h : DrAt w base bd B G n vs ws m sv S) : IsD w bd := ⟨_, _, _, h.head, Or.inl rfl⟩
theorem DrAt.isq (h : DrAt w base bd B G n vs ws m sv S) {p : Nat × Nat} (hp : p ∈ S) : IsD w p.2 := by
  obtain ⟨_, _, A, _, hh⟩ := h.sh p hp
  exact ⟨_, _, _, hh, Or.inr (Or.inl rfl)⟩
theorem DrAt.iso (h : DrAt w base bd B G n vs ws m sv S) {g : Nat} (hg : sv.ownBlock = some g) : base ≤ g ∧ IsD w g := by
  obtain ⟨h1, cs, h2⟩ := own_type h.own hg
  exact ⟨h1, cs, _, _, h2, Or.inr (Or.inr rfl)⟩
/-- Kept, if the draft's own blocks and the disk are. -/
theorem DrAt.keep (h : DrAt w base bd B G n vs ws m sv S) (hk : ∀ k, base ≤ k → IsD w k → w'.heap[k]? = w.heap[k]?) (hB : w'.heap[B]? = w.heap[B]?) (hG : w'.heap[G]? = w.heap[G]?) : DrAt w' base bd B G n vs ws m sv S := by
  refine ⟨(hk bd h.bB h.isd).trans h.head, ownsRow_at h.own (fun g hg => hk g (h.iso hg).1 (h.iso hg).2), h.bB, fun p hp => ?_, h.nd, h.out, h.len, ?_, h.low, h.nn⟩
  · obtain ⟨h1, h2, A, h3, h4⟩ := h.sh p hp
    exact ⟨h1, h2, A, h3, (hk _ h1 (h.isq hp)).trans h4⟩
  · obtain ⟨gt, pt, hd, h1, h2⟩ := h.disk
    exact ⟨gt, pt, hd.keep hB hG, h1, h2⟩
theorem DrAt.below (h : DrAt w base bd B G n vs ws m sv S) (hb : Below w.heap.size w w') : DrAt w' base bd B G n vs ws m sv S := by
  obtain ⟨gt, pt, hd, h1, h2⟩ := h.disk
  exact h.keep (fun k _ ⟨_, _, _, e, _⟩ => hb.block k (lt_of_heap e)) (hb.block _ (lt_of_heap hd.head)) (hb.block _ (lt_of_heap hd.row))
/-- .. behind a change of a block of another type. -/
theorem DrAt.other (h : DrAt w base bd B G n vs ws m sv S) {g : Nat} (hu : Upd g w w') (hg : base ≤ g) (hd : ¬ IsD w g) : DrAt w' base bd B G n vs ws m sv S := by
  obtain ⟨gt, pt, hk, h1, h2⟩ := h.disk
  have := h.low
  exact h.keep (fun k _ e => hu.block k (by obtain ⟨_, _, _, e, _⟩ := e; exact lt_of_heap e) (fun q => hd (by rw [← q]; exact e))) (hu.block _ (lt_of_heap hk.head) (by omega)) (hu.block _ (lt_of_heap hk.row) (by omega))
theorem not_isD {k : Nat} {cs : Array Value} {t : TypeId} {fr : Nat × Nat} (hk : w.heap[k]? = some (.cells cs t fr)) (ht : t ≠ 78 ∧ t ≠ 134 ∧ t ≠ 131) : ¬ IsD w k := by
  rintro ⟨cs', t', fr', e, ht'⟩
  rw [hk] at e
  simp only [Option.some.injEq, Obj.cells.injEq] at e
  obtain ⟨_, rfl, _⟩ := e
  rcases ht' with e | e | e
  · exact ht.1 e
  · exact ht.2.1 e
  · exact ht.2.2 e
/-- A sheet's words are laid anew. -/
theorem DrAt.put (h : DrAt w base bd B G n vs ws m sv S) {b q : Nat} (hq : (b, q) ∈ S) {us : List Int} (hl : us.length = 32)
    (hw : ∀ A : Array Value, A.size = 32 → w.heap[q]? = some (.cells (shRow b A (urow (frameOf ws b))) 134) → w'.heap[q]? = some (.cells (shRow b A (urow us)) 134)) (hu : Upd q w w') :
    DrAt w' base bd B G n vs (splice ws (b * 32) us) m sv S ∧ DT base B w w' := by
  obtain ⟨hq1, hbn, A, hA, hh⟩ := h.sh _ hq
  dsimp only at hq1 hbn hh
  have hlow := h.low
  obtain ⟨gt, pt, hd, hg1, hg2⟩ := h.disk
  have hbd : bd ≠ q := by
    intro e
    have := h.head
    rw [e, hh] at this
    simp only [Option.some.injEq, Obj.cells.injEq] at this
    exact absurd this.2.1 (by decide)
  have hsl : (splice ws (b * 32) us).length = n * 32 := by rw [splice_length _ _ _ (by rw [h.len, hl]; omega), h.len]
  refine ⟨⟨(hu.block _ (lt_of_heap h.head) hbd).trans h.head, ownsRow_at h.own (fun g hg => ?_), h.bB, fun p hp => ?_, h.nd, fun k hk hn => ?_, hsl, ⟨gt, pt, hd.keep (hu.block _ (lt_of_heap hd.head) (by omega)) (hu.block _ (lt_of_heap hd.row) (by omega)), hg1, hg2⟩, h.low, h.nn⟩, DT.of_own hu hq1 ⟨_, _, _, hh, Or.inr (Or.inl rfl)⟩⟩
  · obtain ⟨h1, cs, h2⟩ := own_type h.own hg
    refine hu.block _ (lt_of_heap h2) (fun e => ?_)
    rw [e, hh] at h2
    simp only [Option.some.injEq, Obj.cells.injEq] at h2
    exact absurd h2.2.1 (by decide)
  · obtain ⟨h1, h2, A', h3, h4⟩ := h.sh p hp
    rw [frame_splice ws us n b p.1 h.len hbn h2 hl]
    by_cases e : p.2 = q
    · have e1 : p.1 = b := by
        rw [e, hh] at h4
        simp only [Option.some.injEq, Obj.cells.injEq] at h4
        have h5 := congrArg (fun z => z[0]?) h4.1
        simp only [shRow_0, Option.some.injEq, Value.int.injEq, true_and] at h5
        omega
      rw [if_pos e1]
      refine ⟨h1, h2, A', h3, ?_⟩
      rw [e, e1] at h4 ⊢
      exact hw A' h3 h4
    · have e1 : p.1 ≠ b := by
        intro e1
        exact e (by rw [nd_fst h.nd hp hq e1])
      rw [if_neg e1]
      exact ⟨h1, h2, A', h3, (hu.block _ (lt_of_heap h4) e).trans h4⟩
  · rw [frame_splice ws us n b k h.len hbn hk hl, if_neg (fun e => hn (by rw [e]; exact List.mem_map.2 ⟨_, hq, rfl⟩))]
    exact h.out k hk hn
end
end Go.Proofs.Ytinjllnoonbjmaa
