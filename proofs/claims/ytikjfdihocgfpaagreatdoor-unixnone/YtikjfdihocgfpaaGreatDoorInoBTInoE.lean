/- Package inode: a draft in the heap: the sheets of the blocks that a call changes; at. -/
/- Package inode: a draft's at and lay. -/
/- Package inode: a draft is laid: lay. -/
import Derived.Test.YtikjfdihocgfpaaGreatDoorRsBTInoA
import Derived.Great.FillDense
set_option linter.all false
namespace Go.Proofs.YtikjfdihocgfpaaGreatDoor
open Go.RowKit
theorem ownsRow_at {w w' : World} {base : Nat} {e : TypeId} {size : Nat} {v : Value} {n : Nat} {xs : List Value} (h : w.ownsRow base e size v n xs) (hb : ∀ g, v.ownBlock = some g → w'.heap[g]? = w.heap[g]?) : w'.ownsRow base e size v n xs := by
  obtain ⟨h1, h2⟩ := h
  refine ⟨h1, ?_⟩
  rcases h2 with h2 | ⟨g, cap, cur, hv, hg, hh, r⟩
  · exact Or.inl h2
  · exact Or.inr ⟨g, cap, cur, hv, hg, (hb g (by rw [hv]; rfl)).trans hh, r⟩
theorem own_slice {w : World} {base : Nat} {e : TypeId} {size : Nat} {v : Value} {n : Nat} {xs : List Value} (h : w.ownsRow base e size v n xs) : ∃ a cap, v = .slice a n cap := by
  rcases h.2 with ⟨rfl, rfl⟩ | ⟨g, cap, cur, rfl, _⟩
  · exact ⟨none, 0, rfl⟩
  · exact ⟨_, cap, rfl⟩
theorem own_type {w : World} {base : Nat} {e : TypeId} {size : Nat} {v : Value} {n : Nat} {xs : List Value} (h : w.ownsRow base e size v n xs) {g : Nat} (hg : v.ownBlock = some g) : base ≤ g ∧ ∃ cs, w.heap[g]? = some (.cells cs e (0, 0)) := by
  rcases h.2 with ⟨rfl, _⟩ | ⟨g', cap, cur, rfl, hb, hh, _⟩
  · simp [Value.ownBlock] at hg
  · simp [Value.ownBlock] at hg
    subst hg
    exact ⟨hb, cur, hh⟩
theorem nodup_le : ∀ (n : Nat) (l : List Nat), l.Nodup → (∀ x ∈ l, x < n) → l.length ≤ n
  | 0, l, _, h => by
    cases l with
    | nil => exact Nat.le_refl _
    | cons x l => exact absurd (h x List.mem_cons_self) (by omega)
  | n + 1, l, hn, h => by
    by_cases q : n ∈ l
    · have := nodup_le n (l.erase n) (hn.erase n) (fun x hx => by
        have h1 := (hn.mem_erase_iff).1 hx
        have := h x h1.2
        have := h1.1
        omega)
      rw [List.length_erase_of_mem q] at this
      omega
    · have := nodup_le n l hn (fun x hx => by
        have := h x hx
        have : x ≠ n := fun e => q (by rw [← e]; exact hx)
        omega)
      omega
theorem nd_fst : ∀ {S : List (Nat × Nat)}, (S.map (fun p => p.1)).Nodup → ∀ {p q : Nat × Nat}, p ∈ S → q ∈ S → p.1 = q.1 → p = q
  | [], _, p, q, hp, _, _ => by cases hp
  | x :: S, h, p, q, hp, hq, e => by
    rw [List.map_cons, List.nodup_cons] at h
    rcases List.mem_cons.1 hp with hp | hp
    · rcases List.mem_cons.1 hq with hq | hq
      · rw [hp, hq]
      · exact absurd (List.mem_map.2 ⟨q, hq, by rw [← e, hp]⟩) h.1
    · rcases List.mem_cons.1 hq with hq | hq
      · exact absurd (List.mem_map.2 ⟨p, hp, by rw [e, hq]⟩) h.1
      · exact nd_fst h.2 hp hq e
/-- A sheet's cells. -/
def shRow (k : Nat) (A C : Array Value) : Array Value := #[.int .i64 (k : Int)] ++ A ++ C
theorem shRow_size {k : Nat} {A C : Array Value} (hA : A.size = 32) (hC : C.size = 32) : (shRow k A C).size = 65 := by simp [shRow, hA, hC]
theorem shRow_0 (k : Nat) (A C : Array Value) : (shRow k A C)[0]? = some (.int .i64 (k : Int)) := by simp [shRow, Array.getElem?_append]
theorem shRow_now {k : Nat} {A C : Array Value} (hA : A.size = 32) (j : Nat) : (shRow k A C)[33 + j]? = C[j]? := by
  unfold shRow
  rw [Array.getElem?_append_right (by simp [hA])]
  congr 1
  simp [hA]
/-- Cells laid from off on. -/
def setAt (cells : Array Value) (off : Nat) (cs : Array Value) : Array Value := (cells.toList.take off ++ cs.toList ++ cells.toList.drop (off + cs.size)).toArray
theorem setAt_size {cells cs : Array Value} {off : Nat} (h : off + cs.size ≤ cells.size) : (setAt cells off cs).size = cells.size := by
  simp [setAt]
  omega
theorem fill_put (place : Nat → Option (Nat × Nat)) (cells : Array Value) (i off : Nat) (v : Value) (cs : Array Value) (hv : v.cells = cs) (rest : List (Nat × Value)) (hp : place i = some (off, cs.size)) (hs : off + cs.size ≤ cells.size) :
    Instr.fill place cells ((i, v) :: rest) = Instr.fill place (setAt cells off cs) rest := by
  subst hv
  have e : (v.cells.zipIdx.foldl (fun cs (x : Value × Nat) => cs.setIfInBounds (off + x.2) x.1) cells) = setAt cells off v.cells := by
    obtain ⟨h1, h2⟩ := Go.Great.foldl_set off v.cells.toList 0 cells
    have e0 : v.cells.zipIdx.foldl (fun cs (x : Value × Nat) => cs.setIfInBounds (off + x.2) x.1) cells = (v.cells.toList.zipIdx 0).foldl (fun cs (x : Value × Nat) => cs.setIfInBounds (off + x.2) x.1) cells := by
      rw [← Array.foldl_toList, Array.toList_zipIdx]
    rw [e0]
    apply Array.ext_getElem?
    intro k
    rw [h2 k]
    unfold setAt
    simp only [Nat.add_zero, Array.length_toList, List.getElem?_toArray]
    by_cases q : off ≤ k ∧ k < off + v.cells.size ∧ k < cells.size
    · rw [if_pos q, List.getElem?_append_left (by simp; omega), List.getElem?_append_right (by simp; omega)]
      congr 1
      simp
      omega
    · rw [if_neg q]
      rcases Nat.lt_or_ge k off with q1 | q1
      · rw [List.getElem?_append_left (by simp; omega), List.getElem?_append_left (by simp; omega), List.getElem?_take, if_pos q1]
        simp
      · rcases Nat.lt_or_ge k (off + v.cells.size) with q2 | q2
        · omega
        · rw [List.getElem?_append_right (by simp; omega), List.getElem?_drop]
          simp only [List.length_append, List.length_take, Array.length_toList, Array.getElem?_toList]
          congr 1
          omega
  conv => lhs; unfold Instr.fill
  simp only [hp]
  rw [if_neg (by simp; omega)]
  exact congrArg (fun z => Instr.fill place z rest) e
theorem setAt_sheet {Z A C : Array Value} (k : Nat) (hZ : Z.size = 65) (hA : A.size = 32) (hC : C.size = 32) : setAt (setAt (setAt Z 0 #[.int .i64 (k : Int)]) 1 A) 33 C = shRow k A C := by
  have h1 : (setAt Z 0 #[.int .i64 (k : Int)]) = #[.int .i64 (k : Int)] ++ (Z.toList.drop 1).toArray := by
    apply Array.ext'
    simp [setAt]
  rw [h1]
  have h2 : setAt (#[.int .i64 (k : Int)] ++ (Z.toList.drop 1).toArray) 1 A = #[.int .i64 (k : Int)] ++ A ++ (Z.toList.drop 33).toArray := by
    apply Array.ext'
    simp only [setAt, Array.toList_append, List.toList_toArray]
    rw [hA]
    simp
  rw [h2]
  apply Array.ext'
  unfold setAt shRow
  simp only [Array.toList_append]
  have h3 : (([Value.int .i64 (k : Int)] ++ A.toList) ++ Z.toList.drop 33).take 33 = [Value.int .i64 (k : Int)] ++ A.toList := by
    rw [List.take_append_of_le_length (by simp [hA]), List.take_of_length_le (by simp [hA])]
  have h4 : (([Value.int .i64 (k : Int)] ++ A.toList) ++ Z.toList.drop 33).drop (33 + C.size) = [] := by
    rw [List.drop_eq_nil_of_le]
    simp [hA, hZ, hC]
  show ((([Value.int .i64 (k : Int)] ++ A.toList) ++ Z.toList.drop 33).take 33 ++ C.toList ++ (([Value.int .i64 (k : Int)] ++ A.toList) ++ Z.toList.drop 33).drop (33 + C.size)) = _
  rw [h3, h4, List.append_nil]
theorem sheet_built {k : Nat} {A C : Array Value} (hA : A.size = 32) (hC : C.size = 32) : Tryz.prog.built 367 [(0, .int .i64 (k : Int)), (1, .agg A), (2, .agg C)] = some (shRow k A C) := by
  have hinfo : ((Tryz.prog.info? 367).bind (·.zero)).map (fun z => z.cells.size) = some 65 := by kernel_rfl
  have hpl : (match Tryz.prog.underlying 367 with | some (.struct fields) => fields.toList.mapM (fun f => (Tryz.prog.info? f.type).map fun i => (f.offset, i.size)) | _ => none) = some [(0, 1), (1, 32), (33, 32)] := by kernel_rfl
  have hst : (match Tryz.prog.underlying 367 with | some (.struct _) => true | _ => false) = true := by kernel_rfl
  unfold Program.built
  cases hi : Tryz.prog.info? 367 with
  | none => rw [hi] at hinfo; cases hinfo
  | some it =>
    cases hu : Tryz.prog.underlying 367 with
    | none => rw [hu] at hst; cases hst
    | some d =>
      rw [hu] at hpl hst
      rw [hi] at hinfo
      cases hz : it.zero with
      | none => simp [hz] at hinfo
      | some z =>
        have hzs : z.cells.size = 65 := by simpa [hz] using hinfo
        cases d <;> try (cases hst; done)
        rename_i fields
        simp only at hpl
        simp only [hpl, hz]
        generalize z.cells = Z at *
        rw [fill_put _ _ _ 0 _ #[.int .i64 (k : Int)] rfl _ rfl (by rw [hzs]; show 0 + 1 ≤ 65; omega)]
        have hs1 : (setAt Z 0 #[.int .i64 (k : Int)]).size = 65 := by rw [setAt_size (by rw [hzs]; show 0 + 1 ≤ 65; omega), hzs]
        rw [fill_put _ _ _ 1 _ A rfl _ (by rw [hA]; rfl) (by rw [hs1, hA]; omega)]
        have hs2 : (setAt (setAt Z 0 #[.int .i64 (k : Int)]) 1 A).size = 65 := by rw [setAt_size (by rw [hs1, hA]; omega), hs1]
        rw [fill_put _ _ _ 33 _ C rfl _ (by rw [hC]; rfl) (by rw [hs2, hC]; omega), setAt_sheet k hzs hA hC]
        rfl
/-- A block of a draft's own. -/
def IsD (w : World) (k : Nat) : Prop := ∃ cs t fr, w.heap[k]? = some (.cells cs t fr) ∧ (t = 310 ∨ t = 367 ∨ t = 365)
theorem isD_same {w w' : World} {k : Nat} (h : w'.heap[k]? = w.heap[k]?) : IsD w' k ↔ IsD w k := by unfold IsD; rw [h]
/-- What a draft's calls may touch: the store, and blocks of a draft's own from base on. -/
structure DT (base : Nat) (B : Sto) (w w' : World) : Prop where
  os : w'.os = w.os
  tape : w'.tape = w.tape
  output : w'.output = w.output
  size : w.heap.size ≤ w'.heap.size
  block : ∀ k, k < w.heap.size → (k < B.lo ∨ ¬ IsSt w k) → (k < base ∨ ¬ IsD w k) → w'.heap[k]? = w.heap[k]?
theorem DT.refl (base : Nat) (B : Sto) (w : World) : DT base B w w := ⟨rfl, rfl, rfl, Nat.le_refl _, fun _ _ _ _ => rfl⟩
theorem DT.trans {base : Nat} {B : Sto} {a b c : World} (h : DT base B a b) (k : DT base B b c) : DT base B a c :=
  ⟨k.os.trans h.os, k.tape.trans h.tape, k.output.trans h.output, Nat.le_trans h.size k.size, fun i hi hB hg => by
    have e := h.block i hi hB hg
    refine (k.block i (Nat.lt_of_lt_of_le hi h.size) ?_ ?_).trans e
    · rcases hB with hB | hB
      · exact Or.inl hB
      · exact Or.inr (fun x => hB ((isSt_same e).1 x))
    · rcases hg with hg | hg
      · exact Or.inl hg
      · exact Or.inr (fun x => hg ((isD_same e).1 x))⟩
theorem DT.of_below {base : Nat} {B : Sto} {w w' : World} (h : Below w.heap.size w w') : DT base B w w' := ⟨h.os, h.tape, h.output, h.size, fun k hk _ _ => h.block k hk⟩
/-- A store into a block of the draft's own. -/
theorem DT.of_own {base q : Nat} {B : Sto} {w w' : World} (h : Upd q w w') (hq : base ≤ q) (hd : IsD w q) : DT base B w w' := ⟨h.os, h.tape, h.output, h.size, fun k hk _ hg => h.block k hk (fun e => by
  subst e
  rcases hg with hg | hg
  · omega
  · exact hg hd)⟩
theorem DT.other {base : Nat} {B : Sto} {w w' : World} (h : DT base B w w') {k : Nat} {cs : Array Value} {t : TypeId} {fr : Nat × Nat} (hk : w.heap[k]? = some (.cells cs t fr)) (hB : stB t = false) (ht : t ≠ 310 ∧ t ≠ 367 ∧ t ≠ 365) : w'.heap[k]? = some (.cells cs t fr) := by
  rw [h.block k (lt_of_heap hk) (Or.inr (not_isSt hk hB)) (Or.inr ?_)]
  · exact hk
  · rintro ⟨cs', t', fr', e, ht'⟩
    rw [hk] at e
    simp only [Option.some.injEq, Obj.cells.injEq] at e
    obtain ⟨_, rfl, _⟩ := e
    rcases ht' with e | e | e
    · exact ht.1 e
    · exact ht.2.1 e
    · exact ht.2.2 e
theorem DT.bm {base : Nat} {B : Sto} {w w' : World} (h : DT base B w w') {b g n : Nat} {ws : List Nat} (hb : Bi.BmAt w b g n ws) : Bi.BmAt w' b g n ws :=
  hb.keep ((h.other hb.head (by decide) (by decide)).trans hb.head.symm) ((h.other hb.row (by decide) (by decide)).trans hb.row.symm)
/-- A draft: its head is block bd, its store B; the store's words are vs, what they shall be is ws. -/
structure DrAt (w : World) (base bd : Nat) (B : Sto) (n : Nat) (vs ws : List Int) (m : Nat) (sv : Value) (S : List (Nat × Nat)) : Prop where
  head : w.heap[bd]? = some (.cells #[sto B, sv, .int .i64 0] 310)
  own : w.ownsRow base 365 1 sv S.length (S.map (fun p => ptr p.2))
  bB : base ≤ bd
  sh : ∀ p ∈ S, base ≤ p.2 ∧ p.1 < n ∧ ∃ A : Array Value, A.size = 32 ∧ w.heap[p.2]? = some (.cells (shRow p.1 A (urow (frameOf ws p.1))) 367)
  nd : (S.map (fun p => p.1)).Nodup
  out : ∀ k, k < n → k ∉ S.map (fun p => p.1) → frameOf ws k = frameOf vs k
  len : ws.length = n * 32
  disk : Dk w B n vs (m + S.length)
  nn : n ≤ 1024
section
variable {w w' : World} {base bd n m k : Nat} {B : Sto} {vs ws : List Int} {sv : Value} {S : List (Nat × Nat)}
theorem DrAt.few (h : DrAt w base bd B n vs ws m sv S) : S.length ≤ n := by
  have := nodup_le n (S.map (fun p => p.1)) h.nd (fun x hx => by
    obtain ⟨p, hp, rfl⟩ := List.mem_map.1 hx
    exact (h.sh p hp).2.1)
  simpa using this
theorem DrAt.isd (h : DrAt w base bd B n vs ws m sv S) : IsD w bd := ⟨_, _, _, h.head, Or.inl rfl⟩
theorem DrAt.isq (h : DrAt w base bd B n vs ws m sv S) {p : Nat × Nat} (hp : p ∈ S) : IsD w p.2 := by
  obtain ⟨_, _, A, _, hh⟩ := h.sh p hp
  exact ⟨_, _, _, hh, Or.inr (Or.inl rfl)⟩
theorem DrAt.iso (h : DrAt w base bd B n vs ws m sv S) {g : Nat} (hg : sv.ownBlock = some g) : base ≤ g ∧ IsD w g := by
  obtain ⟨h1, cs, h2⟩ := own_type h.own hg
  exact ⟨h1, cs, _, _, h2, Or.inr (Or.inr rfl)⟩
theorem isD_not_st (h : IsD w k) : ¬ IsSt w k := by
  obtain ⟨_, _, _, e, ht⟩ := h
  refine not_isSt e ?_
  rcases ht with rfl | rfl | rfl <;> decide
/-- Kept, if the draft's own blocks and the store are. -/
theorem DrAt.keep (h : DrAt w base bd B n vs ws m sv S) (hk : ∀ k, base ≤ k → IsD w k → w'.heap[k]? = w.heap[k]?) (hs : ∀ k, IsSt w k → w'.heap[k]? = w.heap[k]?) : DrAt w' base bd B n vs ws m sv S := by
  refine ⟨(hk bd h.bB h.isd).trans h.head, ownsRow_at h.own (fun g hg => hk g (h.iso hg).1 (h.iso hg).2), h.bB, fun p hp => ?_, h.nd, h.out, h.len, h.disk.keep hs, h.nn⟩
  obtain ⟨h1, h2, A, h3, h4⟩ := h.sh p hp
  exact ⟨h1, h2, A, h3, (hk _ h1 (h.isq hp)).trans h4⟩
theorem DrAt.below (h : DrAt w base bd B n vs ws m sv S) (hb : Below w.heap.size w w') : DrAt w' base bd B n vs ws m sv S := by
  exact h.keep (fun k _ ⟨_, _, _, e, _⟩ => hb.block k (lt_of_heap e)) (fun k hk => hb.block k hk.lt)
/-- A sheet's words are laid anew. -/
theorem DrAt.put (h : DrAt w base bd B n vs ws m sv S) {b q : Nat} (hq : (b, q) ∈ S) {us : List Int} (hl : us.length = 32)
    (hw : ∀ A : Array Value, A.size = 32 → w.heap[q]? = some (.cells (shRow b A (urow (frameOf ws b))) 367) → w'.heap[q]? = some (.cells (shRow b A (urow us)) 367)) (hu : Upd q w w') :
    DrAt w' base bd B n vs (splice ws (b * 32) us) m sv S ∧ DT base B w w' := by
  obtain ⟨hq1, hbn, A, hA, hh⟩ := h.sh _ hq
  dsimp only at hq1 hbn hh
  have hbd : bd ≠ q := by
    intro e
    have := h.head
    rw [e, hh] at this
    simp only [Option.some.injEq, Obj.cells.injEq] at this
    exact absurd this.2.1 (by decide)
  have hsl : (splice ws (b * 32) us).length = n * 32 := by rw [splice_length _ _ _ (by rw [h.len, hl]; omega), h.len]
  refine ⟨⟨(hu.block _ (lt_of_heap h.head) hbd).trans h.head, ownsRow_at h.own (fun g hg => ?_), h.bB, fun p hp => ?_, h.nd, fun k hk hn => ?_, hsl, h.disk.other hu (not_isSt hh (by decide)), h.nn⟩, DT.of_own hu hq1 ⟨_, _, _, hh, Or.inr (Or.inl rfl)⟩⟩
  · obtain ⟨h1, cs, h2⟩ := own_type h.own hg
    refine hu.block _ (lt_of_heap h2) (fun e => ?_)
    rw [e, hh] at h2
    simp only [Option.some.injEq, Obj.cells.injEq] at h2
    exact absurd h2.2.1 (by decide)
  · obtain ⟨h1, h2, A', h3, h4⟩ := h.sh p hp
    rw [frame_splice ws us n b p.1 h.len hbn h2 hl]
    by_cases e : p.2 = q
    · have e1 : p.1 = b := by
        rw [e, hh] at h4
        simp only [Option.some.injEq, Obj.cells.injEq] at h4
        have h5 := congrArg (fun z => z[0]?) h4.1
        simp only [shRow_0, Option.some.injEq, Value.int.injEq, true_and] at h5
        omega
      rw [if_pos e1]
      refine ⟨h1, h2, A', h3, ?_⟩
      rw [e, e1] at h4 ⊢
      exact hw A' h3 h4
    · have e1 : p.1 ≠ b := by
        intro e1
        exact e (by rw [nd_fst h.nd hp hq e1])
      rw [if_neg e1]
      exact ⟨h1, h2, A', h3, (hu.block _ (lt_of_heap h4) e).trans h4⟩
  · rw [frame_splice ws us n b k h.len hbn hk hl, if_neg (fun e => hn (by rw [e]; exact List.mem_map.2 ⟨_, hq, rfl⟩))]
    exact h.out k hk hn
end
end Go.Proofs.YtikjfdihocgfpaaGreatDoor
namespace Go.Proofs.YtikjfdihocgfpaaGreatDoor
open Go.RowKit
theorem wpList_build_eq {P : Program} {ops : Array Oper} {rest : List Oper} {o : Oper} {a : Act} {w : World} {Q : Exit → Act → World → Prop} (hg : o.guard = none) (t : TypeId) (parts : Array (Nat × Operand)) (ho : o.op = .build t parts) (cells : Array Value)
    (hb : P.built t (parts.map fun (i, x) => (i, a.eval x)).toList = some cells) (h : wpList P ops Q rest (a.put o.dst (.agg cells)) w) : wpList P ops Q (o :: rest) a w :=
  wpList_build hg t parts ho (by rw [hb]; rfl) (by rw [hb]; exact h)
theorem sheetInfo : (Tryz.prog.info? 365).map (fun i => (i.zero, i.size, i.bytes)) = some (some (.pointer none), 1, 8) := by kernel_rfl
/-- Where the words of block b lie, to be changed. -/
def DrQ (w : World) (base bd : Nat) (B : Sto) (n : Nat) (vs ws : List Int) (m b q : Nat) : Prop := ∃ sv S, DrAt w base bd B n vs ws m sv S ∧ (b, q) ∈ S
def Dr (w : World) (base bd : Nat) (B : Sto) (n : Nat) (vs ws : List Int) (m : Nat) : Prop := ∃ sv S, DrAt w base bd B n vs ws m sv S
section
variable {w w' : World} {base bd n m : Nat} {B : Sto} {vs ws : List Int}
theorem DrQ.dr {b q : Nat} (h : DrQ w base bd B n vs ws m b q) : Dr w base bd B n vs ws m := by
  obtain ⟨sv, S, h, _⟩ := h
  exact ⟨sv, S, h⟩
theorem Dr.below (h : Dr w base bd B n vs ws m) (hb : Below w.heap.size w w') : Dr w' base bd B n vs ws m := by
  obtain ⟨sv, S, h⟩ := h
  exact ⟨sv, S, h.below hb⟩
theorem Dr.len (h : Dr w base bd B n vs ws m) : ws.length = n * 32 := by
  obtain ⟨sv, S, h⟩ := h
  exact h.len
theorem Dr.cells (h : Dr w base bd B n vs ws m) : ∃ sv, w.cell? ⟨bd, 0, none⟩ = some (sto B) ∧ w.cell? ⟨bd, 1, none⟩ = some sv ∧ w.cell? ⟨bd, 2, none⟩ = some (.int .i64 0) := by
  obtain ⟨sv, S, h⟩ := h
  exact ⟨sv, by rw [cell_of_heap h.head]; rfl, by rw [cell_of_heap h.head]; rfl, by rw [cell_of_heap h.head]; rfl⟩
/-- The sheet's words, and where they lie. -/
theorem DrQ.row {b q : Nat} (h : DrQ w base bd B n vs ws m b q) : ∃ A : Array Value, A.size = 32 ∧ w.heap[q]? = some (.cells (shRow b A (urow (frameOf ws b))) 367) ∧ base ≤ q ∧ b < n := by
  obtain ⟨sv, S, h, hq⟩ := h
  obtain ⟨h1, h2, A, h3, h4⟩ := h.sh _ hq
  exact ⟨A, h3, h4, h1, h2⟩
theorem DrQ.word {b q j : Nat} (h : DrQ w base bd B n vs ws m b q) (hj : j < 32) : w.cell? ⟨q, 33 + j, none⟩ = some (.int .u64 ((frameOf ws b).getD j 0)) := by
  have hl : ws.length = n * 32 := h.dr.len
  obtain ⟨A, hA, hh, _, hb⟩ := h.row
  rw [cell_of_heap hh, shRow_now hA, urow_get _ _ (by rw [frameOf_length ws b n hl hb]; exact hj)]
theorem DrQ.free {b q j : Nat} (h : DrQ w base bd B n vs ws m b q) : w.frozen? ⟨q, j, none⟩ = false := by
  obtain ⟨A, hA, hh, _, _⟩ := h.row
  exact frozen_of_heap hh
theorem shRow_set {k : Nat} {A : Array Value} {xs : List Int} (hA : A.size = 32) (j : Nat) (x : Int) : (shRow k A (urow xs)).setIfInBounds (33 + j) (.int .u64 x) = shRow k A (urow (xs.set j x)) := by
  unfold shRow
  apply Array.ext_getElem?
  intro i
  rw [Array.getElem?_setIfInBounds]
  by_cases e : 33 + j = i
  · subst e
    rw [if_pos rfl, Array.getElem?_append_right (by simp [hA])]
    simp only [Array.size_append, hA, urow_size, List.length_set]
    by_cases q : j < xs.length
    · rw [if_pos (by simp; omega)]
      simp [urow, q]
    · rw [if_neg (by simp; omega)]
      simp [urow]
      omega
  · rw [if_neg e]
    by_cases q : i < 33
    · rw [Array.getElem?_append_left (xs := #[Value.int .i64 (k : Int)] ++ A) (by simp [hA]; omega), Array.getElem?_append_left (xs := #[Value.int .i64 (k : Int)] ++ A) (by simp [hA]; omega)]
    · rw [Array.getElem?_append_right (by simp [hA]; omega), Array.getElem?_append_right (by simp [hA]; omega)]
      simp only [urow, hA, Array.size_append, List.size_toArray, List.length_cons, List.length_nil, List.getElem?_toArray, List.getElem?_map]
      rw [List.getElem?_set_ne (by omega)]
/-- One word is laid anew. -/
theorem DrQ.set {b q j : Nat} {x : Int} (h : DrQ w base bd B n vs ws m b q) (hj : j < 32) :
    DrQ (w.setCell ⟨q, 33 + j, none⟩ (.int .u64 x)) base bd B n vs (splice ws (b * 32) ((frameOf ws b).set j x)) m b q ∧ DT base B w (w.setCell ⟨q, 33 + j, none⟩ (.int .u64 x)) := by
  have hl : ws.length = n * 32 := h.dr.len
  obtain ⟨_, _, _, _, hb⟩ := h.row
  obtain ⟨sv, S, h, hq⟩ := h
  obtain ⟨h1, h2⟩ := h.put hq (us := (frameOf ws b).set j x) (w' := w.setCell ⟨q, 33 + j, none⟩ (.int .u64 x)) (by rw [List.length_set, frameOf_length ws b n hl hb]) (fun A hA hh => by
    rw [setCell_eq_setRow w q _ _ _ _ _ hh, setRow_heap w q _ _ _ _ hh, shRow_set hA]) (Upd.setCell _ _ _ _)
  exact ⟨⟨sv, S, h1, hq⟩, h2⟩
/-- All 32 are. -/
theorem DrQ.lay {b q : Nat} {us : List Int} (h : DrQ w base bd B n vs ws m b q) (hu : us.length = 32) (hw : ∀ A : Array Value, A.size = 32 → w.heap[q]? = some (.cells (shRow b A (urow (frameOf ws b))) 367) → w'.heap[q]? = some (.cells (shRow b A (urow us)) 367)) (hU : Upd q w w') :
    DrQ w' base bd B n vs (splice ws (b * 32) us) m b q ∧ DT base B w w' := by
  obtain ⟨sv, S, h, hq⟩ := h
  obtain ⟨h1, h2⟩ := h.put hq hu hw hU
  exact ⟨⟨sv, S, h1, hq⟩, h2⟩
theorem DrAt.grow {sv sv' : Value} {S : List (Nat × Nat)} (h : DrAt w base bd B n vs ws m sv S) {w1 w4 w5 : World} {b q : Nat} {R : Array Value} (hb : b < n) (hnot : b ∉ S.map (fun p => p.1)) (hd1 : Dk w1 B n vs (m + S.length + 1))
    (hu1 : ST B.lo w w1) (hq : w1.heap.size ≤ q) (h4 : Below w1.heap.size w1 w4) (hq4 : w4.heap[q]? = some (.cells (shRow b R R) 367)) (hR : R = urow (frameOf vs b))
    (hgrow : w4.grownBy w5 sv.ownBlock) (hown5 : w5.ownsRow base 365 1 sv' (S.length + 1) (S.map (fun p => ptr p.2) ++ [ptr q])) :
    DrAt (w5.setCell ⟨bd, 1, none⟩ sv') base bd B n vs ws m sv' (S ++ [(b, q)]) ∧ DT base B w (w5.setCell ⟨bd, 1, none⟩ sv') := by
  have hbB := h.bB
  have hs1 := hu1.size
  have hbl := lt_of_heap h.head
  have hv : ∀ g, sv.ownBlock = some g → base ≤ g ∧ g < w.heap.size ∧ IsD w g ∧ g ≠ bd := by
    intro g hg
    obtain ⟨h1, cs, h2⟩ := own_type h.own hg
    refine ⟨h1, lt_of_heap h2, ⟨_, _, _, h2, Or.inr (Or.inr rfl)⟩, fun e => ?_⟩
    have h3 := h.head
    rw [← e, h2] at h3
    simp only [Option.some.injEq, Obj.cells.injEq] at h3
    exact absurd h3.2.1 (by decide)
  have old1 : ∀ k, k < w1.heap.size → sv.ownBlock ≠ some k → w5.heap[k]? = w1.heap[k]? := fun k hk hn => (hgrow.block k (Nat.lt_of_lt_of_le hk h4.size) (fun e => hn e.symm)).trans (h4.block k hk)
  have old : ∀ k, k < w.heap.size → (k < B.lo ∨ ¬ IsSt w k) → sv.ownBlock ≠ some k → w5.heap[k]? = w.heap[k]? := fun k hk hB hn => (old1 k (by omega) hn).trans (hu1.block k hk hB id)
  have hst1 : ∀ k, IsSt w1 k → k ≠ bd ∧ sv.ownBlock ≠ some k := fun k hk => by
    refine ⟨fun e => ?_, fun e => ?_⟩
    · have e1 := hu1.other h.head (by decide)
      rw [← e] at e1
      exact not_isSt e1 (by decide) hk
    · obtain ⟨_, cs, e1⟩ := own_type h.own e
      exact not_isSt (hu1.other e1 (by decide)) (by decide) hk
  have hh5 : w5.heap[bd]? = some (.cells #[sto B, sv, .int .i64 0] 310) := (old bd hbl (Or.inr (isD_not_st h.isd)) (fun e => (hv bd e).2.2.2 rfl)).trans h.head
  have hq5 : w5.heap[q]? = some (.cells (shRow b R R) 367) := (hgrow.block q (lt_of_heap hq4) (fun e => by have := (hv q e.symm).2.1; omega)).trans hq4
  refine ⟨⟨?_, ?_, hbB, fun p hp => ?_, ?_, fun k hk hn => h.out k hk (fun e => hn (by simp [e])), h.len, ?_, h.nn⟩, ⟨?_, ?_, ?_, ?_, fun k hk hB hg => ?_⟩⟩
  · rw [setCell_eq_setRow w5 bd 1 _ _ _ _ hh5, setRow_heap w5 bd _ _ _ _ hh5]
    rfl
  · rw [List.length_append, List.map_append]
    refine ownsRow_at hown5 (fun g hg => Below.heap_setCell _ _ _ _ ?_)
    show g ≠ bd
    intro e
    obtain ⟨_, cs, h2⟩ := own_type hown5 hg
    rw [e, hh5] at h2
    simp only [Option.some.injEq, Obj.cells.injEq] at h2
    exact absurd h2.2.1 (by decide)
  · rcases List.mem_append.1 hp with hp | hp
    · obtain ⟨h1, h2, A, h3, h4'⟩ := h.sh p hp
      refine ⟨h1, h2, A, h3, ?_⟩
      rw [Below.heap_setCell _ _ _ _ (show p.2 ≠ bd from fun e => by
        have h5 := h.head
        rw [← e, h4'] at h5
        simp only [Option.some.injEq, Obj.cells.injEq] at h5
        exact absurd h5.2.1 (by decide)), old p.2 (lt_of_heap h4') (Or.inr (isD_not_st (h.isq hp))) (fun e => by
        obtain ⟨_, cs, h5⟩ := own_type h.own e
        rw [h4'] at h5
        simp only [Option.some.injEq, Obj.cells.injEq] at h5
        exact absurd h5.2.1 (by decide))]
      exact h4'
    · simp only [List.mem_singleton] at hp
      subst hp
      refine ⟨by show base ≤ q; omega, hb, R, by rw [hR, urow_size, frameOf_length vs b n hd1.len hb], ?_⟩
      show (w5.setCell ⟨bd, 1, none⟩ sv').heap[q]? = _
      rw [Below.heap_setCell _ _ _ _ (show q ≠ bd by omega), hq5, h.out b hb hnot, ← hR]
  · rw [List.map_append, List.nodup_append]
    refine ⟨h.nd, by simp, fun x hx y hy e => ?_⟩
    simp only [List.map_cons, List.map_nil, List.mem_singleton] at hy
    subst hy
    subst e
    exact hnot hx
  · rw [List.length_append]
    exact hd1.keep (fun k hk => (Below.heap_setCell _ _ _ _ (show k ≠ bd from (hst1 k hk).1)).trans (old1 k hk.lt (hst1 k hk).2))
  · exact hgrow.os.trans (h4.os.trans hu1.os)
  · exact hgrow.tape.trans (h4.tape.trans hu1.tape)
  · exact hgrow.output.trans (h4.output.trans hu1.output)
  · have a1 := hgrow.size
    have a2 := h4.size
    simp only [World.setCell, Array.size_modify]
    omega
  · have hne : k ≠ bd := by
      rintro rfl
      rcases hg with hg | hg
      · omega
      · exact hg h.isd
    rw [Below.heap_setCell _ _ _ _ (show k ≠ bd from hne)]
    refine old k hk hB (fun e => ?_)
    rcases hg with hg | hg
    · have := (hv k e).1; omega
    · exact hg (hv k e).2.2.1
set_option maxHeartbeats 2000000 in
set_option maxRecDepth 100000 in
theorem dat_at (h : Dr w base bd B n vs ws m) (b : Nat) (hb : b < n) (hm : m ≤ 900000000000) :
    Calls Tryz.prog 193 #[ptr bd, .int .i64 b] w fun e w' => ∃ q, e = .returned (.pointer (some ⟨q, 33, none⟩)) ∧ DrQ w' base bd B n vs ws m b q ∧ DT base B w w' := by
  obtain ⟨sv, S, h⟩ := h
  have HH : Hid (DrAt w base bd B n vs ws m sv S) := h
  obtain ⟨a, cap, rfl⟩ := own_slice h.own
  have c0 : w.cell? ⟨bd, 0, none⟩ = some (sto B) := by rw [cell_of_heap h.head]; rfl
  have c1 : w.cell? ⟨bd, 1, none⟩ = some (.slice a S.length cap) := by rw [cell_of_heap h.head]; rfl
  have c2 : w.cell? ⟨bd, 2, none⟩ = some (.int .i64 0) := by rw [cell_of_heap h.head]; rfl
  have hle := h.few
  have hnn := h.nn
  have HS : Hid (∀ k, k < S.length → ∃ g q0 q, S[k]? = some (q0, q) ∧ a = some ⟨g, 0, none⟩ ∧ w.cell? ⟨g, k, none⟩ = some (ptr q) ∧ w.cell? ⟨q, 0, none⟩ = some (.int .i64 (q0 : Int))) := by
    intro k hk
    rcases h.own.2 with ⟨_, e⟩ | ⟨g, cap', cur, e2, hg, hh, hc, _, hcs, ht⟩
    · omega
    · simp only [Value.slice.injEq] at e2
      obtain ⟨e2, -, -⟩ := e2
      have hp := List.getElem?_eq_getElem hk
      obtain ⟨_, _, A, hA, hq⟩ := h.sh _ (List.getElem_mem hk)
      refine ⟨g, S[k].1, S[k].2, hp, e2, ?_, by rw [cell_of_heap hq]; exact shRow_0 _ _ _⟩
      rw [cell_of_heap hh]
      have e1 : (cur.toList.take (S.length * 1))[k]? = (S.map (fun p => ptr p.2))[k]? := by rw [ht]
      rw [List.getElem?_take_of_lt (by omega), List.getElem?_map, hp] at e1
      simpa using e1
  clear h
  obtain ⟨L, hL⟩ : ∃ L, L = S.length := ⟨_, rfl⟩
  have HL : Hid (L = S.length) := hL
  rw [← hL] at c1 hle HS
  clear hL
  go_enter Tryz.func193, Tryz.ntmps193
  go_wp2
  go_loopw [15] (fun s wr => ∃ (k : Nat), k ≤ L ∧ s = .int .i64 k ∧ wr = w ∧ Hid (∀ j p, j < k → S[j]? = some p → p.1 ≠ b)) (fun s _ => L - (intOf s).toNat)
  case atStart => exact ⟨0, by omega, rfl, rfl, fun j p hj => by omega⟩
  case round =>
    obtain ⟨k, hk, rfl, rfl, HA⟩ := hrel
    by_cases hlt : k < L
    · have hki : (k : Int) < (L : Int) := by omega
      obtain ⟨g, q0, q, hp, rfl, d0, d1⟩ := HS.out k hlt
      have HP : Hid (S[k]? = some (q0, q)) := hp
      clear hp
      by_cases hq : q0 = b
      · have hqb : ((q0 : Int) == (b : Int)) = true := by simp [hq]
        have HQ : Hid (q0 = b) := hq
        clear hq HA
        go_wp2
        go_ret
        refine ⟨q, rfl, ⟨_, S, HH.out, ?_⟩, DT.refl _ _ _⟩
        rw [← HQ.out]
        exact List.mem_of_getElem? HP.out
      · have hqb : ((q0 : Int) == (b : Int)) = false := by simp; omega
        have HQ : Hid (q0 ≠ b) := hq
        clear hq
        go_wp2
        go_roundw
        case rel =>
          refine ⟨k + 1, by omega, by go_num, by trivial, fun j p hj hp => ?_⟩
          by_cases e : j = k
          · subst e
            have := HP.out
            rw [this] at hp
            cases hp
            exact HQ.out
          · exact HA.out j p (by omega) hp
        case measure => simp [intOf]; omega
    · obtain rfl : k = L := by omega
      have hnot : b ∉ S.map (fun p => p.1) := by
        intro hm
        obtain ⟨p, hp, e⟩ := List.mem_map.1 hm
        obtain ⟨j, hj, ep⟩ := List.getElem_of_mem hp
        exact HA.out j p (by have := HL.out; omega) (by rw [List.getElem?_eq_getElem hj, ep]) e
      have HNot : Hid (b ∉ S.map (fun p => p.1)) := hnot
      have hd := HH.out.disk
      have hg := iget_at hd b hb (by have := HL.out; omega)
      have HLn : Hid _ := frameOf_length vs b n hd.len hb
      have hz := lit_zc
      clear hnot HA HS hd
      have hown := HH.out.own
      rw [← HL.out] at hown
      have hne : (Value.slice a k cap).ownBlock ≠ some bd := by
        intro e
        obtain ⟨_, cs, h2⟩ := own_type hown e
        have h5 := HH.out.head
        rw [h2] at h5
        simp only [Option.some.injEq, Obj.cells.injEq] at h5
        exact absurd h5.2.1 (by decide)
      have HNE : Hid ((Value.slice a k cap).ownBlock ≠ some bd) := hne
      have hbl : bd < wr.heap.size := lt_of_heap HH.out.head
      have HfB : Hid (base ≤ wr.heap.size) := by have := HH.out.bB; show base ≤ _; omega
      obtain ⟨R, hR⟩ : ∃ R, R = urow (frameOf vs b) := ⟨_, rfl⟩
      have HRq : Hid _ := hR
      have HRs : Hid (R.size = 32) := by show _ = _; rw [hR, urow_size]; exact HLn.out
      have HRo : Hid (R.all (·.oneCell') = true) := by show _ = _; rw [hR]; exact urow_one _
      obtain ⟨X, hX⟩ : ∃ X, X = shRow b R R := ⟨_, rfl⟩
      have HXq : Hid _ := hX
      rw [← hR] at hg
      obtain ⟨i0, hi0, hzz⟩ := Option.map_eq_some_iff.1 sheetInfo
      simp only [Prod.mk.injEq] at hzz
      obtain ⟨hz0, hz1, hz2⟩ := hzz
      have HOw : Hid _ := hown
      clear hR hX hne hown
      go_wp2_with fail
      refine hg.mono ?_
      rintro e w1 ⟨rfl, hd1, hu1⟩
      have HD1 : Hid (Dk w1 B n vs (m + S.length + 1)) := hd1
      have HU1 : Hid (ST B.lo wr w1) := hu1
      have hbl1 : bd < w1.heap.size := by have := hu1.size; omega
      have hheap := hu1.same HH.out.head (by decide)
      have c1' : w1.cell? ⟨bd, 1, none⟩ = some (.slice a k cap) := (World.cell?_of_block hheap).trans c1
      have f1' : w1.frozen? ⟨bd, 1, none⟩ = false := frozen_of_heap (hheap.trans HH.out.head)
      have hown1 : w1.ownsRow base 365 1 (.slice a k cap) k (S.map (fun p => ptr p.2)) := ownsRow_at HOw.out (fun g hg => by obtain ⟨_, cs, h2⟩ := own_type HOw.out hg; exact hu1.same h2 (by decide))
      have HO1 : Hid _ := hown1
      have hs1 : base ≤ w1.heap.size := by have := HfB.out; have := hu1.size; omega
      obtain ⟨W2, hW2⟩ : ∃ W, W = w1.alloc (.cells R 311) := ⟨_, rfl⟩
      have HW2 : Hid _ := hW2
      have HFZ : Hid ((((w1.alloc (.cells R 311)).alloc (.cells X 367)).alloc (.cells #[ptr (w1.heap.size + 1)] 365)).heap[bd]? = some (.cells #[sto B, .slice a k cap, .int .i64 0] 310)) := by
        show _ = _
        rw [Below.heap_alloc _ _ _ (by simp; omega), Below.heap_alloc _ _ _ (by simp; omega), Below.heap_alloc _ _ _ hbl1, hheap, HH.out.head, HL.out]
      clear hg hd1 hu1 hheap c0 c1 c2 hown1 hW2
      go_wp2_with (first
        | (refine wpList_store_row rfl 311 _ _ rfl w1.heap.size R rfl rfl 311 zc (heap_alloc_new _ _) (by rw [HRs.out]; exact contSize) (by rw [HRs.out]; rfl) HRo.out ?_; rw [setRow_alloc_new])
        | (refine wpList_load_row rfl 311 _ rfl w1.heap.size rfl 311 R (0, 0) _ (heap_alloc_new _ _) Tryz.underlying311 rfl (by rw [HRs.out]; exact contSize) ?_)
        | (refine wpList_build_eq rfl 367 _ rfl X (by rw [HXq.out, ← sheet_built HRs.out HRs.out]; go_simp) ?_)
        | (at_builtin; go_loud (refine wpList_append_lies _ rfl _ _ _ rfl base 365 i0 _ 1 8 Tryz.underlying308 hi0 hz0 hz1 hz2 rfl (by omega) (.slice a k cap) k (S.map (fun p => ptr p.2)) rfl (World.ownsRow.alloc (World.ownsRow.alloc (World.ownsRow.alloc HO1.out _) _) _) ⟨w1.heap.size + 1 + 1, 0, none⟩ 1 1 [ptr (w1.heap.size + 1)] rfl rfl (World.news_of_block (cs := #[ptr (w1.heap.size + 1)]) (t := 365) (fr := (0, 0)) (by have := heap_alloc_new ((w1.alloc (.cells R 311)).alloc (.cells X 367)) (.cells #[ptr (w1.heap.size + 1)] 365); simpa using this)) (by simp [Value.oneCell']) (by omega) (by unfold maxLen; omega) (by omega) (by simp; omega) _ rfl ?_; intro gg cap2 w5 hown5 hgrow hat hlt5; have h5 := (hgrow.block bd (by simp; omega) (Ne.symm HNE.out)).trans HFZ.out; have hcw : w5.cell? ⟨bd, 1, none⟩ = some (.slice a k cap) := (by rw [cell_of_heap h5]; rfl); have hfw : w5.frozen? ⟨bd, 1, none⟩ = false := frozen_of_heap h5; clear h5))
        | go_in)
      go_ret
      have hb4 : Below w1.heap.size w1 (((w1.alloc (.cells R 311)).alloc (.cells X 367)).alloc (.cells #[ptr (w1.heap.size + 1)] 365)) := ((below_alloc _ _).trans ((below_alloc _ _).mono (by simp))).trans ((below_alloc _ _).mono (by simp; omega))
      have hq4 : (((w1.alloc (.cells R 311)).alloc (.cells X 367)).alloc (.cells #[ptr (w1.heap.size + 1)] 365)).heap[w1.heap.size + 1]? = some (.cells (shRow b R R) 367) := by
        rw [Below.heap_alloc _ _ _ (by simp), heap_alloc2_new, HXq.out]
      obtain ⟨r1, r2⟩ := HH.out.grow hb HNot.out HD1.out HU1.out (by omega) hb4 hq4 HRq.out (by rw [← HL.out]; exact hgrow) (by rw [← HL.out]; simpa using hown5)
      exact ⟨_, rfl, ⟨_, _, r1, by simp⟩, r2⟩
end
end Go.Proofs.YtikjfdihocgfpaaGreatDoor
namespace Go.Proofs.YtikjfdihocgfpaaGreatDoor
open Go.RowKit
theorem frames_ext {n : Nat} {us ws : List Int} (hu : us.length = n * 32) (hw : ws.length = n * 32) (h : ∀ b, b < n → frameOf us b = frameOf ws b) : us = ws := by
  refine list_ext_getD _ _ (hu.trans hw.symm) fun i hi => ?_
  have hb : i / 32 < n := by omega
  have e := congrArg (fun l => l.getD (i % 32) 0) (h _ hb)
  simp only [frameOf_getD _ _ _ (Nat.mod_lt i (show 0 < 32 by omega))] at e
  rw [show i / 32 * 32 + i % 32 = i by omega] at e
  exact e
section
variable {w w' : World} {base bd n m : Nat} {B : Sto} {vs ws : List Int}
set_option maxHeartbeats 2000000 in
set_option maxRecDepth 100000 in
theorem dlay_at (h : Dr w base bd B n vs ws m) (hm : m ≤ 900000000000) :
    Calls Tryz.prog 197 #[ptr bd] w fun e w' => e = .returned (.int .i64 0) ∧ Dk w' B n ws (m + 2048) ∧ ST B.lo w w' := by
  obtain ⟨sv, S, h⟩ := h
  have HH : Hid (DrAt w base bd B n vs ws m sv S) := h
  obtain ⟨a, cap, rfl⟩ := own_slice h.own
  have c1 : w.cell? ⟨bd, 1, none⟩ = some (.slice a S.length cap) := by rw [cell_of_heap h.head]; rfl
  have c2 : w.cell? ⟨bd, 2, none⟩ = some (.int .i64 0) := by rw [cell_of_heap h.head]; rfl
  have hle := h.few
  have hnn := h.nn
  have hd := h.disk
  have HD : Hid (Dk w B n vs (m + S.length)) := hd
  have HS : Hid (∀ k, k < S.length → ∃ g q0 q, S[k]? = some (q0, q) ∧ a = some ⟨g, 0, none⟩ ∧ ¬ IsSt w g ∧ w.cell? ⟨g, k, none⟩ = some (ptr q)) := by
    intro k hk
    rcases h.own.2 with ⟨_, e⟩ | ⟨g, cap', cur, e2, hg, hh, hc, _, hcs, ht⟩
    · omega
    · simp only [Value.slice.injEq] at e2
      obtain ⟨e2, -, -⟩ := e2
      have hp := List.getElem?_eq_getElem hk
      refine ⟨g, S[k].1, S[k].2, hp, e2, not_isSt hh (by decide), ?_⟩
      rw [cell_of_heap hh]
      have e1 : (cur.toList.take (S.length * 1))[k]? = (S.map (fun p => ptr p.2))[k]? := by rw [ht]
      rw [List.getElem?_take_of_lt (by omega), List.getElem?_map, hp] at e1
      simpa using e1
  clear h hd
  obtain ⟨L, hL⟩ : ∃ L, L = S.length := ⟨_, rfl⟩
  have HL : Hid (L = S.length) := hL
  rw [← hL] at c1 hle HS HD
  clear hL
  go_enter Tryz.func197, Tryz.ntmps197
  go_wp2
  go_loopw [20] (fun s wr => ∃ (k : Nat) (us : List Int), k ≤ L ∧ s = .int .i64 k ∧ Dk wr B n us (m + L + k) ∧ ST B.lo w wr ∧ Hid (∀ b, b < n → frameOf us b = if b ∈ (S.take k).map (fun p => p.1) then frameOf ws b else frameOf vs b)) (fun s _ => L - (intOf s).toNat)
  case atStart => exact ⟨0, vs, by omega, rfl, HD.out, SU.refl _ _ _, fun b _ => by simp⟩
  case round =>
    obtain ⟨k, us, hk, rfl, hd, hu, HF⟩ := hrel
    have HU : Hid (ST B.lo w wr) := hu
    by_cases hlt : k < L
    · have hki : (k : Int) < (L : Int) := by omega
      obtain ⟨g, q0, q, hp, rfl, hgS, d0⟩ := HS.out k hlt
      have hmem := List.mem_of_getElem? hp
      obtain ⟨hbq, hq0, A, hA, hq⟩ := HH.out.sh _ hmem
      dsimp only at hbq hq0 hq
      have hq' : wr.heap[q]? = some (.cells (shRow q0 A (urow (frameOf ws q0))) 367) := hu.other hq (by decide)
      have hbd' : wr.heap[bd]? = w.heap[bd]? := hu.same HH.out.head (by decide)
      have e0 : wr.cell? ⟨bd, 0, none⟩ = some (sto B) := by rw [cell_of_heap (hbd'.trans HH.out.head)]; rfl
      have e1 : wr.cell? ⟨g, k, none⟩ = some (ptr q) := (World.cell?_of_block (hu.block g (cell_lt d0) (Or.inr hgS) id)).trans d0
      have e2 : wr.cell? ⟨q, 0, none⟩ = some (.int .i64 (q0 : Int)) := by rw [cell_of_heap hq']; exact shRow_0 _ _ _
      have HLw : Hid _ := frameOf_length ws q0 n HH.out.len hq0
      have e3 : wr.rangeAt q 33 (uvs (frameOf ws q0)) := by
        intro j v hv
        rw [cell_of_heap hq', shRow_now hA, urow]
        simpa [uvs] using hv
      obtain ⟨Rl, hRl⟩ : ∃ R, R = uvs (frameOf ws q0) := ⟨_, rfl⟩
      have HRl : Hid (Rl.length = 32) := by show _ = _; rw [hRl, uvs_len]; exact HLw.out
      have hput : Calls Tryz.prog 251 #[sto B, .int .i64 q0, .agg Rl.toArray] wr.drew fun e w' => e = .returned (.int .i64 0) ∧ Dk w' B n (splice us (q0 * 32) (frameOf ws q0)) (m + L + k + 1) ∧ ST B.lo wr.drew w' := by
        rw [hRl]
        exact iput_at (w := wr.drew) hd.drew q0 hq0 (by omega) (frameOf ws q0) HLw.out
      rw [← hRl] at e3
      have HP : Hid (S[k]? = some (q0, q)) := hp
      have hs0 : wr.cell? ⟨bd, 0, none⟩ = some (sto B) ∧ wr.cell? ⟨q, 0, none⟩ = some (.int .i64 (q0 : Int)) ∧ wr.rangeAt q 33 Rl := ⟨e0, e2, e3⟩
      have HKq : Hid (wr.heap[q]? = some (.cells (shRow q0 A (urow (frameOf ws q0))) 367) ∧ wr.heap[bd]? = w.heap[bd]?) := ⟨hq', hbd'⟩
      have HDl : Hid (us.length = n * 32) := hd.len
      have HDq : Hid (q0 < n) := hq0
      clear hp hmem hbq hq0 hA hq hq' hbd' hu hd e3 hRl d0 hgS HS
      go_wp2_with fail
      refine wp_region_held_drew (S := fun w' => w'.cell? ⟨bd, 0, none⟩ = some (sto B) ∧ w'.cell? ⟨q, 0, none⟩ = some (.int .i64 (q0 : Int)) ∧ w'.rangeAt q 33 Rl) (by kernel_rfl) hs0 (fun hHeld => ?_)
      refine wpAnyH_take (i := 0) (v := ?_) rfl (by kernel_rfl) (by kernel_rfl) (by kernel_rfl) (fun _ _ _ h => h) (Or.inl ⟨by kernel_rfl, ?_⟩) (by assumption) ?_
      rotate_left
      · (intro w hSw; (try dsimp only at hSw); go_simp) <;> with_reducible rfl
      (try simp only [Act.put, List.getElem_toArray, List.getElem_cons_zero, List.setIfInBounds_toArray, List.set_cons_zero, List.set_cons_succ])
      refine wpAnyH_take (i := 1) (v := ?_) rfl (by kernel_rfl) (by kernel_rfl) (by kernel_rfl) (fun _ _ _ h => h) (Or.inl ⟨by kernel_rfl, ?_⟩) (by assumption) ?_
      rotate_left
      · (intro w hSw; (try dsimp only at hSw); go_simp) <;> with_reducible rfl
      (try simp only [Act.put, List.getElem_toArray, List.getElem_cons_zero, List.getElem_cons_succ, List.setIfInBounds_toArray, List.set_cons_zero, List.set_cons_succ])
      refine wpAnyH_take (i := 2) (v := ?_) rfl (by kernel_rfl) (by kernel_rfl) (by kernel_rfl) (fun _ _ _ h => h) (Or.inl ⟨by kernel_rfl, ?_⟩) (by assumption) ?_
      rotate_left
      · (intro w hSw; (try dsimp only at hSw); go_simp) <;> with_reducible rfl
      (try simp only [Act.put, List.getElem_toArray, List.getElem_cons_zero, List.getElem_cons_succ, List.setIfInBounds_toArray, List.set_cons_zero, List.set_cons_succ])
      refine wpAnyH_take (i := 3) (v := ?_) rfl (by kernel_rfl) (by kernel_rfl) (by kernel_rfl) (fun _ _ _ h => h) (Or.inl ⟨by kernel_rfl, ?_⟩) (by assumption) ?_
      rotate_left
      · (intro w hSw; (try dsimp only at hSw); go_simp) <;> with_reducible rfl
      (try simp only [Act.put, List.getElem_toArray, List.getElem_cons_zero, List.getElem_cons_succ, List.setIfInBounds_toArray, List.set_cons_zero, List.set_cons_succ])
      refine wpAnyH_take (i := 4) (v := ?_) rfl (by kernel_rfl) (by kernel_rfl) (by kernel_rfl) (fun _ _ _ h => h) (Or.inl ⟨by kernel_rfl, ?_⟩) (by assumption) ?_
      rotate_left
      · (intro w hSw; (try dsimp only at hSw); go_simp) <;> with_reducible rfl
      (try simp only [Act.put, List.getElem_toArray, List.getElem_cons_zero, List.getElem_cons_succ, List.setIfInBounds_toArray, List.set_cons_zero, List.set_cons_succ])
      refine wpAnyH_take (i := 5) (v := ?_) rfl (by kernel_rfl) (by kernel_rfl) (by kernel_rfl) (fun _ _ _ h => h) (Or.inl ⟨by kernel_rfl, ?_⟩) (by assumption) ?_
      rotate_left
      · (intro w hSw; (try dsimp only at hSw); go_simp) <;> with_reducible rfl
      (try simp only [Act.put, List.getElem_toArray, List.getElem_cons_zero, List.getElem_cons_succ, List.setIfInBounds_toArray, List.set_cons_zero, List.set_cons_succ])
      refine wpAnyH_take (i := 6) (v := ?_) rfl (by kernel_rfl) (by kernel_rfl) (by kernel_rfl) (fun _ _ _ h => h) (Or.inl ⟨by kernel_rfl, ?_⟩) (by assumption) ?_
      rotate_left
      · (intro w hSw; (try dsimp only at hSw); go_simp) <;> with_reducible rfl
      (try simp only [Act.put, List.getElem_toArray, List.getElem_cons_zero, List.getElem_cons_succ, List.setIfInBounds_toArray, List.set_cons_zero, List.set_cons_succ])
      refine wpAnyH_take (i := 7) (v := ?_) rfl (by kernel_rfl) (by kernel_rfl) (by kernel_rfl) (fun _ _ _ h => h) (Or.inl ⟨by kernel_rfl, ?_⟩) (by assumption) ?_
      rotate_left
      · (intro w hSw; (try dsimp only at hSw); go_simp) <;> with_reducible rfl
      (try simp only [Act.put, List.getElem_toArray, List.getElem_cons_zero, List.getElem_cons_succ, List.setIfInBounds_toArray, List.set_cons_zero, List.set_cons_succ])
      refine wpAnyH_take (i := 8) (v := ?_) rfl (by kernel_rfl) (by kernel_rfl) (by kernel_rfl) (fun _ _ _ h => h) (Or.inl ⟨by kernel_rfl, ?_⟩) (by assumption) ?_
      rotate_left
      · (intro w hSw; (try dsimp only at hSw); go_simp) <;> with_reducible rfl
      (try simp only [Act.put, List.getElem_toArray, List.getElem_cons_zero, List.getElem_cons_succ, List.setIfInBounds_toArray, List.set_cons_zero, List.set_cons_succ])
      refine wpAnyH_take (i := 9) (v := ?_) rfl (by kernel_rfl) (by kernel_rfl) (by kernel_rfl) (fun _ _ _ h => h) (Or.inl ⟨by kernel_rfl, ?_⟩) (by assumption) ?_
      rotate_left
      · (intro w hSw; (try dsimp only at hSw); go_simp) <;> with_reducible rfl
      (try simp only [Act.put, List.getElem_toArray, List.getElem_cons_zero, List.getElem_cons_succ, List.setIfInBounds_toArray, List.set_cons_zero, List.set_cons_succ])
      refine wpAnyH_take (i := 10) (v := ?_) rfl (by kernel_rfl) (by kernel_rfl) (by kernel_rfl) (fun _ _ _ h => h) (Or.inl ⟨by kernel_rfl, ?_⟩) (by assumption) ?_
      rotate_left
      · (intro w hSw; (try dsimp only at hSw); go_simp) <;> with_reducible rfl
      (try simp only [Act.put, List.getElem_toArray, List.getElem_cons_zero, List.getElem_cons_succ, List.setIfInBounds_toArray, List.set_cons_zero, List.set_cons_succ])
      refine wpAnyH_take (i := 11) (v := .agg (Rl).toArray) rfl (by kernel_rfl) (by kernel_rfl) (by kernel_rfl) (fun _ _ _ h => h) (yieldsIf_load_mid (by kernel_rfl) 311 _ rfl q 33 rfl (Rl) _ (fun w h => h.2.2) Tryz.underlying311 rfl (by rw [HRl.out]; exact contSize)) (by assumption) ?_
      (try simp only [Act.put, List.getElem_toArray, List.getElem_cons_zero, List.getElem_cons_succ, List.setIfInBounds_toArray, List.set_cons_zero, List.set_cons_succ])
      refine wpAnyH_ready (rs := [12]) (by kernel_rfl) (by simp) ?_
      refine AllReadyH.cons rfl (fun K hK => ?_) AllReadyH.nil
      go_simp
      refine hput.mono ?_
      rintro e w1 ⟨rfl, hd1, hu1⟩
      have HD1 : Hid (Dk w1 B n (splice us (q0 * 32) (frameOf ws q0)) (m + L + k + 1)) := hd1
      have hu2 : ST B.lo wr w1 := ⟨hu1.os, hu1.tape, hu1.output, hu1.size, hu1.block⟩
      have HU1 : Hid (ST B.lo w w1) := HU.out.trans hu2
      have hs1 : w1.cell? ⟨bd, 0, none⟩ = some (sto B) ∧ w1.cell? ⟨q, 0, none⟩ = some (.int .i64 (q0 : Int)) ∧ w1.rangeAt q 33 Rl := by
        have hk1 := HKq.out
        have b1 := hu2.same (hk1.2.trans HH.out.head) (by decide)
        have b2 := hu2.same hk1.1 (by decide)
        refine ⟨(World.cell?_of_block b1).trans hs0.1, (World.cell?_of_block b2).trans hs0.2.1, fun j v hv => (World.cell?_of_block b2).trans (hs0.2.2 j v hv)⟩
      clear hd1 hu1 hu2 hput
      refine hK.out _ _ hs1 (fun hHeld => ?_)
      clear hK K
      (try simp only [Act.put, List.getElem_toArray, List.getElem_cons_zero, List.getElem_cons_succ, List.setIfInBounds_toArray, List.set_cons_zero, List.set_cons_succ])
      refine wpAnyH_take (i := 13) (v := ?_) rfl (by kernel_rfl) (by kernel_rfl) (by kernel_rfl) (fun _ _ _ h => h) (Or.inl ⟨by kernel_rfl, ?_⟩) (by assumption) ?_
      rotate_left
      · (intro w hSw; (try dsimp only at hSw); go_simp) <;> with_reducible rfl
      (try simp only [Act.put, List.getElem_toArray, List.getElem_cons_zero, List.getElem_cons_succ, List.setIfInBounds_toArray, List.set_cons_zero, List.set_cons_succ])
      refine wpAnyH_done (by kernel_rfl) ?_ _
      clear hs0 hs1 e0 e2
      go_wp2
      go_roundw
      case rel =>
        refine ⟨k + 1, _, by omega, by go_num, HD1.out, HU1.out, fun b hb => ?_⟩
        have hP : S[k]? = some (q0, q) := HP.out
        rw [frame_splice us _ n q0 b HDl.out HDq.out hb HLw.out, HF.out b hb, List.take_add_one, hP]
        by_cases e : b = q0
        · rw [if_pos e, if_pos (by simp [e]), e]
        · rw [if_neg e]
          by_cases q1 : b ∈ (S.take k).map (fun p => p.1)
          · rw [if_pos q1, if_pos (by rw [List.map_append]; exact List.mem_append_left _ q1)]
          · rw [if_neg q1, if_neg (by rw [List.map_append, List.mem_append]; rintro (h | h); exact q1 h; simp at h; exact e h)]
      case measure => simp [intOf]; omega
    · obtain rfl : k = L := by omega
      have hus : us = ws := frames_ext hd.len HH.out.len (fun b hb => by
        rw [HF.out b hb, HL.out, List.take_length]
        by_cases q1 : b ∈ S.map (fun p => p.1)
        · rw [if_pos q1]
        · rw [if_neg q1, HH.out.out b hb q1])
      have HE : Hid (Dk wr B n ws (m + k + k)) := by rw [← hus]; exact hd
      clear hd hu hus HS
      go_wp2
      go_ret
      exact ⟨rfl, HE.out.mono (by omega), HU.out⟩
end
end Go.Proofs.YtikjfdihocgfpaaGreatDoor
