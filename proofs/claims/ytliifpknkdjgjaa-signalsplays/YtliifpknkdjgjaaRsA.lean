/- The reference of package signals: its processes in the heap; Pid, Copy, fresh, New. -/
import Derived.Test.YtliifpknkdjgjaaDeed20
namespace Go.Proofs.Ytliifpknkdjgjaa
open Go.RowKit Go.Lib
set_option linter.unusedVariables false

/-- The reference's process at place o of a row. -/
structure RgR (w : World) (row : Array Value) (o : Nat) (p : Sg) : Prop where
  size : o + 33 ≤ row.size
  hnd : ∀ j, j < 15 → row[o + j]? = some (.int .u64 (p.h.getD j 0))
  pen : ∀ j, j < 15 → row[o + 15 + j]? = some (.bool (p.q.testBit (j + 1)))
  inh : row[o + 30]? = some (.bool p.k.isSome)
  pc : row[o + 31]? = some (.int .i64 p.pc)
  stk : ∃ a c, row[o + 32]? = some (.slice a p.st.length c) ∧ p.st.length ≤ c ∧ TRd w a p.st
theorem RgR.keep {w w' : World} {row row' : Array Value} {o : Nat} {p : Sg} (h : RgR w row o p) (hs : row'.size = row.size) (hk : ∀ k, o ≤ k → k < o + 33 → row'[k]? = row[k]?) (hw : KeepW w w') : RgR w' row' o p := by
  obtain ⟨a, c, h1, h2, h3⟩ := h.stk
  refine ⟨by rw [hs]; exact h.size, fun j hj => ?_, fun j hj => ?_, ?_, ?_, ⟨a, c, ?_, h2, h3.kept hw⟩⟩
  · rw [hk _ (by omega) (by omega)]; exact h.hnd j hj
  · rw [hk _ (by omega) (by omega)]; exact h.pen j hj
  · rw [hk _ (by omega) (by omega)]; exact h.inh
  · rw [hk _ (by omega) (by omega)]; exact h.pc
  · rw [hk _ (by omega) (by omega)]; exact h1
theorem RgR.kept {w w' : World} {row : Array Value} {o : Nat} {p : Sg} (h : RgR w row o p) (hw : KeepW w w') : RgR w' row o p := h.keep rfl (fun _ _ _ => rfl) hw
/-- Outside of the process at place o nothing changed. -/
def SameR (o : Nat) (row row' : Array Value) : Prop := row'.size = row.size ∧ ∀ k, k < o ∨ o + 33 ≤ k → row'[k]? = row[k]?
theorem SameR.refl (o : Nat) (row : Array Value) : SameR o row row := ⟨rfl, fun _ _ => rfl⟩
theorem SameR.trans {o : Nat} {r1 r2 r3 : Array Value} (h : SameR o r1 r2) (k : SameR o r2 r3) : SameR o r1 r3 := ⟨k.1.trans h.1, fun i hi => (k.2 i hi).trans (h.2 i hi)⟩
theorem SameR.set {o i : Nat} (row : Array Value) (v : Value) (h : i < 33) : SameR o row (row.setIfInBounds (o + i) v) := ⟨by simp, fun k hk => by rw [Array.getElem?_setIfInBounds, if_neg (by omega)]⟩
/-- Block b holds this row of the reference. -/
def RB (w : World) (b : Nat) (row : Array Value) : Prop := w.heap[b]? = some (.cells row 72)
section
variable {w w' : World} {b : Nat} {row : Array Value}
theorem RB.lt (h : RB w b row) : b < w.heap.size := lt_of_heap h
theorem RB.keep (h : RB w b row) (hb : w'.heap[b]? = w.heap[b]?) : RB w' b row := hb.trans h
theorem RB.below (h : RB w b row) (hb : Below w.heap.size w w') : RB w' b row := h.keep (hb.block _ h.lt)
theorem RB.drew (h : RB w b row) : RB w.drew b row := h
theorem RB.drewN (h : RB w b row) (q : Nat) : RB (w.drewN q) b row := h
theorem RB.cell (h : RB w b row) (i : Nat) : w.cell? ⟨b, i, none⟩ = row[i]? := cell_of_heap h
theorem RB.free (h : RB w b row) (i : Nat) : w.frozen? ⟨b, i, none⟩ = false := frozen_of_heap h
theorem RB.set (h : RB w b row) (i : Nat) (v : Value) : RB (w.setCell ⟨b, i, none⟩ v) b (row.setIfInBounds i v) := by
  unfold RB at *
  rw [setCell_eq_setRow w b i _ _ _ _ h, setRow_heap w b _ _ _ _ h]
theorem RB.kw (h : RB w b row) (hu : Upd b w w') : KeepW w w' := KeepW.upd h (by decide) hu
end
theorem RB.sets {b : Nat} : ∀ (vs : List Value) (o : Nat) (w : World) (row : Array Value), RB w b row → RB (w.setCells b o vs) b (putA row o vs)
  | [], _, _, _, h => h
  | v :: r, o, w, row, h => RB.sets r (o + 1) _ _ (h.set o v)
theorem RB.there {w : World} {b : Nat} {row : Array Value} (h : RB w b row) (o n : Nat) (hn : o + n ≤ row.size) : w.there b o n := fun j hj => by
  refine ⟨?_, h.free _⟩
  rw [h.cell, Array.getElem?_eq_getElem (by omega)]
  rfl
theorem putA_sameR {vs : List Value} (o : Nat) (row : Array Value) (h : vs.length = 33) : SameR o row (putA row o vs) := ⟨putA_size _ _ _, fun k hk => putA_out vs o row k (by omega)⟩
/-- What is told of the processes in the row. -/
structure RgRow (w : World) (row : Array Value) (S : SS) : Prop where
  size : row.size = 264
  at' : ∀ i, i < 8 → RgR w row (i * 33) (S i)
theorem RgRow.put {w w' : World} {row row' : Array Value} {S : SS} {i : Nat} {p : Sg} (h : RgRow w row S) (hs : SameR (i * 33) row row') (hr : RgR w' row' (i * 33) p) (hw : KeepW w w') : RgRow w' row' (S.set i p) := by
  refine ⟨hs.1.trans h.size, fun j hj => ?_⟩
  by_cases e : j = i
  · rw [e, SS.set_same]; exact hr
  · rw [SS.set_other _ _ _ _ e]
    exact (h.at' j hj).keep hs.1 (fun k h1 h2 => hs.2 k (by omega)) hw
theorem RgRow.kept {w w' : World} {row : Array Value} {S : SS} (h : RgRow w row S) (hw : KeepW w w') : RgRow w' row S := ⟨h.size, fun i hi => (h.at' i hi).kept hw⟩
theorem RgRow.ext {w : World} {row : Array Value} {S T : SS} (h : RgRow w row S) (he : ∀ i, i < 8 → T i = S i) : RgRow w row T := ⟨h.size, fun i hi => by rw [he i hi]; exact h.at' i hi⟩
/-- Block b holds the reference's signals S. -/
def RgAt (w : World) (b : Nat) (S : SS) : Prop := ∃ row, RB w b row ∧ RgRow w row S
section
variable {w w' : World} {b : Nat} {S : SS}
theorem RgAt.lt (h : RgAt w b S) : b < w.heap.size := by
  obtain ⟨row, hr, _⟩ := h
  exact hr.lt
theorem RgAt.keep (h : RgAt w b S) (hb : w'.heap[b]? = w.heap[b]?) (hw : KeepW w w') : RgAt w' b S := by
  obtain ⟨row, hr, h1⟩ := h
  exact ⟨row, hr.keep hb, h1.kept hw⟩
theorem RgAt.below (h : RgAt w b S) (hb : Below w.heap.size w w') : RgAt w' b S := h.keep (hb.block _ h.lt) (KeepW.below hb)
theorem RgAt.kw (h : RgAt w b S) (hu : Upd b w w') : KeepW w w' := by
  obtain ⟨row, hr, _⟩ := h
  exact hr.kw hu
theorem RgAt.ne {c : Nat} {T : SS} (h : RgAt w b S) (hc : SgAt w c T) : b ≠ c := by
  obtain ⟨row, hr, _⟩ := h
  obtain ⟨row2, hp, _⟩ := hc
  intro e
  unfold RB at hr
  unfold SB at hp
  rw [e, hp] at hr
  simp only [Option.some.injEq, Obj.cells.injEq] at hr
  exact absurd hr.2.1 (by decide)
end

theorem heap_sets {b : Nat} {t : TypeId} : ∀ {vs : List Value} {o : Nat} {w : World} {row : Array Value}, w.heap[b]? = some (.cells row t (0, 0)) → (w.setCells b o vs).heap[b]? = some (.cells (putA row o vs) t (0, 0))
  | [], _, _, _, h => h
  | v :: r, o, w, row, h => heap_sets (vs := r) (o := o + 1) (heap_set h o v)
theorem xPid_at (n : Int) (w : World) :
    Calls Try.prog 47 #[.int .i64 n] w fun x w' => x = .returned (.bool (isP n)) ∧ w' = w := by
  cases hs : isP n with
  | true =>
    obtain ⟨i, rfl, hi⟩ := isP_nat hs
    have g0 : decide (1 ≤ (i : Int) + 1) = true := decide_eq_true (by omega)
    have g1 : decide ((i : Int) + 1 ≤ 8) = true := decide_eq_true (by omega)
    clear hs
    generalize (i : Int) + 1 = n at *
    go_enter Try.func47, Try.ntmps47
    go_wp2
    go_ret
    exact ⟨rfl, rfl⟩
  | false =>
    rcases isP_no hs with h | h
    · have g0 : decide (1 ≤ n) = false := decide_eq_false (by omega)
      clear hs
      go_enter Try.func47, Try.ntmps47
      go_wp2
      go_ret
      exact ⟨rfl, rfl⟩
    · have g0 : decide (1 ≤ n) = true := decide_eq_true (by omega)
      have g1 : decide (n ≤ 8) = false := decide_eq_false (by omega)
      clear hs
      go_enter Try.func47, Try.ntmps47
      go_wp2
      go_ret
      exact ⟨rfl, rfl⟩
set_option maxRecDepth 100000 in
set_option maxHeartbeats 2000000 in
theorem xcopy_at (pc : Int) (a : Option Addr) (n c : Nat) (xs : List Int) (w : World) (h : Rd w a xs) (hn : n = xs.length) (hl : n ≤ 2000) :
    Calls Try.prog 48 #[vmV pc a n c] w fun e w' => ∃ a' c', e = .returned (vmV pc a' n c') ∧ n ≤ c' ∧ TRd w' a' xs ∧ Below w.heap.size w w' := by
  obtain ⟨W, hW⟩ : ∃ W, W = (w.alloc (.cells #[.int .i64 pc, .slice a n c] 30)).alloc (.cells #[.int .i64 0, .slice none 0 0] 30) := ⟨_, rfl⟩
  obtain ⟨q, hq⟩ : ∃ q, q = w.heap.size := ⟨_, rfl⟩
  have hb : Below w.heap.size w W := by rw [hW]; exact below_alloc2 _ _ _
  have hs : W.heap.size = q + 1 + 1 := by rw [hW, hq]; simp
  have k0 : W.heap[q]? = some (.cells #[.int .i64 pc, .slice a n c] 30 (0, 0)) := by
    rw [hW, hq, Below.heap_alloc _ _ _ (by simp)]
    exact heap_alloc_new _ _
  have k1 : W.heap[q + 1]? = some (.cells #[.int .i64 0, .slice none 0 0] 30 (0, 0)) := by
    rw [hW, hq]
    have := heap_alloc_new (w.alloc (.cells #[.int .i64 pc, .slice a n c] 30)) (.cells #[.int .i64 0, .slice none 0 0] 30)
    simpa using this
  have hrd : Rd W.drew a xs := h.below (hb.drew)
  obtain ⟨a1, c1, w1, hrun, hown, hU⟩ := appS (w := W.drew) (B := W.heap.size) (n := 0) (c := 0) (a := none) (sa := a) (cap := c) (D := []) (E := xs) (World.ownsRow_nil _ _ _ 1) rfl (Nat.le_refl _) (by omega) hn.symm hl hrd
  rw [List.nil_append, Nat.zero_add] at hown
  rw [Nat.zero_add] at hrun
  have hbw : Below W.heap.size W w1 := (Below.refl W.heap.size W).drew.trans hU.bel
  have j0 := (hbw.block q (by omega)).trans k0
  have j1 := (hbw.block (q + 1) (by omega)).trans k1
  have HB1 : Hid (Below w.heap.size w w1) := hb.trans (hbw.mono hb.size)
  have z0 : W.drew.cell? ⟨q, 0, none⟩ = some (.int .i64 pc) := (by rw [cell_of_heap k0]; rfl : W.cell? ⟨q, 0, none⟩ = _)
  have z1 : W.drew.cell? ⟨q, 1, none⟩ = some (.slice a n c) := (by rw [cell_of_heap k0]; rfl : W.cell? ⟨q, 1, none⟩ = _)
  have y0 : w1.cell? ⟨q, 0, none⟩ = some (.int .i64 pc) := by rw [cell_of_heap j0]; rfl
  have y1 : w1.cell? ⟨q, 1, none⟩ = some (.slice a n c) := by rw [cell_of_heap j0]; rfl
  have d0 : w1.cell? ⟨q + 1, 0, none⟩ = some (.int .i64 0) := by rw [cell_of_heap j1]; rfl
  have d1 : w1.cell? ⟨q + 1, 1, none⟩ = some (.slice none 0 0) := by rw [cell_of_heap j1]; rfl
  have e0 : w1.frozen? ⟨q + 1, 0, none⟩ = false := frozen_of_heap j1
  have e1 : w1.frozen? ⟨q + 1, 1, none⟩ = false := frozen_of_heap j1
  rw [hn] at hown
  obtain ⟨a', c', hv, hcc, hT⟩ := own_trd hown
  simp only [Value.slice.injEq] at hv
  obtain ⟨rfl, -, rfl⟩ := hv
  have HT : Hid (TRd w1 a1 xs) := hT
  have HC : Hid (xs.length ≤ c1) := hcc
  have HN : Hid (n = xs.length) := hn
  have HJ0 : Hid (w1.heap[q]? = some (.cells #[.int .i64 pc, .slice a n c] 30 (0, 0))) := j0
  have HTh : Hid (w1.there (q + 1) 0 2) := fun j hj => by
    refine ⟨?_, frozen_of_heap j1⟩
    rw [cell_of_heap j1, Array.getElem?_eq_getElem (by simpa using hj)]
    rfl
  have HJ1 : Hid (w1.heap[q + 1]? = some (.cells #[.int .i64 0, .slice none 0 0] 30 (0, 0))) := j1
  have HQ : Hid (q = w.heap.size) := hq
  have HW : Hid _ := hW
  have hrun' : ∀ ty, (Builtin.append_ #[28, 28] ty #[.slice none 0 0, .slice a n c]).run Try.prog W.drew = .ok (.slice a1 n c1) w1 := hrun
  clear hW hq hb hs k0 k1 h hn hl hrd hrun hown hU hbw j0 j1 hT hcc
  go_enter Try.func48, Try.ntmps48
  go_upto_region 1 with fail
  rw [← HW.out, ← HQ.out]
  clear HW
  refine wp_region_held_drew (S := fun w' => w'.cell? ⟨q, 0, none⟩ = some (.int .i64 pc) ∧ w'.cell? ⟨q, 1, none⟩ = some (.slice a n c)) (by kernel_rfl) ⟨z0, z1⟩ (fun hHeld => ?_)
  refine wpAnyH_take (i := 0) (v := ?_) rfl (by kernel_rfl) (by kernel_rfl) (by kernel_rfl) (fun _ _ _ h => h) (Or.inl ⟨by kernel_rfl, ?_⟩) (by assumption) ?_
  rotate_left
  · (intro w hSw; (try dsimp only at hSw); go_simp) <;> with_reducible rfl
  (try simp only [Act.put, List.getElem_toArray, List.getElem_cons_zero, List.setIfInBounds_toArray, List.set_cons_zero, List.set_cons_succ])
  refine wpAnyH_take (i := 1) (v := ?_) rfl (by kernel_rfl) (by kernel_rfl) (by kernel_rfl) (fun _ _ _ h => h) (Or.inl ⟨by kernel_rfl, ?_⟩) (by assumption) ?_
  rotate_left
  · (intro w hSw; (try dsimp only at hSw); go_simp) <;> with_reducible rfl
  (try simp only [Act.put, List.getElem_toArray, List.getElem_cons_zero, List.getElem_cons_succ, List.setIfInBounds_toArray, List.set_cons_zero, List.set_cons_succ])
  refine wpAnyH_take (i := 2) (v := ?_) rfl (by kernel_rfl) (by kernel_rfl) (by kernel_rfl) (fun _ _ _ h => h) (Or.inl ⟨by kernel_rfl, ?_⟩) (by assumption) ?_
  rotate_left
  · (intro w hSw; (try dsimp only at hSw); go_simp) <;> with_reducible rfl
  (try simp only [Act.put, List.getElem_toArray, List.getElem_cons_zero, List.getElem_cons_succ, List.setIfInBounds_toArray, List.set_cons_zero, List.set_cons_succ])
  refine wpAnyH_take (i := 3) (v := ?_) rfl (by kernel_rfl) (by kernel_rfl) (by kernel_rfl) (fun _ _ _ h => h) (Or.inl ⟨by kernel_rfl, ?_⟩) (by assumption) ?_
  rotate_left
  · (intro w hSw; (try dsimp only at hSw); go_simp) <;> with_reducible rfl
  (try simp only [Act.put, List.getElem_toArray, List.getElem_cons_zero, List.getElem_cons_succ, List.setIfInBounds_toArray, List.set_cons_zero, List.set_cons_succ])
  refine wpAnyH_ready (rs := [4]) (by kernel_rfl) (by simp) ?_
  refine AllReadyH.cons rfl (fun K hK => ?_) AllReadyH.nil
  refine wp_append_eq _ _ _ rfl _ _ _ rfl rfl hrun' ?_
  refine hK.out _ _ ⟨y0, y1⟩ (fun hHeld => ?_)
  clear hK K
  (try simp only [Act.put, List.getElem_toArray, List.getElem_cons_zero, List.getElem_cons_succ, List.setIfInBounds_toArray, List.set_cons_zero, List.set_cons_succ])
  refine wpAnyH_take (i := 5) (v := ?_) rfl (by kernel_rfl) (by kernel_rfl) (by kernel_rfl) (fun _ _ _ h => h) (Or.inl ⟨by kernel_rfl, ?_⟩) (by assumption) ?_
  rotate_left
  · (intro w hSw; (try dsimp only at hSw); go_simp) <;> with_reducible rfl
  (try simp only [Act.put, List.getElem_toArray, List.getElem_cons_zero, List.getElem_cons_succ, List.setIfInBounds_toArray, List.set_cons_zero, List.set_cons_succ])
  refine wpAnyH_ready (rs := [6]) (by kernel_rfl) (by simp) ?_
  refine AllReadyH.cons rfl (fun K hK => ?_) AllReadyH.nil
  refine wp_store_mid 30 _ _ rfl (q + 1) 0 #[.int .i64 pc, .slice a1 n c1] rfl rfl HTh.out vmSize (by simp [Value.oneCell']) ?_
  have k2 := heap_sets (vs := [.int .i64 pc, .slice a1 n c1]) (o := 0) HJ1.out
  have hu := upd_sets (q + 1) [.int .i64 pc, .slice a1 n c1] 0 w1
  have HK : Hid (KeepW w1 (w1.setCells (q + 1) 0 [.int .i64 pc, .slice a1 n c1])) := KeepW.upd HJ1.out (by decide) hu
  have HB2 : Hid (Below w.heap.size w (w1.setCells (q + 1) 0 [.int .i64 pc, .slice a1 n c1])) := HB1.out.trans (hu.below (by have := HQ.out; omega) HB1.out.size)
  have s0 : (w1.setCells (q + 1) 0 [.int .i64 pc, .slice a1 n c1]).cell? ⟨q, 0, none⟩ = some (.int .i64 pc) := cell_same y0 (hu.block q (lt_of_heap HJ0.out) (by omega))
  have s1 : (w1.setCells (q + 1) 0 [.int .i64 pc, .slice a1 n c1]).cell? ⟨q, 1, none⟩ = some (.slice a n c) := cell_same y1 (hu.block q (lt_of_heap HJ0.out) (by omega))
  have HK2 : Hid ((w1.setCells (q + 1) 0 [.int .i64 pc, .slice a1 n c1]).heap[q + 1]? = some (.cells #[.int .i64 pc, .slice a1 n c1] 30 (0, 0))) := k2
  clear k2 hu d0 d1 e0 e1 z0 z1
  dsimp only at s0 s1 HK HB2 HK2 ⊢
  generalize w1.setCells (q + 1) 0 [.int .i64 pc, .slice a1 n c1] = V at *
  refine hK.out _ _ ⟨s0, s1⟩ (fun hHeld => ?_)
  clear hK K
  refine wpAnyH_done (by kernel_rfl) ?_ _
  clear hHeld
  go_wp2
  refine bodyPost_ret (v := vmV pc a1 n c1) (results_cell_row rfl _ _ (q + 1) 30 _ (0, 0) _ rfl HK2.out Try.underlying30 rfl vmSize) rfl ⟨a1, c1, rfl, by rw [HN.out]; exact HC.out, HT.out.kept HK.out, HB2.out⟩
end Go.Proofs.Ytliifpknkdjgjaa
