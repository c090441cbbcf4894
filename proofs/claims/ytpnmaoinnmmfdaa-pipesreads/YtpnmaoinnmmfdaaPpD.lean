/- Package pipes: the pipes in the heap; New, ring, Make, Put, Take, Len, Drop. -/
import Derived.Test.YtpnmaoinnmmfdaaPpC
namespace Go.Proofs.Ytpnmaoinnmmfdaa
open Go.RowKit Go.Lib
set_option linter.unusedVariables false

/-- A row that says S. -/
structure PpR (row : Array Value) (S : PS) : Prop where
  size : row.size = 288
  made : ∀ i, i < 16 → row[i]? = some (.bool (S i).isSome)
  ring : ∀ i, i < 16 → ∃ e, Ring row (16 + i * 17) e ((S i).getD [])
theorem PpR.fits {row : Array Value} {S : PS} (h : PpR row S) : Fit8 S := by
  intro i l hi hl
  obtain ⟨e, hr⟩ := h.ring i hi
  rw [hl] at hr
  exact hr.len
theorem PpR.put {row row' : Array Value} {S : PS} (h : PpR row S) {i e' : Nat} {l' : List UInt8} (hi : i < 16) (hs : Same (16 + i * 17) row row') (hr : Ring row' (16 + i * 17) e' l') (hm : (S i).isSome = true) : PpR row' (S.set i (some l')) := by
  refine ⟨hs.1.trans h.size, fun j hj => ?_, fun j hj => ?_⟩
  · rw [hs.2 j (by omega), h.made j hj]
    by_cases e : j = i
    · subst e; rw [PS.set_same, hm]; rfl
    · rw [PS.set_other _ _ _ _ e]
  · by_cases e : j = i
    · subst e; rw [PS.set_same]; exact ⟨e', hr⟩
    · rw [PS.set_other _ _ _ _ e]
      obtain ⟨e2, h2⟩ := h.ring j hj
      exact ⟨e2, h2.keep hs.1 (fun k h3 h4 => hs.2 k (by omega))⟩
theorem PpR.mk' {row : Array Value} {S : PS} (h : PpR row S) {i : Nat} (hi : i < 16) (hm : S i = none) : PpR (row.setIfInBounds i (.bool true)) (S.set i (some [])) := by
  have hs := h.size
  refine ⟨by rw [Array.size_setIfInBounds]; exact hs, fun j hj => ?_, fun j hj => ?_⟩
  · rw [Array.getElem?_setIfInBounds]
    by_cases e : i = j
    · subst e; rw [if_pos rfl, if_pos (by omega), PS.set_same]; rfl
    · rw [if_neg e, PS.set_other _ _ _ _ (fun q => e q.symm)]; exact h.made j hj
  · obtain ⟨e2, h2⟩ := h.ring j hj
    refine ⟨e2, ?_⟩
    have h3 : ((S.set i (some [])) j).getD [] = (S j).getD [] := by
      by_cases e : j = i
      · subst e; rw [PS.set_same, hm]; rfl
      · rw [PS.set_other _ _ _ _ e]
    rw [h3]
    exact h2.keep (by simp) (fun k h3 h4 => by rw [Array.getElem?_setIfInBounds, if_neg (by omega)])
theorem PpR.gone {row row' : Array Value} {S : PS} (h : PpR row S) {i e' : Nat} (hi : i < 16) (hs : Same (16 + i * 17) (row.setIfInBounds i (.bool false)) row') (hr : Ring row' (16 + i * 17) e' []) : PpR row' (S.set i none) := by
  have hz := h.size
  refine ⟨hs.1.trans (by rw [Array.size_setIfInBounds]; exact hz), fun j hj => ?_, fun j hj => ?_⟩
  · rw [hs.2 j (by omega), Array.getElem?_setIfInBounds]
    by_cases e : i = j
    · subst e; rw [if_pos rfl, if_pos (by omega), PS.set_same]; rfl
    · rw [if_neg e, PS.set_other _ _ _ _ (fun q => e q.symm)]; exact h.made j hj
  · by_cases e : j = i
    · subst e; rw [PS.set_same]; exact ⟨e', hr⟩
    · rw [PS.set_other _ _ _ _ e]
      obtain ⟨e2, h2⟩ := h.ring j hj
      exact ⟨e2, h2.keep (by rw [hs.1]; simp) (fun k h3 h4 => by rw [hs.2 k (by omega), Array.getElem?_setIfInBounds, if_neg (by omega)])⟩
/-- Block b holds the pipes S. -/
def PpAt (w : World) (b : Nat) (S : PS) : Prop := ∃ row, PB w b row ∧ PpR row S
section
variable {w w' : World} {b : Nat} {S : PS}
theorem PpAt.lt (h : PpAt w b S) : b < w.heap.size := by
  obtain ⟨row, hr, _⟩ := h
  exact hr.lt
theorem PpAt.keep (h : PpAt w b S) (hb : w'.heap[b]? = w.heap[b]?) : PpAt w' b S := by
  obtain ⟨row, hr, h1⟩ := h
  exact ⟨row, hr.keep hb, h1⟩
theorem PpAt.below (h : PpAt w b S) (hb : Below w.heap.size w w') : PpAt w' b S := h.keep (hb.block _ h.lt)
theorem PpAt.fits (h : PpAt w b S) : Fit8 S := by
  obtain ⟨row, _, h1⟩ := h
  exact h1.fits
theorem PpAt.ext {T : PS} (h : PpAt w b S) (he : ∀ i, i < 16 → T i = S i) : PpAt w b T := by
  obtain ⟨row, h0, h1⟩ := h
  exact ⟨row, h0, h1.size, fun i hi => by rw [he i hi]; exact h1.made i hi, fun i hi => by rw [he i hi]; exact h1.ring i hi⟩
end
theorem ptr_eq (b : Nat) (W : World) : (binOp .eql 23 (.pointer (some ⟨b, 0, none⟩)) (.pointer none)).run Try.prog W = .ok (.bool false) W := by go_simp
theorem rptr_eq (b o : Nat) (W : World) : (binOp .eql 61 (.pointer (some ⟨b, o, none⟩)) (.pointer none)).run Try.prog W = .ok (.bool false) W := by go_simp
/-- The cells of pipes of which there is none. -/
def nrow : Array Value := (List.replicate 16 (Value.bool false) ++ (List.replicate 16 (nop ++ [Value.int .i64 0])).flatten).toArray
theorem ring_of {row : Array Value} {o : Nat} (h : o + 17 ≤ row.size) (h1 : ∀ i, i < 17 → row[o + i]? = (nop ++ [Value.int .i64 0])[i]?) : Ring row o 0 [] := by
  refine ⟨h, by omega, by simp, (h1 16 (by omega)).trans rfl, fun j hj => ?_, fun j hj => ?_⟩
  · rw [Nat.zero_add, Nat.mod_eq_of_lt hj, h1 _ (by omega), List.getElem?_append_left (by show j * 2 < 16; omega), (nop_get j hj).1]
    rfl
  · rw [Nat.zero_add, Nat.mod_eq_of_lt hj, Nat.add_assoc, h1 _ (by omega), List.getElem?_append_left (by show j * 2 + 1 < 16; omega), (nop_get j hj).2, byt_no (by simp)]
theorem flat_get (z : List Value) (m : Nat) (hz : z.length = 17) : ∀ i j, i < m → j < 17 → ((List.replicate m z).flatten)[i * 17 + j]? = z[j]? := by
  induction m with
  | zero => intro i j hi; omega
  | succ m ih =>
    intro i j hi hj
    rw [List.replicate_succ, List.flatten_cons]
    cases i with
    | zero => rw [List.getElem?_append_left (by omega)]; congr 1; omega
    | succ i =>
      rw [List.getElem?_append_right (by omega), hz, show (i + 1) * 17 + j - 17 = i * 17 + j by omega]
      exact ih i j (by omega) hj
theorem flat_len (z : List Value) (hz : z.length = 17) : ∀ m, ((List.replicate m z).flatten).length = m * 17
  | 0 => rfl
  | m + 1 => by rw [List.replicate_succ, List.flatten_cons, List.length_append, flat_len z hz m, hz]; omega
theorem nrow_R : PpR nrow PS.none := by
  have hz : (nop ++ [Value.int .i64 0]).length = 17 := rfl
  have h1 : nrow.size = 288 := by
    unfold nrow
    rw [List.size_toArray, List.length_append, flat_len _ hz, List.length_replicate]
  refine ⟨h1, fun i hi => ?_, fun i hi => ⟨0, ring_of (by omega) (fun j hj => ?_)⟩⟩
  · unfold nrow
    rw [List.getElem?_toArray, List.getElem?_append_left (by simpa using hi), List.getElem?_replicate, if_pos hi]
    rfl
  · unfold nrow
    rw [List.getElem?_toArray, List.getElem?_append_right (by simp; omega), List.length_replicate, show 16 + i * 17 + j - 16 = i * 17 + j by omega]
    exact flat_get _ 16 hz i j hi hj
theorem nrow_zero : (Try.prog.info? 60).map (·.zero) = some (some (.agg nrow)) := by kernel_rfl
theorem zero_pipes (W : World) : (zeroValue 60).run Try.prog W = .ok (.agg nrow) W := by
  obtain ⟨i, hi, hz⟩ := Option.map_eq_some_iff.1 nrow_zero
  simp [zeroValue, typeInfo, hi, hz]
set_option maxRecDepth 100000 in
theorem new_at (w : World) :
    Calls Try.prog 8 #[] w fun x w' => x = .returned (.pointer (some ⟨w.heap.size, 0, none⟩)) ∧ PpAt w' w.heap.size PS.none ∧ Below w.heap.size w w' ∧ w'.heap.size = w.heap.size + 1 := by
  have HR : Hid (PpR nrow PS.none) := nrow_R
  have hz := zero_pipes
  generalize nrow = R at *
  go_enter Try.func8, Try.ntmps8
  go_wp2
  go_ret
  exact ⟨rfl, ⟨R, heap_alloc_new _ _, HR.out⟩, below_alloc _ _, by simp⟩

theorem ring_nil (n : Int) (w : World) :
    Calls Try.prog 25 #[.pointer none, .int .i64 n] w fun x w' => x = .returned (.pointer none) ∧ w' = w := by
  go_enter Try.func25, Try.ntmps25
  go_wp2
  go_ret
  exact ⟨rfl, rfl⟩
theorem ring_no (b : Nat) (S : PS) (n : Int) (w : World) (h : PpAt w b S) (hn : has S n = false) :
    Calls Try.prog 25 #[.pointer (some ⟨b, 0, none⟩), .int .i64 n] w fun x w' => x = .returned (.pointer none) ∧ w' = w := by
  have hne := ptr_eq b
  obtain ⟨row, hP, hR⟩ := h
  rcases has_no hn with hc | hc | ⟨i, rfl, hi, hs⟩
  · have g0 : decide (n < 0) = true := decide_eq_true hc
    clear hn hP hR
    go_enter Try.func25, Try.ntmps25
    go_wp2
    go_ret
    exact ⟨rfl, rfl⟩
  · have g0 : decide (n < 0) = false := decide_eq_false (by omega)
    have g1 : decide (16 ≤ n) = true := decide_eq_true hc
    clear hn hP hR
    go_enter Try.func25, Try.ntmps25
    go_wp2
    go_ret
    exact ⟨rfl, rfl⟩
  · have g0 : decide ((i : Int) < 0) = false := decide_eq_false (by omega)
    have g1 : decide (16 ≤ (i : Int)) = false := decide_eq_false (by omega)
    have hii : (i : Int) < 16 := by omega
    have c0 := (hP.cell i).trans (hR.made i hi)
    rw [hs] at c0
    dsimp only [Option.isSome] at c0
    clear hn hP hR hs
    go_enter Try.func25, Try.ntmps25
    go_wp2
    go_ret
    exact ⟨rfl, rfl⟩
theorem ring_yes (b i : Nat) (l : List UInt8) (S : PS) (w : World) (h : PpAt w b S) (hi : i < 16) (hs : S i = some l) :
    Calls Try.prog 25 #[.pointer (some ⟨b, 0, none⟩), .int .i64 i] w fun x w' => x = .returned (.pointer (some ⟨b, 16 + i * 17, none⟩)) ∧ w' = w := by
  have hne := ptr_eq b
  obtain ⟨row, hP, hR⟩ := h
  have g0 : decide ((i : Int) < 0) = false := decide_eq_false (by omega)
  have g1 : decide (16 ≤ (i : Int)) = false := decide_eq_false (by omega)
  have hii : (i : Int) < 16 := by omega
  have c0 := (hP.cell i).trans (hR.made i hi)
  rw [hs] at c0
  dsimp only [Option.isSome] at c0
  clear hP hR hs
  go_enter Try.func25, Try.ntmps25
  go_wp2
  go_ret
  exact ⟨rfl, rfl⟩

theorem put_nil (n : Int) (s : Value) (w : World) :
    Calls Try.prog 11 #[.pointer none, .int .i64 n, s] w fun x w' => x = .returned (.int .i64 0) ∧ w' = w := by
  have hR := ring_nil n w
  go_enter Try.func11, Try.ntmps11
  go_wp2_with fail
  refine hR.mono ?_
  rintro x w1 ⟨rfl, hw⟩
  rw [hw]
  clear hw w1 hR
  go_wp2
  go_ret
  exact ⟨rfl, rfl⟩
theorem put_at (b : Nat) (S : PS) (n : Int) (s : List UInt8) (w : World) (h : PpAt w b S) :
    Calls Try.prog 11 #[.pointer (some ⟨b, 0, none⟩), .int .i64 n, tx s] w fun x w' => x = .returned (.int .i64 (puI S n s)) ∧ PpAt w' b (puS S n s) ∧ Upd b w w' := by
  cases hh : has S n with
  | false =>
    have hR := ring_no b S n w h hh
    have HH : Hid (PpAt w b S) := h
    have HI : Hid (puI S n s = 0) := by show _ = _; unfold puI; rw [hh]; rfl
    have HS : Hid (puS S n s = S) := by show _ = _; unfold puS; rw [hh]; rfl
    clear h hh
    go_enter Try.func11, Try.ntmps11
    go_wp2_with fail
    refine hR.mono ?_
    rintro x w1 ⟨rfl, hw⟩
    rw [hw]
    clear hw w1 hR
    go_wp2
    go_ret
    exact ⟨by rw [HI.out]; rfl, by rw [HS.out]; exact HH.out, Upd.refl _ _⟩
  | true =>
    obtain ⟨i, l, rfl, hi, hl⟩ := has_nat hh
    have hR := ring_yes b i l S w h hi hl
    obtain ⟨row, hP, hQ⟩ := h
    obtain ⟨e, hr⟩ := hQ.ring i hi
    rw [hl] at hr
    have hPu := rput_at b (16 + i * 17) e l s row w hP hr
    have hne := rptr_eq b (16 + i * 17)
    have HI : Hid (puI S i s = (putN l s : Int)) := by show _ = _; unfold puI; rw [if_pos hh, inn_of hi hl]
    have HS : Hid (puS S i s = S.set i (some (putL l s))) := by show _ = _; unfold puS; rw [if_pos hh, inn_of hi hl, Int.toNat_natCast]
    have HQ : Hid (PpR row S) := hQ
    have HM : Hid ((S i).isSome = true) := by show _ = _; rw [hl]; rfl
    clear hP hQ hr hh hl
    go_enter Try.func11, Try.ntmps11
    go_wp2_with fail
    refine hR.mono ?_
    rintro x w1 ⟨rfl, hw⟩
    rw [hw]
    clear hw w1 hR
    go_wp2_with fail
    refine hPu.mono ?_
    rintro x w1 ⟨rfl, row', hP', hr', hsm, hu⟩
    have HF : Hid (PpAt w1 b (S.set i (some (putL l s)))) := ⟨row', hP', HQ.out.put hi hsm hr' HM.out⟩
    have HU : Hid (Upd b w w1) := hu
    clear hPu hP' hr' hsm hu
    go_wp2
    go_ret
    exact ⟨by rw [HI.out]; rfl, by rw [HS.out]; exact HF.out, HU.out⟩
theorem take_nil (n k : Int) (w : World) :
    Calls Try.prog 13 #[.pointer none, .int .i64 n, .int .i64 k] w fun x w' => x = .returned (tx []) ∧ w' = w := by
  have hR := ring_nil n w
  go_enter Try.func13, Try.ntmps13
  go_wp2_with fail
  refine hR.mono ?_
  rintro x w1 ⟨rfl, hw⟩
  rw [hw]
  clear hw w1 hR
  go_wp2
  go_ret
  exact ⟨rfl, rfl⟩
theorem take_at (b : Nat) (S : PS) (n k : Int) (w : World) (h : PpAt w b S) :
    Calls Try.prog 13 #[.pointer (some ⟨b, 0, none⟩), .int .i64 n, .int .i64 k] w fun x w' => x = .returned (tx (taT S n k)) ∧ PpAt w' b (taS S n k) ∧ Upd b w w' := by
  cases hh : has S n with
  | false =>
    have hR := ring_no b S n w h hh
    have HH : Hid (PpAt w b S) := h
    have HI : Hid (taT S n k = []) := by show _ = _; unfold taT; rw [inn_no hh]; exact List.take_nil
    have HS : Hid (taS S n k = S) := by show _ = _; unfold taS; rw [hh]; rfl
    clear h hh
    go_enter Try.func13, Try.ntmps13
    go_wp2_with fail
    refine hR.mono ?_
    rintro x w1 ⟨rfl, hw⟩
    rw [hw]
    clear hw w1 hR
    go_wp2
    go_ret
    exact ⟨by rw [HI.out]; rfl, by rw [HS.out]; exact HH.out, Upd.refl _ _⟩
  | true =>
    obtain ⟨i, l, rfl, hi, hl⟩ := has_nat hh
    have hR := ring_yes b i l S w h hi hl
    obtain ⟨row, hP, hQ⟩ := h
    obtain ⟨e, hr⟩ := hQ.ring i hi
    rw [hl] at hr
    have hTa := rtake_at b (16 + i * 17) e l k row w hP hr
    have hne := rptr_eq b (16 + i * 17)
    have HI : Hid (taT S i k = l.take (tk l k)) := by show _ = _; unfold taT; rw [inn_of hi hl]
    have HS : Hid (taS S i k = S.set i (some (l.drop (tk l k)))) := by show _ = _; unfold taS; rw [if_pos hh, inn_of hi hl, Int.toNat_natCast]
    have HQ : Hid (PpR row S) := hQ
    have HM : Hid ((S i).isSome = true) := by show _ = _; rw [hl]; rfl
    clear hP hQ hr hh hl
    generalize l.take (tk l k) = T1 at *
    generalize l.drop (tk l k) = T2 at *
    go_enter Try.func13, Try.ntmps13
    go_wp2_with fail
    refine hR.mono ?_
    rintro x w1 ⟨rfl, hw⟩
    rw [hw]
    clear hw w1 hR
    go_wp2_with fail
    refine hTa.mono ?_
    rintro x w1 ⟨rfl, row', e', hP', hr', hsm, hu⟩
    have HF : Hid (PpAt w1 b (S.set i (some T2))) := ⟨row', hP', HQ.out.put hi hsm hr' HM.out⟩
    have HU : Hid (Upd b w w1) := hu
    clear hTa hP' hr' hsm hu
    go_wp2
    go_ret
    exact ⟨by rw [HI.out]; rfl, by rw [HS.out]; exact HF.out, HU.out⟩
theorem len_nil (n : Int) (w : World) :
    Calls Try.prog 19 #[.pointer none, .int .i64 n] w fun x w' => x = .returned (.int .i64 0) ∧ w' = w := by
  have hR := ring_nil n w
  go_enter Try.func19, Try.ntmps19
  go_wp2_with fail
  refine hR.mono ?_
  rintro x w1 ⟨rfl, hw⟩
  rw [hw]
  clear hw w1 hR
  go_wp2
  go_ret
  exact ⟨rfl, rfl⟩
theorem len_at (b : Nat) (S : PS) (n : Int) (w : World) (h : PpAt w b S) :
    Calls Try.prog 19 #[.pointer (some ⟨b, 0, none⟩), .int .i64 n] w fun x w' => x = .returned (.int .i64 ((inn S n).length : Nat)) ∧ Below w.heap.size w w' := by
  cases hh : has S n with
  | false =>
    have hR := ring_no b S n w h hh
    have HI : Hid (inn S n = []) := inn_no hh
    clear h hh
    go_enter Try.func19, Try.ntmps19
    go_wp2_with fail
    refine hR.mono ?_
    rintro x w1 ⟨rfl, hw⟩
    rw [hw]
    clear hw w1 hR
    go_wp2
    go_ret
    exact ⟨by rw [HI.out]; rfl, Below.refl _ _⟩
  | true =>
    obtain ⟨i, l, rfl, hi, hl⟩ := has_nat hh
    have hR := ring_yes b i l S w h hi hl
    obtain ⟨row, hP, hQ⟩ := h
    obtain ⟨e, hr⟩ := hQ.ring i hi
    rw [hl] at hr
    have hLe := length_at b (16 + i * 17) e l row w hP hr
    try dsimp only [Option.getD] at hLe
    have hne := rptr_eq b (16 + i * 17)
    have HI : Hid (inn S i = l) := inn_of hi hl
    clear hP hQ hr hh hl
    go_enter Try.func19, Try.ntmps19
    go_wp2_with fail
    refine hR.mono ?_
    rintro x w1 ⟨rfl, hw⟩
    rw [hw]
    clear hw w1 hR
    go_wp2_with fail
    refine hLe.mono ?_
    rintro x w1 ⟨rfl, hb⟩
    clear hLe
    go_wp2
    go_ret
    exact ⟨by rw [HI.out]; rfl, hb⟩
theorem drop_nil (n : Int) (w : World) :
    Calls Try.prog 15 #[.pointer none, .int .i64 n] w fun x w' => x = .returned (.int .i64 106) ∧ w' = w := by
  have hR := ring_nil n w
  go_enter Try.func15, Try.ntmps15
  go_wp2_with fail
  refine hR.mono ?_
  rintro x w1 ⟨rfl, hw⟩
  rw [hw]
  clear hw w1 hR
  go_wp2
  go_ret
  exact ⟨rfl, rfl⟩
theorem drop_at (b : Nat) (S : PS) (n : Int) (w : World) (h : PpAt w b S) :
    Calls Try.prog 15 #[.pointer (some ⟨b, 0, none⟩), .int .i64 n] w fun x w' => x = .returned (.int .i64 (drE S n)) ∧ PpAt w' b (drS S n) ∧ Upd b w w' := by
  cases hh : has S n with
  | false =>
    have hR := ring_no b S n w h hh
    have HH : Hid (PpAt w b S) := h
    have HI : Hid (drE S n = 106) := by show _ = _; unfold drE; rw [hh]; rfl
    have HS : Hid (drS S n = S) := by show _ = _; unfold drS; rw [hh]; rfl
    clear h hh
    go_enter Try.func15, Try.ntmps15
    go_wp2_with fail
    refine hR.mono ?_
    rintro x w1 ⟨rfl, hw⟩
    rw [hw]
    clear hw w1 hR
    go_wp2
    go_ret
    exact ⟨by rw [HI.out]; rfl, by rw [HS.out]; exact HH.out, Upd.refl _ _⟩
  | true =>
    obtain ⟨i, l, rfl, hi, hl⟩ := has_nat hh
    have hR := ring_yes b i l S w h hi hl
    obtain ⟨row, hP, hQ⟩ := h
    obtain ⟨e, hr⟩ := hQ.ring i hi
    have hz := hQ.size
    have c0 := (hP.cell i).trans (hQ.made i hi)
    have f0 := hP.free i
    have hEm := empty_at b (16 + i * 17) (row.setIfInBounds i (.bool false)) (w.setCell ⟨b, i, none⟩ (.bool false)) (hP.set i _) (by rw [Array.size_setIfInBounds]; omega) undef (Or.inr ⟨e, by rw [Array.getElem?_setIfInBounds, if_neg (by omega)]; exact hr.eld⟩)
    have hne := rptr_eq b (16 + i * 17)
    have hii : (i : Int) < 16 := by omega
    have HI : Hid (drE S i = 0) := by show _ = _; unfold drE; rw [if_pos hh]
    have HS : Hid (drS S i = S.set i none) := by show _ = _; unfold drS; rw [if_pos hh, Int.toNat_natCast]
    have HQ : Hid (PpR row S) := hQ
    have HU0 : Hid (Upd b w (w.setCell ⟨b, i, none⟩ (.bool false))) := Upd.setCell _ _ _ _
    rw [hl] at c0
    clear hP hQ hr hh hl hz
    go_enter Try.func15, Try.ntmps15
    go_wp2_with fail
    refine hR.mono ?_
    rintro x w1 ⟨rfl, hw⟩
    rw [hw]
    clear hw w1 hR
    go_wp2_with fail
    refine hEm.mono ?_
    rintro x w1 ⟨rfl, row', hP', hr', hsm, hu⟩
    have HF : Hid (PpAt w1 b (S.set i none)) := ⟨row', hP', HQ.out.gone hi hsm hr'⟩
    have HU : Hid (Upd b w w1) := HU0.out.trans hu
    clear hEm hP' hr' hsm hu
    go_wp2
    go_ret
    exact ⟨by rw [HI.out]; rfl, by rw [HS.out]; exact HF.out, HU.out⟩
end Go.Proofs.Ytpnmaoinnmmfdaa
