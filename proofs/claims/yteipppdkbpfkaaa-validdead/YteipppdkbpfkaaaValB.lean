/- What a decoded program is, and the contract of argsStand. -/
import Derived.Test.YteipppdkbpfkaaaValA
namespace Go.Proofs.Yteipppdkbpfkaaa
open Go.RowKit
set_option linter.unusedVariables false

/-- An instruction that was decoded. -/
def Fine (i : Ins) : Prop := i.Fit ∧ good i = true ∧ 0 ≤ i.pos ∧ i.pos ≤ 1000000
theorem dec_fine (s : List UInt8) (hs : s.length ≤ 1000000) : ∀ (n k : Nat), s.length - k ≤ n → k ≤ s.length → ∀ l, decAt s k = some l →
    (∀ i ∈ l, Fine i) ∧ (∀ (j : Nat) (i : Ins), l[j]? = some i → (k : Int) ≤ i.pos ∧ i.pos < s.length) ∧ (∀ (j j' : Nat) (i i' : Ins), j < j' → l[j]? = some i → l[j']? = some i' → i.pos < i'.pos) ∧ (∀ i : Ins, l[0]? = some i → i.pos = (k : Int)) ∧ (k < s.length → l ≠ [])
  | n, k, hn, hk, l, h => by
    by_cases hlt : k < s.length
    · cases hb : isIns s k with
      | false => rw [decAt_bad s k hlt hb] at h; cases h
      | true =>
        have hg := (enc_dec s n k hn hk l h).1
        rw [decAt_step s k hlt hb] at h
        obtain ⟨l', hl', rfl⟩ := Option.map_eq_some_iff.1 h
        obtain ⟨h23, hend⟩ := isIns_bound hb
        match n, hn with
        | 0, hn => omega
        | n + 1, hn =>
          obtain ⟨r1, r2, r3, r4, r5⟩ := dec_fine s hs n (k + 1 + wAt s k) (by omega) hend l' hl'
          have hpos : (insAt s k).pos = k := rfl
          refine ⟨fun i hi => ?_, fun j i hj => ?_, fun j j' i i' hjj hj hj' => ?_, fun i hi => ?_, fun _ => by simp⟩
          · rcases List.mem_cons.1 hi with rfl | hi
            · exact ⟨insAt_fit s k hb (by omega), hg _ (by simp), by omega, by omega⟩
            · exact r1 i hi
          · cases j with
            | zero => simp at hj; subst hj; omega
            | succ j => have := r2 j i (by simpa using hj); omega
          · cases j' with
            | zero => omega
            | succ j' =>
              have h2 := r2 j' i' (by simpa using hj')
              cases j with
              | zero => simp at hj; subst hj; omega
              | succ j => exact r3 j j' i i' (by omega) (by simpa using hj) (by simpa using hj')
          · simp at hi; subst hi; exact hpos
    · rw [decAt_end s k hlt] at h
      cases h
      exact ⟨by simp, by simp, by simp, by simp, fun h => absurd h hlt⟩
/-- A program that was decoded, as a list. -/
structure Prog (s : List UInt8) (l : List Ins) : Prop where
  dec : decAt s 0 = some l
  fine : ∀ i ∈ l, Fine i
  inside : ∀ (j : Nat) i, l[j]? = some i → 0 ≤ i.pos ∧ i.pos < s.length
  up : ∀ (j j' : Nat) i i', j < j' → l[j]? = some i → l[j']? = some i' → i.pos < i'.pos
  first : ∀ i, l[0]? = some i → i.pos = 0
  some : 0 < s.length → l ≠ []
theorem prog_of {s : List UInt8} {l : List Ins} (hs : s.length ≤ 1000000) (h : decAt s 0 = some l) : Prog s l := by
  obtain ⟨h1, h2, h3, h4, h5⟩ := dec_fine s hs s.length 0 (by omega) (by omega) l h
  exact ⟨h, h1, fun j i hj => by simpa using h2 j i hj, h3, fun i hi => by simpa using h4 i hi, h5⟩
theorem Prog.find {s : List UInt8} {l : List Ins} (h : Prog s l) {k : Nat} {i : Ins} (hk : l[k]? = .some i) : findP l i.pos = k :=
  findP_hit hk rfl (fun j x hj hx => by have := h.up j k x i hj hx hk; omega)

theorem fine_op {i : Ins} (h : Fine i) : 0 ≤ i.op ∧ i.op ≤ 23 := by
  have := (good_iff i).1 h.2.1
  exact ⟨this.1, this.2.1⟩
theorem fine_arg {i : Ins} (h : Fine i) (n : Nat) (hw : opw i.op = n) : 0 ≤ i.arg ∧ i.arg < 256 ^ n := by
  have h0 := h.1.2.1.1
  have h1 := ((good_iff i).1 h.2.1).2.2
  rw [hw] at h1
  exact ⟨h0, (div_zero_iff h0 (pow_pos256 n)).1 h1⟩
theorem fine_mv {i : Ins} (h : Fine i) (hne : i.op ≠ 23) : 0 ≤ (mv i).1 := by
  have := fine_op h
  unfold mv movesOf
  (repeat' split) <;> (try dsimp only) <;> omega
theorem fine_sys {i : Ins} (h : Fine i) (he : i.op = 23) : (0 ≤ i.arg ∧ i.arg ≤ 255) ∧ (0 ≤ (mv i).1 ↔ 0 ≤ argsOf i.arg) := by
  have ha := fine_arg h 1 (by rw [he]; rfl)
  have hb : 0 ≤ i.arg ∧ i.arg ≤ 255 := by omega
  refine ⟨hb, ?_⟩
  unfold mv
  rw [he]
  have hm : movesOf 23 i.arg = if i.arg ≤ 255 ∧ 0 ≤ argsOf i.arg then (argsOf i.arg, 1) else (-1, -1) := rfl
  rw [hm]
  split
  · rename_i hh
    exact ⟨fun _ => hh.2, fun _ => hh.2⟩
  · rename_i hh
    exact ⟨fun h => absurd h (by decide), fun h => absurd ⟨hb.2, h⟩ hh⟩
theorem fine_jump {i : Ins} (h : Fine i) (he : i.op = 21 ∨ i.op = 22) : 0 ≤ i.arg ∧ i.arg ≤ 65535 := by
  have ha := fine_arg h 2 (by rcases he with he | he <;> (rw [he]; rfl))
  omega
theorem wrapi (a : Int) (h0 : 0 ≤ a) (h : a ≤ 65535) : IntKind.i64.wrap a = a := by
  simp [IntKind.wrap, IntKind.bits, IntKind.signed]
  omega

/-- Whether all that an instruction names is there. -/
def standB (l : List Ins) (i : Ins) : Bool := (decide (¬ (i.op = 21 ∨ i.op = 22)) || decide (0 ≤ findP l i.arg)) && decide (0 ≤ (mv i).1)
theorem standB_iff (l : List Ins) (i : Ins) : standB l i = true ↔ ((i.op = 21 ∨ i.op = 22) → 0 ≤ findP l i.arg) ∧ 0 ≤ (mv i).1 := by
  unfold standB
  by_cases h : i.op = 21 ∨ i.op = 22 <;> simp [h]
theorem stand_iff (l : List Ins) : l.all (standB l) = true ↔ Stand l := by
  rw [List.all_eq_true]
  exact ⟨fun h i hi => (standB_iff l i).1 (h i hi), fun h i hi => (standB_iff l i).2 (h i hi)⟩
theorem all_take_succ {l : List Ins} {k : Nat} {i : Ins} {f : Ins → Bool} (hk : l[k]? = some i) (h : (l.take k).all f = true) (hi : f i = true) : (l.take (k + 1)).all f = true := by
  rw [take_snoc hk, List.all_append, h]
  simp [hi]
theorem all_no {l : List Ins} {k : Nat} {i : Ins} {f : Ins → Bool} (hk : l[k]? = some i) (hi : f i = false) : l.all f = false := by
  rw [List.all_eq_false]
  exact ⟨i, List.mem_of_getElem? hk, by simp [hi]⟩

set_option maxHeartbeats 1000000 in
theorem argsStand_at (l : List Ins) (a0 : Option Addr) (cap : Nat) (w : World) (hrow : Row w a0 l) (hl : l.length ≤ 1000000) (hf : ∀ i ∈ l, Fine i) :
    Calls Try.prog 24 #[.slice a0 l.length cap] w fun e w' => e = .returned (.bool (l.all (standB l))) ∧ Below w.heap.size w w' := by
  have HR : Hid _ := hrow
  have HF : Hid _ := hf
  clear hrow hf
  generalize hB : l.all (standB l) = B
  have HB : Hid _ := hB
  clear hB
  go_enter Try.func24, Try.ntmps24
  go_wp2
  go_loopw [7] (fun s wr => ∃ (k : Nat), k ≤ l.length ∧ s = .int .i64 k ∧ Hid ((l.take k).all (standB l) = true) ∧ Below w.heap.size w wr) (fun s _ => l.length - (intOf s).toNat)
  case atStart => exact ⟨0, by omega, rfl, (show Hid _ from rfl), Below.refl _ _⟩
  case round =>
    obtain ⟨k, hk, rfl, HA, hb⟩ := hrel
    have hbs := hb.size
    by_cases hlt : k < l.length
    · obtain ⟨i, hki⟩ : ∃ i, l[k]? = some i := ⟨l[k], List.getElem?_eq_getElem hlt⟩
      obtain ⟨gb, off, ea, c0, c1, c2, c3⟩ := (Row.below HR.out hb) k i hki
      have hif := HF.out i (List.mem_of_getElem? hki)
      have HK : Hid _ := hki
      clear hki
      obtain ⟨W, hW⟩ : ∃ W, W = wr.alloc (.cells (insRow i) 39) := ⟨_, rfl⟩
      have hbox : W.heap[wr.heap.size]? = some (.cells (insRow i) 39) := by rw [hW]; exact heap_alloc_new _ _
      have hbW : Below wr.heap.size wr W := by rw [hW]; exact (Below.refl _ _).alloc (Nat.le_refl _) _
      have hbwW := hb.trans (hbW.mono hbs)
      have hfind := find_at l i.arg a0 cap W (Row.below HR.out hbwW) hl
      subst ea
      dsimp only [insRow] at hW
      have d0 : W.cell? ⟨wr.heap.size, 0, none⟩ = some (.int .i64 i.op) := by rw [cell_of_heap hbox]; rfl
      have d1 : W.cell? ⟨wr.heap.size, 1, none⟩ = some (.int .u64 i.arg) := by rw [cell_of_heap hbox]; rfl
      clear hbox
      have hyes : standB l i = true → Hid ((l.take (k + 1)).all (standB l) = true) := fun h => all_take_succ HK.out HA.out h
      have hno : standB l i = false → B = false := fun h => by rw [← HB.out]; exact all_no HK.out h
      by_cases hj : i.op = 21 ∨ i.op = 22
      · have hwa := wrapi i.arg (fine_jump hif hj).1 (fine_jump hif hj).2
        have hm0 : 0 ≤ (mv i).1 := fine_mv hif (by omega)
        have hj1 : (i.op == 21) = true ∨ ((i.op == 21) = false ∧ (i.op == 22) = true) := by
          rcases hj with h | h <;> simp [h]
        by_cases hq : 0 ≤ findP l i.arg
        · have HY := hyes ((standB_iff l i).2 ⟨fun _ => hq, hm0⟩)
          clear hyes hno hm0 hj
          generalize findP l i.arg = F at *
          rcases hj1 with h1 | ⟨h1, h2⟩
          all_goals
            go_wp2_with fail
            rw [← hW]
            clear hW
            go_wp2_with (go_at_call 19; refine hfind.mono ?_; rintro e w1 ⟨rfl, hb1⟩)
            go_roundw
            case rel => exact ⟨k + 1, by omega, by go_num, HY, hbwW.trans (hb1.mono hbwW.size)⟩
            case measure => simp [intOf]; omega
        · obtain rfl := hno (by cases h : standB l i with | false => rfl | true => exact absurd (((standB_iff l i).1 h).1 hj) hq)
          clear hyes hno hm0 hj
          generalize findP l i.arg = F at *
          rcases hj1 with h1 | ⟨h1, h2⟩
          all_goals
            go_wp2_with fail
            rw [← hW]
            clear hW
            go_wp2_with (go_at_call 19; refine hfind.mono ?_; rintro e w1 ⟨rfl, hb1⟩)
            go_ret
            exact ⟨rfl, hbwW.trans (hb1.mono hbwW.size)⟩
      · have h21 : (i.op == 21) = false := by simp; omega
        have h22 : (i.op == 22) = false := by simp; omega
        by_cases he : i.op = 23
        · have h23 : (i.op == 23) = true := by simp [he]
          obtain ⟨ha, hiff⟩ := fine_sys hif he
          have hwa := wrapi i.arg ha.1 (by omega)
          have hargs := args_at i.arg
          by_cases hq : 0 ≤ argsOf i.arg
          · have HY := hyes ((standB_iff l i).2 ⟨fun h => absurd h hj, hiff.2 hq⟩)
            clear hyes hno hiff hfind hj he
            generalize argsOf i.arg = F at *
            go_wp2_with fail
            rw [← hW]
            clear hW
            go_wp2_with (go_at_call 29; refine (hargs _).mono ?_; rintro e w1 ⟨rfl, rfl⟩)
            go_roundw
            case rel => exact ⟨k + 1, by omega, by go_num, HY, hbwW⟩
            case measure => simp [intOf]; omega
          · obtain rfl := hno (by cases h : standB l i with | false => rfl | true => exact absurd (hiff.1 ((standB_iff l i).1 h).2) hq)
            clear hyes hno hiff hfind hj he
            generalize argsOf i.arg = F at *
            go_wp2_with fail
            rw [← hW]
            clear hW
            go_wp2_with (go_at_call 29; refine (hargs _).mono ?_; rintro e w1 ⟨rfl, rfl⟩)
            go_ret
            exact ⟨rfl, hbwW⟩
        · have h23 : (i.op == 23) = false := by simp [he]
          have HY := hyes ((standB_iff l i).2 ⟨fun h => absurd h hj, fine_mv hif he⟩)
          clear hyes hno hfind hj he
          go_wp2
          go_roundw
          case rel => exact ⟨k + 1, by omega, by go_num, HY, by rw [← hW]; exact hbwW⟩
          case measure => simp [intOf]; omega
    · obtain rfl : k = l.length := by omega
      have hA := HA.out
      rw [List.take_length] at hA
      have e : B = true := by rw [← HB.out]; exact hA
      subst e
      clear hA
      go_wp2
      go_ret
      exact ⟨rfl, hb⟩
end Go.Proofs.Yteipppdkbpfkaaa
