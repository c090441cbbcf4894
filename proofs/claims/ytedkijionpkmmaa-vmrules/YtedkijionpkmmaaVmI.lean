/- Steps on a memory as one function; runs of them; the contract of slices.Clone. -/
import Derived.Test.YtedkijionpkmmaaVmH
import Derived.Maps.AppendAt
namespace Go.Proofs.Ytedkijionpkmmaa
open Go.RowKit
set_option linter.unusedVariables false

/-- How many numbers there are behind an instruction that can be done. -/
theorem eff_len (i : Ins) (st : List Int) (ho : 0 ≤ i.op ∧ i.op ≤ 23) (hc : canDo i st = true) :
    (i.op ≠ 19 ∧ i.op ≠ 23 → ((eff i st).2.1.length : Int) = st.length - (movesOf i.op i.arg).1 + (movesOf i.op i.arg).2) ∧ (i.op = 19 → 1 ≤ st.length ∧ (eff i st).2.1.length = st.length - 1) ∧ (i.op = 23 → (eff i st).2.1 = st) := by
  have hp : (movesOf i.op i.arg).1 ≤ st.length := by
    unfold canDo at hc
    simp only [Bool.and_eq_true, decide_eq_true_eq] at hc
    exact hc.1.1
  refine eff_ind i st (fun r => (i.op ≠ 19 ∧ i.op ≠ 23 → (r.2.1.length : Int) = st.length - (movesOf i.op i.arg).1 + (movesOf i.op i.arg).2) ∧ (i.op = 19 → 1 ≤ st.length ∧ r.2.1.length = st.length - 1) ∧ (i.op = 23 → r.2.1 = st)) ?_ ?_ ?_ ?_ ?_ ?_ ?_ ?_ ?_ ?_ ?_ ?_
  · intro h
    have e : movesOf i.op i.arg = (0, 1) := by rcases h with h | h <;> (rw [h]; rfl)
    rw [e] at hp ⊢
    refine ⟨fun _ => by simp, fun h2 => by omega, fun h2 => by omega⟩
  · intro h
    have e : movesOf i.op i.arg = (1, 2) := by rw [h]; rfl
    rw [e] at hp ⊢
    refine ⟨fun _ => by simp; omega, fun h2 => by omega, fun h2 => by omega⟩
  · intro h
    have e : movesOf i.op i.arg = (1, 0) := by rw [h]; rfl
    rw [e] at hp ⊢
    refine ⟨fun _ => by simp; omega, fun h2 => by omega, fun h2 => by omega⟩
  · intro h
    have e : movesOf i.op i.arg = (2, 2) := by rw [h]; rfl
    rw [e] at hp ⊢
    refine ⟨fun _ => by simp; omega, fun h2 => by omega, fun h2 => by omega⟩
  · intro h
    have e : movesOf i.op i.arg = (2, 3) := by rw [h]; rfl
    rw [e] at hp ⊢
    refine ⟨fun _ => by simp; omega, fun h2 => by omega, fun h2 => by omega⟩
  · intro h
    have e : movesOf i.op i.arg = (1, 1) := by rw [h]; rfl
    rw [e] at hp ⊢
    refine ⟨fun _ => by simp; omega, fun h2 => by omega, fun h2 => by omega⟩
  · intro h
    have e : movesOf i.op i.arg = (1, 1) := by rw [h]; rfl
    rw [e] at hp ⊢
    refine ⟨fun h2 => absurd h h2.1, fun _ => ⟨by simp at hp; omega, by simp⟩, fun h2 => by omega⟩
  · intro h
    have e : movesOf i.op i.arg = (2, 0) := by rw [h]; rfl
    rw [e] at hp ⊢
    refine ⟨fun _ => by simp; omega, fun h2 => by omega, fun h2 => by omega⟩
  · intro h
    have e : movesOf i.op i.arg = (0, 0) := by rw [h]; rfl
    rw [e] at hp ⊢
    refine ⟨fun _ => by simp, fun h2 => by omega, fun h2 => by omega⟩
  · intro h
    have e : movesOf i.op i.arg = (1, 0) := by rw [h]; rfl
    rw [e] at hp ⊢
    refine ⟨fun _ => by simp; omega, fun h2 => by omega, fun h2 => by omega⟩
  · intro h
    exact ⟨fun h2 => absurd h h2.2, fun h2 => by omega, fun _ => rfl⟩
  · intro h
    have e : movesOf i.op i.arg = (2, 1) := by
      unfold movesOf
      rw [if_neg (by omega), if_neg (by omega), if_neg (by omega), if_neg (by omega), if_neg (by omega), if_neg (by omega), if_neg (by omega), if_neg (by omega), if_neg (by omega), if_pos (by omega)]
    rw [e] at hp ⊢
    refine ⟨fun _ => by simp; omega, fun h2 => by omega, fun h2 => by omega⟩
theorem eff_pc (i : Ins) (st : List Int) (hj : (i.op = 21 ∨ i.op = 22) → 0 ≤ i.arg ∧ i.arg ≤ 65535) (hp : 0 ≤ i.pos) (hl : 1 ≤ i.len) (hb : i.pos + i.len ≤ 1000000000) : 0 ≤ (eff i st).1 ∧ (eff i st).1 ≤ 1000000000 := by
  refine eff_ind i st (fun r => 0 ≤ r.1 ∧ r.1 ≤ 1000000000) ?_ ?_ ?_ ?_ ?_ ?_ ?_ ?_ ?_ ?_ ?_ ?_ <;> intro h <;> (try dsimp only) <;> first | omega | (split <;> omega)

/-- What stays: the place is a number, the stack is not too high, all are words. -/
structure Fine7 (L : Nat) (pc : Int) (st ms : List Int) : Prop where
  pc : -9223372036854775808 ≤ pc ∧ pc ≤ 9223372036854775807
  len : st.length ≤ L
  st : Wds st
  ms : Wds ms
theorem vstep_len (s : List UInt8) (hs : s.length ≤ 1000000000) (pc : Int) (st : List Int) : (vstep s pc st).2.1.length ≤ max st.length 32 := by
  unfold vstep
  split
  · rename_i h
    have ho := (one_good hs h.1).2.1
    obtain ⟨h1, h2, h3⟩ := eff_len (one s pc).1 st ho h.2
    have hc := h.2
    unfold canDo at hc
    simp only [Bool.and_eq_true, decide_eq_true_eq] at hc
    have hq := hc.1.2
    by_cases h19 : (one s pc).1.op = 19
    · have := (h2 h19).2
      omega
    · by_cases h23 : (one s pc).1.op = 23
      · rw [h3 h23]; omega
      · have := h1 ⟨h19, h23⟩
        omega
  · simp only
    omega
theorem vstep_load (s : List UInt8) (hs : s.length ≤ 1000000000) (pc : Int) (st : List Int) (hk : (vstep s pc st).2.2.kind = 1) : (vstep s pc st).2.1.length + 1 = st.length := by
  unfold vstep at hk ⊢
  split
  · rename_i h
    rw [if_pos h] at hk
    have ho := (one_good hs h.1).2.1
    obtain ⟨h1, h2, h3⟩ := eff_len (one s pc).1 st ho h.2
    have h19 : (one s pc).1.op = 19 := by
      rcases (eff_kind _ st).2 (Or.inl hk) with e | e
      · exact e
      · exfalso
        have e2 : eff (one s pc).1 st = ((one s pc).1.pos + (one s pc).1.len, st.drop 2, ⟨2, st.headD 0, st.tail.headD 0, 0⟩) := by unfold eff; rw [e]; rfl
        rw [e2] at hk
        simp at hk
    have := h2 h19
    omega
  · rename_i h
    rw [if_neg h] at hk
    simp [actFault] at hk
theorem vstep_pc (s : List UInt8) (hs : s.length ≤ 1000000000) (pc : Int) (hp : -9223372036854775808 ≤ pc ∧ pc ≤ 9223372036854775807) (st : List Int) : -9223372036854775808 ≤ (vstep s pc st).1 ∧ (vstep s pc st).1 ≤ 9223372036854775807 := by
  unfold vstep
  split
  · rename_i h
    obtain ⟨_, _, h3, h4, h5, h6, _⟩ := one_good hs h.1
    have := eff_pc (one s pc).1 st h6 (by omega) (by omega) (by omega)
    omega
  · exact hp
theorem von_fine (s : List UInt8) (hs : s.length ≤ 1000000000) {L : Nat} (hL : 32 ≤ L) {pc : Int} {st ms : List Int} (h : Fine7 L pc st ms) : Fine7 L (von s pc st ms).1 (von s pc st ms).2.1 (von s pc st ms).2.2.1 ∧ (von s pc st ms).2.2.1.length = ms.length := by
  have h1 := vstep_len s hs pc st
  have h2 := vstep_pc s hs pc h.pc st
  have h3 := vstep_wds s hs pc st h.st
  have h4 := vstep_load s hs pc st
  have hlen := h.len
  have hg : Wd (ms.getD (vstep s pc st).2.2.addr.toNat 0) := by
    rw [List.getD_eq_getElem?_getD]
    cases hx : ms[(vstep s pc st).2.2.addr.toNat]? with
    | none => unfold Wd; simp
    | some x => exact h.ms x (List.mem_of_getElem? hx)
  unfold von
  split
  · rename_i hk
    split
    · refine ⟨⟨h2, ?_, ?_, h.ms⟩, rfl⟩
      · have := h4 hk
        simp only [List.length_cons]
        omega
      · intro x hx
        rcases List.mem_cons.1 hx with rfl | hx
        · exact hg
        · exact h3.1 x hx
    · exact ⟨h, rfl⟩
  · split
    · split
      · refine ⟨⟨h2, by simp only; omega, h3.1, ?_⟩, by simp⟩
        intro x hx
        rcases List.mem_or_eq_of_mem_set hx with hx | rfl
        · exact h.ms x hx
        · exact h3.2.2
      · exact ⟨h, rfl⟩
    · exact ⟨⟨h2, by simp only; omega, h3.1, h.ms⟩, rfl⟩

theorem stepOn_at (s : List UInt8) (hs : s.length ≤ 1000000000) (M b : Nat) (pc : Int) (sv : Value) (st : List Int) (mv : Value) (ms : List Int) (w : World) (h : Duo M w b pc sv st mv ms) (hf : Fine7 99990 pc st ms) (hml : ms.length ≤ 99990) :
    Calls Try.prog 33 #[tx s, .pointer (some ⟨b, 0, none⟩), mv, .agg opTable] w fun e w' => e = .returned (.agg (actRow (von s pc st ms).2.2.2)) ∧ ∃ sv', Duo M w' b (von s pc st ms).1 sv' (von s pc st ms).2.1 mv (von s pc st ms).2.2.1 ∧ Gone b mv w sv w' sv' := by
  unfold von
  by_cases h1 : (vstep s pc st).2.2.kind = 1
  · rw [if_pos h1]
    by_cases ha : (vstep s pc st).2.2.addr < ms.length
    · rw [if_pos ha]
      exact stepOn_load s hs M b pc hf.pc sv st mv ms w h hf.len hml hf.st h1 ha
    · rw [if_neg ha]
      exact stepOn_fault s hs M b pc hf.pc sv st mv ms w h hf.len hml hf.st (Or.inl h1) (by omega)
  · rw [if_neg h1]
    by_cases h2 : (vstep s pc st).2.2.kind = 2
    · rw [if_pos h2]
      by_cases ha : (vstep s pc st).2.2.addr < ms.length
      · rw [if_pos ha]
        exact stepOn_store s hs M b pc hf.pc sv st mv ms w h hf.len hml hf.st h2 ha
      · rw [if_neg ha]
        exact stepOn_fault s hs M b pc hf.pc sv st mv ms w h hf.len hml hf.st (Or.inr h2) (by omega)
    · rw [if_neg h2]
      exact stepOn_plain s hs M b pc hf.pc sv st mv ms w h hf.len hml hf.st h1 h2

/-- What a run leaves. -/
structure Ran where
  pc : Int
  st : List Int
  ms : List Int
  act : Act4
  n : Nat
/-- So many steps at most. -/
def vrun (s : List UInt8) : Nat → Int → List Int → List Int → Ran
  | 0, pc, st, ms => ⟨pc, st, ms, actNo, 0⟩
  | n + 1, pc, st, ms =>
    if (von s pc st ms).2.2.2.kind ≠ 0 then ⟨(von s pc st ms).1, (von s pc st ms).2.1, (von s pc st ms).2.2.1, (von s pc st ms).2.2.2, 0⟩
    else ⟨(vrun s n (von s pc st ms).1 (von s pc st ms).2.1 (von s pc st ms).2.2.1).pc, (vrun s n (von s pc st ms).1 (von s pc st ms).2.1 (von s pc st ms).2.2.1).st, (vrun s n (von s pc st ms).1 (von s pc st ms).2.1 (von s pc st ms).2.2.1).ms, (vrun s n (von s pc st ms).1 (von s pc st ms).2.1 (von s pc st ms).2.2.1).act, (vrun s n (von s pc st ms).1 (von s pc st ms).2.1 (von s pc st ms).2.2.1).n + 1⟩
def Ran.up (r : Ran) (k : Nat) : Ran := ⟨r.pc, r.st, r.ms, r.act, r.n + k⟩
theorem vrun_stop {s : List UInt8} {n : Nat} {pc : Int} {st ms : List Int} (h : (von s pc st ms).2.2.2.kind ≠ 0) : vrun s (n + 1) pc st ms = ⟨(von s pc st ms).1, (von s pc st ms).2.1, (von s pc st ms).2.2.1, (von s pc st ms).2.2.2, 0⟩ := by
  rw [vrun, if_pos h]
theorem vrun_go {s : List UInt8} {n : Nat} {pc : Int} {st ms : List Int} (h : (von s pc st ms).2.2.2.kind = 0) : vrun s (n + 1) pc st ms = (vrun s n (von s pc st ms).1 (von s pc st ms).2.1 (von s pc st ms).2.2.1).up 1 := by
  rw [vrun, if_neg (fun x => x h)]
  rfl
theorem Ran.up_up (r : Ran) (j k : Nat) : (r.up j).up k = r.up (k + j) := by
  unfold Ran.up
  congr 1
  simp only
  omega
theorem von_no {s : List UInt8} {pc : Int} {st ms : List Int} (h : (von s pc st ms).2.2.2.kind = 0) : (von s pc st ms).2.2.2 = actNo ∨ (von s pc st ms).2.2.2 = (vstep s pc st).2.2 := by
  unfold von at h ⊢
  split
  · rename_i h1
    rw [if_pos h1] at h
    split
    · exact Or.inl rfl
    · rename_i h2
      rw [if_neg h2] at h
      simp [actFault] at h
  · rename_i h1
    rw [if_neg h1] at h
    split
    · rename_i h2
      rw [if_pos h2] at h
      split
      · exact Or.inl rfl
      · rename_i h3
        rw [if_neg h3] at h
        simp [actFault] at h
    · exact Or.inr rfl

/-- A slice that can be read: nil, or words in a row. -/
def URd (w : World) (v : Value) (xs : List Int) : Prop :=
  (v = .slice none 0 0 ∧ xs = []) ∨ (∃ g o c, v = .slice (some ⟨g, o, none⟩) xs.length c ∧ xs.length ≤ c ∧ ∀ (j : Nat) (x : Int), xs[j]? = some x → w.cell? ⟨g, o + j, none⟩ = some (.int .u64 x)) ∨
  (∃ ad c, v = .slice (some ad) 0 c ∧ xs = [])
theorem URd.below {w w' : World} {v : Value} {xs : List Int} (h : URd w v xs) (hb : Below w.heap.size w w') : URd w' v xs := by
  rcases h with h | ⟨g, o, c, e, hc, hx⟩ | h
  · exact Or.inl h
  · exact Or.inr (Or.inl ⟨g, o, c, e, hc, fun j x hj => (hb.cell (cell_lt (hx j x hj))).trans (hx j x hj)⟩)
  · exact Or.inr (Or.inr h)
theorem URd.of_own {w : World} {M : Nat} {v : Value} {xs : List Int} (h : w.ownsRow M 25 1 v xs.length (uvs xs)) : URd w v xs := by
  rcases h.2 with ⟨e2, e3⟩ | ⟨g, cap, cur, e2, hb, hh, h1, h2, h3, h4⟩
  · exact Or.inl ⟨e2, List.length_eq_zero_iff.1 e3⟩
  · refine Or.inr (Or.inl ⟨g, 0, cap, e2, h1, fun j x hj => ?_⟩)
    rw [Nat.zero_add, cell_of_heap hh]
    have hi : j < xs.length := (List.getElem?_eq_some_iff.1 hj).1
    have hq : (uvs xs)[j]? = some (.int .u64 x) := by simp [uvs, hj]
    rw [← h4, List.getElem?_take_of_lt (by omega)] at hq
    simpa using hq
theorem URd.form {w : World} {v : Value} {xs : List Int} (h : URd w v xs) : ∃ a c, v = .slice a xs.length c := by
  rcases h with ⟨e, e2⟩ | ⟨g, o, c, e, _⟩ | ⟨ad, c, e, e2⟩
  · exact ⟨none, 0, by rw [e, e2]; rfl⟩
  · exact ⟨_, _, e⟩
  · exact ⟨_, _, by rw [e, e2]; rfl⟩

set_option maxHeartbeats 400000 in
theorem clone_at (v : Value) (xs : List Int) (w : World) (h : URd w v xs) (hl : xs.length ≤ 1000000) :
    Calls Try.prog 22 #[v] w fun e w' => ∃ u, e = .returned u ∧ w'.ownsRow w.heap.size 25 1 u xs.length (uvs xs) ∧ Below w.heap.size w w' := by
  have h' : (v = .slice none 0 0 ∧ xs = []) ∨ ∃ (ad : Addr) (c : Nat), v = .slice (some ad) xs.length c ∧ ∀ (j : Nat) (x : Int), xs[j]? = some x → w.cell? (ad.add j) = some (.int .u64 x) := by
    rcases h with h | ⟨g, o, c, e, hc, hx⟩ | ⟨ad, c, e, rfl⟩
    · exact Or.inl h
    · exact Or.inr ⟨⟨g, o, none⟩, c, e, fun j x hj => by rw [add0]; exact hx j x hj⟩
    · exact Or.inr ⟨ad, c, e, fun j x hj => by simp at hj⟩
  clear h
  rcases h' with ⟨rfl, rfl⟩ | ⟨ad, c, rfl, hx⟩
  · have heq : ∀ w : World, (binOp BinOp.eql 22 (.slice none 0 0) (.slice none 0 0)).run Try.prog w = .ok (.bool true) w := fun w => by kernel_rfl
    go_enter Try.func22, Try.ntmps22
    go_wp2
    go_ret
    exact ⟨_, rfl, World.ownsRow_nil _ _ _ _, Below.refl _ _⟩
  · obtain ⟨i0, hi0, hzz⟩ := Option.map_eq_some_iff.1 wordInfo
    simp only [Prod.mk.injEq] at hzz
    obtain ⟨hz0, hz1, hz2⟩ := hzz
    generalize hm : xs.length = m at *
    have hown : (w.alloc (.cells #[] 25)).ownsRow w.heap.size 25 1 (.slice (some ⟨w.heap.size, 0, none⟩) 0 0) 0 [] :=
      ⟨rfl, Or.inr ⟨w.heap.size, 0, #[], rfl, Nat.le_refl _, heap_alloc_new _ _, Nat.le_refl _, by unfold maxLen; omega, rfl, rfl⟩⟩
    have heq : ∀ w : World, (binOp BinOp.eql 22 (.slice (some ad) m c) (.slice none 0 0)).run Try.prog w = .ok (.bool false) w := fun w => by kernel_rfl
    have HX : Hid _ := hx
    have HL : Hid _ := hm
    clear hx hm
    go_enter Try.func22, Try.ntmps22
    go_wp2_with (first
      | (at_builtin; refine wpList_append_own_at _ rfl _ _ _ rfl w.heap.size 25 i0 _ 1 8 Try.underlying22 hi0 hz0 hz1 hz2 rfl (by omega) _ _ _ rfl hown ad m c (uvs xs) rfl (by rw [uvs_len, HL.out]; omega)
          (fun j u hu => by obtain ⟨x, hx, rfl⟩ := uvs_get hu; exact (((Below.refl w.heap.size w).alloc (Nat.le_refl _) _).cell (cell_lt (HX.out j x hx))).trans (HX.out j x hx)) (uvs_one xs) (by unfold maxLen; omega) (by omega) (by simp) ?_; intro u w2 hown2 hgrow hnil hat)
      | go_in)
    go_ret
    refine ⟨u, by simp, by simpa using hown2, (below_alloc _ _).trans (below_grown hgrow (by simp) (ownsRow_low hown))⟩
end Go.Proofs.Ytedkijionpkmmaa
