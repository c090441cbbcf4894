/- The console of package device and its reference: where they lie in the heap, and the contracts of their functions. -/
import Derived.Test.YtbihcaacpeoghaaTimA
import Derived.Lib.AppendStr
import Derived.Lib.MinMax
import Derived.Laws.IdiomStrings
namespace Go.Proofs.Ytbihcaacpeoghaa
open Go.RowKit Go.Lib
set_option linter.unusedVariables false

/-- A text as a value. -/
abbrev tx (l : List UInt8) : Value := .string ⟨l.toArray⟩
theorem text_of (s : ByteArray) : ∃ l : List UInt8, s = ⟨l.toArray⟩ ∧ s.size = l.length := ⟨s.data.toList, by simp, by show s.data.size = s.data.toList.length; simp⟩

/-- A console: its head is block b; the slice v holds what was written; what is left of its input is l. -/
def ConAt (w : World) (b : Nat) (v : Value) (l : List UInt8) : Prop := w.heap[b]? = some (.cells #[v, tx l] 53)
section
variable {w w' : World} {b : Nat} {v : Value} {l : List UInt8}
theorem ConAt.c0 (h : ConAt w b v l) : w.cell? ⟨b, 0, none⟩ = some v := by rw [cell_of_heap h]; rfl
theorem ConAt.c1 (h : ConAt w b v l) : w.cell? ⟨b, 1, none⟩ = some (tx l) := by rw [cell_of_heap h]; rfl
theorem ConAt.free (h : ConAt w b v l) (i : Nat) : w.frozen? ⟨b, i, none⟩ = false := frozen_of_heap h
theorem ConAt.set0 (h : ConAt w b v l) (v' : Value) : ConAt (w.setCell ⟨b, 0, none⟩ v') b v' l := by
  unfold ConAt
  rw [setCell_eq_setRow w b 0 _ _ _ _ h, setRow_heap w b _ _ _ _ h]
  rfl
theorem ConAt.set1 (h : ConAt w b v l) (l' : List UInt8) : ConAt (w.setCell ⟨b, 1, none⟩ (tx l')) b v l' := by
  unfold ConAt
  rw [setCell_eq_setRow w b 1 _ _ _ _ h, setRow_heap w b _ _ _ _ h]
  rfl
theorem ConAt.keep (h : ConAt w b v l) (hb : w'.heap[b]? = w.heap[b]?) : ConAt w' b v l := hb.trans h
end

/-- The slice v holds the bytes out, in a block of its own from B on. -/
def Text (w : World) (B : Nat) (v : Value) (out : List UInt8) : Prop := w.ownsRow B 5 1 v out.length (strCells ⟨out.toArray⟩)
theorem Text.nil (w : World) (B : Nat) : Text w B (.slice none 0 0) [] := World.ownsRow_nil w B _ 1
theorem Text.keep {w w' : World} {B : Nat} {v : Value} {out : List UInt8} (h : Text w B v out) (hk : ∀ g, v.ownBlock = some g → w'.heap[g]? = w.heap[g]?) : Text w' B v out := by
  obtain ⟨h1, h2⟩ := h
  refine ⟨h1, ?_⟩
  rcases h2 with h2 | ⟨g, cap, cur, hv, hg, hh, r⟩
  · exact Or.inl h2
  · exact Or.inr ⟨g, cap, cur, hv, hg, (hk g (by rw [hv]; rfl)).trans hh, r⟩
theorem Text.block {w : World} {B : Nat} {v : Value} {out : List UInt8} (h : Text w B v out) : ∀ g, v.ownBlock = some g → B ≤ g ∧ ∃ cur, w.heap[g]? = some (.cells cur 5) := by
  intro g hg
  rcases h.2 with ⟨e2, _⟩ | ⟨g', cap, cur, e2, hb, hh, _⟩
  · rw [e2] at hg; simp [Value.ownBlock] at hg
  · rw [e2] at hg
    simp [Value.ownBlock] at hg
    subst hg
    exact ⟨hb, cur, hh⟩
theorem Text.string {w : World} {B : Nat} {v : Value} {out : List UInt8} (h : Text w B v out) : (convert 49 9 v).run Try.prog w = .ok (tx out) w := by
  rcases h.2 with ⟨rfl, e⟩ | ⟨g, cap, cur, rfl, hb, hh, h1, h2, h3, h4⟩
  · have : out = [] := List.length_eq_zero_iff.1 e
    subst this
    rw [run_convert_bytes_string w _ _ 5 none 0 0 Try.underlying49 Try.underlying5 Try.underlying9]
    rfl
  · refine run_convert_bytes_back w _ _ 5 ⟨g, 0, none⟩ cap out Try.underlying49 Try.underlying5 Try.underlying9 (fun j hj => ?_)
    refine h.cells (g := g) rfl j _ ?_
    simp [strCells, hj]
theorem Text.ne {w : World} {B b : Nat} {v u : Value} {l out : List UInt8} (h : Text w B v out) (hc : ConAt w b u l) : ∀ g, v.ownBlock = some g → g ≠ b := by
  intro g hg e
  obtain ⟨_, cur, hh⟩ := h.block g hg
  rw [e, hc] at hh
  simp at hh

/-- A console of which out was written, and l is left. -/
def Con (w : World) (B b : Nat) (out l : List UInt8) : Prop := ∃ v, ConAt w b v l ∧ Text w B v out ∧ B ≤ b
/-- What a console's functions may change. -/
def Touch (w : World) (B b : Nat) (k : Nat) : Prop := k = b ∨ (B ≤ k ∧ ∃ cur, w.heap[k]? = some (.cells cur 5))
theorem Con.below {w w' : World} {B b : Nat} {out l : List UInt8} (h : Con w B b out l) (k : Below w.heap.size w w') : Con w' B b out l := by
  obtain ⟨v, h1, h2, h3⟩ := h
  exact ⟨v, h1.keep (k.block _ (lt_of_heap h1)), h2.keep (fun g hg => by obtain ⟨_, cur, hh⟩ := h2.block g hg; exact k.block _ (lt_of_heap hh)), h3⟩
theorem touch_below {w w' : World} {B b : Nat} (h : UpdP (Touch w B b) w w') (hb : B ≤ b) (hs : B ≤ w.heap.size) : Below B w w' :=
  h.below (fun k hk => by rcases hk with rfl | ⟨h, _⟩ <;> assumption) hs

theorem new_at (l : List UInt8) (w : World) :
    Calls Try.prog 8 #[tx l] w fun e w' => e = .returned (.pointer (some ⟨w.heap.size, 0, none⟩)) ∧ Con w' w.heap.size w.heap.size [] l ∧ Below w.heap.size w w' ∧ w'.heap.size = w.heap.size + 1 := by
  go_enter Try.func8, Try.ntmps8
  go_wp2
  go_ret
  exact ⟨rfl, ⟨_, heap_alloc_new _ _, Text.nil _ _, Nat.le_refl _⟩, (Below.refl _ _).alloc (Nat.le_refl _) _, by simp⟩

theorem left_nil (w : World) :
    Calls Try.prog 12 #[.pointer none] w fun e w' => e = .returned (.int .i64 0) ∧ w' = w := by
  go_enter Try.func12, Try.ntmps12
  go_wp2
  go_ret
  exact ⟨rfl, rfl⟩
theorem left_at (B b : Nat) (out l : List UInt8) (w : World) (h : Con w B b out l) :
    Calls Try.prog 12 #[.pointer (some ⟨b, 0, none⟩)] w fun e w' => e = .returned (.int .i64 l.length) ∧ w' = w := by
  obtain ⟨v, h1, h2, h3⟩ := h
  have hc := h1.c1
  go_enter Try.func12, Try.ntmps12
  go_wp2
  go_ret
  exact ⟨by simp, rfl⟩
theorem put_nil (s : Value) (w : World) :
    Calls Try.prog 9 #[.pointer none, s] w fun e w' => e = .returned (.tuple #[]) ∧ w' = w := by
  go_enter Try.func9, Try.ntmps9
  go_wp2
  refine bodyPost_ret (results_none rfl _ _ _) rfl ?_
  exact ⟨rfl, rfl⟩
theorem out_nil (w : World) :
    Calls Try.prog 13 #[.pointer none] w fun e w' => e = .returned (tx []) ∧ w' = w := by
  go_enter Try.func13, Try.ntmps13
  go_wp2
  go_ret
  exact ⟨rfl, rfl⟩
theorem get_nil (n : Int) (w : World) :
    Calls Try.prog 10 #[.pointer none, .int .i64 n] w fun e w' => e = .returned (tx []) ∧ w' = w := by
  go_enter Try.func10, Try.ntmps10
  go_wp2
  go_ret
  exact ⟨rfl, rfl⟩

theorem all_at (B b : Nat) (out l : List UInt8) (v : Value) (w : World) (h : ConAt w b v l) (ht : Text w B v out) :
    Calls Try.prog 22 #[.pointer (some ⟨b, 0, none⟩)] w fun e w' => e = .returned (tx out) ∧ w' = w := by
  have hc := h.c0
  have hs := ht.string
  go_enter Try.func22, Try.ntmps22
  go_wp2
  go_ret
  exact ⟨rfl, rfl⟩
theorem out_at (B b : Nat) (out l : List UInt8) (w : World) (h : Con w B b out l) :
    Calls Try.prog 13 #[.pointer (some ⟨b, 0, none⟩)] w fun e w' => e = .returned (tx out) ∧ w' = w := by
  obtain ⟨v, h1, h2, h3⟩ := h
  go_enter Try.func13, Try.ntmps13
  go_wp2_with (go_at_call 22; refine (all_at B b out l v _ h1 h2).mono ?_; rintro e w' ⟨rfl, rfl⟩)
  go_ret
  exact ⟨rfl, rfl⟩

theorem own_slice {w : World} {B : Nat} {e : TypeId} {size : Nat} {v : Value} {n : Nat} {xs : List Value} (h : w.ownsRow B e size v n xs) : ∃ a k c, v = .slice a k c := by
  rcases h.2 with ⟨rfl, _⟩ | ⟨g, cap, cur, rfl, _⟩ <;> exact ⟨_, _, _, rfl⟩
theorem byteInfo : (Try.prog.info? 5).map (fun i => (i.zero, i.size, i.bytes)) = some (some (.int .u8 0), 1, 1) := by kernel_rfl

theorem add_at (B b : Nat) (out l s : List UInt8) (v : Value) (w : World) (h : ConAt w b v l) (ht : Text w B v out) (hb : B ≤ b) (hl : out.length + s.length ≤ 140737488355328) :
    Calls Try.prog 21 #[.pointer (some ⟨b, 0, none⟩), tx s] w fun e w' => e = .returned (.tuple #[]) ∧ Con w' B b (out ++ s) l ∧ UpdP (Touch w B b) w w' := by
  obtain ⟨i0, hi0, hzz⟩ := Option.map_eq_some_iff.1 byteInfo
  simp only [Prod.mk.injEq] at hzz
  obtain ⟨hz0, hz1, hz2⟩ := hzz
  have hc := h.c0
  have HL : Hid _ := hl
  clear hl
  go_enter Try.func21, Try.ntmps21
  go_wp2_with (first
    | (at_builtin
       refine wpList_append_own_string _ rfl _ _ _ _ rfl B 5 i0 Try.underlying49 Try.underlying9 hi0 hz0 hz1 hz2 v out.length _ rfl ht ⟨s.toArray⟩ rfl
         (by have := HL.out; simp [maxLen, ByteArray.size]; omega) (by have := HL.out; simp [ByteArray.size]; omega) (Nat.le_trans hb (Nat.le_of_lt (lt_of_heap h))) ?_
       intro v2 w2 hown hgrow _
       have h2 : ConAt w2 b v l := h.keep (hgrow.block _ (lt_of_heap h) (fun e => ht.ne h b e.symm rfl))
       have hc2 := h2.c0
       have hf2 := h2.free 0
       obtain ⟨a2, n2, cap2, rfl⟩ := own_slice hown)
    | go_in)
  go_end0
  have hB : ∀ g, v.ownBlock = some g → Touch w B b g := fun g hg => Or.inr (ht.block g hg)
  have hu : UpdP (Touch w B b) w w2 := ⟨hgrow.os, hgrow.tape, hgrow.output, hgrow.size, fun k hk hn => hgrow.block k hk (fun e => hn (hB k e.symm))⟩
  have e1 : out.length + (ByteArray.mk s.toArray).size = (out ++ s).length := by simp [ByteArray.size]
  have e2 : strCells ⟨out.toArray⟩ ++ strCells ⟨s.toArray⟩ = strCells ⟨(out ++ s).toArray⟩ := by simp [strCells]
  rw [e1, e2] at hown
  have ht2 : Text w2 B _ (out ++ s) := hown
  refine ⟨rfl, ⟨_, h2.set0 _, ht2.keep (fun g hg => Below.heap_setCell _ _ _ _ (ht2.ne h2 g hg)), hb⟩, hu.trans ⟨rfl, rfl, rfl, by simp [World.setCell], fun k hk hn => Below.heap_setCell _ _ _ _ (fun e => hn (Or.inl e))⟩⟩

theorem put_at (B b : Nat) (out l s : List UInt8) (w : World) (h : Con w B b out l) (hl : out.length + s.length ≤ 140737488355328) :
    Calls Try.prog 9 #[.pointer (some ⟨b, 0, none⟩), tx s] w fun e w' => e = .returned (.tuple #[]) ∧ Con w' B b (out ++ s) l ∧ UpdP (Touch w B b) w w' := by
  obtain ⟨v, h1, h2, h3⟩ := h
  go_enter Try.func9, Try.ntmps9
  go_wp2_with (go_at_call 21; refine (add_at B b out l s v _ h1 h2 h3 hl).mono ?_; rintro e w' ⟨rfl, hq, hu⟩)
  go_end0
  exact ⟨rfl, hq, hu⟩

/-- How many bytes are taken. -/
def tk (l : List UInt8) (n : Int) : Nat := (min (max n 0) (l.length : Int)).toNat
theorem tk_le (l : List UInt8) (n : Int) : tk l n ≤ l.length := by unfold tk; omega

theorem cut_to (l : List UInt8) (k : Nat) (h : k ≤ l.length) (w : World) : (Instr.slice 9 (tx l) none (some (.int .i64 k)) none).run Try.prog w = .ok (tx (l.take k)) w := by
  rw [run_slice_string_to_if w _ _ _ _ Try.underlying9, if_pos (by simp [ByteArray.size]; omega), ByteArray.extract_mk]
  simp
theorem cut_from (l : List UInt8) (k : Nat) (h : k ≤ l.length) (w : World) : (Instr.slice 9 (tx l) (some (.int .i64 k)) none none).run Try.prog w = .ok (tx (l.drop k)) w := by
  rw [run_slice_string_from_if w _ _ _ _ Try.underlying9, if_pos (by simp [ByteArray.size]; omega), ByteArray.extract_mk]
  have : (ByteArray.mk l.toArray).size = l.length := by simp [ByteArray.size]
  rw [this, List.take_of_length_le (by simp)]
  simp

theorem get_at (B b : Nat) (out l : List UInt8) (n : Int) (w : World) (h : Con w B b out l) :
    Calls Try.prog 10 #[.pointer (some ⟨b, 0, none⟩), .int .i64 n] w fun e w' => e = .returned (tx (l.take (tk l n))) ∧ Con w' B b out (l.drop (tk l n)) ∧ Upd b w w' := by
  obtain ⟨v, h1, h2, h3⟩ := h
  have hc := h1.c1
  have hf := h1.free 1
  have hm : min (max n 0) (l.length : Int) = (tk l n : Int) := by unfold tk; omega
  have ht := cut_to l (tk l n) (tk_le l n)
  have hd := cut_from l (tk l n) (tk_le l n)
  go_enter Try.func10, Try.ntmps10
  go_wp2
  go_ret
  exact ⟨rfl, ⟨v, h1.set1 _, h2.keep (fun g hg => Below.heap_setCell _ _ _ _ (h2.ne h1 g hg)), h3⟩, Upd.setCell _ _ _ _⟩

/-- The reference's console. -/
def RCon (w : World) (b : Nat) (out l : List UInt8) : Prop := w.heap[b]? = some (.cells #[tx l, tx out] 27)
section
variable {w w' : World} {b : Nat} {out l : List UInt8}
theorem RCon.c0 (h : RCon w b out l) : w.cell? ⟨b, 0, none⟩ = some (tx l) := by rw [cell_of_heap h]; rfl
theorem RCon.c1 (h : RCon w b out l) : w.cell? ⟨b, 1, none⟩ = some (tx out) := by rw [cell_of_heap h]; rfl
theorem RCon.free (h : RCon w b out l) (i : Nat) : w.frozen? ⟨b, i, none⟩ = false := frozen_of_heap h
theorem RCon.set0 (h : RCon w b out l) (l' : List UInt8) : RCon (w.setCell ⟨b, 0, none⟩ (tx l')) b out l' := by
  unfold RCon
  rw [setCell_eq_setRow w b 0 _ _ _ _ h, setRow_heap w b _ _ _ _ h]
  rfl
theorem RCon.set1 (h : RCon w b out l) (o' : List UInt8) : RCon (w.setCell ⟨b, 1, none⟩ (tx o')) b o' l := by
  unfold RCon
  rw [setCell_eq_setRow w b 1 _ _ _ _ h, setRow_heap w b _ _ _ _ h]
  rfl
theorem RCon.keep (h : RCon w b out l) (hb : w'.heap[b]? = w.heap[b]?) : RCon w' b out l := hb.trans h
end
theorem rget_at (b : Nat) (out l : List UInt8) (n : Int) (w : World) (h : RCon w b out l) :
    Calls Try.prog 11 #[.pointer (some ⟨b, 0, none⟩), .int .i64 n] w fun e w' => e = .returned (tx (l.take (tk l n))) ∧ RCon w' b out (l.drop (tk l n)) ∧ Upd b w w' := by
  have hc := h.c0
  have hf := h.free 0
  have hm : max 0 (min n (l.length : Int)) = (tk l n : Int) := by unfold tk; omega
  have ht := cut_to l (tk l n) (tk_le l n)
  have hd := cut_from l (tk l n) (tk_le l n)
  go_enter Try.func11, Try.ntmps11
  go_wp2
  go_ret
  exact ⟨rfl, h.set0 _, Upd.setCell _ _ _ _⟩

end Go.Proofs.Ytbihcaacpeoghaa
