/- Package dir: paths: runes and bytes; partsOf, isName, Split. -/
/- Package dir: partsOf, isName, Split. -/
import Derived.Test.YtcjpahnlckfgoaaGreatDoorDirA
import Derived.Test.YtcjpahnlckfgoaaGreatDoorDirA
import Derived.Lib.OthersKept
import Derived.Laws.RangeAny
import Derived.Laws.RangeString
import Derived.Deep.LoopGhost
namespace Go.Proofs.YtcjpahnlckfgoaaGreatDoor
open Go.RowKit Go.Lib
set_option linter.unusedVariables false

theorem decode_tail (s : ByteArray) (pos : Nat) (h : pos < s.size) : pos + (Utf8.decode s pos).2 ≤ s.size ∧ ∀ j, 1 ≤ j → j < (Utf8.decode s pos).2 → 128 ≤ (s.get! (pos + j)).toNat := by
  simp only [Utf8.decode]
  repeat' split
  all_goals simp_all
  all_goals first
    | omega
    | (refine ⟨by omega, fun j h1 h2 => ?_⟩
       rcases (by omega : j = 1 ∨ j = 2 ∨ j = 3) with rfl | rfl | rfl <;> omega)
    | (intro j h1 h2; rcases (by omega : j = 1 ∨ j = 2 ∨ j = 3) with rfl | rfl | rfl <;> omega)
theorem bytes_get (l : List UInt8) (p : Nat) (h : p < l.length) : (ByteArray.mk l.toArray).get! p = l[p] := by
  show (l.toArray)[p]! = _
  simp [h]
theorem bytes_size (l : List UInt8) : (ByteArray.mk l.toArray).size = l.length := by simp [ByteArray.size]
/-- One rune of a text: a byte below 128, or bytes that are all from 128 on. -/
theorem rune_step (l : List UInt8) (p : Nat) (hp : p < l.length) : ∃ r wd : Nat, Utf8.decode ⟨l.toArray⟩ p = (r, wd) ∧ 1 ≤ wd ∧ p + wd ≤ l.length ∧ r ≤ 2147483647 ∧ ((wd = 1 ∧ r = (l[p]).toNat ∧ r < 128) ∨ (128 ≤ r ∧ ∀ j (hj : p + j < l.length), j < wd → 128 ≤ (l[p + j]).toNat)) := by
  have hs : p < (ByteArray.mk l.toArray).size := by rw [bytes_size]; exact hp
  have hle := decode_le ⟨l.toArray⟩ p
  have hg : (ByteArray.mk l.toArray)[p]'hs = l[p] := by
    show (l.toArray)[p]'_ = _
    simp
  by_cases ha : ((ByteArray.mk l.toArray)[p]'hs).toNat < 128
  · have e := decode_ascii ⟨l.toArray⟩ p hs ha
    refine ⟨_, _, e, Nat.le_refl _, by omega, by rw [e] at hle; exact hle, Or.inl ⟨rfl, by rw [hg], ha⟩⟩
  · obtain ⟨h1, h2⟩ := decode_high ⟨l.toArray⟩ p hs (by omega)
    obtain ⟨h3, h4⟩ := decode_tail ⟨l.toArray⟩ p hs
    rw [bytes_size] at h3
    refine ⟨_, _, rfl, h2, h3, hle, Or.inr ⟨h1, fun j hj hw => ?_⟩⟩
    rcases Nat.eq_zero_or_pos j with q | q
    · subst q
      simp only [Nat.add_zero]
      rw [← hg]
      omega
    · have := h4 j q hw
      rw [bytes_get l (p + j) hj] at this
      exact this
/-- A slice of texts that can be read, in a block from base on. -/
def Ts (w : World) (base : Nat) (v : Value) (ts : List (List UInt8)) : Prop :=
  ∃ a cap, v = .slice a ts.length cap ∧ ts.length ≤ cap ∧ (ts ≠ [] → ∃ g cur fz, a = some ⟨g, 0, none⟩ ∧ base ≤ g ∧ w.heap[g]? = some (.cells cur 9 fz) ∧ ∀ (j : Nat) (t : List UInt8), ts[j]? = some t → cur[j]? = some (tx t))
abbrev OwT (w : World) (base : Nat) (v : Value) (ts : List (List UInt8)) : Prop := w.ownsRow base 9 1 v ts.length (ts.map tx)
section
variable {w w' : World} {base : Nat} {v : Value} {ts : List (List UInt8)}
theorem Ts.keep (h : Ts w base v ts) {P : Nat → Prop} (hu : UpdP P w w') (hp : ∀ k, P k → k < base) : Ts w' base v ts := by
  obtain ⟨a, cap, h1, h2, h3⟩ := h
  refine ⟨a, cap, h1, h2, fun hne => ?_⟩
  obtain ⟨g, cur, fz, e1, e2, e3, e4⟩ := h3 hne
  exact ⟨g, cur, fz, e1, e2, (hu.block g (lt_of_heap e3) (fun k => by have := hp g k; omega)).trans e3, e4⟩
theorem Ts.below (h : Ts w base v ts) (hb : Below w.heap.size w w') : Ts w' base v ts := h.keep (P := fun _ => False) (UpdP.of_below hb) (fun _ k => k.elim)
theorem Ts.st {lo : Nat} (h : Ts w base v ts) (hu : ST lo w w') : Ts w' base v ts := by
  obtain ⟨a, cap, h1, h2, h3⟩ := h
  refine ⟨a, cap, h1, h2, fun hne => ?_⟩
  obtain ⟨g, cur, fz, e1, e2, e3, e4⟩ := h3 hne
  exact ⟨g, cur, fz, e1, e2, hu.other e3 (by decide), e4⟩
theorem Ts.mono {base' : Nat} (h : Ts w base v ts) (hb : base' ≤ base) : Ts w base' v ts := by
  obtain ⟨a, cap, h1, h2, h3⟩ := h
  refine ⟨a, cap, h1, h2, fun hne => ?_⟩
  obtain ⟨g, cur, fz, e1, e2, e3, e4⟩ := h3 hne
  exact ⟨g, cur, fz, e1, Nat.le_trans hb e2, e3, e4⟩
theorem Ts.form (h : Ts w base v ts) : ∃ a cap, v = .slice a ts.length cap ∧ ts.length ≤ cap := by
  obtain ⟨a, cap, h1, h2, h3⟩ := h
  exact ⟨a, cap, h1, h2⟩
theorem Ts.nil (w : World) (base : Nat) : Ts w base (.slice none 0 0) [] := ⟨_, 0, rfl, Nat.le_refl _, fun h => absurd rfl h⟩
theorem OwT.row (h : OwT w base v ts) : Ts w base v ts := by
  obtain ⟨h1, h2⟩ := h
  rcases h2 with ⟨rfl, hn⟩ | ⟨g, cap, cur, rfl, hb, hh, hc, hm, hs, ht⟩
  · exact ⟨_, 0, by rw [hn], by omega, fun hne => absurd (List.length_eq_zero_iff.1 hn) hne⟩
  · refine ⟨_, cap, rfl, hc, fun _ => ⟨g, cur, _, rfl, hb, hh, fun j t hj => ?_⟩⟩
    have hl := (List.getElem?_eq_some_iff.1 hj).1
    have : (ts.map tx)[j]? = some (tx t) := by rw [List.getElem?_map, hj]; rfl
    rw [← ht, List.getElem?_take_of_lt (by omega)] at this
    simpa using this
theorem Ts.at {a : Option Addr} {n cap : Nat} (h : Ts w base (.slice a n cap) ts) {j : Nat} {t : List UInt8} (he : ts[j]? = some t) : ∃ g, a = some ⟨g, 0, none⟩ ∧ w.cell? ⟨g, j, none⟩ = some (tx t) ∧ base ≤ g := by
  obtain ⟨a', cap', h1, h2, h3⟩ := h
  cases h1
  obtain ⟨g, cur, fz, rfl, e2, e3, e4⟩ := h3 (fun z => by rw [z] at he; simp at he)
  exact ⟨g, rfl, by rw [cell_of_heap e3]; exact e4 j t he, e2⟩
/-- The first of them. -/
theorem Ts.take {a : Option Addr} {n cap : Nat} (h : Ts w base (.slice a n cap) ts) (k : Nat) (hk : k ≤ ts.length) : Ts w base (.slice a k cap) (ts.take k) := by
  obtain ⟨a', cap', h1, h2, h3⟩ := h
  cases h1
  refine ⟨a, cap, by rw [List.length_take, Nat.min_eq_left hk], by rw [List.length_take]; omega, fun hne => ?_⟩
  obtain ⟨g, cur, fz, e1, e2, e3, e4⟩ := h3 (fun z => hne (by rw [z]; simp))
  refine ⟨g, cur, fz, e1, e2, e3, fun j t hj => e4 j t ?_⟩
  have hl := (List.getElem?_eq_some_iff.1 hj).1
  rw [List.length_take] at hl
  rwa [List.getElem?_take_of_lt (by omega)] at hj
end
/-- The walk over a path: where it stands; the parts so far. -/
structure PaAt (w wr : World) (K : Nat) (l : List UInt8) (p : Nat) (v : Value) (ts : List (List UInt8)) : Prop where
  it : wr.heap[K]? = some (.stringIter ⟨l.toArray⟩ p)
  own : OwT wr w.heap.size v ts
  bel : Below w.heap.size w wr
  lo : w.heap.size ≤ K
section
variable {w wr w' : World} {K p : Nat} {l : List UInt8} {v : Value} {ts : List (List UInt8)}
theorem PaAt.ne (h : PaAt w wr K l p v ts) : v.ownBlock ≠ some K := by
  rcases h.own.2 with ⟨rfl, _⟩ | ⟨g, cap, cur, rfl, _, hg, _⟩
  · simp [Value.ownBlock]
  · intro e
    simp only [Value.ownBlock, Option.some.injEq] at e
    subst e
    rw [h.it] at hg
    cases hg
theorem PaAt.next (h : PaAt w wr K l p v ts) (q : Nat) : PaAt w (wr.iterAt K ⟨l.toArray⟩ q) K l q v ts := by
  have hg : wr.grownBy (wr.iterAt K ⟨l.toArray⟩ q) (some K) := ⟨rfl, rfl, rfl, by simp [World.iterAt], fun k hk hne => by
    simp only [World.iterAt]
    rw [Array.getElem?_setIfInBounds_ne (fun e => hne (by rw [e]))]⟩
  refine ⟨iterAt_heap wr K _ p q h.it, ?_, ?_, h.lo⟩
  · exact World.ownsRow.kept h.own hg (Or.inr h.ne)
  · exact h.bel.grown hg h.bel.size (fun k hk => by have := h.lo; cases hk; exact this)
theorem PaAt.app (h : PaAt w wr K l p v ts) (t : List UInt8) {v' : Value} (o : Obj) (hown : w'.ownsRow w.heap.size 9 1 v' (ts.length + 1) (ts.map tx ++ [tx t])) (hg : (wr.alloc o).grownBy w' v.ownBlock) : PaAt w w' K l p v' (ts ++ [t]) := by
  have hK := lt_of_heap h.it
  refine ⟨?_, ?_, ?_, h.lo⟩
  · rw [hg.block K (by simp; omega) (fun e => h.ne e.symm)]
    rw [Lib.alloc_old wr o K hK]
    exact h.it
  · show w'.ownsRow _ _ _ _ (ts ++ [t]).length _
    rw [List.length_append, List.map_append]
    exact hown
  · exact (h.bel.trans ((below_alloc wr o).mono h.bel.size)).grown hg (by have := h.bel.size; simp; omega) (fun k hk => (h.own.lt k hk).1)
end
/-- The part that is under way. -/
def cut (l : List UInt8) (a b : Nat) : List UInt8 := (l.drop a).take (b - a)
theorem cut_len {l : List UInt8} {a b : Nat} (h : b ≤ l.length) : (cut l a b).length = b - a := by
  unfold cut
  rw [List.length_take, List.length_drop]
  omega
theorem cut_more {l : List UInt8} {a b c : Nat} (h1 : a ≤ b) (h2 : b ≤ c) (h3 : c ≤ l.length) : cut l a c = cut l a b ++ cut l b c := by
  unfold cut
  rw [show c - a = (b - a) + (c - b) by omega, List.take_add, List.drop_drop, show a + (b - a) = b by omega]
theorem cut_rest {l : List UInt8} {b c : Nat} (h2 : b ≤ c) (h3 : c ≤ l.length) : l.drop b = cut l b c ++ l.drop c := by
  unfold cut
  have := List.take_append_drop (c - b) (l.drop b)
  rw [List.drop_drop, show b + (c - b) = c by omega] at this
  exact this.symm
theorem cut_get {l : List UInt8} {b c j : Nat} {x : UInt8} (h : (cut l b c)[j]? = some x) : j < c - b ∧ l[b + j]? = some x := by
  unfold cut at h
  have hj := (List.getElem?_eq_some_iff.1 h).1
  rw [List.length_take] at hj
  rw [List.getElem?_take_of_lt (by omega), List.getElem?_drop] at h
  exact ⟨by omega, h⟩
theorem parts_over : ∀ (p cur rest : List UInt8), (∀ b ∈ p, b ≠ 47) → partsP cur (p ++ rest) = partsP (cur ++ p) rest
  | [], cur, rest, _ => by simp
  | b :: p, cur, rest, h => by
    have hb := h b List.mem_cons_self
    show (if b == 47 then _ else partsP (cur ++ [b]) (p ++ rest)) = _
    rw [if_neg (by simpa using hb), parts_over p (cur ++ [b]) rest (fun x hx => h x (List.mem_cons_of_mem _ hx)), List.append_assoc]
    rfl
/-- Where a walk over a path stands. -/
def PaIs (l : List UInt8) (p fr : Nat) (ts : List (List UInt8)) : Prop := fr ≤ p ∧ p ≤ l.length ∧ partsP [] l = ts ++ partsP (cut l fr p) (l.drop p)
theorem paIs_start (l : List UInt8) : PaIs l 0 0 [] := ⟨Nat.le_refl _, Nat.zero_le _, by unfold cut; simp⟩
theorem paIs_run {l : List UInt8} {p fr wd : Nat} {ts : List (List UInt8)} (h : PaIs l p fr ts) (hw : p + wd ≤ l.length) (hn : ∀ j (hj : p + j < l.length), j < wd → l[p + j] ≠ 47) : PaIs l (p + wd) fr ts := by
  obtain ⟨h1, h2, h3⟩ := h
  refine ⟨by omega, hw, ?_⟩
  rw [h3, cut_rest (b := p) (c := p + wd) (by omega) hw, parts_over _ _ _ (fun b hb => ?_), ← cut_more h1 (by omega) hw]
  obtain ⟨j, hj⟩ := List.getElem?_of_mem hb
  obtain ⟨q1, q2⟩ := cut_get hj
  obtain ⟨q3, q4⟩ := List.getElem?_eq_some_iff.1 q2
  rw [← q4]
  exact hn j q3 (by omega)
theorem drop_slash {l : List UInt8} {p : Nat} (hp : p < l.length) (hx : l[p] = 47) : l.drop p = 47 :: l.drop (p + 1) := by rw [List.drop_eq_getElem_cons hp, hx]
theorem paIs_slash {l : List UInt8} {p fr : Nat} {ts : List (List UInt8)} (h : PaIs l p fr ts) (hp : p < l.length) (hx : l[p] = 47) : PaIs l (p + 1) (p + 1) (if fr < p then ts ++ [cut l fr p] else ts) := by
  obtain ⟨h1, h2, h3⟩ := h
  refine ⟨Nat.le_refl _, by omega, ?_⟩
  have hc0 : cut l (p + 1) (p + 1) = [] := by unfold cut; simp
  have hl := cut_len (l := l) (a := fr) (b := p) h2
  rw [h3, drop_slash hp hx, hc0]
  show ts ++ (if (47 : UInt8) == 47 then (if (cut l fr p).isEmpty then _ else _) else _) = _
  rw [if_pos (by decide)]
  by_cases q : fr < p
  · rw [if_pos q, if_neg (by simp only [List.isEmpty_iff]; intro e; rw [e] at hl; simp at hl; omega)]
    simp
  · rw [if_neg q, if_pos (by simp only [List.isEmpty_iff]; exact List.length_eq_zero_iff.1 (by omega))]
theorem paIs_end {l : List UInt8} {fr : Nat} {ts : List (List UInt8)} (h : PaIs l l.length fr ts) : partsP [] l = (if fr < l.length then ts ++ [l.drop fr] else ts) := by
  obtain ⟨h1, h2, h3⟩ := h
  have hc : cut l fr l.length = l.drop fr := by unfold cut; exact List.take_of_length_le (by rw [List.length_drop]; omega)
  rw [h3, List.drop_length, hc]
  show ts ++ (if (l.drop fr).isEmpty then [] else [l.drop fr]) = _
  by_cases q : fr < l.length
  · rw [if_pos q, if_neg (by simp only [List.isEmpty_iff]; intro e; have := congrArg List.length e; simp at this; omega)]
  · rw [if_neg q, if_pos (by simp only [List.isEmpty_iff]; exact List.drop_of_length_le (by omega)), List.append_nil]
end Go.Proofs.YtcjpahnlckfgoaaGreatDoor

namespace Go.Proofs.YtcjpahnlckfgoaaGreatDoor
open Go.RowKit Go.Lib
set_option linter.unusedVariables false

theorem tx_cut (l : List UInt8) (a b : Nat) (h1 : a ≤ b) (h2 : b ≤ l.length) (w : World) : (Instr.slice 9 (tx l) (some (.int .i64 a)) (some (.int .i64 b)) none).run Tryz.prog w = .ok (tx (cut l a b)) w := by
  rw [run_slice_string w _ _ _ _ _ _ Tryz.underlying9 (by omega) (by omega) (by rw [bytes_size]; omega), ByteArray.extract_mk]
  simp [cut]
theorem iter_pa (w : World) (l : List UInt8) : PaAt w (w.iter ⟨l.toArray⟩ 0) w.heap.size l 0 (.slice none 0 0) [] :=
  ⟨World.iter_heap _ _ _, World.ownsRow_nil _ _ _ _, below_alloc _ _, Nat.le_refl _⟩
set_option maxHeartbeats 2000000 in
set_option maxRecDepth 100000 in
theorem parts_at (l : List UInt8) (hl : l.length ≤ 1000) (w : World) :
    Calls Tryz.prog 193 #[tx l] w fun e w' => ∃ v, e = .returned v ∧ Ts w' w.heap.size v (partsP [] l) ∧ Below w.heap.size w w' := by
  obtain ⟨i0, hi0, hzz⟩ := Option.map_eq_some_iff.1 txtInfo
  simp only [Prod.mk.injEq] at hzz
  obtain ⟨hz0, hz1, hz2⟩ := hzz
  obtain ⟨K, hK⟩ : ∃ K, K = w.heap.size := ⟨_, rfl⟩
  obtain ⟨W0, hW0⟩ : ∃ W, W = w.iter ⟨l.toArray⟩ 0 := ⟨_, rfl⟩
  have HK : Hid (K = w.heap.size) := hK
  have HW0 : Hid (W0 = w.iter ⟨l.toArray⟩ 0) := hW0
  have HP0 : Hid (PaAt w W0 K l 0 (.slice none 0 0) []) := by rw [hK, hW0]; exact iter_pa w l
  clear hK hW0
  go_enter Tryz.func193, Tryz.ntmps193
  go_wp2
  rw [← HW0.out, ← HK.out]
  go_loopg [3, 4] l.length (fun gk s3 s4 wr => ∃ (p fr : Nat) (v : Value) (ts : List (List UInt8)), v = s3 ∧ s4 = .int .i64 fr ∧ fr ≤ 1001 ∧ l.length - p ≤ gk ∧ Hid (PaIs l p fr ts) ∧ Hid (ts.length ≤ p) ∧ Hid (PaAt w wr K l p v ts))
  case atStart => exact ⟨0, 0, _, [], rfl, rfl, by omega, by omega, paIs_start l, Nat.le_refl _, HP0⟩
  case round =>
    obtain ⟨p, fr, v, ts, rfl, rfl, hfr, hgk, HI, HT, HP⟩ := hrel
    clear HP0 HW0
    by_cases hp : p < l.length
    · obtain ⟨r, wd, hdec, hw1, hw2, hr, hcase⟩ := rune_step l p hp
      have hnx : ∀ ty, (Instr.next (.pointer (some ⟨K, 0, none⟩)) true ty).run Tryz.prog wr = .ok (.tuple #[.bool true, .int .i64 p, .int .i32 r]) (wr.iterAt K ⟨l.toArray⟩ (p + wd)) := fun ty => by
        rw [run_next_any_at wr K ⟨l.toArray⟩ p ty HP.out.it (by rw [bytes_size]; exact hp), hdec]
      obtain ⟨W1, hW1⟩ : ∃ W, W = wr.iterAt K ⟨l.toArray⟩ (p + wd) := ⟨_, rfl⟩
      have HP1 : Hid (PaAt w W1 K l (p + wd) v ts) := by rw [hW1]; exact HP.out.next _
      rw [← hW1] at hnx
      have HD : Hid ((wd = 1 ∧ r = (l[p]).toNat ∧ r < 128) ∨ (128 ≤ r ∧ ∀ j (hj : p + j < l.length), j < wd → 128 ≤ (l[p + j]).toNat)) := hcase
      clear hW1 hdec hcase
      by_cases h47 : r = 47
      · have hwd : wd = 1 := by rcases HD.out with q | q <;> omega
        have HX : Hid (l[p] = 47) := by
          rcases HD.out with ⟨_, q, _⟩ | q
          · apply UInt8.toNat_inj.1
            rw [← q, h47]
            rfl
          · omega
        subst hwd h47
        have HI1 := paIs_slash HI.out hp HX.out
        by_cases hlt : fr < p
        · have hcut := tx_cut l fr p (by omega) (by omega)
          have g1 : (fr : Int) < (p : Int) := by omega
          rw [if_pos hlt] at HI1
          have HI2 : Hid (PaIs l (p + 1) (p + 1) (ts ++ [cut l fr p])) := HI1
          generalize cut l fr p = t at *
          clear HI1 HI HP HD
          go_wp2_with (at_builtin; refine wpList_append_own _ rfl _ _ 153 rfl w.heap.size 9 i0 (.string ⟨#[]⟩) 1 16 Tryz.underlying153 hi0 hz0 hz1 hz2 rfl (by decide) _ _ _ rfl (HP1.out.own.alloc _) ⟨W1.heap.size, 0, none⟩ 1 1 [tx t] rfl rfl ?c1 ?c2 ?c3 ?c4 ?c5 ?_)
          case c1 => exact World.news_of_block (cs := #[tx t]) (t := 9) (fr := (0, 0)) (heap_alloc_new _ _)
          case c2 => intro u hu; simp at hu; subst hu; rfl
          case c3 => have := HT.out; unfold maxLen; omega
          case c4 => have := HT.out; omega
          case c5 => have := HP1.out.bel.size; simp; omega
          intro v' w2 hown' hgrow _
          have HP2 : Hid (PaAt w w2 K l (p + 1) v' (ts ++ [t])) := HP1.out.app t _ hown' hgrow
          clear hown' hgrow
          go_wp2
          go_roundg (l.length - (p + 1))
          case measure => omega
          case rel => exact ⟨p + 1, p + 1, _, _, rfl, by go_num, by omega, by omega, HI2, by have := HT.out; show _ ≤ _; simp; omega, HP2⟩
        · have g1 : ¬ (fr : Int) < (p : Int) := by omega
          rw [if_neg hlt] at HI1
          have HI2 : Hid (PaIs l (p + 1) (p + 1) ts) := HI1
          clear HI1 HI HP HD
          go_wp2
          go_roundg (l.length - (p + 1))
          case measure => omega
          case rel => exact ⟨p + 1, p + 1, _, _, rfl, by go_num, by omega, by omega, HI2, by have := HT.out; show _ ≤ _; omega, HP1⟩
      · have hb47 : ((r : Int) == 47) = false := beq_false_of_ne (by omega)
        have HI2 : Hid (PaIs l (p + wd) fr ts) := paIs_run HI.out hw2 (fun j hj hjw e => by
          rcases HD.out with ⟨q1, q2, q3⟩ | ⟨q1, q2⟩
          · have : j = 0 := by omega
            subst this
            simp only [Nat.add_zero] at e
            rw [e] at q2
            exact h47 q2
          · have := q2 j hj hjw
            rw [e] at this
            revert this
            decide)
        clear HI HP HD
        go_wp2
        go_roundg (l.length - (p + wd))
        case measure => omega
        case rel => exact ⟨p + wd, fr, _, _, rfl, rfl, hfr, by omega, HI2, by have := HT.out; show _ ≤ _; omega, HP1⟩
    · have hnx : ∀ ty, (Instr.next (.pointer (some ⟨K, 0, none⟩)) true ty).run Tryz.prog wr = .ok (.tuple #[.bool false]) wr := fun ty => run_next_end_at wr K ⟨l.toArray⟩ p ty HP.out.it (by rw [bytes_size]; exact hp)
      have hpl : p = l.length := by have := HI.out.2.1; omega
      have HT2 : Hid (ts.length ≤ l.length) := by have := HT.out; show _ ≤ _; omega
      have HIe : Hid (partsP [] l = (if fr < l.length then ts ++ [l.drop fr] else ts)) := paIs_end (by rw [← hpl]; exact HI.out)
      clear HI HT hpl
      by_cases hlt : fr < l.length
      · have g1 : (fr : Int) < (l.length : Int) := by omega
        have hcut := tx_from l fr (by omega)
        have HI2 : Hid (partsP [] l = ts ++ [l.drop fr]) := by have := HIe.out; rw [if_pos hlt] at this; exact this
        generalize l.drop fr = t at *
        clear HIe
        go_wp2_with (at_builtin; refine wpList_append_own _ rfl _ _ 153 rfl w.heap.size 9 i0 (.string ⟨#[]⟩) 1 16 Tryz.underlying153 hi0 hz0 hz1 hz2 rfl (by decide) _ _ _ rfl (HP.out.own.alloc _) ⟨wr.heap.size, 0, none⟩ 1 1 [tx t] rfl rfl ?c1 ?c2 ?c3 ?c4 ?c5 ?_)
        case c1 => exact World.news_of_block (cs := #[tx t]) (t := 9) (fr := (0, 0)) (heap_alloc_new _ _)
        case c2 => intro u hu; simp at hu; subst hu; rfl
        case c3 => have := HT2.out; unfold maxLen; omega
        case c4 => have := HT2.out; omega
        case c5 => have := HP.out.bel.size; simp; omega
        intro v' w2 hown' hgrow _
        have HP2 : Hid (PaAt w w2 K l p v' (ts ++ [t])) := HP.out.app t _ hown' hgrow
        clear hown' hgrow
        go_wp2
        go_ret
        exact ⟨_, rfl, by rw [HI2.out]; exact OwT.row HP2.out.own, HP2.out.bel⟩
      · have g1 : ¬ (fr : Int) < (l.length : Int) := by omega
        have HI2 : Hid (partsP [] l = ts) := by have := HIe.out; rw [if_neg hlt] at this; exact this
        clear HIe
        go_wp2
        go_ret
        exact ⟨_, rfl, by rw [HI2.out]; exact OwT.row HP.out.own, HP.out.bel⟩
/-- A text that has none of two bytes. -/
def Pure (l : List UInt8) (p : Nat) : Prop := ∀ j (hj : j < l.length), j < p → l[j] ≠ 0 ∧ l[j] ≠ 47
theorem name_no {l : List UInt8} {p : Nat} (hp : p < l.length) (h : l[p] = 0 ∨ l[p] = 47) : isName l = false := by
  unfold isName
  rcases h with h | h
  · have h1 : l.any (· == 0) = true := List.any_eq_true.2 ⟨_, List.getElem_mem hp, by simp [h]⟩
    have : decide (partE l = 0) = false := by
      refine decide_eq_false ?_
      unfold partE
      split
      · omega
      · first | omega | (rw [h1, if_pos rfl]; omega)
    rw [this, Bool.and_false]
  · have h1 : l.any (· == 47) = true := List.any_eq_true.2 ⟨_, List.getElem_mem hp, by simp [h]⟩
    rw [h1]
    rfl
theorem pure_any {l : List UInt8} (h : Pure l l.length) : l.any (· == 0) = false ∧ l.any (· == 47) = false := by
  constructor
  · refine List.any_eq_false.2 (fun b hb => ?_)
    obtain ⟨j, hj, rfl⟩ := List.getElem_of_mem hb
    simpa using (h j hj hj).1
  · refine List.any_eq_false.2 (fun b hb => ?_)
    obtain ⟨j, hj, rfl⟩ := List.getElem_of_mem hb
    simpa using (h j hj hj).2
theorem name_of {l : List UInt8} (h : Pure l l.length) : isName l = (!l.isEmpty && decide (l.length ≤ 8)) := by
  obtain ⟨h1, h2⟩ := pure_any h
  unfold isName partE
  rw [h1, h2]
  by_cases q : 8 < l.length
  · rw [if_pos q, decide_eq_false (show ¬ l.length ≤ 8 by omega)]
    simp
  · rw [if_neg q, decide_eq_true (show l.length ≤ 8 by omega)]
    simp
set_option maxHeartbeats 2000000 in
set_option maxRecDepth 100000 in
theorem isName_at (l : List UInt8) (hl : l.length ≤ 9223372036854775807) (w : World) :
    Calls Tryz.prog 167 #[tx l] w fun e w' => e = .returned (.bool (isName l)) ∧ Below w.heap.size w w' := by
  obtain ⟨K, hK⟩ : ∃ K, K = w.heap.size := ⟨_, rfl⟩
  obtain ⟨W0, hW0⟩ : ∃ W, W = w.iter ⟨l.toArray⟩ 0 := ⟨_, rfl⟩
  have HK : Hid (K = w.heap.size) := hK
  have HW0 : Hid (W0 = w.iter ⟨l.toArray⟩ 0) := hW0
  have HP0 : Hid (PaAt w W0 K l 0 (.slice none 0 0) []) := by rw [hK, hW0]; exact iter_pa w l
  clear hK hW0
  go_enter Tryz.func167, Tryz.ntmps167
  go_wp2
  rw [← HW0.out, ← HK.out]
  go_loopg [4] l.length (fun gk s4 wr => ∃ (p : Nat) (u : Value), u = s4 ∧ p ≤ l.length ∧ l.length - p ≤ gk ∧ Hid (Pure l p) ∧ Hid (PaAt w wr K l p (.slice none 0 0) []))
  case atStart => exact ⟨0, _, rfl, by omega, by omega, fun j hj h => by omega, HP0⟩
  case round =>
    obtain ⟨p, u, rfl, hpl, hgk, HI, HP⟩ := hrel
    clear HP0 HW0
    by_cases hp : p < l.length
    · obtain ⟨r, wd, hdec, hw1, hw2, hr, hcase⟩ := rune_step l p hp
      have hnx : ∀ ty, (Instr.next (.pointer (some ⟨K, 0, none⟩)) true ty).run Tryz.prog wr = .ok (.tuple #[.bool true, .int .i64 p, .int .i32 r]) (wr.iterAt K ⟨l.toArray⟩ (p + wd)) := fun ty => by
        rw [run_next_any_at wr K ⟨l.toArray⟩ p ty HP.out.it (by rw [bytes_size]; exact hp), hdec]
      obtain ⟨W1, hW1⟩ : ∃ W, W = wr.iterAt K ⟨l.toArray⟩ (p + wd) := ⟨_, rfl⟩
      have HP1 : Hid (PaAt w W1 K l (p + wd) (.slice none 0 0) []) := by rw [hW1]; exact HP.out.next _
      rw [← hW1] at hnx
      have HD : Hid ((wd = 1 ∧ r = (l[p]).toNat ∧ r < 128) ∨ (128 ≤ r ∧ ∀ j (hj : p + j < l.length), j < wd → 128 ≤ (l[p + j]).toNat)) := hcase
      clear hW1 hdec hcase
      by_cases hbad : r = 0 ∨ r = 47
      · have HN : Hid (isName l = false) := by
          refine name_no hp ?_
          rcases HD.out with ⟨_, q, _⟩ | q
          · rcases hbad with e | e
            · exact Or.inl (by apply UInt8.toNat_inj.1; rw [← q, e]; rfl)
            · exact Or.inr (by apply UInt8.toNat_inj.1; rw [← q, e]; rfl)
          · omega
        clear HI HP HD
        rcases hbad with rfl | rfl
        all_goals
          go_wp2
          go_ret
          exact ⟨by rw [HN.out]; rfl, HP1.out.bel⟩
      · have b0 : ((r : Int) == 0) = false := beq_false_of_ne (by omega)
        have b47 : ((r : Int) == 47) = false := beq_false_of_ne (by omega)
        have HI2 : Hid (Pure l (p + wd)) := fun j hj hjw => by
          rcases Nat.lt_or_ge j p with q | q
          · exact HI.out j hj q
          · obtain ⟨i, rfl⟩ : ∃ i, j = p + i := ⟨j - p, by omega⟩
            rcases HD.out with ⟨q1, q2, q3⟩ | ⟨q1, q2⟩
            · have : i = 0 := by omega
              subst this
              simp only [Nat.add_zero]
              refine ⟨fun e => ?_, fun e => ?_⟩
              · rw [e] at q2; exact hbad (Or.inl q2)
              · rw [e] at q2; exact hbad (Or.inr q2)
            · have := q2 i hj (by omega)
              refine ⟨fun e => ?_, fun e => ?_⟩
              · rw [e] at this; revert this; decide
              · rw [e] at this; revert this; decide
        clear HI HP HD hbad
        go_wp2
        go_roundg (l.length - (p + wd))
        case measure => omega
        case rel => exact ⟨p + wd, _, rfl, by omega, by omega, HI2, HP1⟩
    · have hnx : ∀ ty, (Instr.next (.pointer (some ⟨K, 0, none⟩)) true ty).run Tryz.prog wr = .ok (.tuple #[.bool false]) wr := fun ty => run_next_end_at wr K ⟨l.toArray⟩ p ty HP.out.it (by rw [bytes_size]; exact hp)
      have HN : Hid (isName l = (!l.isEmpty && decide (l.length ≤ 8))) := name_of (by
        have e : p = l.length := by omega
        have := HI.out
        rw [e] at this
        exact this)
      clear HI
      by_cases he : l = []
      · subst he
        go_wp2
        go_ret
        exact ⟨by rw [HN.out]; rfl, HP.out.bel⟩
      · have hE : l.isEmpty = false := by simpa using he
        by_cases h8 : l.length ≤ 8
        · have g8 : (l.length : Int) ≤ 8 := by omega
          have HN2 : Hid (isName l = true) := by rw [HN.out, hE, decide_eq_true h8]; rfl
          clear HN
          go_wp2
          go_ret
          exact ⟨by rw [HN2.out]; rfl, HP.out.bel⟩
        · have g8 : ¬ (l.length : Int) ≤ 8 := by omega
          have HN2 : Hid (isName l = false) := by rw [HN.out, hE, decide_eq_false h8]; rfl
          clear HN
          go_wp2
          go_ret
          exact ⟨by rw [HN2.out]; rfl, HP.out.bel⟩
theorem parts_ok : ∀ (cur l : List UInt8), (∀ b ∈ cur, b ≠ 47) → ∀ t ∈ partsP cur l, t ≠ [] ∧ ∀ b ∈ t, b ≠ 47
  | cur, [], hc, t, ht => by
    have ht' : t ∈ (if cur.isEmpty then [] else [cur]) := ht
    by_cases q : cur.isEmpty = true
    · rw [if_pos q] at ht'; simp at ht'
    · rw [if_neg q] at ht'
      simp at ht'
      subst ht'
      exact ⟨by simpa using q, hc⟩
  | cur, b :: l, hc, t, ht => by
    have ht' : t ∈ (if b == 47 then (if cur.isEmpty then partsP [] l else cur :: partsP [] l) else partsP (cur ++ [b]) l) := ht
    by_cases hb : (b == 47) = true
    · rw [if_pos hb] at ht'
      by_cases q : cur.isEmpty = true
      · rw [if_pos q] at ht'
        exact parts_ok [] l (fun x hx => by simp at hx) t ht'
      · rw [if_neg q] at ht'
        rcases List.mem_cons.1 ht' with e | e
        · subst e
          exact ⟨by simpa using q, hc⟩
        · exact parts_ok [] l (fun x hx => by simp at hx) t e
    · rw [if_neg hb] at ht'
      exact parts_ok (cur ++ [b]) l (fun x hx => by
        rcases List.mem_append.1 hx with q | q
        · exact hc x q
        · simp at q; subst q; simpa using hb) t ht'
/-- A part is a name, or it is told why not. -/
theorem part_name {t : List UInt8} (h0 : t ≠ []) (h1 : ∀ b ∈ t, b ≠ 47) : isName t = decide (partE t = 0) := by
  have h2 : t.any (· == 47) = false := List.any_eq_false.2 (fun b hb => by simpa using h1 b hb)
  have h3 : t.isEmpty = false := by simpa using h0
  unfold isName
  rw [h2, h3]
  rfl
theorem first_at {ts : List (List UInt8)} {k : Nat} (h : ∀ j t, j < k → ts[j]? = some t → partE t = 0) {t : List UInt8} (ht : ts[k]? = some t) (he : partE t ≠ 0) : firstE ts = partE t := by
  induction k generalizing ts with
  | zero =>
    cases ts with
    | nil => simp at ht
    | cons x l =>
      simp at ht
      subst ht
      exact if_neg he
  | succ k ih =>
    cases ts with
    | nil => simp at ht
    | cons x l =>
      have hx := h 0 x (by omega) rfl
      show (if partE x = 0 then firstE l else partE x) = _
      rw [if_pos hx]
      exact ih (fun j u hj hu => h (j + 1) u (by omega) (by simpa using hu)) (by simpa using ht)
theorem first_none : ∀ {ts : List (List UInt8)}, (∀ (j : Nat) t, ts[j]? = some t → partE t = 0) → firstE ts = 0
  | [], _ => rfl
  | x :: l, h => by
    have hx := h 0 x rfl
    show (if partE x = 0 then firstE l else partE x) = 0
    rw [if_pos hx]
    exact first_none (fun j t ht => h (j + 1) t (by simpa using ht))
theorem parts_count : ∀ (cur l : List UInt8), (partsP cur l).length ≤ l.length + 1
  | cur, [] => by
    show (if cur.isEmpty then [] else [cur]).length ≤ _
    split <;> simp
  | cur, b :: l => by
    show (if b == 47 then (if cur.isEmpty then partsP [] l else cur :: partsP [] l) else partsP (cur ++ [b]) l).length ≤ _
    have h1 := parts_count [] l
    have h2 := parts_count (cur ++ [b]) l
    split
    · split
      · simp only [List.length_cons]; omega
      · simp only [List.length_cons]; omega
    · simp only [List.length_cons]; omega
theorem parts_size : ∀ (cur l : List UInt8), ∀ t ∈ partsP cur l, t.length ≤ cur.length + l.length
  | cur, [], t, ht => by
    have ht' : t ∈ (if cur.isEmpty then [] else [cur]) := ht
    by_cases q : cur.isEmpty = true
    · rw [if_pos q] at ht'; simp at ht'
    · rw [if_neg q] at ht'
      simp at ht'
      subst ht'
      simp
  | cur, b :: l, t, ht => by
    have ht' : t ∈ (if b == 47 then (if cur.isEmpty then partsP [] l else cur :: partsP [] l) else partsP (cur ++ [b]) l) := ht
    have h1 := parts_size [] l t
    have h2 := parts_size (cur ++ [b]) l t
    simp only [List.length_append, List.length_cons, List.length_nil] at h1 h2 ⊢
    split at ht'
    · split at ht'
      · have := h1 ht'; omega
      · rcases List.mem_cons.1 ht' with e | e
        · subst e; omega
        · have := h1 e; omega
    · have := h2 ht'; omega
set_option maxHeartbeats 2000000 in
set_option maxRecDepth 100000 in
theorem split_at (l : List UInt8) (hl : l.length ≤ 9223372036854775807) (w : World) :
    Calls Tryz.prog 177 #[tx l] w fun e w' => ∃ v, e = .returned (.tuple #[v, .int .i64 (splitR l)]) ∧ Ts w' w.heap.size v (splitP l) ∧ Below w.heap.size w w' := by
  by_cases he : l = []
  · subst he
    go_enter Tryz.func177, Tryz.ntmps177
    go_wp2
    go_ret2
    exact ⟨_, rfl, Ts.nil _ _, Below.refl _ _⟩
  · have hE : l.isEmpty = false := by simpa using he
    have hs := text_same l
    by_cases h32 : 32 < l.length
    · have g1 : (32 : Int) < (l.length : Int) := by omega
      have HR : Hid (splitR l = 36 ∧ splitP l = []) := by
        unfold splitR splitP
        rw [if_neg he, if_neg he, if_pos h32, if_pos h32]
        exact ⟨rfl, rfl⟩
      go_enter Tryz.func177, Tryz.ntmps177
      go_wp2
      go_ret2
      exact ⟨_, by rw [HR.out.1]; rfl, by rw [HR.out.2]; exact Ts.nil _ _, Below.refl _ _⟩
    · have g1 : ¬ (32 : Int) < (l.length : Int) := by omega
      have HR : Hid (splitR l = firstE (partsP [] l) ∧ splitP l = (if firstE (partsP [] l) = 0 then partsP [] l else [])) := by
        unfold splitR splitP
        rw [if_neg he, if_neg he, if_neg h32, if_neg h32]
        exact ⟨rfl, rfl⟩
      have hC := parts_at l (by omega) w
      have HO : Hid (∀ t ∈ partsP [] l, t ≠ [] ∧ ∀ b ∈ t, b ≠ 47) := parts_ok [] l (fun b hb => by simp at hb)
      have HLt : Hid ((partsP [] l).length ≤ 33 ∧ ∀ t ∈ partsP [] l, t.length ≤ 9223372036854775807) := by
        refine ⟨by have := parts_count [] l; omega, fun t ht => ?_⟩
        have := parts_size [] l t ht
        simp at this
        omega
      generalize partsP [] l = ts at *
      have hL33 := HLt.out.1
      go_enter Tryz.func177, Tryz.ntmps177
      go_wp2_with fail
      refine hC.mono ?_
      rintro x w1 ⟨v, rfl, hT1, hb1⟩
      obtain ⟨a, cap, rfl, hcap⟩ := hT1.form
      have HT1 : Hid (Ts w1 w.heap.size (.slice a ts.length cap) ts) := hT1
      have HB1 : Hid (Below w.heap.size w w1) := hb1
      clear hC hT1 hb1
      go_wp2
      go_loopw [6, 16] (fun s6 s16 wr => ∃ (k : Nat) (u6 : Value), u6 = s6 ∧ s16 = .int .i64 k ∧ k ≤ ts.length ∧ Hid (∀ j t, j < k → ts[j]? = some t → partE t = 0) ∧ Hid (Below w1.heap.size w1 wr)) (fun _ s16 _ => ts.length - (RowKit.intOf s16).toNat)
      case atStart => exact ⟨0, _, rfl, rfl, by omega, fun j t hj => by omega, Below.refl _ _⟩
      case round =>
        obtain ⟨k, u6, rfl, rfl, hk, HF, HB⟩ := hrel
        by_cases hlt : k < ts.length
        · obtain ⟨t, ht⟩ : ∃ t, ts[k]? = some t := ⟨ts[k], List.getElem?_eq_getElem hlt⟩
          obtain ⟨g, rfl, c0, _⟩ := (HT1.out.below HB.out).at ht
          have hint : (k : Int) < (ts.length : Int) := by omega
          have HK : Hid (ts[k]? = some t) := ht
          have htm := List.mem_of_getElem? ht
          have hN := isName_at t (HLt.out.2 t htm) wr
          have HPN : Hid (isName t = decide (partE t = 0)) := part_name (HO.out t htm).1 (HO.out t htm).2
          clear ht htm
          by_cases h8 : 8 < t.length
          · have g8 : (8 : Int) < (t.length : Int) := by omega
            have HE : Hid (firstE ts = 36) := by
              have e1 : partE t = 36 := by unfold partE; rw [if_pos h8]
              have := first_at HF.out HK.out (by rw [e1]; omega)
              rw [e1] at this
              exact this
            clear hN
            go_wp2
            go_ret2
            exact ⟨_, by rw [HR.out.1, HE.out]; rfl, by rw [HR.out.2, HE.out]; exact Ts.nil _ _, HB1.out.trans (HB.out.mono HB1.out.size)⟩
          · have g8 : ¬ (8 : Int) < (t.length : Int) := by omega
            by_cases hz : partE t = 0
            · rw [HPN.out, decide_eq_true hz] at hN
              have HF2 : Hid (∀ j t, j < k + 1 → ts[j]? = some t → partE t = 0) := fun j x hj hx => by
                rcases Nat.lt_or_ge j k with q | q
                · exact HF.out j x q hx
                · have e : j = k := by omega
                  subst e
                  rw [HK.out] at hx
                  rw [← Option.some.inj hx]
                  exact hz
              clear hz HPN
              go_wp2_with fail
              refine hN.mono ?_
              rintro x w2 ⟨rfl, hb2⟩
              have HB2 : Hid (Below w1.heap.size w1 w2) := HB.out.trans (hb2.mono HB.out.size)
              clear hN hb2
              go_wp2
              go_roundw
              case rel => exact ⟨k + 1, _, rfl, by go_num, by omega, HF2, HB2⟩
              case measure => simp [RowKit.intOf]; omega
            · rw [HPN.out, decide_eq_false hz] at hN
              have HE : Hid (firstE ts = 22) := by
                have e1 : partE t = 22 := by
                  unfold partE at hz ⊢
                  rw [if_neg h8] at hz ⊢
                  by_cases q : t.any (· == 0) = true
                  · rw [if_pos q]
                  · rw [if_neg q] at hz; exact absurd rfl hz
                have := first_at HF.out HK.out hz
                rw [e1] at this
                exact this
              clear hz HPN
              go_wp2_with fail
              refine hN.mono ?_
              rintro x w2 ⟨rfl, hb2⟩
              have HB2 : Hid (Below w1.heap.size w1 w2) := HB.out.trans (hb2.mono HB.out.size)
              clear hN hb2
              go_wp2
              go_ret2
              exact ⟨_, by rw [HR.out.1, HE.out]; rfl, by rw [HR.out.2, HE.out]; exact Ts.nil _ _, HB1.out.trans (HB2.out.mono HB1.out.size)⟩
        · have hnl : ¬ (k : Int) < (ts.length : Int) := by omega
          have HE : Hid (firstE ts = 0) := first_none (fun j t ht => HF.out j t (by have := (List.getElem?_eq_some_iff.1 ht).1; omega) ht)
          go_wp2
          go_ret2
          exact ⟨_, by rw [HR.out.1, HE.out]; rfl, by rw [HR.out.2, HE.out, if_pos rfl]; exact HT1.out.below HB.out, HB1.out.trans (HB.out.mono HB1.out.size)⟩
end Go.Proofs.YtcjpahnlckfgoaaGreatDoor
