/- The machine of package vm: where it lies in the heap; the contracts of pop, push, truth, and of slices.Clone. -/
import Derived.Test.YtedkijionpkmmaaCodS
import Derived.Deep.AppendLies
import Derived.BigRegion
namespace Go.Proofs.Ytedkijionpkmmaa
open Go.RowKit
set_option linter.unusedVariables false

/-- Words as cells. -/
def uvs (zs : List Int) : List Value := zs.map (Value.int .u64)
theorem uvs_len (zs : List Int) : (uvs zs).length = zs.length := by simp [uvs]
theorem uvs_one (zs : List Int) : ∀ u ∈ uvs zs, u.oneCell' = true := by
  intro u hu
  simp only [uvs, List.mem_map] at hu
  obtain ⟨x, _, rfl⟩ := hu
  rfl
theorem uvs_get {zs : List Int} {j : Nat} {u : Value} (h : (uvs zs)[j]? = some u) : ∃ x, zs[j]? = some x ∧ u = .int .u64 x := by
  simp only [uvs, List.getElem?_map, Option.map_eq_some_iff] at h
  obtain ⟨a, ha, rfl⟩ := h
  exact ⟨a, ha, rfl⟩
theorem add0 (g o j : Nat) : (⟨g, o, none⟩ : Addr).add j = ⟨g, o + j, none⟩ := by unfold Addr.add; split <;> simp_all
theorem wordInfo : (Try.prog.info? 25).map (fun i => (i.zero, i.size, i.bytes)) = some (some (.int .u64 0), 1, 8) := by kernel_rfl

theorem ownsRow_at {w w' : World} {base : Nat} {e : TypeId} {size : Nat} {v : Value} {n : Nat} {xs : List Value} (h : w.ownsRow base e size v n xs) (hb : ∀ g, v.ownBlock = some g → w'.heap[g]? = w.heap[g]?) : w'.ownsRow base e size v n xs := by
  obtain ⟨h1, h2⟩ := h
  refine ⟨h1, ?_⟩
  rcases h2 with h2 | ⟨g, cap, cur, hv, hg, hh, r⟩
  · exact Or.inl h2
  · exact Or.inr ⟨g, cap, cur, hv, hg, (hb g (by rw [hv]; rfl)).trans hh, r⟩
theorem ownsRow_below {w w' : World} {base : Nat} {e : TypeId} {size : Nat} {v : Value} {n : Nat} {xs : List Value} (h : w.ownsRow base e size v n xs) (hb : Below w.heap.size w w') : w'.ownsRow base e size v n xs :=
  ownsRow_at h (fun g hg => hb.block g (h.lt g hg).2)
theorem ownsRow_mono {w : World} {base base' : Nat} {e : TypeId} {size : Nat} {v : Value} {n : Nat} {xs : List Value} (h : w.ownsRow base e size v n xs) (hb : base' ≤ base) : w.ownsRow base' e size v n xs := by
  obtain ⟨h1, h2⟩ := h
  refine ⟨h1, ?_⟩
  rcases h2 with h2 | ⟨g, cap, cur, hv, hg, hh, r⟩
  · exact Or.inl h2
  · exact Or.inr ⟨g, cap, cur, hv, by omega, hh, r⟩

/-- A machine in block b: its stack, the top first, lies in a row of its own from block M on. -/
structure MachV (M : Nat) (w : World) (b : Nat) (pc : Int) (sv : Value) (st : List Int) : Prop where
  head : w.heap[b]? = some (.cells #[.int .i64 pc, sv] 24)
  own : w.ownsRow M 25 1 sv st.length (uvs st.reverse)
  low : M ≤ b
/-- What a step of the machine may change: the machine's block, its stack's, and new ones. -/
structure Went (b : Nat) (w : World) (sv : Value) (w' : World) (sv' : Value) : Prop where
  os : w'.os = w.os
  tape : w'.tape = w.tape
  output : w'.output = w.output
  size : w.heap.size ≤ w'.heap.size
  block : ∀ k, k < w.heap.size → k ≠ b → sv.ownBlock ≠ some k → w'.heap[k]? = w.heap[k]?
  lies : sv'.ownBlock = sv.ownBlock ∨ ∀ g, sv'.ownBlock = some g → w.heap.size ≤ g
theorem Went.refl (b : Nat) (w : World) (sv : Value) : Went b w sv w sv := ⟨rfl, rfl, rfl, Nat.le_refl _, fun _ _ _ _ => rfl, Or.inl rfl⟩
theorem Went.trans {b : Nat} {w w1 w2 : World} {sv sv1 sv2 : Value} (h : Went b w sv w1 sv1) (k : Went b w1 sv1 w2 sv2) : Went b w sv w2 sv2 := by
  refine ⟨k.os.trans h.os, k.tape.trans h.tape, k.output.trans h.output, Nat.le_trans h.size k.size, fun i hi hb hn => ?_, ?_⟩
  · refine (k.block i (Nat.lt_of_lt_of_le hi h.size) hb (fun e => ?_)).trans (h.block i hi hb hn)
    rcases h.lies with hl | hl
    · rw [hl] at e; exact hn e
    · have := hl i e; omega
  · rcases k.lies with kl | kl
    · rw [kl]; exact h.lies
    · exact Or.inr (fun g hg => Nat.le_trans h.size (kl g hg))
theorem Went.of_upd {b : Nat} {w w' : World} {sv sv' : Value} (h : Upd b w w') (he : sv'.ownBlock = sv.ownBlock) : Went b w sv w' sv' :=
  ⟨h.os, h.tape, h.output, h.size, fun k hk hb _ => h.block k hk hb, Or.inl he⟩
theorem Went.of_below {b : Nat} {w w' : World} {sv : Value} (h : Below w.heap.size w w') : Went b w sv w' sv :=
  ⟨h.os, h.tape, h.output, h.size, fun k hk _ _ => h.block k hk, Or.inl rfl⟩

section
variable {M : Nat} {w w' : World} {b : Nat} {pc : Int} {sv : Value} {st : List Int}
theorem MachV.c0 (h : MachV M w b pc sv st) : w.cell? ⟨b, 0, none⟩ = some (.int .i64 pc) := by rw [cell_of_heap h.head]; rfl
theorem MachV.c1 (h : MachV M w b pc sv st) : w.cell? ⟨b, 1, none⟩ = some sv := by rw [cell_of_heap h.head]; rfl
theorem MachV.free (h : MachV M w b pc sv st) (i : Nat) : w.frozen? ⟨b, i, none⟩ = false := frozen_of_heap h.head
theorem MachV.apart (h : MachV M w b pc sv st) : sv.ownBlock ≠ some b := by
  intro e
  rcases h.own.2 with ⟨e2, _⟩ | ⟨g, cap, cur, e2, _, hh, _⟩
  · rw [e2] at e; simp [Value.ownBlock] at e
  · rw [e2] at e
    simp [Value.ownBlock] at e
    subst e
    rw [h.head] at hh
    simp at hh
theorem MachV.keep (h : MachV M w b pc sv st) (hb : w'.heap[b]? = w.heap[b]?) (hs : ∀ g, sv.ownBlock = some g → w'.heap[g]? = w.heap[g]?) : MachV M w' b pc sv st :=
  ⟨hb.trans h.head, ownsRow_at h.own hs, h.low⟩
theorem MachV.below (h : MachV M w b pc sv st) (k : Below w.heap.size w w') : MachV M w' b pc sv st :=
  ⟨(k.block _ (lt_of_heap h.head)).trans h.head, ownsRow_below h.own k, h.low⟩
theorem MachV.put0 (h : MachV M w b pc sv st) (q : Int) : MachV M (w.setCell ⟨b, 0, none⟩ (.int .i64 q)) b q sv st := by
  refine ⟨?_, ownsRow_at h.own (fun g hg => Below.heap_setCell _ _ _ _ (fun e => h.apart (by have e' : g = b := e; rw [← e']; exact hg))), h.low⟩
  rw [setCell_eq_setRow w b 0 _ _ _ _ h.head, setRow_heap w b _ _ _ _ h.head]
  rfl
theorem head1 (h : w.heap[b]? = some (.cells #[.int .i64 pc, sv] 24)) (v : Value) : (w.setCell ⟨b, 1, none⟩ v).heap[b]? = some (.cells #[.int .i64 pc, v] 24) := by
  rw [setCell_eq_setRow w b 1 _ _ _ _ h, setRow_heap w b _ _ _ _ h]
  rfl
theorem MachV.form (h : MachV M w b pc sv st) : ∃ a cap, sv = .slice a st.length cap := by
  rcases h.own.2 with ⟨e2, e3⟩ | ⟨g, cap, cur, e2, _⟩
  · exact ⟨none, 0, by rw [e2, e3]⟩
  · exact ⟨_, _, e2⟩
/-- The stack's top. -/
theorem MachV.top {x : Int} (h : MachV M w b pc sv (x :: st)) : ∃ g cap, sv = .slice (some ⟨g, 0, none⟩) (st.length + 1) cap ∧ st.length + 1 ≤ cap ∧ w.cell? ⟨g, st.length, none⟩ = some (.int .u64 x) ∧
    w.ownsRow M 25 1 (.slice (some ⟨g, 0, none⟩) st.length cap) st.length (uvs st.reverse) := by
  rcases h.own.2 with ⟨e2, e3⟩ | ⟨g, cap, cur, e2, hb, hh, h1, h2, h3, h4⟩
  · simp at e3
  · simp only [List.length_cons, Nat.mul_one] at h4 h1 e2
    refine ⟨g, cap, e2, h1, ?_, by simp [uvs], Or.inr ⟨g, cap, cur, rfl, hb, hh, by omega, h2, h3, ?_⟩⟩
    · rw [cell_of_heap hh]
      have hq : (uvs (x :: st).reverse)[st.length]? = some (.int .u64 x) := by simp [uvs]
      rw [← h4, List.getElem?_take_of_lt (by omega)] at hq
      simpa using hq
    · have hq := congrArg (List.take st.length) h4
      rw [List.take_take, Nat.min_eq_left (by omega)] at hq
      rw [Nat.mul_one, hq]
      simp [uvs]
end

theorem truth_at (x : Bool) (w : World) :
    Calls Try.prog 54 #[.bool x] w fun e w' => e = .returned (.int .u64 (if x = true then 1 else 0)) ∧ w' = w := by
  cases x
  all_goals
    go_enter Try.func54, Try.ntmps54
    go_wp2
    go_ret
    exact ⟨rfl, rfl⟩

theorem pop_at (M b : Nat) (pc : Int) (sv : Value) (x : Int) (st : List Int) (w : World) (h : MachV M w b pc sv (x :: st)) (hl : st.length ≤ 100000) :
    Calls Try.prog 36 #[.pointer (some ⟨b, 0, none⟩)] w fun e w' => e = .returned (.int .u64 x) ∧ ∃ sv', MachV M w' b pc sv' st ∧ sv'.ownBlock = sv.ownBlock ∧ Upd b w w' := by
  obtain ⟨g, cap, rfl, hcap, hx, hown⟩ := h.top
  have c1 := h.c1
  have hf := h.free 1
  have HH : Hid _ := h
  have HO : Hid _ := hown
  clear h hown
  go_enter Try.func36, Try.ntmps36
  go_wp2
  go_ret
  refine ⟨rfl, _, ⟨head1 HH.out.head _, ?_, HH.out.low⟩, rfl, Upd.setCell _ _ _ _⟩
  exact ownsRow_at HO.out (fun k hk => Below.heap_setCell _ _ _ _ (fun e => HH.out.apart (by have e' : k = b := e; rw [← e']; exact hk)))

set_option maxHeartbeats 400000 in
theorem push_at (M b : Nat) (pc : Int) (sv : Value) (st news : List Int) (m B : Nat) (w : World) (h : MachV M w b pc sv st) (hl : st.length ≤ 100000) (hm : news.length = m) (hm0 : 0 < m) (hm2 : m ≤ 100)
    (hB : w.heap[B]? = some (.cells (uvs news).toArray 25)) :
    Calls Try.prog 37 #[.pointer (some ⟨b, 0, none⟩), .slice (some ⟨B, 0, none⟩) m m] w fun e w' => e = .returned (.tuple #[]) ∧ ∃ sv', MachV M w' b pc sv' (news.reverse ++ st) ∧ Went b w sv w' sv' := by
  obtain ⟨i0, hi0, hzz⟩ := Option.map_eq_some_iff.1 wordInfo
  simp only [Prod.mk.injEq] at hzz
  obtain ⟨hz0, hz1, hz2⟩ := hzz
  have c1 := h.c1
  have hown := h.own
  have hlow := h.low
  have hlt := lt_of_heap h.head
  have hbs : M ≤ w.heap.size := by omega
  have HB : Hid _ := hB
  have HM : Hid _ := hm
  have HH : Hid _ := h
  clear h hB hm
  go_enter Try.func37, Try.ntmps37
  go_wp2_with (at_builtin; refine wpList_append_lies _ rfl _ _ _ rfl M 25 i0 _ 1 8 Try.underlying22 hi0 hz0 hz1 hz2 rfl (by omega) sv st.length _ rfl hown ⟨B, 0, none⟩ m m (uvs news) rfl (by rw [uvs_len, HM.out]; omega) (World.news_of_block HB.out) (uvs_one news) hm0 (by unfold maxLen; omega) (by omega) hbs _ rfl ?_)
  intro g cap w1 hown1 hgrow hat hlt1
  have hd : w1.heap[b]? = some (.cells #[.int .i64 pc, sv] 24) := (hgrow.block b hlt (fun e => HH.out.apart e.symm)).trans HH.out.head
  have hf : w1.frozen? ⟨b, 1, none⟩ = false := frozen_of_heap hd
  have hc : w1.cell? ⟨b, 1, none⟩ = some sv := by rw [cell_of_heap hd]; rfl
  have HD : Hid _ := hd
  have HO : Hid _ := hown1
  have HG : Hid _ := hgrow
  have HA : Hid _ := hat
  clear hd hown1 hgrow hat hown
  go_wp2
  go_end0
  have hgb : g ≠ b := by
    intro e
    subst e
    rcases HA.out with e | e
    · exact HH.out.apart e
    · omega
  refine ⟨rfl, _, ⟨head1 HD.out _, ?_, hlow⟩, ?_⟩
  · have := ownsRow_at (w' := w1.setCell ⟨b, 1, none⟩ (.slice (some ⟨g, 0, none⟩) (st.length + m) cap)) HO.out (fun k hk => Below.heap_setCell _ _ _ _ (fun e => hgb (by subst e; simpa [Value.ownBlock] using hk)))
    rw [← HM.out] at this ⊢
    have e1 : (news.reverse ++ st).length = st.length + news.length := by simp; omega
    have e2 : uvs (news.reverse ++ st).reverse = uvs st.reverse ++ uvs news := by simp [uvs]
    rw [e1, e2]
    exact this
  · have hg := HG.out
    refine ⟨hg.os, hg.tape, hg.output, by simpa [World.setCell] using hg.size, fun k hk hb hs => ?_, ?_⟩
    · rw [Below.heap_setCell _ _ _ _ hb]
      exact hg.block k hk (fun e => hs e.symm)
    · rcases HA.out with e | e
      · exact Or.inl (by rw [e]; rfl)
      · right
        intro k hk
        simp [Value.ownBlock] at hk
        omega

end Go.Proofs.Ytedkijionpkmmaa
