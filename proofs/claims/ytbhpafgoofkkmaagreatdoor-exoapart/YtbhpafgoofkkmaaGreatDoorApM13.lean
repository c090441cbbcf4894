/- Environment 1 apart from the others (plain data): what it has was made by nobody, nobody else has any of it; what others do leaves what it sees, what it does itself comes out the same. -/
import Derived.Test.YtbhpafgoofkkmaaGreatDoorXoQ
namespace Go.Proofs.YtbhpafgoofkkmaaGreatDoor
open Go.RowKit
set_option linter.unusedVariables false

/-- Environment 1's slots. -/
def mine (j : Nat) : Prop := 64 ≤ j ∧ j < 128
/-- Is b among what a capability is for? -/
def cov (x : Ca.Cp) (b : Int) : Prop := x.id ≤ b ∧ b - x.id < x.len
/-- What environment 1 has was made by nobody, and nobody else has any of it. -/
structure Row1 (T : Ca.Tab) : Prop where
  root : ∀ j, mine j → (T j).s = 0
  sole : ∀ i j b, mine i → j < 768 → ¬ mine j → (T i).x.is = true → (T j).x.is = true → cov (T i).x b → ¬ cov (T j).x b
/-- The same slots of environment 1. -/
def Ag (T T' : Ca.Tab) : Prop := ∀ j, mine j → T' j = T j
/-- Nothing new is had. -/
def Sub (T T' : Ca.Tab) : Prop := ∀ j, j < 768 → (T' j).x.is = true → (T' j).x = (T j).x
theorem mine_lt {j : Nat} (h : mine j) : j < 768 := by unfold mine at h; omega
theorem mine_iff {i : Nat} {e s : Int} (h : Ca.plOf i = (e, s)) : mine i ↔ e = 1 := by
  simp only [Ca.plOf, Prod.mk.injEq] at h
  unfold mine
  omega
theorem Ag.rfl' (T : Ca.Tab) : Ag T T := fun _ _ => rfl
theorem Ag.trans {T T' T'' : Ca.Tab} (h : Ag T T') (h' : Ag T' T'') : Ag T T'' := fun j hj => (h' j hj).trans (h j hj)
theorem Ag.get {T T' : Ca.Tab} (h : Ag T T') (s : Int) : Ca.getT T' 1 s = Ca.getT T 1 s := by
  unfold Ca.getT
  split
  · rename_i hp
    simp only [Ca.isP, Bool.and_eq_true, decide_eq_true_eq] at hp
    rw [h _ (by unfold mine; omega)]
  · rfl
theorem Ag.has {T T' : Ca.Tab} (h : Ag T T') (K I r : Int) : Ca.hasN T' 1 K I r = Ca.hasN T 1 K I r := by
  unfold Ca.hasN
  rw [Bool.eq_iff_iff]
  simp only [List.any_eq_true, List.mem_range]
  constructor
  · rintro ⟨s, hs, q⟩
    rw [h _ (by unfold mine; omega)] at q
    exact ⟨s, hs, q⟩
  · rintro ⟨s, hs, q⟩
    exact ⟨s, hs, by rw [h _ (by unfold mine; omega)]; exact q⟩
theorem Ag.hold {T T' : Ca.Tab} (h : Ag T T') (x : Int × Bool) : Ex.holdB T' 1 x = Ex.holdB T 1 x := by
  unfold Ex.holdB Ca.hasB
  show (_ && Ca.hasN T' 1 _ _ _) = (_ && Ca.hasN T 1 _ _ _)
  rw [h.has]
theorem Ag.tidy {T T' : Ca.Tab} (h : Ag T T') (f : Int → Option (Int × Bool)) : Ex.tidy1 T' 1 f = Ex.tidy1 T 1 f := by
  funext p
  unfold Ex.tidy1
  cases f p with
  | none => rfl
  | some x =>
    dsimp only
    rw [h.hold]
theorem Ag.frm {T T' : Ca.Tab} (h : Ag T T') (s r : Int) : Ex.frm T' 1 s r = Ex.frm T 1 s r := by
  unfold Ex.frm
  rw [h.get]
theorem Ag.may {T T' : Ca.Tab} (h : Ag T T') (s b r : Int) : Xd.mayX T' 1 s b r = Xd.mayX T 1 s b r := by
  unfold Xd.mayX Xd.hasR
  rw [h.get]

theorem mine_drop {T : Ca.Tab} (h : Row1 T) (e s : Int) (j : Nat) (hj : mine j) : Ca.dropT T e s j = if (Ca.getT T e s).is = true ∧ j = Ca.dropJ e s then Ca.Hd.no else T j := by
  cases hi : (Ca.getT T e s).is with
  | false =>
    rw [if_neg (by rintro ⟨q, _⟩; cases q)]
    unfold Ca.dropT
    rw [hi]
    rfl
  | true =>
    obtain ⟨i, hi', hp, hx, hJ⟩ := Ca.get_slot hi
    rw [Ca.dropT_at hi hp hJ j (mine_lt hj), hJ]
    by_cases e1 : j = i
    · rw [if_pos e1, if_pos ⟨rfl, e1⟩]
    · have hnot : ¬ Ca.ofB (T j) (Ca.plOf i).1 (Ca.plOf i).2 = true := by
        intro hc
        have := (Ca.ofB_iff.1 hc).2
        rw [h.root j hj] at this
        exact Ca.plOf_pos i this.symm
      rw [if_neg e1, if_neg hnot, if_neg (fun q : true = true ∧ j = i => e1 q.2)]
theorem sub_drop (T : Ca.Tab) (e s : Int) : Sub T (Ca.dropT T e s) := by
  intro j hj hq
  unfold Ca.dropT at hq ⊢
  split at hq
  · rename_i hi
    rw [if_pos hi]
    by_cases e1 : j = Ca.dropJ e s
    · subst e1
      rw [Ca.Tab.set_same] at hq
      cases hq
    · rw [Ca.Tab.set_other _ _ _ _ e1, Ca.hoTo_x]
  · rename_i hi
    rw [if_neg hi]
theorem Row1.sub {T T' : Ca.Tab} (h : Row1 T) (hr : ∀ j, mine j → (T' j).s = 0) (hs : Sub T T') : Row1 T' := by
  refine ⟨hr, fun a j b ha hj hn h1 h2 h3 => ?_⟩
  have e1 := hs a (mine_lt ha) h1
  have e2 := hs j hj h2
  rw [e1] at h1 h3
  rw [e2] at h2 ⊢
  exact h.sole a j b ha hj hn h1 h2 h3
theorem Row1.drop {T : Ca.Tab} (h : Row1 T) (e s : Int) : Row1 (Ca.dropT T e s) := by
  refine h.sub (fun j hj => ?_) (sub_drop T e s)
  rw [mine_drop h e s j hj]
  split
  · rfl
  · exact h.root j hj
theorem Row1.drop_ag {T : Ca.Tab} (h : Row1 T) {e : Int} (he : e ≠ 1) (s : Int) : Ag T (Ca.dropT T e s) := by
  intro j hj
  rw [mine_drop h e s j hj, if_neg]
  rintro ⟨hi, hJ⟩
  obtain ⟨i, _, hp, _, hJ'⟩ := Ca.get_slot hi
  rw [hJ'] at hJ
  subst hJ
  exact he ((mine_iff hp).1 hj)
theorem Ag.drop {T T' : Ca.Tab} (h : Ag T T') (h1 : Row1 T) (h2 : Row1 T') (s : Int) : Ag (Ca.dropT T 1 s) (Ca.dropT T' 1 s) := by
  intro j hj
  rw [mine_drop h1 1 s j hj, mine_drop h2 1 s j hj, h.get, h j hj]
theorem rev_tab (T : Ca.Tab) (e s : Int) (j : Nat) (hj : j < 768) : Ex.revT T e s j = T j ∨ (Ex.revT T e s j = Ca.Hd.no ∧ (T j).s ≠ 0) := by
  unfold Ex.revT
  split
  · rename_i hi
    obtain ⟨i, _, hp, _⟩ := Ca.get_slot hi
    have hs : s ≠ 0 := by have := Ca.plOf_pos i; rw [hp] at this; exact this
    rcases (Ca.revK T (e, s) hs 769).tab j hj with q | ⟨q, _, q2, _⟩
    · exact Or.inl q
    · exact Or.inr ⟨q, q2⟩
  · exact Or.inl rfl
theorem sub_rev (T : Ca.Tab) (e s : Int) : Sub T (Ex.revT T e s) := by
  intro j hj hq
  rcases rev_tab T e s j hj with q | ⟨q, _⟩
  · rw [q]
  · rw [q] at hq
    cases hq
theorem Row1.rev_ag {T : Ca.Tab} (h : Row1 T) (e s : Int) : Ag T (Ex.revT T e s) := by
  intro j hj
  rcases rev_tab T e s j (mine_lt hj) with q | ⟨_, q⟩
  · exact q
  · exact absurd (h.root j hj) q
theorem Row1.rev {T : Ca.Tab} (h : Row1 T) (e s : Int) : Row1 (Ex.revT T e s) :=
  h.sub (fun j hj => by rw [h.rev_ag e s j hj]; exact h.root j hj) (sub_rev T e s)
theorem Ag.rev {T T' : Ca.Tab} (h : Ag T T') (h1 : Row1 T) (h2 : Row1 T') (e s e' s' : Int) : Ag (Ex.revT T e s) (Ex.revT T' e' s') := by
  intro j hj
  rw [h1.rev_ag e s j hj, h2.rev_ag e' s' j hj, h j hj]
theorem Row1.put {T : Ca.Tab} (h : Row1 T) (m : Nat) (hm : m ≠ 1) (H : Ca.Hd) (hH : ∀ i b, mine i → (T i).x.is = true → cov (T i).x b → ¬ cov H.x b) : Row1 (Ca.putT T m H) ∧ Ag T (Ca.putT T m H) := by
  unfold Ca.putT
  split
  · rename_i hf
    have hne : ∀ j, mine j → j ≠ m * 64 + Ca.freeT T m := by intro j hj; unfold mine at hj; omega
    have hag : Ag T (T.set (m * 64 + Ca.freeT T m) H) := fun j hj => Ca.Tab.set_other _ _ _ _ (hne j hj)
    refine ⟨⟨fun j hj => by rw [hag j hj]; exact h.root j hj, fun i j b hi hj hn h1 h2 h3 => ?_⟩, hag⟩
    rw [hag i hi] at h1 h3
    by_cases e : j = m * 64 + Ca.freeT T m
    · subst e
      rw [Ca.Tab.set_same]
      exact hH i b hi h1 h3
    · rw [Ca.Tab.set_other _ _ _ _ e] at h2 ⊢
      exact h.sole i j b hi hj hn h1 h2 h3
  · exact ⟨h, Ag.rfl' T⟩
theorem env_ne {e : Int} (hE : Ca.isE e = true) (he : e ≠ 1) : e.toNat ≠ 1 := by
  obtain ⟨m, rfl, _⟩ := Ex.isE_nat hE
  omega
theorem Row1.alloc {T : Ca.Tab} {n : Nat} (h : Row1 T) (hK : Ex.KInv T n) {e : Int} (he : e ≠ 1) : Row1 (Ex.allocT T n e) ∧ Ag T (Ex.allocT T n e) := by
  unfold Ex.allocT
  split
  · rename_i hE
    split
    · exact ⟨h, Ag.rfl' T⟩
    · rename_i hf
      refine h.put _ (env_ne hE he) _ (fun i b hi h1 h2 h3 => ?_)
      rcases Ex.freeI_cases T n with ⟨q, _⟩ | ⟨f, hfn, q, hc, _⟩
      · omega
      · rw [Ex.cnt_zero] at hc
        obtain ⟨_, _, _, hl, _⟩ := hK.ok (mine_lt hi) h1
        refine hc i (mine_lt hi) h1 ?_
        unfold cov at h2 h3
        dsimp only at h3
        rw [q] at h3
        omega
  · exact ⟨h, Ag.rfl' T⟩
theorem any_no {T : Ca.Tab} {f : Int} : ∀ {k : Nat}, Xd.anyX T f k = false → ∀ j, j < k → (Ca.holdTo T 2 (f + j) 12).isEmpty = true
  | 0, _, j, hj => by omega
  | k + 1, h, j, hj => by
    unfold Xd.anyX at h
    simp only [Bool.or_eq_false_iff] at h
    by_cases e : j = k
    · subst e
      simpa using h.2
    · exact any_no h.1 j (by omega)
theorem hold_cov {T : Ca.Tab} {n : Nat} (hX : Xd.XInv T n) {i : Nat} (hi : i < 768) (h1 : (T i).x.is = true) {b : Int} (h2 : cov (T i).x b) : (Ca.holdTo T 2 b 12).isEmpty = false := by
  obtain ⟨k1, _, _, _, k5, k6⟩ := hX.ok hi h1
  have e : i = i / 64 * 64 + i % 64 := by omega
  have hh : Ca.hasN T (i / 64) 2 b 0 = true := Ca.hasN_hit (s := i % 64) (by omega) (by
    rw [← e]
    simp only [Ca.hitB, Ca.coversB, Bool.and_eq_true, beq_iff_eq, decide_eq_true_eq]
    exact ⟨⟨⟨k1, h2.1⟩, h2.2⟩, Ex.among0 _ ⟨by omega, k6⟩⟩)
  have h3 : ((i / 64 : Nat) : Int) ∈ Ca.holdTo T 2 b 12 := by
    unfold Ca.holdTo
    rw [List.mem_map]
    exact ⟨i / 64, by rw [List.mem_filter]; exact ⟨by rw [List.mem_range]; omega, hh⟩, rfl⟩
  cases hq : Ca.holdTo T 2 b 12 with
  | nil => rw [hq] at h3; cases h3
  | cons a l => rfl
theorem Row1.xalloc {T : Ca.Tab} {n : Nat} (h : Row1 T) (hX : Xd.XInv T n) {e : Int} (he : e ≠ 1) (f k : Int) : Row1 (Xd.xallocT T n e f k) ∧ Ag T (Xd.xallocT T n e f k) := by
  unfold Xd.xallocT
  split
  · rename_i hc
    simp only [Bool.and_eq_true] at hc
    split
    · exact ⟨h, Ag.rfl' T⟩
    · rename_i hy
      have hy' : Xd.anyX T f k.toNat = false := by simpa using hy
      unfold Ca.addT
      split
      · refine h.put _ (env_ne hc.1 he) _ (fun i b hi h1 h2 h3 => ?_)
        unfold cov at h3
        dsimp only at h3
        have h4 := any_no hy' (b - f).toNat (by omega)
        rw [show f + ((b - f).toNat : Int) = b from by omega, hold_cov hX (mine_lt hi) h1 h2] at h4
        cases h4
      · exact ⟨h, Ag.rfl' T⟩
  · exact ⟨h, Ag.rfl' T⟩

/-- Environment 1 has the frame; the block. -/
def hasF (T : Ca.Tab) (f : Nat) : Prop := ∃ i, mine i ∧ (T i).x.is = true ∧ (T i).x.id = f
def hasX (C : Ca.Tab) (b : Nat) : Prop := ∃ i, mine i ∧ (C i).x.is = true ∧ cov (C i).x b
theorem hasF.sub {T T' : Ca.Tab} {f : Nat} (hs : Sub T T') (h : hasF T' f) : hasF T f := by
  obtain ⟨i, hi, h1, h2⟩ := h
  have e := hs i (mine_lt hi) h1
  rw [e] at h1 h2
  exact ⟨i, hi, h1, h2⟩
theorem hasX.sub {T T' : Ca.Tab} {f : Nat} (hs : Sub T T') (h : hasX T' f) : hasX T f := by
  obtain ⟨i, hi, h1, h2⟩ := h
  have e := hs i (mine_lt hi) h1
  rw [e] at h1 h2
  exact ⟨i, hi, h1, h2⟩
theorem hasF.ag {T T' : Ca.Tab} {f : Nat} (ha : Ag T T') (h : hasF T f) : hasF T' f := by
  obtain ⟨i, hi, h1, h2⟩ := h
  exact ⟨i, hi, by rw [ha i hi]; exact h1, by rw [ha i hi]; exact h2⟩
theorem hasX.ag {T T' : Ca.Tab} {f : Nat} (ha : Ag T T') (h : hasX T f) : hasX T' f := by
  obtain ⟨i, hi, h1, h2⟩ := h
  exact ⟨i, hi, by rw [ha i hi]; exact h1, by rw [ha i hi]; exact h2⟩
theorem has_get {T : Ca.Tab} {n : Nat} (hK : Ex.KInv T n) {s : Int} (h : (Ca.getT T 1 s).is = true) : ∃ g : Nat, (Ca.getT T 1 s).id = g ∧ g < n ∧ hasF T g := by
  have hb := hK.get h
  obtain ⟨i, hi, hp, hx, _⟩ := Ca.get_slot h
  obtain ⟨_, b1, b2, _⟩ := hb
  exact ⟨(Ca.getT T 1 s).id.toNat, by omega, by omega, i, (mine_iff hp).2 rfl, by rw [← hx]; exact h, by rw [← hx]; omega⟩
theorem has_frm {T : Ca.Tab} {n : Nat} (hK : Ex.KInv T n) {s r f : Int} (h : Ex.frm T 1 s r = some f) : ∃ g : Nat, f = g ∧ g < n ∧ hasF T g := by
  unfold Ex.frm at h
  split at h
  · rename_i hc
    simp only [Bool.and_eq_true] at hc
    injection h with h
    rw [← h]
    exact has_get hK hc.1
  · cases h
theorem has_hold {T : Ca.Tab} {n : Nat} (hK : Ex.KInv T n) {x : Int × Bool} (h : Ex.holdB T 1 x = true) : ∃ g : Nat, x.1 = g ∧ g < n ∧ hasF T g := by
  unfold Ex.holdB Ca.hasB at h
  simp only [Bool.and_eq_true] at h
  have h2 := h.2
  unfold Ca.hasN at h2
  rw [List.any_eq_true] at h2
  obtain ⟨s, hs, hh⟩ := h2
  simp only [List.mem_range] at hs
  have hm : mine (((1 : Nat) : Int).toNat * 64 + s) := by unfold mine; omega
  have hi := hit_is hh
  obtain ⟨k1, k2, k3, k4, _⟩ := hK.ok (mine_lt hm) hi
  simp only [Ca.hitB, Ca.coversB, Bool.and_eq_true, beq_iff_eq, decide_eq_true_eq] at hh
  exact ⟨x.1.toNat, by omega, by omega, _, hm, hi, by omega⟩
/-- Others do not have it. -/
theorem no_slot {T : Ca.Tab} {n : Nat} (h : Row1 T) (hK : Ex.KInv T n) {j : Nat} (hj : j < 768) (hn : ¬ mine j) (hi : (T j).x.is = true) (g : Nat) (hg : (g : Int) = (T j).x.id) : ¬ hasF T g := by
  rintro ⟨i, hm, h1, h2⟩
  obtain ⟨_, _, _, l1, _⟩ := hK.ok (mine_lt hm) h1
  obtain ⟨_, _, _, l2, _⟩ := hK.ok hj hi
  exact h.sole i j g hm hj hn h1 hi ⟨by omega, by omega⟩ ⟨by omega, by omega⟩
theorem no_frm {T : Ca.Tab} {n : Nat} (h : Row1 T) (hK : Ex.KInv T n) {e s r f : Int} (he : e ≠ 1) (hf : Ex.frm T e s r = some f) (g : Nat) (hg : (g : Int) = f) : ¬ hasF T g := by
  unfold Ex.frm at hf
  split at hf
  · rename_i hc
    simp only [Bool.and_eq_true] at hc
    injection hf with hf
    obtain ⟨i, hi, hp, hx, _⟩ := Ca.get_slot hc.1
    exact no_slot h hK hi (fun q => he ((mine_iff hp).1 q)) (by rw [← hx]; exact hc.1) g (by rw [← hx]; omega)
  · cases hf
theorem no_hold {T : Ca.Tab} {n : Nat} (h : Row1 T) (hK : Ex.KInv T n) {e : Nat} (he : e ≠ 1) (hl : e < 12) {x : Int × Bool} (hh : Ex.holdB T e x = true) (g : Nat) (hg : (g : Int) = x.1) : ¬ hasF T g := by
  unfold Ex.holdB Ca.hasB at hh
  simp only [Bool.and_eq_true] at hh
  have h2 := hh.2
  unfold Ca.hasN at h2
  rw [List.any_eq_true] at h2
  obtain ⟨s, hs, hq⟩ := h2
  simp only [List.mem_range] at hs
  have hm : ¬ mine ((e : Int).toNat * 64 + s) := by unfold mine; omega
  have hi := hit_is hq
  obtain ⟨k1, k2, k3, k4, _⟩ := hK.ok (by omega) hi
  simp only [Ca.hitB, Ca.coversB, Bool.and_eq_true, beq_iff_eq, decide_eq_true_eq] at hq
  exact no_slot h hK (by omega) hm hi g (by omega)
theorem has_may {T : Ca.Tab} {n : Nat} (hX : Xd.XInv T n) {s b r : Int} (h : Xd.mayX T 1 s b r = true) : ∃ g : Nat, b = g ∧ hasX T g := by
  have hb := Xd.mayX_in hX h
  simp only [Xd.mayX, Xd.hasR, Bool.and_eq_true, decide_eq_true_eq] at h
  obtain ⟨⟨h1, _⟩, h2, h3⟩ := h
  obtain ⟨i, hi, hp, hx, _⟩ := Ca.get_slot h1
  rw [hx] at h1 h2 h3
  exact ⟨b.toNat, by omega, i, (mine_iff hp).2 rfl, h1, by unfold cov; omega⟩
theorem no_may {T : Ca.Tab} (h : Row1 T) {e s b r : Int} (he : e ≠ 1) (hm : Xd.mayX T e s b r = true) (g : Nat) (hg : (g : Int) = b) : ¬ hasX T g := by
  simp only [Xd.mayX, Xd.hasR, Bool.and_eq_true, decide_eq_true_eq] at hm
  obtain ⟨⟨h1, _⟩, h2, h3⟩ := hm
  obtain ⟨j, hj, hp, hx, _⟩ := Ca.get_slot h1
  rw [hx] at h1 h2 h3
  rintro ⟨i, hi, q1, q2⟩
  exact h.sole i j g hi hj (fun q => he ((mine_iff hp).1 q)) q1 h1 q2 ⟨by omega, by omega⟩

theorem frame_set (vs : List Int) (f k g : Nat) (v : Int) (hk : k < 32) : Me.frameOf (vs.set (f * 32 + k) v) g = if g = f then (Me.frameOf vs g).set k v else Me.frameOf vs g := by
  unfold Me.frameOf
  apply List.ext_getElem?
  intro i
  by_cases e : g = f
  · subst e
    rw [if_pos rfl]
    simp only [List.getElem?_take, List.getElem?_drop, List.getElem?_set]
    by_cases hi : i < 32
    · rw [if_pos hi]
      by_cases e2 : k = i
      · subst e2
        rw [if_pos rfl, if_pos rfl]
        by_cases hl : g * 32 + k < vs.length
        · rw [if_pos hl, if_pos (by simp; omega)]
        · rw [if_neg hl, if_neg (by simp; omega)]
      · rw [if_neg (by omega), if_neg e2, if_pos hi]
    · rw [if_neg hi, if_neg (by omega), if_neg hi]
  · rw [if_neg e]
    simp only [List.getElem?_take, List.getElem?_drop]
    split
    · rw [List.getElem?_set_ne (by omega)]
    · rfl
theorem frame_putW (n : Nat) (vs : List Int) (f k v : Int) (g : Nat) : Me.frameOf (Me.putW n vs f k v) g = if (0 ≤ f ∧ f < n ∧ 0 ≤ k ∧ k < 32) ∧ (g : Int) = f then (Me.frameOf vs g).set k.toNat v else Me.frameOf vs g := by
  unfold Me.putW
  split
  · rename_i h
    rw [frame_set _ _ _ _ _ (by omega)]
    by_cases e : (g : Int) = f
    · rw [if_pos (by omega), if_pos ⟨h, e⟩]
    · rw [if_neg (by omega), if_neg (fun q => e q.2)]
  · rename_i h
    rw [if_neg (fun q => h q.1)]
theorem frame_putC (n : Nat) (vs : List Int) (t f : Int) (g : Nat) (hl : vs.length = n * 32) (hg : g < n) : Me.frameOf (Me.putC n vs t f) g = if (0 ≤ t ∧ t < n ∧ 0 ≤ f ∧ f < n) ∧ (g : Int) = t then Me.frameOf vs f.toNat else Me.frameOf vs g := by
  unfold Me.putC
  split
  · rename_i h
    have h2 : frameOf (splice vs (t.toNat * 32) (Me.frameOf vs f.toNat)) g = _ := frame_splice vs (Me.frameOf vs f.toNat) n t.toNat g hl (by omega) hg (Me.frameOf_length vs f.toNat n hl (by omega))
    refine Eq.trans h2 ?_
    by_cases e : (g : Int) = t
    · rw [if_pos (by omega), if_pos ⟨h, e⟩]
    · rw [if_neg (by omega), if_neg (fun q => e q.2)]
      rfl
  · rename_i h
    rw [if_neg (fun q => h q.1)]
theorem frame_putZ (n : Nat) (vs : List Int) (f : Int) (g : Nat) (hl : vs.length = n * 32) (hg : g < n) (hne : (g : Int) ≠ f) : Me.frameOf (Me.putZ n vs f) g = Me.frameOf vs g := by
  unfold Me.putZ
  split
  · rename_i h
    have h2 : frameOf (splice vs (f.toNat * 32) (List.replicate 32 0)) g = _ := frame_splice vs (List.replicate 32 0) n f.toNat g hl (by omega) hg (by simp)
    refine Eq.trans h2 ?_
    rw [if_neg (by omega)]
    rfl
  · rfl
theorem valR_same {n : Nat} {vs vs' : List Int} {f k : Int} (h : ∀ g : Nat, (g : Int) = f → Me.frameOf vs' g = Me.frameOf vs g) : Me.valR n vs' f k = Me.valR n vs f k := by
  unfold Me.valR
  split
  · rename_i hc
    have e0 := h f.toNat (by omega)
    have e1 := frameOf_getD vs f.toNat k.toNat (by omega)
    have e2 := frameOf_getD vs' f.toNat k.toNat (by omega)
    rw [← e1, ← e2]
    exact congrArg (fun l => List.getD l k.toNat 0) e0
  · rfl
theorem walk_at {f : Int → Option (Int × Bool)} {a : Int} {b : Bool} (h : (Mu.walkV f a b).2.2 = 0) : ∃ p x, f p = some x ∧ (Mu.walkV f a b).1 = x.1 := by
  unfold Mu.walkV at h ⊢
  split at h
  · simp at h
  · rename_i hc
    rw [if_neg hc]
    cases hf : f (a / 32) with
    | none => rw [hf] at h; simp at h
    | some x =>
      rw [hf] at h
      dsimp only at h ⊢
      refine ⟨_, x, hf, ?_⟩
      unfold Mu.reachV at h ⊢
      split at h
      · simp at h
      · rename_i h2
        rw [if_neg h2]
theorem look_get (l : Xd.Lines) (vs : List Int) (b i : Nat) : Xd.lookW (Xd.getL l vs b) vs i = Xd.lookW l vs i := by
  unfold Xd.getL
  by_cases e : i = b
  · subst e
    show ((Xd.Lines.set l i _ i).1).getD _ = _
    rw [Xd.Lines.set_same]
    rfl
  · show ((Xd.Lines.set l b _ i).1).getD _ = _
    rw [Xd.Lines.set_other _ _ _ _ e]
    rfl
theorem look_put (l : Xd.Lines) (vs ws : List Int) (b i : Nat) : Xd.lookW (Xd.putL l b ws) vs i = if i = b then ws else Xd.lookW l vs i := by
  unfold Xd.putL
  by_cases e : i = b
  · subst e
    rw [if_pos rfl]
    show ((Xd.Lines.set l i _ i).1).getD _ = _
    rw [Xd.Lines.set_same]
    rfl
  · rw [if_neg e]
    show ((Xd.Lines.set l b _ i).1).getD _ = _
    rw [Xd.Lines.set_other _ _ _ _ e]
    rfl

/-- What is so of a kernel. -/
structure Ok13 (S : XS) : Prop where
  k : Ex.KInv S.T S.n
  x : Xd.XInv S.C S.d
  vs : S.vs.length = S.n * 32
  ti : ∀ e, e < 12 → ∀ p x, S.F e p = some x → Ex.holdB S.T e x = true
theorem ok_of {w : World} {K : Nat} {L : XL} {S : XS} (h : ExoAt w K L S) (hi : XI S) : Ok13 S := ⟨h.mem.inv, h.disk.inv, h.mem.mem.len, hi.tidy⟩
/-- Two kernels in which environment 1 has the same, and nobody else has any of it. -/
structure ApR (S M : XS) : Prop where
  n : M.n = S.n
  E : M.E = S.E
  T : Ag S.T M.T
  F : M.F 1 = S.F 1
  vs : ∀ f : Nat, hasF S.T f → Me.frameOf M.vs f = Me.frameOf S.vs f
  rS : Row1 S.T
  rM : Row1 M.T
  C : Ag S.C M.C
  l : ∀ b : Nat, hasX S.C b → Xd.lookW M.l M.ds b = Xd.lookW S.l S.ds b
  xS : Row1 S.C
  xM : Row1 M.C
  qS : ∀ j, S.Q j = []
  qM : ∀ j, M.Q j = []
theorem ApR.mv {S M : XS} (h : ApR S M) (a b : Nat) : ApR (S.mv a) (M.mv b) := ⟨h.n, h.E, h.T, h.F, h.vs, h.rS, h.rM, h.C, h.l, h.xS, h.xM, h.qS, h.qM⟩

section
variable {S M : XS}
theorem seesF_ap (h : ApR S M) (oS : Ok13 S) : ∀ k, seesF M.n M.T M.vs 1 k = seesF S.n S.T S.vs 1 k
  | 0 => rfl
  | k + 1 => by
    unfold seesF slotF
    rw [seesF_ap h oS k, h.T.get, h.n]
    cases hi : (Ca.getT S.T 1 (k + 1 : Nat)).is with
    | false => rfl
    | true =>
      obtain ⟨g, hg, _, hf⟩ := has_get oS.k hi
      rw [if_pos rfl, if_pos rfl, hg]
      unfold frmW
      rw [show ((g : Int)).toNat = g from rfl, h.vs g hf]
theorem seesP_ap (h : ApR S M) : ∀ k, seesP M.F 1 k = seesP S.F 1 k
  | 0 => rfl
  | k + 1 => by
    unfold seesP pageP
    rw [seesP_ap h k]
    have e : Ex.kpageV M.F 1 k = Ex.kpageV S.F 1 k := by
      show (if Ca.isE 1 = true then M.F 1 k else none) = (if Ca.isE 1 = true then S.F 1 k else none)
      rw [h.F]
    rw [e]
theorem extW_ap {l l' : Xd.Lines} {ds ds' : List Int} {i : Nat} : ∀ k, (∀ b, i ≤ b → b < i + k → Xd.lookW l' ds' b = Xd.lookW l ds b) → extW l' ds' i k = extW l ds i k
  | 0, _ => rfl
  | k + 1, h => by
    unfold extW
    rw [extW_ap k (fun b h1 h2 => h b h1 (by omega)), h (i + k) (by omega) (by omega)]
theorem seesX_ap (h : ApR S M) (oS : Ok13 S) : ∀ k, seesX M.l M.ds M.C 1 k = seesX S.l S.ds S.C 1 k
  | 0 => rfl
  | k + 1 => by
    unfold seesX slotX
    rw [seesX_ap h oS k, h.C.get]
    cases hi : (Ca.getT S.C 1 (k + 1 : Nat)).is with
    | false => rfl
    | true =>
      obtain ⟨i, hi', hp, hx, _⟩ := Ca.get_slot hi
      obtain ⟨_, q1, q2, q3, _⟩ := oS.x.get hi
      rw [if_pos rfl, if_pos rfl, extW_ap _ (fun b h1 h2 => h.l b ⟨i, (mine_iff hp).2 rfl, by rw [← hx]; exact hi, ?_⟩)]
      rw [← hx]
      unfold cov
      omega
/-- It sees the same. -/
theorem ApR.sees (h : ApR S M) (oS : Ok13 S) : seesV M 1 = seesV S 1 := by
  unfold seesV
  rw [h.E, seesF_ap h oS, seesP_ap h, seesX_ap h oS, qat_none h.qM, qat_none h.qS]

/-- What another one does leaves it. -/
theorem ApR.other (h : ApR S M) (o : Ok13 M) {e : Int} (he : e ≠ 1) (r : Rqt) (hr : r.c < 18) (h1 : r.c ≠ 1) (h2 : r.c ≠ 11) (h3 : r.c ≠ 14) (a' : Option Addr) (c' : Nat) : ApR S (rawO M e r a' c').1 := by
  obtain ⟨c, a, b, d, vals⟩ := r
  dsimp only at hr h1 h2 h3
  have cs : c = 0 ∨ c = 2 ∨ c = 3 ∨ c = 4 ∨ c = 5 ∨ c = 6 ∨ c = 7 ∨ c = 8 ∨ c = 9 ∨ c = 10 ∨ c = 12 ∨ c = 13 ∨ c = 15 ∨ c = 16 ∨ c = 17 := by omega
  have fn : ∀ f : Nat, hasF S.T f → f < M.n := by
    rintro f ⟨i, hi, q1, q2⟩
    rw [← h.T i hi] at q1 q2
    obtain ⟨_, _, q3, _⟩ := o.k.ok (mine_lt hi) q1
    omega
  have hm : ∀ f : Nat, hasF S.T f → hasF M.T f := fun f hf => hf.ag h.T
  have hx : ∀ f : Nat, hasX S.C f → hasX M.C f := fun f hf => hf.ag h.C
  have ht : ∀ T', Ag M.T T' → Ex.tidyF T' M.F 1 = S.F 1 := by
    intro T' ha
    show Ex.tidy1 T' 1 (M.F 1) = _
    rw [ha.tidy]
    exact (tidy_same o.ti 1 (by omega)).trans h.F
  rcases cs with rfl | rfl | rfl | rfl | rfl | rfl | rfl | rfl | rfl | rfl | rfl | rfl | rfl | rfl | rfl
  · obtain ⟨r1, r2⟩ := h.rM.alloc o.k he
    refine ⟨h.n, h.E, h.T.trans r2, h.F, fun f hf => ?_, h.rS, r1, h.C, h.l, h.xS, h.xM, h.qS, h.qM⟩
    rw [← h.vs f hf]
    show Me.frameOf (Ex.allocV M.T M.n e M.vs) f = _
    unfold Ex.allocV
    split
    · split
      · rfl
      · rename_i hfr
        split
        · refine frame_putZ _ _ _ _ o.vs (fn f hf) (fun q => ?_)
          obtain ⟨i, hi, q1, q2⟩ := hm f hf
          rcases Ex.freeI_cases M.T M.n with ⟨z, _⟩ | ⟨z, _, z2, z3, _⟩
          · omega
          · rw [Ex.cnt_zero] at z3
            exact z3 i (mine_lt hi) q1 (by omega)
        · rfl
    · rfl
  · have ha := h.rM.drop_ag he a
    exact ⟨h.n, h.E, h.T.trans ha, ht _ ha, h.vs, h.rS, h.rM.drop e a, h.C, h.l, h.xS, h.xM, h.qS, h.qM⟩
  · have ha := h.rM.rev_ag e a
    exact ⟨h.n, h.E, h.T.trans ha, ht _ ha, h.vs, h.rS, h.rM.rev e a, h.C, h.l, h.xS, h.xM, h.qS, h.qM⟩
  · show ApR S (if d ≤ 1 then ({ M with vs := M.vs, T := M.T, F := Ex.kmapF M.T M.F e a b (d == 1) }, ([] : List Int), Ex.kmapR M.T e a b (d == 1)) else (M, [], 101)).1
    split
    · refine ⟨h.n, h.E, h.T, ?_, h.vs, h.rS, h.rM, h.C, h.l, h.xS, h.xM, h.qS, h.qM⟩
      show Ex.kmapF M.T M.F e a b (d == 1) 1 = _
      unfold Ex.kmapF
      split
      · rename_i hc
        simp only [Bool.and_eq_true] at hc
        cases hf : Ex.frm M.T e b (Ex.prt (d == 1)) with
        | none => exact h.F
        | some f =>
          show Ex.setF M.F e.toNat _ 1 = _
          rw [Ex.setF_other _ _ _ _ (fun q => env_ne hc.1 he q.symm)]
          exact h.F
      · exact h.F
    · exact h
  · refine ⟨h.n, h.E, h.T, ?_, h.vs, h.rS, h.rM, h.C, h.l, h.xS, h.xM, h.qS, h.qM⟩
    show Ex.kunmapF M.F e a 1 = _
    unfold Ex.kunmapF
    split
    · rename_i hc
      rw [Ex.setF_other _ _ _ _ (fun q => env_ne hc he q.symm)]
      exact h.F
    · exact h.F
  · exact h
  · refine ⟨h.n, h.E, h.T, h.F, fun f hf => ?_, h.rS, h.rM, h.C, h.l, h.xS, h.xM, h.qS, h.qM⟩
    rw [← h.vs f hf]
    show Me.frameOf (Ex.kstoreV M.n M.vs M.F e _ _) f = _
    unfold Ex.kstoreV
    split
    · rename_i hE
      split
      · rename_i hw
        obtain ⟨p, x, hp, hq⟩ := walk_at hw
        rw [frame_putW, if_neg]
        rintro ⟨_, q⟩
        rw [hq] at q
        exact no_hold h.rM o.k (env_ne hE he) (isE_lt hE) (o.ti _ (isE_lt hE) p x hp) f q (hm f hf)
      · rfl
    · rfl
  · refine ⟨h.n, h.E, h.T, h.F, fun f hf => ?_, h.rS, h.rM, h.C, h.l, h.xS, h.xM, h.qS, h.qM⟩
    rw [← h.vs f hf]
    show Me.frameOf (Ex.kcopyV M.T M.n M.vs e a b) f = _
    unfold Ex.kcopyV
    split
    · rename_i f1 g1 hf1 hg1
      rw [frame_putC _ _ _ _ _ o.vs (fn f hf), if_neg]
      rintro ⟨_, q⟩
      exact no_frm h.rM o.k he hf1 f q (hm f hf)
    · rfl
  · exact h
  · refine ⟨h.n, h.E, h.T, h.F, fun f hf => ?_, h.rS, h.rM, h.C, h.l, h.xS, h.xM, h.qS, h.qM⟩
    rw [← h.vs f hf]
    show Me.frameOf (Ex.kwriteV M.T M.n M.vs e a b _) f = _
    unfold Ex.kwriteV
    split
    · rfl
    · rename_i f1 hf1
      rw [frame_putW, if_neg]
      rintro ⟨_, q⟩
      exact no_frm h.rM o.k he hf1 f q (hm f hf)
  · have e1 : (rawO M e ⟨12, a, b, d, vals⟩ a' c').1 = M := by
      show (match Ip.qat M.Q e with
        | [] => (M, ([] : List Int), (106 : Int))
        | m :: _ => ({ M with Q := Ip.recvQ M.Q e }, m.fr :: m.ws, 0)).1 = M
      rw [qat_none h.qM e]
    rw [e1]
    exact h
  · obtain ⟨r1, r2⟩ := h.xM.xalloc o.x he a b
    exact ⟨h.n, h.E, h.T, h.F, h.vs, h.rS, h.rM, h.C.trans r2, h.l, h.xS, r1, h.qS, h.qM⟩
  · exact ⟨h.n, h.E, h.T, h.F, h.vs, h.rS, h.rM, h.C.trans (h.xM.rev_ag e a), h.l, h.xS, h.xM.rev e a, h.qS, h.qM⟩
  · refine ⟨h.n, h.E, h.T, h.F, h.vs, h.rS, h.rM, h.C, fun f hf => ?_, h.xS, h.xM, h.qS, h.qM⟩
    rw [← h.l f hf]
    show Xd.lookW (Xd.getLl M.C M.l M.ds e a b) M.ds f = _
    unfold Xd.getLl
    split
    · exact look_get _ _ _ _
    · rfl
  · refine ⟨h.n, h.E, h.T, h.F, h.vs, h.rS, h.rM, h.C, fun f hf => ?_, h.xS, h.xM, h.qS, h.qM⟩
    rw [← h.l f hf]
    show Xd.lookW (Xd.putLl M.C M.l e a b vals) M.ds f = _
    unfold Xd.putLl
    split
    · rename_i hmy
      split
      · rw [look_put, if_neg]
        intro q
        have hb := Xd.mayX_in o.x hmy
        exact no_may h.xM he hmy f (by omega) (hx f hf)
      · rfl
    · rfl

/-- What it does itself comes out the same. -/
theorem ApR.own (h : ApR S M) (oS : Ok13 S) (oM : Ok13 M) (r : Rqt) (hr : r.c < 18) (h0 : r.c ≠ 0) (h1 : r.c ≠ 1) (h2 : r.c ≠ 11) (h3 : r.c ≠ 12) (h4 : r.c ≠ 13) (h5 : r.c ≠ 14) (a' a'' : Option Addr) (c' c'' : Nat) :
    ApR (rawO S 1 r a' c').1 (rawO M 1 r a'' c'').1 ∧ (rawO M 1 r a'' c'').2 = (rawO S 1 r a' c').2 := by
  obtain ⟨c, a, b, d, vals⟩ := r
  dsimp only at hr h0 h1 h2 h3 h4 h5
  have cs : c = 2 ∨ c = 3 ∨ c = 4 ∨ c = 5 ∨ c = 6 ∨ c = 7 ∨ c = 8 ∨ c = 9 ∨ c = 10 ∨ c = 15 ∨ c = 16 ∨ c = 17 := by omega
  have fn : ∀ f : Nat, hasF S.T f → f < S.n := by
    rintro f ⟨i, hi, q1, q2⟩
    obtain ⟨_, _, q3, _⟩ := oS.k.ok (mine_lt hi) q1
    omega
  have E1 : Int.toNat 1 = 1 := rfl
  have pw : ∀ f k v : Int, (∀ g : Nat, (g : Int) = f → hasF S.T g) → ∀ g : Nat, hasF S.T g → Me.frameOf (Me.putW M.n M.vs f k v) g = Me.frameOf (Me.putW S.n S.vs f k v) g := by
    intro f k v hf g hg
    rw [frame_putW, frame_putW, h.n, h.vs g hg]
  have pg : ∀ a b, (Mu.walkV (S.F 1) a b).2.2 = 0 → ∀ g : Nat, (g : Int) = (Mu.walkV (S.F 1) a b).1 → hasF S.T g := by
    intro a b hw g hg
    obtain ⟨p, x, hp, hq⟩ := walk_at hw
    obtain ⟨g', e1, _, e2⟩ := has_hold oS.k (oS.ti 1 (by omega) p x hp)
    have : g = g' := by omega
    subst this
    exact e2
  rcases cs with rfl | rfl | rfl | rfl | rfl | rfl | rfl | rfl | rfl | rfl | rfl | rfl
  · have ha := h.T.drop h.rS h.rM a
    refine ⟨⟨h.n, h.E, ha, ?_, fun f hf => h.vs f (hf.sub (sub_drop _ _ _)), h.rS.drop 1 a, h.rM.drop 1 a, h.C, h.l, h.xS, h.xM, h.qS, h.qM⟩, ?_⟩
    · show Ex.tidy1 (Ca.dropT M.T 1 a) 1 (M.F 1) = Ex.tidy1 (Ca.dropT S.T 1 a) 1 (S.F 1)
      rw [ha.tidy, h.F]
    · show (([] : List Int), Ca.dropR M.T 1 a) = ([], Ca.dropR S.T 1 a)
      unfold Ca.dropR
      rw [h.T.get]
  · have ha := h.T.rev h.rS h.rM 1 a 1 a
    refine ⟨⟨h.n, h.E, ha, ?_, fun f hf => h.vs f (hf.sub (sub_rev _ _ _)), h.rS.rev 1 a, h.rM.rev 1 a, h.C, h.l, h.xS, h.xM, h.qS, h.qM⟩, ?_⟩
    · show Ex.tidy1 (Ex.revT M.T 1 a) 1 (M.F 1) = Ex.tidy1 (Ex.revT S.T 1 a) 1 (S.F 1)
      rw [ha.tidy, h.F]
    · show (([] : List Int), Ex.revR M.T 1 a) = ([], Ex.revR S.T 1 a)
      unfold Ex.revR
      rw [h.T.get]
  · have eR : ∀ z, Ex.kmapR M.T 1 a b z = Ex.kmapR S.T 1 a b z := fun z => by unfold Ex.kmapR; rw [h.T.frm]
    have eF : ∀ z, Ex.kmapF M.T M.F 1 a b z 1 = Ex.kmapF S.T S.F 1 a b z 1 := by
      intro z
      unfold Ex.kmapF
      rw [h.T.frm]
      split
      · cases hf : Ex.frm S.T 1 b (Ex.prt z) with
        | none => exact h.F
        | some f =>
          show Ex.setF M.F (Int.toNat 1) (Mu.mapF (M.F (Int.toNat 1)) a (f, z)) 1 = Ex.setF S.F (Int.toNat 1) (Mu.mapF (S.F (Int.toNat 1)) a (f, z)) 1
          rw [E1, Ex.setF_same, Ex.setF_same, h.F]
      · exact h.F
    have eO : ∀ (Z : XS) (p : Option Addr) (q : Nat), rawO Z 1 ⟨4, a, b, d, vals⟩ p q = if d ≤ 1 then ({ Z with vs := Z.vs, T := Z.T, F := Ex.kmapF Z.T Z.F 1 a b (d == 1) }, [], Ex.kmapR Z.T 1 a b (d == 1)) else (Z, [], 101) := fun _ _ _ => rfl
    rw [eO, eO]
    by_cases hd : d ≤ 1
    · rw [if_pos hd, if_pos hd]
      exact ⟨⟨h.n, h.E, h.T, eF _, h.vs, h.rS, h.rM, h.C, h.l, h.xS, h.xM, h.qS, h.qM⟩, by rw [eR]⟩
    · rw [if_neg hd, if_neg hd]
      exact ⟨h, rfl⟩
  · refine ⟨⟨h.n, h.E, h.T, ?_, h.vs, h.rS, h.rM, h.C, h.l, h.xS, h.xM, h.qS, h.qM⟩, ?_⟩
    · show Ex.kunmapF M.F 1 a 1 = Ex.kunmapF S.F 1 a 1
      unfold Ex.kunmapF
      split
      · rw [E1, Ex.setF_same, Ex.setF_same, h.F]
      · exact h.F
    · show (([] : List Int), Ex.kunmapR M.F 1 a) = ([], Ex.kunmapR S.F 1 a)
      unfold Ex.kunmapR
      rw [E1, h.F]
  · have e1 : Ex.kloadR M.n M.vs M.F 1 (v0 ⟨6, a, b, d, vals⟩) = Ex.kloadR S.n S.vs S.F 1 (v0 ⟨6, a, b, d, vals⟩) := by
      unfold Ex.kloadR
      rw [E1, h.F, h.n]
      split
      · split
        · rename_i hw
          rw [valR_same (fun g hg => h.vs g (pg _ _ hw g hg))]
        · rfl
      · rfl
    refine ⟨h, ?_⟩
    show (ansW (Ex.kloadR M.n M.vs M.F 1 (v0 ⟨6, a, b, d, vals⟩)).2 [(Ex.kloadR M.n M.vs M.F 1 (v0 ⟨6, a, b, d, vals⟩)).1], (Ex.kloadR M.n M.vs M.F 1 (v0 ⟨6, a, b, d, vals⟩)).2) = (ansW (Ex.kloadR S.n S.vs S.F 1 (v0 ⟨6, a, b, d, vals⟩)).2 [(Ex.kloadR S.n S.vs S.F 1 (v0 ⟨6, a, b, d, vals⟩)).1], (Ex.kloadR S.n S.vs S.F 1 (v0 ⟨6, a, b, d, vals⟩)).2)
    rw [e1]
  · refine ⟨⟨h.n, h.E, h.T, h.F, fun f hf => ?_, h.rS, h.rM, h.C, h.l, h.xS, h.xM, h.qS, h.qM⟩, ?_⟩
    · show Me.frameOf (Ex.kstoreV M.n M.vs M.F 1 _ _) f = Me.frameOf (Ex.kstoreV S.n S.vs S.F 1 _ _) f
      unfold Ex.kstoreV
      rw [E1, h.F]
      split
      · split
        · rename_i hw
          exact pw _ _ _ (pg _ _ hw) f hf
        · exact h.vs f hf
      · exact h.vs f hf
    · show (([] : List Int), Ex.kstoreR M.n M.F 1 _) = ([], Ex.kstoreR S.n S.F 1 _)
      unfold Ex.kstoreR
      rw [E1, h.F, h.n]
  · refine ⟨⟨h.n, h.E, h.T, h.F, fun f hf => ?_, h.rS, h.rM, h.C, h.l, h.xS, h.xM, h.qS, h.qM⟩, ?_⟩
    · show Me.frameOf (Ex.kcopyV M.T M.n M.vs 1 a b) f = Me.frameOf (Ex.kcopyV S.T S.n S.vs 1 a b) f
      unfold Ex.kcopyV
      rw [h.T.frm, h.T.frm]
      split
      · rename_i f1 g1 hf1 hg1
        obtain ⟨g2, rfl, _, hg2⟩ := has_frm oS.k hg1
        rw [frame_putC _ _ _ _ _ oM.vs (by rw [h.n]; exact fn f hf), frame_putC _ _ _ _ _ oS.vs (fn f hf), h.n, h.vs f hf, show ((g2 : Int)).toNat = g2 from rfl, h.vs g2 hg2]
      · exact h.vs f hf
    · show (([] : List Int), Ex.kcopyR M.T M.n 1 a b) = ([], Ex.kcopyR S.T S.n 1 a b)
      unfold Ex.kcopyR
      rw [h.T.frm, h.T.frm, h.n]
  · have e1 : Ex.kreadR M.T M.n M.vs 1 a b = Ex.kreadR S.T S.n S.vs 1 a b := by
      unfold Ex.kreadR
      rw [h.T.frm, h.n]
      split
      · rfl
      · rename_i f1 hf1
        obtain ⟨g2, rfl, _, hg2⟩ := has_frm oS.k hf1
        rw [valR_same (fun g hg => h.vs g (by have : g = g2 := by omega
                                              subst this
                                              exact hg2))]
    refine ⟨h, ?_⟩
    show (ansW (Ex.kreadR M.T M.n M.vs 1 a b).2 [(Ex.kreadR M.T M.n M.vs 1 a b).1], (Ex.kreadR M.T M.n M.vs 1 a b).2) = (ansW (Ex.kreadR S.T S.n S.vs 1 a b).2 [(Ex.kreadR S.T S.n S.vs 1 a b).1], (Ex.kreadR S.T S.n S.vs 1 a b).2)
    rw [e1]
  · refine ⟨⟨h.n, h.E, h.T, h.F, fun f hf => ?_, h.rS, h.rM, h.C, h.l, h.xS, h.xM, h.qS, h.qM⟩, ?_⟩
    · show Me.frameOf (Ex.kwriteV M.T M.n M.vs 1 a b _) f = Me.frameOf (Ex.kwriteV S.T S.n S.vs 1 a b _) f
      unfold Ex.kwriteV
      rw [h.T.frm]
      split
      · exact h.vs f hf
      · rename_i f1 hf1
        obtain ⟨g2, rfl, _, hg2⟩ := has_frm oS.k hf1
        exact pw _ _ _ (fun g hg => by
          have : g = g2 := by omega
          subst this
          exact hg2) f hf
    · show (([] : List Int), Ex.kwriteR M.T M.n 1 a b) = ([], Ex.kwriteR S.T S.n 1 a b)
      unfold Ex.kwriteR
      rw [h.T.frm, h.n]
  · refine ⟨⟨h.n, h.E, h.T, h.F, h.vs, h.rS, h.rM, h.C.rev h.xS h.xM 1 a 1 a, fun f hf => h.l f (hf.sub (sub_rev S.C 1 a)), h.xS.rev 1 a, h.xM.rev 1 a, h.qS, h.qM⟩, ?_⟩
    show (([] : List Int), Xd.revR M.C 1 a) = ([], Xd.revR S.C 1 a)
    unfold Xd.revR
    rw [h.C.get]
  · refine ⟨⟨h.n, h.E, h.T, h.F, h.vs, h.rS, h.rM, h.C, fun f hf => ?_, h.xS, h.xM, h.qS, h.qM⟩, ?_⟩
    · show Xd.lookW (Xd.getLl M.C M.l M.ds 1 a b) M.ds f = Xd.lookW (Xd.getLl S.C S.l S.ds 1 a b) S.ds f
      unfold Xd.getLl
      rw [h.C.may]
      split
      · rw [look_get, look_get]
        exact h.l f hf
      · exact h.l f hf
    · show (Xd.getWw M.C M.l M.ds 1 a b, Xd.getRr M.C 1 a b) = (Xd.getWw S.C S.l S.ds 1 a b, Xd.getRr S.C 1 a b)
      unfold Xd.getWw Xd.getRr
      rw [h.C.may]
      split
      · rename_i hmy
        obtain ⟨g, rfl, hg⟩ := has_may oS.x hmy
        rw [show ((g : Int)).toNat = g from rfl, h.l g hg]
      · rfl
  · refine ⟨⟨h.n, h.E, h.T, h.F, h.vs, h.rS, h.rM, h.C, fun f hf => ?_, h.xS, h.xM, h.qS, h.qM⟩, ?_⟩
    · show Xd.lookW (Xd.putLl M.C M.l 1 a b vals) M.ds f = Xd.lookW (Xd.putLl S.C S.l 1 a b vals) S.ds f
      unfold Xd.putLl
      rw [h.C.may]
      split
      · split
        · rw [look_put, look_put, h.l f hf]
        · exact h.l f hf
      · exact h.l f hf
    · show (([] : List Int), Xd.putRr M.C 1 a b vals.length) = ([], Xd.putRr S.C 1 a b vals.length)
      unfold Xd.putRr
      rw [h.C.may]
/-- The number of a call, as it came in. -/
theorem ApR.otherS (h : ApR S M) (o : Ok13 M) {e : Int} (he : e ≠ 1) {ws : List Int} (hu : U64s ws) (hw : ∀ x rest, ws = x :: rest → x ≠ 1 ∧ x ≠ 11 ∧ x ≠ 14) (a' : Option Addr) (c' : Nat) : ApR S (rawS M e ws a' c').1 := by
  unfold rawS
  split
  · cases hr : reqOf ws with
    | none => exact h
    | some r =>
      obtain ⟨x, rest, hx, hc⟩ := req_c hr
      obtain ⟨w1, w2, w3⟩ := hw x rest hx
      have hx0 := hu x (by rw [hx]; exact List.mem_cons_self ..)
      exact h.other o he r (req_ok hr hu).c (by omega) (by omega) (by omega) a' c'
  · exact h
theorem ApR.ownS (h : ApR S M) (oS : Ok13 S) (oM : Ok13 M) {ws : List Int} (hu : U64s ws) (hw : ∀ x rest, ws = x :: rest → x ≠ 0 ∧ x ≠ 1 ∧ x ≠ 11 ∧ x ≠ 12 ∧ x ≠ 13 ∧ x ≠ 14) (a' a'' : Option Addr) (c' c'' : Nat) :
    ApR (rawS S 1 ws a' c').1 (rawS M 1 ws a'' c'').1 ∧ (rawS M 1 ws a'' c'').2 = (rawS S 1 ws a' c').2 := by
  unfold rawS
  rw [h.E]
  split
  · cases hr : reqOf ws with
    | none => exact ⟨h, rfl⟩
    | some r =>
      obtain ⟨x, rest, hx, hc⟩ := req_c hr
      obtain ⟨w0, w1, w2, w3, w4, w5⟩ := hw x rest hx
      have hx0 := hu x (by rw [hx]; exact List.mem_cons_self ..)
      exact h.own oS oM r (req_ok hr hu).c (by omega) (by omega) (by omega) (by omega) (by omega) (by omega) a' a'' c' c''
  · exact ⟨h, rfl⟩
end

/-- Nobody but environment 1 has anything. -/
structure Only1 (T : Ca.Tab) : Prop where
  root : ∀ j, mine j → (T j).s = 0
  none : ∀ j, j < 768 → ¬ mine j → (T j).x.is = false
theorem Only1.row {T : Ca.Tab} (h : Only1 T) : Row1 T := ⟨h.root, fun i j b hi hj hn h1 h2 => by rw [h.none j hj hn] at h2; cases h2⟩
theorem Only1.put {T : Ca.Tab} (h : Only1 T) (H : Ca.Hd) (hs : H.s = 0) : Only1 (Ca.putT T 1 H) := by
  unfold Ca.putT
  split
  · rename_i hf
    refine ⟨fun j hj => ?_, fun j hj hn => ?_⟩
    · by_cases e : j = 1 * 64 + Ca.freeT T 1
      · subst e; rw [Ca.Tab.set_same]; exact hs
      · rw [Ca.Tab.set_other _ _ _ _ e]; exact h.root j hj
    · rw [Ca.Tab.set_other _ _ _ _ (fun e => hn (by unfold mine; omega))]
      exact h.none j hj hn
  · exact h
theorem Only1.zero : Only1 (fun _ => Ca.Hd.no) := ⟨fun _ _ => rfl, fun _ _ _ => rfl⟩
structure Start13 (S : XS) : Prop where
  T : Only1 S.T
  C : Only1 S.C
  Q : ∀ j, S.Q j = []
theorem Start13.ap {S : XS} (h : Start13 S) : ApR S S := ⟨rfl, rfl, Ag.rfl' _, rfl, fun _ _ => rfl, h.T.row, h.T.row, Ag.rfl' _, fun _ _ => rfl, h.C.row, h.C.row, h.Q, h.Q⟩
theorem req_zero : reqOf [0] = some ⟨0, 0, 0, 0, []⟩ := by kernel_rfl
theorem req_ext : reqOf [13, 2, 2] = some ⟨13, 2, 2, 0, []⟩ := by kernel_rfl
theorem raw_zero (S : XS) (a' : Option Addr) (c' : Nat) : rawS S 1 [0] a' c' = rawS S 1 [0] none 0 := by
  unfold rawS
  rw [req_zero]
  rfl
theorem raw_ext (S : XS) (a' : Option Addr) (c' : Nat) : rawS S 1 [13, 2, 2] a' c' = rawS S 1 [13, 2, 2] none 0 := by
  unfold rawS
  rw [req_ext]
  rfl
theorem Start13.zero {S : XS} (h : Start13 S) : Start13 (rawS S 1 [0] none 0).1 := by
  unfold rawS
  rw [req_zero]
  split
  · refine ⟨?_, h.C, h.Q⟩
    show Only1 (Ex.allocT S.T S.n 1)
    unfold Ex.allocT
    split
    · split
      · exact h.T
      · exact h.T.put _ rfl
    · exact h.T
  · exact h
theorem Start13.ext {S : XS} (h : Start13 S) : Start13 (rawS S 1 [13, 2, 2] none 0).1 := by
  unfold rawS
  rw [req_ext]
  split
  · refine ⟨h.T, ?_, h.Q⟩
    show Only1 (Xd.xallocT S.C S.d 1 2 2)
    unfold Xd.xallocT
    split
    · split
      · exact h.C
      · unfold Ca.addT
        split
        · exact h.C.put _ rfl
        · exact h.C
    · exact h.C
  · exact h
end Go.Proofs.YtbhpafgoofkkmaaGreatDoor
