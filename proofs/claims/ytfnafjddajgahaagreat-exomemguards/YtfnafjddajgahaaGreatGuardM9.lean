/- What others that have no capability for a frame leave of it (no program). -/
import Derived.Test.YtfnafjddajgahaaGreatDoD9
namespace Go.Proofs.YtfnafjddajgahaaGreat
open Go.RowKit Ca
set_option linter.unusedVariables false

/-- Slot 1 of environment 0 has frame 0, made by nobody, and no other slot has it. -/
structure TI (T : Tab) : Prop where
  t0 : T 0 = ⟨⟨1, 0, 1, 7⟩, 0, 0⟩
  ids : ∀ j, 0 < j → j < 768 → (T j).x.is = true → (T j).x.id ≠ 0
/-- No page is frame 0, and its words are as they were written. -/
structure GI (v : Int) (vs : List Int) (T : Tab) (F : Pages) : Prop where
  ti : TI T
  pgs : ∀ e, e < 12 → ∀ p x, F e p = some x → x.1 ≠ 0
  wds : ∀ k, k < 32 → vs.getD k 0 = if k = 7 then v else 0

theorem plOf_env {i : Nat} {e s : Int} (h : plOf i = (e, s)) (he : e ≠ 0) : 0 < i := by
  rcases Nat.eq_zero_or_pos i with q | q
  · subst q
    simp [plOf] at h
    exact absurd h.1.symm he
  · exact q
theorem TI.get {T : Tab} (h : TI T) {e s : Int} (he : e ≠ 0) (hi : (getT T e s).is = true) : (getT T e s).id ≠ 0 := by
  obtain ⟨i, hi', hp, hx, _⟩ := get_slot hi
  rw [hx] at hi ⊢
  exact h.ids i (plOf_env hp he) hi' hi
theorem TI.frm {T : Tab} (h : TI T) {e s r f : Int} (he : e ≠ 0) (hf : frm T e s r = some f) : f ≠ 0 := by
  have hid := frm_id hf
  unfold Go.Proofs.YtfnafjddajgahaaGreat.frm at hf
  split at hf
  · rename_i hc
    simp only [Bool.and_eq_true] at hc
    rw [← hid]
    exact h.get he hc.1
  · cases hf
theorem TI.cnt0 {T : Tab} (h : TI T) : cnt T 768 0 ≠ 0 := by
  intro hc
  rw [cnt_zero] at hc
  refine hc 0 (by omega) ?_ ?_
  · rw [h.t0]; rfl
  · rw [h.t0]
theorem TI.freeI {T : Tab} (h : TI T) (n : Nat) : Go.Proofs.YtfnafjddajgahaaGreat.freeI T n ≠ 0 := by
  rcases freeI_cases T n with ⟨h1, _⟩ | ⟨f, hf, he, h1, _⟩
  · rw [h1]; decide
  · rw [he]
    intro e
    have : f = 0 := by omega
    subst this
    exact h.cnt0 h1
theorem TI.put {T : Tab} (h : TI T) (m : Nat) (H : Hd) (hH : H.x.id ≠ 0) : TI (putT T m H) := by
  unfold putT
  split
  · rename_i hf
    have hne : m * 64 + freeT T m ≠ 0 := by
      intro e
      have := freeT_free T m hf
      rw [e, h.t0] at this
      cases this
    refine ⟨by rw [Tab.set_other _ _ _ _ (fun e => hne e.symm)]; exact h.t0, fun j h0 hj hi => ?_⟩
    by_cases e : j = m * 64 + freeT T m
    · subst e; rw [Tab.set_same]; exact hH
    · rw [Tab.set_other _ _ _ _ e] at hi ⊢
      exact h.ids j h0 hj hi
  · exact h
theorem TI.alloc {T : Tab} (h : TI T) (n : Nat) (e : Int) : TI (allocT T n e) := by
  unfold allocT
  split
  · split
    · exact h
    · exact h.put _ _ (h.freeI n)
  · exact h
theorem TI.give {T : Tab} (h : TI T) {e : Int} (he : e ≠ 0) (s q r : Int) : TI (giveT T e s q r) := by
  unfold giveT
  split
  · rename_i hg
    simp only [giveOK, Bool.and_eq_true] at hg
    split
    · exact h.put _ _ (h.get he hg.1)
    · exact h
  · exact h
theorem TI.drop {T : Tab} (h : TI T) {e : Int} (he : e ≠ 0) (s : Int) : TI (dropT T e s) := by
  cases hi : (getT T e s).is with
  | false =>
    unfold dropT
    rw [hi]
    exact h
  | true =>
    obtain ⟨i, hi', hp, hx, hJ⟩ := get_slot hi
    have hpos := plOf_env hp he
    have hat := fun j hj => dropT_at hi hp hJ j hj
    refine ⟨?_, fun j h0 hj hji => ?_⟩
    · rw [hat 0 (by omega), if_neg (by omega), hp, if_neg]
      · exact h.t0
      · rw [h.t0]
        intro hc
        rw [ofB_iff] at hc
        exact he hc.1.symm
    · rw [hat j hj] at hji ⊢
      split at hji
      · cases hji
      · rename_i hne
        rw [if_neg hne]
        split at hji
        · rename_i ho
          rw [if_pos ho]
          exact h.ids j h0 hj hji
        · rename_i ho
          rw [if_neg ho]
          exact h.ids j h0 hj hji
theorem TI.gone {T : Tab} (h : TI T) {e : Int} (he : e ≠ 0) : ∀ k, TI (goneT T e k)
  | 0 => h
  | k + 1 => (h.gone he k).drop he _
theorem TI.rev {T : Tab} (h : TI T) (e s : Int) : TI (revT T e s) := by
  cases hi : (getT T e s).is with
  | false =>
    unfold revT
    rw [hi]
    exact h
  | true =>
    obtain ⟨i, _, hp, _⟩ := get_slot hi
    have hs : s ≠ 0 := by have := plOf_pos i; rw [hp] at this; exact this
    obtain ⟨N, hN⟩ := rev_N T (e, s) hs
    have hr := revEnd T (e, s) hs (N + 1) hN
    rw [revT_is hi hN]
    refine ⟨?_, fun j h0 hj hji => ?_⟩
    · rcases hr.tab 0 (by omega) with q | ⟨_, _, q, _⟩
      · rw [q]; exact h.t0
      · rw [h.t0] at q
        exact absurd rfl q
    · rcases revS_or T (e, s) j (N + 1) with q | q
      · rw [q] at hji ⊢
        exact h.ids j h0 hj hji
      · rw [q] at hji
        cases hji

theorem wd_write {vs : List Int} {n : Nat} {f k u : Int} (hf : f ≠ 0) {i : Nat} (hi : i < 32) : (Me.putW n vs f k u).getD i 0 = vs.getD i 0 := by
  unfold Me.putW
  split
  · rename_i hc
    have : f.toNat * 32 + k.toNat ≠ i := by omega
    simp [List.getD_eq_getElem?_getD, List.getElem?_set_ne this]
  · rfl
theorem wd_zero {vs : List Int} {n : Nat} {f : Int} (hl : vs.length = n * 32) (hf : f ≠ 0) {i : Nat} (hi : i < 32) : (Me.putZ n vs f).getD i 0 = vs.getD i 0 := by
  unfold Me.putZ
  split
  · rename_i hc
    rw [Me.splice_getD _ _ _ (by simp; omega), if_neg (by omega)]
  · rfl
theorem wd_copy {vs : List Int} {n : Nat} {f g : Int} (hl : vs.length = n * 32) (hf : f ≠ 0) {i : Nat} (hi : i < 32) : (Me.putC n vs f g).getD i 0 = vs.getD i 0 := by
  unfold Me.putC
  split
  · rename_i hc
    have h2 := Me.frameOf_length vs g.toNat n hl (by omega)
    rw [Me.splice_getD _ _ _ (by rw [h2]; omega), if_neg (by omega)]
  · rfl
theorem walk_page {f : Int → Option (Int × Bool)} {a : Int} {b : Bool} (h : (Mu.walkV f a b).2.2 = 0) : ∃ p x, f p = some x ∧ (Mu.walkV f a b).1 = x.1 := by
  unfold Mu.walkV at h ⊢
  split at h
  · simp at h
  · rename_i hc
    rw [if_neg hc]
    cases hf : f (a / 32) with
    | none => rw [hf] at h; simp at h
    | some x =>
      rw [hf] at h
      dsimp only at h ⊢
      refine ⟨_, x, hf, ?_⟩
      unfold Mu.reachV at h ⊢
      split at h
      · simp at h
      · rename_i h2
        rw [if_neg h2]

section
variable {v : Int} {vs : List Int} {T : Tab} {F : Pages}
theorem GI.tidy (h : GI v vs T F) {T' : Tab} (ht : TI T') : GI v vs T' (tidyF T' F) :=
  ⟨ht, fun e he p x hx => h.pgs e he p x (tidy1_some hx), h.wds⟩
theorem GI.step (h : GI v vs T F) (n : Nat) (hl : vs.length = n * 32) (d : Dd) (he : d.env ≠ 0) : GI v (stV n d vs T F) (stT n d T) (stF d T F) := by
  obtain ⟨k, e, s, q, r, b, a, u⟩ := d
  dsimp only at he
  by_cases hk : k < 0 ∨ 10 < k
  · have e1 : stV n ⟨k, e, s, q, r, b, a, u⟩ vs T F = vs := by
      unfold stV
      dsimp only
      rw [if_neg (by omega), if_neg (by omega), if_neg (by omega), if_neg (by omega)]
    have e2 : stT n ⟨k, e, s, q, r, b, a, u⟩ T = goneT T e 64 := by
      unfold stT
      dsimp only
      rw [if_neg (by omega), if_neg (by omega), if_neg (by omega), if_neg (by omega), if_pos hk]
    have e3 : stF ⟨k, e, s, q, r, b, a, u⟩ T F = tidyF (goneT T e 64) F := by
      unfold stF
      dsimp only
      rw [if_neg (by omega), if_neg (by omega), if_neg (by omega), if_neg (by omega), if_pos hk]
    rw [e1, e2, e3]
    exact h.tidy (h.ti.gone he 64)
  · have hc : k = 0 ∨ k = 1 ∨ k = 2 ∨ k = 3 ∨ k = 4 ∨ k = 5 ∨ k = 6 ∨ k = 7 ∨ k = 8 ∨ k = 9 ∨ k = 10 := by omega
    clear hk
    rcases hc with rfl | rfl | rfl | rfl | rfl | rfl | rfl | rfl | rfl | rfl | rfl
    · refine ⟨h.ti.alloc n e, h.pgs, fun i hi => ?_⟩
      show (allocV T n e vs).getD i 0 = _
      rw [← h.wds i hi]
      unfold allocV
      split
      · split
        · rfl
        · split
          · exact wd_zero hl (h.ti.freeI n) hi
          · rfl
      · rfl
    · exact ⟨h.ti.give he s q r, h.pgs, h.wds⟩
    · exact h.tidy (h.ti.drop he s)
    · exact h.tidy (h.ti.rev e s)
    · refine ⟨h.ti, fun i hi p x hx => ?_, h.wds⟩
      replace hx : kmapF T F e r s b i p = some x := hx
      unfold kmapF at hx
      split at hx
      · cases hf : frm T e s (prt b) with
        | none =>
          rw [hf] at hx
          exact h.pgs i hi p x hx
        | some f =>
          rw [hf] at hx
          dsimp only at hx
          unfold setF at hx
          split at hx
          · rename_i hie
            unfold Mu.mapF at hx
            rw [hie] at hi
            split at hx
            · dsimp only at hx
              split at hx
              · cases hx
                exact h.ti.frm he hf
              · exact h.pgs _ hi p x hx
            · exact h.pgs _ hi p x hx
          · exact h.pgs i hi p x hx
      · exact h.pgs i hi p x hx
    · refine ⟨h.ti, fun i hi p x hx => ?_, h.wds⟩
      replace hx : kunmapF F e r i p = some x := hx
      unfold kunmapF at hx
      split at hx
      · unfold setF at hx
        split at hx
        · rename_i hie
          rw [hie] at hi
          exact h.pgs _ hi p x (unmapF_some hx)
        · exact h.pgs i hi p x hx
      · exact h.pgs i hi p x hx
    · exact h
    · refine ⟨h.ti, h.pgs, fun i hi => ?_⟩
      show (kstoreV n vs F e a u).getD i 0 = _
      rw [← h.wds i hi]
      unfold kstoreV
      split
      · rename_i hie
        split
        · rename_i hw
          obtain ⟨p, x, hp, hq⟩ := walk_page hw
          obtain ⟨m, rfl, hm⟩ := isE_nat hie
          refine wd_write ?_ hi
          rw [hq]
          exact h.pgs _ (by omega) p x hp
        · rfl
      · rfl
    · refine ⟨h.ti, h.pgs, fun i hi => ?_⟩
      show (kcopyV T n vs e s r).getD i 0 = _
      rw [← h.wds i hi]
      unfold kcopyV
      split
      · rename_i f g hf hg
        exact wd_copy hl (h.ti.frm he hf) hi
      · rfl
    · exact h
    · refine ⟨h.ti, h.pgs, fun i hi => ?_⟩
      show (kwriteV T n vs e s r u).getD i 0 = _
      rw [← h.wds i hi]
      unfold kwriteV
      split
      · rfl
      · rename_i f hf
        exact wd_write (h.ti.frm he hf) hi
theorem GI.read (h : GI v vs T F) (n : Nat) (hn : 1 ≤ n) {k : Nat} (hk : k < 32) : kreadR T n vs 0 1 k = (if k = 7 then v else 0, 0) := by
  have hg : getT T 0 1 = ⟨1, 0, 1, 7⟩ := by
    have := getT_nat T 0 0 (by omega) (by omega)
    rw [show 0 * 64 + 0 = 0 from rfl, h.ti.t0] at this
    exact this
  have hf : frm T 0 1 1 = some 0 := by
    unfold frm
    rw [hg]
    rfl
  have hc : (0 : Int) ≤ 0 ∧ (0 : Int) < (n : Nat) ∧ 0 ≤ (k : Int) ∧ (k : Int) < 32 := by omega
  unfold kreadR
  rw [hf]
  unfold Me.valR Me.errW
  dsimp only
  rw [if_pos hc, if_pos hc, ← h.wds k hk]
  simp
end

/-- The slots when environment 0 has had a frame. -/
def Tg : Tab := T0.set 0 ⟨⟨1, 0, 1, 7⟩, 0, 0⟩
theorem gd_alloc : allocA T0 6 0 = 1 ∧ allocR T0 6 0 = 0 ∧ allocT T0 6 0 = Tg ∧ allocV T0 6 0 (List.replicate 192 0) = List.replicate 192 0 := by
  have h := freeI_T0 6 (by omega)
  have e : Int.toNat 0 = 0 := rfl
  have hE : isE 0 = true := rfl
  have hf : freeT T0 0 = 0 := by kernel_rfl
  unfold allocA allocR allocT allocV
  rw [h, hE, e, if_pos rfl, if_pos rfl, if_pos rfl, if_pos rfl, if_neg (by decide), if_neg (by decide), if_neg (by decide), if_neg (by decide)]
  unfold putA putE putT
  rw [hf, if_pos (by decide), if_pos (by decide), if_pos (by decide), if_pos (by decide)]
  exact ⟨rfl, rfl, rfl, by kernel_rfl⟩
theorem gd_write (v : Int) : kwriteR Tg 6 0 1 7 = 0 ∧ kwriteV Tg 6 (List.replicate 192 0) 0 1 7 v = (List.replicate 192 0).set 7 v := by
  have hf : frm Tg 0 1 2 = some 0 := by kernel_rfl
  unfold kwriteR kwriteV
  rw [hf]
  exact ⟨by kernel_rfl, by kernel_rfl⟩
theorem gd_words (v : Int) (N : Nat) (hN : 32 ≤ N) (k : Nat) (hk : k < 32) : ((List.replicate N (0 : Int)).set 7 v).getD k 0 = if k = 7 then v else 0 := by
  rw [List.getD_eq_getElem?_getD, List.getElem?_set]
  by_cases e : 7 = k
  · subst e
    rw [if_pos rfl, if_pos (by simp; omega), if_pos rfl]
    rfl
  · rw [if_neg e, if_neg (fun q => e q.symm), List.getElem?_replicate]
    split <;> rfl
theorem gd_start (v : Int) : GI v ((List.replicate 192 0).set 7 v) Tg F0 := by
  refine ⟨⟨rfl, fun j h0 hj hi => ?_⟩, fun e he p x hx => (by cases hx), fun k hk => ?_⟩
  · unfold Tg at hi
    rw [Tab.set_other _ _ _ _ (by omega)] at hi
    cases hi
  · exact gd_words v 192 (by decide) k hk
theorem RkAt.feet {w : World} {X : Nat} {Q : RLay} {n : Nat} {vs : List Int} {L : List Ce} {last : Int} {F : Pages} {R : Nat} (h : RkAt w X Q n vs L last F) (hr : RLow Q n R) : ∀ b, RFoot X Q n b → R ≤ b := by
  have h1 := hr.l1
  have h2 := h.lo1
  have h3 := h.cX
  rintro b (e | e | ⟨i, hi, e⟩)
  · omega
  · omega
  · rw [e]; exact hr.l3 i hi
end Go.Proofs.YtfnafjddajgahaaGreat
