/- What Gone of all leaves, and what Alloc makes of it (no program). -/
import Derived.Test.YtfnafjddajgahaaGreatExF
namespace Go.Proofs.YtfnafjddajgahaaGreat
open Go.RowKit Ca
set_option linter.unusedVariables false

theorem KInv.free {T : Tab} {n : Nat} (h : KInv T n) {j : Nat} (hj : j < 768) (hi : (T j).x.is = false) : (T j).x = Cp.no := by
  rcases h j hj with e | e
  · exact e
  · rw [e.is] at hi; cases hi
theorem drop_x {T : Tab} {n : Nat} (h : KInv T n) {m s : Nat} (hm : m < 12) (hs : s < 64) {j : Nat} (hj : j < 768) : (dropT T m ((s + 1 : Nat) : Int) j).x = if j = m * 64 + s then Cp.no else (T j).x := by
  have hJ : dropJ m ((s + 1 : Nat) : Int) = m * 64 + s := by simp [dropJ]
  have hg := getT_nat T m s hm hs
  unfold dropT
  rw [hJ, hg]
  cases hi : (T (m * 64 + s)).x.is with
  | true =>
    rw [if_pos rfl]
    by_cases e : j = m * 64 + s
    · subst e; rw [Tab.set_same, if_pos rfl]
    · rw [Tab.set_other _ _ _ _ e, hoTo_x, if_neg e]
  | false =>
    rw [if_neg (by exact Bool.false_ne_true)]
    by_cases e : j = m * 64 + s
    · subst e; rw [if_pos rfl]; exact h.free hj hi
    · rw [if_neg e]
theorem gone_x {T : Tab} {n : Nat} (h : KInv T n) {m : Nat} (hm : m < 12) : ∀ k, k ≤ 64 → ∀ j, j < 768 → (goneT T m k j).x = if m * 64 ≤ j ∧ j < m * 64 + k then Cp.no else (T j).x
  | 0, _, j, hj => by
    rw [if_neg (by omega)]
    rfl
  | k + 1, hk, j, hj => by
    have ih := gone_x h hm k (by omega) j hj
    have hd := drop_x (h.gone m k) hm (s := k) (by omega) hj
    show (dropT (goneT T m k) m ((k + 1 : Nat) : Int) j).x = _
    rw [hd, ih]
    by_cases e : j = m * 64 + k
    · rw [if_pos e, if_pos (by omega)]
    · rw [if_neg e]
      by_cases e2 : m * 64 ≤ j ∧ j < m * 64 + k
      · rw [if_pos e2, if_pos (by omega)]
      · rw [if_neg e2, if_neg (by omega)]
/-- The slots of the environments under m are free. -/
def Cl (T : Tab) (m : Nat) : Prop := ∀ j, j < 768 → j < m * 64 → (T j).x = Cp.no
theorem Cl.zero (T : Tab) : Cl T 0 := fun j _ h => by omega
theorem Cl.step {T : Tab} {n m : Nat} (h : Cl T m) (hk : KInv T n) (hm : m < 12) : Cl (goneT T m 64) (m + 1) := by
  intro j hj hl
  rw [gone_x hk hm 64 (Nat.le_refl _) j hj]
  by_cases e : m * 64 ≤ j ∧ j < m * 64 + 64
  · rw [if_pos e]
  · rw [if_neg e]
    exact h j hj (by omega)
/-- Environment 5 has the frames under i, in its first slots; nobody has another one. -/
def St5 (T : Tab) (i : Nat) : Prop := ∀ j, j < 768 → (T j).x = if 320 ≤ j ∧ j < 320 + i then ⟨1, ((j - 320 : Nat) : Int), 1, 7⟩ else Cp.no
theorem St5.start {T : Tab} (h : Cl T 12) : St5 T 0 := fun j hj => by rw [if_neg (by omega)]; exact h j hj (by omega)
theorem St5.free {T : Tab} {i : Nat} (h : St5 T i) {m : Nat} (hm : i ≤ m) : cnt T 768 (m : Int) = 0 := by
  rw [cnt_zero]
  intro j hj hi he
  rw [h j hj] at hi he
  by_cases c : 320 ≤ j ∧ j < 320 + i
  · rw [if_pos c] at he
    dsimp only at he
    omega
  · rw [if_neg c] at hi
    cases hi
theorem St5.taken {T : Tab} {i : Nat} (h : St5 T i) (h4 : i ≤ 4) {m : Nat} (hm : m < i) : cnt T 768 (m : Int) ≠ 0 := by
  intro hc
  rw [cnt_zero] at hc
  have hx := h (320 + m) (by omega)
  rw [if_pos (by omega)] at hx
  refine hc (320 + m) (by omega) ?_ ?_
  · rw [hx]; rfl
  · rw [hx]
    dsimp only
    omega
theorem St5.freeI {T : Tab} {i n : Nat} (h : St5 T i) (h4 : i ≤ 4) (hn : i < n) : Go.Proofs.YtfnafjddajgahaaGreat.freeI T n = (i : Int) := by
  rcases freeI_cases T n with ⟨_, h1⟩ | ⟨f, hf, he, h1, h2⟩
  · exact absurd (h.free (Nat.le_refl i)) (h1 i hn)
  · have : f = i := by
      rcases Nat.lt_trichotomy f i with q | q | q
      · exact absurd h1 (h.taken h4 q)
      · exact q
      · exact absurd (h.free (Nat.le_refl i)) (h2 i q)
    rw [he, this]
theorem St5.none {T : Tab} (h : St5 T 4) : Go.Proofs.YtfnafjddajgahaaGreat.freeI T 4 = -1 := by
  rcases freeI_cases T 4 with ⟨h1, _⟩ | ⟨f, hf, he, h1, h2⟩
  · exact h1
  · exact absurd h1 (h.taken (Nat.le_refl 4) hf)
theorem St5.freeT {T : Tab} {i : Nat} (h : St5 T i) (h4 : i ≤ 4) : Ca.freeT T 5 = i := by
  refine freeT_is (by omega) ?_ (fun j hj => ?_)
  · rw [h (5 * 64 + i) (by omega), if_neg (by omega)]; rfl
  · rw [h (5 * 64 + j) (by omega), if_pos (by omega)]; rfl
theorem isE5 : isE 5 = true := rfl
theorem cl_alloc {T : Tab} {i : Nat} (h : St5 T i) (h4 : i < 4) (vs : List Int) : allocA T 4 5 = ((i + 1 : Nat) : Int) ∧ allocR T 4 5 = 0 ∧ St5 (allocT T 4 5) (i + 1) ∧ allocV T 4 5 vs = Me.putZ 4 vs i := by
  have hf := h.freeI (n := 4) (by omega) h4
  have ht := h.freeT (by omega)
  have e : Int.toNat 5 = 5 := rfl
  have hn : ¬ ((i : Int) < 0) := by omega
  have hi : i < 64 := by omega
  unfold allocA allocR allocT allocV
  rw [hf, isE5, e, if_pos rfl, if_pos rfl, if_pos rfl, if_pos rfl, if_neg hn, if_neg hn, if_neg hn, if_neg hn]
  unfold putA putE putT
  rw [ht, if_pos hi, if_pos hi, if_pos hi, if_pos hi]
  refine ⟨rfl, rfl, fun j hj => ?_, rfl⟩
  by_cases c : j = 5 * 64 + i
  · subst c
    have e1 : 5 * 64 + i - 320 = i := by omega
    rw [Tab.set_same, if_pos (by omega), e1]
  · rw [Tab.set_other _ _ _ _ c, h j hj]
    by_cases c2 : 320 ≤ j ∧ j < 320 + i
    · rw [if_pos c2, if_pos (by omega)]
    · rw [if_neg c2, if_neg (by omega)]
theorem cl_last {T : Tab} (h : St5 T 4) (vs : List Int) : allocA T 4 5 = 0 ∧ allocR T 4 5 = 106 := by
  have hf := h.none
  unfold allocA allocR
  rw [hf, isE5, if_pos rfl, if_pos rfl, if_pos (by decide), if_pos (by decide)]
  exact ⟨rfl, rfl⟩
theorem cl_frm {T : Tab} {i : Nat} (h : St5 T (i + 1)) (h4 : i < 4) : frm T 5 ((i + 1 : Nat) : Int) 1 = some (i : Int) := by
  have hg : getT T 5 ((i + 1 : Nat) : Int) = ⟨1, i, 1, 7⟩ := by
    have := getT_nat T 5 i (by omega) (by omega)
    rw [show ((5 : Nat) : Int) = 5 from rfl] at this
    have e1 : 5 * 64 + i - 320 = i := by omega
    rw [this, h (5 * 64 + i) (by omega), if_pos (by omega), e1]
  have hi : Cp.is ⟨1, i, 1, 7⟩ = true := by simp [Cp.is]
  have ha : among 1 7 = true := by decide +kernel
  unfold frm
  rw [hg, hi]
  dsimp only
  rw [ha]
  rfl
theorem cl_read {T : Tab} {i : Nat} {vs : List Int} (h : St5 T (i + 1)) (h4 : i < 4) (hl : vs.length = 4 * 32) {k : Nat} (hk : k < 32) : kreadR T 4 (Me.putZ 4 vs i) 5 ((i + 1 : Nat) : Int) k = (0, 0) := by
  have hc : 0 ≤ (i : Int) ∧ (i : Int) < (4 : Nat) := by omega
  have hc2 : 0 ≤ (i : Int) ∧ (i : Int) < (4 : Nat) ∧ 0 ≤ (k : Int) ∧ (k : Int) < 32 := by omega
  unfold kreadR
  rw [cl_frm h h4]
  unfold Me.putZ Me.valR Me.errW
  dsimp only
  rw [if_pos hc, if_pos hc2, if_pos hc2]
  have hz : (Me.splice vs ((i : Int).toNat * 32) (List.replicate 32 0)).getD ((i : Int).toNat * 32 + (k : Int).toNat) 0 = 0 := by
    rw [Int.toNat_natCast, Int.toNat_natCast]
    simp only [Me.splice, List.getD_eq_getElem?_getD]
    have hlen : (vs.take (i * 32)).length = i * 32 := by rw [List.length_take]; omega
    rw [List.append_assoc, List.getElem?_append_right (by rw [hlen]; omega), hlen, show i * 32 + k - i * 32 = k from by omega, List.getElem?_append_left (by simpa using hk), List.getElem?_replicate, if_pos hk]
    rfl
  rw [hz]
theorem cl_left {T : Tab} (h : St5 T 0) : leftN T 4 = 4 := by
  have hc : ∀ m : Nat, cnt T 768 (m : Int) = 0 := fun m => h.free (Nat.zero_le m)
  have h0 : leftN T 0 = 0 := rfl
  have h1 : leftN T 1 = leftN T 0 + 1 := by
    have := leftN_succ T 0
    rwa [if_pos (hc 0)] at this
  have h2 : leftN T 2 = leftN T 1 + 1 := by
    have := leftN_succ T 1
    rwa [if_pos (hc 1)] at this
  have h3 : leftN T 3 = leftN T 2 + 1 := by
    have := leftN_succ T 2
    rwa [if_pos (hc 2)] at this
  have h4 : leftN T 4 = leftN T 3 + 1 := by
    have := leftN_succ T 3
    rwa [if_pos (hc 3)] at this
  omega
end Go.Proofs.YtfnafjddajgahaaGreat
