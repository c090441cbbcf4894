/- Package signals: lowest of those to be handled, drop, next. -/
/- Package signals: the signals in the heap; atFirst, New, process. -/
import Derived.Test.YtnlhedpfhgoncabGreatDoorSgMTSgA
set_option linter.all false
namespace Go.Proofs.YtnlhedpfhgoncabGreatDoor
open Go.RowKit
namespace Ow
end Ow
namespace Sg
open Ow
set_option maxHeartbeats 1000000 in
theorem lowestH_at (b o : Nat) (p : Sg) (row : Array Value) (w : World) (hb : SB w b row) (hr : SgR w row o p) (hq : p.q < 65536) :
    Calls Tryz.prog 131 #[.func (.func 132) #[.pointer (some ⟨b, o, none⟩)] #[]] w fun x w' => x = .returned (.int .i64 (lowS (hdB p) 15 1 : Nat)) ∧ ∃ q, w' = w.drewN q := by
  have HB : Hid (SB w b row) := hb
  have HR : Hid (SgR w row o p) := hr
  clear hb hr
  go_enter Tryz.func131, Tryz.ntmps131
  go_wp2
  go_loopw [3] (fun s wr => ∃ (k : Nat), k ≤ 15 ∧ s = .int .i64 ((k + 1 : Nat) : Int) ∧ lowS (hdB p) 15 1 = lowS (hdB p) (15 - k) (k + 1) ∧ ∃ q, wr = w.drewN q) (fun s _ => 16 - (intOf s).toNat)
  case atStart => exact ⟨0, by omega, rfl, rfl, 0, rfl⟩
  case round =>
    obtain ⟨k, hk, rfl, hl, q, rfl⟩ := hrel
    have HL : Hid (lowS (hdB p) 15 1 = lowS (hdB p) (15 - k) (k + 1)) := hl
    clear hl
    by_cases hlt : k < 15
    · have i1 : decide (((k + 1 : Nat) : Int) ≤ 15) = true := decide_eq_true (by omega)
      have hP := isHandled_at b o (k + 1) p row (w.drewN q) (HB.out.drewN q) (HR.out.kept (drewN_kw ⟨q, rfl⟩)) hq (by omega) (by omega)
      have HT : Hid (lowS (hdB p) (15 - k) (k + 1) = if hdB p (k + 1) then k + 1 else lowS (hdB p) (15 - (k + 1)) (k + 1 + 1)) := by
        show _ = _
        rw [show 15 - k = (15 - (k + 1)) + 1 by omega]
        rfl
      cases hx : hdB p (k + 1) with
      | true =>
        rw [hx] at hP HT
        have HL2 : Hid (lowS (hdB p) 15 1 = k + 1) := HL.out.trans HT.out
        clear hx
        generalize hn : (k + 1 : Nat) = n at *
        clear hn
        go_wp2_with fail
        refine hP.mono ?_
        rintro x w1 ⟨rfl, r, hw⟩
        rw [hw]
        clear hw w1 hP
        go_wp2
        go_ret
        exact ⟨by rw [HL2.out]; rfl, q + r, rfl⟩
      | false =>
        rw [hx] at hP HT
        have HL2 : Hid (lowS (hdB p) 15 1 = lowS (hdB p) (15 - (k + 1)) (k + 1 + 1)) := HL.out.trans HT.out
        have hs : IntKind.i64.wrap (((k + 1 : Nat) : Int) + 1) = ((k + 1 + 1 : Nat) : Int) := by simp [IntKind.wrap, IntKind.bits, IntKind.signed]; omega
        obtain ⟨n, hn⟩ : ∃ n : Nat, n = k + 1 := ⟨_, rfl⟩
        rw [← hn] at hP hs i1 ⊢
        have HN : Hid (n = k + 1) := hn
        clear hx hn
        go_wp2_with fail
        refine hP.mono ?_
        rintro x w1 ⟨rfl, r, hw⟩
        rw [hw]
        clear hw w1 hP
        go_wp2
        go_roundw
        case rel => exact ⟨k + 1, by omega, by rw [HN.out]; exact congrArg _ (by omega), HL2.out, q + r, rfl⟩
        case measure => have := HN.out; simp [intOf]; omega
    · have i1 : decide (((k + 1 : Nat) : Int) ≤ 15) = false := decide_eq_false (by omega)
      have HL2 : Hid (lowS (hdB p) 15 1 = 0) := by
        show _ = _
        rw [HL.out, show 15 - k = 0 by omega]
        rfl
      generalize hn : (k + 1 : Nat) = n at *
      clear hn
      go_wp2
      go_ret
      exact ⟨by rw [HL2.out]; rfl, q, rfl⟩
theorem lowS_is (f : Nat → Bool) : ∀ k i, 1 ≤ i → (lowS f k i = 0 ∧ ∀ j, i ≤ j → j < i + k → f j = false) ∨ (i ≤ lowS f k i ∧ lowS f k i < i + k ∧ f (lowS f k i) = true ∧ ∀ j, i ≤ j → j < lowS f k i → f j = false)
  | 0, i, _ => Or.inl ⟨rfl, fun j h1 h2 => by omega⟩
  | k + 1, i, hi => by
    unfold lowS
    cases hf : f i with
    | true => exact Or.inr ⟨Nat.le_refl _, by show i < _; omega, hf, fun j h1 (h2 : j < i) => by omega⟩
    | false =>
      rcases lowS_is f k (i + 1) (by omega) with ⟨h1, h2⟩ | ⟨h1, h2, h3, h4⟩
      · refine Or.inl ⟨h1, fun j h3 h4 => ?_⟩
        by_cases e : j = i
        · rw [e]; exact hf
        · exact h2 j (by omega) (by omega)
      · refine Or.inr ⟨?_, ?_, h3, fun j h5 h6 => ?_⟩
        · show i ≤ lowS f k (i + 1); omega
        · show lowS f k (i + 1) < _; omega
        · by_cases e : j = i
          · rw [e]; exact hf
          · exact h4 j (by omega) h6
theorem nx_skip {h : List Int} {n : Nat} (hi : h.getD (n - 1) 0 = ign) : ∀ k i q, QOk q → 1 ≤ i → i ≤ n → n < i + k → i + k ≤ 16 → q.testBit n = true → (∀ j, i ≤ j → j < n → q.testBit j = false) → nxF h k i (clr q n) = nxF h k i q
  | 0, i, q, hq, _, h1, h2, _, _, _ => by omega
  | k + 1, i, q, hq, h0, h1, h2, h16, hn, hl => by
    by_cases e : i = n
    · subst e
      have hc := clr_bit hq.1 (i := i) (by omega) i
      rw [if_pos rfl] at hc
      unfold nxF
      rw [hc, hn, if_neg (by simp), if_pos rfl, if_pos hi]
    · have hb := hl i (Nat.le_refl _) (by omega)
      have hc := clr_bit hq.1 (i := n) (by omega) i
      rw [if_neg e, hb] at hc
      unfold nxF
      rw [hc, hb, if_neg (by simp), if_neg (by simp)]
      exact nx_skip hi k (i + 1) q hq (by omega) (by omega) (by omega) (by omega) hn (fun j h3 h4 => hl j (by omega) h4)
theorem nx_take {h : List Int} {n : Nat} (hi : h.getD (n - 1) 0 ≠ ign) : ∀ k i q, i ≤ n → n < i + k → q.testBit n = true → (∀ j, i ≤ j → j < n → q.testBit j = false) → nxF h k i q = (n, clr q n)
  | 0, i, q, h1, h2, _, _ => by omega
  | k + 1, i, q, h1, h2, hn, hl => by
    by_cases e : i = n
    · subst e
      unfold nxF
      rw [if_pos hn, if_neg hi]
    · unfold nxF
      rw [hl i (Nat.le_refl _) (by omega), if_neg (by simp)]
      exact nx_take hi k (i + 1) q (by omega) (by omega) hn (fun j h3 h4 => hl j (by omega) h4)
theorem nx_none {h : List Int} : ∀ k i q, (∀ j, i ≤ j → j < i + k → q.testBit j = false) → nxF h k i q = (0, q)
  | 0, i, q, _ => rfl
  | k + 1, i, q, hl => by
    unfold nxF
    rw [hl i (Nat.le_refl _) (by omega), if_neg (by simp)]
    exact nx_none k (i + 1) q (fun j h3 h4 => hl j (by omega) (by omega))
theorem hdB_bit {p : Sg} {n : Nat} (h : hdB p n = true) : p.q.testBit n = true := by
  unfold hdB at h
  rw [Bool.and_eq_true] at h
  exact h.1
def msr (n : Nat) : Nat := if n = 0 then 0 else 16 - n
theorem intOf_nat (k : Nat) : (intOf (.int .i64 (k : Int))).toNat = k := by simp [intOf]
/-- What the search for the next one keeps: p with other pending ones, q. -/
structure NxI (p : Sg) (s n q : Nat) : Prop where
  qok : QOk q
  low : n = lowS q.testBit 15 1
  hnd : s = lowS (hdB (p.q' q)) 15 1
  nx : nxF p.h 15 1 q = nxF p.h 15 1 p.q
theorem NxI.first {p : Sg} (h : QOk p.q) : NxI p (lowS (hdB p) 15 1) (lowS p.q.testBit 15 1) p.q := ⟨h, rfl, rfl, rfl⟩
theorem NxI.pos {p : Sg} {s n q : Nat} (h : NxI p s n q) (hne : n ≠ s) : 1 ≤ n ∧ n ≤ 15 ∧ q.testBit n = true ∧ (∀ j, 1 ≤ j → j < n → q.testBit j = false) ∧ p.h.getD (n - 1) 0 = ign := by
  rcases lowS_is q.testBit 15 1 (by omega) with ⟨h1, h2⟩ | ⟨h1, h2, h3, h4⟩
  · exfalso
    rcases lowS_is (hdB (p.q' q)) 15 1 (by omega) with ⟨k1, _⟩ | ⟨k1, k2, k3, _⟩
    · exact hne (by rw [h.low, h1, h.hnd, k1])
    · have k4 := hdB_bit k3
      rw [show (p.q' q).q = q from rfl, h2 _ k1 k2] at k4
      cases k4
  · rw [← h.low] at h1 h2 h3 h4
    refine ⟨h1, by omega, h3, h4, ?_⟩
    rcases Classical.em (p.h.getD (n - 1) 0 = ign) with e | e
    · exact e
    · exfalso
      have hn : hdB (p.q' q) n = true := by
        unfold hdB
        rw [show (p.q' q).q = q from rfl, show (p.q' q).h = p.h from rfl, h3, bne_iff_ne.2 e]
        rfl
      rcases lowS_is (hdB (p.q' q)) 15 1 (by omega) with ⟨k1, k2⟩ | ⟨k1, k2, k3, k4⟩
      · rw [k2 n h1 h2] at hn; cases hn
      · rw [← h.hnd] at k1 k2 k3 k4
        have q1 : ¬ n < s := fun x => by rw [k4 n h1 x] at hn; cases hn
        have q2 : ¬ s < n := fun x => by
          unfold hdB at k3
          rw [show (p.q' q).q = q from rfl, h4 s k1 x] at k3
          cases k3
        omega
theorem lowS_ext {f g : Nat → Bool} : ∀ k i, (∀ j, i ≤ j → j < i + k → f j = g j) → lowS f k i = lowS g k i
  | 0, _, _ => rfl
  | k + 1, i, h => by
    unfold lowS
    rw [h i (Nat.le_refl _) (by omega), lowS_ext k (i + 1) (fun j h1 h2 => h j (by omega) (by omega))]
theorem NxI.drop {p : Sg} {s n q : Nat} (h : NxI p s n q) (hne : n ≠ s) : NxI p s (lowS (clr q n).testBit 15 1) (clr q n) ∧ (lowS (clr q n).testBit 15 1 = 0 ∨ n < lowS (clr q n).testBit 15 1) := by
  obtain ⟨h1, h2, h3, h4, h5⟩ := h.pos hne
  have hc := fun j => clr_bit h.qok.1 (i := n) (by omega) j
  refine ⟨⟨h.qok.clr (by omega), rfl, ?_, ?_⟩, ?_⟩
  · rw [h.hnd]
    apply lowS_ext
    intro j _ _
    unfold hdB
    rw [show (p.q' q).q = q from rfl, show (p.q' q).h = p.h from rfl, show (p.q' (clr q n)).q = clr q n from rfl, show (p.q' (clr q n)).h = p.h from rfl, hc j]
    by_cases e : j = n
    · rw [if_pos e, e, h5]
      simp
    · rw [if_neg e]
  · rw [nx_skip h5 15 1 q h.qok (by omega) h1 (by omega) (by omega) h3 h4]
    exact h.nx
  · rcases lowS_is (clr q n).testBit 15 1 (by omega) with ⟨k1, _⟩ | ⟨k1, k2, k3, _⟩
    · exact Or.inl k1
    · right
      rw [hc] at k3
      by_cases e : lowS (clr q n).testBit 15 1 = n
      · rw [if_pos e] at k3; cases k3
      · rw [if_neg e] at k3
        rcases Nat.lt_or_ge n (lowS (clr q n).testBit 15 1) with x | x
        · exact x
        · rw [h4 _ k1 (by omega)] at k3; cases k3
/-- What next answers and leaves. -/
def NxE (p : Sg) (s q : Nat) : Prop := p.nx = (s, if s = 0 then q else clr q s) ∧ QOk q ∧ s ≤ 15
theorem NxI.fin {p : Sg} {s q : Nat} (h : NxI p s s q) (h9 : p.q.testBit 9 = false) (hk : p.k.isSome = false) : NxE p s q := by
  unfold NxE Sg.nx
  rw [h9, if_neg (by simp), hk, if_neg (by simp), ← h.nx]
  rcases lowS_is q.testBit 15 1 (by omega) with ⟨h1, h2⟩ | ⟨h1, h2, h3, h4⟩
  · rw [← h.low] at h1
    rw [h1, if_pos rfl, nx_none 15 1 q h2]
    exact ⟨rfl, h.qok, by omega⟩
  · rw [← h.low] at h1 h2 h3 h4
    rw [if_neg (by omega)]
    refine ⟨?_, h.qok, by omega⟩
    refine nx_take ?_ 15 1 q h1 h2 h3 h4
    rcases lowS_is (hdB (p.q' q)) 15 1 (by omega) with ⟨k1, _⟩ | ⟨_, _, k3, _⟩
    · rw [← h.hnd] at k1; omega
    · rw [← h.hnd] at k3
      unfold hdB at k3
      rw [Bool.and_eq_true, bne_iff_ne] at k3
      exact k3.2
theorem NxE.nine {p : Sg} (h : QOk p.q) (h9 : p.q.testBit 9 = true) : NxE p 9 p.q := by
  unfold NxE Sg.nx
  rw [h9, if_pos rfl, if_neg (by omega)]
  exact ⟨rfl, h, by omega⟩
theorem NxE.inside {p : Sg} (h : QOk p.q) (h9 : p.q.testBit 9 = false) (hk : p.k.isSome = true) : NxE p 0 p.q := by
  unfold NxE Sg.nx
  rw [h9, if_neg (by simp), hk, if_pos rfl, if_pos rfl]
  exact ⟨rfl, h, by omega⟩
theorem SgR.pend {w w' : World} {row : Array Value} {o : Nat} {p : Sg} (h : SgR w row o p) (q : Nat) (hw : KeepW w w') : SgR w' (row.setIfInBounds (o + 15) (.int .u64 (q : Int))) o (p.q' q) := by
  have hs := h.size
  obtain ⟨a, c, h1, h2, h3⟩ := h.stk
  refine ⟨by simpa using hs, fun j hj => ?_, ?_, ?_, ?_, ⟨a, c, ?_, h2, h3.kept hw⟩⟩
  · rw [Array.getElem?_setIfInBounds, if_neg (by omega)]; exact h.hnd j hj
  · rw [Array.getElem?_setIfInBounds, if_pos rfl, if_pos (by omega)]; rfl
  · rw [Array.getElem?_setIfInBounds, if_neg (by omega)]; exact h.inh
  · rw [Array.getElem?_setIfInBounds, if_neg (by omega)]; exact h.pc
  · rw [Array.getElem?_setIfInBounds, if_neg (by omega)]; exact h1
theorem upd_drewN (b : Nat) (w : World) (q : Nat) : Upd b w (w.drewN q) := Upd.of_below (drewN_below ⟨q, rfl⟩)
set_option maxHeartbeats 1000000 in
theorem drop_at (b o n : Nat) (p : Sg) (row : Array Value) (w : World) (hb : SB w b row) (hr : SgR w row o p) (hq : p.q < 65536) (hn : n < 16) :
    Calls Tryz.prog 63 #[.pointer (some ⟨b, o, none⟩), .int .i64 (n : Int)] w fun x w' => x = .returned (.tuple #[]) ∧ ∃ row', SB w' b row' ∧ SgR w' row' o (p.q' (clr p.q n)) ∧ Same o row row' ∧ Upd b w w' := by
  have c0 := (hb.cell (o + 15)).trans hr.pen
  have c1 := (hb.drew.cell (o + 15)).trans hr.pen
  have f0 := hb.free (o + 15)
  have f1 := hb.drew.free (o + 15)
  have hK := fun q => bit_at n hn (w.drewN q)
  have hK1 : Calls Tryz.prog 133 #[.int .i64 (n : Int)] w.drew fun x w' => x = .returned (.int .u64 ((2 ^ n : Nat) : Int)) ∧ w' = w.drew := bit_at n hn _
  have ha : bits .andNot .u64 (p.q : Int) ((2 ^ n : Nat) : Int) = ((clr p.q n : Nat) : Int) := u64_andNot_nat _ _ (by omega) (bit_lt (by omega))
  have HF : Hid (∃ row', SB (w.drew.setCell ⟨b, o + 15, none⟩ (.int .u64 ((clr p.q n : Nat) : Int))) b row' ∧ SgR (w.drew.setCell ⟨b, o + 15, none⟩ (.int .u64 ((clr p.q n : Nat) : Int))) row' o (p.q' (clr p.q n)) ∧ Same o row row' ∧ Upd b w (w.drew.setCell ⟨b, o + 15, none⟩ (.int .u64 ((clr p.q n : Nat) : Int)))) := by
    have hu : Upd b w (w.drew.setCell ⟨b, o + 15, none⟩ (.int .u64 ((clr p.q n : Nat) : Int))) := (Upd.drew b w).trans (Upd.setCell _ _ _ _)
    exact ⟨_, hb.drew.set _ _, hr.pend _ (hb.kw hu), Same.set _ _ (by omega), hu⟩
  clear hb hr
  generalize clr p.q n = r at *
  generalize p.q = x at *
  generalize 2 ^ n = M at *
  go_enter Tryz.func63, Tryz.ntmps63
  go_wp2_with fail
  go_region_with (go_at_call 133; refine hK1.mono ?_; rintro e w2 ⟨rfl, hw⟩; rw [hw]; clear hw w2)
  all_goals
    go_wp2
    go_end0
    exact ⟨rfl, HF.out⟩
set_option maxRecDepth 100000 in
set_option maxHeartbeats 2000000 in
theorem next_at (b o : Nat) (p : Sg) (row : Array Value) (w : World) (hb : SB w b row) (hr : SgR w row o p) (hq : QOk p.q) :
    Calls Tryz.prog 62 #[.pointer (some ⟨b, o, none⟩)] w fun x w' => ∃ (s q : Nat) (row' : Array Value), x = .returned (.int .i64 (s : Int)) ∧ SB w' b row' ∧ SgR w' row' o (p.q' q) ∧ Same o row row' ∧ Upd b w w' ∧ NxE p s q := by
  have h9 := isPending_at b o 9 p row w hb hr hq.1 (by omega)
  cases hx : p.q.testBit 9 with
  | true =>
    rw [hx] at h9
    have HE : Hid (NxE p 9 p.q) := NxE.nine hq hx
    have HB : Hid (SB w b row) := hb
    have HR : Hid (SgR w row o (p.q' p.q)) := hr
    clear hb hr hx hq
    go_enter Tryz.func62, Tryz.ntmps62
    go_wp2_with fail
    refine h9.mono ?_
    rintro x w1 ⟨rfl, q, hw⟩
    rw [hw]
    clear hw w1 h9
    go_wp2
    go_ret
    exact ⟨9, p.q, row, rfl, HB.out.drewN q, HR.out.kept (drewN_kw ⟨q, rfl⟩), Same.refl _ _, upd_drewN _ _ _, HE.out⟩
  | false =>
    rw [hx] at h9
    have c0 := fun q => ((hb.drewN q).cell (o + 16)).trans hr.inh
    cases hk : p.k.isSome with
    | true =>
      have HE : Hid (NxE p 0 p.q) := NxE.inside hq hx hk
      rw [hk] at c0
      have HB : Hid (SB w b row) := hb
      have HR : Hid (SgR w row o (p.q' p.q)) := hr
      clear hb hr hx hq
      go_enter Tryz.func62, Tryz.ntmps62
      go_wp2_with fail
      refine h9.mono ?_
      rintro x w1 ⟨rfl, q, hw⟩
      rw [hw]
      have c1 := c0 q
      clear hw w1 h9 c0
      go_wp2
      go_ret
      exact ⟨0, p.q, row, rfl, HB.out.drewN q, HR.out.kept (drewN_kw ⟨q, rfl⟩), Same.refl _ _, upd_drewN _ _ _, HE.out⟩
    | false =>
      rw [hk] at c0
      have HI : Hid (NxI p (lowS (hdB p) 15 1) (lowS p.q.testBit 15 1) p.q) := NxI.first hq
      have hH := fun q => lowestH_at b o p row (w.drewN q) (hb.drewN q) (hr.kept (drewN_kw ⟨q, rfl⟩)) hq.1
      have hP := fun q => lowestP_at b o p row (w.drewN q) (hb.drewN q) (hr.kept (drewN_kw ⟨q, rfl⟩)) hq.1
      have HX : Hid (p.q.testBit 9 = false) := hx
      have HK : Hid (p.k.isSome = false) := hk
      have HB : Hid (SB w b row) := hb
      have HR : Hid (SgR w row o (p.q' p.q)) := hr
      generalize lowS (hdB p) 15 1 = s at *
      generalize lowS p.q.testBit 15 1 = n0 at *
      clear hb hr hx hq hk
      go_enter Tryz.func62, Tryz.ntmps62
      go_wp2_with fail
      refine h9.mono ?_
      rintro x w1 ⟨rfl, q, hw⟩
      rw [hw]
      have c1 := c0 q
      have hH1 := hH q
      clear hw w1 h9 c0 hH
      go_wp2_with fail
      refine hH1.mono ?_
      rintro x w1 ⟨rfl, q2, hw⟩
      obtain ⟨r, hr⟩ := drew_add w q q2
      rw [hr] at hw
      have hP1 := hP r
      rw [hw]
      clear hw w1 hH1 c1 hP hr
      go_wp2_with fail
      refine hP1.mono ?_
      rintro x w1 ⟨rfl, q3, hw⟩
      obtain ⟨r2, hr⟩ := drew_add w r q3
      rw [hr] at hw
      rw [hw]
      clear hw w1 hP1 hr
      go_wp2
      have HB2 : Hid (SB (w.drewN r2) b row) := HB.out.drewN r2
      have HR2 : Hid (SgR (w.drewN r2) row o (p.q' p.q)) := HR.out.kept (drewN_kw ⟨r2, rfl⟩)
      have HU2 : Hid (Upd b w (w.drewN r2)) := upd_drewN _ _ _
      generalize w.drewN r2 = W at *
      clear HB HR
      go_loopw [4] (fun m wr => ∃ (n q : Nat) (row' : Array Value), m = .int .i64 (n : Int) ∧ NxI p s n q ∧ SB wr b row' ∧ SgR wr row' o (p.q' q) ∧ Same o row row' ∧ Upd b w wr) (fun m _ => msr (intOf m).toNat)
      case atStart => exact ⟨n0, p.q, row, rfl, HI.out, HB2.out, HR2.out, Same.refl _ _, HU2.out⟩
      case round =>
        clear HI HB2 HR2 HU2
        obtain ⟨n, q, row', rfl, hI, hB, hR, hS, hU⟩ := hrel
        by_cases hne : n = s
        · subst hne
          have HE : Hid (NxE p n q) := hI.fin HX.out HK.out
          have HF : Hid (SB wr b row' ∧ SgR wr row' o (p.q' q) ∧ Same o row row' ∧ Upd b w wr) := ⟨hB, hR, hS, hU⟩
          have g0 : ((n : Int) != (n : Int)) = false := by simp
          clear hI hB hR hS hU
          go_wp2
          go_ret
          obtain ⟨f1, f2, f3, f4⟩ := HF.out
          exact ⟨n, q, row', rfl, f1, f2, f3, f4, HE.out⟩
        · obtain ⟨p1, p2, -, -, -⟩ := hI.pos hne
          obtain ⟨hI2, hlt⟩ := hI.drop hne
          have hD := drop_at b o n (p.q' q) row' wr hB hR hI.qok.1 (by omega)
          have g0 : ((n : Int) != (s : Int)) = true := by simp; omega
          have g1 : ((n : Int) == (s : Int)) = false := by simp; omega
          have HI2 : Hid (NxI p s (lowS (clr q n).testBit 15 1) (clr q n)) := hI2
          have HS : Hid (Same o row row') := hS
          have HU : Hid (Upd b w wr) := hU
          have HLt : Hid (lowS (clr q n).testBit 15 1 = 0 ∨ n < lowS (clr q n).testBit 15 1) := hlt
          have HQ : Hid (clr q n < 65536) := hI2.qok.1
          clear hI hB hR hS hU hI2 hlt
          rw [show (p.q' q).q = q from rfl] at hD
          go_wp2_with fail
          refine hD.mono ?_
          rintro x w1 ⟨rfl, row2, hB2, hR2, hS2, hU2⟩
          have hR3 : SgR w1 row2 o (p.q' (clr q n)) := hR2
          have hP := lowestP_at b o (p.q' (clr q n)) row2 w1 hB2 hR3 HQ.out
          have HB2 : Hid (SB w1 b row2) := hB2
          have HR2 : Hid (SgR w1 row2 o (p.q' (clr q n))) := hR3
          have HS2 : Hid (Same o row row2) := HS.out.trans hS2
          have HU2 : Hid (Upd b w w1) := HU.out.trans hU2
          rw [show (p.q' (clr q n)).q = clr q n from rfl] at hP
          generalize lowS (clr q n).testBit 15 1 = m at *
          clear hD hB2 hR2 hS2 hU2 hR3 HS HU HQ
          go_wp2_with fail
          refine hP.mono ?_
          rintro x w2 ⟨rfl, q3, hw⟩
          rw [hw]
          clear hw w2 hP
          go_wp2
          go_roundw
          case rel => exact ⟨m, clr q n, row2, rfl, HI2.out, HB2.out.drewN q3, HR2.out.kept (drewN_kw ⟨q3, rfl⟩), HS2.out, HU2.out.trans (upd_drewN _ _ _)⟩
          case measure =>
            have hl := HLt.out
            show msr (intOf (.int .i64 (m : Int))).toNat < msr (intOf (.int .i64 (n : Int))).toNat
            rw [intOf_nat, intOf_nat]
            unfold msr
            rw [if_neg (show ¬ n = 0 by omega)]
            split <;> omega
end Sg
end Go.Proofs.YtnlhedpfhgoncabGreatDoor
namespace Go.Proofs.YtnlhedpfhgoncabGreatDoor
open Go.RowKit
namespace Ow
end Ow
namespace Sg
open Ow
/-- A row in which these cells are laid from place o on. -/
def putA : Array Value → Nat → List Value → Array Value
  | row, _, [] => row
  | row, o, v :: r => putA (row.setIfInBounds o v) (o + 1) r
theorem putA_size : ∀ (vs : List Value) (o : Nat) (row : Array Value), (putA row o vs).size = row.size
  | [], _, _ => rfl
  | v :: r, o, row => by unfold putA; rw [putA_size r]; simp
theorem putA_out : ∀ (vs : List Value) (o : Nat) (row : Array Value) (k : Nat), k < o ∨ o + vs.length ≤ k → (putA row o vs)[k]? = row[k]?
  | [], _, _, _, _ => rfl
  | v :: r, o, row, k, h => by
    rw [List.length_cons] at h
    unfold putA
    rw [putA_out r (o + 1) _ k (by omega), Array.getElem?_setIfInBounds, if_neg (by omega)]
theorem putA_in : ∀ (vs : List Value) (o : Nat) (row : Array Value) (j : Nat), j < vs.length → o + vs.length ≤ row.size → (putA row o vs)[o + j]? = vs[j]?
  | [], _, _, _, h, _ => by simp at h
  | v :: r, o, row, j, h, hs => by
    rw [List.length_cons] at h hs
    unfold putA
    cases j with
    | zero => rw [putA_out r (o + 1) _ _ (by omega), Array.getElem?_setIfInBounds, if_pos (by omega), if_pos (by omega)]; rfl
    | succ j =>
      have := putA_in r (o + 1) (row.setIfInBounds o v) j (by omega) (by simp; omega)
      rw [show o + (j + 1) = o + 1 + j by omega, this]
      rfl
theorem SB.sets {b : Nat} : ∀ (vs : List Value) (o : Nat) (w : World) (row : Array Value), SB w b row → SB (w.setCells b o vs) b (putA row o vs)
  | [], _, _, _, h => h
  | v :: r, o, w, row, h => SB.sets r (o + 1) _ _ (h.set o v)
theorem upd_sets (b : Nat) : ∀ (vs : List Value) (o : Nat) (w : World), Upd b w (w.setCells b o vs)
  | [], _, w => Upd.refl b w
  | v :: r, o, w => (Upd.setCell b o w v).trans (upd_sets b r (o + 1) _)
theorem SB.there {w : World} {b : Nat} {row : Array Value} (h : SB w b row) (o n : Nat) (hn : o + n ≤ row.size) : w.there b o n := fun j hj => by
  refine ⟨?_, h.free _⟩
  rw [h.cell, Array.getElem?_eq_getElem (by omega)]
  rfl
theorem putA_same {vs : List Value} (o : Nat) (row : Array Value) (h : vs.length = 19) : Same o row (putA row o vs) := ⟨putA_size _ _ _, fun k hk => putA_out vs o row k (by omega)⟩
/-- What is told of the processes in the row. -/
structure SgRow (w : World) (row : Array Value) (S : SS) : Prop where
  size : row.size = 152
  at' : ∀ i, i < 8 → SgR w row (i * 19) (S i)
theorem SgRow.put {w w' : World} {row row' : Array Value} {S : SS} {i : Nat} {p : Sg} (h : SgRow w row S) (hs : Same (i * 19) row row') (hr : SgR w' row' (i * 19) p) (hw : KeepW w w') : SgRow w' row' (S.set i p) := by
  refine ⟨hs.1.trans h.size, fun j hj => ?_⟩
  by_cases e : j = i
  · rw [e, SS.set_same]; exact hr
  · rw [SS.set_other _ _ _ _ e]
    exact (h.at' j hj).keep hs.1 (fun k h1 h2 => hs.2 k (by omega)) hw
theorem SgRow.kept {w w' : World} {row : Array Value} {S : SS} (h : SgRow w row S) (hw : KeepW w w') : SgRow w' row S := ⟨h.size, fun i hi => (h.at' i hi).kept hw⟩
/-- Block b holds the signals S. -/
def SgAt (w : World) (b : Nat) (S : SS) : Prop := ∃ row, SB w b row ∧ SgRow w row S
section
variable {w w' : World} {b : Nat} {S : SS}
theorem SgAt.lt (h : SgAt w b S) : b < w.heap.size := by
  obtain ⟨row, hr, _⟩ := h
  exact hr.lt
theorem SgAt.keep (h : SgAt w b S) (hb : w'.heap[b]? = w.heap[b]?) (hw : KeepW w w') : SgAt w' b S := by
  obtain ⟨row, hr, h1⟩ := h
  exact ⟨row, hr.keep hb, h1.kept hw⟩
theorem SgAt.below (h : SgAt w b S) (hb : Below w.heap.size w w') : SgAt w' b S := h.keep (hb.block _ h.lt) (KeepW.below hb)
end
/-- 15 handlers, k of them by default, and more cells. -/
def frow (t : List Value) (k : Nat) : Array Value := (List.replicate k (Value.int .u64 18446744073709551615) ++ (List.replicate (15 - k) (Value.int .u64 0) ++ t)).toArray
theorem frow_size {t : List Value} {k : Nat} (h : k ≤ 15) : (frow t k).size = 15 + t.length := by simp [frow]; omega
theorem frow_set {t : List Value} {k : Nat} (h : k < 15) : (frow t k).setIfInBounds k (.int .u64 18446744073709551615) = frow t (k + 1) := by
  apply Array.ext'
  unfold frow
  rw [Array.toList_setIfInBounds, List.toList_toArray, List.toList_toArray, List.set_append_right _ _ (by simp)]
  rw [show 15 - k = (15 - (k + 1)) + 1 by omega, List.replicate_succ (n := 15 - (k + 1)), List.replicate_succ' (n := k), List.append_assoc]
  simp
theorem frow_get {t : List Value} {k : Nat} (h : k < 15) : (frow t k)[k]? = some (.int .u64 0) := by
  unfold frow
  rw [List.getElem?_toArray, List.getElem?_append_right (by simp), List.getElem?_append_left (by simp; omega), List.length_replicate, Nat.sub_self, List.getElem?_replicate, if_pos (by omega)]
theorem frow_hnd {t : List Value} {j : Nat} (h : j < 15) : (frow t 15)[j]? = some (.int .u64 18446744073709551615) := by
  unfold frow
  rw [List.getElem?_toArray, List.getElem?_append_left (by simpa using h), List.getElem?_replicate, if_pos h]
theorem frow_tail {t : List Value} (j : Nat) : (frow t 15)[15 + j]? = t[j]? := by
  unfold frow
  rw [List.getElem?_toArray, List.getElem?_append_right (by simp), List.getElem?_append_right (by simp)]
  simp
theorem frow_one {t : List Value} (ht : ∀ v ∈ t, v.oneCell' = true) : (frow t 15).all (·.oneCell') = true := by
  refine all_oneCell_toArray (fun v hv => ?_)
  simp only [List.mem_append] at hv
  rcases hv with hv | hv | hv
  · rw [List.eq_of_mem_replicate hv]; rfl
  · rw [List.eq_of_mem_replicate hv]; rfl
  · exact ht v hv
def tailS : List Value := [.int .u64 0, .bool false, .int .i64 0, .slice none 0 0]
theorem lit_first : (#[.int .u64 0, .int .u64 0, .int .u64 0, .int .u64 0, .int .u64 0, .int .u64 0, .int .u64 0, .int .u64 0, .int .u64 0, .int .u64 0, .int .u64 0, .int .u64 0, .int .u64 0, .int .u64 0, .int .u64 0, .int .u64 0, .bool false, .int .i64 0, .slice none 0 0] : Array Value) = frow tailS 0 := rfl
theorem procSize : (Tryz.prog.info? 135).map (·.size) = some 19 := by kernel_rfl
theorem first_R {w : World} {row : Array Value} {o : Nat} (h : o + 19 ≤ row.size) (h1 : ∀ j, j < 19 → row[o + j]? = (frow tailS 15)[j]?) : SgR w row o Sg.first := by
  refine ⟨h, fun j hj => ?_, ?_, ?_, ?_, none, 0, ?_, Nat.le_refl _, TRd.nil _ _⟩
  · rw [h1 j (by omega), frow_hnd hj]
    show _ = some (Value.int .u64 ((List.replicate 15 dfl).getD j 0))
    rw [List.getD_eq_getElem?_getD, List.getElem?_replicate, if_pos hj]
    rfl
  · rw [h1 15 (by omega)]; exact frow_tail 0
  · rw [h1 16 (by omega)]; exact frow_tail 1
  · rw [h1 17 (by omega)]; exact frow_tail 2
  · rw [h1 18 (by omega)]; exact frow_tail 3
set_option maxRecDepth 100000 in
set_option maxHeartbeats 2000000 in
theorem atFirst_at (w : World) :
    Calls Tryz.prog 68 #[] w fun x w' => x = .returned (.agg (frow tailS 15)) ∧ Below w.heap.size w w' := by
  have hz := lit_first
  have HSz : Hid (∀ k, k ≤ 15 → (frow tailS k).size = 19) := fun k hk => frow_size hk
  have HSet : Hid (∀ k, k < 15 → (frow tailS k).setIfInBounds k (.int .u64 18446744073709551615) = frow tailS (k + 1)) := fun k hk => frow_set hk
  have HGet : Hid (∀ k, k < 15 → (frow tailS k)[k]? = some (.int .u64 0)) := fun k hk => frow_get hk
  have HOne : Hid ((frow tailS 15).all (·.oneCell') = true) := frow_one (fun v hv => by simp [tailS] at hv; rcases hv with rfl | rfl | rfl | rfl <;> rfl)
  generalize hF : frow tailS = F at *
  clear hF
  go_enter Tryz.func68, Tryz.ntmps68
  go_wp2
  clear hz
  obtain ⟨W, hW⟩ : ∃ W, W = (w.alloc (.cells (F 0) 135)).alloc (.cells (F 0) 135) := ⟨_, rfl⟩
  obtain ⟨r, hr⟩ : ∃ r, r = w.heap.size := ⟨_, rfl⟩
  obtain ⟨g, hg⟩ : ∃ g, g = w.heap.size + 1 := ⟨_, rfl⟩
  have HN : Hid (W.heap[g]? = some (.cells (F 0) 135 (0, 0))) := by
    show _ = _
    have := heap_alloc_new (w.alloc (.cells (F 0) 135)) (.cells (F 0) 135)
    rw [hW, hg]
    simpa using this
  have HM : Hid (W.heap[r]? = some (.cells (F 0) 135 (0, 0))) := by
    rw [hW, hr, Below.heap_alloc _ _ _ (by simp)]
    exact heap_alloc_new _ _
  have HB : Hid (Below w.heap.size w W) := by rw [hW]; exact below_alloc2 _ _ _
  have HG : Hid (g = r + 1) := by show _ = _; rw [hg, hr]
  have HRw : Hid (r = w.heap.size) := hr
  rw [← hW, ← hg, ← hr]
  clear hW hg hr
  go_loopw [3] (fun s wr => ∃ (k : Nat), k ≤ 15 ∧ s = .int .i64 k ∧ wr.heap[g]? = some (.cells (F k) 135 (0, 0)) ∧ wr.heap[r]? = some (.cells (F 0) 135 (0, 0)) ∧ Below w.heap.size w wr) (fun s _ => 15 - (intOf s).toNat)
  case atStart => exact ⟨0, by omega, rfl, HN.out, HM.out, HB.out⟩
  case round =>
    clear HN HM HB
    obtain ⟨k, hk, rfl, hN, hM, hB⟩ := hrel
    have HN : Hid (wr.heap[g]? = some (.cells (F k) 135 (0, 0))) := hN
    have HM : Hid (wr.heap[r]? = some (.cells (F 0) 135 (0, 0))) := hM
    have HB : Hid (Below w.heap.size w wr) := hB
    by_cases hlt : k < 15
    · have i1 : decide ((k : Int) < 15) = true := decide_eq_true (by omega)
      have hki : (k : Int) < 15 := by omega
      have c0 : wr.cell? ⟨g, k, none⟩ = some (.int .u64 0) := (cell_of_heap hN).trans (HGet.out k hlt)
      have f0 : wr.frozen? ⟨g, k, none⟩ = false := frozen_of_heap hN
      have HN2 : Hid ((wr.setCell ⟨g, k, none⟩ (.int .u64 18446744073709551615)).heap[g]? = some (.cells (F (k + 1)) 135 (0, 0))) := by
        show _ = _
        rw [setCell_eq_setRow wr g k _ _ _ _ hN, setRow_heap wr g _ _ _ _ hN, HSet.out k hlt]
      have HM2 : Hid ((wr.setCell ⟨g, k, none⟩ (.int .u64 18446744073709551615)).heap[r]? = some (.cells (F 0) 135 (0, 0))) :=
        (Below.heap_setCell _ _ _ _ (by have := HG.out; show r ≠ g; omega)).trans hM
      have HB2 : Hid (Below w.heap.size w (wr.setCell ⟨g, k, none⟩ (.int .u64 18446744073709551615))) := hB.trans ((Upd.setCell g k _ _).below (by have := HG.out; have := HRw.out; omega) hB.size)
      clear hN hM hB
      go_wp2
      go_roundw
      case rel => exact ⟨k + 1, by omega, by go_num, HN2.out, HM2.out, HB2.out⟩
      case measure => simp [intOf]; omega
    · obtain rfl : k = 15 := by omega
      have i1 : decide (((15 : Nat) : Int) < 15) = false := rfl
      have HQ : Hid ((wr.setRow r (F 15)).heap[r]? = some (.cells (F 15) 135 (0, 0))) := setRow_heap _ r _ _ _ _ hM
      have HB2 : Hid (Below w.heap.size w (wr.setRow r (F 15))) := hB.trans ((Upd.setRow r _ _).below (by have := HRw.out; omega) hB.size)
      clear hN hM hB
      generalize hR : F 15 = R at *
      have HRs : Hid (R.size = 19) := by show _ = _; rw [← hR]; exact HSz.out 15 (by omega)
      have HR15 : Hid (F 15 = R) := hR
      clear hR
      go_wp2_with (first
        | (refine wpList_load_row rfl 135 _ rfl g rfl 135 R (0, 0) _ HN.out Tryz.underlying135 rfl (by rw [HRs.out]; exact procSize) ?_)
        | (refine wpList_store_row rfl 135 _ _ rfl r R rfl rfl 135 (F 0) HM.out (by rw [HRs.out]; exact procSize) (by rw [HRs.out, HSz.out 0 (by omega)]) HOne.out ?_)
        | go_in)
      refine bodyPost_ret (v := .agg R) ?_ rfl ⟨by rw [HR15.out], HB2.out⟩
      exact results_cell_row rfl _ _ r 135 R (0, 0) _ rfl HQ.out Tryz.underlying135 rfl (by rw [HRs.out]; exact procSize)
end Sg
end Go.Proofs.YtnlhedpfhgoncabGreatDoor
