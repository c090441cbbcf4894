/- Both memories side by side, and a deed's box: the contracts of both packages' calls over them. -/
import Derived.Test.YtnpgkhlidngngaaRefC
import Derived.Test.YtnpgkhlidngngaaWords
namespace Go.Proofs.Ytnpgkhlidngngaa
open Go.RowKit
set_option linter.unusedVariables false

/-- A deed in a box. -/
def BoxAt (w : World) (g : Nat) (k f d v : Int) : Prop := w.heap[g]? = some (.cells #[.int .i64 k, .int .i64 f, .int .i64 d, .int .u64 v] 29)

/-- Both memories, and the deed at hand, in the world W; below B it is as w was. -/
structure Two (w W : World) (B n gx cap H : Nat) (rs : List Nat) (vs1 vs2 : List Int) (kd f d x : Int) : Prop where
  mem : MemAt W (B + 1) B n vs1
  ref : RefAt W (B + 2) gx cap n rs vs2
  hgx : B + 2 < gx
  hrs : ∀ i, i < n → B + 2 < rs.getD i 0
  old : Below B w W
  box : BoxAt W H kd f d x
  hH : B + 2 < H
  hHg : H ≠ gx
  hHr : ∀ i, i < n → H ≠ rs.getD i 0

section
variable {w W W' : World} {B n gx cap H : Nat} {rs : List Nat} {vs1 vs2 : List Int} {kd f d x : Int}

theorem Two.c0 (h : Two w W B n gx cap H rs vs1 vs2 kd f d x) : W.cell? ⟨H, 0, none⟩ = some (.int .i64 kd) := by rw [cell_of_heap h.box]; rfl
theorem Two.c1 (h : Two w W B n gx cap H rs vs1 vs2 kd f d x) : W.cell? ⟨H, 1, none⟩ = some (.int .i64 f) := by rw [cell_of_heap h.box]; rfl
theorem Two.c2 (h : Two w W B n gx cap H rs vs1 vs2 kd f d x) : W.cell? ⟨H, 2, none⟩ = some (.int .i64 d) := by rw [cell_of_heap h.box]; rfl
theorem Two.c3 (h : Two w W B n gx cap H rs vs1 vs2 kd f d x) : W.cell? ⟨H, 3, none⟩ = some (.int .u64 x) := by rw [cell_of_heap h.box]; rfl
theorem Two.xl (h : Two w W B n gx cap H rs vs1 vs2 kd f d x) : W.cell? ⟨B + 2, 0, none⟩ = some (.slice (some ⟨gx, 0, none⟩) n cap) := h.ref.cell

theorem Two.sz (h : Two w W B n gx cap H rs vs1 vs2 kd f d x) : B ≤ W.heap.size := by have := lt_of_heap h.mem.row; omega
theorem Two.updM (h : Two w W B n gx cap H rs vs1 vs2 kd f d x) {vs' : List Int} (u : Upd B W W') (m : MemAt W' (B + 1) B n vs') : Two w W' B n gx cap H rs vs' vs2 kd f d x :=
  ⟨m, h.ref.upd (u.p (fun k => k = B) rfl) (by omega) (by have := h.hgx; omega) (fun i hi => by have := h.hrs i hi; omega), h.hgx, h.hrs,
    h.old.trans (u.below (Nat.le_refl _) h.sz), (u.block H (lt_of_heap h.box) (by have := h.hH; omega)).trans h.box, h.hH, h.hHg, h.hHr⟩
theorem Two.updX (h : Two w W B n gx cap H rs vs1 vs2 kd f d x) {vs' : List Int} (u : UpdP (Rows? n rs) W W') (m : RefAt W' (B + 2) gx cap n rs vs') : Two w W' B n gx cap H rs vs1 vs' kd f d x := by
  have hno : ∀ k, k ≤ B + 2 → ¬ Rows? n rs k := fun k hk ⟨i, hi, e⟩ => by have := h.hrs i hi; omega
  exact ⟨h.mem.keep (u.block _ (lt_of_heap h.mem.head) (hno _ (by omega))) (u.block _ (lt_of_heap h.mem.row) (hno _ (by omega))), m, h.hgx, h.hrs,
    h.old.trans (u.below (fun k ⟨i, hi, e⟩ => by have := h.hrs i hi; omega) h.sz), (u.block H (lt_of_heap h.box) (fun ⟨i, hi, e⟩ => h.hHr i hi e)).trans h.box, h.hH, h.hHg, h.hHr⟩
theorem Two.below (h : Two w W B n gx cap H rs vs1 vs2 kd f d x) (k : Below W.heap.size W W') : Two w W' B n gx cap H rs vs1 vs2 kd f d x :=
  ⟨h.mem.below k, h.ref.below k, h.hgx, h.hrs, h.old.trans (k.mono h.sz), (k.block H (lt_of_heap h.box)).trans h.box, h.hH, h.hHg, h.hHr⟩
end

/-- The document's answers. -/
def errW (n : Nat) (f k : Int) : Int := if 0 ≤ f ∧ f < n ∧ 0 ≤ k ∧ k < 32 then 0 else 101
def valR (n : Nat) (vs : List Int) (f k : Int) : Int := if 0 ≤ f ∧ f < n ∧ 0 ≤ k ∧ k < 32 then vs.getD (f.toNat * 32 + k.toNat) 0 else 0
def putW (n : Nat) (vs : List Int) (f k v : Int) : List Int := if 0 ≤ f ∧ f < n ∧ 0 ≤ k ∧ k < 32 then vs.set (f.toNat * 32 + k.toNat) v else vs
def errC (n : Nat) (t f : Int) : Int := if 0 ≤ t ∧ t < n ∧ 0 ≤ f ∧ f < n then 0 else 101
def putC (n : Nat) (vs : List Int) (t f : Int) : List Int := if 0 ≤ t ∧ t < n ∧ 0 ≤ f ∧ f < n then splice vs (t.toNat * 32) (frameOf vs f.toNat) else vs
def errZ (n : Nat) (f : Int) : Int := if 0 ≤ f ∧ f < n then 0 else 101
def putZ (n : Nat) (vs : List Int) (f : Int) : List Int := if 0 ≤ f ∧ f < n then splice vs (f.toNat * 32) (List.replicate 32 0) else vs

section
variable {w W : World} {B n gx cap H : Nat} {rs : List Nat} {vs1 vs2 : List Int} {kd f d x : Int}

theorem two_read_m (h : Two w W B n gx cap H rs vs1 vs2 kd f d x) : Calls Try.prog 10 #[.pointer (some ⟨B + 1, 0, none⟩), .int .i64 f, .int .i64 d] W fun e w' => e = .returned (.tuple #[.int .u64 (valR n vs1 f d), .int .i64 (errW n f d)]) ∧ w' = W := by
  by_cases hc : 0 ≤ f ∧ f < n ∧ 0 ≤ d ∧ d < 32
  · rw [valR, errW, if_pos hc, if_pos hc]
    exact read_at _ _ _ _ f d W h.mem hc.1 hc.2.1 hc.2.2.1 hc.2.2.2
  · rw [valR, errW, if_neg hc, if_neg hc]
    exact readno_at _ _ _ _ f d W h.mem hc
theorem two_read_x (h : Two w W B n gx cap H rs vs1 vs2 kd f d x) : Calls Try.prog 11 #[.pointer (some ⟨B + 2, 0, none⟩), .int .i64 f, .int .i64 d] W fun e w' => e = .returned (.tuple #[.int .u64 (valR n vs2 f d), .int .i64 (errW n f d)]) ∧ w' = W := by
  by_cases hc : 0 ≤ f ∧ f < n ∧ 0 ≤ d ∧ d < 32
  · rw [valR, errW, if_pos hc, if_pos hc]
    exact rread_at _ _ _ _ _ _ f d W h.ref hc.1 hc.2.1 hc.2.2.1 hc.2.2.2
  · rw [valR, errW, if_neg hc, if_neg hc]
    exact rreadno_at _ _ _ _ _ _ f d W h.ref hc
theorem two_write_m (h : Two w W B n gx cap H rs vs1 vs2 kd f d x) : Calls Try.prog 12 #[.pointer (some ⟨B + 1, 0, none⟩), .int .i64 f, .int .i64 d, .int .u64 x] W fun e w' => e = .returned (.int .i64 (errW n f d)) ∧ Two w w' B n gx cap H rs (putW n vs1 f d x) vs2 kd f d x := by
  by_cases hc : 0 ≤ f ∧ f < n ∧ 0 ≤ d ∧ d < 32
  · rw [putW, errW, if_pos hc, if_pos hc]
    refine (write_at _ _ _ _ f d x W h.mem hc.1 hc.2.1 hc.2.2.1 hc.2.2.2).mono fun e w' ⟨he, hm, hu⟩ => ⟨he, h.updM hu hm⟩
  · rw [putW, errW, if_neg hc, if_neg hc]
    refine (writeno_at _ _ _ _ f d x W h.mem hc).mono fun e w' ⟨he, hw⟩ => ⟨he, ?_⟩
    subst hw
    exact h
theorem two_write_x (h : Two w W B n gx cap H rs vs1 vs2 kd f d x) : Calls Try.prog 13 #[.pointer (some ⟨B + 2, 0, none⟩), .int .i64 f, .int .i64 d, .int .u64 x] W fun e w' => e = .returned (.int .i64 (errW n f d)) ∧ Two w w' B n gx cap H rs vs1 (putW n vs2 f d x) kd f d x := by
  by_cases hc : 0 ≤ f ∧ f < n ∧ 0 ≤ d ∧ d < 32
  · rw [putW, errW, if_pos hc, if_pos hc]
    refine (rwrite_at _ _ _ _ _ _ f d x W h.ref hc.1 hc.2.1 hc.2.2.1 hc.2.2.2).mono fun e w' ⟨he, hm, hu⟩ => ⟨he, h.updX hu hm⟩
  · rw [putW, errW, if_neg hc, if_neg hc]
    refine (rwriteno_at _ _ _ _ _ _ f d x W h.ref hc).mono fun e w' ⟨he, hw⟩ => ⟨he, ?_⟩
    subst hw
    exact h
theorem two_copy_m (h : Two w W B n gx cap H rs vs1 vs2 kd f d x) : Calls Try.prog 14 #[.pointer (some ⟨B + 1, 0, none⟩), .int .i64 f, .int .i64 d] W fun e w' => e = .returned (.int .i64 (errC n f d)) ∧ Two w w' B n gx cap H rs (putC n vs1 f d) vs2 kd f d x := by
  by_cases hc : 0 ≤ f ∧ f < n ∧ 0 ≤ d ∧ d < n
  · rw [putC, errC, if_pos hc, if_pos hc]
    refine (copy_at _ _ _ _ f d W h.mem hc.1 hc.2.1 hc.2.2.1 hc.2.2.2).mono fun e w' ⟨he, hm, hu⟩ => ⟨he, h.updM hu hm⟩
  · rw [putC, errC, if_neg hc, if_neg hc]
    refine (copyno_at _ _ _ _ f d W h.mem hc).mono fun e w' ⟨he, hw⟩ => ⟨he, ?_⟩
    subst hw
    exact h
theorem two_copy_x (h : Two w W B n gx cap H rs vs1 vs2 kd f d x) : Calls Try.prog 15 #[.pointer (some ⟨B + 2, 0, none⟩), .int .i64 f, .int .i64 d] W fun e w' => e = .returned (.int .i64 (errC n f d)) ∧ Two w w' B n gx cap H rs vs1 (putC n vs2 f d) kd f d x := by
  by_cases hc : 0 ≤ f ∧ f < n ∧ 0 ≤ d ∧ d < n
  · rw [putC, errC, if_pos hc, if_pos hc]
    refine (rcopy_at _ _ _ _ _ _ f d W h.ref hc.1 hc.2.1 hc.2.2.1 hc.2.2.2).mono fun e w' ⟨he, hm, hu⟩ => ⟨he, h.updX hu hm⟩
  · rw [putC, errC, if_neg hc, if_neg hc]
    refine (rcopyno_at _ _ _ _ _ _ f d W h.ref hc).mono fun e w' ⟨he, hw⟩ => ⟨he, ?_⟩
    subst hw
    exact h
theorem two_zero_m (h : Two w W B n gx cap H rs vs1 vs2 kd f d x) : Calls Try.prog 16 #[.pointer (some ⟨B + 1, 0, none⟩), .int .i64 f] W fun e w' => e = .returned (.int .i64 (errZ n f)) ∧ Two w w' B n gx cap H rs (putZ n vs1 f) vs2 kd f d x := by
  by_cases hc : 0 ≤ f ∧ f < n
  · rw [putZ, errZ, if_pos hc, if_pos hc]
    refine (zero_at _ _ _ _ f W h.mem hc.1 hc.2).mono fun e w' ⟨he, hm, hu⟩ => ⟨he, h.updM hu hm⟩
  · rw [putZ, errZ, if_neg hc, if_neg hc]
    refine (zerono_at _ _ _ _ f W h.mem hc).mono fun e w' ⟨he, hw⟩ => ⟨he, ?_⟩
    subst hw
    exact h
theorem two_zero_x (h : Two w W B n gx cap H rs vs1 vs2 kd f d x) : Calls Try.prog 17 #[.pointer (some ⟨B + 2, 0, none⟩), .int .i64 f] W fun e w' => e = .returned (.int .i64 (errZ n f)) ∧ Two w w' B n gx cap H rs vs1 (putZ n vs2 f) kd f d x := by
  by_cases hc : 0 ≤ f ∧ f < n
  · rw [putZ, errZ, if_pos hc, if_pos hc]
    refine (rzero_at _ _ _ _ _ _ f W h.ref hc.1 hc.2).mono fun e w' ⟨he, hm, hu⟩ => ⟨he, h.updX hu hm⟩
  · rw [putZ, errZ, if_neg hc, if_neg hc]
    refine (rzerono_at _ _ _ _ _ _ f W h.ref hc).mono fun e w' ⟨he, hw⟩ => ⟨he, ?_⟩
    subst hw
    exact h
theorem two_frames_m (h : Two w W B n gx cap H rs vs1 vs2 kd f d x) : Calls Try.prog 18 #[.pointer (some ⟨B + 1, 0, none⟩)] W fun e w' => e = .returned (.int .i64 n) ∧ w' = W :=
  frames_mem _ _ _ _ W h.mem

/-- A page that both have, or that neither has. -/
def PageAt (W : World) (n : Nat) (vs : List Int) (f : Int) (p : Value) : Prop :=
  if 0 ≤ f ∧ f < n then ∃ g, p = .slice (some ⟨g, 0, none⟩) 32 32 ∧ W.heap[g]? = some (.cells (urow (frameOf vs f.toNat)) 27) else p = .slice none 0 0

theorem two_page_m (h : Two w W B n gx cap H rs vs1 vs2 kd f d x) : Calls Try.prog 20 #[.pointer (some ⟨B + 1, 0, none⟩), .int .i64 f] W fun e w' => ∃ p, e = .returned p ∧ PageAt w' n vs1 f p ∧ Two w w' B n gx cap H rs vs1 vs2 kd f d x ∧ (∀ vs q, PageAt W n vs f q → PageAt w' n vs f q) := by
  by_cases hc : 0 ≤ f ∧ f < n
  · refine (page_at _ _ _ _ f W h.mem hc.1 hc.2).mono fun e w' ⟨he, hp, hb, hs⟩ => ⟨_, he, ?_, h.below hb, fun vs q hq => ?_⟩
    · rw [PageAt, if_pos hc]
      exact ⟨_, rfl, hp⟩
    · rw [PageAt, if_pos hc] at hq ⊢
      obtain ⟨g, e, hg⟩ := hq
      exact ⟨g, e, (hb.block g (lt_of_heap hg)).trans hg⟩
  · refine (pageno_at _ _ _ _ f W h.mem hc).mono fun e w' ⟨he, hw⟩ => ⟨_, he, ?_, ?_, ?_⟩
    · rw [PageAt, if_neg hc]
    · subst hw; exact h
    · subst hw; exact fun _ _ hq => hq
theorem two_page_x (h : Two w W B n gx cap H rs vs1 vs2 kd f d x) : Calls Try.prog 21 #[.pointer (some ⟨B + 2, 0, none⟩), .int .i64 f] W fun e w' => ∃ p, e = .returned p ∧ PageAt w' n vs2 f p ∧ w' = W := by
  by_cases hc : 0 ≤ f ∧ f < n
  · refine (rpage_at _ _ _ _ _ _ f W h.ref hc.1 hc.2).mono fun e w' ⟨he, hw⟩ => ⟨_, he, ?_, hw⟩
    subst hw
    rw [PageAt, if_pos hc]
    exact ⟨_, rfl, h.ref.row _ (by omega)⟩
  · refine (rpageno_at _ _ _ _ _ _ f W h.ref hc).mono fun e w' ⟨he, hw⟩ => ⟨_, he, ?_, hw⟩
    rw [PageAt, if_neg hc]
theorem two_words (n : Nat) (vs : List Int) (f : Int) (p q : Value) (W : World) (hl : vs.length = n * 32) (hp : PageAt W n vs f p) (hq : PageAt W n vs f q) :
    Calls Try.prog 19 #[p, q] W fun e w' => e = .returned (.bool true) ∧ Below W.heap.size W w' := by
  by_cases hc : 0 ≤ f ∧ f < n
  · rw [PageAt, if_pos hc] at hp hq
    obtain ⟨g1, rfl, h1⟩ := hp
    obtain ⟨g2, rfl, h2⟩ := hq
    have hf := frameOf_length vs f.toNat n hl (by omega)
    exact (words_same g1 g2 0 0 32 32 32 (frameOf vs f.toNat) W (by omega) (fun j hj => row_cell h1 j (by omega)) (fun j hj => row_cell h2 j (by omega))).mono fun e w' ⟨he, hw⟩ => ⟨he, (drewN_below hw).1⟩
  · rw [PageAt, if_neg hc] at hp hq
    subst hp hq
    exact (words_none W).mono fun e w' ⟨he, hw⟩ => ⟨he, (drewN_below hw).1⟩
end

end Go.Proofs.Ytnpgkhlidngngaa
