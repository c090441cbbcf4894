/- Both disks side by side, and a deed's box: the contracts of both packages' calls over them. -/
import Derived.Test.YtoceadcifgkimaaRefB3
namespace Go.Proofs.Ytoceadcifgkimaa
open Go.RowKit
set_option linter.unusedVariables false

/-- Both disks, and the deed at hand in block H, in the world W; below B it is as w was. -/
structure Two (w W : World) (B n gx cap H : Nat) (vs1 vs2 : List Int) (g1 p1 g2 p2 : Nat) (pb : Bool) (b m v : Int) : Prop where
  disk : DiskAt W (B + 1) B n vs1 g1 p1
  ref : RefAt W (B + 2) gx cap n vs2 g2 p2
  old : Below B w W
  box : W.heap[H]? = some (.cells (deedRow pb b m v) 29)
  hg : gx < H
  lo : B ≤ w.heap.size

/-- The document's answers. -/
abbrev okP (n : Nat) (b : Int) (m : Nat) : Prop := 0 ≤ b ∧ b < n ∧ m = 32
def errP (n : Nat) (b : Int) (m : Nat) : Int := if okP n b m then 0 else 101
def putL (n : Nat) (vs : List Int) (b : Int) (ws : List Int) : List Int := if okP n b ws.length then splice vs (b.toNat * 32) ws else vs
def putC (n : Nat) (c : Nat) (b : Int) (m : Nat) : Nat := if okP n b m then c + 1 else c
abbrev okG (n : Nat) (b : Int) : Prop := 0 ≤ b ∧ b < n
def errG (n : Nat) (b : Int) : Int := if okG n b then 0 else 101
def getL (n : Nat) (vs : List Int) (b : Int) : List Int := if okG n b then frameOf vs b.toNat else []
def getC (n : Nat) (c : Nat) (b : Int) : Nat := if okG n b then c + 1 else c
theorem putC_le (n c : Nat) (b : Int) (m k : Nat) (h : c ≤ k) : putC n c b m ≤ k + 1 := by unfold putC; split <;> omega
theorem getC_le (n c : Nat) (b : Int) (k : Nat) (h : c ≤ k) : getC n c b ≤ k + 1 := by unfold getC; split <;> omega

section
variable {w W W' : World} {B n gx cap H : Nat} {vs1 vs2 : List Int} {g1 p1 g2 p2 : Nat} {pb : Bool} {b m v : Int}

theorem Two.cb0 (h : Two w W B n gx cap H vs1 vs2 g1 p1 g2 p2 pb b m v) : W.cell? ⟨H, 0, none⟩ = some (.bool pb) := (deedCells h.box).1
theorem Two.cb1 (h : Two w W B n gx cap H vs1 vs2 g1 p1 g2 p2 pb b m v) : W.cell? ⟨H, 1, none⟩ = some (.int .i64 b) := (deedCells h.box).2.1
theorem Two.cb2 (h : Two w W B n gx cap H vs1 vs2 g1 p1 g2 p2 pb b m v) : W.cell? ⟨H, 2, none⟩ = some (.int .i64 m) := (deedCells h.box).2.2.1
theorem Two.cb3 (h : Two w W B n gx cap H vs1 vs2 g1 p1 g2 p2 pb b m v) : W.cell? ⟨H, 3, none⟩ = some (.int .u64 v) := (deedCells h.box).2.2.2
theorem Two.hs (h : Two w W B n gx cap H vs1 vs2 g1 p1 g2 p2 pb b m v) : H + 1 ≤ W.heap.size := lt_of_heap h.box

theorem Two.below (h : Two w W B n gx cap H vs1 vs2 g1 p1 g2 p2 pb b m v) (k : Below W.heap.size W W') : Two w W' B n gx cap H vs1 vs2 g1 p1 g2 p2 pb b m v :=
  ⟨h.disk.below k, h.ref.below k, h.old.trans (k.mono (Nat.le_trans h.lo (Nat.le_trans h.old.size (Nat.le_refl _)))), (k.block H (lt_of_heap h.box)).trans h.box, h.hg, h.lo⟩
theorem Two.updM {vs' : List Int} {g' p' : Nat} (h : Two w W B n gx cap H vs1 vs2 g1 p1 g2 p2 pb b m v) (u : UpdP (fun k => k = B + 1 ∨ k = B) W W') (d : DiskAt W' (B + 1) B n vs' g' p') : Two w W' B n gx cap H vs' vs2 g' p' g2 p2 pb b m v := by
  have hl := h.ref.low
  have hg := h.hg
  refine ⟨d, h.ref.keep u (fun k hk => by omega), h.old.trans (u.below2 (by omega) (by omega) (Nat.le_trans h.lo h.old.size)), (u.block H (lt_of_heap h.box) (by omega)).trans h.box, h.hg, h.lo⟩
theorem Two.updX {vs' : List Int} {g' p' : Nat} (h : Two w W B n gx cap H vs1 vs2 g1 p1 g2 p2 pb b m v) (u : UpdP (fun k => k = B + 2 ∨ k = gx) W W') (d : RefAt W' (B + 2) gx cap n vs' g' p') : Two w W' B n gx cap H vs1 vs' g1 p1 g' p' pb b m v := by
  have hl := h.ref.low
  have hg := h.hg
  refine ⟨h.disk.keep (u.block _ (lt_of_heap h.disk.head) (by omega)) (u.block _ (lt_of_heap h.disk.row) (by omega)), d, h.old.trans (u.below2 (by omega) (by omega) (Nat.le_trans h.lo h.old.size)), (u.block H (lt_of_heap h.box) (by omega)).trans h.box, h.hg, h.lo⟩

theorem two_block (h : Two w W B n gx cap H vs1 vs2 g1 p1 g2 p2 pb b m v) :
    Calls Try.prog 10 #[.int .i64 m, .int .u64 v] W fun e w' => ∃ u, e = .returned u ∧ URow (H + 1) w' u (blk v (cnt m)) ∧ Two w w' B n gx cap H vs1 vs2 g1 p1 g2 p2 pb b m v ∧ Keeps (H + 1) W w' :=
  (block_row m v W).mono fun e w' ⟨u, he, hr, hb⟩ => ⟨u, he, hr.mono h.hs, h.below hb, Keeps.of_below hb⟩

theorem two_put_m {u : Value} {ws : List Int} (h : Two w W B n gx cap H vs1 vs2 g1 p1 g2 p2 pb b m v) (hu : URow (H + 1) W u ws) (hp : p1 ≤ 1000) :
    Calls Try.prog 9 #[.pointer (some ⟨B + 1, 0, none⟩), .int .i64 b, u] W fun e w' => e = .returned (.int .i64 (errP n b ws.length)) ∧
      Two w w' B n gx cap H (putL n vs1 b ws) vs2 g1 (putC n p1 b ws.length) g2 p2 pb b m v ∧ Keeps (H + 1) W w' := by
  have hl := h.ref.low
  have hg := h.hg
  by_cases ho : okP n b ws.length
  · have ho' := ho
    obtain ⟨h0, h1, h2⟩ := ho'
    unfold errP putL putC
    simp only [if_pos ho]
    refine (put_at (H + 1) _ _ _ _ _ _ _ b u W h.disk h0 h1 hp hu h2 (by omega)).mono fun e w' ⟨he, hd, hup⟩ => ⟨he, h.updM hup hd, Keeps.of_updP hup (fun k hk => by omega)⟩
  · obtain ⟨a, c, rfl⟩ := hu.is
    unfold errP putL putC
    simp only [if_neg ho]
    refine (putno_at _ _ _ _ _ _ b a _ c W h.disk ho).mono fun e w' ⟨he, hw⟩ => ?_
    subst hw
    exact ⟨he, h, Nat.le_refl _, fun _ _ _ => rfl⟩

theorem two_put_x {u : Value} {ws : List Int} (h : Two w W B n gx cap H vs1 vs2 g1 p1 g2 p2 pb b m v) (hu : URow (H + 1) W u ws) (hp : p2 ≤ 1000) :
    Calls Try.prog 11 #[.pointer (some ⟨B + 2, 0, none⟩), .int .i64 b, u] W fun e w' => e = .returned (.int .i64 (errP n b ws.length)) ∧
      Two w w' B n gx cap H vs1 (putL n vs2 b ws) g1 p1 g2 (putC n p2 b ws.length) pb b m v ∧ Keeps (H + 1) W w' := by
  have hl := h.ref.low
  have hg := h.hg
  by_cases ho : okP n b ws.length
  · have ho' := ho
    obtain ⟨h0, h1, h2⟩ := ho'
    unfold errP putL putC
    simp only [if_pos ho]
    refine (rput_at (H + 1) _ _ _ _ _ _ _ _ b u W h.ref h0 h1 hp hu h2 (by omega)).mono fun e w' ⟨he, hd, hup⟩ => ⟨he, h.updX hup hd, Keeps.of_updP hup (fun k hk => by omega)⟩
  · obtain ⟨a, c, rfl⟩ := hu.is
    unfold errP putL putC
    simp only [if_neg ho]
    refine (rputno_at _ _ _ _ _ _ _ b a _ c W h.ref ho).mono fun e w' ⟨he, hw⟩ => ?_
    subst hw
    exact ⟨he, h, Nat.le_refl _, fun _ _ _ => rfl⟩

theorem two_get_m (h : Two w W B n gx cap H vs1 vs2 g1 p1 g2 p2 pb b m v) (hp : g1 ≤ 1000) :
    Calls Try.prog 12 #[.pointer (some ⟨B + 1, 0, none⟩), .int .i64 b] W fun e w' => ∃ u, e = .returned (.tuple #[u, .int .i64 (errG n b)]) ∧ URow (H + 1) w' u (getL n vs1 b) ∧
      Two w w' B n gx cap H vs1 vs2 (getC n g1 b) p1 g2 p2 pb b m v ∧ Keeps (H + 1) W w' := by
  have hl := h.ref.low
  have hg := h.hg
  by_cases ho : okG n b
  · have ho' := ho
    obtain ⟨h0, h1⟩ := ho'
    unfold errG getL getC
    simp only [if_pos ho]
    refine (get_at _ _ _ _ _ _ b W h.disk h0 h1 hp).mono fun e w' ⟨gg, he, hr, hd, hup⟩ => ⟨_, he, hr.mono h.hs, h.updM (hup.p _ (Or.inl rfl)) hd, Keeps.of_updP (hup.p (fun k => k = B + 1) rfl) (fun k hk => by omega)⟩
  · unfold errG getL getC
    simp only [if_neg ho]
    refine (getno_at _ _ _ _ _ _ b W h.disk ho).mono fun e w' ⟨he, hw⟩ => ?_
    subst hw
    exact ⟨_, he, URow.nil _ _, h, Nat.le_refl _, fun _ _ _ => rfl⟩

theorem two_get_x (h : Two w W B n gx cap H vs1 vs2 g1 p1 g2 p2 pb b m v) (hp : g2 ≤ 1000) :
    Calls Try.prog 13 #[.pointer (some ⟨B + 2, 0, none⟩), .int .i64 b] W fun e w' => ∃ u, e = .returned (.tuple #[u, .int .i64 (errG n b)]) ∧ URow (H + 1) w' u (getL n vs2 b) ∧
      Two w w' B n gx cap H vs1 vs2 g1 p1 (getC n g2 b) p2 pb b m v ∧ Keeps (H + 1) W w' := by
  have hl := h.ref.low
  have hg := h.hg
  by_cases ho : okG n b
  · have ho' := ho
    obtain ⟨h0, h1⟩ := ho'
    unfold errG getL getC
    simp only [if_pos ho]
    refine (rget_at _ _ _ _ _ _ _ b W h.ref h0 h1 hp).mono fun e w' ⟨u, he, hr, hd, hup⟩ => ⟨_, he, hr.mono h.hs, h.updX (hup.p _ (Or.inl rfl)) hd, Keeps.of_updP (hup.p (fun k => k = B + 2) rfl) (fun k hk => by omega)⟩
  · unfold errG getL getC
    simp only [if_neg ho]
    refine (rgetno_at _ _ _ _ _ _ _ b W h.ref ho).mono fun e w' ⟨he, hw⟩ => ?_
    subst hw
    exact ⟨_, he, URow.nil _ _, h, Nat.le_refl _, fun _ _ _ => rfl⟩

theorem getL_len (h : Two w W B n gx cap H vs1 vs2 g1 p1 g2 p2 pb b m v) : (getL n vs1 b).length ≤ 1000 := by
  unfold getL
  split
  · simp [frameOf]; omega
  · simp
end

end Go.Proofs.Ytoceadcifgkimaa
