/- Package inode: each call on a file system, whatever its arguments, as one function of plain data. -/
import Derived.Test.YtinjllnoonbjmaaLwA
import Derived.Test.YtinjllnoonbjmaaApD
namespace Go.Proofs.Ytinjllnoonbjmaa
open Go.RowKit
set_option linter.unusedVariables false

/-- What Resize answers, and leaves. -/
def rsR (F : FS) (i : Nat) (s : Int) : Int := if s < 0 then 101 else if 192 < s then 27 else if roomB F i s.toNat = true then 0 else 28
def rsF (F : FS) (i : Nat) (s : Int) : FS := if s < 0 then F else if 192 < s then F else if roomB F i s.toNat = true then resizeF F i s.toNat else F
/-- What Write does. -/
def wrR (F : FS) (i : Nat) (o : Int) (l : List UInt8) : Int := if o < 0 then 101 else if 192 < o + l.length then 27 else if l = [] then 0 else if roomB F i (max (F.ino i).txt.length (o.toNat + l.length)) = true then 0 else 28
def wrF (F : FS) (i : Nat) (o : Int) (l : List UInt8) : FS := if o < 0 then F else if 192 < o + l.length then F else if l = [] then F else if roomB F i (max (F.ino i).txt.length (o.toNat + l.length)) = true then writeF F i o.toNat (nums l) else F
/-- What Read does. -/
def rdR (i o n : Int) : Int := if isI i = true ∧ 0 ≤ o ∧ 0 ≤ n then 0 else 101
def rdT (F : FS) (i o n : Int) : List UInt8 := if isI i = true ∧ 0 ≤ o ∧ 0 ≤ n then readT F i.toNat o.toNat n.toNat else []
/-- What Get does. -/
def gtR (i : Int) : Int := if isI i = true then 0 else 101
def gtX (F : FS) (i : Int) : List Int := if isI i = true then (F.ino i.toNat).row else List.replicate 9 0
/-- What Alloc does. -/
def alN (F : FS) : Nat := lowN (Bi.bt F.iw) 32
def alR (F : FS) : Int := if alN F < 32 then 0 else 28
def alI (F : FS) : Int := if alN F < 32 then (alN F : Int) else 0
def alF (F : FS) (kind : Int) : FS := if alN F < 32 then allocF F (alN F) kind else F
section
variable {w w' : World} {B G m : Nat} {F : FS}
theorem BG.of_same (w : World) : BG B G w w := UpdP.refl _ _
theorem resize_all (h : Fs w B G F m) (hm : m ≤ 900000) (i : Nat) (hi : i < 32) (hu : Bi.bt F.iw i = true) (s : Int) :
    Calls Try.prog 19 #[sto B, .int .i64 (i : Int), .int .i64 s] w fun e w' => e = .returned (.int .i64 (rsR F i s)) ∧ Fs w' B G (rsF F i s) (m + 2000) ∧ BG B G w w' := by
  unfold rsR rsF
  by_cases h0 : s < 0
  · rw [if_pos h0, if_pos h0]
    refine (resize_arg B i s (Or.inr h0) w).mono ?_
    rintro e w' ⟨he, rfl⟩
    exact ⟨he, h.mono (by omega), UpdP.refl _ _⟩
  · rw [if_neg h0, if_neg h0]
    by_cases h1 : 192 < s
    · rw [if_pos h1, if_pos h1]
      refine (resize_big B i hi s h1 w).mono ?_
      rintro e w' ⟨he, rfl⟩
      exact ⟨he, h.mono (by omega), UpdP.refl _ _⟩
    · rw [if_neg h1, if_neg h1]
      obtain ⟨k, rfl⟩ := nat_of s (by omega)
      rw [Int.toNat_natCast]
      cases hr : roomB F i k with
      | true => exact resize_yes h hm i k hi hu (by omega) hr
      | false => exact resize_no h hm i k hi (by omega) hr
theorem write_all (h : Fs w B G F m) (hm : m ≤ 900000) (i : Nat) (hi : i < 32) (hu : Bi.bt F.iw i = true) (o : Int) (l : List UInt8) (hl : l.length ≤ 9223372036854775807) :
    Calls Try.prog 17 #[sto B, .int .i64 (i : Int), .int .i64 o, tx l] w fun e w' => e = .returned (.int .i64 (wrR F i o l)) ∧ Fs w' B G (wrF F i o l) (m + 2000) ∧ BG B G w w' := by
  unfold wrR wrF
  by_cases h0 : o < 0
  · rw [if_pos h0, if_pos h0]
    refine (write_arg B i o l (Or.inr h0) w).mono ?_
    rintro e w' ⟨he, rfl⟩
    exact ⟨he, h.mono (by omega), UpdP.refl _ _⟩
  · rw [if_neg h0, if_neg h0]
    obtain ⟨k, rfl⟩ := nat_of o (by omega)
    rw [Int.toNat_natCast]
    by_cases h1 : 192 < (k : Int) + l.length
    · rw [if_pos h1, if_pos h1]
      refine (write_big B i hi k l hl h1 w).mono ?_
      rintro e w' ⟨he, rfl⟩
      exact ⟨he, h.mono (by omega), UpdP.refl _ _⟩
    · rw [if_neg h1, if_neg h1]
      by_cases h2 : l = []
      · rw [if_pos h2, if_pos h2]
        subst h2
        refine (write_none B i hi k (by simp at h1; omega) w).mono ?_
        rintro e w' ⟨he, rfl⟩
        exact ⟨he, h.mono (by omega), UpdP.refl _ _⟩
      · rw [if_neg h2, if_neg h2]
        cases hr : roomB F i (max (F.ino i).txt.length (k + l.length)) with
        | true => exact write_yes h hm i k l hi hu h2 (by omega) hr
        | false => exact write_no h hm i k l hi h2 (by omega) hr
theorem read_all (h : Fs w B G F m) (hm : m ≤ 890000) (i o n : Int) (ho : o < 9223372036854775808) (hn : n < 9223372036854775808) :
    Calls Try.prog 15 #[sto B, .int .i64 i, .int .i64 o, .int .i64 n] w fun e w' => e = .returned (.tuple #[tx (rdT F i o n), .int .i64 (rdR i o n)]) ∧ Fs w' B G F (m + 2000) ∧ BG B G w w' := by
  unfold rdT rdR
  by_cases hg : isI i = true ∧ 0 ≤ o ∧ 0 ≤ n
  · rw [if_pos hg, if_pos hg]
    obtain ⟨i, rfl, hi⟩ := isI_of hg.1
    obtain ⟨o, rfl⟩ := nat_of o hg.2.1
    obtain ⟨n, rfl⟩ := nat_of n hg.2.2
    simp only [Int.toNat_natCast]
    exact read_in h hm i o n hi (by omega) (by omega)
  · rw [if_neg hg, if_neg hg]
    refine (read_arg B i o n ?_ w).mono ?_
    · cases hi : isI i with
      | false => exact Or.inl rfl
      | true => exact Or.inr (by by_cases q : o < 0; exact Or.inl q; exact Or.inr (by rcases Int.lt_or_le n 0 with q2 | q2; exact q2; exact absurd ⟨hi, by omega, q2⟩ hg))
    · rintro e w' ⟨he, rfl⟩
      exact ⟨he, h.mono (by omega), UpdP.refl _ _⟩
theorem get_all (h : Fs w B G F m) (hm : m ≤ 900000) (i : Int) :
    Calls Try.prog 21 #[sto B, .int .i64 i] w fun e w' => e = .returned (.tuple #[.agg (irow (gtX F i)), .int .i64 (gtR i)]) ∧ Fs w' B G F (m + 2000) ∧ BG B G w w' := by
  unfold gtX gtR
  cases hi : isI i with
  | true =>
    obtain ⟨i, rfl, hi2⟩ := isI_of hi
    exact get_fs h hm i hi2
  | false =>
    refine (get_out B i hi w).mono ?_
    rintro e w' ⟨he, hb⟩
    exact ⟨he, (h.below hb).mono (by omega), UpdP.of_below hb⟩
theorem gtX_len (hF : FInv F) (i : Int) : (gtX F i).length = 9 := by
  unfold gtX
  cases hi : isI i with
  | true =>
    obtain ⟨i, rfl, hi2⟩ := isI_of hi
    exact Ino.row_len (hF.six (by simpa using hi2))
  | false => rfl
theorem alloc_all (h : Fs w B G F m) (hm : m ≤ 900000) (kind : Int) (hk : Fit kind) :
    Calls Try.prog 11 #[sto B, .int .i64 kind] w fun e w' => e = .returned (.tuple #[.int .i64 (alI F), .int .i64 (alR F)]) ∧ Fs w' B G (alF F kind) (m + 2000) ∧ BG B G w w' := by
  unfold alI alR alF
  by_cases hr : alN F < 32
  · rw [if_pos hr, if_pos hr, if_pos hr]
    obtain ⟨h1, h2⟩ := lowN_hit hr
    exact alloc_yes h hm kind hk (alN F) hr (Or.inl ⟨_, rfl, hr, h2, h1⟩) h1
  · rw [if_neg hr, if_neg hr, if_neg hr]
    exact alloc_no h hm kind (lowN_none (by have := lowN_le (Bi.bt F.iw) 32; unfold alN at hr; omega))
theorem rsR_arg (F : FS) (i : Nat) (s : Int) : (rsR F i s == 101) = decide (s < 0) := by
  unfold rsR
  by_cases h : s < 0
  · simp [h]
  · rw [if_neg h, decide_eq_false h]
    split
    · rfl
    · split <;> rfl
theorem rsR_big (F : FS) (i : Nat) (s : Int) : (rsR F i s == 27) = decide (192 < s) := by
  unfold rsR
  by_cases h : s < 0
  · rw [if_pos h, decide_eq_false (by omega)]
    rfl
  · rw [if_neg h]
    by_cases h1 : 192 < s
    · rw [if_pos h1, decide_eq_true h1]
      rfl
    · rw [if_neg h1, decide_eq_false h1]
      split <;> rfl
theorem wrR_arg (F : FS) (i : Nat) (o : Int) (l : List UInt8) : (wrR F i o l == 101) = decide (o < 0) := by
  unfold wrR
  by_cases h : o < 0
  · simp [h]
  · rw [if_neg h, decide_eq_false h]
    split
    · rfl
    · split
      · rfl
      · split <;> rfl
theorem wrR_big (F : FS) (i : Nat) (o : Int) (l : List UInt8) : (wrR F i o l == 27) = (decide (0 ≤ o) && decide (192 < o + l.length)) := by
  unfold wrR
  by_cases h : o < 0
  · rw [if_pos h, decide_eq_false (show ¬ 0 ≤ o by omega)]
    rfl
  · rw [if_neg h, decide_eq_true (show 0 ≤ o by omega), Bool.true_and]
    by_cases h1 : 192 < o + l.length
    · rw [if_pos h1, decide_eq_true h1]
      rfl
    · rw [if_neg h1, decide_eq_false h1]
      split
      · rfl
      · split <;> rfl
/-- Whoever is in use stays so. -/
theorem wrF_iw (F : FS) (i : Nat) (o : Int) (l : List UInt8) : (wrF F i o l).iw = F.iw ∧ (wrF F i o l).n = F.n := by
  unfold wrF
  split
  · exact ⟨rfl, rfl⟩
  · split
    · exact ⟨rfl, rfl⟩
    · split
      · exact ⟨rfl, rfl⟩
      · split <;> exact ⟨rfl, rfl⟩
theorem rsF_iw (F : FS) (i : Nat) (s : Int) : (rsF F i s).iw = F.iw ∧ (rsF F i s).n = F.n := by
  unfold rsF
  split
  · exact ⟨rfl, rfl⟩
  · split
    · exact ⟨rfl, rfl⟩
    · split <;> exact ⟨rfl, rfl⟩
end
/-- A deed. -/
structure Deed where
  kind : Int
  i : Int
  off : Int
  n : Int
  s : List UInt8
def I64 (n : Int) : Prop := -9223372036854775808 ≤ n ∧ n ≤ 9223372036854775807
structure Deed.Fit (d : Deed) : Prop where
  i : I64 d.i
  off : I64 d.off
  n : I64 d.n
  s : d.s.length ≤ 9223372036854775807
abbrev deedRow (d : Deed) : Array Value := #[.int .i64 d.kind, .int .i64 d.i, .int .i64 d.off, .int .i64 d.n, tx d.s]
theorem deedCells {w : World} {g : Nat} {d : Deed} {t : TypeId} (h : w.heap[g]? = some (.cells (deedRow d) t)) :
    w.cell? ⟨g, 0, none⟩ = some (.int .i64 d.kind) ∧ w.cell? ⟨g, 1, none⟩ = some (.int .i64 d.i) ∧ w.cell? ⟨g, 2, none⟩ = some (.int .i64 d.off) ∧ w.cell? ⟨g, 3, none⟩ = some (.int .i64 d.n) ∧ w.cell? ⟨g, 4, none⟩ = some (tx d.s) := by
  refine ⟨?_, ?_, ?_, ?_, ?_⟩ <;> (rw [cell_of_heap h]; rfl)
end Go.Proofs.Ytinjllnoonbjmaa
