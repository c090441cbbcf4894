/- Package inode: Read. -/
import Derived.Test.YtinjllnoonbjmaaApC
namespace Go.Proofs.Ytinjllnoonbjmaa
open Go.RowKit
set_option linter.unusedVariables false

section
variable {w w' : World} {B G m : Nat} {F : FS}
set_option maxHeartbeats 1000000 in
theorem read_arg (b : Nat) (i o n : Int) (h : isI i = false ∨ o < 0 ∨ n < 0) (w : World) :
    Calls Try.prog 15 #[sto b, .int .i64 i, .int .i64 o, .int .i64 n] w fun e w' => e = .returned (.tuple #[tx [], .int .i64 101]) ∧ w' = w := by
  have hI := isInode_at i w
  have hni := sto_nil b
  cases hi : isI i with
  | false =>
    rw [hi] at hI
    clear h hi
    go_enter Try.func15, Try.ntmps15
    go_wp2_with fail
    refine hI.mono ?_
    rintro e w1 ⟨rfl, hw⟩
    rw [hw]
    clear hw w1 hI
    go_wp2
    go_ret2
    exact ⟨rfl, rfl⟩
  | true =>
    rw [hi] at hI h
    have hs : o < 0 ∨ (¬ o < 0 ∧ n < 0) := by rcases h with h | h | h; cases h; exact Or.inl h; exact (Decidable.em (o < 0)).imp id (fun q => ⟨q, h⟩)
    clear h hi
    rcases hs with h1 | ⟨h1, h2⟩
    all_goals
      go_enter Try.func15, Try.ntmps15
      go_wp2_with fail
      refine hI.mono ?_
      rintro e w1 ⟨rfl, hw⟩
      rw [hw]
      clear hw w1 hI
      go_wp2
      go_ret2
      exact ⟨rfl, rfl⟩
/-- What Read answers. -/
def readT (F : FS) (i o n : Nat) : List UInt8 := cutB (F.ino i).txt o n
theorem cutB_min (t : List Int) (o n : Nat) : cutB t o (min n (t.length - o)) = cutB t o n := by
  unfold cutB
  congr 1
  by_cases h : n ≤ t.length - o
  · rw [Nat.min_eq_left h]
  · rw [Nat.min_eq_right (by omega), List.take_of_length_le (by rw [List.length_drop]; omega), List.take_of_length_le (by rw [List.length_drop]; omega)]
theorem cutB_zero (t : List Int) (o n : Nat) (h : n = 0 ∨ t.length ≤ o) : cutB t o n = [] := by
  unfold cutB byts
  rcases h with h | h
  · rw [h]; rfl
  · rw [List.drop_eq_nil_of_le h]
    simp
set_option maxHeartbeats 2000000 in
theorem read_in (h : Fs w B G F m) (hm : m ≤ 890000) (i o n : Nat) (hi : i < 32) (ho : o < 9223372036854775808) (hn : n < 9223372036854775808) :
    Calls Try.prog 15 #[sto B, .int .i64 (i : Int), .int .i64 (o : Int), .int .i64 (n : Int)] w fun e w' => e = .returned (.tuple #[tx (readT F i o n), .int .i64 0]) ∧ Fs w' B G F (m + 2000) ∧ BG B G w w' := by
  obtain ⟨vs, h⟩ := h
  have HI : Hid (Holds vs F ∧ FInv F) := ⟨h.hold, h.inv⟩
  have hI := isInode_at (i : Int) w
  rw [isI_nat hi] at hI
  have hni := sto_nil B
  have hO := open_at h (by omega) i hi
  have ho0 : ¬ (o : Int) < 0 := by omega
  have hn0 : ¬ (n : Int) < 0 := by omega
  have HLn : Hid ((F.ino i).txt.length ≤ 192) := h.inv.max i hi
  clear h
  go_enter Try.func15, Try.ntmps15
  go_wp2_with fail
  refine hI.mono ?_
  rintro e w1 ⟨rfl, hw⟩
  rw [hw]
  clear hw w1 hI
  go_wp2_with fail
  refine hO.mono ?_
  rintro e w1 ⟨bf, rfl, hop⟩
  obtain ⟨X, hbf, hbase, hXB, hXG, hopf, hfr⟩ := hop.op hi HI.out.1 HI.out.2
  subst hbf
  have HX : Hid (X.base = w.heap.size ∧ X.B = B ∧ X.G = G) := ⟨hbase, hXB, hXG⟩
  have HFr : Hid (Fr X w w1) := hfr
  have HOp : Hid (OpF w1 X F vs m i) := hopf
  obtain ⟨c0, c1, c2, c3, c4, c5, c6⟩ := hopf.fl.c
  have hbs : X.base ≤ w1.heap.size := by have := hfr.size; omega
  obtain ⟨L, hL⟩ : ∃ L, L = (F.ino i).txt.length := ⟨_, rfl⟩
  have HL : Hid (L = (F.ino i).txt.length) := hL
  have hL192 : L ≤ 192 := by rw [hL]; exact HLn.out
  rw [← hL] at c6
  have hws : IntKind.i64.wrap ((L : Int) - (o : Int)) = (L : Int) - (o : Int) := by
    simp [IntKind.wrap, IntKind.bits, IntKind.signed]
    omega
  by_cases hz : min (n : Int) ((L : Int) - (o : Int)) ≤ 0
  · have hR := fread_no X (o : Int) (min (n : Int) ((L : Int) - (o : Int))) hz w1
    have HT : Hid (readT F i o n = []) := cutB_zero _ _ _ (by rw [← hL]; omega)
    obtain ⟨q, hq⟩ : ∃ q, q = min (n : Int) ((L : Int) - (o : Int)) := ⟨_, rfl⟩
    rw [← hq] at hR
    have hq' : min (n : Int) ((L : Int) - (o : Int)) = q := hq.symm
    clear hO hop hbase hXB hXG hopf hfr c0 c1 c2 c3 c4 c5 hL hz hq
    go_wp2_with fail
    refine hR.mono ?_
    rintro e w2 ⟨rfl, hw⟩
    rw [hw]
    clear hw w2 hR
    go_wp2
    go_ret2
    obtain ⟨h1, h2, h3⟩ := HX.out
    obtain ⟨gt, pt, hk, q1, q2⟩ := HOp.out.fl.dr.disk
    rw [h2, h3, HOp.out.n] at hk
    exact ⟨by rw [HT.out]; rfl, ⟨vs, ⟨gt, pt, hk, by omega, by omega⟩, HI.out.1, HI.out.2⟩, bg_fr HFr.out (by omega) h2⟩
  · obtain ⟨k, hk⟩ : ∃ k : Nat, (k : Int) = min (n : Int) ((L : Int) - (o : Int)) := ⟨(min (n : Int) ((L : Int) - (o : Int))).toNat, by omega⟩
    have hkn : k = min n (L - o) := by omega
    have hR := fread_at hopf hbs hm o k (by omega) (by rw [← hL]; omega)
    have HT : Hid (cutB (F.ino i).txt o k = readT F i o n) := by
      show _ = _
      unfold readT
      rw [hkn, hL]
      exact cutB_min _ _ _
    rw [HT.out] at hR
    have hk' : min (n : Int) ((L : Int) - (o : Int)) = (k : Int) := hk.symm
    clear hO hop hbase hXB hXG hopf hfr c0 c1 c2 c3 c4 c5 hL hz hk hkn
    go_wp2_with fail
    refine hR.mono ?_
    rintro e w2 ⟨rfl, hd2, hfr2⟩
    have HE : Hid (Fs w2 B G F (m + 2000) ∧ BG B G w w2) := by
      obtain ⟨h1, h2, h3⟩ := HX.out
      obtain ⟨gt, pt, hk, q1, q2⟩ := hd2
      rw [h2, h3, HOp.out.n] at hk
      exact ⟨⟨vs, ⟨gt, pt, hk, by omega, by omega⟩, HI.out.1, HI.out.2⟩, bg_fr (HFr.out.trans hfr2) (by omega) h2⟩
    clear hR hd2 hfr2
    go_wp2
    go_ret2
    exact ⟨rfl, HE.out.1, HE.out.2⟩
end
end Go.Proofs.Ytinjllnoonbjmaa
