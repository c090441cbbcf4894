/- Package inode: a file's take, drop, lacks, close. -/
import Derived.Test.YtinjllnoonbjmaaInoL
namespace Go.Proofs.Ytinjllnoonbjmaa
open Go.RowKit
set_option linter.unusedVariables false

theorem low_lowN {bw : List Nat} {n : Nat} (h : 0 < Bi.cntF (Bi.bt bw) n) : Bi.Low (Bi.bt bw) n ((lowN (Bi.bt bw) n : Nat) : Int) := by
  have hlt := lowN_lt h
  obtain ⟨h1, h2⟩ := lowN_hit hlt
  exact Or.inl ⟨_, rfl, hlt, h2, h1⟩
section
variable {w w' : World} {X : FX} {vs ws : List Int} {m : Nat} {iw bw : List Nat} {kd lk sz : Int} {bl : List Nat}
theorem wpList_store_midQ {base bd B G n m b q : Nat} {vs ws : List Int} {ops : Array Oper} {rest : List Oper} {op : Oper} {a : Act} {w : World} {Q : Exit → Act → World → Prop} (h : DrQ w base bd B G n vs ws m b q) (hgd : op.guard = none) (x y : Operand) (ho : op.op = .store 117 x y) (R : Array Value) (hx : a.eval x = .pointer (some ⟨q, 33, none⟩)) (hy : a.eval y = .agg R) (hs : R.size = 32) (h1 : R.all (·.oneCell') = true)
    (hk : wpList Try.prog ops Q rest (a.put op.dst undef) (w.setCells q 33 R.toList)) : wpList Try.prog ops Q (op :: rest) a w :=
  wpList_store_mid hgd 117 x y ho q 33 R hx hy (by rw [hs]; exact h.there) (by rw [hs]; exact contSize) h1 hk
set_option maxHeartbeats 1000000 in
set_option maxRecDepth 100000 in
theorem ftake_at (h : FlAt w X vs ws m iw bw kd lk sz bl) (hm : m ≤ 900000) (k : Nat) (hk : k < 6) (hc : 0 < Bi.cntF (Bi.bt bw) X.n) :
    Calls Try.prog 78 #[ptr X.bf, .int .i64 (k : Int)] w fun e w' => e = .returned (.tuple #[]) ∧ FlAt w' X vs (splice ws (lowN (Bi.bt bw) X.n * 32) (List.replicate 32 0)) m iw (Bi.mkW bw (lowN (Bi.bt bw) X.n) true) kd lk sz (bl.set k (lowN (Bi.bt bw) X.n)) ∧ Fr X w w' := by
  obtain ⟨c0, c1, c2, c3, c4, c5, c6⟩ := h.c
  obtain ⟨b, hb⟩ : ∃ b, b = lowN (Bi.bt bw) X.n := ⟨_, rfl⟩
  have hT := Bi.take_at X.hb X.gb X.n bw b w h.bm.bb (by rw [hb]; exact low_lowN hc)
  have hbn : b < X.n := by rw [hb]; exact lowN_lt hc
  rw [← hb]
  have htk : Bi.takeW bw (b : Int) = Bi.mkW bw b true := by simp [Bi.takeW]
  rw [htk] at hT
  have HH : Hid (FlAt w X vs ws m iw bw kd lk sz bl) := h
  have hki : (k : Int) < 6 := by omega
  clear h htk hb hc
  go_enter Try.func78, Try.ntmps78
  go_wp2_with fail
  refine hT.mono ?_
  rintro e w1 ⟨rfl, hB1, hu1⟩
  obtain ⟨h1, f1⟩ := HH.out.setbw hB1 hu1
  have HF1 : Hid (Fr X w w1) := f1
  have cb := h1.blk hk
  have fz := h1.free (7 + k)
  obtain ⟨h2, f2⟩ := h1.setb (b := b) hk
  obtain ⟨e0, e1, e2, e3, e4, e5, e6⟩ := h2.c
  obtain ⟨W2, hW2⟩ : ∃ W, W = w1.setCell ⟨X.bf, 7 + k, none⟩ (.int .i64 ((b : Nat) : Int)) := ⟨_, rfl⟩
  have HW2 : Hid _ := hW2
  rw [← hW2] at h2 f2 e0
  have hA := dat_at h2.dr b hbn hm
  have H2 : Hid (FlAt W2 X vs ws m iw (Bi.mkW bw b true) kd lk sz (bl.set k b)) := h2
  have HF2 : Hid (Fr X w W2) := HF1.out.trans f2
  obtain ⟨d0, d1, d2, d3, d4, d5, d6⟩ := h1.c
  generalize bl.getD k 0 = b' at *
  clear hT hB1 hu1 h1 h2 f1 f2 c0 c1 c2 c3 c4 c5 c6 e0 e1 e2 e3 e4 e5 e6 hW2 d1 d2 d3 d4 d5 d6
  go_wp2_with fail
  rw [← HW2.out]
  refine hA.mono ?_
  rintro e w3 ⟨q, rfl, hq, hdt⟩
  have HQ : Hid (DrQ w3 X.base X.bd X.B X.G X.n vs ws m b q) := hq
  have HT3 : Hid (DT X.base X.B W2 w3) := hdt
  have hbz := build_zero
  have HZs : Hid (zc.size = 32) := by unfold zc; rw [urow_size]; simp [Hid]
  have hz := lit_zc
  clear hA hq hdt cb fz d0
  go_wp2_with (first
    | (refine wpList_store_midQ HQ.out rfl _ _ rfl zc rfl rfl HZs.out (urow_one _) ?_)
    | go_in)
  go_end0
  obtain ⟨r1, r2⟩ := HQ.out.cells (us := List.replicate 32 0) (R := zc) (by simp) rfl
  have t := HT3.out.trans r2
  exact ⟨rfl, H2.out.dt r1.dr t, HF2.out.trans t.fr⟩
end
end Go.Proofs.Ytinjllnoonbjmaa
