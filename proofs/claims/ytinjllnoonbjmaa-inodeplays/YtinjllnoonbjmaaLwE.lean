/- Files as plain texts: how many blocks are left behind each call, what a file's text is then. -/
import Derived.Test.YtinjllnoonbjmaaLwG
namespace Go.Proofs.Ytinjllnoonbjmaa
set_option linter.unusedVariables false

theorem cnt_back {n : Nat} : ∀ {l : List Nat} {bw : List Nat}, Bi.Wf n bw → (∀ b ∈ l, b < n ∧ Bi.bt bw b = true) → l.Nodup → Bi.cntF (Bi.bt (back bw l)) n = Bi.cntF (Bi.bt bw) n + l.length
  | [], bw, hw, hl, hn => rfl
  | b0 :: l, bw, hw, hl, hn => by
    obtain ⟨hb0, hu⟩ := hl b0 List.mem_cons_self
    obtain ⟨n1, n2⟩ := List.nodup_cons.1 hn
    have hbt := fun j => Bi.bt_mkW bw b0 j false (hw.at hb0)
    have ih := cnt_back (l := l) (hw.mark hb0 false) (fun b hb => ⟨(hl b (List.mem_cons_of_mem _ hb)).1, by
      rw [hbt, if_neg (fun e => n1 (by rw [← e]; exact hb))]
      exact (hl b (List.mem_cons_of_mem _ hb)).2⟩) n2
    have h1 := cntF_one (f := Bi.bt (Bi.mkW bw b0 false)) (g := Bi.bt bw) (b := b0) (by rw [hbt, if_pos rfl]) hu (fun j hj => by rw [hbt, if_neg hj]) n
    rw [if_pos hb0] at h1
    show Bi.cntF (Bi.bt (back (Bi.mkW bw b0 false) l)) n = _
    rw [ih, h1, List.length_cons]
    omega
/-- Blocks that are left behind a new size. -/
theorem cnt_resize {F : FS} (h : FInv F) {i s : Nat} (hi : i < 32) (hr : roomB F i s = true) : Bi.cntF (Bi.bt (resizeF F i s).bw) F.n + need s = Bi.cntF (Bi.bt F.bw) F.n + (F.ino i).blk.length := by
  have hr' : need s - (F.ino i).blk.length ≤ Bi.cntF (Bi.bt F.bw) F.n := of_decide_eq_true hr
  obtain ⟨g1, g2, g3, g4, g5, g6⟩ := grow_ok h.bw hr'
  have hnd := h.nd i hi
  rw [← List.take_append_drop (need s) (F.ino i).blk, List.nodup_append] at hnd
  have hc := cnt_back (l := (F.ino i).blk.drop (need s)) g2 (fun b hb => by
    obtain ⟨q1, q2, q3⟩ := h.data i hi b (List.mem_of_mem_drop hb)
    refine ⟨q2, ?_⟩
    rw [g5 b (fun hm => by rw [(g3 b hm).2.1] at q3; cases q3)]
    exact q3) hnd.2.1
  show Bi.cntF (Bi.bt (newBw F i s)) F.n + need s = _
  unfold newBw
  rw [hc, List.length_drop]
  omega
theorem cnt_write {F : FS} (h : FInv F) {i o : Nat} {d : List Int} (hi : i < 32) (hr : roomB F i (max (F.ino i).txt.length (o + d.length)) = true) : Bi.cntF (Bi.bt (writeF F i o d).bw) F.n + need (max (F.ino i).txt.length (o + d.length)) = Bi.cntF (Bi.bt F.bw) F.n + (F.ino i).blk.length := cnt_resize h hi hr
theorem cnt_free {F : FS} (h : FInv F) {i : Nat} (hi : i < 32) : Bi.cntF (Bi.bt (freeF F i).bw) F.n = Bi.cntF (Bi.bt F.bw) F.n + (F.ino i).blk.length := by
  have := cnt_resize h (s := 0) hi (by unfold roomB; simp [need])
  have e : need 0 = 0 := rfl
  rw [e, Nat.add_zero] at this
  exact this
theorem resize_txt (F : FS) (i s : Nat) : ((resizeF F i s).ino i).txt = sized (F.ino i).txt s := by
  unfold resizeF
  rw [FS.put_same]
theorem write_txt (F : FS) (i o : Nat) (d : List Int) : ((writeF F i o d).ino i).txt = patch (sized (F.ino i).txt (max (F.ino i).txt.length (o + d.length))) o d := by
  unfold writeF
  show ((FS.put _ _ _ _).ino i).txt = _
  rw [FS.put_same]
  show patch ((resizeF F i _).ino i).txt o d = _
  rw [resize_txt]
theorem patch_nil_all (d : List Int) : patch (sized [] d.length) 0 d = d := by
  unfold patch
  rw [List.take_zero, List.nil_append, Nat.zero_add, List.drop_of_length_le (by rw [sized_len]; exact Nat.le_refl _), List.append_nil]
theorem wr_nil (F : FS) (i : Nat) (o : Int) (h : 0 ≤ o) (h2 : o ≤ 192) : wrR F i o [] = 0 ∧ wrF F i o [] = F := by
  have a1 : ¬ o < 0 := by omega
  have a2 : ¬ 192 < o + (([] : List UInt8).length : Nat) := by simp; omega
  unfold wrR wrF
  rw [if_neg a1, if_neg a1, if_neg a2, if_neg a2, if_pos rfl, if_pos rfl]
  exact ⟨rfl, rfl⟩
theorem wr_yes (F : FS) (i o : Nat) (l : List UInt8) (h2 : o + l.length ≤ 192) (h3 : l ≠ []) (h4 : roomB F i (max (F.ino i).txt.length (o + l.length)) = true) : wrR F i (o : Int) l = 0 ∧ wrF F i (o : Int) l = writeF F i o (nums l) := by
  have a1 : ¬ (o : Int) < 0 := by omega
  have a2 : ¬ 192 < (o : Int) + (l.length : Nat) := by omega
  unfold wrR wrF
  rw [if_neg a1, if_neg a1, if_neg a2, if_neg a2, if_neg h3, if_neg h3, Int.toNat_natCast, if_pos h4, if_pos h4]
  exact ⟨rfl, rfl⟩
theorem rs_yes (F : FS) (i s : Nat) (h2 : s ≤ 192) (h4 : roomB F i s = true) : rsR F i (s : Int) = 0 ∧ rsF F i (s : Int) = resizeF F i s := by
  have a1 : ¬ (s : Int) < 0 := by omega
  have a2 : ¬ 192 < (s : Int) := by omega
  unfold rsR rsF
  rw [if_neg a1, if_neg a1, if_neg a2, if_neg a2, Int.toNat_natCast, if_pos h4, if_pos h4]
  exact ⟨rfl, rfl⟩
/-- A new file. -/
def C1 (n : Nat) : FS := alF (F0 n) 1
theorem alN0 (n : Nat) : alN (F0 n) = 1 := by show alN (F0 0) = 1; decide +kernel
theorem alR0 (n : Nat) : alR (F0 n) = 0 := by unfold alR; rw [alN0]; rfl
theorem alI0 (n : Nat) : alI (F0 n) = 1 := by unfold alI; rw [alN0]; rfl
theorem C1_eq (n : Nat) : C1 n = allocF (F0 n) 1 1 := by unfold C1 alF; rw [alN0]; rfl
theorem C1_us : Bi.bt (C1 40).iw 1 = true := by rw [C1_eq]; decide +kernel
theorem C1_cnt : Bi.cntF (Bi.bt (C1 40).bw) (C1 40).n = 28 := by rw [C1_eq]; decide +kernel
theorem C1_ino (n : Nat) : (C1 n).ino 1 = ⟨1, 0, [], []⟩ := by rw [C1_eq]; rfl
/-- What InodeShrinks reads in the end. -/
structure Shr (l : List UInt8) (to again : Nat) : Prop where
  a : wrR (C1 40) 1 0 l = 0
  b : rsR (wrF (C1 40) 1 0 l) 1 to = 0
  c : rsR (rsF (wrF (C1 40) 1 0 l) 1 to) 1 again = 0
  len : (rdT (rsF (rsF (wrF (C1 40) 1 0 l) 1 to) 1 again) 1 0 192).length = again
  low : ∀ k, k < to → (nums (rdT (rsF (rsF (wrF (C1 40) 1 0 l) 1 to) 1 again) 1 0 192)).getD k 0 = (nums l).getD k 0
  high : ∀ k, to ≤ k → k < again → (nums (rdT (rsF (rsF (wrF (C1 40) 1 0 l) 1 to) 1 again) 1 0 192)).getD k 0 = 0
theorem shr (hC : FInv (C1 40)) (l : List UInt8) (to again : Nat) (h1 : l.length ≤ 192) (h2 : to ≤ l.length) (h3 : to ≤ again) (h4 : again ≤ 192) : Shr l to again := by
  have n1 : need l.length ≤ 6 := need_le h1
  have n2 : need to ≤ need l.length := by unfold need; omega
  have n3 : need again ≤ 6 := need_le h4
  have hc := C1_cnt
  have hi : (C1 40).ino 1 = _ := C1_ino 40
  have hn : (C1 40).n = 40 := rfl
  -- written
  have hw : wrR (C1 40) 1 0 l = 0 ∧ FInv (wrF (C1 40) 1 0 l) ∧ ((wrF (C1 40) 1 0 l).ino 1).txt = nums l ∧ Bi.cntF (Bi.bt (wrF (C1 40) 1 0 l).bw) 40 + need l.length = 28 ∧ (wrF (C1 40) 1 0 l).n = 40 := by
    by_cases e : l = []
    · subst e
      obtain ⟨r1, r2⟩ := wr_nil (C1 40) 1 0 (by omega) (by omega)
      rw [r1, r2]
      refine ⟨rfl, hC, by rw [hi]; rfl, ?_, rfl⟩
      show Bi.cntF (Bi.bt (C1 40).bw) (C1 40).n + 0 = 28
      rw [hc]
    · have hl : (nums l).length = l.length := nums_len l
      have hroom : roomB (C1 40) 1 (max ((C1 40).ino 1).txt.length (0 + l.length)) = true := by
        unfold roomB
        rw [hc, hi]
        refine decide_eq_true ?_
        have e2 : max ([] : List Int).length (0 + l.length) = l.length := by simp
        rw [e2]
        omega
      have hroom2 : roomB (C1 40) 1 (max ((C1 40).ino 1).txt.length (0 + (nums l).length)) = true := by rw [hl]; exact hroom
      obtain ⟨r1, r2⟩ := wr_yes (C1 40) 1 0 l (by omega) e hroom
      have z0 : ((0 : Nat) : Int) = 0 := rfl
      rw [z0] at r1 r2
      rw [r1, r2]
      refine ⟨rfl, ?_, ?_, ?_, rfl⟩
      · exact hC.write (by omega) C1_us (by rw [nums_len]; omega) (nums_byte l) hroom2
      · rw [write_txt, hi]
        have : max ([] : List Int).length (0 + (nums l).length) = (nums l).length := by simp
        rw [this]
        exact patch_nil_all _
      · have := cnt_write hC (i := 1) (o := 0) (d := nums l) (by omega) hroom2
        have e2 : max ((C1 40).ino 1).txt.length (0 + (nums l).length) = l.length := by rw [hi, hl]; simp
        rw [e2, hc, hi, hn] at this
        exact this
  obtain ⟨a1, a2, a3, a4, a5⟩ := hw
  have hu2 : Bi.bt (wrF (C1 40) 1 0 l).iw 1 = true := by rw [(wrF_iw _ _ _ _).1]; exact C1_us
  generalize hF2 : wrF (C1 40) 1 0 l = F2 at *
  have hb2 : (F2.ino 1).blk.length = need l.length := by rw [a2.len 1 (by omega), a3, nums_len]
  have hr3 : roomB F2 1 to = true := by
    unfold roomB
    rw [hb2]
    exact decide_eq_true (by omega)
  have hb := rs_yes F2 1 to (by omega) hr3
  have i3 := a2.resize (i := 1) (s := to) (by omega) hu2 (by omega) hr3
  have c3 := cnt_resize a2 (i := 1) (s := to) (by omega) hr3
  rw [hb2, a5] at c3
  have t3 := resize_txt F2 1 to
  rw [a3] at t3
  have u3 : Bi.bt (resizeF F2 1 to).iw 1 = true := hu2
  have m3 : (resizeF F2 1 to).n = 40 := a5
  generalize hF3 : resizeF F2 1 to = F3 at *
  have hb3 : (F3.ino 1).blk.length = need to := by rw [i3.len 1 (by omega), t3, sized_len]
  have hr4 : roomB F3 1 again = true := by
    unfold roomB
    rw [hb3, m3]
    exact decide_eq_true (by omega)
  have hcc := rs_yes F3 1 again h4 hr4
  have t4 := resize_txt F3 1 again
  rw [t3] at t4
  have hrd : rdT (rsF (rsF F2 1 to) 1 again) 1 0 192 = byts (sized (sized (nums l) to) again) := by
    rw [hb.2, hcc.2]
    unfold rdT
    rw [if_pos ⟨rfl, by omega, by omega⟩]
    show cutB ((resizeF F3 1 again).ino 1).txt 0 192 = _
    rw [t4]
    unfold cutB
    rw [List.drop_zero, List.take_of_length_le (by rw [sized_len]; exact h4)]
  have hby : ∀ y ∈ sized (sized (nums l) to) again, 0 ≤ y ∧ y < 256 := sized_byte (sized_byte (nums_byte l) to) again
  have hgb : nums (byts (sized (sized (nums l) to) again)) = sized (sized (nums l) to) again := nums_byts hby
  refine ⟨a1, by rw [hF2]; exact hb.1, by rw [hF2, hb.2]; exact hcc.1, ?_, ?_, ?_⟩
  all_goals rw [hF2, hrd]
  · rw [byts_len, sized_len]
  · intro k hk
    rw [hgb, sized_get, if_pos (by rw [sized_len]; omega), sized_get, if_pos (by rw [nums_len]; omega)]
  · intro k hk1 hk2
    rw [hgb, sized_get, if_neg (by rw [sized_len]; omega)]
end Go.Proofs.Ytinjllnoonbjmaa
