/- januslaw15: Pair, awake. -/
import Derived.Test.YtinjllnoonbjmaaReB
import Derived.Test.YtinjllnoonbjmaaApB
import Derived.Test.YtinjllnoonbjmaaApE
import Derived.Test.YtinjllnoonbjmaaApG
import Derived.OwnWalk
import Derived.Laws.StructEq
namespace Go.Proofs.Ytinjllnoonbjmaa
open Go.RowKit
set_option linter.unusedVariables false

theorem ptr_eq (b : Nat) (W : World) : (binOp .eql 23 (ptr b) (.pointer none)).run Try.prog W = .ok (.bool false) W := by go_simp
theorem rptr_eq (b : Nat) (W : World) : (binOp .eql 24 (ptr b) (.pointer none)).run Try.prog W = .ok (.bool false) W := by go_simp
section
variable {w w' : World} {B G m M : Nat} {F : FS}
theorem bg_below (h : BG B G w w') (h1 : M ≤ B) (h2 : M ≤ G) (hs : M ≤ w.heap.size) : Below M w w' := h.below (fun k hk => by rcases hk with e | e <;> omega) hs
theorem Fs.keep {P : Nat → Prop} (h : Fs w B G F m) (hu : UpdP P w w') (h1 : ¬ P B) (h2 : ¬ P G) : Fs w' B G F m := by
  obtain ⟨vs, h⟩ := h
  obtain ⟨gt, pt, hd, q1, q2⟩ := h.disk
  exact ⟨vs, ⟨gt, pt, hd.keep (hu.block _ (lt_of_heap hd.head) h1) (hu.block _ (lt_of_heap hd.row) h2), q1, q2⟩, h.hold, h.inv⟩
/-- The reference's disk holds a file system. -/
def Es (w : World) (bx gx : Nat) (F : FS) (m : Nat) : Prop := ∃ cap vs, Rk w bx gx cap F.n vs m ∧ Holds vs F
theorem Es.keep {bx gx : Nat} {P : Nat → Prop} (h : Es w bx gx F m) (hu : UpdP P w w') (hp : ∀ k, P k → k < bx) : Es w' bx gx F m := by
  obtain ⟨cap, vs, ⟨gt, pt, hr, q1, q2⟩, hH⟩ := h
  exact ⟨cap, vs, ⟨gt, pt, hr.keep hu hp, q1, q2⟩, hH⟩
theorem Es.below {bx gx : Nat} (h : Es w bx gx F m) (hb : Below w.heap.size w w') : Es w' bx gx F m := by
  obtain ⟨cap, vs, hr, hH⟩ := h
  exact ⟨cap, vs, hr.below hb, hH⟩
/-- Both disks. -/
structure Pr (w : World) (M B G bx gx : Nat) (F : FS) (m : Nat) : Prop where
  fs : Fs w B G F m
  es : Es w bx gx F m
  lo : M ≤ B ∧ M ≤ G ∧ B < bx ∧ G < bx ∧ bx < gx
set_option maxHeartbeats 2000000 in
theorem pair_at (n : Nat) (w : World) (h1 : 13 ≤ n) (h2 : n ≤ 64) :
    Calls Try.prog 9 #[.int .i64 (n : Int)] w fun e w' => ∃ B bx, e = .returned (.tuple #[ptr B, ptr bx, .int .i64 1]) ∧ (∃ G gx, Pr w' w.heap.size B G bx gx (F0 n) 2000) ∧ Below w.heap.size w w' := by
  have hN := Di.new_at (n : Int) w (by omega) (by omega)
  simp only [Int.toNat_natCast] at hN
  go_enter Try.func9, Try.ntmps9
  go_wp2_with fail
  refine hN.mono ?_
  rintro e w1 ⟨rfl, hd1, hb1, hs1⟩
  have hR := Di.rnew_ref (n : Int) w1 (by omega) (by omega)
  simp only [Int.toNat_natCast] at hR
  have HD1 : Hid (Di.DiskAt w1 (w.heap.size + 1) w.heap.size n (List.replicate (n * 32) 0) 0 0) := hd1
  have HB1 : Hid (Below w.heap.size w w1) := hb1
  have HS1 : Hid (w1.heap.size = w.heap.size + 2) := hs1
  obtain ⟨B, hB⟩ : ∃ B, B = w.heap.size + 1 := ⟨_, rfl⟩
  have HBq : Hid (B = w.heap.size + 1) := hB
  rw [← hB] at HD1 ⊢
  clear hN hd1 hb1 hs1 hB
  go_wp2_with fail
  refine hR.mono ?_
  rintro e w2 ⟨rfl, ⟨gx, cap, hr2⟩, hb2⟩
  have hlow := hr2.low
  obtain ⟨bx, hbx⟩ : ∃ b, b = w1.heap.size := ⟨_, rfl⟩
  have Hbx : Hid (bx = w1.heap.size) := hbx
  rw [← hbx] at hr2 ⊢
  have HR2 : Hid (Di.RefAt w2 bx gx cap n (List.replicate (n * 32) 0) 0 0) := hr2
  have HB2 : Hid (Below w1.heap.size w1 w2) := hb2
  have HLo : Hid (w.heap.size ≤ B ∧ w.heap.size ≤ w.heap.size ∧ B < bx ∧ w.heap.size < bx ∧ bx < gx) := by
    have a1 := HBq.out
    have a2 := HS1.out
    show _ ∧ _
    rw [hbx]
    omega
  have hF := format_at (w := w2) (B := B) (G := w.heap.size) (n := n) (m := 0) ⟨0, 0, HD1.out.below hb2, by omega, by omega⟩ (by omega) h1 h2
  have hp1 := ptr_eq B
  have hp2 := rptr_eq bx
  clear hR hr2 hb2 hlow hbx
  go_wp2_with fail
  refine hF.mono ?_
  rintro e w3 ⟨rfl, hfs, hbg⟩
  have hr3 : Di.RefAt w3 bx gx cap n (List.replicate (n * 32) 0) 0 0 := HR2.out.keep hbg (fun k hk => by have := HLo.out; rcases hk with e | e <;> omega)
  have hE := eFormat_at (m := 0) ⟨0, 0, hr3, by omega, by omega⟩ (by omega) h1 h2
  have HFs : Hid (Fs w3 B w.heap.size (F0 n) 2000) := hfs
  have HB3 : Hid (Below w.heap.size w w3) := (HB1.out.trans (HB2.out.mono HB1.out.size)).trans (bg_below hbg HLo.out.1 HLo.out.2.1 (by have := HB1.out.size; have := HB2.out.size; omega))
  clear hF hfs hbg hr3
  go_wp2_with fail
  refine hE.mono ?_
  rintro e w4 ⟨rfl, ⟨vs, hrk, hH⟩, hu4⟩
  have HE : Hid (Pr w4 w.heap.size B w.heap.size bx gx (F0 n) 2000 ∧ Below w.heap.size w w4) := by
    have hl := HLo.out
    refine ⟨⟨HFs.out.keep hu4 (by omega) (by omega), ⟨cap, vs, hrk.mono (by omega), hH⟩, hl⟩, HB3.out.trans (hu4.below (fun k hk => by rcases hk with e | e <;> omega) HB3.out.size)⟩
  clear hE hrk hH hu4
  go_wp2
  go_ret3
  exact ⟨B, bx, rfl, ⟨_, _, HE.out.1⟩, HE.out.2⟩
theorem get_fs (h : Fs w B G F m) (hm : m ≤ 900000) (i : Nat) (hi : i < 32) :
    Calls Try.prog 21 #[sto B, .int .i64 (i : Int)] w fun e w' => e = .returned (.tuple #[.agg (irow (F.ino i).row), .int .i64 0]) ∧ Fs w' B G F (m + 2000) ∧ BG B G w w' := by
  obtain ⟨vs, h⟩ := h
  have hr := h.row hi
  have := get_in h.dk hm h.inv.n1 h.inv.n2 i hi (by rw [hr]; exact h.inv.fit hi)
  rw [hr] at this
  refine this.mono ?_
  rintro e w' ⟨he, hd, hb⟩
  exact ⟨he, ⟨vs, hd, h.hold, h.inv⟩, hb⟩
end
/-- The document's examples. -/
def A1 : FS := allocF (F0 20) 1 1
def A2 : FS := writeF A1 1 30 (nums [97, 98, 99, 100])
def A3 : FS := resizeF A2 1 5
theorem k_l1 : Bi.cntF (Bi.bt (F0 20).iw) 32 = 31 := by decide +kernel
theorem k_l2 : Bi.cntF (Bi.bt (F0 20).bw) (F0 20).n = 8 := by decide +kernel
theorem k_low : Bi.Low (Bi.bt (F0 20).iw) 32 ((1 : Nat) : Int) := Or.inl ⟨1, rfl, by omega, by decide +kernel, by decide +kernel⟩
theorem k_fr : Bi.bt (F0 20).iw 1 = false := by decide +kernel
theorem k_us1 : Bi.bt A1.iw 1 = true := by decide +kernel
theorem k_r1 : roomB A1 1 (max (A1.ino 1).txt.length (30 + [97, 98, 99, 100].length)) = true := by decide +kernel
theorem k_row : (A2.ino 1).row = [1, 0, 34, 12, 13, 0, 0, 0, 0] := by decide +kernel
theorem k_rd : readT A2 1 29 3 = [0, 97, 98] := by decide +kernel
theorem k_us2 : Bi.bt A2.iw 1 = true := by decide +kernel
theorem k_r2 : roomB A2 1 5 = true := by decide +kernel
theorem k_l3 : Bi.cntF (Bi.bt A3.iw) 32 = 30 := by decide +kernel
theorem k_l4 : Bi.cntF (Bi.bt A3.bw) A3.n = 7 := by decide +kernel
set_option maxHeartbeats 4000000 in
set_option maxRecDepth 100000 in
theorem awake_at (w : World) :
    Calls Try.prog 26 #[] w fun e w' => e = .returned (.bool true) ∧ Below w.heap.size w w' := by
  have hP := pair_at 20 w (by omega) (by omega)
  go_enter Try.func26, Try.ntmps26
  go_wp2_with fail
  refine hP.mono ?_
  rintro e w1 ⟨B, bx, rfl, ⟨G, gx, hpr⟩, hb1⟩
  have HL : Hid (w.heap.size ≤ B ∧ w.heap.size ≤ G) := ⟨hpr.lo.1, hpr.lo.2.1⟩
  have H1 : Hid (Fs w1 B G (F0 20) 2000) := hpr.fs
  have HB1 : Hid (Below w.heap.size w w1) := hb1
  clear hP hpr hb1
  have hC := left_at H1.out (by omega)
  rw [k_l1, k_l2] at hC
  go_wp2_with fail
  refine hC.mono ?_
  rintro e w2 ⟨rfl, hf, hbg⟩
  have H2 : Hid (Fs w2 B G (F0 20) 4000) := hf
  have HB2 : Hid (Below w.heap.size w w2) := HB1.out.trans (bg_below hbg HL.out.1 HL.out.2 HB1.out.size)
  clear hC hf hbg H1 HB1
  have hC := alloc_yes H2.out (by omega) 1 ⟨by omega, by omega⟩ 1 (by omega) k_low k_fr
  go_wp2_with fail
  refine hC.mono ?_
  rintro e w3 ⟨rfl, hf, hbg⟩
  have H3 : Hid (Fs w3 B G A1 6000) := hf
  have HB3 : Hid (Below w.heap.size w w3) := HB2.out.trans (bg_below hbg HL.out.1 HL.out.2 HB2.out.size)
  clear hC hf hbg H2 HB2
  have hC := write_yes H3.out (by omega) 1 30 [97, 98, 99, 100] (by omega) k_us1 (by simp) (by simp) k_r1
  go_wp2_with fail
  refine hC.mono ?_
  rintro e w4 ⟨rfl, hf, hbg⟩
  have H4 : Hid (Fs w4 B G A2 8000) := hf
  have HB4 : Hid (Below w.heap.size w w4) := HB3.out.trans (bg_below hbg HL.out.1 HL.out.2 HB3.out.size)
  clear hC hf hbg H3 HB3
  have hC := get_fs H4.out (by omega) 1 (by omega)
  rw [k_row] at hC
  have hirow : irow [1, 0, 34, 12, 13, 0, 0, 0, 0] = #[.int .i64 1, .int .i64 0, .int .i64 34, .int .i64 12, .int .i64 13, .int .i64 0, .int .i64 0, .int .i64 0, .int .i64 0] := rfl
  rw [hirow] at hC
  clear hirow
  go_wp2_with fail
  refine hC.mono ?_
  rintro e w5 ⟨rfl, hf, hbg⟩
  obtain ⟨W6, hW6⟩ : ∃ W, W = w5.alloc (.cells #[.int .i64 1, .int .i64 0, .int .i64 34, .int .i64 12, .int .i64 13, .int .i64 0, .int .i64 0, .int .i64 0, .int .i64 0] 47) := ⟨_, rfl⟩
  have hb6 : Below w5.heap.size w5 W6 := by rw [hW6]; exact below_alloc _ _
  have hp6 : W6.heap[w5.heap.size]? = some (.cells #[.int .i64 1, .int .i64 0, .int .i64 34, .int .i64 12, .int .i64 13, .int .i64 0, .int .i64 0, .int .i64 0, .int .i64 0] 47) := by rw [hW6]; exact heap_alloc_new _ _
  have H6 : Hid (Fs W6 B G A2 10000) := hf.below hb6
  have HB5 : Hid (Below w.heap.size w w5) := HB4.out.trans (bg_below hbg HL.out.1 HL.out.2 HB4.out.size)
  have HB6 : Hid (Below w.heap.size w W6) := HB5.out.trans (hb6.mono HB5.out.size)
  have HP6 : Hid _ := hp6
  have HW6 : Hid _ := hW6
  obtain ⟨p, hp⟩ : ∃ p, p = w5.heap.size := ⟨_, rfl⟩
  have Hp : Hid (p = w5.heap.size) := hp
  rw [← hp] at HP6
  have HpB : Hid (p ≠ B ∧ p ≠ G) := by have := hf.lt; show _ ∧ _; omega
  clear hC hf hbg H4 HB4 hW6 hb6 hp6 hp
  have hC := read_in H6.out (by omega) 1 29 3 (by omega) (by omega) (by omega)
  rw [k_rd] at hC
  go_wp2_with fail
  rw [← HW6.out, ← Hp.out]
  clear HW6
  refine hC.mono ?_
  rintro e w7 ⟨rfl, hf, hbg⟩
  have H7 : Hid (Fs w7 B G A2 12000) := hf
  have HB7 : Hid (Below w.heap.size w w7) := HB6.out.trans (bg_below hbg HL.out.1 HL.out.2 HB6.out.size)
  have HP7 : Hid (w7.heap[p]? = W6.heap[p]?) := hbg.block p (lt_of_heap HP6.out) (by have := HpB.out; omega)
  clear hC hf hbg H6 HB6
  have hC := resize_yes H7.out (by omega) 1 5 (by omega) k_us2 (by omega) k_r2
  go_wp2_with fail
  refine hC.mono ?_
  rintro e w8 ⟨rfl, hf, hbg⟩
  have H8 : Hid (Fs w8 B G A3 14000) := hf
  have HB8 : Hid (Below w.heap.size w w8) := HB7.out.trans (bg_below hbg HL.out.1 HL.out.2 HB7.out.size)
  have HP8 : Hid (w8.heap[p]? = W6.heap[p]?) := (hbg.block p (lt_of_heap (HP7.out.trans HP6.out)) (by have := HpB.out; omega)).trans HP7.out
  clear hC hf hbg H7 HB7
  have hC := left_at H8.out (by omega)
  rw [k_l3, k_l4] at hC
  go_wp2_with fail
  refine hC.mono ?_
  rintro e w9 ⟨rfl, hf, hbg⟩
  have H9 : Hid (Fs w9 B G A3 16000) := hf
  have HB9 : Hid (Below w.heap.size w w9) := HB8.out.trans (bg_below hbg HL.out.1 HL.out.2 HB8.out.size)
  have hp9 : w9.heap[p]? = some (.cells #[.int .i64 1, .int .i64 0, .int .i64 34, .int .i64 12, .int .i64 13, .int .i64 0, .int .i64 0, .int .i64 0, .int .i64 0] 47) := ((hbg.block p (lt_of_heap (HP8.out.trans HP6.out)) (by have := HpB.out; omega)).trans HP8.out).trans HP6.out
  have q2 : w9.cell? ⟨p, 2, none⟩ = some (.int .i64 34) := by rw [cell_of_heap hp9]; rfl
  have q3 : w9.cell? ⟨p, 3, none⟩ = some (.int .i64 12) := by rw [cell_of_heap hp9]; rfl
  have q4 : w9.cell? ⟨p, 4, none⟩ = some (.int .i64 13) := by rw [cell_of_heap hp9]; rfl
  have q5 : w9.cell? ⟨p, 5, none⟩ = some (.int .i64 0) := by rw [cell_of_heap hp9]; rfl
  have q6 : w9.cell? ⟨p, 6, none⟩ = some (.int .i64 0) := by rw [cell_of_heap hp9]; rfl
  have q7 : w9.cell? ⟨p, 7, none⟩ = some (.int .i64 0) := by rw [cell_of_heap hp9]; rfl
  have q8 : w9.cell? ⟨p, 8, none⟩ = some (.int .i64 0) := by rw [cell_of_heap hp9]; rfl
  have heq : ∀ W, (binOp BinOp.eql 45 (.agg #[.int .i64 12, .int .i64 13, .int .i64 0, .int .i64 0, .int .i64 0, .int .i64 0]) (.agg #[.int .i64 12, .int .i64 13, .int .i64 0, .int .i64 0, .int .i64 0, .int .i64 0])).run Try.prog W = .ok (.bool true) W := fun W => by kernel_rfl
  clear hC hf hbg H8 HB8
  have hC := write_big B 1 (by omega) 190 [97, 98, 99] (by simp) (by simp) w9
  have hN := format_nil 20 w9
  go_wp2_with fail
  refine hC.mono ?_
  rintro e w10 ⟨rfl, hw⟩
  rw [hw]
  clear hw w10 hC
  go_wp2_with fail
  refine hN.mono ?_
  rintro e w10 ⟨rfl, hw⟩
  rw [hw]
  clear hw w10 hN
  go_wp2
  go_ret
  exact ⟨rfl, HB9.out⟩
end Go.Proofs.Ytinjllnoonbjmaa
