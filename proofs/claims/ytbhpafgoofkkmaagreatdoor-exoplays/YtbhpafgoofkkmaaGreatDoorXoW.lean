import Derived.Test.YtbhpafgoofkkmaaGreatDoorXoK
import Derived.Test.YtbhpafgoofkkmaaGreatDoorXoSees
set_option linter.all false
namespace Go.Proofs.YtbhpafgoofkkmaaGreatDoor
open Go.RowKit
theorem lit_rdv {w : World} {Kb X n : Nat} {L : XL} {S : XS} {ws : List Int} (hE : ExoAt w Kb L S) (hX : w.heap[X]? = some (.cells (urow ws) 42)) (hn : ws.length = n) : ∀ w', XTch L True w w' → RdV w' (.slice (some ⟨X, 0, none⟩) n n) ws := by
 intro w' ht
 have h2 := ht.other hE hX (by decide)
 subst hn
 refine ⟨_, _, rfl, Nat.le_refl _, fun j x hj => ⟨X, 0, rfl, ?_⟩⟩
 rw [cell_of_heap h2, Nat.zero_add]
 simp [urow, hj]
theorem Frm.pos {w : World} (h : Frm w) : 0 < w.heap.size := cell_lt (h 0 (by decide)).1
def A1 : XS := { S0 3 13 with E := En.createT (S0 3 13).E 1 }
def A2 : XS := (rawS A1 1 [0] none 0).1
def A3 : XS := (rawS A2 1 [10, 1, 3, 9] none 0).1
theorem a1_env : En.createR (S0 3 13).E 1 = 0 := by kernel_rfl
theorem a2_raw (a' : Option Addr) (c' : Nat) : rawS A1 1 [0] a' c' = (A2, [1], 0) := by kernel_rfl
theorem a3_raw (a' : Option Addr) (c' : Nat) : rawS A2 1 [10, 1, 3, 9] a' c' = (A3, [], 0) := by kernel_rfl
theorem a4_raw (a' : Option Addr) (c' : Nat) : rawS A3 1 [9, 1, 3] a' c' = (A3, [9], 0) := by kernel_rfl
theorem a5_raw (a' : Option Addr) (c' : Nat) : rawS A3 1 [99] a' c' = (A3, [], 101) := by kernel_rfl
theorem a6_raw (a' : Option Addr) (c' : Nat) : rawS A3 2 [0] a' c' = (A3, [], 101) := by kernel_rfl
theorem a7_sees : (seesV A3 1).length = 37 := by kernel_rfl
theorem a8_frame : (frmW A3.n A3.vs 0).length = 32 := by kernel_rfl
theorem a9_block : (Xd.wordsW A3.d A3.l A3.ds 12).length = 32 := by kernel_rfl
theorem lit_raw {w : World} {Kb : Nat} {L : XL} {S : XS} (h : ExoAt w Kb L S) (hF : Frm w) (hi : XI S) (hm : S.m ≤ 900000) (e : Int) (ws : List Int) (n : Nat) (hn : ws.length = n) (hu : U64s ws) (S' : XS) (ans : List Int) (err : Int) (hq : ∀ a' c', rawS S e ws a' c' = (S', ans, err)) :
  Calls Tryz.prog 9 #[ptr Kb, .int .i64 e, .slice (some ⟨w.heap.size, 0, none⟩) n n] (w.alloc (.cells (urow ws) 42)) fun x w' => ∃ a k c, x = .returned (.tuple #[.slice a k c, .int .i64 err]) ∧ URow w.heap.size w' (.slice a k c) ans ∧ ExoAt w' Kb L S' ∧ XTch L True w w' := by
 have hb := Ca.below_alloc w (.cells (urow ws) 42)
 have hE := h.below hb
 refine (rawx_at hE (hF.below hF.pos hb) hi e _ ws (lit_rdv hE (heap_alloc_new _ _) hn) hu hm).mono ?_
 rintro x w' ⟨a', c', _, a, k, c, h1, h2, h3, h4⟩
 rw [hq] at h1 h2 h3
 exact ⟨a, k, c, h1, h2.mono hb.size, h3, (XTch.of_below hb).trans (h4.mono fun _ => trivial)⟩
theorem u64s_lit {ws : List Int} (h : (ws.all fun x => decide (0 ≤ x) && decide (x < 18446744073709551616)) = true) : U64s ws := by
 rw [List.all_eq_true] at h
 intro x hx
 have := h x hx
 simp only [Bool.and_eq_true, decide_eq_true_eq] at this
 exact this
theorem U64s.nil : U64s [] := fun x h => by cases h
theorem URow.tch {M Kb : Nat} {w w' : World} {L : XL} {S : XS} {i : Prop} {v : Value} {xs : List Int} (h : URow M w v xs) (ht : XTch L i w w') (hx : ExoAt w Kb L S) : URow M w' v xs := by
 obtain ⟨a, cap, e, h1, h2, hf⟩ := h
 refine ⟨a, cap, e, h1, h2, fun hne => ?_⟩
 obtain ⟨g, cur, ea, hm, hh, hc⟩ := hf hne
 exact ⟨g, cur, ea, hm, ht.other hx hh (by decide), hc⟩
theorem frm_mv (S : XS) (m : Nat) (f : Int) : frmW (S.mv m).n (S.mv m).vs f = frmW S.n S.vs f := rfl
theorem words_mv (S : XS) (m : Nat) (f : Int) : Xd.wordsW (S.mv m).d (S.mv m).l (S.mv m).ds f = Xd.wordsW S.d S.l S.ds f := rfl
theorem exo_ne (b : Nat) (W : World) : (binOp .eql 23 (ptr b) (.pointer none)).run Tryz.prog W = .ok (.bool false) W := by kernel_rfl
theorem lit_row {w : World} {M : Nat} (ws : List Int) (n : Nat) (hn : ws.length = n) (hM : M ≤ w.heap.size) : Ip.Rd (w.alloc (.cells (urow ws) 42)) (some ⟨w.heap.size, 0, none⟩) ws := by
 intro j x hj
 refine ⟨w.heap.size, 0, rfl, ?_⟩
 rw [cell_of_heap (heap_alloc_new _ _), Nat.zero_add]
 simp [urow, hj]
set_option maxHeartbeats 1000000 in
theorem awake_at (w : World) (hF : Frm w) :
  Calls Tryz.prog 14 #[] w fun e w' => e = .returned (.bool true) ∧ Below w.heap.size w w' := by
 have hN := xonew_at 3 13 w (by omega) (by omega) (by omega) (by omega)
 have HF : Hid (Frm w) := hF
 clear hF
 go_enter Tryz.func14, Tryz.ntmps14
 go_wp2_with fail
 refine hN.mono ?_
 rintro x w1 ⟨K, L, rfl, hE1, hb1, hK1, hL1⟩
 have hC := xcreate_at hE1 1
 have q1 := exo_ne K
 have HL : Hid (XLow L w.heap.size) := hL1
 have HB1 : Hid _ := hb1
 clear hE1 hb1 hK1 hL1 hN
 go_wp2_with fail
 refine hC.mono ?_
 rintro x w2 ⟨rfl, hE2, hu2⟩
 have hb2 : Below w.heap.size w w2 := HB1.out.trans (hu2.below (fun k hk => by rcases hk with e | e; rw [e]; exact HL.out.e; rw [e]; exact HL.out.g) HB1.out.size)
 have hE2' : ExoAt w2 K L A1 := hE2
 have hR3 := lit_raw hE2' (HF.out.below (Frm.pos HF.out) hb2) (XI.env (XI.zero 3 13) _) (Nat.zero_le _) 1 [0] 1 rfl (u64s_lit rfl) A2 [1] 0 a2_raw
 have HB2 : Hid _ := hb2
 have hz : En.createR (S0 ((3 : Int).toNat) ((13 : Int).toNat)).E 1 = 0 := a1_env
 rw [hz]
 clear hE2 hE2' hu2 hb2 hC hz HB1
 go_wp2_with fail
 refine hR3.mono ?_
 rintro x w3 ⟨a3, n3, c3, rfl, hr3, hE3, ht3⟩
 have hb3 : Below w.heap.size w w3 := HB2.out.trans ((ht3.below HL.out.f HL.out.x HL.out.i HB2.out.size))
 have hR4 := lit_raw hE3 (HF.out.below (Frm.pos HF.out) hb3) ⟨fun e _ p x h => (by cases h), fun j _ m hm => (by cases hm)⟩ (Nat.zero_le _) 1 [10, 1, 3, 9] 4 rfl (u64s_lit rfl) A3 [] 0 a3_raw
 have HB3 : Hid _ := hb3
 have HR3 : Hid (URow 0 w3 (.slice a3 n3 c3) [1]) := hr3.mono (Nat.zero_le _)
 have HE3 : Hid _ := hE3
 clear hE3 ht3 hb3 hR3 HB2 hr3
 go_wp2_with fail
 refine hR4.mono ?_
 rintro x w4 ⟨a4, n4, c4, rfl, hr4, hE4, ht4⟩
 have hb4 : Below w.heap.size w w4 := HB3.out.trans ((ht4.below HL.out.f HL.out.x HL.out.i HB3.out.size))
 have hR5 := lit_raw hE4 (HF.out.below (Frm.pos HF.out) hb4) ⟨fun e _ p x h => (by cases h), fun j _ m hm => (by cases hm)⟩ (Nat.zero_le _) 1 [9, 1, 3] 3 rfl (u64s_lit rfl) A3 [9] 0 a4_raw
 have HB4 : Hid _ := hb4
 have HR3b : Hid (URow 0 w4 (.slice a3 n3 c3) [1]) := URow.tch HR3.out ht4 HE3.out
 have HE4 : Hid _ := hE4
 clear hE4 ht4 hb4 hR4 HB3 hr4 HR3 HE3
 go_wp2_with fail
 refine hR5.mono ?_
 rintro x w5 ⟨a5, n5, c5, rfl, hr5, hE5, ht5⟩
 have hb5 : Below w.heap.size w w5 := HB4.out.trans ((ht5.below HL.out.f HL.out.x HL.out.i HB4.out.size))
 have hR6 := lit_raw hE5 (HF.out.below (Frm.pos HF.out) hb5) ⟨fun e _ p x h => (by cases h), fun j _ m hm => (by cases hm)⟩ (Nat.zero_le _) 1 [99] 1 rfl (u64s_lit rfl) A3 [] 101 a5_raw
 have HB5 : Hid _ := hb5
 have HR3c : Hid (URow 0 w5 (.slice a3 n3 c3) [1]) := URow.tch HR3b.out ht5 HE4.out
 have HR5 : Hid (URow 0 w5 (.slice a5 n5 c5) [9]) := hr5.mono (Nat.zero_le _)
 have HE5 : Hid _ := hE5
 clear hE5 ht5 hb5 hR5 HB4 hr5 HR3b HE4
 go_wp2_with fail
 refine hR6.mono ?_
 rintro x w6 ⟨a6, n6, c6, rfl, hr6, hE6, ht6⟩
 have hb6 : Below w.heap.size w w6 := HB5.out.trans ((ht6.below HL.out.f HL.out.x HL.out.i HB5.out.size))
 have hR7 := lit_raw hE6 (HF.out.below (Frm.pos HF.out) hb6) ⟨fun e _ p x h => (by cases h), fun j _ m hm => (by cases hm)⟩ (Nat.zero_le _) 2 [0] 1 rfl (u64s_lit rfl) A3 [] 101 a6_raw
 have HB6 : Hid _ := hb6
 have HR3d : Hid (URow 0 w6 (.slice a3 n3 c3) [1]) := URow.tch HR3c.out ht6 HE5.out
 have HR5d : Hid (URow 0 w6 (.slice a5 n5 c5) [9]) := URow.tch HR5.out ht6 HE5.out
 have HE6 : Hid _ := hE6
 clear hE6 ht6 hb6 hR6 HB5 hr6 HR3c HE5 HR5
 go_wp2_with fail
 refine hR7.mono ?_
 rintro x w7 ⟨a7, n7, c7, rfl, hr7, hE7, ht7⟩
 have hb7 : Below w.heap.size w w7 := HB6.out.trans ((ht7.below HL.out.f HL.out.x HL.out.i HB6.out.size))
 have hSe := sees_at hE7 1 (show A3.m + 64 * A3.d ≤ 900000 by decide)
 have HB7 : Hid _ := hb7
 have HR3e : Hid (URow 0 w7 (.slice a3 n3 c3) [1]) := URow.tch HR3d.out ht7 HE6.out
 have HR5e : Hid (URow 0 w7 (.slice a5 n5 c5) [9]) := URow.tch HR5d.out ht7 HE6.out
 have HE7 : Hid _ := hE7
 clear hE7 ht7 hb7 hR7 HB6 hr7 HR3d HE6 HR5d
 go_wp2_with fail
 refine hSe.mono ?_
 rintro x w8 ⟨v8, m8, rfl, hr8, hE8, _, hm8, hu8⟩
 obtain ⟨_, _, hd7, _⟩ := HE7.out.disk.disk
 have hb8 : Below w.heap.size w w8 := HB7.out.trans (hu8.below (HL.out.x _ (Or.inr (Or.inl rfl))) HB7.out.size)
 have h3 := URow.upd HR3e.out hu8 hd7.head (by decide)
 have h5 := URow.upd HR5e.out hu8 hd7.head (by decide)
 obtain ⟨_, _, e3, _, r3⟩ := h3.rdv
 obtain ⟨_, _, e5, _, r5⟩ := h5.rdv
 simp only [Value.slice.injEq] at e3 e5
 obtain ⟨e3a, e3b, -⟩ := e3
 obtain ⟨e5a, e5b, -⟩ := e5
 subst e3a e3b e5a e5b
 obtain ⟨a8, c8, rfl, _⟩ := hr8
 have hl8 : (seesV A3 1).length = 37 := a7_sees
 rw [hl8]
 have hb9 := Ca.below_alloc w8 (.cells (urow [1]) 42)
 have hW1 := Ip.words_same [1] a3 (some ⟨w8.heap.size, 0, none⟩) c3 1 (w8.alloc (.cells (urow [1]) 42)) (Ip.Rd.below r3 hb9) (lit_row [1] 1 rfl (Nat.zero_le _)) (by simp)
 have HB9 : Hid (Below w.heap.size w (w8.alloc (.cells (urow [1]) 42))) := hb8.trans (hb9.mono hb8.size)
 have HR5f : Hid (Ip.Rd (w8.alloc (.cells (urow [1]) 42)) a5 [9]) := Ip.Rd.below r5 hb9
 have HE9 : Hid (ExoAt (w8.alloc (.cells (urow [1]) 42)) K L (A3.mv m8)) := hE8.below hb9
 have HM8 : Hid (m8 ≤ 900000) := Nat.le_trans hm8 (by decide)
 clear hE8 hm8 hu8 hd7 hb8 h3 h5 r3 r5 hl8 hb9 hSe HR3e HR5e HE7 HB7
 go_wp2_with fail
 refine hW1.mono ?_
 rintro x w9 ⟨rfl, hb9⟩
 have hb10 := Ca.below_alloc w9 (.cells (urow [9]) 42)
 have hW2 := Ip.words_same [9] a5 (some ⟨w9.heap.size, 0, none⟩) c5 1 (w9.alloc (.cells (urow [9]) 42)) (Ip.Rd.below (Ip.Rd.below HR5f.out hb9) hb10) (lit_row [9] 1 rfl (Nat.zero_le _)) (by simp)
 have HB10 : Hid (Below w.heap.size w (w9.alloc (.cells (urow [9]) 42))) := (HB9.out.trans (hb9.mono HB9.out.size)).trans (hb10.mono (Nat.le_trans HB9.out.size hb9.size))
 have HE10 : Hid (ExoAt (w9.alloc (.cells (urow [9]) 42)) K L (A3.mv m8)) := (HE9.out.below hb9).below hb10
 clear hb9 hb10 hW1 HR5f HE9 HB9
 go_wp2_with fail
 refine hW2.mono ?_
 rintro x w10 ⟨rfl, hb11⟩
 have hE11 := HE10.out.below hb11
 have hFr := xframe_at hE11 0
 have HB11 : Hid (Below w.heap.size w w10) := HB10.out.trans (hb11.mono HB10.out.size)
 have HE11 : Hid _ := hE11
 clear hE11 hb11 hW2 HE10 HB10
 go_wp2_with fail
 refine hFr.mono ?_
 rintro x w11 ⟨v11, rfl, ho11, hb12⟩
 obtain ⟨a11, c11, rfl, _⟩ := ho11.form
 have hl11 : (frmW (A3.mv m8).n (A3.mv m8).vs 0).length = 32 := (congrArg List.length (frm_mv A3 m8 0)).trans a8_frame
 rw [hl11]
 have hE12 := HE11.out.below hb12
 have hBl := xblock_at hE12 12 (by unfold Ca.I64; omega) HM8.out
 have HB12 : Hid (Below w.heap.size w w11) := HB11.out.trans (hb12.mono HB11.out.size)
 clear hE12 hb12 ho11 hl11 hFr HE11 HB11
 go_wp2_with fail
 refine hBl.mono ?_
 rintro x w12 ⟨v12, rfl, hr12, hE13, hu12⟩
 obtain ⟨a12, c12, rfl, _⟩ := hr12
 have hl12 : (Xd.wordsW (A3.mv m8).d (A3.mv m8).l (A3.mv m8).ds 12).length = 32 := (congrArg List.length (words_mv A3 m8 12)).trans a9_block
 rw [hl12]
 have HB13 : Hid (Below w.heap.size w w12) := HB12.out.trans (hu12.below (HL.out.x _ (Or.inr (Or.inl rfl))) HB12.out.size)
 clear hE13 hu12 hl12 hBl
 go_wp2
 go_ret
 exact ⟨rfl, HB13.out⟩
end Go.Proofs.YtbhpafgoofkkmaaGreatDoor
