import Derived.Test.YtbhpafgoofkkmaaGreatDoorXoA
set_option linter.all false
namespace Go.Proofs.YtbhpafgoofkkmaaGreatDoor
open Go.RowKit
def frmW (n : Nat) (vs : List Int) (f : Int) : List Int := if 0 ≤ f ∧ f < n then Me.frameOf vs f.toNat else []
theorem kwords_at {w : World} {K : Nat} {Y : Ex.Lay} {n : Nat} {vs : List Int} {T : Ca.Tab} {F : Ex.Pages} (h : Ex.KerAt w K Y n vs T F) (f : Int) :
  Calls Tryz.prog 47 #[ptr K, .int .i64 f] w fun x w' => ∃ v, x = .returned v ∧ OW w' w.heap.size v (frmW n vs f) ∧ Below w.heap.size w w' := by
 have k0 := h.k0
 by_cases hi : 0 ≤ f ∧ f < n
 ·have hp := Me.page_at Y.mb Y.g n vs f w h.mem hi.1 hi.2
  have HW : Hid (frmW n vs f = Me.frameOf vs f.toNat) := by show _ = _; unfold frmW; rw [if_pos hi]
  have HL : Hid ((Me.frameOf vs f.toNat).length = 32) := Me.frameOf_length vs f.toNat n h.mem.len (by omega)
  clear h hi
  go_enter Tryz.func47, Tryz.ntmps47
  go_wp2_with fail
  refine hp.mono ?_
  rintro x w1 ⟨rfl, hr, hb, hs⟩
  have HR : Hid _ := hr
  have HB : Hid _ := hb
  clear hr hb hs hp
  go_wp2
  go_ret
  exact ⟨_, rfl, by rw [HW.out]; exact ow_block HR.out (Nat.le_refl _) HL.out (by omega), HB.out⟩
 ·have hp := Me.pageno_at Y.mb Y.g n vs f w h.mem hi
  have HW : Hid (frmW n vs f = []) := by show _ = _; unfold frmW; rw [if_neg hi]
  clear h hi
  go_enter Tryz.func47, Tryz.ntmps47
  go_wp2_with fail
  refine hp.mono ?_
  rintro x w1 ⟨rfl, hw⟩
  rw [hw]
  clear hw w1 hp
  go_wp2
  go_ret
  exact ⟨_, rfl, by rw [HW.out]; exact OW.nil _ _, Below.refl _ _⟩
section
variable {w : World} {K : Nat} {L : XL} {S : XS}
theorem xframe_at (h : ExoAt w K L S) (f : Int) :
  Calls Tryz.prog 15 #[ptr K, .int .i64 f] w fun x w' => ∃ v, x = .returned v ∧ OW w' w.heap.size v (frmW S.n S.vs f) ∧ Below w.heap.size w w' := by
 have k0 := h.k0
 have hw := kwords_at h.mem f
 clear h
 go_enter Tryz.func15, Tryz.ntmps15
 go_wp2_with fail
 refine hw.mono ?_
 rintro x w1 ⟨v, rfl, ho, hb⟩
 obtain ⟨a, c, rfl, _⟩ := ho.form
 have HO : Hid (OW _ _ _ _) := ho
 have HB : Hid _ := hb
 clear ho hb hw
 go_wp2
 go_ret
 exact ⟨_, rfl, HO.out, HB.out⟩
abbrev XS.mv (S : XS) (m : Nat) : XS := { S with m := m }
theorem xblock_at (h : ExoAt w K L S) (f : Int) (hf : Ca.I64 f) (hm : S.m ≤ 900000) :
  Calls Tryz.prog 16 #[ptr K, .int .i64 f] w fun x w' => ∃ v, x = .returned v ∧ URow w.heap.size w' v (Xd.wordsW S.d S.l S.ds f) ∧ ExoAt w' K L (S.mv (S.m + 1)) ∧ Upd L.D.b w w' := by
 have k3 := h.k3
 have hw := Xd.xwords_at h.disk f hf hm
 have HX : Hid _ := h
 clear h
 go_enter Tryz.func16, Tryz.ntmps16
 go_wp2_with fail
 refine hw.mono ?_
 rintro x w1 ⟨v, rfl, ho, hk, hu⟩
 have ho2 := ho
 obtain ⟨a, c, rfl, _⟩ := ho2
 have HO : Hid (URow _ _ _ _) := ho
 have HK : Hid _ := hk
 have HU : Hid _ := hu
 clear ho hk hu hw
 go_wp2
 go_ret
 exact ⟨_, rfl, HO.out, HX.out.updD HK.out (Xd.updB HU.out), HU.out⟩
theorem xcreate_at (h : ExoAt w K L S) (e : Int) :
  Calls Tryz.prog 20 #[ptr K, .int .i64 e] w fun x w' => x = .returned (.int .i64 (En.createR S.E e)) ∧ ExoAt w' K L { S with E := En.createT S.E e } ∧ UpdP (En.Mine L.eb L.eg) w w' := by
 have k1 := h.k1
 have hc := En.create_at L.eb L.eg S.E S.V e w h.env
 have HX : Hid _ := h
 clear h
 go_enter Tryz.func20, Tryz.ntmps20
 go_wp2_with fail
 refine hc.mono ?_
 rintro x w1 ⟨rfl, hk, hu⟩
 have HK : Hid _ := hk
 have HU : Hid _ := hu
 clear hk hu hc
 go_wp2
 go_ret
 exact ⟨rfl, HX.out.updE HK.out HU.out, HU.out⟩
end
def S0 (n d : Nat) : XS := ⟨n, List.replicate (n * 32) 0, fun _ => Ca.Hd.no, fun _ _ => none, En.E0, List.replicate 16 (-1), Ip.Q0, d, 0, List.replicate (d * 32) 0, Xd.L0, fun _ => Ca.Hd.no⟩
structure XLow (L : XL) (B : Nat) : Prop where
 f : ∀ k, Ex.Foot L.Y k → B ≤ k
 x : ∀ k, Xd.XFoot L.D k → B ≤ k
 i : B ≤ L.iB
 e : B ≤ L.eb
 g : B ≤ L.eg
theorem eq_ker (b : Nat) (W : World) : (binOp .eql 76 (ptr b) (.pointer none)).run Tryz.prog W = .ok (.bool false) W := by kernel_rfl
theorem eq_dk (b : Nat) (W : World) : (binOp .eql 79 (ptr b) (.pointer none)).run Tryz.prog W = .ok (.bool false) W := by kernel_rfl
set_option maxHeartbeats 1000000 in
theorem xonew_at (n d : Int) (w : World) (h1 : 1 ≤ n) (h2 : n ≤ 1024) (h3 : 1 ≤ d) (h4 : d ≤ 1024) :
  Calls Tryz.prog 21 #[.int .i64 n, .int .i64 d] w fun x w' => ∃ K L, x = .returned (ptr K) ∧ ExoAt w' K L (S0 n.toNat d.toNat) ∧ Below w.heap.size w w' ∧ w.heap.size ≤ K ∧ XLow L w.heap.size := by
 have hA := Ex.knew_at n w h1 h2
 have HD : Hid (1 ≤ d ∧ d ≤ 1024) := ⟨h3, h4⟩
 clear h1 h2 h3 h4
 go_enter Tryz.func21, Tryz.ntmps21
 go_wp2_with fail
 refine hA.mono ?_
 rintro x w1 ⟨ek, Y, rfl, hk1, hb1, hl1, hf1⟩
 have HK1 : Hid _ := hk1
 have HB1 : Hid _ := hb1
 have HF1 : Hid _ := hf1
 clear hk1 hb1 hl1 hf1 hA
 go_wp2_with fail
 refine (En.new_yes 16 w1 (by omega) (by omega)).mono ?_
 rintro x w2 ⟨rfl, hk2, hb2, hs2⟩
 have HK2 : Hid _ := hk2
 have HB2 : Hid _ := hb2
 clear hk2 hb2 hs2
 obtain ⟨eb, heb⟩ : ∃ eb, eb = w1.heap.size + 1 := ⟨_, rfl⟩
 rw [← heb] at HK2 ⊢
 have HEB : Hid _ := heb
 clear heb
 go_wp2_with fail
 refine (Ip.new_at w2).mono ?_
 rintro x w3 ⟨rfl, hk3, hb3⟩
 have HK3 : Hid (Ip.IpcAt w3 w2.heap.size w2.heap.size Ip.Q0) := hk3
 have HB3 : Hid _ := hb3
 clear hk3 hb3
 go_wp2_with fail
 refine (Xd.xnew_at d w3 HD.out.1 HD.out.2).mono ?_
 rintro x w4 ⟨dk, D, rfl, hk4, hb4, hl4, hf4⟩
 have HK4 : Hid _ := hk4
 have HB4 : Hid _ := hb4
 have HF4 : Hid _ := hf4
 clear hk4 hb4 hl4 hf4
 obtain ⟨W, hW⟩ : ∃ W, W = w4.alloc (.cells #[ptr ek, ptr eb, ptr w2.heap.size, ptr dk] 81) := ⟨_, rfl⟩
 have hh : W.heap[w4.heap.size]? = some (.cells #[ptr ek, ptr eb, ptr w2.heap.size, ptr dk] 81) := by rw [hW]; exact heap_alloc_new _ _
 have hbW : Below w4.heap.size w4 W := by rw [hW]; exact Ca.below_alloc _ _
 have c0 : W.cell? ⟨w4.heap.size, 0, none⟩ = some (ptr ek) := by rw [cell_of_heap hh]; rfl
 have c3 : W.cell? ⟨w4.heap.size, 3, none⟩ = some (ptr dk) := by rw [cell_of_heap hh]; rfl
 have HH : Hid _ := hh
 have HBW : Hid _ := hbW
 clear hh hbW
 have q1 := eq_ker ek
 have q2 := eq_dk dk
 go_wp2_with fail
 rw [← hW]
 clear hW
 go_wp2
 go_ret
 have s1 := HB1.out.size
 have s2 := HB2.out.size
 have s3 := HB3.out.size
 have s4 := HB4.out.size
 have sW := HBW.out.size
 have k1 := (((HK1.out.below HB2.out).below HB3.out).below HB4.out).below HBW.out
 have k2 := (((HK2.out.below HB3.out).below HB4.out).below HBW.out)
 have k3 : Ip.IpcAt W w2.heap.size w2.heap.size Ip.Q0 := Ip.IpcAt.below (Ip.IpcAt.below HK3.out HB4.out) HBW.out
 have k4 := HK4.out.below HBW.out
 have hcb : Y.cb < w1.heap.size := HK1.out.caps.lt
 have hdb : w3.heap.size ≤ D.cb := HF4.out _ (Or.inr (Or.inr (Or.inr rfl)))
 have heb := HEB.out
 refine ⟨w4.heap.size, ⟨ek, Y, eb, w1.heap.size, w2.heap.size, w2.heap.size, dk, D⟩, rfl, ⟨HH.out, k1, k2, k3, k4, ?_, ?_⟩, ?_, by omega, ?_⟩
 ·show Y.cb ≠ D.cb
  omega
 ·show w2.heap.size ≤ W.heap.size
  omega
 ·exact (((HB1.out.trans (HB2.out.mono (by omega))).trans (HB3.out.mono (by omega))).trans (HB4.out.mono (by omega))).trans (HBW.out.mono (by omega))
 ·refine ⟨HF1.out, fun k hk => ?_, ?_, ?_, ?_⟩
  ·have := HF4.out k hk
   omega
  ·show w.heap.size ≤ w2.heap.size
   omega
  ·show w.heap.size ≤ eb
   omega
  ·show w.heap.size ≤ w1.heap.size
   omega
end Go.Proofs.YtbhpafgoofkkmaaGreatDoor
