/- The chapter's examples (januslaw09.awake) answer true. -/
import Derived.Test.YtfnafjddajgahaaGreatExF
namespace Go.Proofs.YtfnafjddajgahaaGreat
open Go.RowKit Ca
set_option linter.unusedVariables false

abbrev T0 : Tab := fun _ => Hd.no
def T1 : Tab := T0.set 64 ⟨⟨1, 0, 1, 7⟩, 0, 0⟩
def T2 : Tab := T1.set 128 ⟨⟨1, 0, 1, 1⟩, 1, 1⟩
def T3 : Tab := (Ca.revS T2 (1, 1) 2).1
abbrev F0 : Pages := fun _ _ => none
def F1 : Pages := kmapF T1 F0 1 0 1 true
def F3 : Pages := kmapF T2 F1 2 0 1 false
def F4 : Pages := tidyF T3 F3
def v2 : List Int := (List.replicate 96 (0 : Int)).set 3 9
theorem freeI_T0 (n : Nat) (hn : 1 ≤ n) : freeI T0 n = 0 := by
  have hc : ∀ i, cnt T0 768 i = 0 := fun i => (cnt_zero T0 i).2 (fun j _ h => by cases h)
  rcases freeI_cases T0 n with ⟨_, h⟩ | ⟨f, hf, he, _, h⟩
  · exact absurd (hc _) (h 0 (by omega))
  · rcases Nat.eq_zero_or_pos f with e | e
    · rw [he, e]; rfl
    · exact absurd (hc _) (h 0 e)
theorem freeT_T0 : freeT T0 1 = 0 := by kernel_rfl
theorem putT_T0 : putT T0 1 ⟨⟨1, 0, 1, 7⟩, 0, 0⟩ = T1 := by
  unfold putT
  rw [freeT_T0]
  rfl
theorem isE_1 : isE 1 = true := rfl
theorem aw_alloc (n : Nat) (hn : 1 ≤ n) : allocA T0 n 1 = 1 ∧ allocR T0 n 1 = 0 ∧ allocT T0 n 1 = T1 := by
  have h := freeI_T0 n hn
  have e : Int.toNat 1 = 1 := rfl
  unfold allocA allocR allocT
  rw [h, isE_1, e, if_pos rfl, if_pos rfl, if_pos rfl, if_neg (by decide), if_neg (by decide), if_neg (by decide), putT_T0]
  unfold putA putE
  rw [freeT_T0]
  exact ⟨rfl, rfl, rfl⟩
theorem aw_zero : allocV T0 3 1 (List.replicate 96 0) = List.replicate 96 0 := by
  have h := freeI_T0 3 (by omega)
  have e : Int.toNat 1 = 1 := rfl
  unfold allocV
  rw [h, isE_1, e, if_pos rfl, if_neg (by decide), freeT_T0, if_pos (by decide)]
  rfl
theorem aw_map1 : kmapR T1 1 0 1 true = 0 := by kernel_rfl
theorem aw_store : kstoreR 3 F1 1 3 = 0 ∧ kstoreV 3 (List.replicate 96 0) F1 1 3 9 = v2 := ⟨by kernel_rfl, by kernel_rfl⟩
theorem aw_load1 : (kloadR 3 v2 F1 1 3).1 = 9 ∧ (kloadR 3 v2 F1 1 3).2 = 0 := ⟨by kernel_rfl, by kernel_rfl⟩
theorem aw_give : giveA T1 1 1 2 1 = 1 ∧ giveR T1 1 1 2 1 = 0 ∧ giveT T1 1 1 2 1 = T2 := by
  have hg : giveOK T1 1 1 1 = true := by kernel_rfl
  have hf : freeT T1 2 = 0 := by kernel_rfl
  have he : isE 2 = true := rfl
  have e : Int.toNat 2 = 2 := rfl
  unfold giveA giveR giveT
  rw [if_pos hg, if_pos hg, if_pos hg, if_pos he, if_pos he, if_pos he, e]
  unfold putA putE putT
  rw [hf]
  exact ⟨rfl, rfl, rfl⟩
theorem aw_map2 : kmapR T2 2 0 1 true = 104 ∧ kmapF T2 F1 2 0 1 true = F1 := ⟨by kernel_rfl, by
  have hf : frm T2 2 1 (prt true) = none := by kernel_rfl
  unfold kmapF
  rw [hf]
  split <;> rfl⟩
theorem aw_map3 : kmapR T2 2 0 1 false = 0 := by kernel_rfl
theorem aw_load2 : (kloadR 3 v2 F3 2 3).1 = 9 ∧ (kloadR 3 v2 F3 2 3).2 = 0 := ⟨by kernel_rfl, by kernel_rfl⟩
theorem aw_rev : revR T2 1 1 = 0 ∧ revT T2 1 1 = T3 := by
  have hi : (getT T2 1 1).is = true := by kernel_rfl
  refine ⟨by unfold revR; rw [if_pos hi], revT_is hi (N := 1) (by kernel_rfl)⟩
theorem aw_load3 : (kloadR 3 v2 F4 2 3).1 = 0 ∧ (kloadR 3 v2 F4 2 3).2 = 102 := ⟨by kernel_rfl, by kernel_rfl⟩
theorem aw_left : leftN T3 3 = 2 := by kernel_rfl

/-- What calls of a kernel that was made behind w leave of w. -/
theorem feet_below {w W W' : World} {Y : Lay} (h : Below w.heap.size w W) (hf : ∀ b, Foot Y b → w.heap.size ≤ b) (hu : UpdP (Foot Y) W W') : Below w.heap.size w W' := h.trans (hu.below hf h.size)

set_option maxHeartbeats 4000000 in
theorem awake_at (w : World) :
    Calls Tryz.prog 8 #[] w fun e w' => e = .returned (.bool true) ∧ Below w.heap.size w w' := by
  go_enter Tryz.func8, Tryz.ntmps8
  go_wp2_with fail
  refine (knew_at 3 w (by decide) (by decide)).mono ?_
  rintro x w1 ⟨K, Y, rfl, hK0, hb, _, hft⟩
  have hK1 : KerAt w1 K Y 3 (List.replicate 96 0) T0 F0 := hK0
  have HB1 : Hid _ := hb
  have HF : Hid _ := hft
  clear hK0 hb hft
  have h1 := kalloc_at hK1 1
  obtain ⟨e1, e2, e3⟩ := aw_alloc 3 (by omega)
  rw [e1, e2, e3, aw_zero] at h1
  clear e1 e2 e3 hK1
  go_wp2_with fail
  refine h1.mono ?_
  rintro x w2 ⟨rfl, hK2, hu2⟩
  have HB2 : Hid _ := feet_below HB1.out HF.out hu2
  have h2 := kmap_at hK2 1 0 1 true
  rw [aw_map1] at h2
  clear HB1 hu2 hK2 h1
  go_wp2_with fail
  refine h2.mono ?_
  rintro x w3 ⟨rfl, hK3, hu3⟩
  have HB3 : Hid _ := feet_below HB2.out HF.out hu3
  have h3 := kstore_at (F := F1) hK3 1 3 9 (by decide)
  rw [aw_store.1, aw_store.2] at h3
  clear HB2 hu3 hK3 h2
  go_wp2_with fail
  refine h3.mono ?_
  rintro x w4 ⟨rfl, hK4, hu4⟩
  have HB4 : Hid _ := feet_below HB3.out HF.out hu4
  have h4 := kload_at hK4 1 3 (by decide)
  rw [aw_load1.1, aw_load1.2] at h4
  have HK4 : Hid _ := hK4
  clear HB3 hu4 hK4 h3
  go_wp2_with fail
  refine h4.mono ?_
  rintro x w5 ⟨rfl, hb5⟩
  have HB5 : Hid (Below w.heap.size w w5) := HB4.out.trans (hb5.mono HB4.out.size)
  have h5 := kgrant_at (HK4.out.below hb5) 1 1 2 1
  rw [aw_give.1, aw_give.2.1, aw_give.2.2] at h5
  clear HB4 hb5 HK4 h4
  go_wp2_with fail
  refine h5.mono ?_
  rintro x w6 ⟨rfl, hK6, hu6⟩
  have HB6 : Hid _ := feet_below HB5.out HF.out hu6
  have h6 := kmap_at hK6 2 0 1 true
  rw [aw_map2.1, aw_map2.2] at h6
  clear HB5 hu6 hK6 h5
  go_wp2_with fail
  refine h6.mono ?_
  rintro x w7 ⟨rfl, hK7, hu7⟩
  have HB7 : Hid _ := feet_below HB6.out HF.out hu7
  have h7 := kmap_at hK7 2 0 1 false
  rw [aw_map3] at h7
  clear HB6 hu7 hK7 h6
  go_wp2_with fail
  refine h7.mono ?_
  rintro x w8 ⟨rfl, hK8, hu8⟩
  have HB8 : Hid _ := feet_below HB7.out HF.out hu8
  have h8 := kload_at (F := F3) hK8 2 3 (by decide)
  rw [aw_load2.1, aw_load2.2] at h8
  have HK8 : Hid _ := hK8
  clear HB7 hu8 hK8 h7
  go_wp2_with fail
  refine h8.mono ?_
  rintro x w9 ⟨rfl, hb9⟩
  have HB9 : Hid (Below w.heap.size w w9) := HB8.out.trans (hb9.mono HB8.out.size)
  have h9 := krevoke_at (F := F3) (HK8.out.below hb9) 1 1
  rw [aw_rev.1, aw_rev.2] at h9
  clear HB8 hb9 HK8 h8
  go_wp2_with fail
  refine h9.mono ?_
  rintro x w10 ⟨rfl, hK10, hu10⟩
  have HB10 : Hid _ := feet_below HB9.out HF.out hu10
  have h10 := kload_at (F := F4) hK10 2 3 (by decide)
  rw [aw_load3.1, aw_load3.2] at h10
  have HK10 : Hid _ := hK10
  clear HB9 hu10 hK10 h9
  go_wp2_with fail
  refine h10.mono ?_
  rintro x w11 ⟨rfl, hb11⟩
  have HB11 : Hid (Below w.heap.size w w11) := HB10.out.trans (hb11.mono HB10.out.size)
  have h11 := kleft_at (HK10.out.below hb11)
  rw [aw_left] at h11
  clear HB10 hb11 HK10 h10
  go_wp2_with fail
  refine h11.mono ?_
  rintro x w12 ⟨rfl, hb12⟩
  go_wp2_with fail
  go_ret
  exact ⟨rfl, HB11.out.trans (hb12.mono HB11.out.size)⟩
end Go.Proofs.YtfnafjddajgahaaGreat
