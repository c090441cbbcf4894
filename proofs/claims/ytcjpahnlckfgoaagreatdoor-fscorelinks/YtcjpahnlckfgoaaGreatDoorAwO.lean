/- Chapter 17's examples. -/
import Derived.Test.YtcjpahnlckfgoaaGreatDoorAwMN
import Derived.Test.YtcjpahnlckfgoaaGreatDoorNiCD
import Derived.Test.YtcjpahnlckfgoaaGreatDoorApAF
namespace Go.Proofs.YtcjpahnlckfgoaaGreatDoor
open Go.RowKit
set_option linter.unusedVariables false

theorem NdIn.of_own {w : World} {base : Nat} {v : Value} {l : List Nd} (h : OwD w base v l) : NdIn w v l := by
  obtain ⟨h1, h2⟩ := h
  rcases h2 with ⟨e1, e2⟩ | ⟨g, cap, cur, e1, e2, e3, e4, e5, e6, e7⟩
  · exact ⟨none, 0, by rw [e1, e2], fun hl => absurd (List.length_eq_zero_iff.1 e2) hl⟩
  · refine ⟨_, cap, e1, fun _ => ⟨g, 0, cur, (0, 0), rfl, e3, fun j x hx => ?_⟩⟩
    rw [← e7, List.getElem?_take] at hx
    split at hx
    · rw [Nat.zero_add]
      simpa using hx
    · cases hx
theorem Fs.drewN {w : World} {B : Sto} {F : FS} {m : Nat} (h : Fs w B F m) (q : Nat) : Fs (w.drewN q) B F m := h.below (Di.drewN_below ⟨q, rfl⟩)
/-- A new disk. -/
theorem dsk_new {w : World} {B G n : Nat} {vs : List Int} {lo : Nat} (h : Di.DiskAt w B G n vs 0 0) (h1 : lo ≤ B) (h2 : lo ≤ G) : Dk w (dsk lo B G) n vs 0 := ⟨dsk_ok _ _ _, _, rfl, h1, h2, 0, 0, h, Nat.le_refl _, Nat.le_refl _⟩
theorem into_of {k : Nat} {F : FS} {l : List Nd} (h : (intoN k F (fun _ => false) 0 []).map (·.1) = some l) : ∃ sn', intoN k F (fun _ => false) 0 [] = some (l, sn') := by
  obtain ⟨r, hr, he⟩ := Option.map_eq_some_iff.1 h
  exact ⟨r.2, by rw [hr, ← he]⟩
section
variable {w : World} {lo B G m : Nat}
abbrev dv (B : Nat) : Value := .iface 23 (ptr B)
theorem aw_make (h : Dk w (dsk lo B G) 30 (List.replicate (30 * 32) 0) m) (hm : m ≤ 400000000000) {v : Value} (hv : NdIn w v awT) :
    Calls Tryz.prog 18 #[dv B, .int .i64 30, v] w fun e w' => e = .returned (.int .i64 0) ∧ Fs w' (dsk lo B G) awF1 (m + 1000000) ∧ ST lo w w' := by
  have := Make_at awPl (F0 := F0 30) (l := awT) h (by omega) rfl (fun W d hW => format_at hW (by omega) (by omega) (by omega)) (Or.inl ⟨rfl, rfl⟩) (by omega) (by show 2 ≤ 10000; omega) hv (fun x hx => by
    simp only [awT, List.mem_cons, List.not_mem_nil, or_false] at hx
    rcases hx with rfl | rfl
    · exact ⟨by simp, by simp⟩
    · exact ⟨by simp, by simp⟩)
  rw [aw1] at this
  refine this.mono ?_
  rintro e w' ⟨rfl, hs, -, hf⟩
  exact ⟨rfl, (hf rfl).mono (by show m + 5000 + 300000 * 2 ≤ _; omega), hs⟩
theorem aw_tree1 (h : Fs w (dsk lo B G) awF1 m) (hm : m ≤ 400000000000) : Calls Tryz.prog 13 #[dv B] w fun e w' => ∃ v, e = .returned v ∧ OwD w' w.heap.size v awT ∧ Fs w' (dsk lo B G) awF1 (m + 62000000) ∧ ST lo w w' := by
  obtain ⟨sn', hn⟩ := into_of aw6
  exact Tree_at h (allB_all awA1) (allB_len awA1) 33 (by omega) hn (by show 2 ≤ 5000; omega) (by omega)
theorem aw_tree2 (h : Fs w (dsk lo B G) awF3 m) (hm : m ≤ 400000000000) : Calls Tryz.prog 13 #[dv B] w fun e w' => ∃ v, e = .returned v ∧ OwD w' w.heap.size v awT2 ∧ Fs w' (dsk lo B G) awF3 (m + 62000000) ∧ ST lo w w' := by
  obtain ⟨sn', hn⟩ := into_of aw7
  exact Tree_at h (allB_all awA3) (allB_len awA3) 33 (by omega) hn (by show 2 ≤ 5000; omega) (by omega)
theorem aw_un1 (h : Fs w (dsk lo B G) awF1 m) (hm : m ≤ 400000000000) : Calls Tryz.prog 24 #[dv B, tx [47, 100], .slice none 0 0] w fun e w' => e = .returned (.int .i64 21) ∧ Fs w' (dsk lo B G) awF1 (m + 1000000) ∧ ST lo w w' := by
  have := Unlink_at h (allB_all awA1) (by omega) awD2.1 [47, 100] (by simp) (fun _ q => by rw [aw2n] at q; cases q) (OpIn.nil w)
  rw [aw2, if_neg (by omega)] at this
  refine this.mono ?_
  rintro e w' ⟨rfl, hf, hs⟩
  exact ⟨rfl, hf.mono (by omega), hs⟩
theorem aw_ln (h : Fs w (dsk lo B G) awF1 m) (hm : m ≤ 400000000000) : Calls Tryz.prog 22 #[dv B, tx [47, 100, 47, 102], tx [47, 103]] w fun e w' => e = .returned (.int .i64 0) ∧ Fs w' (dsk lo B G) awF2 (m + 1000000) ∧ ST lo w w' := by
  have := Link_at h (allB_all awA1) (by omega) [47, 100, 47, 102] [47, 103] (by simp) (by simp) (fun _ _ => nmB_ok aw3n)
  rw [aw3, if_pos rfl] at this
  refine this.mono ?_
  rintro e w' ⟨rfl, hf, hs⟩
  exact ⟨rfl, hf.mono (by omega), hs⟩
theorem aw_un2 (h : Fs w (dsk lo B G) awF2 m) (hm : m ≤ 400000000000) : Calls Tryz.prog 24 #[dv B, tx [47, 100, 47, 102], .slice none 0 0] w fun e w' => e = .returned (.int .i64 0) ∧ Fs w' (dsk lo B G) awF3 (m + 1000000) ∧ ST lo w w' := by
  have := Unlink_at h (allB_all awA2) (by omega) awD2.2 [47, 100, 47, 102] (by simp) (fun _ _ => nmB_ok aw4n) (OpIn.nil w)
  rw [aw4, if_pos rfl] at this
  refine this.mono ?_
  rintro e w' ⟨rfl, hf, hs⟩
  exact ⟨rfl, hf.mono (by omega), hs⟩
theorem aw_rn (h : Fs w (dsk lo B G) awF3 m) (hm : m ≤ 400000000000) : Calls Tryz.prog 28 #[dv B, tx [47, 100], tx [47, 100, 47, 101], .slice none 0 0] w fun e w' => e = .returned (.int .i64 22) ∧ Fs w' (dsk lo B G) awF3 (m + 2000000) ∧ ST lo w w' := by
  have := Rename_at h (allB_all awA3) (by omega) [47, 100] [47, 100, 47, 101] (by simp) (by simp) (OpIn.nil w) (fun _ j q => by rw [aw5n] at q; omega) (fun _ _ _ j q => by rw [aw5n] at q; omega)
  rw [aw5, if_neg (by omega)] at this
  refine this.mono ?_
  rintro e w' ⟨rfl, hf, hs⟩
  exact ⟨rfl, hf.mono (by omega), hs⟩
end
set_option maxRecDepth 100000 in
set_option maxHeartbeats 4000000 in
theorem awake_at (w : World) : Calls Tryz.prog 15 #[] w fun e w' => e = .returned (.bool true) ∧ Below w.heap.size w w' := by
  have hN := Di.new_at 30 w (by omega) (by omega)
  go_enter Tryz.func15, Tryz.ntmps15
  go_wp2_with fail
  refine hN.mono ?_
  rintro e w1 ⟨rfl, hd, hb1, hs1⟩
  obtain ⟨lo, hlo⟩ : ∃ lo, lo = w.heap.size := ⟨_, rfl⟩
  obtain ⟨B, hB⟩ : ∃ B, B = w.heap.size + 1 := ⟨_, rfl⟩
  rw [← hB, ← hlo] at hd
  have hk : Dk w1 (dsk lo B lo) 30 (List.replicate (30 * 32) 0) 0 := dsk_new hd (by omega) (Nat.le_refl _)
  have HK : Hid (Dk w1 (dsk lo B lo) 30 (List.replicate (30 * 32) 0) 0) := hk
  have HB1 : Hid (Below w.heap.size w w1) := hb1
  have Hlo : Hid (lo = w.heap.size) := hlo
  rw [← hB]
  clear hN hd hs1 hk hlo hb1 hB
  obtain ⟨W2, hW2⟩ : ∃ W, W = w1.alloc (.cells #[.string ⟨#[47, 100]⟩, .bool true, .string ⟨#[]⟩, .string ⟨#[47, 100, 47, 102]⟩, .bool false, .string ⟨#[120, 121]⟩] 54) := ⟨_, rfl⟩
  have hb2 : Below w1.heap.size w1 W2 := by rw [hW2]; exact below_alloc _ _
  obtain ⟨g, hg⟩ : ∃ g, g = w1.heap.size := ⟨_, rfl⟩
  have hn2 : NdIn W2 (.slice (some ⟨g, 0, none⟩) 2 2) awT := ⟨_, 2, rfl, fun _ => ⟨g, 0, _, (0, 0), rfl, by rw [hW2, hg]; exact heap_alloc_new _ _, fun j x hx => by rw [Nat.zero_add, List.getElem?_toArray]; exact hx⟩⟩
  have hM := aw_make (HK.out.below hb2) (by omega) hn2
  have HN2 : Hid (NdIn W2 (.slice (some ⟨g, 0, none⟩) 2 2) awT) := hn2
  have HU2 : Hid (Below w.heap.size w W2) := HB1.out.trans (hb2.mono HB1.out.size)
  have HW2 : Hid _ := hW2
  have Hg : Hid (g = w1.heap.size) := hg
  have HLo2 : Hid (∀ {a b : World}, Below w.heap.size w a → ST lo a b → Below w.heap.size w b) := fun ha hs => ha.trans (hs.below (by rw [Hlo.out]; exact Nat.le_refl _) ha.size)
  clear hb2 hn2 HK HB1 hW2 hg
  go_wp2_with fail
  rw [← HW2.out, ← Hg.out]
  clear HW2 Hg
  refine hM.mono ?_
  rintro e w3 ⟨rfl, hf3, hs3⟩
  have HB3 : Hid (Below w.heap.size w w3) := HLo2.out HU2.out hs3
  have HN3 : Hid (NdIn w3 (.slice (some ⟨g, 0, none⟩) 2 2) awT) := HN2.out.st hs3
  have hT := aw_tree1 hf3 (by omega)
  clear hM hf3 hs3 HN2 HU2
  go_wp2_with fail
  refine hT.mono ?_
  rintro e w4 ⟨v, rfl, ho, hf4, hs4⟩
  have hNd := nodes_same (NdIn.of_own ho) (HN3.out.st hs4) (by show 2 ≤ 10000; omega)
  obtain ⟨va, vc, rfl⟩ := own_slice ho
  have HF4 : Hid (Fs w4 (dsk lo B lo) awF1 63000000) := hf4
  have HB4 : Hid (Below w.heap.size w w4) := HLo2.out HB3.out hs4
  clear hT ho hf4 hs4 HN3 HB3
  go_wp2_with fail
  refine hNd.mono ?_
  rintro e w5 ⟨rfl, q, hw⟩
  have hf5 : Fs w5 (dsk lo B lo) awF1 63000000 := by rw [hw]; exact HF4.out.drewN q
  have HB5 : Hid (Below w.heap.size w w5) := by rw [hw]; exact HB4.out.trans ((Di.drewN_below (w := w4) ⟨q, rfl⟩).mono HB4.out.size)
  have hU := aw_un1 hf5 (by omega)
  clear hNd hw hf5 HF4 HB4
  go_wp2_with fail
  refine hU.mono ?_
  rintro e w6 ⟨rfl, hf6, hs6⟩
  have HB6 : Hid (Below w.heap.size w w6) := HLo2.out HB5.out hs6
  have hLn := aw_ln hf6 (by omega)
  clear hU hf6 hs6 HB5
  go_wp2_with fail
  refine hLn.mono ?_
  rintro e w7 ⟨rfl, hf7, hs7⟩
  have HB7 : Hid (Below w.heap.size w w7) := HLo2.out HB6.out hs7
  have hU2 := aw_un2 hf7 (by omega)
  clear hLn hf7 hs7 HB6
  go_wp2_with fail
  refine hU2.mono ?_
  rintro e w8 ⟨rfl, hf8, hs8⟩
  have HB8 : Hid (Below w.heap.size w w8) := HLo2.out HB7.out hs8
  have hRn := aw_rn hf8 (by omega)
  clear hU2 hf8 hs8 HB7
  go_wp2_with fail
  refine hRn.mono ?_
  rintro e w9 ⟨rfl, hf9, hs9⟩
  have HB9 : Hid (Below w.heap.size w w9) := HLo2.out HB8.out hs9
  have hT2 := aw_tree2 hf9 (by omega)
  clear hRn hf9 hs9 HB8
  go_wp2_with fail
  refine hT2.mono ?_
  rintro e wa ⟨v, rfl, ho, hfa, hsa⟩
  have HBa : Hid (Below w.heap.size w wa) := HLo2.out HB9.out hsa
  obtain ⟨Wb, hWb⟩ : ∃ W, W = wa.alloc (.cells #[.string ⟨#[47, 100]⟩, .bool true, .string ⟨#[]⟩, .string ⟨#[47, 103]⟩, .bool false, .string ⟨#[120, 121]⟩] 54) := ⟨_, rfl⟩
  have hbb : Below wa.heap.size wa Wb := by rw [hWb]; exact below_alloc _ _
  obtain ⟨gb, hgb⟩ : ∃ g, g = wa.heap.size := ⟨_, rfl⟩
  have hnb : NdIn Wb (.slice (some ⟨gb, 0, none⟩) 2 2) awT2 := ⟨_, 2, rfl, fun _ => ⟨gb, 0, _, (0, 0), rfl, by rw [hWb, hgb]; exact heap_alloc_new _ _, fun j x hx => by rw [Nat.zero_add, List.getElem?_toArray]; exact hx⟩⟩
  have hNd2 := nodes_same ((NdIn.of_own ho).below hbb) hnb (by show 2 ≤ 10000; omega)
  obtain ⟨va', vc', rfl⟩ := own_slice ho
  have HBb : Hid (Below w.heap.size w Wb) := HBa.out.trans (hbb.mono HBa.out.size)
  have HWb : Hid _ := hWb
  have Hgb : Hid (gb = wa.heap.size) := hgb
  clear hT2 ho hfa hsa HB9 HBa hWb hbb hgb hnb
  go_wp2_with fail
  rw [← HWb.out, ← Hgb.out]
  refine hNd2.mono ?_
  rintro e wc ⟨rfl, q2, hw⟩
  have HBc : Hid (Below w.heap.size w wc) := by rw [hw]; exact HBb.out.trans ((Di.drewN_below (w := Wb) ⟨q2, rfl⟩).mono HBb.out.size)
  have hMn := Make_none wc
  clear hNd2 hw HBb HWb Hgb
  go_wp2_with fail
  refine hMn.mono ?_
  rintro e wd ⟨rfl, hbd⟩
  have HE : Hid (Below w.heap.size w wd) := HBc.out.trans (hbd.mono HBc.out.size)
  clear hMn hbd
  go_wp2
  go_ret
  exact ⟨rfl, HE.out⟩
end Go.Proofs.YtcjpahnlckfgoaaGreatDoor
