/- Package fscore over a store: rename. -/
import Derived.Test.YtcjpahnlckfgoaaGreatDoorFsJK
namespace Go.Proofs.YtcjpahnlckfgoaaGreatDoor
open Go.RowKit
set_option linter.unusedVariables false

/-- Rename, behind what it looks up first. -/
def rnT (F : FS) (d1 : Int) (n1 : List UInt8) (k d2 : Int) (n2 : List UInt8) (os : List Int) : Int :=
  if fdR F d2 n2 = k then 0 else if fdR F d2 n2 < 0 then mvR F d1 n1 d2 n2 k else if (isD F k || isD F (fdR F d2 n2)) = true then 17 else mvR (dpF F d2 n2 (fdR F d2 n2).toNat os) d1 n1 d2 n2 k
def rnG (F : FS) (d1 : Int) (n1 : List UInt8) (k d2 : Int) (n2 : List UInt8) (os : List Int) : FS :=
  if fdR F d2 n2 = k then F else if fdR F d2 n2 < 0 then mvF F d1 n1 d2 n2 k else mvF (dpF F d2 n2 (fdR F d2 n2).toNat os) d1 n1 d2 n2 k
def rnR (F : FS) (a b : List UInt8) (os : List Int) : Int :=
  if (paR F a).2.2 = 0 then (if (walkR F a).2 = 0 then (if (paR F b).2.2 = 0 then (if (isD F (walkR F a).1 && ltR F b (walkR F a).1) = true then 22 else rnT F (paR F a).1 (paR F a).2.1 (walkR F a).1 (paR F b).1 (paR F b).2.1 os) else (paR F b).2.2) else (walkR F a).2) else (paR F a).2.2
def rnF (F : FS) (a b : List UInt8) (os : List Int) : FS := rnG F (paR F a).1 (paR F a).2.1 (walkR F a).1 (paR F b).1 (paR F b).2.1 os
/-- A path with a parent has parts. -/
theorem pa_split {F : FS} {p : List UInt8} (h : (paR F p).2.2 = 0) : splitR p = 0 ∧ splitP p ≠ [] := by
  unfold paR at h
  by_cases hs : splitR p = 0
  · rw [if_pos hs] at h
    by_cases he : (splitP p).isEmpty = true
    · rw [if_pos he] at h; simp at h
    · exact ⟨hs, by simpa using he⟩
  · rw [if_neg hs] at h
    exact absurd h hs
/-- What a path with a parent leads to is named there. -/
theorem walk_pa2 {F : FS} {p : List UInt8} (hp : (paR F p).2.2 = 0) (hw : (walkR F p).2 = 0) : fdR F (paR F p).1 (paR F p).2.1 = (walkR F p).1 ∧ 0 ≤ (walkR F p).1 := by
  obtain ⟨hs, hne⟩ := pa_split hp
  unfold walkR at hw ⊢
  rw [if_pos hs] at hw ⊢
  obtain ⟨k, hk⟩ : ∃ k, k = (wkR F 0 (splitP p)).1 := ⟨_, rfl⟩
  have hwk : wkR F 0 (splitP p) = (k, 0) := by
    rw [hk]
    exact Prod.ext rfl hw
  obtain ⟨d, h1, h2, h3, h4⟩ := wk_last F _ _ k hwk hne
  have hpa : paR F p = (d, (splitP p).getD ((splitP p).length - 1) [], 0) := by
    unfold paR
    rw [if_pos hs, if_neg (by simpa using hne), h1, if_pos rfl, h2, if_pos rfl]
  rw [hpa, hwk]
  exact ⟨h3, by show 0 ≤ k; omega⟩
section
variable {w w' : World} {m : Nat} {B : Sto} {F : FS}
set_option maxHeartbeats 4000000 in
set_option maxRecDepth 100000 in
theorem frename_at (h : Fs w B F m) (hA : AllD F) (hm : m ≤ 600000000000) (a b : List UInt8) (ha : a.length ≤ 9223372036854775807) (hb : b.length ≤ 9223372036854775807) {v : Value} {os : List Int} (ho : OpIn w v os)
    (hN : (paR F b).2.2 = 0 → ∀ j : Nat, fdR F (paR F b).1 (paR F b).2.1 = (j : Int) → isD F (j : Int) = false → Named F j)
    (hdp : (paR F a).2.2 = 0 → (walkR F a).2 = 0 → (paR F b).2.2 = 0 → ∀ j : Nat, fdR F (paR F b).1 (paR F b).2.1 = (j : Int) → isD F (j : Int) = false → isD F (walkR F a).1 = false → (j : Int) ≠ (walkR F a).1 → rmR (dpF F (paR F b).1 (paR F b).2.1 j os) (paR F a).1 (paR F a).2.1 = 0 ∧ AllD (dpF F (paR F b).1 (paR F b).2.1 j os) ∧ (dpF F (paR F b).1 (paR F b).2.1 j os).n = F.n) :
    Calls Tryz.prog 72 #[sto B, tx a, tx b, v] w (Res B F.n (m + 1000000) (rnR F a b os) (rnF F a b os) (.tuple #[]) w) := by
  have hCx := fspot_at h hA (by omega) a ha
  have HA : Hid (AllD F) := hA
  obtain ⟨k, hk, hk32⟩ := walk_nat hA a
  have HRn : Hid (rnR F a b os = (if (paR F a).2.2 = 0 then (if (walkR F a).2 = 0 then (if (paR F b).2.2 = 0 then (if (isD F (k : Int) && ltR F b (k : Int)) = true then 22 else rnT F (paR F a).1 (paR F a).2.1 (k : Int) (paR F b).1 (paR F b).2.1 os) else (paR F b).2.2) else (walkR F a).2) else (paR F a).2.2) ∧ rnF F a b os = rnG F (paR F a).1 (paR F a).2.1 (k : Int) (paR F b).1 (paR F b).2.1 os) := by
    rw [← hk]
    exact ⟨rfl, rfl⟩
  have HMv : Hid ((paR F a).2.2 = 0 → (walkR F a).2 = 0 → rmR F (paR F a).1 (paR F a).2.1 = 0) := fun q1 q2 => by
    have := walk_pa2 q1 q2
    exact rm_yes (pa_dir q1) (by rw [this.1]; omega)
  have HSp : Hid ((paR F b).2.2 = 0 → (splitR b = 0 ∧ splitP b ≠ []) ∧ isD F (paR F b).1 = true) := fun q => ⟨pa_split q, pa_dir q⟩
  have HNm0 : Hid ((paR F b).2.2 = 0 → ∀ j : Nat, fdR F (paR F b).1 (paR F b).2.1 = (j : Int) → isD F (j : Int) = false → Named F j) := hN
  rw [hk] at hdp
  have HDp0 : Hid _ := hdp
  have HO : Hid (OpIn w v os) := ho
  obtain ⟨va, vc, hv, -, -⟩ := ho
  obtain ⟨N, hNn⟩ : ∃ N, N = os.length := ⟨_, rfl⟩
  rw [← hNn] at hv
  subst hv
  have HWk : Hid (∀ W m', Fs W B F m' → m' ≤ 700000000000 → Calls Tryz.prog 121 #[sto B, tx a] W (Res B F.n (m' + 210000) (walkR F a).2 F (.int .i64 (k : Int)) W)) := fun W m' hW hm' => by
    have := fwalk_at hW HA.out hm' a ha
    rw [hk] at this
    exact this
  have HS2 : Hid (∀ W m', Fs W B F m' → m' ≤ 700000000000 → Calls Tryz.prog 117 #[sto B, tx b] W (Res B F.n (m' + 225000) (paR F b).2.2 F (.agg #[.int .i64 (paR F b).1, tx (paR F b).2.1]) W)) := fun W m' hW hm' => fspot_at hW HA.out hm' b hb
  have HLn : Hid ((paR F b).2.1.length ≤ 9223372036854775807) := by have := pa_len (F := F) (p := b); show _ ≤ _; omega
  have HUx : Hid (BG B w w) := SU.refl _ _ _
  clear h hA hN hdp hNn hk
  generalize rnR F a b os = rr at *
  generalize rnF F a b os = rf at *
  generalize (paR F a).2.2 = e1 at *
  generalize (paR F a).2.1 = n1 at *
  generalize (paR F a).1 = d1 at *
  generalize (walkR F a).2 = we at *
  generalize (paR F b).2.2 = e3 at *
  generalize (paR F b).2.1 = n2 at *
  generalize (paR F b).1 = d2 at *
  go_enter Tryz.func72, Tryz.ntmps72
  go_wp2_with fail
  refine hCx.mono ?_
  rintro e wx (⟨z0, rfl, hf, hbg⟩ | ⟨z0, rfl, hdk, hbg⟩)
  · subst z0
    have HRn1 : Hid (rr = (if we = 0 then (if e3 = 0 then (if (isD F (k : Int) && ltR F b (k : Int)) = true then 22 else rnT F d1 n1 (k : Int) d2 n2 os) else e3) else we) ∧ rf = rnG F d1 n1 (k : Int) d2 n2 os) := ⟨by have := HRn.out.1; rw [if_pos rfl] at this; exact this, HRn.out.2⟩
    have HMv1 : Hid (we = 0 → rmR F d1 n1 = 0) := HMv.out rfl
    have HDp1 : Hid (we = 0 → e3 = 0 → ∀ j : Nat, fdR F d2 n2 = (j : Int) → isD F (j : Int) = false → isD F (k : Int) = false → (j : Int) ≠ (k : Int) → rmR (dpF F d2 n2 j os) d1 n1 = 0 ∧ AllD (dpF F d2 n2 j os) ∧ (dpF F d2 n2 j os).n = F.n) := HDp0.out rfl
    clear HRn HMv HDp0
    obtain ⟨W1, hW1⟩ : ∃ W, W = wx.alloc (.cells #[.int .i64 d1, tx n1] 180) := ⟨_, rfl⟩
    have hb1 : Below wx.heap.size wx W1 := by rw [hW1]; exact below_alloc _ _
    obtain ⟨b1, hb1'⟩ : ∃ b, b = wx.heap.size := ⟨_, rfl⟩
    have hx1 : W1.heap[b1]? = some (.cells #[.int .i64 d1, tx n1] 180) := by rw [hW1, hb1']; exact heap_alloc_new _ _
    have hCw := HWk.out W1 _ (hf.below hb1) (by omega)
    have HU1 : Hid (BG B w W1) := SU.trans hbg (bg_of hb1)
    have HX1 : Hid (W1.heap[b1]? = some (.cells #[.int .i64 d1, tx n1] 180)) := hx1
    have HW1 : Hid _ := hW1
    have Hb1 : Hid (b1 = wx.heap.size) := hb1'
    clear hCx hf hbg hW1 hb1 hb1' hx1 HWk HUx
    go_wp2_with fail
    rw [← HW1.out, ← Hb1.out]
    clear HW1 Hb1
    have HUx := HU1
    have hCx := hCw
    clear hCw HU1
    refine hCx.mono ?_
    rintro e wx (⟨z0, rfl, hf, hbg⟩ | ⟨z0, rfl, hdk, hbg⟩)
    · subst z0
      have HRn2 : Hid (rr = (if e3 = 0 then (if (isD F (k : Int) && ltR F b (k : Int)) = true then 22 else rnT F d1 n1 (k : Int) d2 n2 os) else e3) ∧ rf = rnG F d1 n1 (k : Int) d2 n2 os) := ⟨by have := HRn1.out.1; rw [if_pos rfl] at this; exact this, HRn1.out.2⟩
      have HMv0 : Hid (rmR F d1 n1 = 0) := HMv1.out rfl
      have HDp2 : Hid (e3 = 0 → ∀ j : Nat, fdR F d2 n2 = (j : Int) → isD F (j : Int) = false → isD F (k : Int) = false → (j : Int) ≠ (k : Int) → rmR (dpF F d2 n2 j os) d1 n1 = 0 ∧ AllD (dpF F d2 n2 j os) ∧ (dpF F d2 n2 j os).n = F.n) := HDp1.out rfl
      clear HRn1 HMv1 HDp1
      have hCs := HS2.out wx _ hf (by omega)
      have HU2 : Hid (BG B w wx) := SU.trans HUx.out hbg
      have HX12 : Hid (wx.heap[b1]? = some (.cells #[.int .i64 d1, tx n1] 180)) := hbg.other HX1.out (by decide)
      clear hCx hf hbg HS2 HUx HX1
      go_wp2_with fail
      have HUx := HU2
      have hCx := hCs
      clear hCs HU2
      refine hCx.mono ?_
      rintro e wx (⟨z0, rfl, hf, hbg⟩ | ⟨z0, rfl, hdk, hbg⟩)
      · subst z0
        obtain ⟨W3, hW3⟩ : ∃ W, W = wx.alloc (.cells #[.int .i64 d2, tx n2] 180) := ⟨_, rfl⟩
        have hb3 : Below wx.heap.size wx W3 := by rw [hW3]; exact below_alloc _ _
        obtain ⟨b2, hb2'⟩ : ∃ b, b = wx.heap.size := ⟨_, rfl⟩
        have hx2 : W3.heap[b2]? = some (.cells #[.int .i64 d2, tx n2] 180) := by rw [hW3, hb2']; exact heap_alloc_new _ _
        have hx1 := hbg.other HX12.out (by decide)
        have hx1' := (hb3.block _ (lt_of_heap hx1)).trans hx1
        have hDk := fisdir_at (hf.below hb3) (by omega) k hk32
        have HFs3 : Hid (Fs W3 B F (m + 660000)) := (hf.below hb3).mono (by omega)
        have HU3 : Hid (BG B w W3) := SU.trans HUx.out (SU.trans hbg (bg_of hb3))
        have HX13 : Hid (W3.heap[b1]? = some (.cells #[.int .i64 d1, tx n1] 180)) := hx1'
        have HX23 : Hid (W3.heap[b2]? = some (.cells #[.int .i64 d2, tx n2] 180)) := hx2
        have HO3 : Hid (OpIn W3 (.slice va N vc) os) := HO.out.su HU3.out (fun _ _ _ q => q.elim)
        have HW3 : Hid _ := hW3
        have Hb2 : Hid (b2 = wx.heap.size) := hb2'
        obtain ⟨⟨hsp1, hsp2⟩, hd2⟩ := HSp.out rfl
        have HD2 : Hid (isD F d2 = true) := hd2
        have HNm : Hid (∀ j : Nat, fdR F d2 n2 = (j : Int) → isD F (j : Int) = false → Named F j) := HNm0.out rfl
        have HDpp := HDp2.out rfl
        have hrn := HRn2.out.1
        have hrf := HRn2.out.2
        rw [if_pos rfl] at hrn
        have HRn3 : Hid (rr = (if (isD F (k : Int) && ltR F b (k : Int)) = true then 22 else rnT F d1 n1 (k : Int) d2 n2 os) ∧ rf = rnG F d1 n1 (k : Int) d2 n2 os) := ⟨hrn, hrf⟩
        have HLe : Hid (∀ W m', Fs W B F m' → m' ≤ 700000000000 → Calls Tryz.prog 137 #[sto B, tx b, .int .i64 (k : Int)] W fun e w' => e = .returned (.bool (ltR F b (k : Int))) ∧ Fs w' B F (m' + 210000) ∧ BG B W w') := fun W m' hW hm' => leads_at hW HA.out hm' b hb hsp1 hsp2 (k : Int)
        clear hCx hf hbg hW3 hb3 hb2' hx1 hx1' hx2 hrn hrf HRn2 HNm0 HDp2 HSp HUx HX12 hd2 hsp1 hsp2 HO
        generalize ltR F b (k : Int) = lt at *
        generalize hbk : isD F (k : Int) = bk at *
        have HBk : Hid (isD F (k : Int) = bk) := hbk
        clear hbk
        have HDp : Hid (∀ j : Nat, fdR F d2 n2 = (j : Int) → isD F (j : Int) = false → isD F (k : Int) = false → (j : Int) ≠ (k : Int) → rmR (dpF F d2 n2 j os) d1 n1 = 0 ∧ AllD (dpF F d2 n2 j os) ∧ (dpF F d2 n2 j os).n = F.n) := fun j q1 q2 q3 q4 => HDpp j q1 q2 (by first | exact q3 | (rw [← HBk.out]; exact q3)) q4
        clear HDpp
        go_wp2_with fail
        rw [← HW3.out, ← Hb2.out]
        clear HW3 Hb2
        refine hDk.mono ?_
        rintro e w4 ⟨rfl, hf4, hbg4⟩
        have HU4 : Hid (BG B w w4) := SU.trans HU3.out hbg4
        have HX14 : Hid (w4.heap[b1]? = some (.cells #[.int .i64 d1, tx n1] 180)) := hbg4.other HX13.out (by decide)
        have HX24 : Hid (w4.heap[b2]? = some (.cells #[.int .i64 d2, tx n2] 180)) := hbg4.other HX23.out (by decide)
        have HO4 : Hid (OpIn w4 (.slice va N vc) os) := HO3.out.st hbg4
        have HFs4 : Hid (Fs w4 B F (m + 663000)) := hf4.mono (by omega)
        clear hDk hf4 hbg4 HU3 HX13 HX23 HO3 HFs3
        cases bk with
        | false =>
          have hrt := HRn3.out.1
          have hrf := HRn3.out.2
          rw [Bool.false_and, if_neg (by simp)] at hrt
          have HRt : Hid (rr = (if fdR F d2 n2 = (k : Int) then 0 else if fdR F d2 n2 < 0 then mvR F d1 n1 d2 n2 (k : Int) else if (isD F (k : Int) || isD F (fdR F d2 n2)) = true then 17 else mvR (dpF F d2 n2 (fdR F d2 n2).toNat os) d1 n1 d2 n2 (k : Int)) ∧ rf = (if fdR F d2 n2 = (k : Int) then F else if fdR F d2 n2 < 0 then mvF F d1 n1 d2 n2 (k : Int) else mvF (dpF F d2 n2 (fdR F d2 n2).toNat os) d1 n1 d2 n2 (k : Int))) := ⟨hrt, hrf⟩
          obtain ⟨w5, hw5⟩ : ∃ W, W = w4 := ⟨_, rfl⟩
          rw [← hw5] at HU4 HX14 HX24 HO4 HFs4
          rw [← hw5]
          have HFs5 : Hid (Fs w5 B F (m + 873000)) := HFs4.out.mono (by omega)
          have HU5 := HU4
          have HX1 := HX14
          have HX2 := HX24
          have HO5 := HO4
          clear hrt hrf HRn3 HLe HU4 HX14 HX24 HO4 HFs4 hw5 w4
          have hFi := ffind_at HFs5.out HA.out (by omega) d2 n2
          clear HFs5
          generalize hold : fdR F d2 n2 = old at *
          have HOld : Hid (fdR F d2 n2 = old) := hold
          clear hold
          have c20 : w5.cell? ⟨b2, 0, none⟩ = some (.int .i64 d2) := by rw [cell_of_heap HX2.out]; rfl
          have c21 : w5.cell? ⟨b2, 1, none⟩ = some (tx n2) := by rw [cell_of_heap HX2.out]; rfl
          go_wp2_with fail
          refine hFi.mono ?_
          rintro e w6 ⟨rfl, hf6, hbg6⟩
          have HFs6 : Hid (Fs w6 B F (m + 879000)) := hf6.mono (by omega)
          have HU6 : Hid (BG B w w6) := SU.trans HU5.out hbg6
          have HX16 : Hid (w6.heap[b1]? = some (.cells #[.int .i64 d1, tx n1] 180)) := hbg6.other HX1.out (by decide)
          have HX26 : Hid (w6.heap[b2]? = some (.cells #[.int .i64 d2, tx n2] 180)) := hbg6.other HX2.out (by decide)
          have HO6 : Hid (OpIn w6 (.slice va N vc) os) := HO5.out.st hbg6
          clear hFi hf6 hbg6 c20 c21 HU5 HX1 HX2 HO5
          have d10 : w6.cell? ⟨b1, 0, none⟩ = some (.int .i64 d1) := by rw [cell_of_heap HX16.out]; rfl
          have d11 : w6.cell? ⟨b1, 1, none⟩ = some (tx n1) := by rw [cell_of_heap HX16.out]; rfl
          have d20 : w6.cell? ⟨b2, 0, none⟩ = some (.int .i64 d2) := by rw [cell_of_heap HX26.out]; rfl
          have d21 : w6.cell? ⟨b2, 1, none⟩ = some (tx n2) := by rw [cell_of_heap HX26.out]; rfl
          by_cases hok : old = (k : Int)
          · have hrt := HRt.out.1
            have hrf := HRt.out.2
            rw [if_pos hok] at hrt hrf
            subst hrt
            have HE : Hid (Fs w6 B rf (m + 1000000) ∧ BG B w w6) := ⟨by rw [hrf]; exact HFs6.out.mono (by omega), HU6.out⟩
            have hkk : (old == (k : Int)) = true := by rw [hok]; simp
            clear hrf HRt HFs6 HU6 HMv0 HDp HNm hok
            go_wp2
            go_end0
            exact Or.inl ⟨rfl, rfl, HE.out⟩
          · have hkk : (old == (k : Int)) = false := beq_false_of_ne hok
            obtain ⟨hrt, hrf⟩ := HRt.out
            rw [if_neg hok] at hrt hrf
            by_cases hneg : old < 0
            · rw [if_pos hneg] at hrt hrf
              have HRr : Hid (rr = mvR F d1 n1 d2 n2 (k : Int)) := hrt
              have HRf : Hid (rf = mvF F d1 n1 d2 n2 (k : Int)) := hrf
              have hge : ¬ (0 : Int) ≤ old := by omega
              have HUz : Hid (BG B w w6) := HU6.out
              have HMvc : Hid (Calls Tryz.prog 138 #[sto B, .agg #[.int .i64 d1, tx n1], .agg #[.int .i64 d2, tx n2], .int .i64 (k : Int)] w6 (Res B F.n (m + 879000 + 30000) (mvR F d1 n1 d2 n2 (k : Int)) (mvF F d1 n1 d2 n2 (k : Int)) (.tuple #[]) w6)) := fmove_at HFs6.out HA.out (by omega) d1 n1 d2 n2 HLn.out (k : Int) HMv0.out
              clear hrt hrf HRt HFs6 HU6 HMv0 HDp HNm hok hneg
              generalize mvR F d1 n1 d2 n2 (k : Int) = mr at *
              generalize mvF F d1 n1 d2 n2 (k : Int) = mf at *
              have hMv := HMvc.out
              clear HMvc
              go_wp2_with fail
              refine hMv.mono ?_
              rintro e w9 (⟨y0, rfl, hf9, hbg9⟩ | ⟨y0, rfl, hdk9, hbg9⟩)
              · have HE : Hid (Fs w9 B rf (m + 1000000) ∧ BG B w w9) := ⟨by rw [HRf.out]; exact hf9.mono (by omega), SU.trans HUz.out hbg9⟩
                have HK : Hid (rr = 0) := HRr.out.trans y0
                clear hMv hf9 hbg9 y0
                go_wp2
                go_end0
                exact Or.inl ⟨HK.out, rfl, HE.out⟩
              · have HE : Hid ((∃ ws, Dk w9 B F.n ws (m + 1000000)) ∧ BG B w w9) := by
                  obtain ⟨ws, hws⟩ := hdk9
                  exact ⟨⟨ws, hws.mono (by omega)⟩, SU.trans HUz.out hbg9⟩
                have HK : Hid ((rr != 0) = true) := by show _ = _; rw [HRr.out]; exact y0
                have HRr2 : Hid _ := HRr.out
                clear hMv hdk9 hbg9 y0
                go_wp2
                exact ⟨rfl, Or.inr ⟨HK.out, by rw [HRr.out], HE.out⟩⟩
            · rw [if_neg hneg] at hrt hrf
              have hge : (0 : Int) ≤ old := by omega
              obtain ⟨j, hj, hj32⟩ := fd_nat HA.out (show ¬ fdR F d2 n2 < 0 by rw [HOld.out]; exact hneg)
              rw [HOld.out] at hj
              subst hj
              have hDk := fisdir_at HFs6.out (by omega) k hk32
              rw [HBk.out] at hDk
              rw [HBk.out, Bool.false_or, Int.toNat_natCast] at hrt
              rw [Int.toNat_natCast] at hrf
              have HRt2 : Hid (rr = (if isD F (j : Int) = true then 17 else mvR (dpF F d2 n2 j os) d1 n1 d2 n2 (k : Int)) ∧ rf = mvF (dpF F d2 n2 j os) d1 n1 d2 n2 (k : Int)) := ⟨hrt, hrf⟩
              have HOk : Hid (¬ (j : Int) = (k : Int)) := hok
              clear hrt hrf HRt HMv0 hok hneg
              go_wp2_with fail
              refine hDk.mono ?_
              rintro e w7 ⟨rfl, hf7, hbg7⟩
              have hDj := fisdir_at hf7 (by omega) j hj32
              have HFs7 : Hid (Fs w7 B F (m + 882000)) := hf7.mono (by omega)
              have HU7 : Hid (BG B w w7) := SU.trans HU6.out hbg7
              have HX17 : Hid (w7.heap[b1]? = some (.cells #[.int .i64 d1, tx n1] 180)) := hbg7.other HX16.out (by decide)
              have HX27 : Hid (w7.heap[b2]? = some (.cells #[.int .i64 d2, tx n2] 180)) := hbg7.other HX26.out (by decide)
              have HO7 : Hid (OpIn w7 (.slice va N vc) os) := HO6.out.st hbg7
              clear hDk hf7 hbg7 d10 d11 d20 d21 HFs6 HU6 HX16 HX26 HO6
              generalize hbj : isD F (j : Int) = bj at *
              have HBj : Hid (isD F (j : Int) = bj) := hbj
              clear hbj
              go_wp2_with fail
              refine hDj.mono ?_
              rintro e w8 ⟨rfl, hf8, hbg8⟩
              have HFs8 : Hid (Fs w8 B F (m + 885000)) := hf8.mono (by omega)
              have HU8 : Hid (BG B w w8) := SU.trans HU7.out hbg8
              have HX18 : Hid (w8.heap[b1]? = some (.cells #[.int .i64 d1, tx n1] 180)) := hbg8.other HX17.out (by decide)
              have HX28 : Hid (w8.heap[b2]? = some (.cells #[.int .i64 d2, tx n2] 180)) := hbg8.other HX27.out (by decide)
              have HO8 : Hid (OpIn w8 (.slice va N vc) os) := HO7.out.st hbg8
              clear hDj hf8 hbg8 HFs7 HU7 HX17 HX27 HO7
              cases bj with
              | true =>
                have hr17 : rr = 17 := by rw [HRt2.out.1, if_pos rfl]
                subst hr17
                have HE : Hid ((∃ ws, Dk w8 B F.n ws (m + 1000000)) ∧ BG B w w8) := ⟨(HFs8.out.mono (by omega)).dk, HU8.out⟩
                clear HRt2 HFs8 HU8 HDp HNm
                go_wp2
                exact ⟨rfl, Or.inr ⟨rfl, rfl, HE.out⟩⟩
              | false =>
                obtain ⟨hrt, hrf⟩ := HRt2.out
                rw [if_neg (by simp)] at hrt
                have HRr : Hid (rr = mvR (dpF F d2 n2 j os) d1 n1 d2 n2 (k : Int)) := hrt
                have HRf : Hid (rf = mvF (dpF F d2 n2 j os) d1 n1 d2 n2 (k : Int)) := hrf
                have hnm := HNm.out j rfl HBj.out
                obtain ⟨hdp1, hdp2, hdp3⟩ := HDp.out j rfl HBj.out HBk.out HOk.out
                have e20 : w8.cell? ⟨b2, 0, none⟩ = some (.int .i64 d2) := by rw [cell_of_heap HX28.out]; rfl
                have e21 : w8.cell? ⟨b2, 1, none⟩ = some (tx n2) := by rw [cell_of_heap HX28.out]; rfl
                have hDr := fdrop_at HFs8.out HA.out (by omega) d2 n2 (rm_yes HD2.out (by rw [HOld.out]; omega)) j hj32 hnm.pos hnm.use hnm.one (by have := hnm.most; omega) HO8.out
                have HMvc : Hid (∀ W, Fs W B (dpF F d2 n2 j os) (m + 885000 + 21000) → Calls Tryz.prog 138 #[sto B, .agg #[.int .i64 d1, tx n1], .agg #[.int .i64 d2, tx n2], .int .i64 (k : Int)] W (Res B F.n (m + 885000 + 21000 + 30000) (mvR (dpF F d2 n2 j os) d1 n1 d2 n2 (k : Int)) (mvF (dpF F d2 n2 j os) d1 n1 d2 n2 (k : Int)) (.tuple #[]) W)) := fun W hW => by
                  have := fmove_at hW hdp2 (by omega) d1 n1 d2 n2 HLn.out (k : Int) hdp1
                  rw [hdp3] at this
                  exact this
                clear hrt hrf HRt2 HFs8 HDp HNm hnm hdp1 hdp2 hdp3
                generalize mvR (dpF F d2 n2 j os) d1 n1 d2 n2 (k : Int) = mr at *
                generalize mvF (dpF F d2 n2 j os) d1 n1 d2 n2 (k : Int) = mf at *
                generalize dpF F d2 n2 j os = df at *
                go_wp2_with fail
                refine hDr.mono ?_
                rintro e wd ⟨rfl, hfd, hbgd⟩
                have HUz : Hid (BG B w wd) := SU.trans HU8.out hbgd
                have HX1d : Hid (wd.heap[b1]? = some (.cells #[.int .i64 d1, tx n1] 180)) := hbgd.other HX18.out (by decide)
                have HX2d : Hid (wd.heap[b2]? = some (.cells #[.int .i64 d2, tx n2] 180)) := hbgd.other HX28.out (by decide)
                have f10 : wd.cell? ⟨b1, 0, none⟩ = some (.int .i64 d1) := by rw [cell_of_heap HX1d.out]; rfl
                have f11 : wd.cell? ⟨b1, 1, none⟩ = some (tx n1) := by rw [cell_of_heap HX1d.out]; rfl
                have f20 : wd.cell? ⟨b2, 0, none⟩ = some (.int .i64 d2) := by rw [cell_of_heap HX2d.out]; rfl
                have f21 : wd.cell? ⟨b2, 1, none⟩ = some (tx n2) := by rw [cell_of_heap HX2d.out]; rfl
                have HMvd := HMvc.out wd hfd
                clear hDr hfd hbgd HU8 HX18 HX28 HO8 e20 e21 HMvc
                have hMv := HMvd
                clear HMvd
                go_wp2_with fail
                refine hMv.mono ?_
                rintro e w9 (⟨y0, rfl, hf9, hbg9⟩ | ⟨y0, rfl, hdk9, hbg9⟩)
                · have HE : Hid (Fs w9 B rf (m + 1000000) ∧ BG B w w9) := ⟨by rw [HRf.out]; exact hf9.mono (by omega), SU.trans HUz.out hbg9⟩
                  have HK : Hid (rr = 0) := HRr.out.trans y0
                  clear hMv hf9 hbg9 y0
                  go_wp2
                  go_end0
                  exact Or.inl ⟨HK.out, rfl, HE.out⟩
                · have HE : Hid ((∃ ws, Dk w9 B F.n ws (m + 1000000)) ∧ BG B w w9) := by
                    obtain ⟨ws, hws⟩ := hdk9
                    exact ⟨⟨ws, hws.mono (by omega)⟩, SU.trans HUz.out hbg9⟩
                  have HK : Hid ((rr != 0) = true) := by show _ = _; rw [HRr.out]; exact y0
                  have HRr2 : Hid _ := HRr.out
                  clear hMv hdk9 hbg9 y0
                  go_wp2
                  exact ⟨rfl, Or.inr ⟨HK.out, by rw [HRr.out], HE.out⟩⟩
        | true =>
          have hLe := HLe.out w4 _ HFs4.out (by omega)
          clear HLe
          go_wp2_with fail
          refine hLe.mono ?_
          rintro e w5 ⟨rfl, hf5, hbg5⟩
          have HU5 : Hid (BG B w w5) := SU.trans HU4.out hbg5
          have HX1 : Hid (w5.heap[b1]? = some (.cells #[.int .i64 d1, tx n1] 180)) := hbg5.other HX14.out (by decide)
          have HX2 : Hid (w5.heap[b2]? = some (.cells #[.int .i64 d2, tx n2] 180)) := hbg5.other HX24.out (by decide)
          have HO5 : Hid (OpIn w5 (.slice va N vc) os) := HO4.out.st hbg5
          have HFs5 : Hid (Fs w5 B F (m + 873000)) := hf5.mono (by omega)
          clear hLe hf5 hbg5 HU4 HX14 HX24 HO4 HFs4
          cases lt with
          | true =>
            have hrt := HRn3.out.1
            rw [Bool.true_and, if_pos rfl] at hrt
            subst hrt
            have HE : Hid ((∃ ws, Dk w5 B F.n ws (m + 1000000)) ∧ BG B w w5) := ⟨(HFs5.out.mono (by omega)).dk, HU5.out⟩
            clear HRn3 HFs5 HU5
            go_wp2
            exact ⟨rfl, Or.inr ⟨rfl, rfl, HE.out⟩⟩
          | false =>
            have hrt := HRn3.out.1
            have hrf := HRn3.out.2
            rw [Bool.and_false, if_neg (by simp)] at hrt
            have HRt : Hid (rr = (if fdR F d2 n2 = (k : Int) then 0 else if fdR F d2 n2 < 0 then mvR F d1 n1 d2 n2 (k : Int) else if (isD F (k : Int) || isD F (fdR F d2 n2)) = true then 17 else mvR (dpF F d2 n2 (fdR F d2 n2).toNat os) d1 n1 d2 n2 (k : Int)) ∧ rf = (if fdR F d2 n2 = (k : Int) then F else if fdR F d2 n2 < 0 then mvF F d1 n1 d2 n2 (k : Int) else mvF (dpF F d2 n2 (fdR F d2 n2).toNat os) d1 n1 d2 n2 (k : Int))) := ⟨hrt, hrf⟩
            clear hrt hrf HRn3
            have hFi := ffind_at HFs5.out HA.out (by omega) d2 n2
            clear HFs5
            generalize hold : fdR F d2 n2 = old at *
            have HOld : Hid (fdR F d2 n2 = old) := hold
            clear hold
            have c20 : w5.cell? ⟨b2, 0, none⟩ = some (.int .i64 d2) := by rw [cell_of_heap HX2.out]; rfl
            have c21 : w5.cell? ⟨b2, 1, none⟩ = some (tx n2) := by rw [cell_of_heap HX2.out]; rfl
            go_wp2_with fail
            refine hFi.mono ?_
            rintro e w6 ⟨rfl, hf6, hbg6⟩
            have HFs6 : Hid (Fs w6 B F (m + 879000)) := hf6.mono (by omega)
            have HU6 : Hid (BG B w w6) := SU.trans HU5.out hbg6
            have HX16 : Hid (w6.heap[b1]? = some (.cells #[.int .i64 d1, tx n1] 180)) := hbg6.other HX1.out (by decide)
            have HX26 : Hid (w6.heap[b2]? = some (.cells #[.int .i64 d2, tx n2] 180)) := hbg6.other HX2.out (by decide)
            have HO6 : Hid (OpIn w6 (.slice va N vc) os) := HO5.out.st hbg6
            clear hFi hf6 hbg6 c20 c21 HU5 HX1 HX2 HO5
            have d10 : w6.cell? ⟨b1, 0, none⟩ = some (.int .i64 d1) := by rw [cell_of_heap HX16.out]; rfl
            have d11 : w6.cell? ⟨b1, 1, none⟩ = some (tx n1) := by rw [cell_of_heap HX16.out]; rfl
            have d20 : w6.cell? ⟨b2, 0, none⟩ = some (.int .i64 d2) := by rw [cell_of_heap HX26.out]; rfl
            have d21 : w6.cell? ⟨b2, 1, none⟩ = some (tx n2) := by rw [cell_of_heap HX26.out]; rfl
            by_cases hok : old = (k : Int)
            · have hrt := HRt.out.1
              have hrf := HRt.out.2
              rw [if_pos hok] at hrt hrf
              subst hrt
              have HE : Hid (Fs w6 B rf (m + 1000000) ∧ BG B w w6) := ⟨by rw [hrf]; exact HFs6.out.mono (by omega), HU6.out⟩
              have hkk : (old == (k : Int)) = true := by rw [hok]; simp
              clear hrf HRt HFs6 HU6 HMv0 HDp HNm hok
              go_wp2
              go_end0
              exact Or.inl ⟨rfl, rfl, HE.out⟩
            · have hkk : (old == (k : Int)) = false := beq_false_of_ne hok
              obtain ⟨hrt, hrf⟩ := HRt.out
              rw [if_neg hok] at hrt hrf
              by_cases hneg : old < 0
              · rw [if_pos hneg] at hrt hrf
                have HRr : Hid (rr = mvR F d1 n1 d2 n2 (k : Int)) := hrt
                have HRf : Hid (rf = mvF F d1 n1 d2 n2 (k : Int)) := hrf
                have hge : ¬ (0 : Int) ≤ old := by omega
                have HUz : Hid (BG B w w6) := HU6.out
                have HMvc : Hid (Calls Tryz.prog 138 #[sto B, .agg #[.int .i64 d1, tx n1], .agg #[.int .i64 d2, tx n2], .int .i64 (k : Int)] w6 (Res B F.n (m + 879000 + 30000) (mvR F d1 n1 d2 n2 (k : Int)) (mvF F d1 n1 d2 n2 (k : Int)) (.tuple #[]) w6)) := fmove_at HFs6.out HA.out (by omega) d1 n1 d2 n2 HLn.out (k : Int) HMv0.out
                clear hrt hrf HRt HFs6 HU6 HMv0 HDp HNm hok hneg
                generalize mvR F d1 n1 d2 n2 (k : Int) = mr at *
                generalize mvF F d1 n1 d2 n2 (k : Int) = mf at *
                have hMv := HMvc.out
                clear HMvc
                go_wp2_with fail
                refine hMv.mono ?_
                rintro e w9 (⟨y0, rfl, hf9, hbg9⟩ | ⟨y0, rfl, hdk9, hbg9⟩)
                · have HE : Hid (Fs w9 B rf (m + 1000000) ∧ BG B w w9) := ⟨by rw [HRf.out]; exact hf9.mono (by omega), SU.trans HUz.out hbg9⟩
                  have HK : Hid (rr = 0) := HRr.out.trans y0
                  clear hMv hf9 hbg9 y0
                  go_wp2
                  go_end0
                  exact Or.inl ⟨HK.out, rfl, HE.out⟩
                · have HE : Hid ((∃ ws, Dk w9 B F.n ws (m + 1000000)) ∧ BG B w w9) := by
                    obtain ⟨ws, hws⟩ := hdk9
                    exact ⟨⟨ws, hws.mono (by omega)⟩, SU.trans HUz.out hbg9⟩
                  have HK : Hid ((rr != 0) = true) := by show _ = _; rw [HRr.out]; exact y0
                  have HRr2 : Hid _ := HRr.out
                  clear hMv hdk9 hbg9 y0
                  go_wp2
                  exact ⟨rfl, Or.inr ⟨HK.out, by rw [HRr.out], HE.out⟩⟩
              · rw [if_neg hneg] at hrt hrf
                have hge : (0 : Int) ≤ old := by omega
                obtain ⟨j, hj, hj32⟩ := fd_nat HA.out (show ¬ fdR F d2 n2 < 0 by rw [HOld.out]; exact hneg)
                rw [HOld.out] at hj
                subst hj
                have hDk := fisdir_at HFs6.out (by omega) k hk32
                rw [HBk.out] at hDk
                have hr17 : rr = 17 := by rw [hrt, HBk.out]; rfl
                subst hr17
                clear hrt hrf HRt HFs6 HMv0 HDp HNm hok hneg
                go_wp2_with fail
                refine hDk.mono ?_
                rintro e w7 ⟨rfl, hf7, hbg7⟩
                have HE : Hid ((∃ ws, Dk w7 B F.n ws (m + 1000000)) ∧ BG B w w7) := ⟨(hf7.mono (by omega)).dk, SU.trans HU6.out hbg7⟩
                clear hDk hf7 hbg7
                go_wp2
                exact ⟨rfl, Or.inr ⟨rfl, rfl, HE.out⟩⟩
      · skip
        have hne : ¬ e3 = 0 := by simpa using z0
        have HC : Hid (rr = e3) := by have := HRn2.out.1; rw [if_neg hne] at this; exact this
        have HF : Hid ((∃ ws, Dk wx B F.n ws (m + 1000000)) ∧ BG B w wx) := by
          obtain ⟨ws, hws⟩ := hdk
          exact ⟨⟨ws, hws.mono (by omega)⟩, SU.trans HUx.out hbg⟩
        have HK : Hid ((e3 != 0) = true) := z0
        clear hCx hdk hbg hne z0
        go_wp2
        exact ⟨rfl, Or.inr ⟨by rw [HC.out]; exact HK.out, by rw [HC.out], HF.out⟩⟩
    · skip
      have hne : ¬ we = 0 := by simpa using z0
      have HC : Hid (rr = we) := by have := HRn1.out.1; rw [if_neg hne] at this; exact this
      have HF : Hid ((∃ ws, Dk wx B F.n ws (m + 1000000)) ∧ BG B w wx) := by
        obtain ⟨ws, hws⟩ := hdk
        exact ⟨⟨ws, hws.mono (by omega)⟩, SU.trans HUx.out hbg⟩
      have HK : Hid ((we != 0) = true) := z0
      clear hCx hdk hbg hne z0
      go_wp2
      exact ⟨rfl, Or.inr ⟨by rw [HC.out]; exact HK.out, by rw [HC.out], HF.out⟩⟩
  · skip
    have hne : ¬ e1 = 0 := by simpa using z0
    have HC : Hid (rr = e1) := by have := HRn.out.1; rw [if_neg hne] at this; exact this
    have HF : Hid ((∃ ws, Dk wx B F.n ws (m + 1000000)) ∧ BG B w wx) := by
      obtain ⟨ws, hws⟩ := hdk
      exact ⟨⟨ws, hws.mono (by omega)⟩, SU.trans HUx.out hbg⟩
    have HK : Hid ((e1 != 0) = true) := z0
    clear hCx hdk hbg hne z0
    go_wp2
    exact ⟨rfl, Or.inr ⟨by rw [HC.out]; exact HK.out, by rw [HC.out], HF.out⟩⟩
end
end Go.Proofs.YtcjpahnlckfgoaaGreatDoor
