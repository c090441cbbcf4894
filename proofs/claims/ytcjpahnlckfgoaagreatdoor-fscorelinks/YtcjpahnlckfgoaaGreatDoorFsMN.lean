/- Package fscore over a store: fill. -/
/- Package fscore over a store: plant. -/
import Derived.Test.YtcjpahnlckfgoaaGreatDoorFsFG
import Derived.Test.YtcjpahnlckfgoaaGreatDoorTrA
import Derived.Deep.RegionHeld3
namespace Go.Proofs.YtcjpahnlckfgoaaGreatDoor
open Go.RowKit
set_option linter.unusedVariables false

/-- Fill. -/
def fiR (F : FS) (i : Nat) (l : List UInt8) : Int := if rsR F i 0 = 0 then wrR (rsF F i 0) i 0 l else rsR F i 0
def fiF (F : FS) (i : Nat) (l : List UInt8) : FS := wrF (rsF F i 0) i 0 l
section
variable {w w' : World} {m : Nat} {B : Sto} {F : FS}
set_option maxHeartbeats 2000000 in
set_option maxRecDepth 100000 in
theorem ffill_at (h : Fs w B F m) (hm : m ≤ 800000000000) (i : Nat) (hi : i < 32) (hu : Bi.bt F.iw i = true) (l : List UInt8) (hl : l.length ≤ 9223372036854775807) :
    Calls Tryz.prog 103 #[sto B, .int .i64 (i : Int), tx l] w (Res B F.n (m + 6000) (fiR F i l) (fiF F i l) (.tuple #[]) w) := by
  have hR := resize_all h (by omega) i hi hu 0
  have hu1 : Bi.bt (rsF F i 0).iw i = true := by rw [(rsF_iw F i 0).1]; exact hu
  have hn1 := (rsF_iw F i 0).2
  have hn2 := (wrF_iw (rsF F i 0) i 0 l).2
  have HW : Hid (∀ W, Fs W B (rsF F i 0) (m + 3000) → Calls Tryz.prog 23 #[sto B, .int .i64 (i : Int), .int .i64 0, tx l] W fun e w' => e = .returned (.int .i64 (wrR (rsF F i 0) i 0 l)) ∧ Fs w' B (wrF (rsF F i 0) i 0 l) (m + 3000 + 3000) ∧ BG B W w') := fun W hW => write_all hW (by omega) i hi hu1 0 l hl
  have HD : Hid (fiR F i l = (if rsR F i 0 = 0 then wrR (rsF F i 0) i 0 l else rsR F i 0) ∧ fiF F i l = wrF (rsF F i 0) i 0 l ∧ (rsF F i 0).n = F.n ∧ (wrF (rsF F i 0) i 0 l).n = F.n) := ⟨rfl, rfl, hn1, hn2.trans hn1⟩
  clear h hu hu1 hn1 hn2
  generalize fiR F i l = fr at *
  generalize fiF F i l = ff at *
  generalize rsR F i 0 = e1 at *
  generalize wrR (rsF F i 0) i 0 l = e2 at *
  generalize wrF (rsF F i 0) i 0 l = F2 at *
  generalize rsF F i 0 = F1 at *
  go_enter Tryz.func103, Tryz.ntmps103
  go_wp2_with fail
  refine hR.mono ?_
  rintro e w1 ⟨rfl, hf1, hbg1⟩
  have HU1 : Hid (BG B w w1) := hbg1
  by_cases h1 : e1 = 0
  · have HD2 : Hid (fr = e2) := by have := HD.out.1; rw [if_pos h1] at this; exact this
    subst h1
    have hW := HW.out w1 hf1
    clear hR hf1 hbg1 HW
    go_wp2_with (first
      | (go_at_call 102; refine (must_ok _).mono ?_; rintro e wz ⟨rfl, hw⟩; rw [hw]; clear hw wz)
      | fail)
    refine hW.mono ?_
    rintro e w2 ⟨rfl, hf2, hbg2⟩
    have HU2 : Hid (BG B w w2) := SU.trans HU1.out hbg2
    by_cases h2 : e2 = 0
    · have HE : Hid (Fs w2 B ff (m + 6000)) := by show Fs _ _ _ _; rw [HD.out.2.1]; exact hf2
      have HZ : Hid (fr = 0) := HD2.out.trans h2
      subst h2
      clear hW hf2 hbg2
      go_wp2_with (first
        | (go_at_call 102; refine (must_ok _).mono ?_; rintro e wz ⟨rfl, hw⟩; rw [hw]; clear hw wz)
        | fail)
      go_end0
      exact Or.inl ⟨HZ.out, rfl, HE.out, HU2.out⟩
    · have hn := ne_bool h2
      have HE : Hid (∃ ws, Dk w2 B F.n ws (m + 6000)) := by
        obtain ⟨ws, hws⟩ := hf2.dk
        rw [HD.out.2.2.2] at hws
        exact ⟨ws, hws⟩
      clear hW hf2 hbg2 h2
      go_wp2_with (first
        | (go_at_call 102; refine (must_no _ hn _).mono ?_; rintro e wz ⟨rfl, hw⟩; rw [hw]; clear hw wz)
        | fail)
      exact ⟨rfl, Or.inr ⟨by rw [HD2.out]; exact hn, by rw [HD2.out], HE.out, HU2.out⟩⟩
  · have hn := ne_bool h1
    have HD2 : Hid (fr = e1) := by have := HD.out.1; rw [if_neg h1] at this; exact this
    have HE : Hid (∃ ws, Dk w1 B F.n ws (m + 6000)) := by
      obtain ⟨ws, hws⟩ := hf1.dk
      rw [HD.out.2.2.1] at hws
      exact ⟨ws, hws.mono (by omega)⟩
    clear hR hf1 hbg1 HW h1
    go_wp2_with (first
      | (go_at_call 102; refine (must_no _ hn _).mono ?_; rintro e wz ⟨rfl, hw⟩; rw [hw]; clear hw wz)
      | fail)
    exact ⟨rfl, Or.inr ⟨by rw [HD2.out]; exact hn, by rw [HD2.out], HE.out, HU1.out⟩⟩
end
end Go.Proofs.YtcjpahnlckfgoaaGreatDoor

namespace Go.Proofs.YtcjpahnlckfgoaaGreatDoor
open Go.RowKit
set_option linter.unusedVariables false

/-- One node is made. -/
def plS (F : FS) (x : Nd) : Int × FS := if x.dir = true then (mkR F x.path, mkF F x.path) else if crR F x.path = 0 then (fiR (crF F x.path) (crI F x.path).toNat x.data, fiF (crF F x.path) (crI F x.path).toNat x.data) else (crR F x.path, F)
def plR : FS → List Nd → Int × FS
  | F, [] => (0, F)
  | F, x :: l => if (plS F x).1 = 0 then plR (plS F x).2 l else ((plS F x).1, F)
/-- What is kept while nodes are made. -/
structure PlI (PI : FS → List Nd → Prop) : Prop where
  all : ∀ F l, PI F l → FInv F → AllD F
  cr : ∀ F x l, PI F (x :: l) → FInv F → x.dir = false → crR F x.path = 0 → ∃ k : Nat, crI F x.path = (k : Int) ∧ k < 32 ∧ Bi.bt (crF F x.path).iw k = true
  step : ∀ F x l, PI F (x :: l) → FInv F → (plS F x).1 = 0 → PI (plS F x).2 l
/-- Nodes that can be read. -/
def NdIn (w : World) (v : Value) (l : List Nd) : Prop :=
  ∃ a cap, v = .slice a l.length cap ∧ (l ≠ [] → ∃ g off cur fz, a = some ⟨g, off, none⟩ ∧ w.heap[g]? = some (.cells cur 54 fz) ∧ ∀ j x, (cellsN l)[j]? = some x → cur[off + j]? = some x)
theorem NdIn.nil (w : World) : NdIn w (.slice none 0 0) [] := ⟨none, 0, rfl, fun h => absurd rfl h⟩
theorem NdIn.below {w w' : World} {v : Value} {l : List Nd} (h : NdIn w v l) (hb : Below w.heap.size w w') : NdIn w' v l := by
  obtain ⟨a, cap, e, h⟩ := h
  refine ⟨a, cap, e, fun hl => ?_⟩
  obtain ⟨g, off, cur, fz, e1, e2, e3⟩ := h hl
  exact ⟨g, off, cur, fz, e1, (hb.block _ (lt_of_heap e2)).trans e2, e3⟩
theorem NdIn.st {w w' : World} {v : Value} {l : List Nd} {lo : Nat} (h : NdIn w v l) (hu : ST lo w w') : NdIn w' v l := by
  obtain ⟨a, cap, e, h⟩ := h
  refine ⟨a, cap, e, fun hl => ?_⟩
  obtain ⟨g, off, cur, fz, e1, e2, e3⟩ := h hl
  exact ⟨g, off, cur, fz, e1, hu.other e2 (by decide), e3⟩
theorem NdIn.at {w : World} {a : Option Addr} {n cap : Nat} {l : List Nd} (h : NdIn w (.slice a n cap) l) {j : Nat} {x : Nd} (hj : l[j]? = some x) : ∃ g off, a = some ⟨g, off, none⟩ ∧ w.cell? ⟨g, off + j * 3, none⟩ = some (tx x.path) ∧ w.cell? ⟨g, off + j * 3 + 1, none⟩ = some (.bool x.dir) ∧ w.cell? ⟨g, off + j * 3 + 2, none⟩ = some (tx x.data) := by
  obtain ⟨a', cap', e, h⟩ := h
  obtain ⟨g, off, cur, fz, e1, e2, e3⟩ := h (fun q => by rw [q] at hj; simp at hj)
  simp only [Value.slice.injEq] at e
  obtain ⟨rfl, -, -⟩ := e
  obtain ⟨q0, q1, q2⟩ := cellsN_get hj
  refine ⟨g, off, e1, ?_, ?_, ?_⟩
  · rw [cell_of_heap e2, Nat.mul_comm j 3]; exact e3 _ _ q0
  · rw [cell_of_heap e2, Nat.mul_comm j 3, Nat.add_assoc]; exact e3 _ _ q1
  · rw [cell_of_heap e2, Nat.mul_comm j 3, Nat.add_assoc]; exact e3 _ _ q2
theorem bn_n (F : FS) (d : Int) (s : List UInt8) (k : Int) : (bnF F d s k).n = F.n := by
  unfold bnF
  rw [adF_n]
  unfold bnF1 alF
  split <;> rfl
theorem cr_n (F : FS) (p : List UInt8) : (crF F p).n = F.n := by
  unfold crF
  split
  · exact bn_n _ _ _ _
  · rfl
theorem fi_n (F : FS) (i : Nat) (l : List UInt8) : (fiF F i l).n = F.n := (wrF_iw _ _ _ _).2.trans (rsF_iw _ _ _).2
section
variable {w w' : World} {m : Nat} {B : Sto} {F : FS}
set_option maxHeartbeats 2000000 in
set_option maxRecDepth 100000 in
theorem fplant_at {PI : FS → List Nd → Prop} (hPl : PlI PI) {F0 : FS} {n : Nat} {v : Value} {l : List Nd} (hn0 : F0.n = n) (hF : Calls Tryz.prog 20 #[sto B, .int .i64 (n : Int)] w fun e w' => e = .returned (.int .i64 0) ∧ Fs w' B F0 (m + 3000) ∧ BG B w w') (hP0 : PI F0 l) (hm : m ≤ 500000000000) (hl : l.length ≤ 10000) (hv : NdIn w v l) (hs : ∀ x ∈ l, x.path.length ≤ 9223372036854775807 ∧ x.data.length ≤ 9223372036854775807) :
    Calls Tryz.prog 48 #[sto B, .int .i64 (n : Int), v] w (Res B n (m + 3000 + 300000 * l.length) (plR F0 l).1 (plR F0 l).2 (.tuple #[]) w) := by
  obtain ⟨a, cap, hva, -⟩ := id hv
  subst hva
  have HV : Hid (NdIn w (.slice a l.length cap) l) := hv
  have HS : Hid (∀ x ∈ l, x.path.length ≤ 9223372036854775807 ∧ x.data.length ≤ 9223372036854775807) := hs
  have HR : Hid (plR F0 l = plR F0 (l.drop 0)) := rfl
  generalize hpr : plR F0 l = pr at *
  obtain ⟨N, hN⟩ : ∃ N, N = l.length := ⟨_, rfl⟩
  rw [← hN] at hl HV ⊢
  have HN : Hid (N = l.length) := hN
  clear hs hv hpr hN
  go_enter Tryz.func48, Tryz.ntmps48
  go_wp2_with fail
  refine hF.mono ?_
  rintro e w1 ⟨rfl, hf1, hbg1⟩
  have HF1 : Hid (Fs w1 B F0 (m + 3000) ∧ BG B w w1 ∧ NdIn w1 (.slice a N cap) l) := ⟨hf1, hbg1, HV.out.st hbg1⟩
  clear hF hf1 hbg1 HV
  go_wp2_with (first
    | (go_at_call 102; refine (must_ok _).mono ?_; rintro e wz ⟨rfl, hw⟩; rw [hw]; clear hw wz)
    | go_in)
  go_loopw [14] (fun s wr => ∃ (k : Nat) (Fk : FS), s = .int .i64 k ∧ k ≤ N ∧ Hid (pr = plR Fk (l.drop k)) ∧ Hid (PI Fk (l.drop k) ∧ Fk.n = n) ∧ Hid (Fs wr B Fk (m + 3000 + 300000 * k) ∧ BG B w wr ∧ NdIn wr (.slice a N cap) l)) (fun s _ => N - (RowKit.intOf s).toNat)
  case atStart => exact ⟨0, F0, rfl, by omega, HR, ⟨by rw [List.drop_zero]; exact hP0, hn0⟩, HF1⟩
  case round =>
    obtain ⟨k, Fk, rfl, hk, HPr, HPk, HSk⟩ := hrel
    clear HF1 HR
    by_cases hlt : k < N
    · have hkl : k < l.length := by rw [← HN.out]; exact hlt
      obtain ⟨x, hx⟩ : ∃ x, l[k]? = some x := ⟨l[k], List.getElem?_eq_getElem hkl⟩
      obtain ⟨g, off, rfl, c0, c1, c2⟩ := HSk.out.2.2.at hx
      have hint : (k : Int) < (N : Int) := by omega
      have hxs := HS.out x (List.mem_of_getElem? hx)
      have hd : l.drop k = x :: l.drop (k + 1) := by
        rw [List.drop_eq_getElem_cons hkl]
        congr 1
        rw [List.getElem?_eq_getElem hkl] at hx
        exact Option.some.inj hx
      have hpr := HPr.out
      rw [hd] at hpr
      have HPr2 : Hid (pr = (if (plS Fk x).1 = 0 then plR (plS Fk x).2 (l.drop (k + 1)) else ((plS Fk x).1, Fk))) := hpr
      have hpk := HPk.out.1
      rw [hd] at hpk
      have HStep : Hid ((plS Fk x).1 = 0 → PI (plS Fk x).2 (l.drop (k + 1))) := hPl.step Fk x _ hpk HSk.out.1.inv
      have hcr := hPl.cr Fk x _ hpk HSk.out.1.inv
      obtain ⟨W2, hW2⟩ : ∃ W, W = wr.alloc (.cells #[tx x.path, .bool x.dir, tx x.data] 54) := ⟨_, rfl⟩
      have hb2 : Below wr.heap.size wr W2 := by rw [hW2]; exact below_alloc _ _
      obtain ⟨r, hr⟩ : ∃ r, r = wr.heap.size := ⟨_, rfl⟩
      have hr2 : W2.heap[r]? = some (.cells #[tx x.path, .bool x.dir, tx x.data] 54) := by rw [hW2, hr]; exact heap_alloc_new _ _
      have HR2 : Hid (W2.heap[r]? = some (.cells #[tx x.path, .bool x.dir, tx x.data] 54)) := hr2
      have HF2 : Hid (Fs W2 B Fk (m + 3000 + 300000 * k) ∧ BG B w W2 ∧ NdIn W2 (.slice (some ⟨g, off, none⟩) N cap) l) := ⟨HSk.out.1.below hb2, SU.trans HSk.out.2.1 (bg_of hb2), HSk.out.2.2.below hb2⟩
      have HAk : Hid (AllD Fk) := hPl.all Fk _ HPk.out.1 HSk.out.1.inv
      have HW2 : Hid _ := hW2
      have Hr : Hid (r = wr.heap.size) := hr
      clear hx hd hpr hpk HPr HSk hW2 hb2 hr hr2
      obtain ⟨xp, xd, xs⟩ := x
      dsimp only at *
      cases xd with
      | true =>
        have e1 : plS Fk ⟨xp, true, xs⟩ = (mkR Fk xp, mkF Fk xp) := by unfold plS; rw [if_pos rfl]
        rw [e1] at HPr2 HStep
        dsimp only at HPr2 HStep
        have hMk := fmkdir_at HF2.out.1 HAk.out (by omega) xp hxs.1
        have hnn : (mkF Fk xp).n = Fk.n := bn_n _ _ _ _
        have HNn : Hid ((mkF Fk xp).n = n) := hnn.trans HPk.out.2
        rw [HPk.out.2] at hMk
        clear e1 hcr hnn
        generalize mkR Fk xp = er at *
        generalize mkF Fk xp = F2 at *
        go_wp2_with fail
        rw [← HW2.out]
        refine hMk.mono ?_
        rintro e w3 (⟨z0, rfl, hf3, hbg3⟩ | ⟨z0, rfl, hdk3, hbg3⟩)
        · have HE : Hid (Fs w3 B F2 (m + 3000 + 300000 * (k + 1)) ∧ BG B w w3 ∧ NdIn w3 (.slice (some ⟨g, off, none⟩) N cap) l) := ⟨hf3.mono (by omega), SU.trans HF2.out.2.1 hbg3, HF2.out.2.2.st hbg3⟩
          have HPr3 : Hid (pr = plR F2 (l.drop (k + 1))) := by have := HPr2.out; rw [if_pos z0] at this; exact this
          have HP3 : Hid (PI F2 (l.drop (k + 1)) ∧ F2.n = n) := ⟨HStep.out z0, HNn.out⟩
          clear hMk hf3 hbg3 z0 HPr2 HStep
          go_wp2
          go_roundw
          case rel => exact ⟨k + 1, F2, by go_num, by omega, HPr3, HP3, HE⟩
          case measure => simp [RowKit.intOf]; omega
        · have hne : ¬ er = 0 := by simpa using z0
          have HPr3 : Hid (pr = (er, Fk)) := by have := HPr2.out; rw [if_neg hne] at this; exact this
          have HE : Hid ((∃ ws, Dk w3 B n ws (m + 3000 + 300000 * N)) ∧ BG B w w3) := by
            obtain ⟨ws, hws⟩ := hdk3
            exact ⟨⟨ws, hws.mono (by omega)⟩, SU.trans HF2.out.2.1 hbg3⟩
          have HZ : Hid ((er != 0) = true) := z0
          clear hMk hdk3 hbg3 z0 hne HPr2 HStep
          go_wp2
          exact ⟨rfl, Or.inr ⟨by rw [HPr3.out]; exact HZ.out, by rw [HPr3.out], HE.out⟩⟩
      | false =>
        have e1 : plS Fk ⟨xp, false, xs⟩ = (if crR Fk xp = 0 then (fiR (crF Fk xp) (crI Fk xp).toNat xs, fiF (crF Fk xp) (crI Fk xp).toNat xs) else (crR Fk xp, Fk)) := by unfold plS; rw [if_neg (by simp)]
        rw [e1] at HPr2 HStep
        have hbV : Below W2.heap.size W2 W2.drew := (Below.refl _ _).drew
        have hCr := fcreate_at (HF2.out.1.below hbV) HAk.out (by omega) xp hxs.1
        have HNc : Hid ((crF Fk xp).n = n) := (cr_n _ _).trans HPk.out.2
        rw [HPk.out.2] at hCr
        have HFi : Hid (∀ k' : Nat, crR Fk xp = 0 → crI Fk xp = (k' : Int) → k' < 32 → Bi.bt (crF Fk xp).iw k' = true → ∀ W, Fs W B (crF Fk xp) (m + 3000 + 300000 * k + 250000) → Calls Tryz.prog 103 #[sto B, .int .i64 (k' : Int), tx xs] W (Res B n (m + 3000 + 300000 * k + 250000 + 6000) (fiR (crF Fk xp) k' xs) (fiF (crF Fk xp) k' xs) (.tuple #[]) W)) := fun k' _ _ hk2 hu W hW => by
          have := ffill_at hW (by omega) k' hk2 hu xs hxs.2
          rw [HNc.out] at this
          exact this
        have HNn : Hid (∀ k' : Nat, (fiF (crF Fk xp) k' xs).n = n) := fun k' => (fi_n _ _ _).trans HNc.out
        have HCr : Hid (crR Fk xp = 0 → ∃ k : Nat, crI Fk xp = (k : Int) ∧ k < 32 ∧ Bi.bt (crF Fk xp).iw k = true) := hcr rfl
        have HUV : Hid (BG B w W2.drew) := SU.trans HF2.out.2.1 (bg_of hbV)
        have HNV : Hid (NdIn W2.drew (.slice (some ⟨g, off, none⟩) N cap) l) := HF2.out.2.2.below hbV
        have hrV : W2.drew.heap[r]? = some (.cells #[tx xp, .bool false, tx xs] 54) := HR2.out
        have HRV : Hid (W2.drew.heap[r]? = some (.cells #[tx xp, .bool false, tx xs] 54)) := hrV
        have r0 : W2.drew.cell? ⟨r, 0, none⟩ = some (tx xp) := by rw [cell_of_heap hrV]; rfl
        have r2 : W2.drew.cell? ⟨r, 2, none⟩ = some (tx xs) := by rw [cell_of_heap hrV]; rfl
        clear e1 hcr hbV HR2 HF2 hrV
        generalize crR Fk xp = er at *
        generalize crF Fk xp = F1 at *
        generalize crI Fk xp = ci at *
        go_wp2_with fail
        rw [← HW2.out, ← Hr.out]
        refine wp_region_held_drew (S := fun w' => w'.cell? ⟨r, 0, none⟩ = some (tx xp) ∧ w'.cell? ⟨r, 2, none⟩ = some (tx xs)) (by kernel_rfl) ⟨r0, r2⟩ (fun hHeld => ?_)
        refine wpAnyH_take (i := 0) (v := ?_) rfl (by kernel_rfl) (by kernel_rfl) (by kernel_rfl) (fun _ _ _ h => h) (Or.inl ⟨by kernel_rfl, ?_⟩) (by assumption) ?_
        rotate_left
        · (intro w hSw; (try dsimp only at hSw); go_simp) <;> with_reducible rfl
        (try simp only [Act.put, List.getElem_toArray, List.getElem_cons_zero, List.setIfInBounds_toArray, List.set_cons_zero, List.set_cons_succ])
        refine wpAnyH_take (i := 1) (v := ?_) rfl (by kernel_rfl) (by kernel_rfl) (by kernel_rfl) (fun _ _ _ h => h) (Or.inl ⟨by kernel_rfl, ?_⟩) (by assumption) ?_
        rotate_left
        · (intro w hSw; (try dsimp only at hSw); go_simp) <;> with_reducible rfl
        (try simp only [Act.put, List.getElem_toArray, List.getElem_cons_zero, List.getElem_cons_succ, List.setIfInBounds_toArray, List.set_cons_zero, List.set_cons_succ])
        refine wpAnyH_take (i := 2) (v := ?_) rfl (by kernel_rfl) (by kernel_rfl) (by kernel_rfl) (fun _ _ _ h => h) (Or.inl ⟨by kernel_rfl, ?_⟩) (by assumption) ?_
        rotate_left
        · (intro w hSw; (try dsimp only at hSw); go_simp) <;> with_reducible rfl
        (try simp only [Act.put, List.getElem_toArray, List.getElem_cons_zero, List.getElem_cons_succ, List.setIfInBounds_toArray, List.set_cons_zero, List.set_cons_succ])
        refine wpAnyH_take (i := 3) (v := ?_) rfl (by kernel_rfl) (by kernel_rfl) (by kernel_rfl) (fun _ _ _ h => h) (Or.inl ⟨by kernel_rfl, ?_⟩) (by assumption) ?_
        rotate_left
        · (intro w hSw; (try dsimp only at hSw); go_simp) <;> with_reducible rfl
        (try simp only [Act.put, List.getElem_toArray, List.getElem_cons_zero, List.getElem_cons_succ, List.setIfInBounds_toArray, List.set_cons_zero, List.set_cons_succ])
        refine wpAnyH_take (i := 5) (v := ?_) rfl (by kernel_rfl) (by kernel_rfl) (by kernel_rfl) (fun _ _ _ h => h) (Or.inl ⟨by kernel_rfl, ?_⟩) (by assumption) ?_
        rotate_left
        · (intro w hSw; (try dsimp only at hSw); go_simp) <;> with_reducible rfl
        (try simp only [Act.put, List.getElem_toArray, List.getElem_cons_zero, List.getElem_cons_succ, List.setIfInBounds_toArray, List.set_cons_zero, List.set_cons_succ])
        refine wpAnyH_take (i := 6) (v := ?_) rfl (by kernel_rfl) (by kernel_rfl) (by kernel_rfl) (fun _ _ _ h => h) (Or.inl ⟨by kernel_rfl, ?_⟩) (by assumption) ?_
        rotate_left
        · (intro w hSw; (try dsimp only at hSw); go_simp) <;> with_reducible rfl
        (try simp only [Act.put, List.getElem_toArray, List.getElem_cons_zero, List.getElem_cons_succ, List.setIfInBounds_toArray, List.set_cons_zero, List.set_cons_succ])
        refine wpAnyH_ready (rs := [4]) (by kernel_rfl) (by simp) ?_
        refine AllReadyH.cons rfl (fun K hK => ?_) AllReadyH.nil
        go_simp
        refine hCr.mono ?_
        rintro e w3 (⟨z0, rfl, hf3, hbg3⟩ | ⟨z0, rfl, hdk3, hbg3⟩)
        · have hr3 := hbg3.other HRV.out (by decide)
          have s0 : w3.cell? ⟨r, 0, none⟩ = some (tx xp) := by rw [cell_of_heap hr3]; rfl
          have s2 : w3.cell? ⟨r, 2, none⟩ = some (tx xs) := by rw [cell_of_heap hr3]; rfl
          obtain ⟨k', hk1, hk2, hk3⟩ := HCr.out z0
          have hFi := HFi.out k' z0 hk1 hk2 hk3 w3 hf3
          have hpr := HPr2.out
          rw [if_pos z0, hk1, Int.toNat_natCast] at hpr
          have hst := HStep.out
          rw [if_pos z0, hk1, Int.toNat_natCast] at hst
          have HPr3 : Hid (pr = (if fiR F1 k' xs = 0 then plR (fiF F1 k' xs) (l.drop (k + 1)) else (fiR F1 k' xs, Fk))) := hpr
          have HSt3 : Hid (fiR F1 k' xs = 0 → PI (fiF F1 k' xs) (l.drop (k + 1))) := hst
          have HNf : Hid ((fiF F1 k' xs).n = n) := HNn.out k'
          have HU3 : Hid (BG B w w3) := SU.trans HUV.out hbg3
          have HN3 : Hid (NdIn w3 (.slice (some ⟨g, off, none⟩) N cap) l) := HNV.out.st hbg3
          have HR3 : Hid (w3.heap[r]? = some (.cells #[tx xp, .bool false, tx xs] 54)) := hr3
          subst hk1
          clear hCr hf3 hbg3 hr3 hpr hst HCr HFi HPr2 HStep HNn hk3 HUV HNV HRV z0
          generalize fiR F1 k' xs = fr at *
          generalize fiF F1 k' xs = F2 at *
          refine hK.out _ _ ⟨s0, s2⟩ (fun hHeld => ?_)
          clear hK K
          (try simp only [Act.put, List.getElem_toArray, List.getElem_cons_zero, List.getElem_cons_succ, List.setIfInBounds_toArray, List.set_cons_zero, List.set_cons_succ])
          refine wpAnyH_ready (rs := [7]) (by kernel_rfl) (by simp) ?_
          refine AllReadyH.cons rfl (fun K hK => ?_) AllReadyH.nil
          go_simp
          refine hFi.mono ?_
          rintro e w4 (⟨z0, rfl, hf4, hbg4⟩ | ⟨z0, rfl, hdk4, hbg4⟩)
          · have hr4 := hbg4.other HR3.out (by decide)
            have u0 : w4.cell? ⟨r, 0, none⟩ = some (tx xp) := by rw [cell_of_heap hr4]; rfl
            have u2 : w4.cell? ⟨r, 2, none⟩ = some (tx xs) := by rw [cell_of_heap hr4]; rfl
            have HE : Hid (Fs w4 B F2 (m + 3000 + 300000 * (k + 1)) ∧ BG B w w4 ∧ NdIn w4 (.slice (some ⟨g, off, none⟩) N cap) l) := ⟨hf4.mono (by omega), SU.trans HU3.out hbg4, HN3.out.st hbg4⟩
            have HPr4 : Hid (pr = plR F2 (l.drop (k + 1))) := by have := HPr3.out; rw [if_pos z0] at this; exact this
            have HP4 : Hid (PI F2 (l.drop (k + 1)) ∧ F2.n = n) := ⟨HSt3.out z0, HNf.out⟩
            clear hFi hf4 hbg4 z0 HPr3 HSt3 hr4
            refine hK.out _ _ ⟨u0, u2⟩ (fun hHeld => ?_)
            clear hK K
            (try simp only [Act.put, List.getElem_toArray, List.getElem_cons_zero, List.getElem_cons_succ, List.setIfInBounds_toArray, List.set_cons_zero, List.set_cons_succ])
            refine wpAnyH_done (by kernel_rfl) ?_ _
            go_wp2
            go_roundw
            case rel => exact ⟨k + 1, F2, by go_num, by omega, HPr4, HP4, HE⟩
            case measure => simp [RowKit.intOf]; omega
          · have hne : ¬ fr = 0 := by simpa using z0
            have HPr4 : Hid (pr = (fr, Fk)) := by have := HPr3.out; rw [if_neg hne] at this; exact this
            have HE : Hid ((∃ ws, Dk w4 B n ws (m + 3000 + 300000 * N)) ∧ BG B w w4) := by
              obtain ⟨ws, hws⟩ := hdk4
              exact ⟨⟨ws, hws.mono (by omega)⟩, SU.trans HU3.out hbg4⟩
            have HZ : Hid ((fr != 0) = true) := z0
            clear hFi hdk4 hbg4 z0 hne HPr3 HSt3
            go_wp2
            exact ⟨rfl, Or.inr ⟨by rw [HPr4.out]; exact HZ.out, by rw [HPr4.out], HE.out⟩⟩
        · have hne : ¬ er = 0 := by simpa using z0
          have HPr3 : Hid (pr = (er, Fk)) := by have := HPr2.out; rw [if_neg hne, if_neg hne] at this; exact this
          have HE : Hid ((∃ ws, Dk w3 B n ws (m + 3000 + 300000 * N)) ∧ BG B w w3) := by
            obtain ⟨ws, hws⟩ := hdk3
            exact ⟨⟨ws, hws.mono (by omega)⟩, SU.trans HUV.out hbg3⟩
          have HZ : Hid ((er != 0) = true) := z0
          clear hCr hdk3 hbg3 z0 hne HPr2 HStep HFi HCr
          go_wp2
          exact ⟨rfl, Or.inr ⟨by rw [HPr3.out]; exact HZ.out, by rw [HPr3.out], HE.out⟩⟩
    · have hnl : ¬ (k : Int) < (N : Int) := by omega
      have hkN : k = N := by omega
      have hpr : pr = (0, Fk) := by
        rw [HPr.out, List.drop_of_length_le (by rw [← HN.out]; omega)]
        rfl
      subst hkN
      have HE : Hid (Fs wr B Fk (m + 3000 + 300000 * k) ∧ BG B w wr) := ⟨HSk.out.1, HSk.out.2.1⟩
      subst hpr
      clear HPr HSk
      go_wp2
      go_end0
      exact Or.inl ⟨rfl, rfl, HE.out⟩
end
end Go.Proofs.YtcjpahnlckfgoaaGreatDoor
