/- Package fscore over a store: leadsThrough, move. -/
/- Package fscore over a store: move. -/
import Derived.Test.YtcjpahnlckfgoaaGreatDoorFsFG
namespace Go.Proofs.YtcjpahnlckfgoaaGreatDoor
open Go.RowKit
set_option linter.unusedVariables false

/-- Whether the way by these names, from a on, comes through i. -/
def thR (F : FS) (i : Int) : Int → List (List UInt8) → Bool
  | a, [] => a == i
  | a, t :: ts => if (a == i) = true then true else thR F i (fdR F a t) ts
def ltR (F : FS) (p : List UInt8) (i : Int) : Bool := thR F i 0 ((splitP p).take ((splitP p).length - 1))
section
variable {w w' : World} {m : Nat} {B : Sto} {F : FS}
set_option maxHeartbeats 4000000 in
set_option maxRecDepth 100000 in
theorem leads_at (h : Fs w B F m) (hA : AllD F) (hm : m ≤ 700000000000) (p : List UInt8) (hp : p.length ≤ 9223372036854775807) (hz : splitR p = 0) (hne : splitP p ≠ []) (i : Int) :
    Calls Tryz.prog 137 #[sto B, tx p, .int .i64 i] w fun e w' => e = .returned (.bool (ltR F p i)) ∧ Fs w' B F (m + 210000) ∧ BG B w w' := by
  have hS := split_at p hp w
  have HF : Hid (Fs w B F m) := h
  rw [hz] at hS
  have hL := split_len p
  have hlt0 : ltR F p i = thR F i 0 ((splitP p).take ((splitP p).length - 1)) := rfl
  generalize ltR F p i = res at *
  clear h hz
  generalize splitP p = ts at *
  have hpos := List.length_pos_iff.2 hne
  obtain ⟨n, hn⟩ : ∃ n, n = ts.length - 1 := ⟨_, rfl⟩
  rw [← hn] at hlt0
  have HR : Hid (res = thR F i 0 (ts.take n)) := hlt0
  have hwn : IntKind.i64.wrap ((ts.length : Int) - 1) = (n : Int) := by simp [IntKind.wrap, IntKind.bits, IntKind.signed]; omega
  have hnl : n < ts.length := by omega
  clear hlt0 hn hpos hne
  go_enter Tryz.func137, Tryz.ntmps137
  go_wp2_with fail
  refine hS.mono ?_
  rintro e w1 ⟨v, rfl, hT, hb⟩
  obtain ⟨a, cap, rfl, hcap⟩ := hT.form
  have HT : Hid (Ts w1 w.heap.size (.slice a ts.length cap) ts) := hT
  have HB : Hid (Below w.heap.size w w1) := hb
  have hsl := slice_h a ts.length cap n (by omega)
  clear hS hT hb
  go_wp2_with (first
    | (go_at_call 102; refine (must_ok _).mono ?_; rintro e w2 ⟨rfl, hw⟩; rw [hw]; clear hw w2)
    | go_in)
  go_loopw [9, 25] (fun s9 s25 wr => ∃ (k : Nat) (c : Int), s9 = .int .i64 c ∧ s25 = .int .i64 k ∧ k ≤ n ∧ Hid (res = thR F i c ((ts.take n).drop k)) ∧ Hid (Fs wr B F (m + 6000 * k) ∧ BG B w wr ∧ BG B w1 wr)) (fun _ s25 _ => n - (RowKit.intOf s25).toNat)
  case atStart => exact ⟨0, 0, rfl, rfl, by omega, HR.out, HF.out.below HB.out, bg_of HB.out, SU.refl _ _ _⟩
  case round =>
    obtain ⟨k, c, rfl, rfl, hk, HW, HS⟩ := hrel
    clear HF
    by_cases hlt : k < n
    · have hkt : k < ts.length := by omega
      obtain ⟨t, ht⟩ : ∃ t, ts[k]? = some t := ⟨ts[k], List.getElem?_eq_getElem hkt⟩
      obtain ⟨g, rfl, c0, _⟩ := (HT.out.st HS.out.2.2).at ht
      have hint : (k : Int) < (n : Int) := by omega
      have hFi := Find_at HS.out.1 hA (by omega) c t
      have hd : (ts.take n).drop k = t :: (ts.take n).drop (k + 1) := by
        have hkl : k < (ts.take n).length := by rw [List.length_take]; omega
        rw [List.drop_eq_getElem_cons hkl]
        congr 1
        rw [List.getElem?_eq_getElem hkt] at ht
        rw [List.getElem_take]
        exact Option.some.inj ht
      have hws := HW.out
      rw [hd] at hws
      have hws' : res = (if (c == i) = true then true else thR F i (fdR F c t) ((ts.take n).drop (k + 1))) := hws
      clear hws hd ht HW
      cases hq : (c == i) with
      | true =>
        rw [hq, if_pos rfl] at hws'
        subst hws'
        have HS2 : Hid (Fs wr B F (m + 210000) ∧ BG B w wr) := ⟨HS.out.1.mono (by omega), HS.out.2.1⟩
        clear hFi HS HR
        go_wp2
        go_ret
        exact ⟨rfl, HS2.out⟩
      | false =>
        rw [hq, if_neg (by simp)] at hws'
        have HW2 : Hid (res = thR F i (fdR F c t) ((ts.take n).drop (k + 1))) := hws'
        clear hws'
        generalize fdR F c t = c2 at *
        go_wp2_with fail
        refine hFi.mono ?_
        rintro x w2 ⟨rfl, hf2, hbg2⟩
        have HS2 : Hid (Fs w2 B F (m + 6000 * (k + 1)) ∧ BG B w w2 ∧ BG B w1 w2) := ⟨hf2.mono (by omega), HS.out.2.1.trans hbg2, HS.out.2.2.trans hbg2⟩
        clear hFi hf2 hbg2 HS
        go_wp2
        go_roundw
        case rel => exact ⟨k + 1, c2, rfl, by go_num, by omega, HW2, HS2⟩
        case measure => simp [RowKit.intOf]; omega
    · have hnl : ¬ (k : Int) < (n : Int) := by omega
      have hw2 : res = (c == i) := by
        rw [HW.out, List.drop_of_length_le (by rw [List.length_take]; omega)]
        rfl
      subst hw2
      have HS2 : Hid (Fs wr B F (m + 210000) ∧ BG B w wr) := ⟨HS.out.1.mono (by omega), HS.out.2.1⟩
      clear HW HR HS
      go_wp2
      go_ret
      exact ⟨rfl, HS2.out⟩
end
end Go.Proofs.YtcjpahnlckfgoaaGreatDoor

namespace Go.Proofs.YtcjpahnlckfgoaaGreatDoor
open Go.RowKit
set_option linter.unusedVariables false

/-- What move tells, and leaves. -/
def mvR (F : FS) (d1 : Int) (n1 : List UInt8) (d2 : Int) (n2 : List UInt8) (i : Int) : Int := if d1 ≠ d2 ∧ adR F d2 n2 i ≠ 0 then 28 else adR (rmF F d1 n1) d2 n2 i
def mvF (F : FS) (d1 : Int) (n1 : List UInt8) (d2 : Int) (n2 : List UInt8) (i : Int) : FS := adF (rmF F d1 n1) d2 n2 i
section
variable {w w' : World} {m : Nat} {B : Sto} {F : FS}
set_option maxHeartbeats 2000000 in
set_option maxRecDepth 100000 in
theorem fmove_at (h : Fs w B F m) (hA : AllD F) (hm : m ≤ 700000000000) (d1 : Int) (n1 : List UInt8) (d2 : Int) (n2 : List UInt8) (hs2 : n2.length ≤ 9223372036854775807) (i : Int) (hr : rmR F d1 n1 = 0) :
    Calls Tryz.prog 138 #[sto B, .agg #[.int .i64 d1, tx n1], .agg #[.int .i64 d2, tx n2], .int .i64 i] w (Res B F.n (m + 30000) (mvR F d1 n1 d2 n2 i) (mvF F d1 n1 d2 n2 i) (.tuple #[]) w) := by
  obtain ⟨W1, hW1⟩ : ∃ W, W = w.alloc (.cells #[.int .i64 d1, tx n1] 180) := ⟨_, rfl⟩
  have hb1 : Below w.heap.size w W1 := by rw [hW1]; exact below_alloc _ _
  have hr1 : W1.heap[w.heap.size]? = some (.cells #[.int .i64 d1, tx n1] 180) := by rw [hW1]; exact heap_alloc_new _ _
  have hs1 : W1.heap.size = w.heap.size + 1 := by rw [hW1]; simp
  obtain ⟨W2, hW2⟩ : ∃ W, W = W1.alloc (.cells #[.int .i64 d2, tx n2] 180) := ⟨_, rfl⟩
  have hb2 : Below W1.heap.size W1 W2 := by rw [hW2]; exact below_alloc _ _
  have hr2 : W2.heap[W1.heap.size]? = some (.cells #[.int .i64 d2, tx n2] 180) := by rw [hW2]; exact heap_alloc_new _ _
  have hs2' : W2.heap.size = w.heap.size + 2 := by rw [hW2]; simp [hs1]
  have hr12 := (hb2.block _ (lt_of_heap hr1)).trans hr1
  obtain ⟨b1, hb1'⟩ : ∃ b, b = w.heap.size := ⟨_, rfl⟩
  obtain ⟨b2, hb2'⟩ : ∃ b, b = w.heap.size + 1 := ⟨_, rfl⟩
  rw [hs1, ← hb2'] at hr2
  rw [← hb1'] at hr12
  have hB : Below w.heap.size w W2 := hb1.trans (hb2.mono hb1.size)
  have hf2 : Fs W2 B F m := h.below hB
  have HA : Hid (AllD F) := hA
  have hA1 : AllD (rmF F d1 n1) := AllD.rm h.inv hA d1 n1
  have hn1 := (rm_iw F d1 n1).2
  have hn2 := adF_n (rmF F d1 n1) d2 n2 i
  have HRm : Hid (∀ W m', Fs W B F m' → m' ≤ 700000010000 → Calls Tryz.prog 173 #[sto B, .int .i64 d1, tx n1] W fun e w' => e = .returned (.int .i64 0) ∧ Fs w' B (rmF F d1 n1) (m' + 12000) ∧ BG B W w') := fun W m' hW hm' => by
    have := Remove_at hW HA.out (by omega) d1 n1
    rw [hr] at this
    exact this
  have HAd : Hid (∀ W m', Fs W B (rmF F d1 n1) m' → m' ≤ 700000030000 → Calls Tryz.prog 122 #[sto B, .int .i64 d2, tx n2, .int .i64 i] W fun e w' => e = .returned (.int .i64 (adR (rmF F d1 n1) d2 n2 i)) ∧ Fs w' B (adF (rmF F d1 n1) d2 n2 i) (m' + 9000) ∧ BG B W w') := fun W m' hW hm' => Add_at hW hA1 (by omega) d2 n2 hs2 i
  have HMv : Hid (mvR F d1 n1 d2 n2 i = (if d1 ≠ d2 ∧ adR F d2 n2 i ≠ 0 then 28 else adR (rmF F d1 n1) d2 n2 i) ∧ mvF F d1 n1 d2 n2 i = adF (rmF F d1 n1) d2 n2 i ∧ (rmF F d1 n1).n = F.n ∧ (adF (rmF F d1 n1) d2 n2 i).n = F.n) := ⟨rfl, rfl, hn1, hn2.trans hn1⟩
  -- the end, from a world where nothing is changed
  have HB2 : Hid (Below w.heap.size w W2) := hB
  have H1 : Hid (b1 = w.heap.size) := hb1'
  have H2 : Hid (b2 = w.heap.size + 1) := hb2'
  have HW1 : Hid _ := hW1
  have HW2 : Hid _ := hW2
  have HX1 : Hid (W2.heap[b1]? = some (.cells #[.int .i64 d1, tx n1] 180)) := hr12
  have HX2 : Hid (W2.heap[b2]? = some (.cells #[.int .i64 d2, tx n2] 180)) := hr2
  have HF2 : Hid (Fs W2 B F m) := hf2
  generalize mvR F d1 n1 d2 n2 i = mr at *
  generalize mvF F d1 n1 d2 n2 i = mf at *
  clear h hA hA1 hn1 hn2 hW1 hW2 hb1 hb2 hr1 hr2 hr12 hs1 hs2' hB hf2 hb1' hb2' hr
  go_enter Tryz.func138, Tryz.ntmps138
  by_cases hd : d1 = d2
  · have hdb : (d1 != d2) = false := by simpa using hd
    have hmr : mr = adR (rmF F d1 n1) d2 n2 i := by rw [HMv.out.1, if_neg (fun q => q.1 hd)]
    have hRm := HRm.out W2 m HF2.out (by omega)
    have HMr : Hid (mr = adR (rmF F d1 n1) d2 n2 i) := hmr
    clear hmr HRm hd
    generalize adR (rmF F d1 n1) d2 n2 i = ar at *
    have HX2w : Hid (W2.heap[b2]? = some (.cells #[.int .i64 d2, tx n2] 180)) := HX2.out
    have HUw : Hid (BG B w W2) := bg_of HB2.out
    go_wp2_with fail
    rw [← HW1.out, ← HW2.out, ← H2.out, ← H1.out]
    refine hRm.mono ?_
    rintro e w3 ⟨rfl, hf3, hbg3⟩
    have hx2 := hbg3.other HX2w.out (by decide)
    have c20 : w3.cell? ⟨b2, 0, none⟩ = some (.int .i64 d2) := by rw [cell_of_heap hx2]; rfl
    have c21 : w3.cell? ⟨b2, 1, none⟩ = some (tx n2) := by rw [cell_of_heap hx2]; rfl
    have hAd := HAd.out w3 _ hf3 (by omega)
    have HU3 : Hid (BG B w w3) := SU.trans HUw.out hbg3
    clear hRm hf3 hbg3 hx2 HX2w HUw HAd
    go_wp2_with (first
      | (go_at_call 102; refine (must_ok _).mono ?_; rintro e wz ⟨rfl, hw⟩; rw [hw]; clear hw wz)
      | fail)
    refine hAd.mono ?_
    rintro e w4 ⟨rfl, hf4, hbg4⟩
    have HU4 : Hid (BG B w w4) := SU.trans HU3.out hbg4
    have HF4 : Hid (Fs w4 B mf (m + 30000)) := by
      show Fs _ _ _ _
      rw [HMv.out.2.1]
      exact hf4.mono (by omega)
    have HD4 : Hid (∃ ws, Dk w4 B F.n ws (m + 30000)) := by
      obtain ⟨ws, hws⟩ := hf4.dk
      rw [HMv.out.2.2.2] at hws
      exact ⟨ws, hws.mono (by omega)⟩
    clear hAd hf4 hbg4 HU3
    by_cases ha : ar = 0
    · have HM : Hid (mr = 0) := HMr.out.trans ha
      subst ha
      go_wp2_with (first
        | (go_at_call 102; refine (must_ok _).mono ?_; rintro e wz ⟨rfl, hw⟩; rw [hw]; clear hw wz)
        | fail)
      go_end0
      exact Or.inl ⟨HM.out, rfl, HF4.out, HU4.out⟩
    · have hn := ne_bool ha
      have HM : Hid (mr = ar) := HMr.out
      clear ha
      go_wp2_with (first
        | (go_at_call 102; refine (must_no _ hn _).mono ?_; rintro e wz ⟨rfl, hw⟩; rw [hw]; clear hw wz)
        | fail)
      exact ⟨rfl, Or.inr ⟨by rw [HM.out]; exact hn, by rw [HM.out], HD4.out, HU4.out⟩⟩
  · have hdb : (d1 != d2) = true := by simpa using hd
    obtain ⟨vs, hh⟩ := HF2.out
    have HH : Hid (Holds vs F ∧ FInv F) := ⟨hh.hold, hh.inv⟩
    obtain ⟨W3, hW3⟩ : ∃ W, W = W2.alloc (.cells #[sto B, .slice none 0 0, .int .i64 0] 149) := ⟨_, rfl⟩
    have hb3 : Below W2.heap.size W2 W3 := by rw [hW3]; exact below_alloc _ _
    have hf3 : Fs W3 (dft B B.lo W2.heap.size vs) F m := by rw [hW3]; exact ⟨vs, dft_new hh.disk hh.inv.n2, hh.hold, hh.inv⟩
    have hs2 : W2.heap.size = w.heap.size + 2 := by rw [HW2.out, HW1.out]; simp
    obtain ⟨d, hd'⟩ : ∃ d, d = w.heap.size + 2 := ⟨_, rfl⟩
    rw [hs2, ← hd'] at hf3
    have Hd : Hid (d = w.heap.size + 2) := hd'
    have hTr : Calls Tryz.prog 122 #[.iface 146 (ptr d), .int .i64 d2, tx n2, .int .i64 i] W3 fun e w' => e = .returned (.int .i64 (adR F d2 n2 i)) ∧ Fs w' (dft B B.lo d vs) (adF F d2 n2 i) (m + 9000) ∧ ST B.lo W3 w' := Add_at hf3 HA.out (by omega) d2 n2 ‹_› i
    have hbd := build_draft B
    have HW3 : Hid _ := hW3
    have HB3 : Hid (Below W2.heap.size W2 W3) := hb3
    have HMr0 : Hid (¬ adR F d2 n2 i = 0 → mr = 28) := fun q => by rw [HMv.out.1, if_pos ⟨hd, q⟩]
    have HMr1 : Hid (adR F d2 n2 i = 0 → mr = adR (rmF F d1 n1) d2 n2 i) := fun q => by rw [HMv.out.1, if_neg (fun x => x.2 q)]
    have HN : Hid ((adF F d2 n2 i).n = F.n) := adF_n F d2 n2 i
    clear hh hb3 hf3 hs2 hd' hW3 hd
    generalize adR F d2 n2 i = tr at *
    generalize adR (rmF F d1 n1) d2 n2 i = ar at *
    generalize adF F d2 n2 i = tF at *
    go_wp2_with fail
    rw [← HW1.out, ← HW2.out, ← HW3.out, ← Hd.out, ← H2.out, ← H1.out]
    refine hTr.mono ?_
    rintro e w4 ⟨rfl, hf4, hbg4⟩
    have hfu := hf4.under HN.out HH.out.1 HH.out.2
    have hu4 : BG B W2 w4 := SU.trans (SU.of_below HB3.out) hbg4
    have hx1 := hu4.other HX1.out (by decide)
    have c10 : w4.cell? ⟨b1, 0, none⟩ = some (.int .i64 d1) := by rw [cell_of_heap hx1]; rfl
    have c11 : w4.cell? ⟨b1, 1, none⟩ = some (tx n1) := by rw [cell_of_heap hx1]; rfl
    have HX2w : Hid (w4.heap[b2]? = some (.cells #[.int .i64 d2, tx n2] 180)) := hu4.other HX2.out (by decide)
    have HUw : Hid (BG B w w4) := SU.trans (bg_of HB2.out) hu4
    have hRm := HRm.out w4 _ hfu (by omega)
    have HDk : Hid (∃ ws, Dk w4 B F.n ws (m + 30000)) := by
      obtain ⟨ws, hws⟩ := hfu.dk
      exact ⟨ws, hws.mono (by omega)⟩
    clear hTr hf4 hbg4 hfu hu4 hx1 HRm hbd
    by_cases ht : tr = 0
    · have HMr : Hid (mr = ar) := HMr1.out ht
      subst ht
      clear HMr0 HMr1
      go_wp2_with fail
      refine hRm.mono ?_
      rintro e w3 ⟨rfl, hf3, hbg3⟩
      have hx2 := hbg3.other HX2w.out (by decide)
      have c20 : w3.cell? ⟨b2, 0, none⟩ = some (.int .i64 d2) := by rw [cell_of_heap hx2]; rfl
      have c21 : w3.cell? ⟨b2, 1, none⟩ = some (tx n2) := by rw [cell_of_heap hx2]; rfl
      have hAd := HAd.out w3 _ hf3 (by omega)
      have HU3 : Hid (BG B w w3) := SU.trans HUw.out hbg3
      clear hRm hf3 hbg3 hx2 HX2w HUw HAd
      go_wp2_with (first
        | (go_at_call 102; refine (must_ok _).mono ?_; rintro e wz ⟨rfl, hw⟩; rw [hw]; clear hw wz)
        | fail)
      refine hAd.mono ?_
      rintro e w4 ⟨rfl, hf4, hbg4⟩
      have HU4 : Hid (BG B w w4) := SU.trans HU3.out hbg4
      have HF4 : Hid (Fs w4 B mf (m + 30000)) := by
        show Fs _ _ _ _
        rw [HMv.out.2.1]
        exact hf4.mono (by omega)
      have HD4 : Hid (∃ ws, Dk w4 B F.n ws (m + 30000)) := by
        obtain ⟨ws, hws⟩ := hf4.dk
        rw [HMv.out.2.2.2] at hws
        exact ⟨ws, hws.mono (by omega)⟩
      clear hAd hf4 hbg4 HU3
      by_cases ha : ar = 0
      · have HM : Hid (mr = 0) := HMr.out.trans ha
        subst ha
        go_wp2_with (first
          | (go_at_call 102; refine (must_ok _).mono ?_; rintro e wz ⟨rfl, hw⟩; rw [hw]; clear hw wz)
          | fail)
        go_end0
        exact Or.inl ⟨HM.out, rfl, HF4.out, HU4.out⟩
      · have hn := ne_bool ha
        have HM : Hid (mr = ar) := HMr.out
        clear ha
        go_wp2_with (first
          | (go_at_call 102; refine (must_no _ hn _).mono ?_; rintro e wz ⟨rfl, hw⟩; rw [hw]; clear hw wz)
          | fail)
        exact ⟨rfl, Or.inr ⟨by rw [HM.out]; exact hn, by rw [HM.out], HD4.out, HU4.out⟩⟩
    · have hn := ne_bool ht
      have HM : Hid (mr = 28) := HMr0.out ht
      clear ht HMr0 HMr1 hRm
      go_wp2
      exact ⟨rfl, Or.inr ⟨by rw [HM.out]; rfl, by rw [HM.out], HDk.out, HUw.out⟩⟩
end
end Go.Proofs.YtcjpahnlckfgoaaGreatDoor
