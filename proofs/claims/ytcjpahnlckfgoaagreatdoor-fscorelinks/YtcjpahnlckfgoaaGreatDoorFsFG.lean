/- Plain: what a path's parent is, if the path leads somewhere. Names no program. -/
/- Package fscore over a store: unlink, link. -/
/- Package fscore over a store: inUse, closeFile. -/
import Derived.Test.YtcjpahnlckfgoaaGreatDoorDtH
import Derived.Test.YtcjpahnlckfgoaaGreatDoorFsBC
import Derived.Test.YtcjpahnlckfgoaaGreatDoorFsDE
namespace Go.Proofs.YtcjpahnlckfgoaaGreatDoor
open Go.RowKit
set_option linter.unusedVariables false

theorem wk_last (F : FS) : ∀ (ts : List (List UInt8)) (i k : Int), wkR F i ts = (k, 0) → ts ≠ [] → ∃ d, wkR F i (ts.take (ts.length - 1)) = (d, 0) ∧ isD F d = true ∧ fdR F d (ts.getD (ts.length - 1) []) = k ∧ ¬ k < 0
  | [], i, k, _, h => absurd rfl h
  | [p], i, k, h, _ => by
    have h' : (if isD F i = false then ((0 : Int), (20 : Int)) else if fdR F i p < 0 then (0, 2) else (fdR F i p, 0)) = (k, 0) := h
    cases hi : isD F i with
    | false => rw [hi, if_pos rfl] at h'; simp at h'
    | true =>
      rw [hi, if_neg (by simp)] at h'
      by_cases hn : fdR F i p < 0
      · rw [if_pos hn] at h'; simp at h'
      · rw [if_neg hn] at h'
        simp only [Prod.mk.injEq, and_true] at h'
        exact ⟨i, rfl, hi, h', by rw [← h']; exact hn⟩
  | p :: q :: l, i, k, h, _ => by
    have h' : (if isD F i = false then ((0 : Int), (20 : Int)) else if fdR F i p < 0 then (0, 2) else wkR F (fdR F i p) (q :: l)) = (k, 0) := h
    cases hi : isD F i with
    | false => rw [hi, if_pos rfl] at h'; simp at h'
    | true =>
      rw [hi, if_neg (by simp)] at h'
      by_cases hn : fdR F i p < 0
      · rw [if_pos hn] at h'; simp at h'
      · rw [if_neg hn] at h'
        obtain ⟨d, h1, h2, h3, h4⟩ := wk_last F (q :: l) _ k h' (by simp)
        refine ⟨d, ?_, h2, ?_, h4⟩
        · have e : (p :: q :: l).take ((p :: q :: l).length - 1) = p :: (q :: l).take ((q :: l).length - 1) := by simp
          rw [e]
          show (if isD F i = false then ((0 : Int), (20 : Int)) else if fdR F i p < 0 then (0, 2) else wkR F (fdR F i p) ((q :: l).take ((q :: l).length - 1))) = _
          rw [hi, if_neg (by simp), if_neg hn]
          exact h1
        · have e : (p :: q :: l).getD ((p :: q :: l).length - 1) [] = (q :: l).getD ((q :: l).length - 1) [] := by simp
          rw [e]
          exact h3
/-- A path that leads to what is no directory has a parent. -/
theorem walk_pa {F : FS} {p : List UInt8} (h0 : isD F 0 = true) (hw : (walkR F p).2 = 0) (hn : isD F (walkR F p).1 = false) : (paR F p).2.2 = 0 ∧ isD F (paR F p).1 = true ∧ fdR F (paR F p).1 (paR F p).2.1 = (walkR F p).1 ∧ 0 ≤ (walkR F p).1 := by
  unfold walkR at hw hn ⊢
  by_cases hs : splitR p = 0
  · rw [if_pos hs] at hw hn ⊢
    obtain ⟨k, hk⟩ : ∃ k, k = (wkR F 0 (splitP p)).1 := ⟨_, rfl⟩
    have hwk : wkR F 0 (splitP p) = (k, 0) := by
      rw [hk]
      exact Prod.ext rfl hw
    have hne : splitP p ≠ [] := fun e => by
      rw [e] at hn
      have : isD F 0 = false := hn
      rw [h0] at this
      cases this
    obtain ⟨d, h1, h2, h3, h4⟩ := wk_last F _ _ k hwk hne
    have hpa : paR F p = (d, (splitP p).getD ((splitP p).length - 1) [], 0) := by
      unfold paR
      rw [if_pos hs, if_neg (by simpa using hne), h1, if_pos rfl, h2, if_pos rfl]
    rw [hpa, hwk]
    exact ⟨rfl, h2, h3, by show 0 ≤ k; omega⟩
  · rw [if_neg hs] at hw
    exact absurd hw hs
theorem rm_yes {F : FS} {d : Int} {s : List UInt8} (hd : isD F d = true) (hf : ¬ fdR F d s < 0) : rmR F d s = 0 := by
  unfold rmR
  rw [hd, if_neg (by simp)]
  unfold fdR findE at hf
  by_cases q : placeE (dirL F d) s < (dirL F d).length
  · rw [if_pos q]
  · rw [if_neg q] at hf
    omega
/-- The parent of a path that has one is a directory. -/
theorem pa_dir {F : FS} {p : List UInt8} (h : (paR F p).2.2 = 0) : isD F (paR F p).1 = true := by
  unfold paR at h ⊢
  by_cases hs : splitR p = 0
  · rw [if_pos hs] at h ⊢
    by_cases he : (splitP p).isEmpty = true
    · rw [if_pos he] at h; simp at h
    · rw [if_neg he] at h ⊢
      by_cases hw : (wkR F 0 ((splitP p).take ((splitP p).length - 1))).2 = 0
      · rw [if_pos hw] at h ⊢
        by_cases hd : isD F (wkR F 0 ((splitP p).take ((splitP p).length - 1))).1 = true
        · rw [if_pos hd]
          exact hd
        · rw [if_neg hd] at h; simp at h
      · rw [if_neg hw] at h
        exact absurd h hw
  · rw [if_neg hs] at h
    exact absurd h hs
theorem wk_nat {F : FS} (hA : AllD F) (hf : ∀ i s, ¬ fdR F i s < 0 → ∃ k : Nat, fdR F i s = (k : Int) ∧ k < 32) : ∀ (ts : List (List UInt8)) (i : Nat), i < 32 → ∃ k : Nat, (wkR F (i : Int) ts).1 = (k : Int) ∧ k < 32
  | [], i, hi => ⟨i, rfl, hi⟩
  | p :: l, i, hi => by
    show ∃ k : Nat, (if isD F (i : Int) = false then ((0 : Int), (20 : Int)) else if fdR F (i : Int) p < 0 then (0, 2) else wkR F (fdR F (i : Int) p) l).1 = (k : Int) ∧ k < 32
    split
    · exact ⟨0, rfl, by omega⟩
    · split
      · exact ⟨0, rfl, by omega⟩
      · rename_i _ hn
        obtain ⟨k, hk, hk2⟩ := hf (i : Int) p hn
        rw [hk]
        exact wk_nat hA hf l k hk2
end Go.Proofs.YtcjpahnlckfgoaaGreatDoor

namespace Go.Proofs.YtcjpahnlckfgoaaGreatDoor
open Go.RowKit
set_option linter.unusedVariables false

theorem walk_nat {F : FS} (hA : AllD F) (p : List UInt8) : ∃ k : Nat, (walkR F p).1 = (k : Int) ∧ k < 32 := by
  unfold walkR
  split
  · exact wk_nat hA (fun i s h => fd_nat hA h) (splitP p) 0 (by omega)
  · exact ⟨0, rfl, by omega⟩
/-- Unlink. -/
def ulR (F : FS) (p : List UInt8) : Int := if (walkR F p).2 = 0 then (if isD F (walkR F p).1 = true then 21 else 0) else (walkR F p).2
def ulF (F : FS) (p : List UInt8) (os : List Int) : FS := dpF F (paR F p).1 (paR F p).2.1 (walkR F p).1.toNat os
/-- Link. -/
def lnR (F : FS) (a b : List UInt8) : Int := if (walkR F a).2 = 0 then (if isD F (walkR F a).1 = true then 21 else if (paR F b).2.2 = 0 then adR F (paR F b).1 (paR F b).2.1 (walkR F a).1 else (paR F b).2.2) else (walkR F a).2
def lnF (F : FS) (a b : List UInt8) : FS := lkF (adF F (paR F b).1 (paR F b).2.1 (walkR F a).1) (walkR F a).1.toNat ((F.ino (walkR F a).1.toNat).links + 1)
/-- What a name leads to is in use, and has links. -/
structure Named (F : FS) (i : Nat) : Prop where
  pos : i ≠ 0
  use : Bi.bt F.iw i = true
  one : 1 ≤ (F.ino i).links
  most : (F.ino i).links ≤ 999
section
variable {w w' : World} {m : Nat} {B : Sto} {F : FS}
set_option maxHeartbeats 4000000 in
set_option maxRecDepth 100000 in
theorem funlink_at (h : Fs w B F m) (hA : AllD F) (h0 : isD F 0 = true) (hm : m ≤ 600000000000) (p : List UInt8) (hp : p.length ≤ 9223372036854775807) (hN : (walkR F p).2 = 0 → isD F (walkR F p).1 = false → Named F (walkR F p).1.toNat) {v : Value} {os : List Int} (ho : OpIn w v os) :
    Calls Tryz.prog 65 #[sto B, tx p, v] w (Res B F.n (m + 500000) (ulR F p) (ulF F p os) (.tuple #[]) w) := by
  have hW := fwalk_at h hA (by omega) p hp
  have HA : Hid (AllD F) := hA
  have HCr : Hid (ulR F p = (if (walkR F p).2 = 0 then (if isD F (walkR F p).1 = true then 21 else 0) else (walkR F p).2) ∧ ulF F p os = dpF F (paR F p).1 (paR F p).2.1 (walkR F p).1.toNat os) := ⟨rfl, rfl⟩
  have HPa : Hid ((walkR F p).2 = 0 → isD F (walkR F p).1 = false → (paR F p).2.2 = 0 ∧ isD F (paR F p).1 = true ∧ fdR F (paR F p).1 (paR F p).2.1 = (walkR F p).1 ∧ 0 ≤ (walkR F p).1) := walk_pa h0
  have HNm : Hid ((walkR F p).2 = 0 → isD F (walkR F p).1 = false → Named F (walkR F p).1.toNat) := hN
  have HO : Hid (OpIn w v os) := ho
  obtain ⟨k, hk, hk32⟩ := walk_nat hA p
  obtain ⟨a, cap, hv, -, -⟩ := ho
  have HV : Hid (v = .slice a os.length cap) := hv
  obtain ⟨N, hNn⟩ : ∃ N, N = os.length := ⟨_, rfl⟩
  have HN : Hid (N = os.length) := hNn
  rw [hv, ← hNn]
  rw [hk] at HCr HPa HNm hW
  rw [Int.toNat_natCast] at HNm HCr
  clear h hA hN hv hNn hk h0
  generalize ulR F p = cr at *
  generalize ulF F p os = cf at *
  generalize (walkR F p).2 = we at *
  go_enter Tryz.func65, Tryz.ntmps65
  go_wp2_with fail
  refine hW.mono ?_
  rintro e w1 (⟨z0, rfl, hf, hbg⟩ | ⟨z0, rfl, hdk, hbg⟩)
  · subst z0
    have hD := fisdir_at hf (by omega) k hk32
    have HU1 : Hid (BG B w w1) := hbg
    obtain ⟨hc1, hc2⟩ := HCr.out
    rw [if_pos rfl] at hc1
    have HC : Hid (cr = (if isD F (k : Int) = true then 21 else 0) ∧ cf = dpF F (paR F p).1 (paR F p).2.1 k os) := ⟨hc1, hc2⟩
    have HO1 : Hid (OpIn w1 v os) := HO.out.st hbg
    clear hW hf hbg hc1 hc2 HCr HO
    have HPa' : Hid (isD F (k : Int) = false → (paR F p).2.2 = 0 ∧ isD F (paR F p).1 = true ∧ fdR F (paR F p).1 (paR F p).2.1 = (k : Int) ∧ 0 ≤ (k : Int)) := HPa.out rfl
    have HNm' : Hid (isD F (k : Int) = false → Named F k) := HNm.out rfl
    clear HPa HNm
    generalize hbq : isD F (k : Int) = b at *
    clear hbq
    go_wp2_with fail
    refine hD.mono ?_
    rintro e w2 ⟨rfl, hf, hbg⟩
    have HFs2 : Hid (Fs w2 B F (m + 210000 + 3000)) := hf
    have HU2 : Hid (BG B w w2) := SU.trans HU1.out hbg
    have HO2 : Hid (OpIn w2 v os) := HO1.out.st hbg
    clear hD hf hbg HO1
    cases b with
    | true =>
      have hc1 := HC.out.1
      rw [if_pos rfl] at hc1
      subst hc1
      clear HC
      go_wp2
      exact ⟨rfl, Or.inr ⟨rfl, rfl, (HFs2.out.mono (by omega)).dk, HU2.out⟩⟩
    | false =>
      obtain ⟨hc1, hc2⟩ := HC.out
      rw [if_neg (by simp)] at hc1
      subst hc1
      obtain ⟨p1, p2, p3, p4⟩ := HPa'.out rfl
      have hnm := HNm'.out rfl
      have hS := fspot_at HFs2.out HA.out (by omega) p hp
      rw [p1] at hS
      have hrm := rm_yes p2 (by rw [p3]; omega)
      have HDr : Hid (∀ W, Fs W B F (m + 210000 + 3000 + 225000) → OpIn W v os → Calls Tryz.prog 129 #[sto B, .agg #[.int .i64 (paR F p).1, tx (paR F p).2.1], .int .i64 (k : Int), v] W fun e w' => e = .returned (.tuple #[]) ∧ Fs w' B cf (m + 500000) ∧ BG B W w') := fun W hW hO => by
        refine (fdrop_at hW HA.out (by omega) _ _ hrm k hk32 hnm.pos hnm.use hnm.one (by have := hnm.most; omega) hO).mono ?_
        rintro e w' ⟨rfl, q1, q2⟩
        rw [hc2]
        exact ⟨rfl, q1.mono (by omega), q2⟩
      clear hc2 p1 p2 p3 p4 hnm hrm HC HPa' HNm'
      generalize (paR F p).1 = d at *
      generalize (paR F p).2.1 = s at *
      go_wp2_with fail
      refine hS.mono ?_
      rintro e w3 (⟨-, rfl, hf, hbg⟩ | ⟨z0, rfl, hdk, hbg⟩)
      · have hDr := HDr.out w3 hf (HO2.out.st hbg)
        have HU3 : Hid (BG B w w3) := SU.trans HU2.out hbg
        rw [HV.out, ← HN.out] at hDr
        clear hS hf hbg HDr HO2
        go_wp2_with fail
        refine hDr.mono ?_
        rintro e w4 ⟨rfl, hf, hbg⟩
        have HF : Hid (Fs w4 B cf (m + 500000) ∧ BG B w w4) := ⟨hf, SU.trans HU3.out hbg⟩
        clear hDr hf hbg
        go_wp2
        go_end0
        exact Or.inl ⟨rfl, rfl, HF.out⟩
      · exact absurd z0 (by simp)
  · have hne : ¬ we = 0 := by simpa using z0
    have HC : Hid (cr = we) := by have := HCr.out.1; rw [if_neg hne] at this; exact this
    have HF : Hid ((∃ ws, Dk w1 B F.n ws (m + 500000)) ∧ BG B w w1) := by
      obtain ⟨ws, hws⟩ := hdk
      exact ⟨⟨ws, hws.mono (by omega)⟩, hbg⟩
    have HK : Hid ((we != 0) = true) := z0
    clear hW hdk hbg hne z0
    go_wp2
    exact ⟨rfl, Or.inr ⟨by rw [HC.out]; exact HK.out, by rw [HC.out], HF.out⟩⟩
set_option maxHeartbeats 4000000 in
set_option maxRecDepth 100000 in
theorem flink_at (h : Fs w B F m) (hA : AllD F) (hm : m ≤ 600000000000) (a b : List UInt8) (ha : a.length ≤ 9223372036854775807) (hb : b.length ≤ 9223372036854775807) (hN : (walkR F a).2 = 0 → isD F (walkR F a).1 = false → Named F (walkR F a).1.toNat) :
    Calls Tryz.prog 58 #[sto B, tx a, tx b] w (Res B F.n (m + 500000) (lnR F a b) (lnF F a b) (.tuple #[]) w) := by
  have hW := fwalk_at h hA (by omega) a ha
  have HA : Hid (AllD F) := hA
  have HCr : Hid (lnR F a b = (if (walkR F a).2 = 0 then (if isD F (walkR F a).1 = true then 21 else if (paR F b).2.2 = 0 then adR F (paR F b).1 (paR F b).2.1 (walkR F a).1 else (paR F b).2.2) else (walkR F a).2) ∧ lnF F a b = lkF (adF F (paR F b).1 (paR F b).2.1 (walkR F a).1) (walkR F a).1.toNat ((F.ino (walkR F a).1.toNat).links + 1)) := ⟨rfl, rfl⟩
  have HNm : Hid ((walkR F a).2 = 0 → isD F (walkR F a).1 = false → Named F (walkR F a).1.toNat) := hN
  obtain ⟨k, hk, hk32⟩ := walk_nat hA a
  rw [hk] at HCr HNm hW
  rw [Int.toNat_natCast] at HNm HCr
  clear h hA hN hk
  generalize lnR F a b = cr at *
  generalize lnF F a b = cf at *
  generalize (walkR F a).2 = we at *
  go_enter Tryz.func58, Tryz.ntmps58
  go_wp2_with fail
  refine hW.mono ?_
  rintro e w1 (⟨z0, rfl, hf, hbg⟩ | ⟨z0, rfl, hdk, hbg⟩)
  · subst z0
    have hD := fisdir_at hf (by omega) k hk32
    have HU1 : Hid (BG B w w1) := hbg
    obtain ⟨hc1, hc2⟩ := HCr.out
    rw [if_pos rfl] at hc1
    have HC : Hid (cr = (if isD F (k : Int) = true then 21 else if (paR F b).2.2 = 0 then adR F (paR F b).1 (paR F b).2.1 (k : Int) else (paR F b).2.2) ∧ cf = lkF (adF F (paR F b).1 (paR F b).2.1 (k : Int)) k ((F.ino k).links + 1)) := ⟨hc1, hc2⟩
    clear hW hf hbg hc1 hc2 HCr
    have HNm' : Hid (isD F (k : Int) = false → Named F k) := HNm.out rfl
    clear HNm
    generalize hbq : isD F (k : Int) = db at *
    clear hbq
    go_wp2_with fail
    refine hD.mono ?_
    rintro e w2 ⟨rfl, hf, hbg⟩
    have HFs2 : Hid (Fs w2 B F (m + 210000 + 3000)) := hf
    have HU2 : Hid (BG B w w2) := SU.trans HU1.out hbg
    clear hD hf hbg
    cases db with
    | true =>
      have hc1 := HC.out.1
      rw [if_pos rfl] at hc1
      subst hc1
      clear HC
      go_wp2
      exact ⟨rfl, Or.inr ⟨rfl, rfl, (HFs2.out.mono (by omega)).dk, HU2.out⟩⟩
    | false =>
      obtain ⟨hc1, hc2⟩ := HC.out
      rw [if_neg (by simp)] at hc1
      have hnm := HNm'.out rfl
      have hS := fspot_at HFs2.out HA.out (by omega) b hb
      have HLn : Hid ((paR F b).2.1.length ≤ 9223372036854775807) := by have := pa_len (F := F) (p := b); show _ ≤ _; omega
      have HC2 : Hid (cr = (if (paR F b).2.2 = 0 then adR F (paR F b).1 (paR F b).2.1 (k : Int) else (paR F b).2.2) ∧ cf = lkF (adF F (paR F b).1 (paR F b).2.1 (k : Int)) k ((F.ino k).links + 1)) := ⟨hc1, hc2⟩
      have HNm2 : Hid (Named F k) := hnm
      clear hc1 hc2 hnm HC HNm'
      generalize (paR F b).1 = d at *
      generalize (paR F b).2.1 = s at *
      generalize (paR F b).2.2 = er at *
      go_wp2_with fail
      refine hS.mono ?_
      rintro e w3 (⟨z0, rfl, hf, hbg⟩ | ⟨z0, rfl, hdk, hbg⟩)
      · subst z0
        obtain ⟨hc1, hc2⟩ := HC2.out
        rw [if_pos rfl] at hc1
        obtain ⟨W4, hW4⟩ : ∃ W, W = w3.alloc (.cells #[.int .i64 d, tx s] 180) := ⟨_, rfl⟩
        have hb4 : Below w3.heap.size w3 W4 := by rw [hW4]; exact below_alloc _ _
        have hAd := Add_at (hf.below hb4) HA.out (by omega) d s HLn.out (k : Int)
        have HU4 : Hid (BG B w W4) := SU.trans (SU.trans HU2.out hbg) (SU.of_below hb4)
        have HW4 : Hid _ := hW4
        have HI : Hid (FInv F) := hf.inv
        rw [← hc1] at hAd
        have HCf : Hid (cf = lkF (adF F d s (k : Int)) k ((F.ino k).links + 1)) := hc2
        have HcR : Hid (cr = adR F d s (k : Int)) := hc1
        clear hS hf hbg hW4 hb4 hc1 hc2 HC2
        go_wp2_with fail
        rw [← HW4.out]
        refine hAd.mono ?_
        rintro e w5 ⟨rfl, hf, hbg⟩
        have HFs5 : Hid (Fs w5 B (adF F d s (k : Int)) (m + 210000 + 3000 + 225000 + 9000)) := hf
        have HU5 : Hid (BG B w w5) := SU.trans HU4.out hbg
        clear hAd hf hbg
        by_cases hz : cr = 0
        · subst hz
          have hlk : ((adF F d s (k : Int)).ino k).links = (F.ino k).links ∧ (adF F d s (k : Int)).iw = F.iw := by
            obtain ⟨k', t, l, e1, e2, e3, e4, e5, e6, e7, e8⟩ := add_ok HI.out HA.out HcR.out.symm
            rw [e6]
            exact ⟨lay_links _ _ _ _, rfl⟩
          have hnm := HNm2.out
          have hCo := fcount_at HFs5.out (by omega) k hk32 (by rw [hlk.2]; exact hnm.use) 1 (by omega) (by omega) (by rw [hlk.1]; have := hnm.one; omega) (by rw [hlk.1]; have := hnm.most; omega)
          rw [hlk.1, ← HCf.out] at hCo
          clear hlk hnm
          generalize (F.ino k).links + 1 = nl at *
          go_wp2_with (go_at_call 102; refine (must_ok _).mono ?_; rintro e w2 ⟨rfl, hw⟩; rw [hw]; clear hw w2)
          refine hCo.mono ?_
          rintro e w6 ⟨rfl, hf, hbg⟩
          have HF : Hid (Fs w6 B cf (m + 500000) ∧ BG B w w6) := ⟨hf.mono (by omega), SU.trans HU5.out hbg⟩
          clear hCo hf hbg
          go_wp2
          go_end0
          exact Or.inl ⟨rfl, rfl, HF.out⟩
        · have HNe : Hid ((cr != 0) = true) := ne_bool hz
          have HF : Hid ((∃ ws, Dk w5 B F.n ws (m + 500000)) ∧ BG B w w5) := by
            have := (HFs5.out.mono (show _ ≤ m + 500000 by omega)).dk
            rw [adF_n] at this
            exact ⟨this, HU5.out⟩
          clear HFs5 HU5
          go_wp2_with (go_at_call 102; refine (must_no cr HNe.out _).mono ?_; rintro e w2 ⟨rfl, hw⟩; rw [hw]; clear hw w2)
          exact ⟨rfl, Or.inr ⟨HNe.out, rfl, HF.out⟩⟩
      · have hne : ¬ er = 0 := by simpa using z0
        have HC : Hid (cr = er) := by have := HC2.out.1; rw [if_neg hne] at this; exact this
        have HF : Hid ((∃ ws, Dk w3 B F.n ws (m + 500000)) ∧ BG B w w3) := by
          obtain ⟨ws, hws⟩ := hdk
          exact ⟨⟨ws, hws.mono (by omega)⟩, SU.trans HU2.out hbg⟩
        have HK : Hid ((er != 0) = true) := z0
        clear hS hdk hbg hne z0
        go_wp2
        exact ⟨rfl, Or.inr ⟨by rw [HC.out]; exact HK.out, by rw [HC.out], HF.out⟩⟩
  · have hne : ¬ we = 0 := by simpa using z0
    have HC : Hid (cr = we) := by have := HCr.out.1; rw [if_neg hne] at this; exact this
    have HF : Hid ((∃ ws, Dk w1 B F.n ws (m + 500000)) ∧ BG B w w1) := by
      obtain ⟨ws, hws⟩ := hdk
      exact ⟨⟨ws, hws.mono (by omega)⟩, hbg⟩
    have HK : Hid ((we != 0) = true) := z0
    clear hW hdk hbg hne z0
    go_wp2
    exact ⟨rfl, Or.inr ⟨by rw [HC.out]; exact HK.out, by rw [HC.out], HF.out⟩⟩
end
end Go.Proofs.YtcjpahnlckfgoaaGreatDoor

namespace Go.Proofs.YtcjpahnlckfgoaaGreatDoor
open Go.RowKit
set_option linter.unusedVariables false

/-- Close. -/
def clF (F : FS) (i : Nat) : FS := if (F.ino i).kind = 1 ∧ (F.ino i).links = 0 then freeF F i else F
theorem free_cnt {F : FS} (h : FInv F) {i : Nat} (hi : i < 32) (hu : Bi.bt F.iw i = true) : Bi.cntF (Bi.bt (freeF F i).iw) 32 = Bi.cntF (Bi.bt F.iw) 32 + 1 := by
  have hbt := fun j => Bi.bt_mkW F.iw i j false (h.iw.at hi)
  have := cntF_one (f := Bi.bt (Bi.mkW F.iw i false)) (g := Bi.bt F.iw) (b := i) (by rw [hbt, if_pos rfl]) hu (fun j hj => by rw [hbt, if_neg hj]) 32
  rw [if_pos hi] at this
  exact this
section
variable {w w' : World} {m : Nat} {B : Sto} {F : FS}
/-- A draft over a store with a file system. -/
theorem Fs.draft (h : Fs w B F m) : ∃ vs, Fs (w.alloc (.cells #[sto B, .slice none 0 0, .int .i64 0] 149)) (dft B B.lo w.heap.size vs) F m := by
  obtain ⟨vs, h⟩ := h
  exact ⟨vs, vs, dft_new h.disk h.inv.n2, h.hold, h.inv⟩
theorem Fs.under {lo d : Nat} {vs : List Int} {F' : FS} {m' : Nat} (h : Fs w (dft B lo d vs) F' m') (hn : F'.n = F.n) (hH : Holds vs F) (hF : FInv F) : Fs w B F m' := by
  obtain ⟨ws, h⟩ := h
  have hd := dft_under h.disk
  rw [hn] at hd
  exact ⟨vs, hd, hH, hF⟩
set_option maxHeartbeats 4000000 in
set_option maxRecDepth 100000 in
theorem finuse_at (h : Fs w B F m) (hm : m ≤ 700000000000) (i : Nat) (hi : i < 32) (hi0 : i ≠ 0) (hu : Bi.bt F.iw i = true) :
    Calls Tryz.prog 135 #[sto B, .int .i64 (i : Int)] w fun e w' => e = .returned (.bool true) ∧ Fs w' B F (m + 9000) ∧ BG B w w' := by
  obtain ⟨vs, hh⟩ := h
  have HH : Hid (Holds vs F ∧ FInv F) := ⟨hh.hold, hh.inv⟩
  obtain ⟨W0, hW0⟩ : ∃ W, W = w.alloc (.cells #[sto B, .slice none 0 0, .int .i64 0] 149) := ⟨_, rfl⟩
  have hb0 : Below w.heap.size w W0 := by rw [hW0]; exact below_alloc _ _
  have hf0 : Fs W0 (dft B B.lo w.heap.size vs) F m := by rw [hW0]; exact ⟨vs, dft_new hh.disk hh.inv.n2, hh.hold, hh.inv⟩
  have hL1 := left_at hf0 (by omega)
  have hc := free_cnt hh.inv hi hu
  have hbd := build_draft B
  have HW0 : Hid _ := hW0
  have HB0 : Hid (Below w.heap.size w W0) := hb0
  obtain ⟨d, hd⟩ : ∃ d, d = w.heap.size := ⟨_, rfl⟩
  have Hd : Hid (d = w.heap.size) := hd
  have HFr : Hid (∀ W, Fs W (dft B B.lo d vs) F (m + 3000) → Calls Tryz.prog 136 #[.iface 146 (ptr d), .int .i64 (i : Int)] W fun e w' => e = .returned (.int .i64 0) ∧ Fs w' (dft B B.lo d vs) (freeF F i) (m + 6000) ∧ ST B.lo W w') := fun W hW => free_yes hW (by omega) i hi hi0 hu
  have HL2 : Hid (∀ W, Fs W (dft B B.lo d vs) (freeF F i) (m + 6000) → Calls Tryz.prog 25 #[.iface 146 (ptr d)] W fun e w' => e = .returned (.tuple #[.int .i64 ((Bi.cntF (Bi.bt (freeF F i).iw) 32 : Nat) : Int), .int .i64 ((Bi.cntF (Bi.bt (freeF F i).bw) (freeF F i).n : Nat) : Int)]) ∧ Fs w' (dft B B.lo d vs) (freeF F i) (m + 9000) ∧ ST B.lo W w') := fun W hW => left_at hW (by omega)
  rw [hc] at HL2
  rw [← hd] at hL1
  clear hh hf0 hW0 hb0 hd hc
  generalize Bi.cntF (Bi.bt F.iw) 32 = c1 at *
  generalize ((Bi.cntF (Bi.bt F.bw) F.n : Nat) : Int) = c2 at *
  generalize ((Bi.cntF (Bi.bt (freeF F i).bw) (freeF F i).n : Nat) : Int) = c3 at *
  go_enter Tryz.func135, Tryz.ntmps135
  go_wp2_with fail
  rw [← HW0.out, ← Hd.out]
  refine Calls.mono (show Calls Tryz.prog 25 #[.iface 146 (ptr d)] W0 _ from hL1) ?_
  rintro e w1 ⟨rfl, hf, hbg⟩
  have hFr := HFr.out w1 hf
  have HU1 : Hid (BG B w w1) := SU.trans (SU.of_below HB0.out) hbg
  clear hL1 hf hbg HFr
  go_wp2_with fail
  refine hFr.mono ?_
  rintro e w2 ⟨rfl, hf, hbg⟩
  have hL2 := HL2.out w2 hf
  have HU2 : Hid (BG B w w2) := SU.trans HU1.out hbg
  clear hFr hf hbg HL2
  go_wp2_with (go_at_call 102; refine (must_ok _).mono ?_; rintro e w2 ⟨rfl, hw⟩; rw [hw]; clear hw w2)
  refine hL2.mono ?_
  rintro e w3 ⟨rfl, hf, hbg⟩
  have HF : Hid (Fs w3 B F (m + 9000) ∧ BG B w w3) := ⟨hf.under rfl HH.out.1 HH.out.2, SU.trans HU2.out hbg⟩
  have hlt : (c1 : Int) < ((c1 + 1 : Nat) : Int) := by omega
  have hlt2 : (c1 : Int) < (c1 : Int) + 1 := by omega
  clear hL2 hf hbg
  go_wp2
  go_ret
  exact ⟨by simp, HF.out⟩
set_option maxHeartbeats 4000000 in
set_option maxRecDepth 100000 in
theorem fclose_file (h : Fs w B F m) (hm : m ≤ 600000000000) (i : Nat) (hi : i < 32) (h0 : (F.ino 0).kind = 2) :
    Calls Tryz.prog 70 #[sto B, .int .i64 (i : Int)] w fun e w' => e = .returned (.tuple #[]) ∧ Fs w' B (clF F i) (m + 15000) ∧ BG B w w' := by
  have hN := fnode_at h (by omega) i hi
  obtain ⟨c, d, e, f, g, j, hr⟩ := row9 (F.ino i) (h.inv.six hi)
  have e1 : irow [(F.ino i).kind, (F.ino i).links, ((F.ino i).txt.length : Int), c, d, e, f, g, j] = #[.int .i64 (F.ino i).kind, .int .i64 (F.ino i).links, .int .i64 ((F.ino i).txt.length : Int), .int .i64 c, .int .i64 d, .int .i64 e, .int .i64 f, .int .i64 g, .int .i64 j] := rfl
  rw [hr, e1] at hN
  have HC : Hid (clF F i = if (F.ino i).kind = 1 ∧ (F.ino i).links = 0 then freeF F i else F) := rfl
  have HU : Hid ((F.ino i).kind = 1 → i ≠ 0 ∧ Bi.bt F.iw i = true) := fun hk => by
    refine ⟨fun e0 => ?_, ?_⟩
    · rw [e0, h0] at hk; omega
    · cases hb : Bi.bt F.iw i with
      | true => rfl
      | false =>
        rw [h.inv.none i hi hb] at hk
        exact absurd hk (by decide)
  clear h hr e1 h0
  generalize clF F i = cf at *
  generalize (F.ino i).kind = kd at *
  generalize (F.ino i).links = lk at *
  generalize ((F.ino i).txt.length : Int) = sz at *
  go_enter Tryz.func70, Tryz.ntmps70
  go_wp2_with fail
  refine hN.mono ?_
  rintro x w1 ⟨rfl, hf, hbg⟩
  obtain ⟨W2, hW2⟩ : ∃ W, W = w1.alloc (.cells #[.int .i64 kd, .int .i64 lk, .int .i64 sz, .int .i64 c, .int .i64 d, .int .i64 e, .int .i64 f, .int .i64 g, .int .i64 j] 63) := ⟨_, rfl⟩
  have hb2 : Below w1.heap.size w1 W2 := by rw [hW2]; exact below_alloc _ _
  have HF2 : Hid (Fs W2 B F (m + 3000)) := hf.below hb2
  have HU2 : Hid (BG B w W2) := SU.trans hbg (SU.of_below hb2)
  have HW2 : Hid _ := hW2
  clear hN hf hbg hW2 hb2
  by_cases hk : kd = 1
  · subst hk
    have hkb : ((1 : Int) == 1) = true := rfl
    obtain ⟨hi0, hus⟩ := HU.out rfl
    by_cases hl : lk = 0
    · subst hl
      have hlb : ((0 : Int) == 0) = true := rfl
      have hIn := finuse_at HF2.out (by omega) i hi hi0 hus
      have hC := HC.out
      rw [if_pos ⟨rfl, rfl⟩] at hC
      have HCf : Hid (cf = freeF F i) := hC
      have HFr : Hid (∀ W, Fs W B F (m + 3000 + 9000) → Calls Tryz.prog 136 #[sto B, .int .i64 (i : Int)] W fun e w' => e = .returned (.int .i64 0) ∧ Fs w' B (freeF F i) (m + 3000 + 9000 + 3000) ∧ BG B W w') := fun W hW => free_yes hW (by omega) i hi hi0 hus
      clear hC HC HU hi0 hus
      go_wp2_with fail
      rw [← HW2.out]
      refine hIn.mono ?_
      rintro x w3 ⟨rfl, hf, hbg⟩
      have hFr := HFr.out w3 hf
      have HU3 : Hid (BG B w w3) := SU.trans HU2.out hbg
      clear hIn hf hbg HFr
      go_wp2_with fail
      refine hFr.mono ?_
      rintro x w4 ⟨rfl, hf, hbg⟩
      have HF : Hid (Fs w4 B cf (m + 15000) ∧ BG B w w4) := ⟨by rw [HCf.out]; exact hf.mono (by omega), SU.trans HU3.out hbg⟩
      clear hFr hf hbg
      go_wp2_with (go_at_call 102; refine (must_ok _).mono ?_; rintro e w2 ⟨rfl, hw⟩; rw [hw]; clear hw w2)
      go_end0
      exact ⟨rfl, HF.out⟩
    · have hlb : (lk == 0) = false := by simpa using hl
      have hC := HC.out
      rw [if_neg (fun q => hl q.2)] at hC
      have HCf : Hid (cf = F) := hC
      clear hC HC HU hi0 hus hl
      go_wp2
      go_end0
      rw [← HW2.out]
      exact ⟨rfl, by rw [HCf.out]; exact HF2.out.mono (by omega), HU2.out⟩
  · have hkb : (kd == 1) = false := by simpa using hk
    have hC := HC.out
    rw [if_neg (fun q => hk q.1)] at hC
    have HCf : Hid (cf = F) := hC
    clear hC HC HU hk
    go_wp2
    go_end0
    rw [← HW2.out]
    exact ⟨rfl, by rw [HCf.out]; exact HF2.out.mono (by omega), HU2.out⟩
end
end Go.Proofs.YtcjpahnlckfgoaaGreatDoor
