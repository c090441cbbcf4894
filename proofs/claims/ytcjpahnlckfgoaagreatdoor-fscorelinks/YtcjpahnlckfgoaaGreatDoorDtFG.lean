/- Package dir, over a file system: find, Find, Add, Remove. -/
/- Package dir, over a file system: Add, Remove. -/
import Derived.Test.YtcjpahnlckfgoaaGreatDoorDtE
import Derived.Test.YtcjpahnlckfgoaaGreatDoorDtCD
namespace Go.Proofs.YtcjpahnlckfgoaaGreatDoor
open Go.RowKit Go.Lib
set_option linter.unusedVariables false

/-- What find answers. -/
def fiA (F : FS) (i : Int) (s : List UInt8) : Int := if isD F i = false then 0 else if fdR F i s < 0 then 0 else fdR F i s
def fiE (F : FS) (i : Int) (s : List UInt8) : Int := if isD F i = false then 20 else if fdR F i s < 0 then 2 else 0
theorem dir_used {F : FS} (hF : FInv F) {k : Nat} (hk : k < 32) (h : (F.ino k).kind = 2) : Bi.bt F.iw k = true := by
  cases hb : Bi.bt F.iw k with
  | true => rfl
  | false =>
    rw [hF.none k hk hb] at h
    cases h
theorem pl_cases (l : List Ent) (s : List UInt8) : (∃ k e, plI l s = ((k : Nat) : Int) ∧ k < l.length ∧ placeE l s = k ∧ l[k]? = some e ∧ findE l s = (e.to : Int)) ∨ (plI l s = -1 ∧ findE l s = -1 ∧ ¬ placeE l s < l.length) := by
  unfold plI findE
  by_cases h : placeE l s < l.length
  · rw [if_pos h, if_pos h]
    refine Or.inl ⟨_, l[placeE l s], rfl, h, rfl, List.getElem?_eq_getElem h, ?_⟩
    rw [List.getD_eq_getElem?_getD, List.getElem?_eq_getElem h]
    rfl
  · rw [if_neg h, if_neg h]
    exact Or.inr ⟨rfl, rfl, h⟩
section
variable {w w' : World} {m : Nat} {B : Sto} {F : FS}
theorem dir_len (hA : AllD F) (i : Int) : (dirL F i).length ≤ 21 := by
  unfold dirL
  cases hd : isD F i with
  | false => simp
  | true =>
    obtain ⟨k, rfl, hk, hkk⟩ := isD_nat hd
    obtain ⟨l, hl⟩ := hA k hk hkk
    have := hl.list hk
    unfold dirL at this
    rw [hd] at this
    rw [this]
    exact hl.most
theorem dir_ok (hA : AllD F) (i : Int) : ∀ e ∈ dirL F i, EntOk e := by
  cases hd : isD F i with
  | false =>
    unfold dirL
    rw [hd]
    intro e he
    simp at he
  | true =>
    obtain ⟨k, rfl, hk, hkk⟩ := isD_nat hd
    obtain ⟨l, hl⟩ := hA k hk hkk
    rw [hl.list hk]
    exact hl.ok
set_option maxHeartbeats 2000000 in
set_option maxRecDepth 100000 in
theorem find_at (h : Fs w B F m) (hA : AllD F) (hm : m ≤ 800000000000) (i : Int) (s : List UInt8) :
    Calls Tryz.prog 187 #[sto B, .int .i64 i, tx s] w fun e w' => e = .returned (.tuple #[.int .i64 (fiA F i s), .int .i64 (fiE F i s)]) ∧ Fs w' B F (m + 6000) ∧ BG B w w' := by
  have hE := entries_at h hA hm i
  have hL := dir_len hA i
  clear h
  cases hd : isD F i with
  | false =>
    have HR : Hid (fiA F i s = 0 ∧ fiE F i s = 20) := by unfold fiA fiE; rw [hd]; exact ⟨rfl, rfl⟩
    have he : enR F i = 20 := by unfold enR; rw [hd]; rfl
    rw [he] at hE
    clear he hd hL
    go_enter Tryz.func187, Tryz.ntmps187
    go_wp2_with fail
    refine hE.mono ?_
    rintro e w1 ⟨v, rfl, hEt, hf, hbg⟩
    have HQ : Hid (Fs w1 B F (m + 6000) ∧ BG B w w1) := ⟨hf, hbg⟩
    obtain ⟨a, cap, rfl, -⟩ := hEt.form
    clear hE hEt hf hbg
    go_wp2
    go_ret2
    exact ⟨by rw [HR.out.1, HR.out.2]; rfl, HQ.out⟩
  | true =>
    have HR : Hid (fiA F i s = (if findE (dirL F i) s < 0 then 0 else findE (dirL F i) s) ∧ fiE F i s = (if findE (dirL F i) s < 0 then 2 else 0)) := by
      unfold fiA fiE fdR
      rw [hd]
      exact ⟨rfl, rfl⟩
    have he : enR F i = 0 := by unfold enR; rw [hd]; rfl
    rw [he] at hE
    clear he hd
    generalize dirL F i = l at *
    go_enter Tryz.func187, Tryz.ntmps187
    go_wp2_with fail
    refine hE.mono ?_
    rintro e w1 ⟨v, rfl, hEt, hf, hbg⟩
    obtain ⟨a, cap, rfl, -⟩ := hEt.form
    have hP := place_at hEt (by omega) s
    have HEt : Hid (Et w1 w.heap.size (.slice a l.length cap) l) := hEt
    have HQ : Hid (Fs w1 B F (m + 6000) ∧ BG B w w1) := ⟨hf, hbg⟩
    clear hE hEt hf hbg
    rcases pl_cases l s with ⟨k, e, q1, q2, q3, q4, q5⟩ | ⟨q1, q2, q3⟩
    · rw [q1] at hP
      have HX : Hid (l[k]? = some e ∧ findE l s = (e.to : Int)) := ⟨q4, q5⟩
      clear q1 q3 q4 q5
      go_wp2_with fail
      refine hP.mono ?_
      rintro x w2 ⟨rfl, hb2⟩
      have HQ2 : Hid (Fs w2 B F (m + 6000) ∧ BG B w w2) := ⟨HQ.out.1.below hb2, HQ.out.2.trans (bg_of hb2)⟩
      obtain ⟨g, o, rfl, c0, c1⟩ := (HEt.out.below hb2).at HX.out.1
      have hk0 : ¬ ((k : Nat) : Int) < 0 := by omega
      have hkl : ((k : Nat) : Int) < (l.length : Int) := by omega
      clear hP hb2 HQ HEt
      go_wp2
      go_ret2
      refine ⟨?_, HQ2.out⟩
      rw [HR.out.1, HR.out.2, HX.out.2, if_neg (by omega), if_neg (by omega)]
      rfl
    · rw [q1] at hP
      have HX : Hid (findE l s = -1) := q2
      clear q1 q2 q3
      go_wp2_with fail
      refine hP.mono ?_
      rintro x w2 ⟨rfl, hb2⟩
      have HQ2 : Hid (Fs w2 B F (m + 6000) ∧ BG B w w2) := ⟨HQ.out.1.below hb2, HQ.out.2.trans (bg_of hb2)⟩
      clear hP hb2 HQ HEt
      go_wp2
      go_ret2
      refine ⟨?_, HQ2.out⟩
      rw [HR.out.1, HR.out.2, HX.out]
      rfl
theorem fi_find (F : FS) (i : Int) (s : List UInt8) : (fiE F i s = 0 ∧ fiA F i s = fdR F i s ∧ 0 ≤ fdR F i s) ∨ (((fiE F i s == 0) = false ∧ fiE F i s ≠ 0) ∧ fdR F i s = -1) := by
  unfold fiE fiA
  cases hd : isD F i with
  | false =>
    refine Or.inr ⟨⟨rfl, by simp⟩, ?_⟩
    unfold fdR dirL
    rw [hd]
    rfl
  | true =>
    by_cases q : fdR F i s < 0
    · rw [if_pos q, if_pos q]
      refine Or.inr ⟨⟨rfl, by simp⟩, ?_⟩
      unfold fdR findE at q ⊢
      split
      · rename_i h
        rw [if_pos h] at q
        omega
      · rfl
    · rw [if_neg q, if_neg q]
      exact Or.inl ⟨rfl, rfl, by omega⟩
set_option maxHeartbeats 1000000 in
theorem Find_at (h : Fs w B F m) (hA : AllD F) (hm : m ≤ 800000000000) (i : Int) (s : List UInt8) :
    Calls Tryz.prog 164 #[sto B, .int .i64 i, tx s] w fun e w' => e = .returned (.int .i64 (fdR F i s)) ∧ Fs w' B F (m + 6000) ∧ BG B w w' := by
  have hE := find_at h hA hm i s
  have hc := fi_find F i s
  clear h
  generalize fiE F i s = er at *
  generalize fiA F i s = ar at *
  go_enter Tryz.func164, Tryz.ntmps164
  go_wp2_with fail
  refine hE.mono ?_
  rintro e w1 ⟨rfl, hf, hbg⟩
  have HQ : Hid (Fs w1 B F (m + 6000) ∧ BG B w w1) := ⟨hf, hbg⟩
  clear hE hf hbg
  rcases hc with ⟨rfl, q1, q2⟩ | ⟨⟨q1, q1'⟩, q2⟩
  · have HX : Hid (ar = fdR F i s) := q1
    clear q1 q2
    go_wp2
    go_ret
    exact ⟨by rw [← HX.out]; rfl, HQ.out⟩
  · have HX : Hid (fdR F i s = -1) := q2
    clear q2
    go_wp2
    go_ret
    exact ⟨by rw [HX.out]; rfl, HQ.out⟩
end
end Go.Proofs.YtcjpahnlckfgoaaGreatDoor

namespace Go.Proofs.YtcjpahnlckfgoaaGreatDoor
open Go.RowKit Go.Lib
set_option linter.unusedVariables false

theorem adB_enc (F : FS) (i : Int) (s : List UInt8) (t : Nat) : adB F i s (t : Int) = encE ⟨s, t⟩ := by unfold adB encE; rw [Int.toNat_natCast]
theorem wr_kept (F : FS) (i : Nat) (o : Int) (l : List UInt8) (h : wrR F i o l ≠ 0) : wrF F i o l = F := by
  unfold wrR at h
  unfold wrF
  by_cases q1 : o < 0
  · rw [if_pos q1]
  · rw [if_neg q1] at h ⊢
    by_cases q2 : 192 < o + l.length
    · rw [if_pos q2]
    · rw [if_neg q2] at h ⊢
      by_cases q3 : l = []
      · rw [if_pos q3]
      · rw [if_neg q3] at h ⊢
        by_cases q4 : roomB F i (max (F.ino i).txt.length (o.toNat + l.length)) = true
        · rw [if_pos q4] at h; exact absurd rfl h
        · rw [if_neg q4]
/-- What Remove's first call leaves, and its second. -/
theorem rm_code {F : FS} (hF : FInv F) {i : Nat} (hi : i < 32) {l : List Ent} (hl : DirAt F i l) {k : Nat} (hk : k < l.length) :
    wrR F i ((9 * k : Nat) : Int) (encsE (l.drop (k + 1))) = 0 ∧ rsR (wrF F i ((9 * k : Nat) : Int) (encsE (l.drop (k + 1)))) i ((9 * (l.length - 1) : Nat) : Int) = 0 ∧ rsF (wrF F i ((9 * k : Nat) : Int) (encsE (l.drop (k + 1)))) i ((9 * (l.length - 1) : Nat) : Int) = layT F i (nums (encsE (l.take k ++ l.drop (k + 1)))) := by
  have hlen := hl.len
  have hmost := hl.most
  have hd : (encsE (l.drop (k + 1))).length = 9 * (l.length - (k + 1)) := by rw [encsE_len (fun e he => hl.ok e (List.mem_of_mem_drop he)), List.length_drop]
  have htk : (encsE (l.take k)).length = 9 * k := by rw [encsE_len (fun e he => hl.ok e (List.mem_of_mem_take he)), List.length_take]; omega
  have htxt : (F.ino i).txt.take (9 * k) = nums (encsE (l.take k)) := by
    rw [hl.txt]
    unfold nums
    rw [← List.map_take, encsE_take hl.ok k (by omega)]
  by_cases he : l.drop (k + 1) = []
  · have hk1 : k + 1 = l.length := by have := congrArg List.length he; simp at this; omega
    have e0 : encsE (l.drop (k + 1)) = [] := by rw [he]; rfl
    obtain ⟨r1, r2⟩ := wr_nil F i ((9 * k : Nat) : Int) (by omega) (by omega)
    rw [e0, r1, r2]
    have hroom : roomB F i (9 * (l.length - 1)) = true := room_less hF hi (by omega)
    obtain ⟨r3, r4⟩ := rs_yes F i (9 * (l.length - 1)) (by omega) hroom
    rw [r3, r4, resize_lay, he, List.append_nil]
    refine ⟨rfl, rfl, ?_⟩
    congr 1
    unfold sized
    rw [show l.length - 1 = k by omega, htxt, show 9 * k - (F.ino i).txt.length = 0 by omega]
    simp
  · have hne : encsE (l.drop (k + 1)) ≠ [] := fun q => by
      rw [q] at hd
      have : (l.drop (k + 1)).length = 0 := by rw [List.length_drop]; simp at hd; omega
      exact he (List.length_eq_zero_iff.1 this)
    have hmx : max (F.ino i).txt.length (9 * k + (encsE (l.drop (k + 1))).length) = (F.ino i).txt.length := by rw [hlen, hd]; omega
    obtain ⟨r1, r2⟩ := wr_yes F i (9 * k) (encsE (l.drop (k + 1))) (by rw [hd]; omega) hne (by rw [hmx]; exact room_less hF hi (Nat.le_refl _))
    rw [r1, r2, write_lay, nums_len, hmx]
    have hsz : sized (F.ino i).txt (F.ino i).txt.length = (F.ino i).txt := by unfold sized; simp
    rw [hsz]
    obtain ⟨T, hT⟩ : ∃ T, T = patch (F.ino i).txt (9 * k) (nums (encsE (l.drop (k + 1)))) := ⟨_, rfl⟩
    have hTl : T.length = (F.ino i).txt.length := by rw [hT, patch_len (by rw [nums_len, hd, hlen]; omega)]
    rw [← hT]
    have hF1 : need T.length = (F.ino i).blk.length := by rw [hTl, hF.len i hi]
    obtain ⟨e1, e2⟩ := newBlk_same (F := F) (i := i) (s := T.length) hF1
    have hblk : ((layT F i T).ino i).blk = (F.ino i).blk := by unfold layT; rw [FS.put_same, e1]
    have hroom : roomB (layT F i T) i (9 * (l.length - 1)) = true := by
      unfold roomB
      refine decide_eq_true ?_
      rw [hblk, hF.len i hi, hlen]
      unfold need
      omega
    obtain ⟨r3, r4⟩ := rs_yes (layT F i T) i (9 * (l.length - 1)) (by omega) hroom
    rw [r3, r4, resize_lay, lay_txt, lay_lay hF1]
    refine ⟨rfl, rfl, ?_⟩
    congr 1
    have hq : 9 * (l.length - 1) = 9 * k + (nums (encsE (l.drop (k + 1)))).length := by rw [nums_len, hd]; omega
    have hT2 : T = (nums (encsE (l.take k)) ++ nums (encsE (l.drop (k + 1)))) ++ (F.ino i).txt.drop (9 * k + (nums (encsE (l.drop (k + 1)))).length) := by
      rw [hT]
      unfold patch
      rw [htxt]
    have hal : (nums (encsE (l.take k)) ++ nums (encsE (l.drop (k + 1)))).length = 9 * (l.length - 1) := by rw [List.length_append, nums_len, htk, hq]
    unfold sized
    rw [hTl, show 9 * (l.length - 1) - (F.ino i).txt.length = 0 by omega, hT2, ← hal, List.take_left, encsE_app, nums_app]
    simp
section
variable {w w' : World} {m : Nat} {B : Sto} {F : FS}
set_option maxHeartbeats 4000000 in
set_option maxRecDepth 100000 in
theorem Add_at (h : Fs w B F m) (hA : AllD F) (hm : m ≤ 800000000000) (i : Int) (s : List UInt8) (hs : s.length ≤ 9223372036854775807) (to : Int) :
    Calls Tryz.prog 122 #[sto B, .int .i64 i, tx s, .int .i64 to] w fun e w' => e = .returned (.int .i64 (adR F i s to)) ∧ Fs w' B (adF F i s to) (m + 9000) ∧ BG B w w' := by
  have hE := entries_at h hA hm i
  have hL := dir_len hA i
  have HI : Hid (FInv F) := h.inv
  clear h
  cases hd : isD F i with
  | false =>
    have HR : Hid (adR F i s to = 20 ∧ adF F i s to = F) := by
      have e1 : adR F i s to = 20 := by unfold adR; rw [hd]; rfl
      exact ⟨e1, by unfold adF; rw [e1]; rfl⟩
    have he : enR F i = 20 := by unfold enR; rw [hd]; rfl
    rw [he] at hE
    clear he hd hL
    go_enter Tryz.func122, Tryz.ntmps122
    go_wp2_with fail
    refine hE.mono ?_
    rintro e w1 ⟨v, rfl, hEt, hf, hbg⟩
    have HQ : Hid (Fs w1 B F (m + 9000) ∧ BG B w w1) := ⟨hf.mono (by omega), hbg⟩
    obtain ⟨a, cap, rfl, -⟩ := hEt.form
    clear hE hEt hf hbg
    go_wp2
    go_ret
    exact ⟨by rw [HR.out.1]; rfl, by rw [HR.out.2]; exact HQ.out.1, HQ.out.2⟩
  | true =>
    have he : enR F i = 0 := by unfold enR; rw [hd]; rfl
    rw [he] at hE
    have HD : Hid (isD F i = true) := hd
    clear he hd
    obtain ⟨l, hl⟩ : ∃ l, l = dirL F i := ⟨_, rfl⟩
    have HL : Hid (l = dirL F i) := hl
    rw [← hl] at hE hL
    clear hl
    go_enter Tryz.func122, Tryz.ntmps122
    go_wp2_with fail
    refine hE.mono ?_
    rintro e w1 ⟨v, rfl, hEt, hf, hbg⟩
    obtain ⟨a, cap, rfl, -⟩ := hEt.form
    have HEt : Hid (Et w1 w.heap.size (.slice a l.length cap) l) := hEt
    have HQ : Hid (Fs w1 B F (m + 6000) ∧ BG B w w1) := ⟨hf, hbg⟩
    have hN := isName_at s hs w1
    clear hE hEt hf hbg
    by_cases hn : (isName s && isI to) = false
    · have HR : Hid (adR F i s to = 22 ∧ adF F i s to = F) := by
        have e1 : adR F i s to = 22 := by unfold adR; rw [HD.out, hn]; rfl
        exact ⟨e1, by unfold adF; rw [e1]; rfl⟩
      have hcs : isName s = false ∨ (isName s = true ∧ to < 0) ∨ (isName s = true ∧ ¬ to < 0 ∧ 32 ≤ to) := by
        cases hq : isName s with
        | false => exact Or.inl rfl
        | true =>
          rw [hq] at hn
          have : isI to = false := by simpa using hn
          unfold isI at this
          simp at this
          by_cases q : to < 0
          · exact Or.inr (Or.inl ⟨rfl, q⟩)
          · exact Or.inr (Or.inr ⟨rfl, q, by omega⟩)
      clear hn
      rcases hcs with q | ⟨q, q1⟩ | ⟨q, q1, q2⟩
      all_goals
        rw [q] at hN
        clear q
        go_wp2_with fail
        refine hN.mono ?_
        rintro x w2 ⟨rfl, hb2⟩
        have HQ2 : Hid (Fs w2 B F (m + 9000) ∧ BG B w w2) := ⟨(HQ.out.1.below hb2).mono (by omega), HQ.out.2.trans (bg_of hb2)⟩
        clear hN hb2 HQ HEt
        go_wp2
        go_ret
        exact ⟨by rw [HR.out.1]; rfl, by rw [HR.out.2]; exact HQ2.out.1, HQ2.out.2⟩
    · obtain ⟨hn1, hn2⟩ : isName s = true ∧ isI to = true := by simpa using hn
      obtain ⟨t, rfl, ht⟩ := isI_of hn2
      have HNm : Hid ((isName s && isI (t : Int)) = true) := (show (isName s && isI (t : Int)) = true by simpa using hn)
      rw [hn1] at hN
      have HOk : Hid (EntOk ⟨s, t⟩) := ent_ok hn1 ht
      have t0 : ¬ (t : Int) < 0 := by omega
      have t1 : ¬ (32 : Int) ≤ (t : Int) := by omega
      clear hn hn1 hn2
      go_wp2_with fail
      refine hN.mono ?_
      rintro x w2 ⟨rfl, hb2⟩
      have HQ2 : Hid (Fs w2 B F (m + 6000) ∧ BG B w w2) := ⟨HQ.out.1.below hb2, HQ.out.2.trans (bg_of hb2)⟩
      have HEt2 : Hid (Et w2 w.heap.size (.slice a l.length cap) l) := HEt.out.below hb2
      have hP := place_at HEt2.out (by omega) s
      clear hN hb2 HQ HEt
      rcases pl_cases l s with ⟨k, e, q1, q2, q3, q4, q5⟩ | ⟨q1, q2, q3⟩
      · rw [q1] at hP
        have HR : Hid (adR F i s (t : Int) = 17 ∧ adF F i s (t : Int) = F) := by
          have e1 : adR F i s (t : Int) = 17 := by
            unfold adR
            rw [HD.out, HNm.out, if_neg (by simp), if_neg (by simp), if_pos]
            show 0 ≤ findE (dirL F i) s
            rw [← HL.out, q5]
            omega
          exact ⟨e1, by unfold adF; rw [e1]; rfl⟩
        have k0 : (0 : Int) ≤ (k : Int) := by omega
        clear q1 q3 q4 q5
        go_wp2_with fail
        refine hP.mono ?_
        rintro x w3 ⟨rfl, hb3⟩
        have HQ3 : Hid (Fs w3 B F (m + 9000) ∧ BG B w w3) := ⟨(HQ2.out.1.below hb3).mono (by omega), HQ2.out.2.trans (bg_of hb3)⟩
        clear hP hb3 HQ2 HEt2
        go_wp2
        go_ret
        exact ⟨by rw [HR.out.1]; rfl, by rw [HR.out.2]; exact HQ3.out.1, HQ3.out.2⟩
      · rw [q1] at hP
        have HX : Hid (fdR F i s = -1) := by show findE (dirL F i) s = -1; rw [← HL.out]; exact q2
        clear q1 q2 q3
        go_wp2_with fail
        refine hP.mono ?_
        rintro x w3 ⟨rfl, hb3⟩
        have HQ3 : Hid (Fs w3 B F (m + 6000) ∧ BG B w w3) := ⟨HQ2.out.1.below hb3, HQ2.out.2.trans (bg_of hb3)⟩
        clear hP hb3 HQ2 HEt2
        by_cases h21 : l.length = 21
        · have HR : Hid (adR F i s (t : Int) = 28 ∧ adF F i s (t : Int) = F) := by
            have e1 : adR F i s (t : Int) = 28 := by
              unfold adR
              rw [HD.out, HNm.out, if_neg (by simp), if_neg (by simp), if_neg (by rw [HX.out]; omega), if_pos (by rw [← HL.out, h21]; exact Nat.le_refl _)]
            exact ⟨e1, by unfold adF; rw [e1]; rfl⟩
          have g21 : ((l.length : Int) == 21) = true := by simp; omega
          have g21' : (l.length : Int) = 21 := by omega
          clear h21
          go_wp2
          go_ret
          exact ⟨by rw [HR.out.1]; rfl, by rw [HR.out.2]; exact HQ3.out.1.mono (by omega), HQ3.out.2⟩
        · have g21 : ((l.length : Int) == 21) = false := beq_false_of_ne (by omega)
          obtain ⟨N, hN⟩ : ∃ N : Nat, N = 9 * l.length := ⟨_, rfl⟩
          have hw9 : IntKind.i64.wrap ((l.length : Int) * 9) = (N : Int) := by simp [IntKind.wrap, IntKind.bits, IntKind.signed]; omega
          have HN9 : Hid (N = 9 * l.length) := hN
          clear hN
          have hT := text_at s t HOk.out.max (by omega) w3
          obtain ⟨E, hEq⟩ : ∃ E, E = encE ⟨s, t⟩ := ⟨_, rfl⟩
          have HE : Hid (E = encE ⟨s, t⟩) := hEq
          rw [← hEq] at hT
          have HEl : Hid (E.length = 9) := by rw [hEq]; exact encE_len HOk.out
          have HAd : Hid (adR F i s (t : Int) = (if wrR F i.toNat (N : Int) E = 0 then 0 else 28) ∧ adF F i s (t : Int) = (if (if wrR F i.toNat (N : Int) E = 0 then (0 : Int) else 28) = 0 then wrF F i.toNat (N : Int) E else F)) := by
            have e1 : adR F i s (t : Int) = (if wrR F i.toNat (N : Int) E = 0 then 0 else 28) := by
              unfold adR
              rw [HD.out, HNm.out, if_neg (by simp), if_neg (by simp), if_neg (by rw [HX.out]; omega), if_neg (by rw [← HL.out]; omega), adB_enc, ← HL.out, HE.out, HN9.out]
            exact ⟨e1, by unfold adF; rw [e1, adB_enc, ← HL.out, HE.out, HN9.out]⟩
          obtain ⟨k, rfl, hk, hkk⟩ := isD_nat HD.out
          have hu := dir_used HI.out hk hkk
          clear hEq hkk
          go_wp2_with fail
          refine hT.mono ?_
          rintro x w4 ⟨rfl, hb4⟩
          have HQ4 : Hid (Fs w4 B F (m + 6000) ∧ BG B w w4) := ⟨HQ3.out.1.below hb4, HQ3.out.2.trans (bg_of hb4)⟩
          have hW := write_all HQ4.out.1 (by omega) k hk hu (N : Int) E (by rw [HEl.out]; omega)
          have hwc : wrR F k (N : Int) E = 0 ∨ ((wrR F k (N : Int) E == 0) = false ∧ wrR F k (N : Int) E ≠ 0) := by
            by_cases q : wrR F k (N : Int) E = 0
            · exact Or.inl q
            · exact Or.inr ⟨by simpa using q, q⟩
          have HWf : Hid (wrR F k (N : Int) E ≠ 0 → wrF F k (N : Int) E = F) := wr_kept F k _ E
          rw [Int.toNat_natCast] at HAd
          clear hT hb4 HQ3
          generalize wrR F k (N : Int) E = wr0 at *
          generalize wrF F k (N : Int) E = F1 at *
          go_wp2_with fail
          refine hW.mono ?_
          rintro x w5 ⟨rfl, hf5, hbg5⟩
          have HQ5 : Hid (Fs w5 B F1 (m + 9000) ∧ BG B w w5) := ⟨hf5, HQ4.out.2.trans hbg5⟩
          clear hW hf5 hbg5 HQ4
          rcases hwc with rfl | ⟨q1, q2⟩
          · go_wp2
            go_ret
            exact ⟨by rw [HAd.out.1]; rfl, by rw [HAd.out.2]; exact HQ5.out.1, HQ5.out.2⟩
          · have HF1 : Hid (F1 = F) := HWf.out q2
            have HAq : Hid (adR F (k : Int) s (t : Int) = 28 ∧ adF F (k : Int) s (t : Int) = F) := by
              have := HAd.out
              rw [if_neg q2, if_neg (by omega)] at this
              exact this
            clear HAd
            go_wp2
            go_ret
            exact ⟨by rw [HAq.out.1]; rfl, by rw [HAq.out.2, ← HF1.out]; exact HQ5.out.1, HQ5.out.2⟩
end
end Go.Proofs.YtcjpahnlckfgoaaGreatDoor
