/- The document's answer on directories (janusref16), over a file system: Remove, walk, Walk, Parent. -/
import Derived.Test.YtcaofdbcgdgbbaaGreatDoorRtD
namespace Go.Proofs.YtcaofdbcgdgbbaaGreatDoor
open Go.RowKit Go.Lib
set_option linter.unusedVariables false

theorem Es.lt {w : World} {bx gx m : Nat} {F : FS} (h : Es w bx gx F m) : bx < w.heap.size ∧ gx < w.heap.size := by
  obtain ⟨cap, vs, ⟨gt, pt, hr, q1, q2⟩, hH⟩ := h
  obtain ⟨cur, hh, _⟩ := hr.tab
  exact ⟨cell_lt hr.c0, lt_of_heap hh⟩
/-- What the reference's Remove writes, and what it leaves. -/
theorem rm_ref {F : FS} (hF : FInv F) {i : Nat} (hi : i < 32) {l : List Ent} (hl : DirAt F i l) {k : Nat} (hk : k < l.length) {T : List UInt8} (hT : T = encsE (l.take k ++ l.drop (k + 1))) :
    wrR F i 0 T = 0 ∧ rsR (wrF F i 0 T) i (T.length : Int) = 0 ∧ rsF (wrF F i 0 T) i (T.length : Int) = layT F i (nums T) ∧ FInv (wrF F i 0 T) ∧ T.length ≤ 192 := by
  have hlen := hl.len
  have hmost := hl.most
  have hgl := gone_len hk
  have hTl : T.length = 9 * (l.length - 1) := by
    rw [hT, encsE_len (fun e he => ?_)]
    · omega
    · rcases List.mem_append.1 he with q | q
      · exact hl.ok e (List.mem_of_mem_take q)
      · exact hl.ok e (List.mem_of_mem_drop q)
  have hu := dir_used hF hi hl.kind
  by_cases he : T = []
  · obtain ⟨r1, r2⟩ := wr_nil F i 0 (by omega) (by omega)
    rw [he, r1, r2]
    have hroom : roomB F i 0 = true := room_less hF hi (by omega)
    obtain ⟨r3, r4⟩ := rs_yes F i 0 (by omega) hroom
    refine ⟨rfl, r3, ?_, hF, by simp⟩
    have r4' : rsF F i (([] : List UInt8).length : Int) = resizeF F i 0 := r4
    rw [r4', resize_lay]
    congr 1
    simp [sized, nums]
  · have hmx : max (F.ino i).txt.length (0 + T.length) = (F.ino i).txt.length := by rw [hlen, hTl]; omega
    have hroom0 : roomB F i (F.ino i).txt.length = true := room_less hF hi (Nat.le_refl _)
    obtain ⟨r1, r2⟩ := wr_yes F i 0 T (by omega) he (by rw [hmx]; exact hroom0)
    have z0 : ((0 : Nat) : Int) = 0 := rfl
    rw [z0] at r1 r2
    rw [r1, r2]
    have hinv : FInv (writeF F i 0 (nums T)) := hF.write hi hu (by rw [nums_len]; omega) (nums_byte T) (by rw [nums_len, hmx]; exact hroom0)
    have hwo := write_over hF hi (d := nums T) (by rw [nums_len, hlen, hTl]; omega)
    rw [nums_len] at hwo
    have hblk : ((writeF F i 0 (nums T)).ino i).blk.length = (F.ino i).blk.length := by
      rw [hinv.len i hi, hF.len i hi, write_lay, lay_txt, nums_len, hmx]
      congr 1
      have hs : sized (F.ino i).txt (F.ino i).txt.length = (F.ino i).txt := by unfold sized; simp
      rw [hs, patch_len (by rw [nums_len]; omega)]
    have hroom : roomB (writeF F i 0 (nums T)) i T.length = true := by
      unfold roomB
      refine decide_eq_true ?_
      rw [hblk, hF.len i hi, hlen, hTl]
      unfold need
      omega
    obtain ⟨r3, r4⟩ := rs_yes (writeF F i 0 (nums T)) i T.length (by omega) hroom
    exact ⟨rfl, r3, by rw [r4, hwo], hinv, by omega⟩
section
variable {w w' : World} {bx gx m : Nat} {F : FS}
set_option maxHeartbeats 4000000 in
set_option maxRecDepth 100000 in
theorem rremove_at (h : Es w bx gx F m) (hA : AllD F) (hm : m ≤ 700000000000) (hF : FInv F) (h64 : F.n ≤ 64) (i : Int) (s : List UInt8) :
    Calls Tryz.prog 19 #[ptr bx, .int .i64 i, tx s] w fun e w' => e = .returned (.int .i64 (rmR F i s)) ∧ Es w' bx gx (rmF F i s) (m + 12000) ∧ BG bx gx w w' := by
  have hD := rdir_at h (by omega) hF i
  clear h
  cases hd : isD F i with
  | false =>
    rw [hd] at hD
    have HR : Hid (rmR F i s = 20 ∧ rmF F i s = F) := by
      have e1 : rmR F i s = 20 := by unfold rmR; rw [hd]; rfl
      exact ⟨e1, by unfold rmF; rw [e1]; rfl⟩
    clear hd
    go_enter Tryz.func19, Tryz.ntmps19
    go_wp2_with fail
    refine hD.mono ?_
    rintro e w1 ⟨rfl, hf, hbg⟩
    have HQ : Hid (Es w1 bx gx F (m + 12000) ∧ BG bx gx w w1) := ⟨hf.mono (by omega), hbg⟩
    clear hD hf hbg
    go_wp2
    go_ret
    exact ⟨by rw [HR.out.1]; rfl, by rw [HR.out.2]; exact HQ.out.1, HQ.out.2⟩
  | true =>
    rw [hd] at hD
    obtain ⟨q, rfl, hq, hqk⟩ := isD_nat hd
    obtain ⟨l, hl⟩ := hA q hq hqk
    have HDl : Hid (DirAt F q l) := hl
    have h21 := hl.most
    have hu := dir_used hF hq hqk
    have HLs : Hid (dirL F (q : Int) = l) := hl.list hq
    have HRm : Hid (rmR F (q : Int) s = (if placeE l s < l.length then 0 else 2)) := by
      show _ = _
      unfold rmR
      rw [hd, if_neg (by simp), hl.list hq]
    clear hd hqk hl
    go_enter Tryz.func19, Tryz.ntmps19
    go_wp2_with fail
    refine hD.mono ?_
    rintro e w1 ⟨rfl, hf, hbg⟩
    have hLs := rlist_at hf hA (by omega) hF (q : Int)
    rw [HLs.out] at hLs
    have HB1 : Hid (BG bx gx w w1) := hbg
    clear hD hf hbg
    go_wp2_with fail
    refine hLs.mono ?_
    rintro e w2 ⟨v, u, rfl, hTs, hNs, hf2, hbg2⟩
    obtain ⟨a, cap, rfl, -⟩ := hTs.form
    obtain ⟨a', cap', rfl, -⟩ := hNs.form
    have HT : Hid (Ts w2 w1.heap.size (.slice a (l.map Ent.name).length cap) (l.map Ent.name)) := hTs
    have HQ : Hid (Es w2 bx gx F (m + 6000) ∧ BG bx gx w w2) := ⟨hf2.mono (by omega), HB1.out.trans hbg2⟩
    have hl1 : (l.map Ent.name).length = l.length := List.length_map _
    rw [hl1] at HT ⊢
    clear hLs hTs hNs hf2 hbg2 hl1 HB1
    go_wp2
    go_loopw [9] (fun s9 wr => ∃ (k : Nat), s9 = .int .i64 k ∧ k ≤ l.length ∧ Hid (∀ j x, j < k → l[j]? = some x → x.name ≠ s) ∧ wr = w2) (fun s9 _ => l.length - (RowKit.intOf s9).toNat)
    case atStart => exact ⟨0, rfl, by omega, fun j x hj => by omega, rfl⟩
    case round =>
      obtain ⟨k, rfl, hk, HL, rfl⟩ := hrel
      by_cases hlt : k < l.length
      · obtain ⟨e, he⟩ : ∃ e, l[k]? = some e := ⟨l[k], List.getElem?_eq_getElem hlt⟩
        obtain ⟨g, rfl, c0, -⟩ := HT.out.at (show (l.map Ent.name)[k]? = some e.name by rw [List.getElem?_map, he]; rfl)
        have hint : (k : Int) < (l.length : Int) := by omega
        have HK : Hid (l[k]? = some e) := he
        clear he
        by_cases hqn : e.name = s
        · have hpl := place_at_hit HK.out hqn HL.out
          have hs := text_same s
          rw [hqn] at c0
          obtain ⟨T, hT⟩ : ∃ T, T = encsE (l.take k ++ l.drop (k + 1)) := ⟨_, rfl⟩
          obtain ⟨r1, r2, r3, r4, r5⟩ := rm_ref hF hq HDl.out hlt hT
          have HR : Hid (rmR F (q : Int) s = 0 ∧ rmF F (q : Int) s = layT F q (nums T)) := by
            have e1 : rmR F (q : Int) s = 0 := by rw [HRm.out, if_pos (by omega)]
            refine ⟨e1, ?_⟩
            unfold rmF
            rw [if_pos e1, Int.toNat_natCast]
            congr 2
            unfold rmT
            rw [HLs.out, Int.toNat_natCast, HDl.out.byts, hpl, encsE_gone HDl.out.ok k hlt, hT]
          obtain ⟨ht1, ht2⟩ := dir_text hF hq HDl.out
          have hRd := r_read HQ.out.1 (by omega) hF (q : Int) 0 192 (by omega) (by omega)
          rw [ht1, ht2] at hRd
          obtain ⟨D, hD⟩ : ∃ D, D = encsE l := ⟨_, rfl⟩
          rw [← hD] at hRd
          have hDl : D.length = 9 * l.length := by rw [hD]; exact encsE_len HDl.out.ok
          obtain ⟨N1, hN1⟩ : ∃ N : Nat, N = 9 * k := ⟨_, rfl⟩
          obtain ⟨N2, hN2⟩ : ∃ N : Nat, N = 9 * (k + 1) := ⟨_, rfl⟩
          have hc1 := tx_to D N1 (by omega)
          have hc2 := tx_from D N2 (by omega)
          obtain ⟨X1, hX1⟩ : ∃ X, X = D.take N1 := ⟨_, rfl⟩
          obtain ⟨X2, hX2⟩ : ∃ X, X = D.drop N2 := ⟨_, rfl⟩
          rw [← hX1] at hc1
          rw [← hX2] at hc2
          have hTX : X1 ++ X2 = T := by rw [hX1, hX2, hN1, hN2, hD, hT]; exact encsE_gone HDl.out.ok k hlt
          have gl : ByteArray.mk X1.toArray ++ ByteArray.mk X2.toArray = ByteArray.mk T.toArray := by rw [← hTX]; exact text_glue X1 X2
          have hno : ¬ 9223372036854775807 < X1.length + X2.length := by
            have := congrArg List.length hTX
            rw [List.length_append] at this
            omega
          have hw1 : IntKind.i64.wrap (9 * (k : Int)) = (N1 : Int) := by simp [IntKind.wrap, IntKind.bits, IntKind.signed]; omega
          have hw2 : IntKind.i64.wrap ((k : Int) + 1) = (k : Int) + 1 := by simp [IntKind.wrap, IntKind.bits, IntKind.signed]; omega
          have hw3 : IntKind.i64.wrap (9 * ((k : Int) + 1)) = (N2 : Int) := by simp [IntKind.wrap, IntKind.bits, IntKind.signed]; omega
          have hn1 : (N1 : Int) ≤ (D.length : Int) := by omega
          have hn2 : (N2 : Int) ≤ (D.length : Int) := by omega
          have Hr : Hid (wrR F q 0 T = 0 ∧ rsR (wrF F q 0 T) q (T.length : Int) = 0 ∧ rsF (wrF F q 0 T) q (T.length : Int) = layT F q (nums T) ∧ FInv (wrF F q 0 T)) := ⟨r1, r2, r3, r4⟩
          clear hqn hpl hT r1 r2 r3 r4 ht1 ht2 hD hDl hN1 hN2 hX1 hX2 hTX HRm HL HK
          go_wp2_with fail
          refine hRd.mono ?_
          rintro x w3 ⟨rfl, hf3, hbg3⟩
          have HQ3 : Hid (Es w3 bx gx F (m + 8000) ∧ BG bx gx w w3) := ⟨hf3.mono (by omega), HQ.out.2.trans hbg3⟩
          clear hRd hf3 hbg3 HQ HT c0
          go_wp2
          go_quiet (fail)
          obtain ⟨Wq, hWq⟩ : ∃ W, W = w3.drewN nq := ⟨_, rfl⟩
          have hbq := Di.drewN_below (w := w3) ⟨nq, rfl⟩
          rw [← hWq] at hbq ⊢
          have HQq : Hid (Es Wq bx gx F (m + 8000) ∧ BG bx gx w Wq) := ⟨HQ3.out.1.below hbq, HQ3.out.2.trans (bg_of hbq)⟩
          have hW := r_write HQq.out.1 (by omega) hF h64 (q : Int) 0 (by omega) T (by omega) (fun _ => by simpa using hu)
          rw [(wrA_nat F hq 0 T).1, (wrA_nat F hq 0 T).2, Hr.out.1] at hW
          have hn64 : (wrF F q 0 T).n ≤ 64 := by rw [(wrF_iw F q 0 T).2]; exact h64
          have hu1 : Bi.bt (wrF F q 0 T).iw q = true := by rw [(wrF_iw F q 0 T).1]; exact hu
          clear hbq hWq HQ3 hc1 hc2 gl hno
          generalize wrF F q 0 T = F1 at *
          go_wp2_with fail
          refine hW.mono ?_
          rintro x w4 ⟨rfl, hf4, hbg4⟩
          have hRs := r_resize hf4 (by omega) Hr.out.2.2.2 hn64 (q : Int) (T.length : Int) (fun _ => by simpa using hu1)
          rw [(rsA_nat F1 hq (T.length : Int)).1, (rsA_nat F1 hq (T.length : Int)).2, Hr.out.2.1, Hr.out.2.2.1] at hRs
          have HB4 : Hid (BG bx gx w w4) := HQq.out.2.trans hbg4
          clear hW hf4 hbg4 HQq
          go_wp2_with fail
          refine hRs.mono ?_
          rintro x w5 ⟨rfl, hf5, hbg5⟩
          have HQ5 : Hid (Es w5 bx gx (rmF F (q : Int) s) (m + 12000) ∧ BG bx gx w w5) := ⟨by rw [HR.out.2]; exact hf5.mono (by omega), HB4.out.trans hbg5⟩
          clear hRs hf5 hbg5 HB4
          go_wp2
          go_ret
          exact ⟨by rw [HR.out.1]; rfl, HQ5.out⟩
        · have hqb : (e.name == s) = false := by simpa using hqn
          have HL2 : Hid (∀ j x, j < k + 1 → l[j]? = some x → x.name ≠ s) := fun j x hj hx => by
            rcases Nat.lt_or_ge j k with z | z
            · exact HL.out j x z hx
            · have e2 : j = k := by omega
              subst e2
              rw [HK.out] at hx
              rw [← Option.some.inj hx]
              exact hqn
          clear hqn
          go_wp2
          go_roundw
          case rel => exact ⟨k + 1, by go_num, by omega, HL2, by first | rfl | trivial⟩
          case measure => simp [RowKit.intOf]; omega
      · have hnl : ¬ (k : Int) < (l.length : Int) := by omega
        have HR : Hid (rmR F (q : Int) s = 2 ∧ rmF F (q : Int) s = F) := by
          have hp : ¬ placeE l s < l.length := fun z => by
            obtain ⟨p1, p2⟩ := place_hit z
            exact HL.out _ _ (by omega) (List.getElem?_eq_getElem z) p1
          have e1 : rmR F (q : Int) s = 2 := by rw [HRm.out, if_neg hp]
          exact ⟨e1, by unfold rmF; rw [e1]; rfl⟩
        go_wp2
        go_ret
        exact ⟨by rw [HR.out.1]; rfl, by rw [HR.out.2]; exact HQ.out.1.mono (by omega), HQ.out.2⟩
/-- One part further, as the reference does it. -/
theorem wk_two (F : FS) (i : Int) (p : List UInt8) (l : List (List UInt8)) : (isD F i = false ∧ wkR F i (p :: l) = (0, 20)) ∨ (isD F i = true ∧ fdR F i p < 0 ∧ wkR F i (p :: l) = (0, 2)) ∨ (isD F i = true ∧ ¬ fdR F i p < 0 ∧ wkR F i (p :: l) = wkR F (fdR F i p) l) := by
  show (_ ∧ (if isD F i = false then ((0 : Int), (20 : Int)) else if fdR F i p < 0 then (0, 2) else wkR F (fdR F i p) l) = _) ∨ (_ ∧ _ ∧ (if isD F i = false then ((0 : Int), (20 : Int)) else if fdR F i p < 0 then (0, 2) else wkR F (fdR F i p) l) = _) ∨ (_ ∧ _ ∧ (if isD F i = false then ((0 : Int), (20 : Int)) else if fdR F i p < 0 then (0, 2) else wkR F (fdR F i p) l) = _)
  cases hd : isD F i with
  | false => exact Or.inl ⟨rfl, rfl⟩
  | true =>
    by_cases q : fdR F i p < 0
    · exact Or.inr (Or.inl ⟨rfl, q, by simp [q]⟩)
    · exact Or.inr (Or.inr ⟨rfl, q, by simp [q]⟩)
set_option maxHeartbeats 4000000 in
set_option maxRecDepth 100000 in
theorem rwalk_at {base : Nat} {v : Value} {ts : List (List UInt8)} (h : Es w bx gx F m) (hF : FInv F) (hA : AllD F) (hm : m ≤ 700000000000) (hT : Ts w base v ts) (hb : bx < base ∧ gx < base) (hts : ts.length ≤ 33) :
    Calls Tryz.prog 59 #[ptr bx, v] w fun e w' => e = .returned (.tuple #[.int .i64 (wkR F 0 ts).1, .int .i64 (wkR F 0 ts).2]) ∧ Es w' bx gx F (m + 200000) ∧ BG bx gx w w' := by
  obtain ⟨a, cap, rfl, -⟩ := hT.form
  have HT : Hid (Ts w base (.slice a ts.length cap) ts) := hT
  have HS0 : Hid (Es w bx gx F (m + 6000 * 0) ∧ BG bx gx w w) := ⟨h, UpdP.refl _ _⟩
  have HBb : Hid (bx < base ∧ gx < base) := hb
  clear h hT hb
  go_enter Tryz.func59, Tryz.ntmps59
  go_wp2
  go_loopw [6, 7] (fun s6 s7 wr => ∃ (k : Nat) (i : Int), s6 = .int .i64 i ∧ s7 = .int .i64 k ∧ k ≤ ts.length ∧ Hid (wkR F 0 ts = wkR F i (ts.drop k)) ∧ Hid (Es wr bx gx F (m + 6000 * k) ∧ BG bx gx w wr)) (fun _ s7 _ => ts.length - (RowKit.intOf s7).toNat)
  case atStart => exact ⟨0, 0, rfl, rfl, by omega, rfl, HS0⟩
  case round =>
    obtain ⟨k, i, rfl, rfl, hk, HW, HS⟩ := hrel
    clear HS0
    by_cases hlt : k < ts.length
    · obtain ⟨t, ht⟩ : ∃ t, ts[k]? = some t := ⟨ts[k], List.getElem?_eq_getElem hlt⟩
      have hint : (k : Int) < (ts.length : Int) := by omega
      have hDi := rdir_at HS.out.1 (by omega) hF i
      have hd : ts.drop k = t :: ts.drop (k + 1) := by
        rw [List.drop_eq_getElem_cons hlt]
        congr 1
        rw [List.getElem?_eq_getElem hlt] at ht
        exact Option.some.inj ht
      have hws := wk_two F i t (ts.drop (k + 1))
      rw [← hd, ← HW.out] at hws
      have HK : Hid (ts[k]? = some t) := ht
      clear hd ht HW
      rcases hws with ⟨q1, q2⟩ | ⟨q1, q2, q3⟩ | ⟨q1, q2, q3⟩
      · rw [q1] at hDi
        have HW2 : Hid (wkR F 0 ts = (0, 20)) := q2
        clear q1 q2
        go_wp2_with fail
        refine hDi.mono ?_
        rintro x w2 ⟨rfl, hf2, hbg2⟩
        have HS2 : Hid (Es w2 bx gx F (m + 200000) ∧ BG bx gx w w2) := ⟨hf2.mono (by omega), HS.out.2.trans hbg2⟩
        clear hDi hf2 hbg2 HS
        go_wp2
        go_ret2
        exact ⟨by rw [HW2.out]; rfl, HS2.out⟩
      · rw [q1] at hDi
        have HW2 : Hid (wkR F 0 ts = (0, 2)) := q3
        clear q1 q3
        go_wp2_with fail
        refine hDi.mono ?_
        rintro x w2 ⟨rfl, hf2, hbg2⟩
        have HS2 : Hid (Es w2 bx gx F (m + 6000 * k + 2000) ∧ BG bx gx w w2) := ⟨hf2, HS.out.2.trans hbg2⟩
        obtain ⟨g, rfl, c0, -⟩ := (HT.out.keep HS2.out.2 (fun j hj => by have := HBb.out; rcases hj with e | e <;> omega)).at HK.out
        have hFi := rfind_at HS2.out.1 hA (by omega) hF i t
        clear hDi hf2 hbg2 HS
        generalize fdR F i t = fd at *
        go_wp2_with fail
        refine hFi.mono ?_
        rintro x w3 ⟨rfl, hf3, hbg3⟩
        have HS3 : Hid (Es w3 bx gx F (m + 200000) ∧ BG bx gx w w3) := ⟨hf3.mono (by omega), HS2.out.2.trans hbg3⟩
        clear hFi hf3 hbg3 HS2
        go_wp2
        go_ret2
        exact ⟨by rw [HW2.out]; rfl, HS3.out⟩
      · rw [q1] at hDi
        have HW2 : Hid (wkR F 0 ts = wkR F (fdR F i t) (ts.drop (k + 1))) := q3
        clear q1 q3
        go_wp2_with fail
        refine hDi.mono ?_
        rintro x w2 ⟨rfl, hf2, hbg2⟩
        have HS2 : Hid (Es w2 bx gx F (m + 6000 * k + 2000) ∧ BG bx gx w w2) := ⟨hf2, HS.out.2.trans hbg2⟩
        obtain ⟨g, rfl, c0, -⟩ := (HT.out.keep HS2.out.2 (fun j hj => by have := HBb.out; rcases hj with e | e <;> omega)).at HK.out
        have hFi := rfind_at HS2.out.1 hA (by omega) hF i t
        clear hDi hf2 hbg2 HS
        generalize fdR F i t = fd at *
        go_wp2_with fail
        refine hFi.mono ?_
        rintro x w3 ⟨rfl, hf3, hbg3⟩
        have HS3 : Hid (Es w3 bx gx F (m + 6000 * (k + 1)) ∧ BG bx gx w w3) := ⟨hf3.mono (by omega), HS2.out.2.trans hbg3⟩
        clear hFi hf3 hbg3 HS2
        go_wp2
        go_roundw
        case rel => exact ⟨k + 1, fd, rfl, by go_num, by omega, HW2, HS3⟩
        case measure => simp [RowKit.intOf]; omega
    · have hnl : ¬ (k : Int) < (ts.length : Int) := by omega
      have HW2 : Hid (wkR F 0 ts = (i, 0)) := by
        show _ = _
        rw [HW.out, List.drop_of_length_le (by omega)]
        rfl
      clear HW
      go_wp2
      go_ret2
      exact ⟨by rw [HW2.out]; rfl, HS.out.1.mono (by omega), HS.out.2⟩
set_option maxHeartbeats 2000000 in
set_option maxRecDepth 100000 in
theorem rWalk_at (h : Es w bx gx F m) (hF : FInv F) (hA : AllD F) (hm : m ≤ 700000000000) (p : List UInt8) (hp : p.length ≤ 9223372036854775807) :
    Calls Tryz.prog 21 #[ptr bx, tx p] w fun e w' => e = .returned (.tuple #[.int .i64 (walkR F p).1, .int .i64 (walkR F p).2]) ∧ Es w' bx gx F (m + 200000) ∧ BG bx gx w w' := by
  have hS := rsplit_at p hp w
  have HF : Hid (Es w bx gx F m) := h
  have hlt := h.lt
  clear h
  by_cases hz : splitR p = 0
  · rw [hz] at hS
    have HW : Hid (walkR F p = wkR F 0 (splitP p)) := by show _ = _; unfold walkR; rw [if_pos hz]
    have hL := split_len p
    clear hz
    generalize splitP p = ts at *
    go_enter Tryz.func21, Tryz.ntmps21
    go_wp2_with fail
    refine hS.mono ?_
    rintro e w1 ⟨v, rfl, hT, hb⟩
    have hWk := rwalk_at (HF.out.below hb) hF hA hm hT ⟨hlt.1, hlt.2⟩ hL
    obtain ⟨a, cap, rfl, -⟩ := hT.form
    have HB : Hid (Below w.heap.size w w1) := hb
    rw [← HW.out] at hWk
    clear hS hT hb
    go_wp2_with fail
    refine hWk.mono ?_
    rintro e w2 ⟨rfl, hf2, hbg2⟩
    have HQ : Hid (Es w2 bx gx F (m + 200000) ∧ BG bx gx w w2) := ⟨hf2, UpdP.trans (bg_of HB.out) hbg2⟩
    clear hWk hf2 hbg2
    go_wp2
    go_ret2
    exact ⟨rfl, HQ.out⟩
  · have HW : Hid (walkR F p = (0, splitR p)) := by show _ = _; unfold walkR; rw [if_neg hz]
    have hzb : (splitR p == 0) = false := by simpa using hz
    generalize splitP p = ts at *
    generalize splitR p = er at *
    go_enter Tryz.func21, Tryz.ntmps21
    go_wp2_with fail
    refine hS.mono ?_
    rintro e w1 ⟨v, rfl, hT, hb⟩
    obtain ⟨a, cap, rfl, -⟩ := hT.form
    have HQ : Hid (Es w1 bx gx F (m + 200000) ∧ BG bx gx w w1) := ⟨(HF.out.below hb).mono (by omega), bg_of hb⟩
    clear hS hT hb
    go_wp2
    go_ret2
    exact ⟨by rw [HW.out]; rfl, HQ.out⟩
set_option maxHeartbeats 4000000 in
set_option maxRecDepth 100000 in
theorem rParent_at (h : Es w bx gx F m) (hF : FInv F) (hA : AllD F) (hm : m ≤ 700000000000) (p : List UInt8) (hp : p.length ≤ 9223372036854775807) :
    Calls Tryz.prog 23 #[ptr bx, tx p] w fun e w' => e = .returned (.tuple #[.int .i64 (paR F p).1, tx (paR F p).2.1, .int .i64 (paR F p).2.2]) ∧ Es w' bx gx F (m + 210000) ∧ BG bx gx w w' := by
  have hS := rsplit_at p hp w
  have HF : Hid (Es w bx gx F m) := h
  have hlt := h.lt
  clear h
  by_cases hz : splitR p = 0
  · rw [hz] at hS
    have hL := split_len p
    have HW : Hid (paR F p = (if (splitP p).isEmpty = true then (0, [], 22) else if (wkR F 0 ((splitP p).take ((splitP p).length - 1))).2 = 0 then (if isD F (wkR F 0 ((splitP p).take ((splitP p).length - 1))).1 = true then ((wkR F 0 ((splitP p).take ((splitP p).length - 1))).1, (splitP p).getD ((splitP p).length - 1) [], 0) else (0, [], 20)) else (0, [], (wkR F 0 ((splitP p).take ((splitP p).length - 1))).2))) := by show _ = _; unfold paR; rw [if_pos hz]
    clear hz
    generalize splitP p = ts at *
    go_enter Tryz.func23, Tryz.ntmps23
    go_wp2_with fail
    refine hS.mono ?_
    rintro e w1 ⟨v, rfl, hT, hb⟩
    obtain ⟨a, cap, rfl, hcap⟩ := hT.form
    have HT : Hid (Ts w1 w.heap.size (.slice a ts.length cap) ts) := hT
    have HB : Hid (Below w.heap.size w w1) := hb
    clear hS hT hb
    by_cases he : ts = []
    · subst he
      have HP : Hid (paR F p = (0, [], 22)) := HW.out
      have HQ : Hid (Es w1 bx gx F (m + 210000) ∧ BG bx gx w w1) := ⟨(HF.out.below HB.out).mono (by omega), bg_of HB.out⟩
      clear HW
      go_wp2
      go_ret3
      exact ⟨by rw [HP.out]; rfl, HQ.out⟩
    · have hpos := List.length_pos_iff.2 he
      have hne : ((ts.length : Int) == 0) = false := beq_false_of_ne (by omega)
      have HW2 : Hid (paR F p = (if (wkR F 0 (ts.take (ts.length - 1))).2 = 0 then (if isD F (wkR F 0 (ts.take (ts.length - 1))).1 = true then ((wkR F 0 (ts.take (ts.length - 1))).1, ts.getD (ts.length - 1) [], 0) else (0, [], 20)) else (0, [], (wkR F 0 (ts.take (ts.length - 1))).2))) := by
        have := HW.out
        rw [if_neg (by simpa using he)] at this
        exact this
      obtain ⟨n, hn⟩ : ∃ n, n = ts.length - 1 := ⟨_, rfl⟩
      obtain ⟨z, hzz⟩ : ∃ z, z = ts.getD (ts.length - 1) [] := ⟨_, rfl⟩
      have HZ : Hid (ts[n]? = some z) := by rw [hn, hzz]; exact parent_last he
      rw [← hzz, ← hn] at HW2
      have hwn : IntKind.i64.wrap ((ts.length : Int) - 1) = (n : Int) := by simp [IntKind.wrap, IntKind.bits, IntKind.signed]; omega
      have hnl : n < ts.length := by omega
      have hsl := slice_h a ts.length cap n (by omega)
      have hWk := rwalk_at (HF.out.below HB.out) hF hA hm (HT.out.take n (by omega)) ⟨hlt.1, hlt.2⟩ (by rw [List.length_take]; omega)
      clear hn hzz HW he
      obtain ⟨pr, hpr⟩ : ∃ pr, pr = wkR F 0 (ts.take n) := ⟨_, rfl⟩
      rw [← hpr] at hWk HW2
      clear hpr
      obtain ⟨i, er⟩ := pr
      dsimp only at hWk HW2
      go_wp2_with fail
      refine hWk.mono ?_
      rintro e w2 ⟨rfl, hf2, hbg2⟩
      have HQ2 : Hid (Es w2 bx gx F (m + 200000) ∧ BG bx gx w w2) := ⟨hf2, UpdP.trans (bg_of HB.out) hbg2⟩
      have HT2 : Hid (Ts w2 w.heap.size (.slice a ts.length cap) ts) := HT.out.keep hbg2 (fun j hj => by rcases hj with e | e <;> omega)
      clear hWk hf2 hbg2 HT HB
      by_cases her : er = 0
      · subst her
        have hD := rdir_at HQ2.out.1 (by omega) hF i
        cases hd : isD F i with
        | true =>
          rw [hd] at hD HW2
          have HP : Hid (paR F p = (i, z, 0)) := HW2.out
          clear hd HW2
          go_wp2_with fail
          refine hD.mono ?_
          rintro e w3 ⟨rfl, hf3, hbg3⟩
          have HQ3 : Hid (Es w3 bx gx F (m + 210000) ∧ BG bx gx w w3) := ⟨hf3.mono (by omega), HQ2.out.2.trans hbg3⟩
          obtain ⟨g, rfl, c0, _⟩ := (HT2.out.keep hbg3 (fun j hj => by rcases hj with e | e <;> omega)).at HZ.out
          have hni : (n : Int) < (ts.length : Int) := by omega
          clear hD hf3 hbg3 HQ2 HT2
          go_wp2
          go_quiet (fail)
          go_wp2
          go_ret3
          refine ⟨by rw [HP.out]; rfl, ?_, ?_⟩
          · exact HQ3.out.1.below (Di.drewN_below ⟨_, rfl⟩)
          · exact HQ3.out.2.trans (bg_of (Di.drewN_below ⟨_, rfl⟩))
        | false =>
          rw [hd] at hD HW2
          have HP : Hid (paR F p = (0, [], 20)) := HW2.out
          clear hd HW2
          go_wp2_with fail
          refine hD.mono ?_
          rintro e w3 ⟨rfl, hf3, hbg3⟩
          have HQ3 : Hid (Es w3 bx gx F (m + 210000) ∧ BG bx gx w w3) := ⟨hf3.mono (by omega), HQ2.out.2.trans hbg3⟩
          clear hD hf3 hbg3 HQ2 HT2
          go_wp2
          go_ret3
          exact ⟨by rw [HP.out]; rfl, HQ3.out⟩
      · have HP : Hid (paR F p = (0, [], er)) := by have := HW2.out; rw [if_neg her] at this; exact this
        have herb : (er == 0) = false := by simpa using her
        clear HW2
        go_wp2
        go_ret3
        exact ⟨by rw [HP.out]; rfl, HQ2.out.1.mono (by omega), HQ2.out.2⟩
  · have HP : Hid (paR F p = (0, [], splitR p)) := by show _ = _; unfold paR; rw [if_neg hz]
    have hzb : (splitR p == 0) = false := by simpa using hz
    generalize splitP p = ts at *
    generalize splitR p = er at *
    go_enter Tryz.func23, Tryz.ntmps23
    go_wp2_with fail
    refine hS.mono ?_
    rintro e w1 ⟨v, rfl, hT, hb⟩
    obtain ⟨a, cap, rfl, -⟩ := hT.form
    have HQ : Hid (Es w1 bx gx F (m + 210000) ∧ BG bx gx w w1) := ⟨(HF.out.below hb).mono (by omega), bg_of hb⟩
    clear hS hT hb
    go_wp2
    go_ret3
    exact ⟨by rw [HP.out]; rfl, HQ.out⟩
end
end Go.Proofs.YtcaofdbcgdgbbaaGreatDoor
