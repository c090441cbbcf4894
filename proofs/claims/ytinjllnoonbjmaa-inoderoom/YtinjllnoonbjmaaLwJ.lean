/- Proved: januslaw15.InodeRoom answers true for every number and every list of sizes (no block is two inodes', and what is freed is there again), at the commit of this claim; no condition beyond the row's own. -/
import Derived.Test.YtinjllnoonbjmaaLwI
import Derived.ProofKit
import Derived.OpenShut
import Derived.ChangeOld
import Derived.ChangeSlices
import Derived.Below
namespace Go.Proofs.Ytinjllnoonbjmaa
open Go.ChangeShapes Go.WideShapes Go.ChangeAt Go.RowKit Go.Lib
set_option linter.unusedVariables false

theorem tdiv_need (s : Nat) : Int.tdiv ((s : Int) + 31) 32 = ((need s : Nat) : Int) := by
  rw [Int.tdiv_eq_ediv_of_nonneg (by omega)]
  unfold need
  omega
theorem wrap_small (n : Nat) (h : n ≤ 6) : wrap64 (n : Int) = (n : Int) := by unfold wrap64; omega
set_option maxHeartbeats 8000000 in
set_option maxRecDepth 100000 in
theorem room_walk (n : Int) (a0 : Option Addr) (len cap : Nat) (w : World) (hlen : len ≤ 9223372036854775807) (hints : Bi.IntsAt w a0 len) :
    Calls Try.prog 5 #[.int .i64 n, .slice a0 len cap] w fun e w' => e = .returned (.bool true) ∧ Below w.heap.size w w' := by
  obtain ⟨N, hN, hN1, hN2⟩ : ∃ N : Nat, max 13 (min n 60) = (N : Int) ∧ 13 ≤ N ∧ N ≤ 60 := ⟨(max 13 (min n 60)).toNat, by omega, by omega, by omega⟩
  have HI : Hid (Bi.IntsAt w a0 len) := hints
  clear hints
  have hP := pair_at N w hN1 (by omega)
  obtain ⟨i0, hi0, hzz⟩ := Option.map_eq_some_iff.1 intInfo
  simp only [Prod.mk.injEq] at hzz
  obtain ⟨hz0, hz1, hz2⟩ := hzz
  go_enter Try.func5, Try.ntmps5
  go_wp2_with fail
  refine hP.mono ?_
  rintro e w1 ⟨B, bx, rfl, ⟨G, gx, hpr⟩, hb1⟩
  have HLo : Hid (w.heap.size ≤ B ∧ w.heap.size ≤ G) := ⟨hpr.lo.1, hpr.lo.2.1⟩
  have HB1 : Hid (Below w.heap.size w w1) := hb1
  have hC := left_at hpr.fs (by omega)
  obtain ⟨all, hall⟩ : ∃ a, a = Bi.cntF (Bi.bt (F0 N).bw) (F0 N).n := ⟨_, rfl⟩
  have HAll : Hid _ := hall
  rw [← hall] at hC
  clear hP hpr hb1 hall
  go_wp2_with fail
  refine hC.mono ?_
  rintro e w2 ⟨rfl, hf, hbg⟩
  have HB2 : Hid (Below w.heap.size w w2) := HB1.out.trans (bg_below hbg HLo.out.1 HLo.out.2 HB1.out.size)
  obtain ⟨W3, hW3⟩ : ∃ W, W = w2.alloc (.cells zb 62) := ⟨_, rfl⟩
  obtain ⟨p, hp⟩ : ∃ p, p = w2.heap.size := ⟨_, rfl⟩
  have hb3 : Below w2.heap.size w2 W3 := by rw [hW3]; exact below_alloc _ _
  have HR : Hid (RmAt w W3 B G p (F0 N) 4000 (seenF (F0 N)) (.slice none 0 0) (ups 0)) := by
    refine ⟨hf.below hb3, ⟨zb, by rw [hp, hW3]; exact heap_alloc_new _ _, zb_size, fun j hj => ?_⟩, World.ownsRow_nil _ _ _ _, HB2.out.trans (hb3.mono HB2.out.size), HLo.out.1, HLo.out.2, ?_, ?_⟩
    · have e1 : seenF (F0 N) j = false := by
        unfold seenF
        by_cases q : 12 ≤ j
        · rw [show (F0 N).bw = [4095] from rfl, bt_4095 j q, Bool.and_false]
        · rw [decide_eq_false q]; rfl
      rw [e1]
      exact zb_get j hj
    · rw [hp]
      obtain ⟨_, hq⟩ := hf
      obtain ⟨_, _, hd, _, _⟩ := hq.dk
      exact lt_of_heap hd.head
    · rw [hp]
      obtain ⟨_, hq⟩ := hf
      obtain ⟨_, _, hd, _, _⟩ := hq.dk
      exact lt_of_heap hd.row
  have HW3 : Hid _ := hW3
  have HP : Hid _ := hp
  clear hC hf hbg HB1 HB2 hW3 hp hb3
  go_wp2_with fail
  rw [lit_zb, ← HW3.out, ← HP.out]
  clear HW3 HP
  go_loopw [10, 12] (fun s10 s12 wr => ∃ (k : Nat) (F : FS) (v : Value), k ≤ len ∧ k ≤ 20 ∧ v = s10 ∧ s12 = .int .i64 k ∧ RmAt w wr B G p F (4000 + 8000 * k) (seenF F) v (ups k) ∧ Hid (Rst F N 0 k)) (fun _ s12 _ => 20 - (intOf s12).toNat)
  case atStart => exact ⟨0, _, _, by omega, by omega, rfl, rfl, HR.out, rst0 N⟩
  case round =>
    obtain ⟨k, F, v, hkl, hk2, rfl, rfl, hR, HS⟩ := hrel
    by_cases hlt : k < len ∧ k < 20
    · obtain ⟨hl1, hl2⟩ := hlt
      have g0 : decide ((k : Int) < (len : Int)) = true := decide_eq_true (by omega)
      have g1 : decide ((k : Int) < 20) = true := decide_eq_true (by omega)
      obtain ⟨r1, r2, r3, R1, r5, r6⟩ := rst_alloc hR.fs.inv HS.out hl2
      have hC := alloc_all hR.fs (by omega) 1 ⟨by omega, by omega⟩
      rw [r1, r2, r3] at hC
      obtain ⟨F1, hF1⟩ : ∃ F1, F1 = allocF F (k + 1) 1 := ⟨_, rfl⟩
      have HF1 : Hid (seenF F1 = seenF F) := by rw [hF1]; rfl
      rw [← hF1] at hC R1 r5 r6
      have HS1 : Hid _ := R1
      have HI5 : Hid _ := r5
      have HU6 : Hid _ := r6
      have HR : Hid (RmAt w wr B G p F (4000 + 8000 * k) (seenF F1) v (ups k)) := by rw [HF1.out]; exact hR
      clear r1 r2 r3 R1 r5 r6 hF1 HF1 hR HS
      go_wp2_with fail
      refine hC.mono ?_
      rintro e w3 ⟨rfl, hf, hbg⟩
      have hR3 := HR.out.bg hf hbg
      have hC := left_at hR3.fs (by omega)
      obtain ⟨c0, hc0⟩ : ∃ c, c = Bi.cntF (Bi.bt F1.bw) F1.n := ⟨_, rfl⟩
      have HC0 : Hid _ := hc0
      generalize Bi.cntF (Bi.bt F1.iw) 32 = ci at *
      rw [← hc0] at hC
      have HR3 : Hid _ := hR3
      clear hf hbg HR hR3 hc0
      go_wp2_with fail
      refine hC.mono ?_
      rintro e w4 ⟨rfl, hf, hbg⟩
      have HR4 : Hid _ := HR3.out.bg hf hbg
      obtain ⟨gb, off, x, rfl, cx⟩ := HI.out.below HR4.out.old k hl1
      obtain ⟨s, hs, hs2⟩ : ∃ s : Nat, max 0 (min x 192) = (s : Int) ∧ s ≤ 192 := ⟨(max 0 (min x 192)).toNat, by omega, by omega⟩
      obtain ⟨q1, q2, bl, q3⟩ := rst_first HR4.out.fs.inv HS1.out (k + 1) (by omega) (by omega) HU6.out HI5.out hs2
      have hCr := resize_all HR4.out.fs (by omega) (k + 1) (by omega) HU6.out (s : Int)
      rw [q1, ← HC0.out] at hCr
      clear hf hbg HR3 hC q1
      obtain ⟨F2, hF2⟩ : ∃ F2, F2 = rsF F1 (k + 1) (s : Int) := ⟨_, rfl⟩
      rw [← hF2] at hCr q2 q3
      have HS2 : Hid (Rst F2 N 0 (k + 1)) := q2
      have HQ : Hid (Fst F1 F2 (k + 1) bl) := q3
      clear q2 q3 hF2
      obtain ⟨nd, hnd⟩ : ∃ nd, nd = need s := ⟨_, rfl⟩
      rw [← hnd] at hCr
      have hqd := tdiv_need s
      have hwn := wrap_small (need s) (need_le hs2)
      rw [← hnd] at hqd hwn
      clear hnd
      obtain ⟨code, hcode, hcs⟩ : ∃ code : Int, code = (if nd ≤ c0 then 0 else 28) ∧ ((code = 0 ∧ nd ≤ c0) ∨ (code = 28 ∧ ¬ nd ≤ c0)) := by
        by_cases hr : nd ≤ c0
        · exact ⟨0, (if_pos hr).symm, Or.inl ⟨rfl, hr⟩⟩
        · exact ⟨28, (if_neg hr).symm, Or.inr ⟨rfl, hr⟩⟩
      rw [← hcode] at hCr
      clear hcode
      rcases hcs with ⟨rfl, hrd⟩ | ⟨rfl, hrd⟩
      all_goals
        go_wp2_with fail
        refine hCr.mono ?_
        rintro e w5 ⟨rfl, hf, hbg⟩
        have HR5 : Hid _ := HR4.out.bg hf hbg
        have hC := get_fs HR5.out.fs (show 4000 + 8000 * k + 2000 + 2000 + 2000 ≤ 900000 by clear hqd hwn hrd hs hN; omega) (k + 1) (show k + 1 < 32 by clear hqd hwn hrd hs hN; omega)
        obtain ⟨R, hR⟩ : ∃ R, R = irow (F2.ino (k + 1)).row := ⟨_, rfl⟩
        have HRl : Hid ((F2.ino (k + 1)).row.length = 9) := Ino.row_len (HR5.out.fs.inv.six (show k + 1 < 32 by clear hqd hwn hrd hs hN; omega))
        have HRs : Hid (R.size = 9) := by rw [hR]; show _ = _; rw [irow_size]; exact HRl.out
        have HRo : Hid (R.all (·.oneCell') = true) := by rw [hR]; exact irow_one _
        have HRq : Hid (R = irow (F2.ino (k + 1)).row) := hR
        rw [← hR] at hC
        have hz := lit_zi
        clear hCr hf hbg HR4 cx hR
        go_wp2_with fail
        refine hC.mono ?_
        rintro e w6 ⟨rfl, hf, hbg⟩
        clear hqd hwn hrd hs
        have hR6 := HR5.out.bg hf hbg
        obtain ⟨W7, hW7⟩ : ∃ W, W = w6.alloc (.cells R 47) := ⟨_, rfl⟩
        obtain ⟨p7, hp7⟩ : ∃ p, p = w6.heap.size := ⟨_, rfl⟩
        have hb7 : Below w6.heap.size w6 W7 := by rw [hW7]; exact below_alloc _ _
        have HR7 : Hid _ := hR6.below hb7
        have HP7 : Hid (W7.heap[p7]? = some (.cells R 47)) := by rw [hp7, hW7]; exact heap_alloc_new _ _
        have HPl : Hid (p < p7) := by obtain ⟨cs, h1, _⟩ := hR6.seen; rw [hp7]; exact lt_of_heap h1
        have HW7 : Hid _ := hW7
        have Hp7 : Hid _ := hp7
        clear hC hf hbg hW7 hp7 hb7 HR5 hR6
        go_wp2_with (first
          | (refine wpList_store_row rfl 47 _ _ rfl w6.heap.size R rfl rfl 47 zi (heap_alloc_new _ _) (by rw [HRs.out]; exact inoSize) (by rw [HRs.out]; rfl) HRo.out ?_; rw [setRow_alloc_new, ← HW7.out, ← Hp7.out])
          | fail)
        clear HW7 Hp7
        go_loopw [21] (fun s21 wq => ∃ (j : Nat), j ≤ 6 ∧ s21 = .int .i64 j ∧ RmAt w wq B G p F2 (4000 + 8000 * k + 2000 + 2000 + 2000 + 2000) (fun x => seenF F1 x || decide (x ∈ bl.take j)) v (ups k) ∧ wq.heap[p7]? = some (.cells R 47)) (fun s21 _ => 6 - (intOf s21).toNat)
        case atStart => exact ⟨0, by omega, rfl, HR7.out.congr (fun j => by simp), HP7.out⟩
        case round =>
          clear HR7 HP7 hz hC hN HR hs2 HLo
          obtain ⟨j, hj6, rfl, hR8, hp8⟩ := hrel
          by_cases hlt : j < 6
          · have hj6' : (j : Int) < 6 := by omega
            have cj : wr.cell? ⟨p7, 3 + j, none⟩ = some (.int .i64 ((bl.getD j 0 : Nat) : Int)) := by
              rw [cell_of_heap hp8, HRq.out, irow_get _ _ (by rw [HRl.out]; omega), row_blkF HQ.out.blk HQ.out.six j hlt]
            by_cases hjb : j < bl.length
            · have hy := HQ.out.new bl[j] (List.getElem_mem hjb)
              have hsn := seen_new HQ.out j hjb
              have hgd : bl.getD j 0 = bl[j] := by rw [List.getD_eq_getElem?_getD, List.getElem?_eq_getElem hjb]; rfl
              rw [hgd] at cj
              have HTk : Hid (bl.take (j + 1) = bl.take j ++ [bl[j]]) := by show _ = _; simp
              have hyn : bl[j] < N := by rw [← HS1.out.nn]; exact hy.2.1
              have hy12 := hy.1
              generalize bl[j] = y at *
              obtain ⟨cy, fy⟩ := hR8.seen.cell y (by omega)
              rw [hsn] at cy
              have HM : Hid _ := hR8.mark y (by omega)
              have HPn : Hid ((wr.setCell ⟨p, y, none⟩ (.bool true)).heap[p7]? = some (.cells R 47)) := (Below.heap_setCell _ _ _ _ (Ne.symm (Nat.ne_of_lt HPl.out))).trans hp8
              have hyi : ¬ ((y : Nat) : Int) < 12 := by omega
              have hyN : ¬ (N : Int) ≤ ((y : Nat) : Int) := by omega
              have hy0 : ((y : Nat) : Int) ≠ 0 := by omega
              have hyb : (((y : Nat) : Int) == 0) = false := by simp; omega
              clear hy hgd hsn hR8 hp8
              go_wp2
              go_roundw
              case rel =>
                refine ⟨j + 1, by omega, by go_num, HM.out.congr (fun x => ?_), HPn.out⟩
                rw [HTk.out, Bool.or_assoc]
                congr 1
                simp [Bool.decide_or]
              case measure => simp [intOf]; omega
            · have hgd : bl.getD j 0 = 0 := by rw [List.getD_eq_getElem?_getD, List.getElem?_eq_none (by omega)]; rfl
              rw [hgd] at cj
              have HR8 : Hid _ := hR8
              have HP8 : Hid _ := hp8
              clear hgd hR8 hp8
              go_wp2
              go_roundw
              case rel =>
                refine ⟨j + 1, by omega, by go_num, HR8.out.congr (fun x => ?_), HP8.out⟩
                rw [List.take_of_length_le (by omega), List.take_of_length_le (by omega)]
              case measure => simp [intOf]; omega
          · have hj6' : ¬ (j : Int) < 6 := by omega
            have HR9 : Hid (RmAt w wr B G p F2 (4000 + 8000 * k + 2000 + 2000 + 2000 + 2000) (seenF F2) v (ups k)) := hR8.congr (fun x => by
              rw [List.take_of_length_le (by have := HQ.out.six; omega)]
              exact seen_end HQ.out x)
            have HOA : Hid (∀ o, (wr.alloc o).ownsRow (p + 1) 3 1 v k (ivs (ups k))) := fun o => by
              have := HR9.out.own
              rw [ups_len] at this
              exact this.alloc o
            have hps : p + 1 ≤ wr.heap.size := by obtain ⟨cs, h1, _⟩ := HR9.out.seen; exact lt_of_heap h1
            clear hR8 hp8
            go_wp2_with (first | (at_builtin; refine wpList_append_lies _ rfl _ _ _ rfl (p + 1) 3 i0 _ 1 8 Try.underlying61 hi0 hz0 hz1 hz2 rfl (by omega) v k (ivs (ups k)) rfl (HOA.out _) ⟨wr.heap.size, 0, none⟩ 1 1 [.int .i64 ((k : Int) + 1)] rfl rfl (World.news_of_block (cs := #[.int .i64 ((k : Int) + 1)]) (t := 3) (fr := (0, 0)) (heap_alloc_new _ _)) (by simp [Value.oneCell']) (by omega) (by unfold maxLen; omega) (by omega) (by simp; omega) _ rfl ?_; intro gg capx w9 hown hgrow hat hlt9) | go_in)
            go_roundw
            case rel =>
              refine ⟨k + 1, F2, _, by omega, by omega, rfl, by go_num, ?_, HS2⟩
              rw [ups_succ]
              have hb : Below wr.heap.size wr (wr.alloc (.cells #[.int .i64 ((k : Int) + 1)] 3)) := below_alloc _ _
              have hq := (HR9.out.below hb).app (x := (k : Int) + 1) (by rw [ups_len]; exact hown) hgrow
              exact hq.mono (by omega)
            case measure => simp [intOf]; omega
    · have hend : k < len ∧ ¬ k < 20 ∨ ¬ k < len := by omega
      clear HR hN hlt
      have HOw : Hid (RmAt w wr B G p F (4000 + 8000 * k) (seenF F) v (ups k)) := hR
      obtain ⟨a, c, rfl, HFm⟩ : ∃ a c, v = .slice a k c ∧ Hid (0 < k → ∃ g, a = some ⟨g, 0, none⟩) := by
        have ho := hR.own
        rw [ups_len] at ho
        rcases ho.2 with ⟨rfl, h0⟩ | ⟨g, cp, cur, rfl, _⟩
        · exact ⟨none, 0, by rw [h0], fun h => by omega⟩
        · exact ⟨some ⟨g, 0, none⟩, cp, rfl, fun _ => ⟨g, rfl⟩⟩
      clear hR
      rcases hend with ⟨g0, g1⟩ | g0
      all_goals
        go_wp2
        go_loopw [23] (fun s23 wq => ∃ (j : Nat) (F : FS) (f : Nat → Bool), j ≤ k ∧ s23 = .int .i64 j ∧ RmAt w wq B G p F (4000 + 8000 * k + 2000 * j) f (.slice a k c) (ups k) ∧ Hid (Rst F N j k)) (fun s23 _ => k - (intOf s23).toNat)
        case atStart => exact ⟨0, _, _, by omega, rfl, HOw.out, HS⟩
        case round =>
          clear HOw HS
          obtain ⟨j, F, f, hjk, rfl, hR, HS⟩ := hrel
          by_cases hlt : j < k
          · obtain ⟨g, rfl⟩ := HFm.out (by omega)
            have hjk' : (j : Int) < (k : Int) := by omega
            obtain ⟨u1, R2⟩ := rst_free hR.fs.inv HS.out hlt hk2
            have HS2 : Hid _ := R2
            have cj : wr.cell? ⟨g, j, none⟩ = some (.int .i64 ((j + 1 : Nat) : Int)) := by
              have ho := hR.own
              rw [ups_len] at ho
              rw [ho.cellAt j (by omega), ups_get k j hlt]
            have hC := free_yes hR.fs (by omega) (j + 1) (by omega) (by omega) u1
            have HR : Hid _ := hR
            clear u1 R2 hR HS
            go_wp2_with fail
            refine hC.mono ?_
            rintro e w3 ⟨rfl, hf, hbg⟩
            have HR3 : Hid _ := HR.out.bg hf hbg
            clear hC hf hbg HR cj
            go_wp2
            go_roundw
            case rel => exact ⟨j + 1, _, _, by omega, by go_num, HR3.out.mono (by omega), HS2⟩
            case measure => simp [intOf]; omega
          · obtain rfl : j = k := by omega
            have hC := left_at hR.fs (by omega)
            obtain ⟨e1, e2⟩ := rst_end hR.fs.inv HS.out
            rw [e1, e2, ← HAll.out] at hC
            have HR : Hid _ := hR
            clear e1 e2 hR HS
            go_wp2_with fail
            refine hC.mono ?_
            rintro e w3 ⟨rfl, hf, hbg⟩
            have HR3 : Hid _ := HR.out.bg hf hbg
            have hA := awake_at w3
            clear hC hf hbg HR
            go_wp2_with (first | (go_at_call 26; refine hA.mono ?_; rintro e w7 ⟨rfl, hb7⟩) | go_in)
            go_ret
            exact ⟨rfl, HR3.out.old.trans (hb7.mono HR3.out.old.size)⟩

theorem own : ownKnob Try.prog.godebug = none := by kernel_rfl
theorem laidOut : laidOutB Try.prog = true := by kernel_rfl

set_option maxRecDepth 100000 in
theorem room_lifted (os : Os) (started : os.Started) (H : Type) (enc : TypeId × Value → H) :
    ReturnsInHanded {} Try.checked os 5 .any (Rows.inodeRoomSpec.pre6 enc Try.prog Try.f5 Rows.inodeRoomRow.domain false) (Rows.inodeRoomSpec.post enc Try.prog Try.f5 false true false false) := by
  refine returnsInHanded_of_change (C := Try.checked) own started (by kernel_rfl) Try.func5
    (ChangeSpec.witness6 (enc := enc) (C := Try.checked) false ⟨#[], #[.int .i64 0, .slice none 0 0], []⟩ 8 (by kernel_rfl) (by kernel_rfl) (by kernel_rfl) (by kernel_rfl)) ?_
  intro W base args ds gs before hval0 hW hcnd _
  have hval : ∀ (j : Nat) t v, Try.f5.params[j]? = some t → args[j]? = some v → Value.okWide Try.prog W .any base t v := hval0
  have hW' := hW
  obtain ⟨p, q, hA0, hV, rfl, hfz, hnd⟩ := hW
  have hA : DataW.TrodAll enc Try.prog W 0 (fun _ => true) true Try.f5.params.toList args.toList ds p := hA0
  rw [Try.params5] at hA hval
  obtain ⟨v0, vs0, d0, ds0, p0, q0, hargs, rfl, rfl, h0, r0⟩ := trodAll_cons hA
  obtain ⟨v1, vs1, d1, ds1, p1, q1, rfl, rfl, rfl, h1, r1⟩ := trodAll_cons r0
  obtain ⟨rfl, rfl, rfl⟩ := trodAll_nil r1
  obtain rfl : args = #[v0, v1] := by cases args; simp_all
  obtain ⟨rfl, rfl⟩ := trodVars_none hV
  obtain ⟨a0, rfl, rfl, rfl, w0⟩ := open_int Try.underlying3 (hval 0 3 v0 rfl rfl) h0
  have k1 := h1
  have lt1 : ∀ x ∈ p1, x.block < W.heap.size := by obtain ⟨m, hm⟩ := k1; exact DataW.trod_lt m _ _ _ hm
  obtain ⟨a1, len1, cap1, rfl⟩ := okWide_slice Try.underlying61 (hval 1 61 v1 rfl rfl)
  clear hA0 hval0
  have hin : len1 ≤ 9223372036854775807 ∧ Bi.IntsAt W a1 len1 := by
    obtain ⟨fuel, hf⟩ := h1
    exact Bi.ints_in (by simpa [Value.cells] using hf)
  have hwalk : Calls Try.prog 5 #[.int .i64 a0, .slice a1 len1 cap1] W fun e w' => e = .returned (.bool true) ∧ Below W.heap.size W w' := room_walk a0 a1 len1 cap1 W hin.1 hin.2
  refine hwalk.mono fun e W' ⟨he, bel⟩ => ?_
  subst he
  exact ⟨_, rfl, _, _, _, [], _, [], hW', trodAll_mk1 (shut_bool Try.underlying4 _), (trodAll_cons_mk (shut_int Try.underlying3 w0) (trodAll_cons_mk (Below.trod laidOut (by kernel_rfl) (of_decide_eq_true (by kernel_rfl)) k1 bel lt1) trodAll_mk0)), rfl, bel.frame _, fun h => by cases h⟩

theorem room_holds : Rows.InodeRoomSaid :=
  OpenClaim.holds_of_wide 5 Try.f5 rfl rfl rfl rfl rfl rfl rfl ⟨rfl, rfl, rfl, rfl, rfl⟩ rfl rfl rfl rfl rfl (by kernel_rfl) Try.func5 (by kernel_rfl)
    (of_decide_eq_true (by kernel_rfl)) (by unfold Func.isWrapper; first | (rw [if_pos (by decide +kernel)]; kernel_rfl) | (rw [if_neg (by decide +kernel)]; exact ⟨rfl, rfl⟩))
    (fun os started H enc _ => room_lifted os started H enc)
#print axioms room_holds
end Go.Proofs.Ytinjllnoonbjmaa
