/- The reference of layer 15: Resize. -/
/- The reference of layer 15: Alloc, Free. -/
/- The reference of layer 15: Read. -/
/- The reference of layer 15: Write. -/
import Derived.Test.YtcaofdbcgdgbbaaGreatDoorPyAD
import Derived.Test.YtcaofdbcgdgbbaaGreatDoorLwAll
import Derived.BigQuiet
import Derived.Lib.MinMax
namespace Go.Proofs.YtcaofdbcgdgbbaaGreatDoor
open Go.RowKit
set_option linter.unusedVariables false

theorem rs_no (F : FS) (i s : Nat) (h2 : s ≤ 192) (h4 : roomB F i s = false) : rsR F i (s : Int) = 28 ∧ rsF F i (s : Int) = F := by
  unfold rsR rsF
  simp only [if_neg (show ¬ (s : Int) < 0 by omega), if_neg (show ¬ (192 : Int) < (s : Int) by omega), Int.toNat_natCast, h4]
  exact ⟨rfl, rfl⟩
theorem one_of {l : List Nat} (h : l.length = 1) : ∃ x, l = [x] := List.length_eq_one_iff.1 h
section
variable {w w' : World} {bx gx cap m : Nat} {vs : List Int} {F : FS}
theorem eresize_arg (i s : Int) (h : isI i = false ∨ s < 0) (w : World) :
    Calls Tryz.prog 57 #[ptr bx, .int .i64 i, .int .i64 s] w fun e w' => e = .returned (.int .i64 101) ∧ w' = w := by
  have hc : i < 0 ∨ (¬ i < 0 ∧ 32 ≤ i) ∨ (¬ i < 0 ∧ ¬ 32 ≤ i ∧ s < 0) := by
    rcases h with h | h
    · unfold isI at h
      simp at h
      omega
    · omega
  clear h
  rcases hc with h0 | ⟨h0, h1⟩ | ⟨h0, h1, h2⟩
  all_goals
    go_enter Tryz.func57, Tryz.ntmps57
    go_wp2
    go_ret
    exact ⟨rfl, rfl⟩
theorem eresize_big (i : Nat) (hi : i < 32) (s : Int) (h : 192 < s) (w : World) :
    Calls Tryz.prog 57 #[ptr bx, .int .i64 (i : Int), .int .i64 s] w fun e w' => e = .returned (.int .i64 27) ∧ w' = w := by
  have h0 : ¬ (i : Int) < 0 := by omega
  have h1 : ¬ (32 : Int) ≤ (i : Int) := by omega
  have h2 : ¬ s < 0 := by omega
  go_enter Tryz.func57, Tryz.ntmps57
  go_wp2
  go_ret
  exact ⟨rfl, rfl⟩
set_option maxHeartbeats 8000000 in
set_option maxRecDepth 100000 in
theorem eresize_in (h : Rk w bx gx cap F.n vs m) (hm : m ≤ 900000000000) (hH : Holds vs F) (hF : FInv F) (h64 : F.n ≤ 64) (i s : Nat) (hi : i < 32) (hu : Bi.bt F.iw i = true) (hs : s ≤ 192) :
    Calls Tryz.prog 57 #[ptr bx, .int .i64 (i : Int), .int .i64 (s : Int)] w fun e w' => e = .returned (.int .i64 (rsR F i (s : Int))) ∧ (∃ us, Rk w' bx gx cap F.n us (m + 500) ∧ Holds us (rsF F i (s : Int))) ∧ UpdP (fun k => k = bx ∨ k = gx) w w' := by
  have hn13 := hF.n1
  have hlt := h.lt
  have hrow := hH.row hF hi
  have h6 := hF.six hi
  have hlen := hF.len i hi
  have hmax := hF.max i hi
  have hG := eGet_at h (by omega) hn13 i hi (by rw [hrow]; exact hF.fit hi)
  rw [hrow, row_six h6] at hG
  obtain ⟨kd, hkd⟩ : ∃ x, x = (F.ino i).kind := ⟨_, rfl⟩
  obtain ⟨lk, hlk⟩ : ∃ x, x = (F.ino i).links := ⟨_, rfl⟩
  obtain ⟨tl, htl⟩ : ∃ x, x = (F.ino i).txt.length := ⟨_, rfl⟩
  obtain ⟨l, hl⟩ : ∃ x, x = (F.ino i).blk := ⟨_, rfl⟩
  obtain ⟨nd, hnd⟩ : ∃ x, x = need s := ⟨_, rfl⟩
  obtain ⟨ln, hln⟩ : ∃ x, x = need tl := ⟨_, rfl⟩
  have HQ : Hid (kd = (F.ino i).kind ∧ lk = (F.ino i).links ∧ tl = (F.ino i).txt.length ∧ l = (F.ino i).blk ∧ nd = need s ∧ ln = need tl ∧ ln = l.length) := ⟨hkd, hlk, htl, hl, hnd, hln, by rw [hln, hl, htl, hlen]⟩
  rw [← hkd, ← hlk, ← htl, ← hl] at hG
  have htl2 : tl ≤ 192 := by omega
  have hN1 := fun W => eneed_at s hs W
  have hN2 := fun W => eneed_at tl htl2 W
  rw [← hnd] at hN1
  rw [← hln] at hN2
  have hnd6 : nd ≤ 6 := by rw [hnd]; exact need_le hs
  have hln6 : ln ≤ 6 := by rw [hln]; exact need_le htl2
  have hwn : IntKind.i64.wrap ((nd : Nat) : Int) = (nd : Int) := Bi.wrap_small nd (by omega)
  obtain ⟨R, hR⟩ : ∃ R, R = irow (rowOf kd lk (tl : Int) (six (fun j => l.getD j 0))) := ⟨_, rfl⟩
  have HRs : Hid (R.size = 9) := by rw [hR]; show _ = _; rw [irow_size]; exact rowOf_len (six_len _) _ _ _
  have HRo : Hid (R.all (·.oneCell') = true) := by rw [hR]; exact irow_one _
  have HRq : Hid _ := hR
  rw [← hR] at hG
  have h0 : ¬ (i : Int) < 0 := by omega
  have h1 : ¬ (32 : Int) ≤ (i : Int) := by omega
  have h2 : ¬ (s : Int) < 0 := by omega
  have h3 : ¬ (192 : Int) < (s : Int) := by omega
  have hz := lit_zi
  have HK : Hid (Holds vs F ∧ FInv F ∧ Bi.bt F.iw i = true) := ⟨hH, hF, hu⟩
  clear h hH hF hu hrow h6 hlen hmax hkd hlk htl hl hnd hln hR
  go_enter Tryz.func57, Tryz.ntmps57
  go_wp2_with fail
  refine hG.mono ?_
  rintro e w1 ⟨rfl, hr1, hu1⟩
  obtain ⟨W2, hW2⟩ : ∃ W, W = w1.alloc (.cells R 88) := ⟨_, rfl⟩
  have hb2 : Below w1.heap.size w1 W2 := by rw [hW2]; exact below_alloc _ _
  obtain ⟨p, hp⟩ : ∃ p, p = w1.heap.size := ⟨_, rfl⟩
  have HP : Hid (W2.heap[p]? = some (.cells R 88)) := by rw [hW2, hp]; exact heap_alloc_new _ _
  have HW2 : Hid _ := hW2
  have Hp : Hid _ := hp
  have hB := eblocks_at (hr1.below hb2) (by omega) hn13 HK.out.1 HK.out.2.1 h64
  have HB2 : Hid (Below w1.heap.size w1 W2) := hb2
  have HU1 : Hid (Upd bx w w1) := hu1
  clear hG hr1 hu1 hW2 hb2 hp
  go_wp2_with (first
    | (refine wpList_store_row rfl 88 _ _ rfl w1.heap.size R rfl rfl 88 zi (heap_alloc_new _ _) (by rw [HRs.out]; exact inoSize) (by rw [HRs.out]; rfl) HRo.out ?_; rw [setRow_alloc_new, ← HW2.out, ← Hp.out])
    | fail)
  clear HW2 hz
  refine hB.mono ?_
  rintro e w3 ⟨c, rfl, ⟨hh, L, hrm⟩, hr3, hu3⟩
  have HZ : Hid (RzAt w w3 bx gx cap F.n vs (m + 2) p (rowOf kd lk (tl : Int) (six (fun j => l.getD j 0))) c hh L F.bw) := by
    have q1 := HU1.out.size
    have q2 := HB2.out.size
    have q3 := Hp.out
    refine ⟨hr3, ?_, RmMono hrm (by omega), ((HU1.out.p _ (Or.inl rfl)).trans (UpdP.of_below HB2.out)).trans (hu3.p _ (Or.inl rfl)), hlt.1, hlt.2.1, by omega⟩
    rw [← HRq.out]
    exact (hu3.block p (lt_of_heap HP.out) (by omega)).trans HP.out
  obtain ⟨cnt, hcnt⟩ : ∃ k, k = Bi.cntF (Bi.bt F.bw) F.n := ⟨_, rfl⟩
  have hL : ∀ q, Calls Tryz.prog 92 #[ptr c] (w3.drewN q) fun e w' => e = .returned (.int .i64 ((cnt : Nat) : Int)) ∧ w' = w3.drewN q := fun q => by
    rw [hcnt]
    exact Bi.rm_left (HZ.out.map.below (Di.drewN_below ⟨q, rfl⟩))
  have c2 := HZ.out.cell 2 (by rw [rowOf_len (six_len _)]; omega)
  have c2' : w3.cell? ⟨p, 2, none⟩ = some (.int .i64 (tl : Int)) := c2
  have HC : Hid (roomB F i s = decide (nd - ln ≤ cnt)) := by
    unfold roomB
    rw [hcnt, HQ.out.2.2.2.2.1, HQ.out.2.2.2.2.2.2, HQ.out.2.2.2.1]
    rfl
  clear hB hrm hr3 hu3 HU1 HB2 HP hcnt c2
  go_wp2_with fail
  go_quiet (first | (go_at_call 91; first | refine Calls.quiet_of_same (hN1 _) | refine Calls.quiet_of_same (hN2 _)) | (go_at_call 92; refine Calls.quiet_of_same (hL _)))
  obtain ⟨W4, hW4⟩ : ∃ W, W = w3.drewN nq := ⟨_, rfl⟩
  have HZ4 : Hid (RzAt w W4 bx gx cap F.n vs (m + 2) p (rowOf kd lk (tl : Int) (six (fun j => l.getD j 0))) c hh L F.bw) := by rw [hW4]; exact HZ.out.below (Di.drewN_below ⟨nq, rfl⟩)
  rw [← hW4]
  clear hL c2' hW4 HZ
  have c2 : W4.cell? ⟨p, 2, none⟩ = some (.int .i64 (tl : Int)) := HZ4.out.cell 2 (by rw [rowOf_len (six_len _)]; omega)
  by_cases hroom : nd - ln ≤ cnt
  · have hgt : ¬ (cnt : Int) < (nd : Int) - (ln : Int) := by omega
    have HR : Hid (roomB F i s = true) := by rw [HC.out]; exact decide_eq_true hroom
    clear HC hroom
    go_wp2_with fail
    refine (hN2 _).mono ?_
    rintro e w5 ⟨rfl, hw⟩
    rw [hw]
    clear hw w5 hgt
    obtain ⟨n, hn⟩ : ∃ n, n = F.n := ⟨_, rfl⟩
    obtain ⟨bw, hbw⟩ : ∃ n, n = F.bw := ⟨_, rfl⟩
    have HN : Hid (n = F.n ∧ bw = F.bw) := ⟨hn, hbw⟩
    rw [← hn] at HZ4 h64 hn13
    rw [← hbw] at HZ4
    have HL0 : Hid (L1P n l bw nd vs ln (six (fun j => l.getD j 0)) bw [] vs) := by rw [HQ.out.2.2.2.2.2.2]; exact L1P.start n l bw nd vs
    have HG : Hid (nd - l.length ≤ Bi.cntF (Bi.bt bw) n ∧ Bi.Wf n bw ∧ vs.length = n * 32) := by
      have q := HR.out
      unfold roomB at q
      rw [hn, hbw, HQ.out.2.2.2.2.1, HQ.out.2.2.2.1]
      exact ⟨of_decide_eq_true q, HK.out.2.1.bw, HK.out.1.len⟩
    clear hn hbw
    go_wp2_with fail
    go_loopw [10] (fun z wr => ∃ (k : Nat) (us : List Int) (bl bw' Z : List Nat) (L' : List Bool), z = .int .i64 k ∧ ln ≤ k ∧ k ≤ max nd ln ∧ RzAt w wr bx gx cap n us (m + 2 + k) p (rowOf kd lk (tl : Int) bl) c hh L' bw' ∧ Hid (L1P n l bw nd vs k bl bw' Z us)) (fun z _ => nd - (intOf z).toNat)
    case atStart => exact ⟨ln, vs, _, _, [], L, rfl, by omega, by omega, HZ4.out.mono (by omega), HL0.out⟩
    case round =>
      clear HZ4 HL0 c2
      obtain ⟨k, us, bl, bw', Z, L', rfl, hk1, hk2, hZ, HI⟩ := hrel
      by_cases hlt : k < nd
      · have hki : (k : Int) < (nd : Int) := by omega
        have hgl : l.length ≤ k := by rw [← HQ.out.2.2.2.2.2.2]; exact hk1
        have hrs := HI.out.rs hgl hlt
        obtain ⟨g1, g2, g3, g4, g5, g6⟩ := grow_ok (k := k - l.length) HG.out.2.1 (by have := HG.out.1; omega)
        obtain ⟨t1, t2, t3⟩ := hrs.take hlt hgl hnd6 g1
        have hlow : 0 < Bi.cntF (Bi.bt bw') n := by
          rw [t2]
          have := HG.out.1
          omega
        have hT := Bi.rm_take hZ.map (lowN (Bi.bt bw') n) (low_lowN hlow)
        have hbn := lowN_lt hlow
        have hbl6 := hrs.len
        have HZk : Hid _ := hZ
        have HI' : Hid (L1P n l bw nd vs (k + 1) (bl.set k (lowN (Bi.bt bw') n)) (Bi.mkW bw' (lowN (Bi.bt bw') n) true) (Z ++ [lowN (Bi.bt bw') n]) (splice us (lowN (Bi.bt bw') n * 32) (List.replicate 32 0))) := L1P.next (HI.out.1.snoc HG.out.2.2 hbn) t3 (by omega)
        generalize lowN (Bi.bt bw') n = b at *
        clear hrs hgl g1 g2 g3 g4 g5 g6 t1 t2 t3 hlow hZ HI
        go_wp2_with fail
        refine (hN1 _).mono ?_
        rintro e w5 ⟨rfl, hw⟩
        rw [hw]
        clear hw w5
        go_wp2_with fail
        refine hT.mono ?_
        rintro e w6 ⟨rfl, ⟨L2, hm6⟩, hu6⟩
        have hz6 := HZk.out.took hm6 hu6
        have c3 := hz6.cell (3 + k) (by rw [rowOf_len hbl6]; omega)
        have f3 := hz6.free (3 + k)
        have hz7 := hz6.set (3 + k) (b : Int)
        rw [rowOf_set hbl6 (by omega)] at hz7
        obtain ⟨W7, hW7⟩ : ∃ W, W = w6.setCell ⟨p, 3 + k, none⟩ (.int .i64 (b : Int)) := ⟨_, rfl⟩
        rw [← hW7] at hz7
        have HW7 : Hid _ := hW7
        have HZ8 : Hid _ := hz7
        have c8 : W7.cell? ⟨p, 3 + k, none⟩ = some (.int .i64 (b : Int)) := by
          have := hz7.cell (3 + k) (by rw [rowOf_len (by rw [List.length_set]; exact hbl6)]; omega)
          rw [rowOf_get (by rw [List.length_set]; exact hbl6) (by omega)] at this
          rw [this, List.getD_eq_getElem?_getD, List.getElem?_set_self (by omega)]
          rfl
        generalize (rowOf kd lk (tl : Int) bl).getD (3 + k) 0 = y at *
        have hk6 : (k : Int) < 6 := by omega
        clear hT hm6 hu6 hz6 hz7 hW7 HZk
        go_wp2_with fail
        rw [← HW7.out]
        clear HW7
        have hmk := make_row
        refine wp_region_held_drew (S := fun w' => w'.cell? ⟨p, 3 + k, none⟩ = some (.int .i64 (b : Int))) (by kernel_rfl) c8 (fun hHeld => ?_)
        refine wpAnyH_take (i := 0) (v := ?_) rfl (by kernel_rfl) (by kernel_rfl) (by kernel_rfl) (fun _ _ _ h => h) (Or.inl ⟨by kernel_rfl, ?_⟩) (by assumption) ?_
        rotate_left
        · (intro w hSw; (try dsimp only at hSw); go_simp) <;> with_reducible rfl
        (try simp only [Act.put, List.getElem_toArray, List.getElem_cons_zero, List.setIfInBounds_toArray, List.set_cons_zero, List.set_cons_succ])
        refine wpAnyH_take (i := 1) (v := ?_) rfl (by kernel_rfl) (by kernel_rfl) (by kernel_rfl) (fun _ _ _ h => h) (Or.inl ⟨by kernel_rfl, ?_⟩) (by assumption) ?_
        rotate_left
        · (intro w hSw; (try dsimp only at hSw); go_simp) <;> with_reducible rfl
        (try simp only [Act.put, List.getElem_toArray, List.getElem_cons_zero, List.getElem_cons_succ, List.setIfInBounds_toArray, List.set_cons_zero, List.set_cons_succ])
        refine wpAnyH_take (i := 2) (v := ?_) rfl (by kernel_rfl) (by kernel_rfl) (by kernel_rfl) (fun _ _ _ h => h) (Or.inl ⟨by kernel_rfl, ?_⟩) (by assumption) ?_
        rotate_left
        · (intro w hSw; (try dsimp only at hSw); go_simp) <;> with_reducible rfl
        (try simp only [Act.put, List.getElem_toArray, List.getElem_cons_zero, List.getElem_cons_succ, List.setIfInBounds_toArray, List.set_cons_zero, List.set_cons_succ])
        refine wpAnyH_take (i := 3) (v := ?_) rfl (by kernel_rfl) (by kernel_rfl) (by kernel_rfl) (fun _ _ _ h => h) (Or.inl ⟨by kernel_rfl, ?_⟩) (by assumption) ?_
        rotate_left
        · (intro w hSw; (try dsimp only at hSw); go_simp) <;> with_reducible rfl
        (try simp only [Act.put, List.getElem_toArray, List.getElem_cons_zero, List.getElem_cons_succ, List.setIfInBounds_toArray, List.set_cons_zero, List.set_cons_succ])
        refine wpAnyH_take (i := 4) (v := ?_) rfl (by kernel_rfl) (by kernel_rfl) (by kernel_rfl) (fun _ _ _ h => h) (Or.inl ⟨by kernel_rfl, ?_⟩) (by assumption) ?_
        rotate_left
        · (intro w hSw; (try dsimp only at hSw); go_simp) <;> with_reducible rfl
        (try simp only [Act.put, List.getElem_toArray, List.getElem_cons_zero, List.getElem_cons_succ, List.setIfInBounds_toArray, List.set_cons_zero, List.set_cons_succ])
        refine wpAnyH_ready (rs := [5]) (by kernel_rfl) (by simp) ?_
        refine AllReadyH.cons rfl (fun K hK => ?_) AllReadyH.nil
        go_simp
        obtain ⟨W9, hW9⟩ : ∃ W, W = (W7.alloc (.cells zc 120)).drew := ⟨_, rfl⟩
        have hb9 : Below W7.heap.size W7 W9 := by rw [hW9]; exact (below_alloc _ _).drew
        have hz9 := HZ8.out.below hb9
        have hP := eput_at hz9.rk (by omega) b hbn (show Rw W9 W7.heap.size 32 (List.replicate 32 0) by rw [hW9]; exact (rw_new W7).below (Di.drewN_below ⟨1, rfl⟩))
        have c9 : W9.cell? ⟨p, 3 + k, none⟩ = some (.int .i64 (b : Int)) := (hb9.cell (lt_of_heap HZ8.out.box)).trans c8
        have HZ9 : Hid _ := hz9
        rw [← hW9]
        clear hW9 hb9 hz9 HZ8 c8 c3 f3 hmk
        refine hK.out _ _ c9 (fun hHeld => ?_)
        clear hK K
        (try simp only [Act.put, List.getElem_toArray, List.getElem_cons_zero, List.getElem_cons_succ, List.setIfInBounds_toArray, List.set_cons_zero, List.set_cons_succ])
        refine wpAnyH_ready (rs := [6]) (by kernel_rfl) (by simp) ?_
        refine AllReadyH.cons rfl (fun K hK => ?_) AllReadyH.nil
        go_simp
        refine hP.mono ?_
        rintro e w10 ⟨rfl, hr10, hu10⟩
        have HZ10 : Hid (RzAt w w10 bx gx cap n (splice us (b * 32) (List.replicate 32 0)) (m + 2 + (k + 1)) p (rowOf kd lk (tl : Int) (bl.set k b)) c hh L2 (Bi.mkW bw' b true)) := HZ9.out.put hr10 hu10
        have c10 : w10.cell? ⟨p, 3 + k, none⟩ = some (.int .i64 (b : Int)) := by
          rw [← c9]
          exact World.cell?_of_block (hu10.block p (lt_of_heap HZ9.out.box) (by have := HZ9.out.lo; rintro (e | e) <;> omega))
        clear hP hr10 hu10 HZ9
        refine hK.out _ _ c10 (fun hHeld => ?_)
        clear hK K
        (try simp only [Act.put, List.getElem_toArray, List.getElem_cons_zero, List.getElem_cons_succ, List.setIfInBounds_toArray, List.set_cons_zero, List.set_cons_succ])
        refine wpAnyH_done (by kernel_rfl) ?_ _
        clear hHeld c9 c10
        go_wp2
        go_roundw
        case rel => exact ⟨k + 1, _, _, _, _, L2, by go_num, by omega, by omega, HZ10.out, HI'⟩
        case measure => simp [intOf]; omega
      · have hki : ¬ (k : Int) < (nd : Int) := by omega
        obtain ⟨z1, z2⟩ := HI.out.fin (by rw [← HQ.out.2.2.2.2.2.2]; exact hk1) (by rw [← HQ.out.2.2.2.2.2.2]; exact hk2) (by omega)
        have HZW : Hid _ := z1
        have HRS : Hid _ := z2
        have HZ1 : Hid (RzAt w wr bx gx cap n us (m + 20) p (rowOf kd lk (tl : Int) bl) c hh L' bw') := hZ.mono (by omega)
        have HD : Hid (∀ k, k < ln → l.getD k 0 < n) := fun k hk => by
          rw [HN.out.1, HQ.out.2.2.2.1]
          exact (HK.out.2.1.data i hi _ (getD_mem (by rw [← HQ.out.2.2.2.1, ← HQ.out.2.2.2.2.2.2]; exact hk))).2.1
        clear z1 z2 HI hZ hk1 hk2 hlt
        go_wp2_with fail
        refine (hN1 _).mono ?_
        rintro e w5 ⟨rfl, hw⟩
        rw [hw]
        clear hw w5
        go_wp2_with fail
        refine (hN1 _).mono ?_
        rintro e w5 ⟨rfl, hw⟩
        rw [hw]
        clear hw w5 hki
        go_wp2_with fail
        go_loopw [11] (fun z wr => ∃ (k : Nat) (bl bw' Z : List Nat) (L' : List Bool), z = .int .i64 k ∧ nd ≤ k ∧ k ≤ max nd ln ∧ RzAt w wr bx gx cap n us (m + 20) p (rowOf kd lk (tl : Int) bl) c hh L' bw' ∧ Hid (RS n l bw nd k bl bw' Z)) (fun z _ => ln - (intOf z).toNat)
        case atStart => exact ⟨nd, bl, bw', Z, L', rfl, by omega, by omega, HZ1.out, HRS⟩
        case round =>
          clear HZ1 HRS bl bw' Z L'
          obtain ⟨k, bl, bw', Z, L', rfl, hk1, hk2, hZ, HI⟩ := hrel
          have hbl6 := HI.out.len
          have c2 : wr.cell? ⟨p, 2, none⟩ = some (.int .i64 (tl : Int)) := hZ.cell 2 (by rw [rowOf_len hbl6]; omega)
          by_cases hlt : k < ln
          · have hki : (k : Int) < (ln : Int) := by omega
            obtain ⟨d1, d2⟩ := HI.out.drop hk1 (by rw [← HQ.out.2.2.2.2.2.2]; exact hlt) (by rw [← HQ.out.2.2.2.2.2.2]; exact hln6)
            have hbn := HD.out k hlt
            have c3 := hZ.cell (3 + k) (by rw [rowOf_len hbl6]; omega)
            rw [rowOf_get hbl6 (by omega), d1] at c3
            have hM := Bi.rm_mark hZ.map (l.getD k 0) hbn false
            have HI' : Hid _ := d2
            have HZk : Hid _ := hZ
            generalize l.getD k 0 = b at *
            have hk6 : k < 6 := by omega
            clear d1 d2 hZ HI
            go_wp2_with fail
            refine (hN2 _).mono ?_
            rintro e w5 ⟨rfl, hw⟩
            rw [hw]
            clear hw w5
            go_wp2_with fail
            refine hM.mono ?_
            rintro e w6 ⟨r6, rfl, ⟨L2, hm6⟩, hu6⟩
            have hz6 := HZk.out.took hm6 hu6
            have c6 := hz6.cell (3 + k) (by rw [rowOf_len hbl6]; omega)
            have f6 := hz6.free (3 + k)
            have hz7 := hz6.set (3 + k) ((0 : Nat) : Int)
            rw [rowOf_set hbl6 (by omega)] at hz7
            have HZ7 : Hid (RzAt w (w6.setCell ⟨p, 3 + k, none⟩ (.int .i64 0)) bx gx cap n us (m + 20) p (rowOf kd lk (tl : Int) (bl.set k 0)) c hh L2 (Bi.mkW bw' b false)) := hz7
            generalize (rowOf kd lk (tl : Int) bl).getD (3 + k) 0 = y at *
            clear hM hm6 hu6 hz6 hz7 HZk c2 c3
            go_wp2
            go_roundw
            case rel => exact ⟨k + 1, _, _, _, L2, by go_num, by omega, by omega, HZ7.out, HI'⟩
            case measure => simp [intOf]; omega
          · have hki : ¬ (k : Int) < (ln : Int) := by omega
            have hkm : k = max nd l.length := by rw [← HQ.out.2.2.2.2.2.2]; omega
            have hrs := HI.out
            rw [hkm] at hrs
            obtain ⟨b1, b2, b3⟩ := (hrs.fin hnd6 (by rw [← HQ.out.2.2.2.2.2.2]; exact hln6)).done hnd6 (by rw [← HQ.out.2.2.2.2.2.2]; exact hln6)
            have HBl : Hid (bl = six (fun j => (newBlk F i s).getD j 0)) := by
              rw [b1]
              unfold newBlk
              rw [HN.out.1, HN.out.2, HQ.out.2.2.2.2.1, HQ.out.2.2.2.1]
              exact rfl
            have HBw : Hid (bw' = newBw F i s) := by
              rw [b2]
              unfold newBw
              rw [HN.out.1, HN.out.2, HQ.out.2.2.2.2.1, HQ.out.2.2.2.1]
              exact rfl
            have HZ2 : Hid _ := hZ
            clear hrs hkm b1 b2 b3 HI hZ
            go_wp2_with fail
            refine (hN2 _).mono ?_
            rintro e w5 ⟨rfl, hw⟩
            rw [hw]
            clear hw w5 c2
            go_wp2_with fail
            clear hki hk1 hk2 hlt
            have HDb : Hid (∀ j, j < nd → (newBlk F i s).getD j 0 < n) := fun j hj => by
              have hG := HK.out.2.1.resize hi HK.out.2.2 hs HR.out
              have e0 : (resizeF F i s).ino i = ⟨(F.ino i).kind, (F.ino i).links, sized (F.ino i).txt s, newBlk F i s⟩ := FS.put_same _ _ _ _
              have hd := hG.data i hi
              rw [e0] at hd
              rw [HN.out.1]
              exact (hd _ (getD_mem (by rw [newBlk_len HK.out.2.1 hi HR.out, ← HQ.out.2.2.2.2.1]; exact hj))).2.1
            obtain ⟨kk, hkk⟩ : ∃ x, x = s / 32 := ⟨_, rfl⟩
            obtain ⟨r0, hr0⟩ : ∃ x, x = s % 32 := ⟨_, rfl⟩
            have HSr : Hid (kk = s / 32 ∧ r0 = s % 32 ∧ nd = (s + 31) / 32) := ⟨hkk, hr0, by rw [HQ.out.2.2.2.2.1]; rfl⟩
            obtain ⟨bs, hbs⟩ : ∃ x, x = (newBlk F i s).getD kk 0 := ⟨_, rfl⟩
            have HBs : Hid _ := hbs
            clear hkk hr0 hbs
            go_loopw [12] (fun z wr => ∃ (k j : Nat) (us' : List Int), z = .int .i64 k ∧ k = s + j ∧ s + j ≤ max s (min (nd * 32) tl) ∧ RzAt w wr bx gx cap n us' (m + 20 + 2 * j) p (rowOf kd lk (tl : Int) bl) c hh L' bw' ∧ Hid (CR n bs r0 j us us')) (fun z _ => 192 - (intOf z).toNat)
            case atStart => exact ⟨s, 0, us, rfl, by omega, by omega, HZ2.out, CR.refl _ _ _ _⟩
            case round =>
              clear HZ2
              obtain ⟨k, j, us', rfl, hkj, hk2, hZ, HI⟩ := hrel
              have HKj : Hid (k = s + j ∧ s + j ≤ max s (min (nd * 32) tl)) := ⟨hkj, hk2⟩
              have hj192 : j ≤ 192 := by omega
              have c2 : wr.cell? ⟨p, 2, none⟩ = some (.int .i64 (tl : Int)) := hZ.cell 2 (by rw [rowOf_len hbl6]; omega)
              by_cases hlt : k < nd * 32 ∧ k < tl
              · obtain ⟨hl1, hl2⟩ := hlt
                have hi1 : (k : Int) < (nd : Int) * 32 := by omega
                have hi2 : (k : Int) < (tl : Int) := by omega
                obtain ⟨e1, e2, e3⟩ := HSr.out
                have hkn : kk < nd := by omega
                have hk6 : kk < 6 := by omega
                have hki : (k : Int).tdiv 32 = (kk : Int) := by rw [Int.tdiv_eq_ediv_of_nonneg (by omega)]; omega
                obtain ⟨r, hr⟩ : ∃ x, x = r0 + j := ⟨_, rfl⟩
                have hr32 : r < 32 := by omega
                have hri : (k : Int).tmod 32 = (r : Int) := by rw [Int.tmod_eq_emod_of_nonneg (by omega)]; omega
                have hbn : bs < n := by rw [HBs.out]; exact HDb.out kk hkn
                have c3 := hZ.cell (3 + kk) (by rw [rowOf_len hbl6]; omega)
                rw [rowOf_get hbl6 hk6, HBl.out, six_get _ hk6, ← HBs.out] at c3
                have hE := eget_at hZ.rk (by omega) bs hbn
                have HZk : Hid _ := hZ
                have HI' : Hid (CR n bs r0 (j + 1) us (splice us' (bs * 32) ((frameOf us' bs).set r 0))) := by rw [hr]; exact HI.out.step (HZW.out.len.trans HG.out.2.2) hbn (by omega)
                have hwk : IntKind.i64.wrap ((kk : Nat) : Int) = (kk : Int) := Bi.wrap_small kk (by omega)
                have hwr : IntKind.i64.wrap ((r : Nat) : Int) = (r : Int) := Bi.wrap_small r (by omega)
                have HLk : Hid (k < nd * 32 ∧ k < tl) := ⟨hl1, hl2⟩
                have hk192 : k < 192 := by omega
                clear e1 e2 e3 hZ HI hr hkj hk2
                go_wp2_with fail
                refine (hN1 _).mono ?_
                rintro e w5 ⟨rfl, hw⟩
                rw [hw]
                clear hw w5
                go_wp2_with fail
                refine hE.mono ?_
                rintro e w6 ⟨g, cg, rfl, ⟨hg, hrw, gt, pt, hru, hg1, hg2⟩, hu6⟩
                have c6 := hrw.cell (j := r) hr32
                have f6 := hrw.free (j := r)
                have hr7 := hrw.set (j := r) (x := 0)
                have hu7 := Upd.setCell g r w6 (.int .u64 0)
                have hru7 := (hru.upd hu7 hg hu6.size).ref
                have hP := eput_at (m := m + 20 + 2 * j + 1) ⟨gt, pt, hru7, hg1, hg2⟩ (by omega) bs hbn hr7
                have HU6 : Hid (UpdP (fun k => k = bx ∨ k = gx) wr (w6.setCell ⟨g, r, none⟩ (.int .u64 0))) := ⟨hu7.os.trans hu6.os, hu7.tape.trans hu6.tape, hu7.output.trans hu6.output, Nat.le_trans hu6.size hu7.size, fun k hk hne => (hu7.block k (Nat.lt_of_lt_of_le hk hu6.size) (Nat.ne_of_lt (Nat.lt_of_lt_of_le hk hg))).trans (hu6.block k hk (fun e => hne (Or.inl e)))⟩
                generalize (frameOf us' bs).getD r 0 = y at *
                clear hE hg hrw hru hg1 hg2 hu6 hr7 hu7 hru7 c3 c2
                go_wp2_with fail
                refine hP.mono ?_
                rintro e w8 ⟨rfl, hr8, hu8⟩
                have HZ8 : Hid (RzAt w w8 bx gx cap n (splice us' (bs * 32) ((frameOf us' bs).set r 0)) (m + 20 + 2 * (j + 1)) p (rowOf kd lk (tl : Int) bl) c hh L' bw') := HZk.out.put (hr8.mono (by omega)) (HU6.out.trans hu8)
                clear hP hr8 hu8 c6 f6 HU6 HZk
                go_wp2
                go_roundw
                case rel => exact ⟨k + 1, j + 1, _, by go_num, by have := HKj.out; omega, by have := HKj.out; have := HLk.out; omega, HZ8.out, HI'⟩
                case measure => simp [intOf]; omega
              · have hend : (k < nd * 32 ∧ ¬ k < tl) ∨ ¬ k < nd * 32 := by omega
                clear hlt
                have hj : s + j = max s (min (nd * 32) tl) := by omega
                have HRZ : Hid (RZ F i s vs us') := by
                  refine rz_ref HK.out.2.1 HK.out.1 hi HK.out.2.2 hs HR.out (u1 := us) (j := j) ?_ ?_ ?_
                  · have q := HZW.out
                    rwa [HN.out.1, HN.out.2, HQ.out.2.2.2.2.1, HQ.out.2.2.2.1] at q
                  · rw [hj, HQ.out.2.2.2.2.1, HQ.out.2.2.1]
                  · have q := HI.out
                    rwa [HN.out.1, HBs.out, HSr.out.1, HSr.out.2.1] at q
                obtain ⟨x, hx⟩ : ∃ x, newBw F i s = [x] := by
                  have q := (HK.out.2.1.resize hi HK.out.2.2 hs HR.out).bw.len
                  have e : (resizeF F i s).bw = newBw F i s := rfl
                  have e2 : (resizeF F i s).n = F.n := rfl
                  rw [e, e2, ← HN.out.1] at q
                  exact one_of (by omega)
                have f2 := hZ.free 2
                have hz3 := hZ.set 2 (s : Int)
                have e3 : (rowOf kd lk (tl : Int) bl).set 2 (s : Int) = rowOf kd lk (s : Int) bl := rfl
                rw [e3, HBw.out, hx] at hz3
                have hKp := ekeep_at hz3.rk (by omega) hn13 3 (by omega) hz3.map hz3.lo.1
                have HZ3 : Hid _ := hz3
                have HX : Hid _ := hx
                clear hj hZ hz3 e3 hx HI hkj hk2
                rcases hend with ⟨g1, g2⟩ | g1
                all_goals
                  go_wp2_with fail
                  refine (hN1 _).mono ?_
                  rintro e w5 ⟨rfl, hw⟩
                  rw [hw]
                  clear hw w5
                  go_wp2_with fail
                  refine hKp.mono ?_
                  rintro e w6 ⟨rfl, hr6, hu6⟩
                  have hz6 := HZ3.out.put hr6 hu6
                  obtain ⟨R2, hR2⟩ : ∃ R, R = irow (rowOf kd lk (s : Int) bl) := ⟨_, rfl⟩
                  have HBx : Hid (w6.heap[p]? = some (.cells R2 88)) := by rw [hR2]; exact hz6.box
                  have HR2s : Hid (R2.size = 9) := by rw [hR2]; show _ = _; rw [irow_size]; exact rowOf_len hbl6 _ _ _
                  have hI := ePut_at hz6.rk (by omega) hn13 i hi (rowOf kd lk (s : Int) bl) (rowOf_len hbl6 _ _ _) (by rw [HQ.out.1, HQ.out.2.1, HBl.out]; exact fit_new HK.out.2.1 hi HK.out.2.2 hs HR.out)
                  rw [← hR2] at hI
                  have HU6 : Hid _ := hz6.upd
                  clear hKp hr6 hu6 hz6 hR2 f2 c2
                  go_wp2_with (first
                    | (refine wpList_load_row rfl 88 _ rfl p rfl 88 R2 (0, 0) _ HBx.out Tryz.underlying88 rfl (by rw [HR2s.out]; exact inoSize) ?_)
                    | fail)
                  refine hI.mono ?_
                  rintro e w7 ⟨rfl, hr7, hu7⟩
                  have HE : Hid ((∃ us, Rk w7 bx gx cap F.n us (m + 500) ∧ Holds us (rsF F i (s : Int))) ∧ UpdP (fun k => k = bx ∨ k = gx) w w7) := by
                    refine ⟨⟨putW (splice us' 0 (hdW F.n F.iw (newBw F i s))) i (rowOf (F.ino i).kind (F.ino i).links (s : Int) (six (fun j => (newBlk F i s).getD j 0))), ?_, ?_⟩, HU6.out.trans hu7⟩
                    · have q0 : frameOf us' 0 = F.head := (HRZ.out.low HK.out.2.1 hi HK.out.2.2 hs HR.out 0 (by omega)).trans HK.out.1.head
                      have q1 : (frameOf us' 0).set 3 ((x : Nat) : Int) = hdW F.n F.iw (newBw F i s) := by
                        rw [q0, HX.out]
                        exact head_set_bw HK.out.2.1 (by rw [← HN.out.1]; exact h64) x
                      have q2 := hr7
                      rw [q1, HQ.out.1, HQ.out.2.1, HBl.out, HN.out.1] at q2
                      exact q2.mono (by have := HKj.out; have := hnd6; omega)
                    · rw [(rs_yes F i s hs HR.out).2]
                      exact resize_holds HK.out.2.1 HK.out.1 hi HK.out.2.2 hs HR.out HRZ.out
                  have HE0 : Hid (rsR F i (s : Int) = 0) := (rs_yes F i s hs HR.out).1
                  clear hI hr7 hu7
                  go_wp2
                  go_ret
                  refine ⟨?_, HE.out.1, HE.out.2⟩
                  rw [HE0.out]
                  rfl
  · have hgt : (cnt : Int) < (nd : Int) - (ln : Int) := by omega
    have HR : Hid (roomB F i s = false) := by rw [HC.out]; exact decide_eq_false hroom
    have HE : Hid (Rk W4 bx gx cap F.n vs (m + 500) ∧ UpdP (fun k => k = bx ∨ k = gx) w W4) := ⟨HZ4.out.rk.mono (by omega), HZ4.out.upd⟩
    clear HC hroom HZ4
    go_wp2
    go_ret
    obtain ⟨q1, q2⟩ := rs_no F i s hs HR.out
    refine ⟨?_, ⟨vs, HE.out.1, ?_⟩, HE.out.2⟩
    · rw [q1]; rfl
    · rw [q2]; exact HK.out.1
end
end Go.Proofs.YtcaofdbcgdgbbaaGreatDoor

namespace Go.Proofs.YtcaofdbcgdgbbaaGreatDoor
open Go.RowKit
set_option linter.unusedVariables false

section
variable {w w' : World} {bx gx cap m : Nat} {vs : List Int} {F : FS}
set_option maxHeartbeats 2000000 in
theorem ealloc_at (h : Rk w bx gx cap F.n vs m) (hm : m ≤ 900000000000) (hH : Holds vs F) (hF : FInv F) (kind : Int) (hk : Fit kind) :
    Calls Tryz.prog 15 #[ptr bx, .int .i64 kind] w fun e w' => e = .returned (.tuple #[.int .i64 (alI F), .int .i64 (alR F)]) ∧ (∃ us, Rk w' bx gx cap F.n us (m + 500) ∧ Holds us (alF F kind)) ∧ UpdP (fun k => k = bx ∨ k = gx) w w' := by
  have hn13 := hF.n1
  have hlt := h.lt
  have hA := einodes_at h (by omega) hn13 hH hF
  have HK : Hid (Holds vs F ∧ FInv F ∧ Fit kind) := ⟨hH, hF, hk⟩
  clear h hH hF hk
  by_cases hr : alN F < 32
  · obtain ⟨hit1, hit2⟩ := lowN_hit hr
    have hLow : Bi.Low (Bi.bt F.iw) 32 ((alN F : Nat) : Int) := Or.inl ⟨_, rfl, hr, hit2, hit1⟩
    have HF' : Hid (alI F = (alN F : Int) ∧ alR F = 0 ∧ alF F kind = allocF F (alN F) kind) := by
      unfold alI alR alF
      rw [if_pos hr, if_pos hr, if_pos hr]
      exact ⟨rfl, rfl, rfl⟩
    obtain ⟨r, hrq⟩ : ∃ r, r = alN F := ⟨_, rfl⟩
    rw [← hrq] at hLow hr HF'
    obtain ⟨x, hx⟩ := one_of (l := Bi.mkW F.iw r true) (by have := (HK.out.2.1.iw.mark hr true).len; omega)
    have HX : Hid _ := hx
    clear hit1 hit2 hrq
    go_enter Tryz.func15, Tryz.ntmps15
    go_wp2_with fail
    refine hA.mono ?_
    rintro e w1 ⟨c, rfl, ⟨hh, L, hrm⟩, hr1, hu1⟩
    have hT := Bi.rm_take hrm r hLow
    have HM : Hid _ := hrm
    have HR1 : Hid (Rk w1 bx gx cap F.n vs (m + 1)) := hr1
    have HU1 : Hid (Upd bx w w1) := hu1
    clear hA hrm hr1 hu1
    go_wp2_with fail
    refine hT.mono ?_
    rintro e w2 ⟨rfl, ⟨L2, hm2⟩, hu2⟩
    have hr2 := HR1.out.bools hu2 HM.out.at_.bl
    rw [hx] at hm2
    have hKp := ekeep_at hr2 (by omega) hn13 2 (by omega) hm2 hlt.1
    have HU2 : Hid (UpdP (fun k => k = bx ∨ k = gx) w w2) := ⟨hu2.os.trans HU1.out.os, hu2.tape.trans HU1.out.tape, hu2.output.trans HU1.out.output, Nat.le_trans HU1.out.size hu2.size, fun k hk hn => (hu2.block k (Nat.lt_of_lt_of_le hk HU1.out.size) (by have := HM.out.lo.2; omega)).trans (HU1.out.block k hk (fun e => hn (Or.inl e)))⟩
    have hr0 : ¬ (r : Int) < 0 := by omega
    clear hT hm2 hu2 hr2 HM HR1 HU1 hx
    go_wp2_with fail
    refine hKp.mono ?_
    rintro e w3 ⟨rfl, hr3, hu3⟩
    have hI := ePut_at hr3 (by omega) hn13 r hr [kind, 0, 0, 0, 0, 0, 0, 0, 0] rfl (by
      intro y hy
      simp only [List.mem_cons, List.not_mem_nil, or_false] at hy
      rcases hy with rfl | rfl | rfl | rfl | rfl | rfl | rfl | rfl | rfl
      · exact HK.out.2.2
      all_goals exact ⟨by omega, by omega⟩)
    have hirow : irow [kind, 0, 0, 0, 0, 0, 0, 0, 0] = #[.int .i64 kind, .int .i64 0, .int .i64 0, .int .i64 0, .int .i64 0, .int .i64 0, .int .i64 0, .int .i64 0, .int .i64 0] := rfl
    rw [hirow] at hI
    have HU3 : Hid _ := HU2.out.trans hu3
    clear hKp hr3 hu3 hirow
    go_wp2_with fail
    refine hI.mono ?_
    rintro e w4 ⟨rfl, hr4, hu4⟩
    have HE : Hid ((∃ us, Rk w4 bx gx cap F.n us (m + 500) ∧ Holds us (alF F kind)) ∧ UpdP (fun k => k = bx ∨ k = gx) w w4) := by
      refine ⟨⟨_, hr4.mono (by omega), ?_⟩, HU3.out.trans hu4⟩
      have hb1 : F.bw.length ≤ 29 := by have := HK.out.2.1.bw.len; have := HK.out.2.1.n2; omega
      have hq := holds_close (x := ⟨kind, 0, [], []⟩) (iw := Bi.mkW F.iw r true) (bw := F.bw) (u := vs) HK.out.1 HK.out.2.1 hr (by simp) (by rw [HX.out]; rfl) hb1 rfl (fun _ _ => rfl) (fun k b hb => by simp at hb) (fun _ _ _ _ _ => rfl)
      rw [HF'.out.2.2, put2_alloc, HK.out.1.head, head_set_iw HK.out.2.1 x]
      rw [HX.out] at hq ⊢
      exact hq
    clear hI hr4 hu4
    go_wp2
    go_ret2
    refine ⟨?_, HE.out.1, HE.out.2⟩
    rw [HF'.out.1, HF'.out.2.1]
    rfl
  · have hall : ∀ j, j < 32 → Bi.bt F.iw j = true := lowN_none (by have := lowN_le (Bi.bt F.iw) 32; unfold alN at hr; omega)
    have HF' : Hid (alI F = 0 ∧ alR F = 28 ∧ alF F kind = F) := by
      unfold alI alR alF
      rw [if_neg hr, if_neg hr, if_neg hr]
      exact ⟨rfl, rfl, rfl⟩
    have HA : Hid _ := hall
    clear hall
    go_enter Tryz.func15, Tryz.ntmps15
    go_wp2_with fail
    refine hA.mono ?_
    rintro e w1 ⟨c, rfl, ⟨hh, L, hrm⟩, hr1, hu1⟩
    have hT := Bi.rm_none hrm HA.out
    have HM : Hid _ := hrm
    have HR1 : Hid (Rk w1 bx gx cap F.n vs (m + 1)) := hr1
    have HU1 : Hid (Upd bx w w1) := hu1
    clear hA hrm hr1 hu1
    go_wp2_with fail
    refine hT.mono ?_
    rintro e w2 ⟨rfl, hm2, hu2⟩
    have HE : Hid (Rk w2 bx gx cap F.n vs (m + 500) ∧ UpdP (fun k => k = bx ∨ k = gx) w w2) := ⟨(HR1.out.bools hu2 HM.out.at_.bl).mono (by omega), ⟨hu2.os.trans HU1.out.os, hu2.tape.trans HU1.out.tape, hu2.output.trans HU1.out.output, Nat.le_trans HU1.out.size hu2.size, fun k hk hn => (hu2.block k (Nat.lt_of_lt_of_le hk HU1.out.size) (by have := HM.out.lo.2; omega)).trans (HU1.out.block k hk (fun e => hn (Or.inl e)))⟩⟩
    clear hT hm2 hu2
    go_wp2
    go_ret2
    refine ⟨?_, ⟨vs, HE.out.1, ?_⟩, HE.out.2⟩
    · rw [HF'.out.1, HF'.out.2.1]
      rfl
    · rw [HF'.out.2.2]
      exact HK.out.1
theorem room_zero (F : FS) (i : Nat) : roomB F i 0 = true := by unfold roomB need; simp
theorem free_put2 (F : FS) (i : Nat) : freeF F i = (resizeF F i 0).put2 i Ino.no (Bi.mkW F.iw i false) (newBw F i 0) := by
  rw [put2_free]
  unfold FS.put2 resizeF FS.put
  congr 1
  funext j
  by_cases e : j = i
  · rw [if_pos e, if_pos e]
  · rw [if_neg e, if_neg e]
    exact (if_neg e).symm
end
end Go.Proofs.YtcaofdbcgdgbbaaGreatDoor

namespace Go.Proofs.YtcaofdbcgdgbbaaGreatDoor
open Go.RowKit Go.Lib
set_option linter.unusedVariables false

/-- The reference's disk, an inode in its box. -/
structure RdAt (w wr : World) (bx gx cap n : Nat) (us : List Int) (m p : Nat) (row : List Int) : Prop where
  rk : Rk wr bx gx cap n us m
  box : wr.heap[p]? = some (.cells (irow row) 88)
  upd : UpdP (fun k => k = bx ∨ k = gx) w wr
  lo : bx < w.heap.size ∧ gx < w.heap.size ∧ w.heap.size ≤ p
section
variable {w wr w' : World} {bx gx cap n m p : Nat} {us row : List Int}
theorem RdAt.below (h : RdAt w wr bx gx cap n us m p row) (hb : Below wr.heap.size wr w') : RdAt w w' bx gx cap n us m p row :=
  ⟨h.rk.below hb, (hb.block p (lt_of_heap h.box)).trans h.box, h.upd.trans (UpdP.of_below hb), h.lo⟩
theorem RdAt.mono {m' : Nat} (h : RdAt w wr bx gx cap n us m p row) (hm : m ≤ m') : RdAt w wr bx gx cap n us m' p row := ⟨h.rk.mono hm, h.box, h.upd, h.lo⟩
theorem RdAt.put {us' : List Int} {m' : Nat} (h : RdAt w wr bx gx cap n us m p row) (hr : Rk w' bx gx cap n us' m') (hu : UpdP (fun k => k = bx ∨ k = gx) wr w') : RdAt w w' bx gx cap n us' m' p row := by
  have hl := h.lo
  exact ⟨hr, (hu.block p (lt_of_heap h.box) (by rintro (e | e) <;> omega)).trans h.box, h.upd.trans hu, hl⟩
theorem RdAt.cell (h : RdAt w wr bx gx cap n us m p row) (j : Nat) (hj : j < row.length) : wr.cell? ⟨p, j, none⟩ = some (.int .i64 (row.getD j 0)) := by
  rw [cell_of_heap h.box]
  exact irow_get _ _ hj
theorem RdAt.setRow (h : RdAt w wr bx gx cap n us m p row) (row' : List Int) : RdAt w (wr.setRow p (irow row')) bx gx cap n us m p row' := by
  have hu := Upd.setRow p wr (irow row')
  have hl := h.lo
  have h1 := h.upd.size
  exact ⟨h.rk.other hu h.box (by decide), setRow_heap wr p _ _ _ _ h.box, ⟨hu.os.trans h.upd.os, hu.tape.trans h.upd.tape, hu.output.trans h.upd.output, Nat.le_trans h1 hu.size, fun k hk hn => (hu.block k (by omega) (by omega)).trans (h.upd.block k hk hn)⟩, hl⟩
/-- .. behind an append to a slice of bytes. -/
theorem RdAt.grown {v : Value} {B k : Nat} {xs : List Value} (h : RdAt w wr bx gx cap n us m p row) (ho : wr.ownsRow B 5 1 v k xs) (hB : w.heap.size ≤ B) (hg : wr.grownBy w' v.ownBlock) : RdAt w w' bx gx cap n us m p row := by
  cases e : v.ownBlock with
  | none =>
    have hb : Below wr.heap.size wr w' := ⟨hg.os, hg.tape, hg.output, hg.size, fun k hk => hg.block k hk (by rw [e]; simp)⟩
    exact h.below hb
  | some g =>
    obtain ⟨hb, cs, hh⟩ := own_type ho e
    have hu : Upd g wr w' := ⟨hg.os, hg.tape, hg.output, hg.size, fun k hk hne => hg.block k hk (by rw [e]; simpa using hne)⟩
    have h1 := h.upd.size
    refine ⟨h.rk.other hu hh (by decide), (hu.block p (lt_of_heap h.box) (fun q => ?_)).trans h.box, ⟨hu.os.trans h.upd.os, hu.tape.trans h.upd.tape, hu.output.trans h.upd.output, Nat.le_trans h1 hu.size, fun k hk hn => (hu.block k (by omega) (by omega)).trans (h.upd.block k hk hn)⟩, h.lo⟩
    have a := h.box
    rw [q, hh] at a
    simp only [Option.some.injEq, Obj.cells.injEq] at a
    exact absurd a.2.1 (by decide)
end
section
variable {w w' : World} {bx gx cap m : Nat} {vs : List Int} {F : FS}
theorem eread_arg (i o n : Int) (h : isI i = false ∨ o < 0 ∨ n < 0) (w : World) :
    Calls Tryz.prog 56 #[ptr bx, .int .i64 i, .int .i64 o, .int .i64 n] w fun e w' => e = .returned (.tuple #[tx [], .int .i64 101]) ∧ w' = w := by
  have hc : i < 0 ∨ (¬ i < 0 ∧ 32 ≤ i) ∨ (¬ i < 0 ∧ ¬ 32 ≤ i ∧ o < 0) ∨ (¬ i < 0 ∧ ¬ 32 ≤ i ∧ ¬ o < 0 ∧ n < 0) := by
    rcases h with h | h | h
    · unfold isI at h
      simp at h
      omega
    · omega
    · omega
  clear h
  rcases hc with h0 | ⟨h0, h1⟩ | ⟨h0, h1, h2⟩ | ⟨h0, h1, h2, h3⟩
  all_goals
    go_enter Tryz.func56, Tryz.ntmps56
    go_wp2
    go_ret2
    exact ⟨rfl, rfl⟩
set_option maxHeartbeats 4000000 in
set_option maxRecDepth 100000 in
theorem eread_in (h : Rk w bx gx cap F.n vs m) (hm : m ≤ 890000000000) (hH : Holds vs F) (hF : FInv F) (i o n : Nat) (hi : i < 32) (ho : o < 9223372036854775808) (hn : n < 9223372036854775808) :
    Calls Tryz.prog 56 #[ptr bx, .int .i64 (i : Int), .int .i64 (o : Int), .int .i64 (n : Int)] w fun e w' => e = .returned (.tuple #[tx (readT F i o n), .int .i64 0]) ∧ Rk w' bx gx cap F.n vs (m + 500) ∧ UpdP (fun k => k = bx ∨ k = gx) w w' := by
  have hn13 := hF.n1
  have hlt := h.lt
  have hrow := hH.row hF hi
  have h6 := hF.six hi
  have hlen := hF.len i hi
  have hG := eGet_at h (by omega) hn13 i hi (by rw [hrow]; exact hF.fit hi)
  rw [hrow, row_six h6] at hG
  unfold readT
  obtain ⟨t, ht⟩ : ∃ x, x = (F.ino i).txt := ⟨_, rfl⟩
  obtain ⟨tl, htl⟩ : ∃ x, x = t.length := ⟨_, rfl⟩
  obtain ⟨row, hrw⟩ : ∃ x, x = rowOf (F.ino i).kind (F.ino i).links ((F.ino i).txt.length : Int) (six (fun j => (F.ino i).blk.getD j 0)) := ⟨_, rfl⟩
  have HTl : Hid (tl = t.length) := htl
  have htl2 : tl ≤ 192 := by rw [htl, ht]; exact hF.max i hi
  have HBy : Hid (∀ p, p < t.length → 0 ≤ t.getD p 0 ∧ t.getD p 0 < 256) := fun p hp => by
    refine hF.byte i hi _ ?_
    rw [← ht, List.getD_eq_getElem?_getD, List.getElem?_eq_getElem hp]
    exact List.getElem_mem hp
  have HBlk : Hid (∀ k, k < t.length → ∃ b, b < F.n ∧ row.getD (3 + k / 32) 0 = ((b : Nat) : Int) ∧ (frameOf vs b).getD (k % 32) 0 = t.getD k 0) := fun k hk => by
    obtain ⟨b, b1, b2, b3, b4⟩ := hH.byte hF hi (p := k) (by rw [← ht]; exact hk)
    have hkl := (List.getElem?_eq_some_iff.1 b1).1
    refine ⟨b, b3, ?_, by rw [b4, ht]⟩
    rw [hrw, rowOf_get (six_len _) (by omega), six_get _ (by omega), List.getD_eq_getElem?_getD, b1]
    rfl
  have HRl : Hid (row.length = 9) := by rw [hrw]; exact rowOf_len (six_len _) _ _ _
  have HC2 : Hid (row.getD 2 0 = (tl : Int)) := by rw [hrw, htl, ht]; rfl
  rw [← hrw] at hG
  rw [← ht]
  obtain ⟨R, hR⟩ : ∃ R, R = irow row := ⟨_, rfl⟩
  have HRs : Hid (R.size = 9) := by rw [hR]; show _ = _; rw [irow_size]; exact HRl.out
  have HRo : Hid (R.all (·.oneCell') = true) := by rw [hR]; exact irow_one _
  have HRq : Hid _ := hR
  rw [← hR] at hG
  have h0 : ¬ (i : Int) < 0 := by omega
  have h1 : ¬ (32 : Int) ≤ (i : Int) := by omega
  have h2 : ¬ (o : Int) < 0 := by omega
  have h3 : ¬ (n : Int) < 0 := by omega
  have hz := lit_zi
  obtain ⟨i0, hi0, hzz⟩ := Option.map_eq_some_iff.1 byteInfo
  simp only [Prod.mk.injEq] at hzz
  obtain ⟨hz0, hz1, hz2⟩ := hzz
  clear h hH hF hrow h6 hlen ht htl hrw hR
  go_enter Tryz.func56, Tryz.ntmps56
  go_wp2_with fail
  refine hG.mono ?_
  rintro e w1 ⟨rfl, hr1, hu1⟩
  obtain ⟨W2, hW2⟩ : ∃ W, W = w1.alloc (.cells R 88) := ⟨_, rfl⟩
  have hb2 : Below w1.heap.size w1 W2 := by rw [hW2]; exact below_alloc _ _
  obtain ⟨p, hp⟩ : ∃ p, p = w1.heap.size := ⟨_, rfl⟩
  have HZ : Hid (RdAt w W2 bx gx cap F.n vs (m + 1 + 0) p row) := ⟨hr1.below hb2, by rw [← HRq.out, hW2, hp]; exact heap_alloc_new _ _, (hu1.p _ (Or.inl rfl)).trans (UpdP.of_below hb2), hlt.1, hlt.2.1, by rw [hp]; exact hu1.size⟩
  have HW2 : Hid _ := hW2
  have Hp : Hid _ := hp
  clear hG hr1 hu1 hW2 hb2 hp
  go_wp2_with (first
    | (refine wpList_store_row rfl 88 _ _ rfl w1.heap.size R rfl rfl 88 zi (heap_alloc_new _ _) (by rw [HRs.out]; exact inoSize) (by rw [HRs.out]; rfl) HRo.out ?_; rw [setRow_alloc_new, ← HW2.out, ← Hp.out])
    | fail)
  clear HW2 hz Hp
  obtain ⟨B, hB⟩ : ∃ B, B = w.heap.size := ⟨_, rfl⟩
  have HBq : Hid (B = w.heap.size) := hB
  clear hB
  go_loopw [12, 13] (fun v s wr => ∃ (j k : Nat), s = .int .i64 k ∧ (∃ u, u = v ∧ Text wr B u (cutB t o j)) ∧ RdAt w wr bx gx cap F.n vs (m + 1 + j) p row ∧ Hid (k = o + j ∧ j ≤ n ∧ (j = 0 ∨ o + j ≤ t.length))) (fun _ s _ => 192 - (intOf s).toNat)
  case atStart => exact ⟨0, o, rfl, ⟨_, rfl, Text.nil _ _⟩, HZ.out, by omega, by omega, Or.inl rfl⟩
  case round =>
    clear HZ
    obtain ⟨j, k, rfl, ⟨v, rfl, htx⟩, hZ, HI⟩ := hrel
    have hcl : (cutB t o j).length = j := by
      rcases HI.out.2.2 with e | e
      · rw [e]; rfl
      · exact cutB_len e
    obtain ⟨va, vc, rfl⟩ := own_slice htx
    have htx0 := htx
    rw [hcl] at htx ⊢
    have c2 := hZ.cell 2 (by rw [HRl.out]; omega)
    rw [HC2.out] at c2
    have hcv := htx0.string
    rw [hcl] at hcv
    by_cases hlt : k < tl ∧ j < n
    · obtain ⟨hl1, hl2⟩ := hlt
      have hli1 : (k : Int) < (tl : Int) := by omega
      have hli2 : (j : Int) < (n : Int) := by omega
      obtain ⟨b, hb1, hb2, hb3⟩ := HBlk.out k (by rw [← HTl.out]; exact hl1)
      have hx := HBy.out k (by rw [← HTl.out]; exact hl1)
      obtain ⟨kk, hkk⟩ : ∃ x, x = k / 32 := ⟨_, rfl⟩
      obtain ⟨r, hr⟩ : ∃ x, x = k % 32 := ⟨_, rfl⟩
      have hki : (k : Int).tdiv 32 = (kk : Int) := by rw [Int.tdiv_eq_ediv_of_nonneg (by omega)]; omega
      have hri : (k : Int).tmod 32 = (r : Int) := by rw [Int.tmod_eq_emod_of_nonneg (by omega)]; omega
      have hk6 : kk < 6 := by omega
      have hr32 : r < 32 := by omega
      have hwk : IntKind.i64.wrap ((kk : Nat) : Int) = (kk : Int) := Bi.wrap_small kk (by omega)
      have hwr : IntKind.i64.wrap ((r : Nat) : Int) = (r : Int) := Bi.wrap_small r (by omega)
      have c3 := hZ.cell (3 + kk) (by rw [HRl.out]; omega)
      rw [hkk, hb2, ← hkk] at c3
      rw [← hr] at hb3
      have hE := eget_at hZ.rk (by have := HI.out.2.2; have := HI.out.1; omega) b hb1
      obtain ⟨x, hxq⟩ : ∃ x, x = t.getD k 0 := ⟨_, rfl⟩
      rw [← hxq] at hx hb3
      have hwx := byte_wrap hx
      have HX : Hid (0 ≤ x ∧ x < 256) := hx
      have HXq : Hid (x = t.getD k 0) := hxq
      have HZk : Hid (RdAt w wr bx gx cap F.n vs (m + 1 + j) p row) := hZ
      have HTx : Hid (Text wr B (.slice va j vc) (cutB t o j)) := by rw [hcl] at htx0; exact htx0
      have HK : Hid (k < tl) := hl1
      have hk192 : k < 192 := by omega
      have hj192 : j < 192 := by have := HI.out.1; omega
      have HB3 : Hid _ := hb3
      clear hkk hr hxq hZ htx htx0 hcv hb2 hb3 hx
      go_wp2_with fail
      refine hE.mono ?_
      rintro e w6 ⟨g, cg, rfl, ⟨hg, hrw, gt, pt, hru, hg1, hg2⟩, hu6⟩
      have c6 := hrw.cell (j := r) hr32
      rw [HB3.out] at c6
      have HZ6 : Hid (RdAt w w6 bx gx cap F.n vs (m + 1 + (j + 1)) p row) := HZk.out.put ⟨gt, pt, hru.ref, by omega, by omega⟩ (hu6.p _ (Or.inl rfl))
      have hsB : B ≤ w6.heap.size := by have := HBq.out; have := HZk.out.upd.size; have := hu6.size; omega
      have HO1 : Hid ((w6.alloc (.cells #[.int .u8 x] 5)).ownsRow B 5 1 (.slice va j vc) j (strCells ⟨(cutB t o j).toArray⟩)) := by
        have q : Text w6 B (.slice va j vc) (cutB t o j) := HTx.out.keep (fun g h1 h2 => hu6.block g h2 (by have := HBq.out; have := HZk.out.lo; omega))
        unfold Text at q
        rw [hcl] at q
        exact World.ownsRow.alloc q _
      clear hE hg hrw hru hg1 hg2 hu6 HZk HTx
      go_wp2_with (first
        | (at_builtin; refine wpList_append_lies _ rfl _ _ _ rfl B 5 i0 _ 1 1 Tryz.underlying62 hi0 hz0 hz1 hz2 rfl (by omega) (.slice va j vc) j (strCells ⟨(cutB t o j).toArray⟩) rfl HO1.out ⟨w6.heap.size, 0, none⟩ 1 1 [.int .u8 x] rfl rfl (World.news_of_block (cs := #[.int .u8 x]) (t := 5) (fr := (0, 0)) (heap_alloc_new w6 _)) (by simp [Value.oneCell']) (by omega) (by unfold maxLen; omega) (by omega) (by simp; omega) _ rfl ?_; intro gg cap2 w7 hown7 hgrow hat hlt7)
        | go_in)
      have HJ : Hid (Text w7 B (.slice (some ⟨gg, 0, none⟩) (j + 1) cap2) (cutB t o (j + 1)) ∧ RdAt w w7 bx gx cap F.n vs (m + 1 + (j + 1)) p row) := by
        have hk1 := HI.out.1
        have hk2 := HK.out
        have hk3 := HTl.out
        refine ⟨?_, (HZ6.out.below (below_alloc w6 _)).grown HO1.out (by have := HBq.out; omega) hgrow⟩
        unfold Text
        rw [cutB_len (by omega), ← cutB_snoc (by omega), ← hk1, ← HXq.out, ← strCells_snoc _ HX.out]
        exact hown7
      clear hown7 hgrow hat hlt7
      go_roundw
      case rel => exact ⟨j + 1, k + 1, by go_num, ⟨_, rfl, HJ.out.1⟩, HJ.out.2, by have := HI.out.1; omega, by omega, Or.inr (by have := HI.out.1; have := HK.out; have := HTl.out; omega)⟩
      case measure => simp [intOf]; omega
    · have hend : (k < tl ∧ ¬ j < n) ∨ ¬ k < tl := by omega
      have HA : Hid (cutB t o j = cutB t o n) := by
        show cutB t o j = cutB t o n
        have q1 := HI.out.1
        have q2 := HI.out.2.1
        have q4 := HTl.out
        rcases HI.out.2.2 with e | e
        · subst e
          rw [cutB_zero t o 0 (Or.inl rfl)]
          rcases hend with ⟨_, q⟩ | q
          · rw [cutB_zero t o n (Or.inl (by omega))]
          · rw [cutB_zero t o n (Or.inr (by omega))]
        · have e2 : j = min n (t.length - o) := by omega
          rw [e2, cutB_min]
      have HE : Hid (Rk wr bx gx cap F.n vs (m + 500) ∧ UpdP (fun k => k = bx ∨ k = gx) w wr) := ⟨hZ.rk.mono (by have := HI.out; have := HTl.out; omega), hZ.upd⟩
      clear hlt htx htx0 hZ
      rcases hend with ⟨g1, g2⟩ | g1
      all_goals
        go_wp2
        go_ret2
        refine ⟨?_, HE.out.1, HE.out.2⟩
        rw [← HA.out]
        rfl
end
end Go.Proofs.YtcaofdbcgdgbbaaGreatDoor

namespace Go.Proofs.YtcaofdbcgdgbbaaGreatDoor
open Go.RowKit Go.Lib
set_option linter.unusedVariables false

theorem tab_same {G : FS} {i : Nat} {x : Ino} (hx : x.row = (G.ino i).row) (bw : List Nat) (j : Nat) : (G.put i x bw).tab j = G.tab j := by
  have e : ∀ q, ((G.put i x bw).at q).row = (G.at q).row := fun q => by
    rw [FS.put_at]
    split
    · rename_i h
      unfold FS.at
      rw [if_pos h.2, h.1, hx]
    · rfl
  unfold FS.tab
  rw [e, e, e]
theorem write_ref {G : FS} (hG : FInv G) {us u2 : List Int} (hH : Holds us G) {i o : Nat} {d : List Int} (hi : i < 32) (hs : o + d.length ≤ (G.ino i).txt.length) (hw : WZ G.n (G.ino i).blk (G.ino i).txt o d d.length us u2) :
    Holds u2 (G.put i ⟨(G.ino i).kind, (G.ino i).links, patch (G.ino i).txt o d, (G.ino i).blk⟩ G.bw) := by
  have hn := hG.n1
  have hlow : ∀ b, b < 12 → frameOf u2 b = frameOf us b := fun b hb => hw.out b (by omega) (fun hq => by have := (hG.data i hi b hq).1; omega)
  have hrow : (⟨(G.ino i).kind, (G.ino i).links, patch (G.ino i).txt o d, (G.ino i).blk⟩ : Ino).row = (G.ino i).row := by
    unfold Ino.row
    simp only [patch_len hs]
  refine Holds.put hH hw.len ((hlow 0 (by omega)).trans hH.head) ?_ (fun j hj _ => hlow (1 + j) (by omega)) (fun k b hb => ?_) (fun m hm hne b hb => hw.out b (hG.data m hm b hb).2.1 (fun hq => hne (hG.one m i hm hi b hb hq)))
  · rw [tab_same hrow, hlow _ (by omega)]
    exact hH.tab _ (by omega)
  · have := hw.data k b hb
    rw [List.take_length] at this
    exact this
theorem wr_no (F : FS) (i o : Nat) (l : List UInt8) (h2 : o + l.length ≤ 192) (h3 : l ≠ []) (h4 : roomB F i (max (F.ino i).txt.length (o + l.length)) = false) : wrR F i (o : Int) l = 28 ∧ wrF F i (o : Int) l = F := by
  unfold wrR wrF
  simp only [if_neg (show ¬ (o : Int) < 0 by omega), if_neg (show ¬ (192 : Int) < (o : Int) + (l.length : Int) by omega), if_neg h3, Int.toNat_natCast, h4]
  exact ⟨rfl, rfl⟩
section
variable {w w' : World} {bx gx cap m : Nat} {vs : List Int} {F : FS}
theorem ewrite_arg (i o : Int) (l : List UInt8) (h : isI i = false ∨ o < 0) (w : World) :
    Calls Tryz.prog 53 #[ptr bx, .int .i64 i, .int .i64 o, tx l] w fun e w' => e = .returned (.int .i64 101) ∧ w' = w := by
  have hc : i < 0 ∨ (¬ i < 0 ∧ 32 ≤ i) ∨ (¬ i < 0 ∧ ¬ 32 ≤ i ∧ o < 0) := by
    rcases h with h | h
    · unfold isI at h
      simp at h
      omega
    · omega
  clear h
  rcases hc with h0 | ⟨h0, h1⟩ | ⟨h0, h1, h2⟩
  all_goals
    go_enter Tryz.func53, Tryz.ntmps53
    go_wp2
    go_ret
    exact ⟨rfl, rfl⟩
theorem ewrite_big (i : Nat) (hi : i < 32) (o : Nat) (ho : o < 9223372036854775808) (l : List UInt8) (hl : l.length ≤ 9223372036854775807) (h : 192 < (o : Int) + l.length) (w : World) :
    Calls Tryz.prog 53 #[ptr bx, .int .i64 (i : Int), .int .i64 (o : Int), tx l] w fun e w' => e = .returned (.int .i64 27) ∧ w' = w := by
  have h0 : ¬ (i : Int) < 0 := by omega
  have h1 : ¬ (32 : Int) ≤ (i : Int) := by omega
  have h2 : ¬ (o : Int) < 0 := by omega
  have hln := run_len_text l
  obtain ⟨N, hN⟩ : ∃ N, N = l.length := ⟨_, rfl⟩
  rw [← hN] at hln hl h
  clear hN
  by_cases h3 : (192 : Int) < (o : Int)
  · go_enter Tryz.func53, Tryz.ntmps53
    go_wp2
    go_ret
    exact ⟨rfl, rfl⟩
  · have hgt : (192 : Int) - (o : Int) < (N : Int) := by omega
    go_enter Tryz.func53, Tryz.ntmps53
    go_wp2
    go_ret
    exact ⟨rfl, rfl⟩
theorem ewrite_none (i : Nat) (hi : i < 32) (o : Nat) (ho : o ≤ 192) (w : World) :
    Calls Tryz.prog 53 #[ptr bx, .int .i64 (i : Int), .int .i64 (o : Int), tx []] w fun e w' => e = .returned (.int .i64 0) ∧ w' = w := by
  have h0 : ¬ (i : Int) < 0 := by omega
  have h1 : ¬ (32 : Int) ≤ (i : Int) := by omega
  have h2 : ¬ (o : Int) < 0 := by omega
  have h3 : ¬ (192 : Int) < (o : Int) := by omega
  have h4 : ¬ (192 : Int) - (o : Int) < 0 := by omega
  go_enter Tryz.func53, Tryz.ntmps53
  go_wp2
  go_ret
  exact ⟨rfl, rfl⟩
set_option maxHeartbeats 4000000 in
set_option maxRecDepth 100000 in
theorem ewrite_in (h : Rk w bx gx cap F.n vs m) (hm : m ≤ 890000000000) (hH : Holds vs F) (hF : FInv F) (h64 : F.n ≤ 64) (i o : Nat) (l : List UInt8) (hi : i < 32) (hu : Bi.bt F.iw i = true) (hl : l ≠ []) (hs : o + l.length ≤ 192) :
    Calls Tryz.prog 53 #[ptr bx, .int .i64 (i : Int), .int .i64 (o : Int), tx l] w fun e w' => e = .returned (.int .i64 (wrR F i (o : Int) l)) ∧ (∃ us, Rk w' bx gx cap F.n us (m + 2000) ∧ Holds us (wrF F i (o : Int) l)) ∧ UpdP (fun k => k = bx ∨ k = gx) w w' := by
  have hn13 := hF.n1
  have hlt := h.lt
  have hrow := hH.row hF hi
  have h6 := hF.six hi
  have hmax := hF.max i hi
  have hG := eGet_at h (by omega) hn13 i hi (by rw [hrow]; exact hF.fit hi)
  rw [hrow] at hG
  obtain ⟨row, hrw⟩ : ∃ x, x = (F.ino i).row := ⟨_, rfl⟩
  obtain ⟨tl, htl⟩ : ∃ x, x = (F.ino i).txt.length := ⟨_, rfl⟩
  obtain ⟨N, hN⟩ : ∃ N, N = l.length := ⟨_, rfl⟩
  obtain ⟨s, hsq⟩ : ∃ s, s = max tl (o + N) := ⟨_, rfl⟩
  have hs192 : s ≤ 192 := by omega
  have hmx : max (tl : Int) ((o : Int) + (N : Int)) = (s : Int) := by omega
  have HRl : Hid (row.length = 9) := by rw [hrw]; exact Ino.row_len h6
  have HC2 : Hid (row.getD 2 0 = (tl : Int)) := by rw [hrw, htl]; rfl
  obtain ⟨R, hR⟩ : ∃ R, R = irow row := ⟨_, rfl⟩
  have HRs : Hid (R.size = 9) := by rw [hR]; show _ = _; rw [irow_size]; exact HRl.out
  have HRo : Hid (R.all (·.oneCell') = true) := by rw [hR]; exact irow_one _
  have HRq : Hid (R = irow row) := hR
  rw [← hrw, ← hR] at hG
  have h0 : ¬ (i : Int) < 0 := by omega
  have h1 : ¬ (32 : Int) ≤ (i : Int) := by omega
  have h2 : ¬ (o : Int) < 0 := by omega
  have h3 : ¬ (192 : Int) < (o : Int) := by omega
  have h4 : ¬ (192 : Int) - (o : Int) < (N : Int) := by omega
  have hemp : l.isEmpty = false := by
    cases l with
    | nil => exact absurd rfl hl
    | cons a l => rfl
  have hln := run_len_text l
  rw [← hN] at hln
  have hz := lit_zi
  have HS : Hid (s = max (F.ino i).txt.length (o + l.length)) := by rw [hsq, htl, hN]; exact rfl
  have HK : Hid (Holds vs F ∧ FInv F ∧ Bi.bt F.iw i = true ∧ l ≠ [] ∧ o + l.length ≤ 192 ∧ N = l.length ∧ (F.ino i).txt.length ≤ 192) := ⟨hH, hF, hu, hl, hs, hN, hmax⟩
  have hoN : o + N ≤ 192 := by omega
  clear h hH hF hu hl hs hrow h6 hmax hrw htl hN hsq hR
  go_enter Tryz.func53, Tryz.ntmps53
  go_wp2_with fail
  refine hG.mono ?_
  rintro e w1 ⟨rfl, hr1, hu1⟩
  obtain ⟨W2, hW2⟩ : ∃ W, W = w1.alloc (.cells R 88) := ⟨_, rfl⟩
  have hb2 : Below w1.heap.size w1 W2 := by rw [hW2]; exact below_alloc _ _
  obtain ⟨p, hp⟩ : ∃ p, p = w1.heap.size := ⟨_, rfl⟩
  have hZ : RdAt w W2 bx gx cap F.n vs (m + 1) p row := ⟨hr1.below hb2, by rw [← HRq.out, hW2, hp]; exact heap_alloc_new _ _, (hu1.p _ (Or.inl rfl)).trans (UpdP.of_below hb2), hlt.1, hlt.2.1, by rw [hp]; exact hu1.size⟩
  have c2 := hZ.cell 2 (by rw [HRl.out]; omega)
  rw [HC2.out] at c2
  have hRs := eresize_in hZ.rk (by omega) HK.out.1 HK.out.2.1 h64 i s hi HK.out.2.2.1 hs192
  have HZ : Hid (RdAt w W2 bx gx cap F.n vs (m + 1) p row) := hZ
  have HW2 : Hid _ := hW2
  have Hp : Hid _ := hp
  clear hG hr1 hu1 hW2 hb2 hp hZ
  cases hroom : roomB F i s with
  | false =>
    obtain ⟨q1, q2⟩ := rs_no F i s hs192 hroom
    rw [q1, q2] at hRs
    have HW : Hid (wrR F i (o : Int) l = 28 ∧ wrF F i (o : Int) l = F) := wr_no F i o l HK.out.2.2.2.2.1 HK.out.2.2.2.1 (by rw [← HS.out]; exact hroom)
    clear q1 q2 hroom
    go_wp2_with (first
      | (refine wpList_store_row rfl 88 _ _ rfl w1.heap.size R rfl rfl 88 zi (heap_alloc_new _ _) (by rw [HRs.out]; exact inoSize) (by rw [HRs.out]; rfl) HRo.out ?_; rw [setRow_alloc_new, ← HW2.out, ← Hp.out])
      | fail)
    refine hRs.mono ?_
    rintro e w3 ⟨rfl, ⟨us, hr3, hH3⟩, hu3⟩
    have HE : Hid ((∃ us, Rk w3 bx gx cap F.n us (m + 2000) ∧ Holds us (wrF F i (o : Int) l)) ∧ UpdP (fun k => k = bx ∨ k = gx) w w3) := ⟨⟨us, hr3.mono (by omega), by rw [HW.out.2]; exact hH3⟩, HZ.out.upd.trans hu3⟩
    clear hRs hr3 hH3 hu3
    go_wp2
    go_ret
    refine ⟨?_, HE.out.1, HE.out.2⟩
    rw [HW.out.1]
    rfl
  | true =>
    obtain ⟨q1, q2⟩ := rs_yes F i s hs192 hroom
    rw [q1, q2] at hRs
    have HW : Hid (wrR F i (o : Int) l = 0 ∧ wrF F i (o : Int) l = writeF F i o (nums l)) := wr_yes F i o l HK.out.2.2.2.2.1 HK.out.2.2.2.1 (by rw [← HS.out]; exact hroom)
    have HGi : Hid (FInv (resizeF F i s)) := HK.out.2.1.resize hi HK.out.2.2.1 hs192 hroom
    have HGl : Hid (((resizeF F i s).ino i).txt.length = s) := by rw [resize_txt]; exact sized_len _ _
    have HWf : Hid (writeF F i o (nums l) = (resizeF F i s).put i ⟨((resizeF F i s).ino i).kind, ((resizeF F i s).ino i).links, patch ((resizeF F i s).ino i).txt o (nums l), ((resizeF F i s).ino i).blk⟩ (resizeF F i s).bw) := by
      unfold writeF
      rw [nums_len, ← HS.out]
      exact rfl
    have HGn : Hid ((resizeF F i s).n = F.n) := rfl
    obtain ⟨G, hGq⟩ : ∃ G, G = resizeF F i s := ⟨_, rfl⟩
    rw [← hGq] at hRs HGi HGl HWf HGn
    clear q1 q2 hroom hGq
    go_wp2_with (first
      | (refine wpList_store_row rfl 88 _ _ rfl w1.heap.size R rfl rfl 88 zi (heap_alloc_new _ _) (by rw [HRs.out]; exact inoSize) (by rw [HRs.out]; rfl) HRo.out ?_; rw [setRow_alloc_new, ← HW2.out, ← Hp.out])
      | fail)
    clear HW2 Hp
    refine hRs.mono ?_
    rintro e w3 ⟨rfl, ⟨us, hr3, hH3⟩, hu3⟩
    have hrow := hH3.row HGi.out hi
    have h6 := HGi.out.six hi
    have hG := eGet_at hr3 (by omega) hn13 i hi (by rw [hrow]; exact HGi.out.fit hi)
    rw [hrow, row_six h6] at hG
    obtain ⟨row2, hrw2⟩ : ∃ x, x = rowOf (G.ino i).kind (G.ino i).links ((G.ino i).txt.length : Int) (six (fun j => (G.ino i).blk.getD j 0)) := ⟨_, rfl⟩
    obtain ⟨R2, hR2⟩ : ∃ R, R = irow row2 := ⟨_, rfl⟩
    have HRl2 : Hid (row2.length = 9) := by rw [hrw2]; exact rowOf_len (six_len _) _ _ _
    have HR2s : Hid (R2.size = 9) := by rw [hR2]; show _ = _; rw [irow_size]; exact HRl2.out
    have HR2o : Hid (R2.all (·.oneCell') = true) := by rw [hR2]; exact irow_one _
    have HR2q : Hid (R2 = irow row2) := hR2
    rw [← hrw2, ← hR2] at hG
    have HZ3 : Hid (RdAt w w3 bx gx cap F.n us (m + 501) p row) := HZ.out.put (hr3.mono (by omega)) hu3
    have HH3 : Hid (Holds us G) := hH3
    have HBlk : Hid (∀ q, q < s → ∃ b, b < F.n ∧ (G.ino i).blk[q / 32]? = some b ∧ row2.getD (3 + q / 32) 0 = ((b : Nat) : Int)) := fun q hq => by
      obtain ⟨b, b1, b2, b3, b4⟩ := hH3.byte HGi.out hi (p := q) (by rw [HGl.out]; exact hq)
      refine ⟨b, by rw [← HGn.out]; exact b3, b1, ?_⟩
      have hkl := (List.getElem?_eq_some_iff.1 b1).1
      rw [hrw2, rowOf_get (six_len _) (by omega), six_get _ (by omega), List.getD_eq_getElem?_getD, b1]
      rfl
    clear hRs hr3 hH3 hu3 HZ hrow h6 hrw2 hR2
    go_wp2_with fail
    refine hG.mono ?_
    rintro e w4 ⟨rfl, hr4, hu4⟩
    have hz4 : RdAt w w4 bx gx cap F.n us (m + 502) p row := HZ3.out.put (hr4.mono (by omega)) (hu4.p _ (Or.inl rfl))
    have hz5 := hz4.setRow row2
    rw [← HR2q.out] at hz5
    obtain ⟨W5, hW5⟩ : ∃ W, W = w4.setRow p R2 := ⟨_, rfl⟩
    rw [← hW5] at hz5
    have HZ5 : Hid (RdAt w W5 bx gx cap F.n us (m + 502 + 2 * 0) p row2) := hz5
    have HBx : Hid (w4.heap[p]? = some (.cells R 88)) := by rw [HRq.out]; exact hz4.box
    have HW5 : Hid _ := hW5
    have HWZ0 : Hid (WZ F.n (G.ino i).blk (G.ino i).txt o (nums l) 0 us us) := ⟨rfl, fun k b hb => by rw [List.take_zero, splice_nil]; exact HH3.out.data i hi k b hb, fun b _ _ => rfl⟩
    clear hG hr4 hu4 hz4 hz5 hW5 HZ3 c2
    go_wp2_with (first
      | (refine wpList_store_row rfl 88 _ _ rfl p R2 rfl rfl 88 R HBx.out (by rw [HR2s.out]; exact inoSize) (by rw [HR2s.out, HRs.out]) HR2o.out ?_; rw [← HW5.out])
      | fail)
    clear HW5 HBx
    go_loopw [12] (fun z wr => ∃ (k : Nat) (u2 : List Int), k ≤ N ∧ z = .int .i64 k ∧ RdAt w wr bx gx cap F.n u2 (m + 502 + 2 * k) p row2 ∧ Hid (WZ F.n (G.ino i).blk (G.ino i).txt o (nums l) k us u2)) (fun z _ => N - (intOf z).toNat)
    case atStart => exact ⟨0, us, by omega, rfl, HZ5.out, HWZ0⟩
    case round =>
      clear HZ5 HWZ0
      obtain ⟨k, u2, hk, rfl, hZ, HI⟩ := hrel
      by_cases hlt : k < N
      · have hki : (k : Int) < (N : Int) := by omega
        obtain ⟨b, hb1, hb2, hb3⟩ := HBlk.out (o + k) (by omega)
        obtain ⟨kk, hkk⟩ : ∃ x, x = (o + k) / 32 := ⟨_, rfl⟩
        obtain ⟨r, hr⟩ : ∃ x, x = (o + k) % 32 := ⟨_, rfl⟩
        have hdi : ((o : Int) + (k : Int)).tdiv 32 = (kk : Int) := by rw [Int.tdiv_eq_ediv_of_nonneg (by omega)]; omega
        have hri : ((o : Int) + (k : Int)).tmod 32 = (r : Int) := by rw [Int.tmod_eq_emod_of_nonneg (by omega)]; omega
        have hk6 : kk < 6 := by omega
        have hr32 : r < 32 := by omega
        have hwk : IntKind.i64.wrap ((kk : Nat) : Int) = (kk : Int) := Bi.wrap_small kk (by omega)
        have hwr : IntKind.i64.wrap ((r : Nat) : Int) = (r : Int) := Bi.wrap_small r (by omega)
        have c3 := hZ.cell (3 + kk) (by rw [HRl2.out]; omega)
        rw [hkk, hb3, ← hkk] at c3
        have hE := eget_at hZ.rk (by omega) b hb1
        have hix := fun W => tx_index l k (by rw [← HK.out.2.2.2.2.2.1]; exact hlt) W
        have hxb := nums_byte l ((nums l).getD k 0) (by rw [List.getD_eq_getElem?_getD, List.getElem?_eq_getElem (by rw [nums_len, ← HK.out.2.2.2.2.2.1]; exact hlt)]; exact List.getElem_mem _)
        have hwx : IntKind.u64.wrap ((nums l).getD k 0) = (nums l).getD k 0 := Fit.su ⟨by omega, by omega⟩
        have HI' : Hid (WZ F.n (G.ino i).blk (G.ino i).txt o (nums l) (k + 1) us (splice u2 (b * 32) ((frameOf u2 b).set r ((nums l).getD k 0)))) := by
          rw [hr]
          exact HI.out.step hZ.rk.len (HGi.out.nd i hi) (fun b hb => by rw [← HGn.out]; exact (HGi.out.data i hi b hb).2.1) (by rw [nums_len, ← HK.out.2.2.2.2.2.1]; exact hlt) (by rw [nums_len, HGl.out, HS.out]; omega) hb2
        generalize (nums l).getD k 0 = x at *
        have HZk : Hid (RdAt w wr bx gx cap F.n u2 (m + 502 + 2 * k) p row2) := hZ
        clear hkk hr hb2 hb3 hxb HI hZ
        go_wp2_with fail
        refine hE.mono ?_
        rintro e w6 ⟨g, cg, rfl, ⟨hg, hrw, gt, pt, hru, hg1, hg2⟩, hu6⟩
        have c6 := hrw.cell (j := r) hr32
        have f6 := hrw.free (j := r)
        have hr7 := hrw.set (j := r) (x := x)
        have hu7 := Upd.setCell g r w6 (.int .u64 x)
        have hru7 := (hru.upd hu7 hg hu6.size).ref
        have hP := eput_at (m := m + 502 + 2 * k + 1) ⟨gt, pt, hru7, hg1, hg2⟩ (by omega) b hb1 hr7
        have HU6 : Hid (UpdP (fun k => k = bx ∨ k = gx) wr (w6.setCell ⟨g, r, none⟩ (.int .u64 x))) := ⟨hu7.os.trans hu6.os, hu7.tape.trans hu6.tape, hu7.output.trans hu6.output, Nat.le_trans hu6.size hu7.size, fun k hk hne => (hu7.block k (Nat.lt_of_lt_of_le hk hu6.size) (Nat.ne_of_lt (Nat.lt_of_lt_of_le hk hg))).trans (hu6.block k hk (fun e => hne (Or.inl e)))⟩
        generalize (frameOf u2 b).getD r 0 = y at *
        clear hE hg hrw hru hg1 hg2 hu6 hr7 hu7 hru7 c3
        go_wp2_with fail
        refine hP.mono ?_
        rintro e w8 ⟨rfl, hr8, hu8⟩
        have HZ8 : Hid (RdAt w w8 bx gx cap F.n (splice u2 (b * 32) ((frameOf u2 b).set r x)) (m + 502 + 2 * (k + 1)) p row2) := HZk.out.put (hr8.mono (by omega)) (HU6.out.trans hu8)
        clear hP hr8 hu8 c6 f6 HU6 HZk
        go_wp2
        go_roundw
        case rel => exact ⟨k + 1, _, by omega, by go_num, HZ8.out, HI'⟩
        case measure => simp [intOf]; omega
      · have hki : ¬ (k : Int) < (N : Int) := by omega
        have HE : Hid ((∃ us, Rk wr bx gx cap F.n us (m + 2000) ∧ Holds us (wrF F i (o : Int) l)) ∧ UpdP (fun k => k = bx ∨ k = gx) w wr) := by
          refine ⟨⟨u2, hZ.rk.mono (by omega), ?_⟩, hZ.upd⟩
          rw [HW.out.2, HWf.out]
          refine write_ref HGi.out HH3.out hi (by rw [nums_len, HGl.out, HS.out]; omega) ?_
          have q := HI.out
          rw [show k = (nums l).length by rw [nums_len, ← HK.out.2.2.2.2.2.1]; omega] at q
          rw [HGn.out]
          exact q
        clear hZ
        go_wp2
        go_ret
        refine ⟨?_, HE.out.1, HE.out.2⟩
        rw [HW.out.1]
        rfl
end
end Go.Proofs.YtcaofdbcgdgbbaaGreatDoor
