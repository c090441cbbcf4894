/- Proved: januslaw13.ExoWrites answers true for all raw calls (a raw call changes only frames that nobody has or that the caller has with RightWrite, and only blocks that the caller has with RightWrite, as the document's reference machine counts them), at the commit of this claim; where the variable exo.forms is laid as the program's text lays it (the card ties that). -/
import Derived.Test.YtbhpafgoofkkmaaGreatDoorWrMX
import Derived.Deep.DeepCutAuto
import Derived.Deep.CutBlock
set_option linter.all false
namespace Go.Proofs.YtbhpafgoofkkmaaGreatDoor
open Go.ChangeShapes Go.WideShapes Go.ChangeAt Go.RowKit
set_option maxRecDepth 100000 in
set_option maxHeartbeats 4000000 in
theorem writes_walk (a0 : Option Addr) (ll lc : Nat) (d : Ask) (w : World) (hF : Frm w) (hl : ll ≤ 9223372036854775807) (HL : Hid (AsksAt w a0 ll)) (HD0 : Hid (AskOk w d)) :
  Calls Tryz.prog 6 #[.slice a0 ll lc, .agg (askRow d)] w fun x w' => x = .returned (.bool true) ∧ Below w.heap.size w w' := by
 obtain ⟨W, hW⟩ : ∃ W, W = w.alloc (.cells (askRow d) 32) := ⟨_, rfl⟩
 have hbW : Below w.heap.size w W := by rw [hW]; exact Ca.below_alloc _ _
 have hXW : W.heap[w.heap.size]? = some (.cells (askRow d) 32) := by rw [hW]; exact heap_alloc_new _ _
 have HLW : Hid (AsksAt W a0 ll) := AsksAt.below HL.out hbW
 have HDW : Hid (AskOk W d) := AskOk.below HD0.out hbW
 have HFW : Hid (Frm W) := hF.below (Frm.pos hF) hbW
 have HBW : Hid _ := hbW
 have HXW : Hid _ := hXW
 have HW : Hid _ := hW
 clear hbW hXW hW hF HL HD0
 have hwo := worldsF_at W
 go_enter Tryz.func6, Tryz.ntmps6
 go_wp2_with fail
 rw [← HW.out]
 clear HW
 refine hwo.mono ?_
 rintro x w1 ⟨K, L, X, Y, rfl, hE1, hX1, hb1, hLow, hM, hrp⟩
 have HLow : Hid (XLow L W.heap.size) := hLow
 have HP1 : Hid (Pair13 W w1 K L X Y 0 (wS 4)) := ⟨⟨hE1, (XI.zero 8 16).env _, Nat.le_refl _, rfl, hb1⟩, hX1, rfl, hM, fun j hj m hm => (List.not_mem_nil hm).elim, hrp⟩
 clear hE1 hX1 hb1 hLow hM hrp hwo
 go_upto_block 0 with fail
 go_cut [8] (fun _ wc => ∃ (i : Nat) (S : XS), i ≤ 80 ∧ Hid (Pair13 W wc K L X Y i S))
 case first =>
  go_wp2_with fail
  go_loopw [8] (fun s wr => ∃ (i : Nat) (S : XS), i ≤ ll ∧ i ≤ 80 ∧ s = .int .i64 i ∧ Hid (Pair13 W wr K L X Y i S)) (fun s _ => 80 - (intOf s).toNat)
  case atStart => exact ⟨0, _, by omega, by omega, rfl, HP1⟩
  case round =>
   clear HP1
   obtain ⟨i, S, hil, hi8, rfl, HR⟩ := hrel
   by_cases hlt : i < ll ∧ i < 80
   ·obtain ⟨l1, l2⟩ := hlt
    obtain ⟨gb, off, d1, rfl, c0, c1, hok⟩ := HLW.out i l1
    have g0 : decide ((i : Int) < (ll : Int)) = true := decide_eq_true (by omega)
    have g1 : decide ((i : Int) < 80) = true := decide_eq_true (by omega)
    have ii : (i : Int) < (ll : Int) := by omega
    have hPd := HR.out.drew
    have z0 := (hPd.run.bl.cell (cell_lt c0)).trans c0
    have z1 := (hPd.run.bl.cell (cell_lt c1)).trans c1
    have hraw := pair_raw hPd HFW.out HLow.out d1 hok (by omega)
    have HC : Hid _ := And.intro c0 c1
    have HOk : Hid (AskOk W d1) := hok
    clear c0 c1 hok hPd HR
    go_wp2_with fail
    refine wp_region_held_drew (S := fun w' => w'.cell? ⟨gb, off + i * 2, none⟩ = some (.int .i64 d1.e) ∧ w'.cell? ⟨gb, off + i * 2 + 1, none⟩ = some (.slice d1.a d1.ws.length d1.cap)) (by kernel_rfl) ⟨z0, z1⟩ (fun hHeld => ?_)
    refine tkz [0, 1, 2, 3, 4, 5, 6, 7, 8, 9, 10] ?_
    iterate 11
     refine tky (v := ?_) rfl (by kernel_rfl) (by kernel_rfl) (by kernel_rfl) (fun _ _ _ h => h) (Or.inl ⟨by kernel_rfl, ?_⟩) (by assumption) ?_
     rotate_left
     ·(intro w hSw; (try dsimp only at hSw); go_simp) <;> with_reducible rfl
     (try simp only [Act.put, lqa, lqb, lqc, lqd, lqe, lqf])
    refine tkw ?_
    refine wpAnyH_ready (rs := [11]) (by kernel_rfl) (by simp) ?_
    refine AllReadyH.cons rfl (fun K hK => ?_) AllReadyH.nil
    go_simp
    refine hraw.mono ?_
    rintro x w2 ⟨a, n, c, a', c', rfl, hM2, -⟩
    have y0 := (hM2.run.bl.cell (cell_lt HC.out.1)).trans HC.out.1
    have y1 := (hM2.run.bl.cell (cell_lt HC.out.2)).trans HC.out.2
    have HM2 : Hid _ := hM2
    generalize (rawS S d1.e d1.ws a' c').2.2 = er at *
    clear hraw hM2
    refine hK.out _ _ (And.intro y0 y1) (fun hHeld => ?_)
    clear hK K
    (try simp only [Act.put, lqa, lqb, lqc, lqd, lqe, lqf])
    refine wpAnyH_done (by kernel_rfl) ?_ _
    clear hHeld y0 y1 z0 z1
    have hMd := HM2.out.drew
    have z0 := (hMd.run.bl.cell (cell_lt HC.out.1)).trans HC.out.1
    have z1 := (hMd.run.bl.cell (cell_lt HC.out.2)).trans HC.out.2
    have hraw := mid_raw hMd HOk.out (by omega)
    clear hMd HM2
    go_wp2_with fail
    refine wp_region_held_drew (S := fun w' => w'.cell? ⟨gb, off + i * 2, none⟩ = some (.int .i64 d1.e) ∧ w'.cell? ⟨gb, off + i * 2 + 1, none⟩ = some (.slice d1.a d1.ws.length d1.cap)) (by kernel_rfl) ⟨z0, z1⟩ (fun hHeld => ?_)
    refine tkz [0, 1, 2, 3, 4, 5, 6, 7, 8, 9, 10] ?_
    iterate 11
     refine tky (v := ?_) rfl (by kernel_rfl) (by kernel_rfl) (by kernel_rfl) (fun _ _ _ h => h) (Or.inl ⟨by kernel_rfl, ?_⟩) (by assumption) ?_
     rotate_left
     ·(intro w hSw; (try dsimp only at hSw); go_simp) <;> with_reducible rfl
     (try simp only [Act.put, lqa, lqb, lqc, lqd, lqe, lqf])
    refine tkw ?_
    refine wpAnyH_ready (rs := [11]) (by kernel_rfl) (by simp) ?_
    refine AllReadyH.cons rfl (fun K hK => ?_) AllReadyH.nil
    go_simp
    refine hraw.mono ?_
    rintro x w3 ⟨a3, n3, c3, r3, rfl, hP3⟩
    have y0 := (hP3.run.bl.cell (cell_lt HC.out.1)).trans HC.out.1
    have y1 := (hP3.run.bl.cell (cell_lt HC.out.2)).trans HC.out.2
    have HP3 : Hid _ := hP3
    clear hraw hP3
    refine hK.out _ _ (And.intro y0 y1) (fun hHeld => ?_)
    clear hK K
    (try simp only [Act.put, lqa, lqb, lqc, lqd, lqe, lqf])
    refine wpAnyH_done (by kernel_rfl) ?_ _
    clear hHeld y0 y1 z0 z1
    go_wp2
    go_roundw
    case rel => exact ⟨i + 1, _, by omega, by omega, by go_num, HP3⟩
    case measure => simp [intOf]; omega
   ·go_wp2
    all_goals
     go_meet
     case rel => exact ⟨i, S, hi8, HR⟩
 case rest =>
  obtain ⟨i0, S, hi8, HR⟩ := hcut
  clear HP1
  obtain ⟨V1, hV1⟩ : ∃ V, V = wc.alloc (.cells #[.slice none 0 0, .slice none 0 0, .slice none 0 0, .slice none 0 0, .slice none 0 0, .slice none 0 0, .slice none 0 0, .slice none 0 0, .slice none 0 0, .slice none 0 0, .slice none 0 0, .slice none 0 0, .slice none 0 0, .slice none 0 0, .slice none 0 0, .slice none 0 0] 45) := ⟨_, rfl⟩
  obtain ⟨V2, hV2⟩ : ∃ V, V = V1.alloc (.cells #[.slice none 0 0, .slice none 0 0, .slice none 0 0, .slice none 0 0, .slice none 0 0, .slice none 0 0, .slice none 0 0, .slice none 0 0, .slice none 0 0, .slice none 0 0, .slice none 0 0, .slice none 0 0, .slice none 0 0, .slice none 0 0, .slice none 0 0, .slice none 0 0] 45) := ⟨_, rfl⟩
  have hb1 : Below wc.heap.size wc V1 := by rw [hV1]; exact Ca.below_alloc _ _
  have hb2 : Below V1.heap.size V1 V2 := by rw [hV2]; exact Ca.below_alloc _ _
  have hA1 : V1.heap[wc.heap.size]? = some (.cells #[.slice none 0 0, .slice none 0 0, .slice none 0 0, .slice none 0 0, .slice none 0 0, .slice none 0 0, .slice none 0 0, .slice none 0 0, .slice none 0 0, .slice none 0 0, .slice none 0 0, .slice none 0 0, .slice none 0 0, .slice none 0 0, .slice none 0 0, .slice none 0 0] 45) := by rw [hV1]; exact heap_alloc_new _ _
  have hA2 : V2.heap[V1.heap.size]? = some (.cells #[.slice none 0 0, .slice none 0 0, .slice none 0 0, .slice none 0 0, .slice none 0 0, .slice none 0 0, .slice none 0 0, .slice none 0 0, .slice none 0 0, .slice none 0 0, .slice none 0 0, .slice none 0 0, .slice none 0 0, .slice none 0 0, .slice none 0 0, .slice none 0 0] 45) := by rw [hV2]; exact heap_alloc_new _ _
  have hs1 : V1.heap.size = wc.heap.size + 1 := by rw [hV1]; exact size_alloc13 _ _
  obtain ⟨FA, hFA⟩ : ∃ A, A = wc.heap.size := ⟨_, rfl⟩
  obtain ⟨BA, hBA⟩ : ∃ A, A = wc.heap.size + 1 := ⟨_, rfl⟩
  obtain ⟨ff, hff⟩ : ∃ ff : Nat → List Int, ∀ j : Nat, ff j = frmW S.n S.vs (j : Int) := ⟨_, fun _ => rfl⟩
  obtain ⟨fb, hfb⟩ : ∃ fb : Nat → List Int, ∀ j : Nat, fb j = Xd.wordsW S.d S.l S.ds (j : Int) := ⟨_, fun _ => rfl⟩
  have HN : Hid (FA ≠ BA ∧ wc.heap.size ≤ FA ∧ wc.heap.size ≤ BA) := ⟨by omega, by omega, by omega⟩
  have HLk0 : Hid (Lk13 W wc V2 K L S (i0 + 0) X Y i0 S FA BA w.heap.size ff fb 0 0 (askRow d)) := by
   have hb12 : Below wc.heap.size wc V2 := hb1.trans (hb2.mono hb1.size)
   refine ⟨LookAt.over (look_start HR.out.run.ex HR.out.run.m HR.out.run.d) hb12, HR.out.ref.below hb12, ⟨#[.slice none 0 0, .slice none 0 0, .slice none 0 0, .slice none 0 0, .slice none 0 0, .slice none 0 0, .slice none 0 0, .slice none 0 0, .slice none 0 0, .slice none 0 0, .slice none 0 0, .slice none 0 0, .slice none 0 0, .slice none 0 0, .slice none 0 0, .slice none 0 0], ?_, rfl, fun j hj => absurd hj (by omega)⟩, ⟨#[.slice none 0 0, .slice none 0 0, .slice none 0 0, .slice none 0 0, .slice none 0 0, .slice none 0 0, .slice none 0 0, .slice none 0 0, .slice none 0 0, .slice none 0 0, .slice none 0 0, .slice none 0 0, .slice none 0 0, .slice none 0 0, .slice none 0 0, .slice none 0 0], ?_, rfl, fun j hj => absurd hj (by omega)⟩, ?_, HR.out.run.bl.trans (hb12.mono HR.out.run.bl.size)⟩
   ·rw [hFA]; exact (hb2.block _ (lt_of_heap hA1)).trans hA1
   ·rw [hBA, ← hs1]; exact hA2
   ·have q1 := (HR.out.run.bl.block _ (lt_of_heap HXW.out)).trans HXW.out
    exact (hb12.block _ (lt_of_heap q1)).trans q1
  have HV : Hid (V2 = (wc.alloc (.cells #[.slice none 0 0, .slice none 0 0, .slice none 0 0, .slice none 0 0, .slice none 0 0, .slice none 0 0, .slice none 0 0, .slice none 0 0, .slice none 0 0, .slice none 0 0, .slice none 0 0, .slice none 0 0, .slice none 0 0, .slice none 0 0, .slice none 0 0, .slice none 0 0] 45)).alloc (.cells #[.slice none 0 0, .slice none 0 0, .slice none 0 0, .slice none 0 0, .slice none 0 0, .slice none 0 0, .slice none 0 0, .slice none 0 0, .slice none 0 0, .slice none 0 0, .slice none 0 0, .slice none 0 0, .slice none 0 0, .slice none 0 0, .slice none 0 0, .slice none 0 0] 45)) := hV2.trans (congrArg (fun V : World => V.alloc _) hV1)
  have HFA : Hid _ := hFA
  have HBA : Hid _ := hBA
  have HFF : Hid _ := And.intro hff hfb
  clear hV1 hV2 hb1 hb2 hA1 hA2 hs1 hFA hBA hff hfb V1
  go_wp2
  rw [← HV.out]
  rw [← HBA.out, ← HFA.out]
  clear HV HFA HBA
  go_loopw [11] (fun s wq => ∃ (k : Nat), k ≤ 16 ∧ s = .int .i64 k ∧ Hid (Lk13 W wc wq K L S (i0 + k) X Y i0 S FA BA w.heap.size ff fb k k (askRow d))) (fun s _ => 16 - (intOf s).toNat)
  case atStart => exact ⟨0, by omega, rfl, HLk0⟩
  case round =>
   clear HLk0
   obtain ⟨k, hk, rfl, HLk⟩ := hrel
   by_cases hlt : k < 16
   ·have ik : (k : Int) < 16 := by omega
    have hfr := lk_frame (HLk.out.below (w' := wr.drew) (Below.refl _ _).drew) (k : Int)
    clear HLk
    go_wp2_with fail
    refine wp_region_held_drew (S := fun _ => True) (by kernel_rfl) trivial (fun hHeld => ?_)
    refine tkz [0, 1, 2, 3, 5, 6] ?_
    iterate 6
     refine tky (v := ?_) rfl (by kernel_rfl) (by kernel_rfl) (by kernel_rfl) (fun _ _ _ h => h) (Or.inl ⟨by kernel_rfl, ?_⟩) (by assumption) ?_
     rotate_left
     ·(intro w hSw; (try dsimp only at hSw); go_simp) <;> with_reducible rfl
     (try simp only [Act.put, lqa, lqb, lqc, lqd, lqe, lqf])
    refine tkw ?_
    refine wpAnyH_ready (rs := [4]) (by kernel_rfl) (by simp) ?_
    refine AllReadyH.cons rfl (fun K hK => ?_) AllReadyH.nil
    go_simp
    refine hfr.mono ?_
    rintro x w3 ⟨u3, rfl, hu3, hL3, -⟩
    have hbl := lk_block hL3 HLow.out (k : Int) (by unfold Ca.I64; omega) (by omega)
    obtain ⟨a3, n3, c3, hs3⟩ := hu3.shape
    subst hs3
    have HU3 : Hid _ := hu3
    have HL3 : Hid _ := hL3
    clear hfr hu3 hL3
    refine hK.out _ _ trivial (fun hHeld => ?_)
    clear hK K
    (try simp only [Act.put, lqa, lqb, lqc, lqd, lqe, lqf])
    refine tkz [8] ?_
    iterate 1
     refine tky (v := ?_) rfl (by kernel_rfl) (by kernel_rfl) (by kernel_rfl) (fun _ _ _ h => h) (Or.inl ⟨by kernel_rfl, ?_⟩) (by assumption) ?_
     rotate_left
     ·(intro w hSw; (try dsimp only at hSw); go_simp) <;> with_reducible rfl
     (try simp only [Act.put, lqa, lqb, lqc, lqd, lqe, lqf])
    refine tkw ?_
    refine wpAnyH_ready (rs := [7]) (by kernel_rfl) (by simp) ?_
    refine AllReadyH.cons rfl (fun K hK => ?_) AllReadyH.nil
    go_simp
    refine hbl.mono ?_
    rintro x w4 ⟨u4, rfl, hu4, hL4, hup⟩
    have hv3 := HL3.out.look.urow hup HU3.out
    obtain ⟨a4, n4, c4, hs4⟩ := hu4.shape
    subst hs4
    rw [← HFF.out.1] at hv3
    rw [← HFF.out.2] at hu4
    have HL5 : Hid _ := hL4.put hlt HN.out.1 HN.out.2.1 HN.out.2.2 HR.out.run.bl.size hv3 hu4
    obtain ⟨⟨⟨o1, f1⟩, f2⟩, ⟨o2, f3⟩, f4⟩ := hL4.cells (v := .slice a3 n3 c3) hlt HN.out.1
    clear hbl hu4 hL4 hup hv3 HU3 HL3
    refine hK.out _ _ trivial (fun hHeld => ?_)
    clear hK K
    (try simp only [Act.put, lqa, lqb, lqc, lqd, lqe, lqf])
    refine wpAnyH_ready (rs := [9]) (by kernel_rfl) (by simp) ?_
    refine AllReadyH.cons rfl (fun K hK => ?_) AllReadyH.nil
    go_simp
    refine hK.out _ _ trivial (fun hHeld => ?_)
    clear hK K
    (try simp only [Act.put, lqa, lqb, lqc, lqd, lqe, lqf])
    refine tkz [10] ?_
    iterate 1
     refine tky (v := ?_) rfl (by kernel_rfl) (by kernel_rfl) (by kernel_rfl) (fun _ _ _ h => h) (Or.inl ⟨by kernel_rfl, ?_⟩) (by assumption) ?_
     rotate_left
     ·(intro w hSw; (try dsimp only at hSw); go_simp) <;> with_reducible rfl
     (try simp only [Act.put, lqa, lqb, lqc, lqd, lqe, lqf])
    refine tkw ?_
    refine wpAnyH_ready (rs := [11]) (by kernel_rfl) (by simp) ?_
    refine AllReadyH.cons rfl (fun K hK => ?_) AllReadyH.nil
    go_simp
    refine hK.out _ _ trivial (fun hHeld => ?_)
    clear hK K
    (try simp only [Act.put, lqa, lqb, lqc, lqd, lqe, lqf])
    refine wpAnyH_done (by kernel_rfl) ?_ _
    clear hHeld f1 f2 f3 f4 o1 o2
    go_wp2_with fail
    go_roundw
    case rel => exact ⟨k + 1, by omega, by go_num, HL5⟩
    case measure => simp [intOf]; omega
   ·have hk16 : k = 16 := by omega
    have kg : ¬ (k : Int) < 16 := by omega
    rw [hk16] at HLk
    obtain ⟨m, hm, hE⟩ := HLk.out.look.ee
    have hP := HR.out.again hE hm HLk.out.ref HLk.out.bl
    have hraw := pair_raw hP HFW.out HLow.out d HDW.out (by omega)
    have e0 : wr.cell? ⟨w.heap.size, 0, none⟩ = some (.int .i64 d.e) := by rw [cell_of_heap HLk.out.bx]; rfl
    have e1 : wr.cell? ⟨w.heap.size, 1, none⟩ = some (.slice d.a d.ws.length d.cap) := by rw [cell_of_heap HLk.out.bx]; rfl
    have HE : Hid _ := hE
    clear hm hE hP
    go_wp2_with fail
    refine hraw.mono ?_
    rintro x wC ⟨a, n, c, a', c', rfl, hM5, ht5⟩
    have HB5 : Hid (Below W.heap.size W wC) := hM5.run.bl
    have HMay : Hid (May13 (S.mv m) (rawS (S.mv m) d.e d.ws a' c').1 d.e ff fb) := may_raw HE.out HR.out.run.xi hM5.ok HE.out.mem.mem.len HFF.out.1 HFF.out.2
    have HO : Hid (OkR (S.mv m)) := hM5.ok
    have HLk5 : Hid (Lk13 W wC wC K L (rawS (S.mv m) d.e d.ws a' c').1 (i0 + 17 + 0) X Y (i0 + 16) (S.mv m) FA BA w.heap.size ff fb 16 16 (askRow d)) := ⟨look_start hM5.run.ex hM5.run.m hM5.run.d, hM5.ref, HLk.out.fa.tch ht5 HE.out, HLk.out.ba.tch ht5 HE.out, ht5.other HE.out HLk.out.bx (by decide), hM5.run.bl⟩
    obtain ⟨err, herr⟩ : ∃ e, e = (rawS (S.mv m) d.e d.ws a' c').2.2 := ⟨_, rfl⟩
    rw [← herr]
    have HLf : Hid ((∀ j, (ff j).length ≤ 1000000) ∧ ∀ j, (fb j).length ≤ 1000000) := by
     constructor
     ·intro j
      rw [HFF.out.1]
      have := frmW_len S.n S.vs (j : Int)
      omega
     ·intro j
      rw [HFF.out.2]
      have := wordsW_len HLk.out.look (j : Int)
      omega
    clear herr hraw ht5 hM5 e0 e1 HLk HE
    generalize (rawS (S.mv m) d.e d.ws a' c').1 = S5 at *
    generalize S.mv m = Sm at *
    by_cases he : err = 0
    ·subst he
     go_wp2_with fail
     go_loopw [14] (fun s wq => ∃ (k : Nat), k ≤ 16 ∧ s = .int .i64 k ∧ Hid (Lk13 W wC wq K L S5 (i0 + 17 + k) X Y (i0 + 16) Sm FA BA w.heap.size ff fb 16 16 (askRow d))) (fun s _ => 16 - (intOf s).toNat)
     case atStart => exact ⟨0, by omega, rfl, HLk5⟩
     case round =>
      clear HLk5
      obtain ⟨k, hk, rfl, HLk⟩ := hrel
      by_cases hlt : k < 16
      ·have ik : (k : Int) < 16 := by omega
       have hho := x_hold HLk.out.ref HO.out (by omega) (k : Int) (by unfold Ca.I64; omega)
       have y1 := HLk.out.ref.c0
       have y2 := HLk.out.ref.mc
       go_wp2_with fail
       refine hho.mono ?_
       rintro x w2 ⟨a2, n2, c2, rfl, hiff, hb2⟩
       have hLd := (HLk.out.below hb2).below (w' := w2.drew) (Below.refl _ _).drew
       have HIff : Hid _ := hiff
       clear hho hiff hb2 y1 y2 HLk
       have hfr := lk_frame hLd (k : Int)
       obtain ⟨r, av, cv, hr1, hr2, hr3⟩ := hLd.fa.row hlt
       obtain ⟨Xk, hXk⟩ : ∃ X, X = ff k := ⟨_, rfl⟩
       rw [← hXk] at hr2 hr3
       have z0 : w2.drew.cell? ⟨FA, k, none⟩ = some (.slice av Xk.length cv) := by rw [cell_of_heap hr1]; exact hr2
       have z1 := hLd.ref.c0
       have z2 := hLd.ref.mc
       have z3 : w2.drew.cell? ⟨w.heap.size, 0, none⟩ = some (.int .i64 d.e) := by rw [cell_of_heap hLd.bx]; rfl
       have HX : Hid _ := And.intro hXk hr3
       have HLd : Hid _ := hLd
       clear hXk hr1 hr2 hr3 hLd
       go_wp2_with fail
       refine wp_region_held_drew (S := fun w' => w'.cell? ⟨FA, k, none⟩ = some (.slice av Xk.length cv) ∧ w'.cell? ⟨X, 0, none⟩ = some (ptr Y.J.p0) ∧ w'.cell? ⟨Y.J.p0, 1, none⟩ = some (ptr Y.QM.c) ∧ w'.cell? ⟨w.heap.size, 0, none⟩ = some (.int .i64 d.e)) (by kernel_rfl) ⟨z0, z1, z2, z3⟩ (fun hHeld => ?_)
       refine tkz [0, 1, 2, 3, 4] ?_
       iterate 5
        refine tky (v := ?_) rfl (by kernel_rfl) (by kernel_rfl) (by kernel_rfl) (fun _ _ _ h => h) (Or.inl ⟨by kernel_rfl, ?_⟩) (by assumption) ?_
        rotate_left
        ·(intro w hSw; (try dsimp only at hSw); go_simp) <;> with_reducible rfl
        (try simp only [Act.put, lqa, lqb, lqc, lqd, lqe, lqf])
       refine tkw ?_
       refine wpAnyH_ready (rs := [5]) (by kernel_rfl) (by simp) ?_
       refine AllReadyH.cons rfl (fun K hK => ?_) AllReadyH.nil
       go_simp
       refine hfr.mono ?_
       rintro x w3 ⟨u, rfl, hu3, hL3, hb3⟩
       have q0 := (hb3.cell (cell_lt z0)).trans z0
       have q1 := (hb3.cell (cell_lt z1)).trans z1
       have q2 := (hb3.cell (cell_lt z2)).trans z2
       have q3 := (hb3.cell (cell_lt z3)).trans z3
       obtain ⟨au, nu, cu, hsu⟩ := hu3.shape
       subst hsu
       obtain ⟨hnu, rdu⟩ := urow_rd hu3
       subst hnu
       obtain ⟨-, rdv⟩ := urow_rd (URow.bel HX.out.2 hb3)
       have hWd := words_dec Xk (frmW S5.n S5.vs (k : Int)) av au cv cu w3 rdv rdu (by rw [HX.out.1]; exact HLf.out.1 k)
       have HL3 : Hid _ := hL3
       have HMk : Hid (Xk = frmW S5.n S5.vs (k : Int) ∨ Ex.cnt Sm.T 768 (k : Int) = 0 ∨ Ca.hasB Sm.T d.e 1 (k : Int) 2 = true) := by rw [HX.out.1]; exact (HMay.out k).1
       generalize frmW S5.n S5.vs (k : Int) = E3 at *
       clear hfr hu3 hL3 hb3 rdu rdv HLd HX z0 z1 z2 z3
       refine hK.out _ _ ⟨q0, q1, q2, q3⟩ (fun hHeld => ?_)
       clear hK K
       (try simp only [Act.put, lqa, lqb, lqc, lqd, lqe, lqf])
       refine wpAnyH_ready (rs := [6]) (by kernel_rfl) (by simp) ?_
       refine AllReadyH.cons rfl (fun K hK => ?_) AllReadyH.nil
       go_simp
       refine hWd.mono ?_
       rintro x w4 ⟨t4, rfl, ht4, hb4⟩
       have HL4 : Hid _ := HL3.out.below hb4
       have y0 := (hb4.cell (cell_lt q0)).trans q0
       have y1 := (hb4.cell (cell_lt q1)).trans q1
       have y2 := (hb4.cell (cell_lt q2)).trans q2
       have y3 := (hb4.cell (cell_lt q3)).trans q3
       clear hWd hb4 q0 q1 q2 q3 HL3
       refine hK.out _ _ ⟨y0, y1, y2, y3⟩ (fun hHeld => ?_)
       clear hK K
       (try simp only [Act.put, lqa, lqb, lqc, lqd, lqe, lqf])
       clear y0 y1 y2 y3
       cases t4 with
       | true =>
        clear ht4
        refine tkz [7, 8] ?_
        iterate 2
         refine tky (v := ?_) rfl (by kernel_rfl) (by kernel_rfl) (by kernel_rfl) (fun _ _ _ h => h) (Or.inl ⟨by kernel_rfl, ?_⟩) (by assumption) ?_
         rotate_left
         ·(intro w hSw; (try dsimp only at hSw); go_simp) <;> with_reducible rfl
         (try simp only [Act.put, lqa, lqb, lqc, lqd, lqe, lqf])
        refine tkw ?_
        refine tkz [9, 10] ?_
        iterate 2
         refine tky (v := undef) rfl (by kernel_rfl) (by kernel_rfl) (by kernel_rfl) (fun _ _ _ h => h) (Or.inr ⟨by kernel_rfl, rfl⟩) (by assumption) ?_
         (try simp only [Act.put, lqa, lqb, lqc, lqd, lqe, lqf])
        refine tkw ?_
        refine tkz [11, 12] ?_
        iterate 2
         refine tky (v := ?_) rfl (by kernel_rfl) (by kernel_rfl) (by kernel_rfl) (fun _ _ _ h => h) (Or.inl ⟨by kernel_rfl, ?_⟩) (by assumption) ?_
         rotate_left
         ·(intro w hSw; (try dsimp only at hSw); go_simp) <;> with_reducible rfl
         (try simp only [Act.put, lqa, lqb, lqc, lqd, lqe, lqf])
        refine tkw ?_
        refine tkz [13, 14, 15, 16, 17, 18, 19, 20, 21, 22, 23, 24] ?_
        iterate 12
         refine tky (v := undef) rfl (by kernel_rfl) (by kernel_rfl) (by kernel_rfl) (fun _ _ _ h => h) (Or.inr ⟨by kernel_rfl, rfl⟩) (by assumption) ?_
         (try simp only [Act.put, lqa, lqb, lqc, lqd, lqe, lqf])
        refine tkw ?_
        refine tkz [25] ?_
        iterate 1
         refine tky (v := ?_) rfl (by kernel_rfl) (by kernel_rfl) (by kernel_rfl) (fun _ _ _ h => h) (Or.inl ⟨by kernel_rfl, ?_⟩) (by assumption) ?_
         rotate_left
         ·(intro w hSw; (try dsimp only at hSw); go_simp) <;> with_reducible rfl
         (try simp only [Act.put, lqa, lqb, lqc, lqd, lqe, lqf])
        refine tkw ?_
        refine wpAnyH_done (by kernel_rfl) ?_ _
        clear hHeld HIff HMk
        have HL8 := HL4
        clear HL4
        have hLd := HL8.out.below (w' := w4.drew) (Below.refl _ _).drew
        have hfr := lk_block hLd HLow.out (k : Int) (by unfold Ca.I64; omega) (by omega)
        obtain ⟨r, av, cv, hr1, hr2, hr3⟩ := hLd.ba.row hlt
        obtain ⟨Xk, hXk⟩ : ∃ X, X = fb k := ⟨_, rfl⟩
        rw [← hXk] at hr2 hr3
        have z0 : w4.drew.cell? ⟨BA, k, none⟩ = some (.slice av Xk.length cv) := by rw [cell_of_heap hr1]; exact hr2
        have z1 := hLd.ref.c1
        have z2 := hLd.ref.dc
        have z3 : w4.drew.cell? ⟨w.heap.size, 0, none⟩ = some (.int .i64 d.e) := by rw [cell_of_heap hLd.bx]; rfl
        have HX : Hid _ := And.intro hXk (And.intro hr1 (And.intro hr2 hr3))
        have HLd : Hid _ := hLd
        clear hXk hr1 hr2 hr3 hLd HL8
        go_wp2_with fail
        refine wp_region_held_drew (S := fun w' => w'.cell? ⟨BA, k, none⟩ = some (.slice av Xk.length cv) ∧ w'.cell? ⟨X, 1, none⟩ = some (ptr Y.J.p1) ∧ w'.cell? ⟨Y.J.p1, 1, none⟩ = some (ptr Y.QD.c) ∧ w'.cell? ⟨w.heap.size, 0, none⟩ = some (.int .i64 d.e)) (by kernel_rfl) ⟨z0, z1, z2, z3⟩ (fun hHeld => ?_)
        clear z0 z1 z2 z3
        refine tkz [0, 1, 2, 3, 4] ?_
        iterate 5
         refine tky (v := ?_) rfl (by kernel_rfl) (by kernel_rfl) (by kernel_rfl) (fun _ _ _ h => h) (Or.inl ⟨by kernel_rfl, ?_⟩) (by assumption) ?_
         rotate_left
         ·(intro w hSw; (try dsimp only at hSw); go_simp) <;> with_reducible rfl
         (try simp only [Act.put, lqa, lqb, lqc, lqd, lqe, lqf])
        refine tkw ?_
        refine wpAnyH_ready (rs := [5]) (by kernel_rfl) (by simp) ?_
        refine AllReadyH.cons rfl (fun K hK => ?_) AllReadyH.nil
        go_simp
        refine hfr.mono ?_
        rintro x w9 ⟨u, rfl, hu9, hL9, hup9⟩
        have hq1 := HLd.out.look.stay hup9 HX.out.2.1 (by decide)
        have z0 : w9.cell? ⟨BA, k, none⟩ = some (.slice av Xk.length cv) := by rw [cell_of_heap hq1]; exact HX.out.2.2.1
        have z1 := hL9.ref.c1
        have z2 := hL9.ref.dc
        have z3 : w9.cell? ⟨w.heap.size, 0, none⟩ = some (.int .i64 d.e) := by rw [cell_of_heap hL9.bx]; rfl
        obtain ⟨au, nu, cu, hsu⟩ := hu9.shape
        subst hsu
        obtain ⟨hnu, rdu⟩ := urow_rd hu9
        subst hnu
        obtain ⟨-, rdv⟩ := urow_rd (HLd.out.look.urow hup9 HX.out.2.2.2)
        have hWd := words_dec Xk (Xd.wordsW S5.d S5.l S5.ds (k : Int)) av au cv cu w9 rdv rdu (by rw [HX.out.1]; exact HLf.out.2 k)
        have HL9 : Hid _ := hL9
        have HMk : Hid (Xk = Xd.wordsW S5.d S5.l S5.ds (k : Int) ∨ Ca.hasB Sm.C d.e 2 (k : Int) 2 = true) := by rw [HX.out.1]; exact (HMay.out k).2
        generalize Xd.wordsW S5.d S5.l S5.ds (k : Int) = E9 at *
        clear hfr hu9 hL9 hup9 hq1 rdu rdv HLd HX
        refine hK.out _ _ ⟨z0, z1, z2, z3⟩ (fun hHeld => ?_)
        clear hK K
        (try simp only [Act.put, lqa, lqb, lqc, lqd, lqe, lqf])
        refine wpAnyH_ready (rs := [6]) (by kernel_rfl) (by simp) ?_
        refine AllReadyH.cons rfl (fun K hK => ?_) AllReadyH.nil
        go_simp
        refine hWd.mono ?_
        rintro x w10 ⟨t9, rfl, ht9, hb10⟩
        have HL10 : Hid _ := HL9.out.below hb10
        have y0 := (hb10.cell (cell_lt z0)).trans z0
        have y1 := (hb10.cell (cell_lt z1)).trans z1
        have y2 := (hb10.cell (cell_lt z2)).trans z2
        have y3 := (hb10.cell (cell_lt z3)).trans z3
        clear hWd hb10 z0 z1 z2 z3 HL9
        refine hK.out _ _ ⟨y0, y1, y2, y3⟩ (fun hHeld => ?_)
        clear hK K
        (try simp only [Act.put, lqa, lqb, lqc, lqd, lqe, lqf])
        clear y0 y1 y2 y3
        cases t9 with
        | true =>
         clear ht9
         refine tkz [7, 8] ?_
         iterate 2
          refine tky (v := ?_) rfl (by kernel_rfl) (by kernel_rfl) (by kernel_rfl) (fun _ _ _ h => h) (Or.inl ⟨by kernel_rfl, ?_⟩) (by assumption) ?_
          rotate_left
          ·(intro w hSw; (try dsimp only at hSw); go_simp) <;> with_reducible rfl
          (try simp only [Act.put, lqa, lqb, lqc, lqd, lqe, lqf])
         refine tkw ?_
         refine tkz [9, 10, 11, 12, 13, 14, 15, 16, 17, 18, 19, 20] ?_
         iterate 12
          refine tky (v := undef) rfl (by kernel_rfl) (by kernel_rfl) (by kernel_rfl) (fun _ _ _ h => h) (Or.inr ⟨by kernel_rfl, rfl⟩) (by assumption) ?_
          (try simp only [Act.put, lqa, lqb, lqc, lqd, lqe, lqf])
         refine tkw ?_
         refine tkz [21] ?_
         iterate 1
          refine tky (v := ?_) rfl (by kernel_rfl) (by kernel_rfl) (by kernel_rfl) (fun _ _ _ h => h) (Or.inl ⟨by kernel_rfl, ?_⟩) (by assumption) ?_
          rotate_left
          ·(intro w hSw; (try dsimp only at hSw); go_simp) <;> with_reducible rfl
          (try simp only [Act.put, lqa, lqb, lqc, lqd, lqe, lqf])
         refine tkw ?_
         refine wpAnyH_done (by kernel_rfl) ?_ _
         clear hHeld
         go_wp2_with fail
         go_roundw
         case rel => exact ⟨k + 1, by omega, by go_num, HL10⟩
         case measure => simp [intOf]; omega
        | false =>
         have hh : Ca.hasB Sm.C d.e 2 (k : Int) 2 = true := HMk.out.resolve_left (fun q => by cases ht9 q)
         have hha := x_xhas HL10.out.ref (by omega) d.e (k : Int) (by unfold Ca.I64; omega)
         rw [hh] at hha
         clear ht9 hh
         refine tkz [7, 8, 9, 10, 11, 12, 13, 14, 15, 16, 17, 18] ?_
         iterate 12
          refine tky (v := ?_) rfl (by kernel_rfl) (by kernel_rfl) (by kernel_rfl) (fun _ _ _ h => h) (Or.inl ⟨by kernel_rfl, ?_⟩) (by assumption) ?_
          rotate_left
          ·(intro w hSw; (try dsimp only at hSw); go_simp) <;> with_reducible rfl
          (try simp only [Act.put, lqa, lqb, lqc, lqd, lqe, lqf])
         refine tkw ?_
         refine wpAnyH_ready (rs := [19]) (by kernel_rfl) (by simp) ?_
         refine AllReadyH.cons rfl (fun K hK => ?_) AllReadyH.nil
         go_simp
         refine hha.mono ?_
         rintro x w11 ⟨rfl, hb11⟩
         have HL11 : Hid _ := HL10.out.below hb11
         have z0 : w11.cell? ⟨BA, k, none⟩ = some (.slice av Xk.length cv) := (hb11.cell (cell_lt hHeld.1)).trans hHeld.1
         have z1 : w11.cell? ⟨X, 1, none⟩ = some (ptr Y.J.p1) := HL11.out.ref.c1
         have z2 : w11.cell? ⟨Y.J.p1, 1, none⟩ = some (ptr Y.QD.c) := HL11.out.ref.dc
         have z3 : w11.cell? ⟨w.heap.size, 0, none⟩ = some (.int .i64 d.e) := by rw [cell_of_heap HL11.out.bx]; rfl
         clear hha hb11
         refine hK.out _ _ ⟨z0, z1, z2, z3⟩ (fun hHeld => ?_)
         clear hK K
         (try simp only [Act.put, lqa, lqb, lqc, lqd, lqe, lqf])
         clear z0 z1 z2 z3
         refine tkz [20, 21] ?_
         iterate 2
          refine tky (v := ?_) rfl (by kernel_rfl) (by kernel_rfl) (by kernel_rfl) (fun _ _ _ h => h) (Or.inl ⟨by kernel_rfl, ?_⟩) (by assumption) ?_
          rotate_left
          ·(intro w hSw; (try dsimp only at hSw); go_simp) <;> with_reducible rfl
          (try simp only [Act.put, lqa, lqb, lqc, lqd, lqe, lqf])
         refine tkw ?_
         refine wpAnyH_done (by kernel_rfl) ?_ _
         clear hHeld HL10
         go_wp2_with fail
         go_roundw
         case rel => exact ⟨k + 1, by omega, by go_num, HL11⟩
         case measure => simp [intOf]; omega
       | false =>
        by_cases hn : n2 = 0
        ·have hz : ((n2 : Int) == 0) = true := by rw [hn]; rfl
         clear ht4 hn
         refine tkz [7, 8, 9, 10, 11, 12] ?_
         iterate 6
          refine tky (v := ?_) rfl (by kernel_rfl) (by kernel_rfl) (by kernel_rfl) (fun _ _ _ h => h) (Or.inl ⟨by kernel_rfl, ?_⟩) (by assumption) ?_
          rotate_left
          ·(intro w hSw; (try dsimp only at hSw); go_simp) <;> with_reducible rfl
          (try simp only [Act.put, lqa, lqb, lqc, lqd, lqe, lqf])
         refine tkw ?_
         refine tkz [13, 14, 15, 16, 17, 18, 19, 20, 21, 22, 23, 24] ?_
         iterate 12
          refine tky (v := undef) rfl (by kernel_rfl) (by kernel_rfl) (by kernel_rfl) (fun _ _ _ h => h) (Or.inr ⟨by kernel_rfl, rfl⟩) (by assumption) ?_
          (try simp only [Act.put, lqa, lqb, lqc, lqd, lqe, lqf])
         refine tkw ?_
         refine tkz [25] ?_
         iterate 1
          refine tky (v := ?_) rfl (by kernel_rfl) (by kernel_rfl) (by kernel_rfl) (fun _ _ _ h => h) (Or.inl ⟨by kernel_rfl, ?_⟩) (by assumption) ?_
          rotate_left
          ·(intro w hSw; (try dsimp only at hSw); go_simp) <;> with_reducible rfl
          (try simp only [Act.put, lqa, lqb, lqc, lqd, lqe, lqf])
         refine tkw ?_
         refine wpAnyH_done (by kernel_rfl) ?_ _
         clear hHeld HIff HMk
         have HL8 := HL4
         clear HL4
         have hLd := HL8.out.below (w' := w4.drew) (Below.refl _ _).drew
         have hfr := lk_block hLd HLow.out (k : Int) (by unfold Ca.I64; omega) (by omega)
         obtain ⟨r, av, cv, hr1, hr2, hr3⟩ := hLd.ba.row hlt
         obtain ⟨Xk, hXk⟩ : ∃ X, X = fb k := ⟨_, rfl⟩
         rw [← hXk] at hr2 hr3
         have z0 : w4.drew.cell? ⟨BA, k, none⟩ = some (.slice av Xk.length cv) := by rw [cell_of_heap hr1]; exact hr2
         have z1 := hLd.ref.c1
         have z2 := hLd.ref.dc
         have z3 : w4.drew.cell? ⟨w.heap.size, 0, none⟩ = some (.int .i64 d.e) := by rw [cell_of_heap hLd.bx]; rfl
         have HX : Hid _ := And.intro hXk (And.intro hr1 (And.intro hr2 hr3))
         have HLd : Hid _ := hLd
         clear hXk hr1 hr2 hr3 hLd HL8
         go_wp2_with fail
         refine wp_region_held_drew (S := fun w' => w'.cell? ⟨BA, k, none⟩ = some (.slice av Xk.length cv) ∧ w'.cell? ⟨X, 1, none⟩ = some (ptr Y.J.p1) ∧ w'.cell? ⟨Y.J.p1, 1, none⟩ = some (ptr Y.QD.c) ∧ w'.cell? ⟨w.heap.size, 0, none⟩ = some (.int .i64 d.e)) (by kernel_rfl) ⟨z0, z1, z2, z3⟩ (fun hHeld => ?_)
         clear z0 z1 z2 z3
         refine tkz [0, 1, 2, 3, 4] ?_
         iterate 5
          refine tky (v := ?_) rfl (by kernel_rfl) (by kernel_rfl) (by kernel_rfl) (fun _ _ _ h => h) (Or.inl ⟨by kernel_rfl, ?_⟩) (by assumption) ?_
          rotate_left
          ·(intro w hSw; (try dsimp only at hSw); go_simp) <;> with_reducible rfl
          (try simp only [Act.put, lqa, lqb, lqc, lqd, lqe, lqf])
         refine tkw ?_
         refine wpAnyH_ready (rs := [5]) (by kernel_rfl) (by simp) ?_
         refine AllReadyH.cons rfl (fun K hK => ?_) AllReadyH.nil
         go_simp
         refine hfr.mono ?_
         rintro x w9 ⟨u, rfl, hu9, hL9, hup9⟩
         have hq1 := HLd.out.look.stay hup9 HX.out.2.1 (by decide)
         have z0 : w9.cell? ⟨BA, k, none⟩ = some (.slice av Xk.length cv) := by rw [cell_of_heap hq1]; exact HX.out.2.2.1
         have z1 := hL9.ref.c1
         have z2 := hL9.ref.dc
         have z3 : w9.cell? ⟨w.heap.size, 0, none⟩ = some (.int .i64 d.e) := by rw [cell_of_heap hL9.bx]; rfl
         obtain ⟨au, nu, cu, hsu⟩ := hu9.shape
         subst hsu
         obtain ⟨hnu, rdu⟩ := urow_rd hu9
         subst hnu
         obtain ⟨-, rdv⟩ := urow_rd (HLd.out.look.urow hup9 HX.out.2.2.2)
         have hWd := words_dec Xk (Xd.wordsW S5.d S5.l S5.ds (k : Int)) av au cv cu w9 rdv rdu (by rw [HX.out.1]; exact HLf.out.2 k)
         have HL9 : Hid _ := hL9
         have HMk : Hid (Xk = Xd.wordsW S5.d S5.l S5.ds (k : Int) ∨ Ca.hasB Sm.C d.e 2 (k : Int) 2 = true) := by rw [HX.out.1]; exact (HMay.out k).2
         generalize Xd.wordsW S5.d S5.l S5.ds (k : Int) = E9 at *
         clear hfr hu9 hL9 hup9 hq1 rdu rdv HLd HX
         refine hK.out _ _ ⟨z0, z1, z2, z3⟩ (fun hHeld => ?_)
         clear hK K
         (try simp only [Act.put, lqa, lqb, lqc, lqd, lqe, lqf])
         refine wpAnyH_ready (rs := [6]) (by kernel_rfl) (by simp) ?_
         refine AllReadyH.cons rfl (fun K hK => ?_) AllReadyH.nil
         go_simp
         refine hWd.mono ?_
         rintro x w10 ⟨t9, rfl, ht9, hb10⟩
         have HL10 : Hid _ := HL9.out.below hb10
         have y0 := (hb10.cell (cell_lt z0)).trans z0
         have y1 := (hb10.cell (cell_lt z1)).trans z1
         have y2 := (hb10.cell (cell_lt z2)).trans z2
         have y3 := (hb10.cell (cell_lt z3)).trans z3
         clear hWd hb10 z0 z1 z2 z3 HL9
         refine hK.out _ _ ⟨y0, y1, y2, y3⟩ (fun hHeld => ?_)
         clear hK K
         (try simp only [Act.put, lqa, lqb, lqc, lqd, lqe, lqf])
         clear y0 y1 y2 y3
         cases t9 with
         | true =>
          clear ht9
          refine tkz [7, 8] ?_
          iterate 2
           refine tky (v := ?_) rfl (by kernel_rfl) (by kernel_rfl) (by kernel_rfl) (fun _ _ _ h => h) (Or.inl ⟨by kernel_rfl, ?_⟩) (by assumption) ?_
           rotate_left
           ·(intro w hSw; (try dsimp only at hSw); go_simp) <;> with_reducible rfl
           (try simp only [Act.put, lqa, lqb, lqc, lqd, lqe, lqf])
          refine tkw ?_
          refine tkz [9, 10, 11, 12, 13, 14, 15, 16, 17, 18, 19, 20] ?_
          iterate 12
           refine tky (v := undef) rfl (by kernel_rfl) (by kernel_rfl) (by kernel_rfl) (fun _ _ _ h => h) (Or.inr ⟨by kernel_rfl, rfl⟩) (by assumption) ?_
           (try simp only [Act.put, lqa, lqb, lqc, lqd, lqe, lqf])
          refine tkw ?_
          refine tkz [21] ?_
          iterate 1
           refine tky (v := ?_) rfl (by kernel_rfl) (by kernel_rfl) (by kernel_rfl) (fun _ _ _ h => h) (Or.inl ⟨by kernel_rfl, ?_⟩) (by assumption) ?_
           rotate_left
           ·(intro w hSw; (try dsimp only at hSw); go_simp) <;> with_reducible rfl
           (try simp only [Act.put, lqa, lqb, lqc, lqd, lqe, lqf])
          refine tkw ?_
          refine wpAnyH_done (by kernel_rfl) ?_ _
          clear hHeld
          go_wp2_with fail
          go_roundw
          case rel => exact ⟨k + 1, by omega, by go_num, HL10⟩
          case measure => simp [intOf]; omega
         | false =>
          have hh : Ca.hasB Sm.C d.e 2 (k : Int) 2 = true := HMk.out.resolve_left (fun q => by cases ht9 q)
          have hha := x_xhas HL10.out.ref (by omega) d.e (k : Int) (by unfold Ca.I64; omega)
          rw [hh] at hha
          clear ht9 hh
          refine tkz [7, 8, 9, 10, 11, 12, 13, 14, 15, 16, 17, 18] ?_
          iterate 12
           refine tky (v := ?_) rfl (by kernel_rfl) (by kernel_rfl) (by kernel_rfl) (fun _ _ _ h => h) (Or.inl ⟨by kernel_rfl, ?_⟩) (by assumption) ?_
           rotate_left
           ·(intro w hSw; (try dsimp only at hSw); go_simp) <;> with_reducible rfl
           (try simp only [Act.put, lqa, lqb, lqc, lqd, lqe, lqf])
          refine tkw ?_
          refine wpAnyH_ready (rs := [19]) (by kernel_rfl) (by simp) ?_
          refine AllReadyH.cons rfl (fun K hK => ?_) AllReadyH.nil
          go_simp
          refine hha.mono ?_
          rintro x w11 ⟨rfl, hb11⟩
          have HL11 : Hid _ := HL10.out.below hb11
          have z0 : w11.cell? ⟨BA, k, none⟩ = some (.slice av Xk.length cv) := (hb11.cell (cell_lt hHeld.1)).trans hHeld.1
          have z1 : w11.cell? ⟨X, 1, none⟩ = some (ptr Y.J.p1) := HL11.out.ref.c1
          have z2 : w11.cell? ⟨Y.J.p1, 1, none⟩ = some (ptr Y.QD.c) := HL11.out.ref.dc
          have z3 : w11.cell? ⟨w.heap.size, 0, none⟩ = some (.int .i64 d.e) := by rw [cell_of_heap HL11.out.bx]; rfl
          clear hha hb11
          refine hK.out _ _ ⟨z0, z1, z2, z3⟩ (fun hHeld => ?_)
          clear hK K
          (try simp only [Act.put, lqa, lqb, lqc, lqd, lqe, lqf])
          clear z0 z1 z2 z3
          refine tkz [20, 21] ?_
          iterate 2
           refine tky (v := ?_) rfl (by kernel_rfl) (by kernel_rfl) (by kernel_rfl) (fun _ _ _ h => h) (Or.inl ⟨by kernel_rfl, ?_⟩) (by assumption) ?_
           rotate_left
           ·(intro w hSw; (try dsimp only at hSw); go_simp) <;> with_reducible rfl
           (try simp only [Act.put, lqa, lqb, lqc, lqd, lqe, lqf])
          refine tkw ?_
          refine wpAnyH_done (by kernel_rfl) ?_ _
          clear hHeld HL10
          go_wp2_with fail
          go_roundw
          case rel => exact ⟨k + 1, by omega, by go_num, HL11⟩
          case measure => simp [intOf]; omega
        ·have hz : ((n2 : Int) == 0) = false := by rw [beq_eq_false_iff_ne]; omega
         have hh : Ca.hasB Sm.T d.e 1 (k : Int) 2 = true := (HMk.out.resolve_left (fun q => by cases ht4 q)).resolve_left (fun q => hn (HIff.out.2 q))
         have hha := x_has HL4.out.ref (by omega) d.e (k : Int) (by unfold Ca.I64; omega)
         rw [hh] at hha
         clear ht4 hh hn
         refine tkz [7, 8, 9, 10, 11, 12, 13, 14, 15, 16, 17, 18, 19, 20, 21, 22] ?_
         iterate 16
          refine tky (v := ?_) rfl (by kernel_rfl) (by kernel_rfl) (by kernel_rfl) (fun _ _ _ h => h) (Or.inl ⟨by kernel_rfl, ?_⟩) (by assumption) ?_
          rotate_left
          ·(intro w hSw; (try dsimp only at hSw); go_simp) <;> with_reducible rfl
          (try simp only [Act.put, lqa, lqb, lqc, lqd, lqe, lqf])
         refine tkw ?_
         refine wpAnyH_ready (rs := [23]) (by kernel_rfl) (by simp) ?_
         refine AllReadyH.cons rfl (fun K hK => ?_) AllReadyH.nil
         go_simp
         refine hha.mono ?_
         rintro x w5 ⟨rfl, hb5⟩
         have HL8 : Hid _ := HL4.out.below hb5
         have z0 : w5.cell? ⟨FA, k, none⟩ = some (.slice av Xk.length cv) := (hb5.cell (cell_lt hHeld.1)).trans hHeld.1
         have z1 : w5.cell? ⟨X, 0, none⟩ = some (ptr Y.J.p0) := HL8.out.ref.c0
         have z2 : w5.cell? ⟨Y.J.p0, 1, none⟩ = some (ptr Y.QM.c) := HL8.out.ref.mc
         have z3 : w5.cell? ⟨w.heap.size, 0, none⟩ = some (.int .i64 d.e) := by rw [cell_of_heap HL8.out.bx]; rfl
         clear hha hb5
         refine hK.out _ _ ⟨z0, z1, z2, z3⟩ (fun hHeld => ?_)
         clear hK K
         (try simp only [Act.put, lqa, lqb, lqc, lqd, lqe, lqf])
         clear z0 z1 z2 z3
         refine tkz [24, 25] ?_
         iterate 2
          refine tky (v := ?_) rfl (by kernel_rfl) (by kernel_rfl) (by kernel_rfl) (fun _ _ _ h => h) (Or.inl ⟨by kernel_rfl, ?_⟩) (by assumption) ?_
          rotate_left
          ·(intro w hSw; (try dsimp only at hSw); go_simp) <;> with_reducible rfl
          (try simp only [Act.put, lqa, lqb, lqc, lqd, lqe, lqf])
         refine tkw ?_
         refine wpAnyH_done (by kernel_rfl) ?_ _
         clear hHeld HIff HMk HL4
         have hLd := HL8.out.below (w' := w5.drew) (Below.refl _ _).drew
         have hfr := lk_block hLd HLow.out (k : Int) (by unfold Ca.I64; omega) (by omega)
         obtain ⟨r, av, cv, hr1, hr2, hr3⟩ := hLd.ba.row hlt
         obtain ⟨Xk, hXk⟩ : ∃ X, X = fb k := ⟨_, rfl⟩
         rw [← hXk] at hr2 hr3
         have z0 : w5.drew.cell? ⟨BA, k, none⟩ = some (.slice av Xk.length cv) := by rw [cell_of_heap hr1]; exact hr2
         have z1 := hLd.ref.c1
         have z2 := hLd.ref.dc
         have z3 : w5.drew.cell? ⟨w.heap.size, 0, none⟩ = some (.int .i64 d.e) := by rw [cell_of_heap hLd.bx]; rfl
         have HX : Hid _ := And.intro hXk (And.intro hr1 (And.intro hr2 hr3))
         have HLd : Hid _ := hLd
         clear hXk hr1 hr2 hr3 hLd HL8
         go_wp2_with fail
         refine wp_region_held_drew (S := fun w' => w'.cell? ⟨BA, k, none⟩ = some (.slice av Xk.length cv) ∧ w'.cell? ⟨X, 1, none⟩ = some (ptr Y.J.p1) ∧ w'.cell? ⟨Y.J.p1, 1, none⟩ = some (ptr Y.QD.c) ∧ w'.cell? ⟨w.heap.size, 0, none⟩ = some (.int .i64 d.e)) (by kernel_rfl) ⟨z0, z1, z2, z3⟩ (fun hHeld => ?_)
         clear z0 z1 z2 z3
         refine tkz [0, 1, 2, 3, 4] ?_
         iterate 5
          refine tky (v := ?_) rfl (by kernel_rfl) (by kernel_rfl) (by kernel_rfl) (fun _ _ _ h => h) (Or.inl ⟨by kernel_rfl, ?_⟩) (by assumption) ?_
          rotate_left
          ·(intro w hSw; (try dsimp only at hSw); go_simp) <;> with_reducible rfl
          (try simp only [Act.put, lqa, lqb, lqc, lqd, lqe, lqf])
         refine tkw ?_
         refine wpAnyH_ready (rs := [5]) (by kernel_rfl) (by simp) ?_
         refine AllReadyH.cons rfl (fun K hK => ?_) AllReadyH.nil
         go_simp
         refine hfr.mono ?_
         rintro x w9 ⟨u, rfl, hu9, hL9, hup9⟩
         have hq1 := HLd.out.look.stay hup9 HX.out.2.1 (by decide)
         have z0 : w9.cell? ⟨BA, k, none⟩ = some (.slice av Xk.length cv) := by rw [cell_of_heap hq1]; exact HX.out.2.2.1
         have z1 := hL9.ref.c1
         have z2 := hL9.ref.dc
         have z3 : w9.cell? ⟨w.heap.size, 0, none⟩ = some (.int .i64 d.e) := by rw [cell_of_heap hL9.bx]; rfl
         obtain ⟨au, nu, cu, hsu⟩ := hu9.shape
         subst hsu
         obtain ⟨hnu, rdu⟩ := urow_rd hu9
         subst hnu
         obtain ⟨-, rdv⟩ := urow_rd (HLd.out.look.urow hup9 HX.out.2.2.2)
         have hWd := words_dec Xk (Xd.wordsW S5.d S5.l S5.ds (k : Int)) av au cv cu w9 rdv rdu (by rw [HX.out.1]; exact HLf.out.2 k)
         have HL9 : Hid _ := hL9
         have HMk : Hid (Xk = Xd.wordsW S5.d S5.l S5.ds (k : Int) ∨ Ca.hasB Sm.C d.e 2 (k : Int) 2 = true) := by rw [HX.out.1]; exact (HMay.out k).2
         generalize Xd.wordsW S5.d S5.l S5.ds (k : Int) = E9 at *
         clear hfr hu9 hL9 hup9 hq1 rdu rdv HLd HX
         refine hK.out _ _ ⟨z0, z1, z2, z3⟩ (fun hHeld => ?_)
         clear hK K
         (try simp only [Act.put, lqa, lqb, lqc, lqd, lqe, lqf])
         refine wpAnyH_ready (rs := [6]) (by kernel_rfl) (by simp) ?_
         refine AllReadyH.cons rfl (fun K hK => ?_) AllReadyH.nil
         go_simp
         refine hWd.mono ?_
         rintro x w10 ⟨t9, rfl, ht9, hb10⟩
         have HL10 : Hid _ := HL9.out.below hb10
         have y0 := (hb10.cell (cell_lt z0)).trans z0
         have y1 := (hb10.cell (cell_lt z1)).trans z1
         have y2 := (hb10.cell (cell_lt z2)).trans z2
         have y3 := (hb10.cell (cell_lt z3)).trans z3
         clear hWd hb10 z0 z1 z2 z3 HL9
         refine hK.out _ _ ⟨y0, y1, y2, y3⟩ (fun hHeld => ?_)
         clear hK K
         (try simp only [Act.put, lqa, lqb, lqc, lqd, lqe, lqf])
         clear y0 y1 y2 y3
         cases t9 with
         | true =>
          clear ht9
          refine tkz [7, 8] ?_
          iterate 2
           refine tky (v := ?_) rfl (by kernel_rfl) (by kernel_rfl) (by kernel_rfl) (fun _ _ _ h => h) (Or.inl ⟨by kernel_rfl, ?_⟩) (by assumption) ?_
           rotate_left
           ·(intro w hSw; (try dsimp only at hSw); go_simp) <;> with_reducible rfl
           (try simp only [Act.put, lqa, lqb, lqc, lqd, lqe, lqf])
          refine tkw ?_
          refine tkz [9, 10, 11, 12, 13, 14, 15, 16, 17, 18, 19, 20] ?_
          iterate 12
           refine tky (v := undef) rfl (by kernel_rfl) (by kernel_rfl) (by kernel_rfl) (fun _ _ _ h => h) (Or.inr ⟨by kernel_rfl, rfl⟩) (by assumption) ?_
           (try simp only [Act.put, lqa, lqb, lqc, lqd, lqe, lqf])
          refine tkw ?_
          refine tkz [21] ?_
          iterate 1
           refine tky (v := ?_) rfl (by kernel_rfl) (by kernel_rfl) (by kernel_rfl) (fun _ _ _ h => h) (Or.inl ⟨by kernel_rfl, ?_⟩) (by assumption) ?_
           rotate_left
           ·(intro w hSw; (try dsimp only at hSw); go_simp) <;> with_reducible rfl
           (try simp only [Act.put, lqa, lqb, lqc, lqd, lqe, lqf])
          refine tkw ?_
          refine wpAnyH_done (by kernel_rfl) ?_ _
          clear hHeld
          go_wp2_with fail
          go_roundw
          case rel => exact ⟨k + 1, by omega, by go_num, HL10⟩
          case measure => simp [intOf]; omega
         | false =>
          have hh : Ca.hasB Sm.C d.e 2 (k : Int) 2 = true := HMk.out.resolve_left (fun q => by cases ht9 q)
          have hha := x_xhas HL10.out.ref (by omega) d.e (k : Int) (by unfold Ca.I64; omega)
          rw [hh] at hha
          clear ht9 hh
          refine tkz [7, 8, 9, 10, 11, 12, 13, 14, 15, 16, 17, 18] ?_
          iterate 12
           refine tky (v := ?_) rfl (by kernel_rfl) (by kernel_rfl) (by kernel_rfl) (fun _ _ _ h => h) (Or.inl ⟨by kernel_rfl, ?_⟩) (by assumption) ?_
           rotate_left
           ·(intro w hSw; (try dsimp only at hSw); go_simp) <;> with_reducible rfl
           (try simp only [Act.put, lqa, lqb, lqc, lqd, lqe, lqf])
          refine tkw ?_
          refine wpAnyH_ready (rs := [19]) (by kernel_rfl) (by simp) ?_
          refine AllReadyH.cons rfl (fun K hK => ?_) AllReadyH.nil
          go_simp
          refine hha.mono ?_
          rintro x w11 ⟨rfl, hb11⟩
          have HL11 : Hid _ := HL10.out.below hb11
          have z0 : w11.cell? ⟨BA, k, none⟩ = some (.slice av Xk.length cv) := (hb11.cell (cell_lt hHeld.1)).trans hHeld.1
          have z1 : w11.cell? ⟨X, 1, none⟩ = some (ptr Y.J.p1) := HL11.out.ref.c1
          have z2 : w11.cell? ⟨Y.J.p1, 1, none⟩ = some (ptr Y.QD.c) := HL11.out.ref.dc
          have z3 : w11.cell? ⟨w.heap.size, 0, none⟩ = some (.int .i64 d.e) := by rw [cell_of_heap HL11.out.bx]; rfl
          clear hha hb11
          refine hK.out _ _ ⟨z0, z1, z2, z3⟩ (fun hHeld => ?_)
          clear hK K
          (try simp only [Act.put, lqa, lqb, lqc, lqd, lqe, lqf])
          clear z0 z1 z2 z3
          refine tkz [20, 21] ?_
          iterate 2
           refine tky (v := ?_) rfl (by kernel_rfl) (by kernel_rfl) (by kernel_rfl) (fun _ _ _ h => h) (Or.inl ⟨by kernel_rfl, ?_⟩) (by assumption) ?_
           rotate_left
           ·(intro w hSw; (try dsimp only at hSw); go_simp) <;> with_reducible rfl
           (try simp only [Act.put, lqa, lqb, lqc, lqd, lqe, lqf])
          refine tkw ?_
          refine wpAnyH_done (by kernel_rfl) ?_ _
          clear hHeld HL10
          go_wp2_with fail
          go_roundw
          case rel => exact ⟨k + 1, by omega, by go_num, HL11⟩
          case measure => simp [intOf]; omega
      ·have kg2 : ¬ (k : Int) < 16 := by omega
       have HB5 : Hid (Below W.heap.size W wr) := HLk.out.bl
       have hFw := HFW.out.below (Frm.pos HFW.out) HB5.out
       clear HLk
       go_wp2_with fail
       refine (awake_at wr hFw).mono ?_
       rintro x w6 ⟨rfl, hb6⟩
       go_wp2
       go_ret
       exact ⟨rfl, HBW.out.trans ((HB5.out.trans (hb6.mono HB5.out.size)).mono HBW.out.size)⟩
    ·have hne : (err == 0) = false := by simpa using he
     have hFw := HFW.out.below (Frm.pos HFW.out) HB5.out
     clear he HLk5
     go_wp2_with fail
     refine (awake_at wC hFw).mono ?_
     rintro x w6 ⟨rfl, hb6⟩
     go_wp2
     go_ret
     exact ⟨rfl, HBW.out.trans ((HB5.out.trans (hb6.mono HB5.out.size)).mono HBW.out.size)⟩
end Go.Proofs.YtbhpafgoofkkmaaGreatDoor
