/- Proved: januslaw13.ExoRefuses answers true for all raw calls (a raw call that answers an error changes nothing that environments 0 to 3 see, no frame and no block of the first sixteen, and answers no words), at the commit of this claim; where the variable exo.forms is laid as the program's text lays it (the card ties that). -/
import Derived.Test.YtbhpafgoofkkmaaGreatDoorXoT
import Derived.Test.YtbhpafgoofkkmaaGreatDoorRxB
import Derived.Deep.DeepCutAuto
import Derived.Deep.CutBlock
namespace Go.Proofs.YtbhpafgoofkkmaaGreatDoor
open Go.ChangeShapes Go.WideShapes Go.ChangeAt Go.RowKit
set_option linter.unusedVariables false

theorem sees_len {w : World} {K : Nat} {L : XL} {S : XS} (h : ExoAt w K L S) (hd : S.d = 16) (e : Int) : (seesV S e).length ≤ 1000000 := by
  unfold seesV
  split
  · have h1 := seesF_len S.n S.T S.vs e 64
    have h2 := seesP_len S.F e 4
    have h3 := seesX_len h.disk.linv h.disk.len h.disk.inv e 64
    rw [hd] at h3
    simp [catL]
    omega
  · simp
theorem wordsW_len {w0 wr : World} {K k : Nat} {L : XL} {S : XS} (h : LookAt w0 wr K L S k) (b : Int) : (Xd.wordsW S.d S.l S.ds b).length ≤ 32 := by
  unfold Xd.wordsW
  split
  · rename_i hb
    rw [Xd.lookW_len h.e0.disk.linv h.e0.disk.len (by omega)]
    exact Nat.le_refl _
  · simp
theorem catB_len {w0 wr : World} {K k : Nat} {L : XL} {S : XS} (h : LookAt w0 wr K L S k) : ∀ i, i ≤ 16 → (catB S i).length ≤ 32 * i
  | 0, _ => by simp [catB]
  | i + 1, hi => by
    have h1 := catB_len h i (by omega)
    have h2 := wordsW_len h (i : Int)
    simp only [catB, List.length_append]
    omega
/-- What was seen: the first k cells of a block of four. -/
def Was (w : World) (A : Nat) (S : XS) (k : Nat) : Prop := ∃ r : Array Value, w.heap[A]? = some (.cells r 39) ∧ r.size = 4 ∧ ∀ j, j < k → ∃ v, r[j]? = some v ∧ URow 0 w v (seesV S j)
theorem Was.below {w w' : World} {A : Nat} {S : XS} {k : Nat} (h : Was w A S k) (hb : Below w.heap.size w w') : Was w' A S k := by
  obtain ⟨r, h1, h2, h3⟩ := h
  refine ⟨r, (hb.block _ (lt_of_heap h1)).trans h1, h2, fun j hj => ?_⟩
  obtain ⟨v, h4, h5⟩ := h3 j hj
  exact ⟨v, h4, URow.bel h5 hb⟩
theorem Was.look {w0 wr w' : World} {K n : Nat} {L : XL} {S2 : XS} {A : Nat} {S : XS} {k : Nat} (h : Was wr A S k) (hl : LookAt w0 wr K L S2 n) (hu : Upd L.D.b wr w') : Was w' A S k := by
  obtain ⟨r, h1, h2, h3⟩ := h
  refine ⟨r, hl.stay hu h1 (by decide), h2, fun j hj => ?_⟩
  obtain ⟨v, h4, h5⟩ := h3 j hj
  exact ⟨v, h4, hl.urow hu h5⟩
theorem Was.tch {w w' : World} {K : Nat} {L : XL} {S2 : XS} {i : Prop} {A : Nat} {S : XS} {k : Nat} (h : Was w A S k) (ht : XTch L i w w') (hx : ExoAt w K L S2) : Was w' A S k := by
  obtain ⟨r, h1, h2, h3⟩ := h
  refine ⟨r, ht.other hx h1 (by decide), h2, fun j hj => ?_⟩
  obtain ⟨v, h4, h5⟩ := h3 j hj
  exact ⟨v, h4, URow.tch h5 ht hx⟩
/-- The next is laid. -/
theorem Was.set {w : World} {A : Nat} {S : XS} {k : Nat} {v : Value} (h : Was w A S k) (hk : k < 4) (hv : URow 0 w v (seesV S k)) : Was (w.setCell ⟨A, k, none⟩ v) A S (k + 1) := by
  obtain ⟨r, h1, h2, h3⟩ := h
  have hv1 : v.oneCell' = true := by
    obtain ⟨a, c, rfl, _⟩ := hv
    rfl
  have hA : (w.setCell ⟨A, k, none⟩ v).heap[A]? = some (.cells (r.setIfInBounds k v) 39) := by
    rw [setCell_eq_setRow w A _ _ _ _ _ h1, setRow_heap w A _ _ _ _ h1]
  have hrow : ∀ {u : Value} {xs : List Int}, URow 0 w u xs → URow 0 (w.setCell ⟨A, k, none⟩ v) u xs := fun hu => URow.upd hu (Upd.setCell A k w v) h1 (by decide)
  refine ⟨_, hA, by simp [h2], fun j hj => ?_⟩
  by_cases e : j = k
  · subst e
    exact ⟨v, by simp [h2, hk], hrow hv⟩
  · obtain ⟨u, h4, h5⟩ := h3 j (by omega)
    exact ⟨u, by rw [Array.getElem?_setIfInBounds_ne (by omega)]; exact h4, hrow h5⟩

set_option maxRecDepth 100000 in
set_option maxHeartbeats 4000000 in
theorem refuses_walk (a0 : Option Addr) (ll lc : Nat) (d : Ask) (w : World) (hF : Frm w) (hl : ll ≤ 9223372036854775807) (HL : Hid (AsksAt w a0 ll)) (HD0 : Hid (AskOk w d)) :
    Calls Tryz.prog 4 #[.slice a0 ll lc, .agg (askRow d)] w fun x w' => x = .returned (.bool true) ∧ Below w.heap.size w w' := by
  obtain ⟨W, hW⟩ : ∃ W, W = w.alloc (.cells (askRow d) 32) := ⟨_, rfl⟩
  have hbW : Below w.heap.size w W := by rw [hW]; exact Ca.below_alloc _ _
  have hXW : W.heap[w.heap.size]? = some (.cells (askRow d) 32) := by rw [hW]; exact heap_alloc_new _ _
  have HLW : Hid (AsksAt W a0 ll) := AsksAt.below HL.out hbW
  have HDW : Hid (AskOk W d) := AskOk.below HD0.out hbW
  have HFW : Hid (Frm W) := hF.below (Frm.pos hF) hbW
  have HBW : Hid _ := hbW
  have HXW : Hid _ := hXW
  have HW : Hid _ := hW
  clear hbW hXW hW hF HL HD0
  have hwo := worlds_at W
  go_enter Tryz.func4, Tryz.ntmps4
  go_wp2_with fail
  rw [← HW.out]
  clear HW
  refine hwo.mono ?_
  rintro x w1 ⟨K, L, X, rfl, hE1, hb1, hK, hLow⟩
  have HLow : Hid (XLow L W.heap.size) := hLow
  have HR1 : Hid (RunAt W w1 K L 0 (wS 4)) := ⟨hE1, (XI.zero 8 16).env _, Nat.le_refl _, rfl, hb1⟩
  clear hE1 hb1 hK hLow hwo
  go_upto_block 0 with fail
  go_cut [8] (fun _ wc => ∃ (i : Nat) (S : XS), i ≤ 80 ∧ Hid (RunAt W wc K L i S))
  case first =>
    go_wp2_with fail
    go_loopw [8] (fun s wr => ∃ (i : Nat) (S : XS), i ≤ ll ∧ i ≤ 80 ∧ s = .int .i64 i ∧ Hid (RunAt W wr K L i S)) (fun s _ => 80 - (intOf s).toNat)
    case atStart => exact ⟨0, _, by omega, by omega, rfl, HR1⟩
    case round =>
      clear HR1
      obtain ⟨i, S, hil, hi8, rfl, HR⟩ := hrel
      by_cases hlt : i < ll ∧ i < 80
      · obtain ⟨l1, l2⟩ := hlt
        obtain ⟨gb, off, d1, rfl, c0, c1, hok⟩ := HLW.out i l1
        have g0 : decide ((i : Int) < (ll : Int)) = true := decide_eq_true (by omega)
        have g1 : decide ((i : Int) < 80) = true := decide_eq_true (by omega)
        have ii : (i : Int) < (ll : Int) := by omega
        have hbd : Below W.heap.size W wr.drew := HR.out.bl.drew
        have z0 := (hbd.cell (cell_lt c0)).trans c0
        have z1 := (hbd.cell (cell_lt c1)).trans c1
        have hRd : RunAt W wr.drew K L i S := ⟨HR.out.ex.below (Below.refl _ _).drew, HR.out.xi, HR.out.m, HR.out.d, hbd⟩
        have hraw := run_raw hRd HFW.out HLow.out d1 hok (by omega)
        have HC : Hid _ := And.intro c0 c1
        clear c0 c1 hok hbd hRd HR
        go_wp2_with fail
        refine wp_region_held_drew (S := fun w' => w'.cell? ⟨gb, off + i * 2, none⟩ = some (.int .i64 d1.e) ∧ w'.cell? ⟨gb, off + i * 2 + 1, none⟩ = some (.slice d1.a d1.ws.length d1.cap)) (by kernel_rfl) ⟨z0, z1⟩ (fun hHeld => ?_)
        refine wpAnyH_take (i := 0) (v := ?_) rfl (by kernel_rfl) (by kernel_rfl) (by kernel_rfl) (fun _ _ _ h => h) (Or.inl ⟨by kernel_rfl, ?_⟩) (by assumption) ?_
        rotate_left
        · (intro w hSw; (try dsimp only at hSw); go_simp) <;> with_reducible rfl
        (try simp only [Act.put, List.getElem_toArray, List.getElem_cons_zero, List.setIfInBounds_toArray, List.set_cons_zero, List.set_cons_succ])
        refine wpAnyH_take (i := 1) (v := ?_) rfl (by kernel_rfl) (by kernel_rfl) (by kernel_rfl) (fun _ _ _ h => h) (Or.inl ⟨by kernel_rfl, ?_⟩) (by assumption) ?_
        rotate_left
        · (intro w hSw; (try dsimp only at hSw); go_simp) <;> with_reducible rfl
        (try simp only [Act.put, List.getElem_toArray, List.getElem_cons_zero, List.getElem_cons_succ, List.setIfInBounds_toArray, List.set_cons_zero, List.set_cons_succ])
        refine wpAnyH_take (i := 2) (v := ?_) rfl (by kernel_rfl) (by kernel_rfl) (by kernel_rfl) (fun _ _ _ h => h) (Or.inl ⟨by kernel_rfl, ?_⟩) (by assumption) ?_
        rotate_left
        · (intro w hSw; (try dsimp only at hSw); go_simp) <;> with_reducible rfl
        (try simp only [Act.put, List.getElem_toArray, List.getElem_cons_zero, List.getElem_cons_succ, List.setIfInBounds_toArray, List.set_cons_zero, List.set_cons_succ])
        refine wpAnyH_take (i := 3) (v := ?_) rfl (by kernel_rfl) (by kernel_rfl) (by kernel_rfl) (fun _ _ _ h => h) (Or.inl ⟨by kernel_rfl, ?_⟩) (by assumption) ?_
        rotate_left
        · (intro w hSw; (try dsimp only at hSw); go_simp) <;> with_reducible rfl
        (try simp only [Act.put, List.getElem_toArray, List.getElem_cons_zero, List.getElem_cons_succ, List.setIfInBounds_toArray, List.set_cons_zero, List.set_cons_succ])
        refine wpAnyH_take (i := 4) (v := ?_) rfl (by kernel_rfl) (by kernel_rfl) (by kernel_rfl) (fun _ _ _ h => h) (Or.inl ⟨by kernel_rfl, ?_⟩) (by assumption) ?_
        rotate_left
        · (intro w hSw; (try dsimp only at hSw); go_simp) <;> with_reducible rfl
        (try simp only [Act.put, List.getElem_toArray, List.getElem_cons_zero, List.getElem_cons_succ, List.setIfInBounds_toArray, List.set_cons_zero, List.set_cons_succ])
        refine wpAnyH_take (i := 5) (v := ?_) rfl (by kernel_rfl) (by kernel_rfl) (by kernel_rfl) (fun _ _ _ h => h) (Or.inl ⟨by kernel_rfl, ?_⟩) (by assumption) ?_
        rotate_left
        · (intro w hSw; (try dsimp only at hSw); go_simp) <;> with_reducible rfl
        (try simp only [Act.put, List.getElem_toArray, List.getElem_cons_zero, List.getElem_cons_succ, List.setIfInBounds_toArray, List.set_cons_zero, List.set_cons_succ])
        refine wpAnyH_take (i := 6) (v := ?_) rfl (by kernel_rfl) (by kernel_rfl) (by kernel_rfl) (fun _ _ _ h => h) (Or.inl ⟨by kernel_rfl, ?_⟩) (by assumption) ?_
        rotate_left
        · (intro w hSw; (try dsimp only at hSw); go_simp) <;> with_reducible rfl
        (try simp only [Act.put, List.getElem_toArray, List.getElem_cons_zero, List.getElem_cons_succ, List.setIfInBounds_toArray, List.set_cons_zero, List.set_cons_succ])
        refine wpAnyH_take (i := 7) (v := ?_) rfl (by kernel_rfl) (by kernel_rfl) (by kernel_rfl) (fun _ _ _ h => h) (Or.inl ⟨by kernel_rfl, ?_⟩) (by assumption) ?_
        rotate_left
        · (intro w hSw; (try dsimp only at hSw); go_simp) <;> with_reducible rfl
        (try simp only [Act.put, List.getElem_toArray, List.getElem_cons_zero, List.getElem_cons_succ, List.setIfInBounds_toArray, List.set_cons_zero, List.set_cons_succ])
        refine wpAnyH_take (i := 8) (v := ?_) rfl (by kernel_rfl) (by kernel_rfl) (by kernel_rfl) (fun _ _ _ h => h) (Or.inl ⟨by kernel_rfl, ?_⟩) (by assumption) ?_
        rotate_left
        · (intro w hSw; (try dsimp only at hSw); go_simp) <;> with_reducible rfl
        (try simp only [Act.put, List.getElem_toArray, List.getElem_cons_zero, List.getElem_cons_succ, List.setIfInBounds_toArray, List.set_cons_zero, List.set_cons_succ])
        refine wpAnyH_take (i := 9) (v := ?_) rfl (by kernel_rfl) (by kernel_rfl) (by kernel_rfl) (fun _ _ _ h => h) (Or.inl ⟨by kernel_rfl, ?_⟩) (by assumption) ?_
        rotate_left
        · (intro w hSw; (try dsimp only at hSw); go_simp) <;> with_reducible rfl
        (try simp only [Act.put, List.getElem_toArray, List.getElem_cons_zero, List.getElem_cons_succ, List.setIfInBounds_toArray, List.set_cons_zero, List.set_cons_succ])
        refine wpAnyH_take (i := 10) (v := ?_) rfl (by kernel_rfl) (by kernel_rfl) (by kernel_rfl) (fun _ _ _ h => h) (Or.inl ⟨by kernel_rfl, ?_⟩) (by assumption) ?_
        rotate_left
        · (intro w hSw; (try dsimp only at hSw); go_simp) <;> with_reducible rfl
        (try simp only [Act.put, List.getElem_toArray, List.getElem_cons_zero, List.getElem_cons_succ, List.setIfInBounds_toArray, List.set_cons_zero, List.set_cons_succ])
        refine wpAnyH_ready (rs := [11]) (by kernel_rfl) (by simp) ?_
        refine AllReadyH.cons rfl (fun K hK => ?_) AllReadyH.nil
        go_simp
        refine hraw.mono ?_
        rintro x w2 ⟨S', a, n, c, err, rfl, hR2, _, _⟩
        have y0 := (hR2.bl.cell (cell_lt HC.out.1)).trans HC.out.1
        have y1 := (hR2.bl.cell (cell_lt HC.out.2)).trans HC.out.2
        have HR2 : Hid _ := hR2
        clear hraw hR2
        refine hK.out _ _ (And.intro y0 y1) (fun hHeld => ?_)
        clear hK K
        (try simp only [Act.put, List.getElem_toArray, List.getElem_cons_zero, List.getElem_cons_succ, List.setIfInBounds_toArray, List.set_cons_zero, List.set_cons_succ])
        refine wpAnyH_done (by kernel_rfl) ?_ _
        clear hHeld y0 y1 z0 z1
        go_wp2
        go_roundw
        case rel => exact ⟨i + 1, S', by omega, by omega, by go_num, HR2⟩
        case measure => simp [intOf]; omega
      · go_wp2
        all_goals
          go_meet
          case rel => exact ⟨i, S, hi8, HR⟩
  case rest =>
    obtain ⟨i0, S, hi8, HR⟩ := hcut
    clear HR1
    rename_i wc
    obtain ⟨V, hV⟩ : ∃ V, V = wc.alloc (.cells #[.slice none 0 0, .slice none 0 0, .slice none 0 0, .slice none 0 0] 39) := ⟨_, rfl⟩
    have hbV : Below wc.heap.size wc V := by rw [hV]; exact Ca.below_alloc _ _
    have hAV : V.heap[wc.heap.size]? = some (.cells #[.slice none 0 0, .slice none 0 0, .slice none 0 0, .slice none 0 0] 39) := by rw [hV]; exact heap_alloc_new _ _
    have HLk0 : Hid (LookAt wc V K L S i0) := LookAt.over (look_start HR.out.ex HR.out.m HR.out.d) hbV
    have HWas0 : Hid (Was V wc.heap.size S 0) := ⟨_, hAV, rfl, fun j hj => by omega⟩
    have HV : Hid _ := hV
    clear hbV hAV hV
    go_wp2
    rw [← HV.out]
    clear HV
    obtain ⟨A, hA⟩ : ∃ A, A = wc.heap.size := ⟨_, rfl⟩
    rw [← hA] at HWas0 ⊢
    have HAq : Hid _ := hA
    clear hA
    go_loopw [12] (fun s wq => ∃ (k : Nat), k ≤ 4 ∧ s = .int .i64 k ∧ Hid (Was wq A S k) ∧ Hid (LookAt wc wq K L S (i0 + 1024 * k))) (fun s _ => 4 - (intOf s).toNat)
    case atStart => exact ⟨0, by omega, rfl, HWas0, HLk0⟩
    case round =>
      clear HWas0 HLk0
      obtain ⟨k, hk, rfl, HWas, HLk⟩ := hrel
      by_cases hlt : k < 4
      · have ik : (k : Int) < 4 := by omega
        have hse := look_sees HLk.out (k : Int) (by omega)
        go_wp2_with fail
        refine hse.mono ?_
        rintro x w3 ⟨v, rfl, hr, hl3, hu3⟩
        have hW3 := Was.look HWas.out HLk.out hu3
        have HW4 : Hid (Was (w3.setCell ⟨A, k, none⟩ v) A S (k + 1)) := Was.set hW3 hlt (hr.mono (Nat.zero_le _))
        have HL4 : Hid (LookAt wc (w3.setCell ⟨A, k, none⟩ v) K L S (i0 + 1024 * k + 1024)) := LookAt.over hl3 ((Upd.setCell A k w3 v).below (Nat.le_of_eq HAq.out.symm) hl3.size)
        obtain ⟨r, hr1, hr2, _⟩ := hW3
        have f0 : w3.frozen? ⟨A, k, none⟩ = false := frozen_of_heap hr1
        obtain ⟨u0, hu0⟩ : ∃ u0, w3.cell? ⟨A, k, none⟩ = some u0 := ⟨r[k]'(by omega), by rw [cell_of_heap hr1]; simp [hr2, hlt]⟩
        obtain ⟨av, cv, rfl, _⟩ := hr
        clear hse hl3 hu3 hr1 hr2 HWas HLk
        go_wp2
        go_roundw
        case rel => exact ⟨k + 1, by omega, by go_num, HW4, HL4⟩
        case measure => simp [intOf]; omega
      · have hk4 : k = 4 := by omega
        have kg : ¬ (k : Int) < 4 := by omega
        rw [hk4] at HWas HLk
        obtain ⟨m, hm, hE⟩ := HLk.out.ee
        obtain ⟨S2, hS2⟩ : ∃ S2, S2 = S.mv m := ⟨_, rfl⟩
        have HAl : Hid (Alike S S2) := by rw [hS2]; exact Alike.mv S m
        have HXI : Hid (XI S2) := by rw [hS2]; exact HR.out.xi.mv m
        have hd2 : S2.d = 16 := by rw [hS2]; exact HR.out.d
        have hm2 : S2.m ≤ i0 + 4096 := by rw [hS2]; show m ≤ _; omega
        rw [← hS2] at hE
        rename World => wB
        have HLkB : Hid (LookAt wB wB K L S2 (i0 + 4096)) := look_start hE hm2 hd2
        have HBB : Hid (Below W.heap.size W wB) := HR.out.bl.trans (HLk.out.u.below (HLow.out.x _ (Or.inr (Or.inl rfl))) HR.out.bl.size)
        have HLk1 : Hid (LookAt wB wB K L S2 (i0 + 4096 + 0)) := HLkB
        clear hE hm hm2 hS2 HLk HR
        go_wp2
        have HLk := HLk1
        clear HLk1
        go_loopw [10, 11, 13] (fun vf vb s wr => ∃ (i : Nat), i ≤ 16 ∧ s = .int .i64 i ∧ Hid (Duo13 wr wB.heap.size vf vb (catF S2 i) (catB S2 i)) ∧ Hid (LookAt wB wr K L S2 (i0 + 4096 + i))) (fun _ _ s _ => 16 - (intOf s).toNat)
        case atStart => exact ⟨0, by omega, rfl, ⟨OW.nil _ _, OW.nil _ _, fun g hg => by cases hg⟩, HLk⟩
        case round =>
          clear HLk
          obtain ⟨i, hi, rfl, HD, HLk⟩ := hrel
          by_cases hlt : i < 16
          · have ii : (i : Int) < 16 := by omega
            have hfr := look_frame HLk.out (i : Int)
            obtain ⟨af, nf, cf, hvf⟩ := HD.out.l.shape
            obtain ⟨ab, nb, cb, hvb⟩ := HD.out.r.shape
            subst hvf hvb
            go_wp2_with fail
            refine hfr.mono ?_
            rintro x w2 ⟨u2, rfl, ho2, hk2, hb2⟩
            have hl1 := catF_len S2 i
            have hl2 := frmW_len S2.n S2.vs (i : Int)
            have hD2l := OW.below HD.out.l hb2
            have hD2r := OW.below HD.out.r hb2
            obtain ⟨a3, n3, c3, w3, hrun3, ho3, hb3, hg3, hat3⟩ := grow_row hD2l ho2.urow.rdv (by omega) hk2.size
            obtain ⟨au2, nu2, cu2, hu2⟩ := ho2.shape
            subst hu2
            have HRun3 : Hid _ := hrun3
            have hD3r := OW.grown hD2r hg3 (fun g hg hq => HD.out.ne g hq hg)
            have hk3 := LookAt.over hk2 hb3
            have HD3 : Hid (Duo13 w3 wB.heap.size _ _ (catF S2 i ++ frmW S2.n S2.vs (i : Int)) (catB S2 i)) := ⟨ho3, hD3r, fun g hg hq => by
              rcases hat3 g hg with h | h
              · exact HD.out.ne g h hq
              · have := OW.lt hD2r g hq
                omega⟩
            have hbl := look_block hk3 (i : Int) (by unfold Ca.I64; omega) (by omega)
            have HLk3 : Hid _ := hk3
            clear hfr ho2 hk2 hb2 hl1 hl2 hD2l hD2r hrun3 ho3 hb3 hg3 hat3 hD3r hk3 HD HLk
            go_wp2_with (at_builtin; refine Ip.wpList_append_eq rfl _ _ _ rfl _ _ _ rfl rfl HRun3.out ?_)
            clear HRun3
            refine hbl.mono ?_
            rintro x w4 ⟨u4, rfl, hr4, hk4, hu4⟩
            have hD4l := LookAt.ow HLk3.out hu4 HD3.out.l
            have hD4r := LookAt.ow HLk3.out hu4 HD3.out.r
            have hl3 := catB_len HLk3.out i (by omega)
            have hl4 := wordsW_len HLk3.out (i : Int)
            obtain ⟨a5, n5, c5, w5, hrun5, ho5, hb5, hg5, hat5⟩ := grow_row hD4r hr4.rdv (by omega) hk4.size
            obtain ⟨au4, nu4, cu4, hu4e⟩ := hr4.shape
            subst hu4e
            have HRun5 : Hid _ := hrun5
            have HD5 : Hid (Duo13 w5 wB.heap.size _ _ (catF S2 i ++ frmW S2.n S2.vs (i : Int)) (catB S2 i ++ Xd.wordsW S2.d S2.l S2.ds (i : Int))) := ⟨OW.grown hD4l hg5 (fun g hg hq => HD3.out.ne g hg hq), ho5, fun g hg hq => by
              rcases hat5 g hq with h | h
              · exact HD3.out.ne g hg h
              · have := OW.lt hD4l g hg
                omega⟩
            have HLk5 : Hid (LookAt wB w5 K L S2 (i0 + 4096 + i + 1)) := LookAt.over hk4 hb5
            clear hbl hr4 hk4 hu4 hD4l hD4r hl3 hl4 hrun5 ho5 hb5 hg5 hat5 HD3 HLk3
            go_wp2_with (at_builtin; refine Ip.wpList_append_eq rfl _ _ _ rfl _ _ _ rfl rfl HRun5.out ?_)
            clear HRun5
            go_roundw
            case rel => exact ⟨i + 1, by omega, by go_num, HD5, HLk5⟩
            case measure => simp [intOf]; omega
          · have hi16 : i = 16 := by omega
            have ig : ¬ (i : Int) < 16 := by omega
            rw [hi16] at HD HLk
            have HWr : Hid (Was wr A S 4) := Was.look HWas.out HLkB.out HLk.out.u
            obtain ⟨m2, hm2, hE2⟩ := HLk.out.ee
            have hbr : Below W.heap.size W wr := HBB.out.trans (HLk.out.u.below (HLow.out.x _ (Or.inr (Or.inl rfl))) HBB.out.size)
            have hRr : RunAt W wr K L (i0 + 4096 + 16) (S2.mv m2) := ⟨hE2, XI.mv HXI.out m2, hm2, hd2, hbr⟩
            have hraw := run_raw hRr HFW.out HLow.out d HDW.out (by omega)
            have e0 : wr.cell? ⟨w.heap.size, 0, none⟩ = some (.int .i64 d.e) := by rw [cell_of_heap ((hbr.block _ (lt_of_heap HXW.out)).trans HXW.out)]; rfl
            have e1 : wr.cell? ⟨w.heap.size, 1, none⟩ = some (.slice d.a d.ws.length d.cap) := by rw [cell_of_heap ((hbr.block _ (lt_of_heap HXW.out)).trans HXW.out)]; rfl
            have HE2 : Hid _ := hE2
            obtain ⟨af, nf, cf, hvf⟩ := HD.out.l.shape
            obtain ⟨ab, nb, cb, hvb⟩ := HD.out.r.shape
            subst hvf hvb
            obtain ⟨XF, hXF⟩ : ∃ X, X = catF S2 16 := ⟨_, rfl⟩
            obtain ⟨XB, hXB⟩ : ∃ X, X = catB S2 16 := ⟨_, rfl⟩
            have HUf : Hid (URow 0 wr (.slice af nf cf) XF) := by rw [hXF]; exact HD.out.l.urow.mono (Nat.zero_le _)
            have HUb : Hid (URow 0 wr (.slice ab nb cb) XB) := by rw [hXB]; exact HD.out.r.urow.mono (Nat.zero_le _)
            have HXX : Hid _ := And.intro hXF hXB
            clear hXF hXB
            clear hm2 hE2 hbr hRr HD HLk HWas
            go_wp2_with fail
            refine hraw.mono ?_
            rintro x wC ⟨S5, a, n, c, err, rfl, hR5, herr, ht5⟩
            by_cases he : err = 0
            · subst he
              have hFw := HFW.out.below (Frm.pos HFW.out) hR5.bl
              have HB5 : Hid _ := hR5.bl
              clear hraw herr ht5 hR5 e0 e1
              go_wp2_with fail
              refine (awake_at wC hFw).mono ?_
              rintro x w6 ⟨rfl, hb6⟩
              go_wp2
              go_ret
              exact ⟨rfl, HBW.out.trans ((HB5.out.trans (hb6.mono HB5.out.size)).mono HBW.out.size)⟩
            · have hne : (err == 0) = false := by simpa using he
              obtain ⟨hn0, hal⟩ := herr he
              subst hn0
              have HA5 : Hid (Alike S S5) := (HAl.out.trans (Alike.mv S2 m2)).trans hal
              have HA25 : Hid (Alike S2 S5) := (Alike.mv S2 m2).trans hal
              have HW5 : Hid (Was wC A S 4) := Was.tch HWr.out ht5 HE2.out
              have HUf5 : Hid (URow 0 wC (.slice af nf cf) XF) := URow.tch HUf.out ht5 HE2.out
              have HUb5 : Hid (URow 0 wC (.slice ab nb cb) XB) := URow.tch HUb.out ht5 HE2.out
              have HLk5 : Hid (LookAt wC wC K L S5 (i0 + 4096 + 16 + 1)) := look_start hR5.ex hR5.m hR5.d
              have HB5 : Hid (Below W.heap.size W wC) := hR5.bl
              clear hraw herr ht5 hR5 e0 e1 hal he HUf HUb HWr HE2 HAl HXI HLkB HBB
              go_wp2_with fail
              go_loopw [16] (fun s wq => ∃ (k : Nat), k ≤ 4 ∧ s = .int .i64 k ∧ Hid (LookAt wC wq K L S5 (i0 + 4096 + 16 + 1 + 1024 * k))) (fun s _ => 4 - (intOf s).toNat)
              case atStart => exact ⟨0, by omega, rfl, HLk5⟩
              case round =>
                clear HLk5
                obtain ⟨k, hk, rfl, HLk⟩ := hrel
                by_cases hlt : k < 4
                · have ik : (k : Int) < 4 := by omega
                  have hLd := LookAt.over HLk.out (w' := wr.drew) (Below.refl _ _).drew
                  have hse := look_sees hLd (k : Int) (by omega)
                  have hWk := Was.look HW5.out (look_start HLk.out.e0 (Nat.le_refl _) HLk.out.d) hLd.u
                  obtain ⟨r, hr1, hr2, hr3⟩ := hWk
                  obtain ⟨v, hv1, hv2⟩ := hr3 k hlt
                  have z0 : wr.drew.cell? ⟨A, k, none⟩ = some v := by rw [cell_of_heap hr1]; exact hv1
                  have HR1' : Hid _ := hr1
                  obtain ⟨Xk, hXk⟩ : ∃ X, X = seesV S (k : Int) := ⟨_, rfl⟩
                  rw [← hXk] at hv2
                  have HXk : Hid _ := hXk
                  obtain ⟨av, cv, rfl, q1, q2, q3⟩ := hv2
                  have hv2 : URow 0 wr.drew (.slice av Xk.length cv) Xk := ⟨av, cv, rfl, q1, q2, q3⟩
                  clear hXk q1 q2
                  have HV2 : Hid _ := hv2
                  have HLd : Hid _ := hLd
                  have HV1 : Hid _ := hv1
                  clear hLd hr1 hr2 hr3 hv2 q3 hv1 HLk
                  go_wp2_with fail
                  refine wp_region_held_drew (S := fun w' => w'.cell? ⟨A, k, none⟩ = some (.slice av Xk.length cv)) (by kernel_rfl) z0 (fun hHeld => ?_)
                  refine wpAnyH_take (i := 0) (v := ?_) rfl (by kernel_rfl) (by kernel_rfl) (by kernel_rfl) (fun _ _ _ h => h) (Or.inl ⟨by kernel_rfl, ?_⟩) (by assumption) ?_
                  rotate_left
                  · (intro w hSw; (try dsimp only at hSw); go_simp) <;> with_reducible rfl
                  (try simp only [Act.put, List.getElem_toArray, List.getElem_cons_zero, List.setIfInBounds_toArray, List.set_cons_zero, List.set_cons_succ])
                  refine wpAnyH_take (i := 1) (v := ?_) rfl (by kernel_rfl) (by kernel_rfl) (by kernel_rfl) (fun _ _ _ h => h) (Or.inl ⟨by kernel_rfl, ?_⟩) (by assumption) ?_
                  rotate_left
                  · (intro w hSw; (try dsimp only at hSw); go_simp) <;> with_reducible rfl
                  (try simp only [Act.put, List.getElem_toArray, List.getElem_cons_zero, List.getElem_cons_succ, List.setIfInBounds_toArray, List.set_cons_zero, List.set_cons_succ])
                  refine wpAnyH_take (i := 2) (v := ?_) rfl (by kernel_rfl) (by kernel_rfl) (by kernel_rfl) (fun _ _ _ h => h) (Or.inl ⟨by kernel_rfl, ?_⟩) (by assumption) ?_
                  rotate_left
                  · (intro w hSw; (try dsimp only at hSw); go_simp) <;> with_reducible rfl
                  (try simp only [Act.put, List.getElem_toArray, List.getElem_cons_zero, List.getElem_cons_succ, List.setIfInBounds_toArray, List.set_cons_zero, List.set_cons_succ])
                  refine wpAnyH_take (i := 3) (v := ?_) rfl (by kernel_rfl) (by kernel_rfl) (by kernel_rfl) (fun _ _ _ h => h) (Or.inl ⟨by kernel_rfl, ?_⟩) (by assumption) ?_
                  rotate_left
                  · (intro w hSw; (try dsimp only at hSw); go_simp) <;> with_reducible rfl
                  (try simp only [Act.put, List.getElem_toArray, List.getElem_cons_zero, List.getElem_cons_succ, List.setIfInBounds_toArray, List.set_cons_zero, List.set_cons_succ])
                  refine wpAnyH_take (i := 4) (v := ?_) rfl (by kernel_rfl) (by kernel_rfl) (by kernel_rfl) (fun _ _ _ h => h) (Or.inl ⟨by kernel_rfl, ?_⟩) (by assumption) ?_
                  rotate_left
                  · (intro w hSw; (try dsimp only at hSw); go_simp) <;> with_reducible rfl
                  (try simp only [Act.put, List.getElem_toArray, List.getElem_cons_zero, List.getElem_cons_succ, List.setIfInBounds_toArray, List.set_cons_zero, List.set_cons_succ])
                  refine wpAnyH_ready (rs := [5]) (by kernel_rfl) (by simp) ?_
                  refine AllReadyH.cons rfl (fun K hK => ?_) AllReadyH.nil
                  go_simp
                  refine hse.mono ?_
                  rintro x w6 ⟨u, rfl, hr6, hl6, hu6⟩
                  rw [HA5.out.sees (k : Int), ← HXk.out] at hr6
                  have h6r := LookAt.urow HLd.out hu6 HV2.out
                  have z6 : w6.cell? ⟨A, k, none⟩ = some (.slice av Xk.length cv) := by rw [cell_of_heap (HLd.out.stay hu6 HR1'.out (by decide))]; exact HV1.out
                  obtain ⟨a6, c6, e6, _, rd6⟩ := h6r.rdv
                  obtain ⟨au, cu, rfl, cu1, rdu⟩ := hr6.rdv
                  simp only [Value.slice.injEq] at e6
                  rw [← e6.1] at rd6
                  clear e6
                  have hWd := Ip.words_same Xk av au cv cu w6 rd6 rdu (by rw [HXk.out, ← HA5.out.sees (k : Int)]; exact sees_len HLd.out.e0 HLd.out.d k)
                  have HL6 : Hid _ := hl6
                  clear hse hl6 hu6 hr6 h6r rd6 rdu HLd HV2
                  refine hK.out _ _ z6 (fun hHeld => ?_)
                  clear hK K
                  (try simp only [Act.put, List.getElem_toArray, List.getElem_cons_zero, List.getElem_cons_succ, List.setIfInBounds_toArray, List.set_cons_zero, List.set_cons_succ])
                  refine wpAnyH_ready (rs := [6]) (by kernel_rfl) (by simp) ?_
                  refine AllReadyH.cons rfl (fun K hK => ?_) AllReadyH.nil
                  go_simp
                  refine hWd.mono ?_
                  rintro x w7 ⟨rfl, hb7⟩
                  have z7 : w7.cell? ⟨A, k, none⟩ = some (.slice av Xk.length cv) := (hb7.cell (cell_lt z6)).trans z6
                  have HL7 : Hid _ := LookAt.over HL6.out (hb7.mono HL6.out.size)
                  clear hWd hb7
                  refine hK.out _ _ z7 (fun hHeld => ?_)
                  clear hK K
                  (try simp only [Act.put, List.getElem_toArray, List.getElem_cons_zero, List.getElem_cons_succ, List.setIfInBounds_toArray, List.set_cons_zero, List.set_cons_succ])
                  refine wpAnyH_take (i := 7) (v := ?_) rfl (by kernel_rfl) (by kernel_rfl) (by kernel_rfl) (fun _ _ _ h => h) (Or.inl ⟨by kernel_rfl, ?_⟩) (by assumption) ?_
                  rotate_left
                  · (intro w hSw; (try dsimp only at hSw); go_simp) <;> with_reducible rfl
                  (try simp only [Act.put, List.getElem_toArray, List.getElem_cons_zero, List.getElem_cons_succ, List.setIfInBounds_toArray, List.set_cons_zero, List.set_cons_succ])
                  refine wpAnyH_done (by kernel_rfl) ?_ _
                  clear hHeld z0 z6 z7
                  go_wp2
                  go_roundw
                  case rel => exact ⟨k + 1, by omega, by go_num, HL7⟩
                  case measure => simp [intOf]; omega
                · have hk4b : k = 4 := by omega
                  have kg2 : ¬ (k : Int) < 4 := by omega
                  rw [hk4b] at HLk
                  have HLk1 : Hid (LookAt wC wr K L S5 (i0 + 4096 + 16 + 1 + 1024 * 4 + 0)) := HLk
                  clear HLk HW5
                  go_wp2
                  have HLk := HLk1
                  clear HLk1
                  go_loopw [17, 18, 19] (fun vf vb s wr => ∃ (i : Nat), i ≤ 16 ∧ s = .int .i64 i ∧ Hid (Duo13 wr wC.heap.size vf vb (catF S5 i) (catB S5 i)) ∧ Hid (LookAt wC wr K L S5 (i0 + 4096 + 16 + 1 + 1024 * 4 + i))) (fun _ _ s _ => 16 - (intOf s).toNat)
                  case atStart => exact ⟨0, by omega, rfl, ⟨OW.nil _ _, OW.nil _ _, fun g hg => by cases hg⟩, HLk⟩
                  case round =>
                    clear HLk
                    obtain ⟨i, hi, rfl, HD, HLk⟩ := hrel
                    by_cases hlt : i < 16
                    · have ii : (i : Int) < 16 := by omega
                      have hfr := look_frame HLk.out (i : Int)
                      obtain ⟨af, nf, cf, hvf⟩ := HD.out.l.shape
                      obtain ⟨ab, nb, cb, hvb⟩ := HD.out.r.shape
                      subst hvf hvb
                      go_wp2_with fail
                      refine hfr.mono ?_
                      rintro x w2 ⟨u2, rfl, ho2, hk2, hb2⟩
                      have hl1 := catF_len S5 i
                      have hl2 := frmW_len S5.n S5.vs (i : Int)
                      have hD2l := OW.below HD.out.l hb2
                      have hD2r := OW.below HD.out.r hb2
                      obtain ⟨a3, n3, c3, w3, hrun3, ho3, hb3, hg3, hat3⟩ := grow_row hD2l ho2.urow.rdv (by omega) hk2.size
                      obtain ⟨au2, nu2, cu2, hu2⟩ := ho2.shape
                      subst hu2
                      have HRun3 : Hid _ := hrun3
                      have hD3r := OW.grown hD2r hg3 (fun g hg hq => HD.out.ne g hq hg)
                      have hk3 := LookAt.over hk2 hb3
                      have HD3 : Hid (Duo13 w3 wC.heap.size _ _ (catF S5 i ++ frmW S5.n S5.vs (i : Int)) (catB S5 i)) := ⟨ho3, hD3r, fun g hg hq => by
                        rcases hat3 g hg with h | h
                        · exact HD.out.ne g h hq
                        · have := OW.lt hD2r g hq
                          omega⟩
                      have hbl := look_block hk3 (i : Int) (by unfold Ca.I64; omega) (by omega)
                      have HLk3 : Hid _ := hk3
                      clear hfr ho2 hk2 hb2 hl1 hl2 hD2l hD2r hrun3 ho3 hb3 hg3 hat3 hD3r hk3 HD HLk
                      go_wp2_with (at_builtin; refine Ip.wpList_append_eq rfl _ _ _ rfl _ _ _ rfl rfl HRun3.out ?_)
                      clear HRun3
                      refine hbl.mono ?_
                      rintro x w4 ⟨u4, rfl, hr4, hk4, hu4⟩
                      have hD4l := LookAt.ow HLk3.out hu4 HD3.out.l
                      have hD4r := LookAt.ow HLk3.out hu4 HD3.out.r
                      have hl3 := catB_len HLk3.out i (by omega)
                      have hl4 := wordsW_len HLk3.out (i : Int)
                      obtain ⟨a5, n5, c5, w5, hrun5, ho5, hb5, hg5, hat5⟩ := grow_row hD4r hr4.rdv (by omega) hk4.size
                      obtain ⟨au4, nu4, cu4, hu4e⟩ := hr4.shape
                      subst hu4e
                      have HRun5 : Hid _ := hrun5
                      have HD5 : Hid (Duo13 w5 wC.heap.size _ _ (catF S5 i ++ frmW S5.n S5.vs (i : Int)) (catB S5 i ++ Xd.wordsW S5.d S5.l S5.ds (i : Int))) := ⟨OW.grown hD4l hg5 (fun g hg hq => HD3.out.ne g hg hq), ho5, fun g hg hq => by
                        rcases hat5 g hq with h | h
                        · exact HD3.out.ne g hg h
                        · have := OW.lt hD4l g hg
                          omega⟩
                      have HLk5 : Hid (LookAt wC w5 K L S5 (i0 + 4096 + 16 + 1 + 1024 * 4 + i + 1)) := LookAt.over hk4 hb5
                      clear hbl hr4 hk4 hu4 hD4l hD4r hl3 hl4 hrun5 ho5 hb5 hg5 hat5 HD3 HLk3
                      go_wp2_with (at_builtin; refine Ip.wpList_append_eq rfl _ _ _ rfl _ _ _ rfl rfl HRun5.out ?_)
                      clear HRun5
                      go_roundw
                      case rel => exact ⟨i + 1, by omega, by go_num, HD5, HLk5⟩
                      case measure => simp [intOf]; omega
                    · have hi16 : i = 16 := by omega
                      have ig : ¬ (i : Int) < 16 := by omega
                      rw [hi16] at HD HLk
                      have h1 := LookAt.urow (look_start HLk.out.e0 (Nat.le_refl _) HLk.out.d) HLk.out.u HUf5.out
                      have h2 := LookAt.urow (look_start HLk.out.e0 (Nat.le_refl _) HLk.out.d) HLk.out.u HUb5.out
                      have h3 : URow 0 wr _ (catF S5 16) := HD.out.l.urow.mono (Nat.zero_le _)
                      have h4 : URow 0 wr _ (catB S5 16) := HD.out.r.urow.mono (Nat.zero_le _)
                      rw [HA25.out.catF 16, ← HXX.out.1] at h3
                      rw [HA25.out.catB 16, ← HXX.out.2] at h4
                      have hB6 : Below W.heap.size W wr := HB5.out.trans (HLk.out.u.below (HLow.out.x _ (Or.inr (Or.inl rfl))) HB5.out.size)
                      have HB6 : Hid _ := hB6
                      have hl1 : XF.length ≤ 1000000 := by
                        rw [HXX.out.1]
                        have := catF_len S2 16
                        omega
                      have hl2 : XB.length ≤ 1000000 := by
                        rw [HXX.out.2, ← HA25.out.catB 16]
                        have := catB_len HLk.out 16 (by omega)
                        omega
                      obtain ⟨af2, nf2, cf2, hvf2⟩ := HD.out.l.shape
                      obtain ⟨ab2, nb2, cb2, hvb2⟩ := HD.out.r.shape
                      subst hvf2 hvb2
                      obtain ⟨a1, c1, e1, _, r1⟩ := h1.rdv
                      obtain ⟨a2, c2, e2, _, r2⟩ := h2.rdv
                      obtain ⟨a3, c3, e3, _, r3⟩ := h3.rdv
                      obtain ⟨a4, c4, e4, _, r4⟩ := h4.rdv
                      simp only [Value.slice.injEq] at e1 e2 e3 e4
                      rw [← e1.1] at r1
                      rw [← e2.1] at r2
                      rw [← e3.1] at r3
                      rw [← e4.1] at r4
                      have n1 := e1.2.1
                      have n2 := e2.2.1
                      have n3 := e3.2.1
                      have n4 := e4.2.1
                      clear e1 e2 e3 e4
                      subst n1 n2 n3 n4
                      have hW1 := Ip.words_same XF af af2 cf cf2 wr r1 r3 hl1
                      have HR24 : Hid _ := And.intro r2 r4
                      clear h1 h2 h3 h4 hB6 r1 r2 r3 r4 HD HLk HUf5 HUb5 hl1 HXX
                      go_wp2_with fail
                      refine hW1.mono ?_
                      rintro x w7 ⟨rfl, hb7⟩
                      have hW2 := Ip.words_same XB ab ab2 cb cb2 w7 (Ip.Rd.below HR24.out.1 hb7) (Ip.Rd.below HR24.out.2 hb7) hl2
                      have HB7 : Hid (Below W.heap.size W w7) := HB6.out.trans (hb7.mono HB6.out.size)
                      clear hW1 hb7 HR24 HB6
                      go_wp2_with fail
                      refine hW2.mono ?_
                      rintro x w8 ⟨rfl, hb8⟩
                      have HB8 : Hid (Below W.heap.size W w8) := HB7.out.trans (hb8.mono HB7.out.size)
                      have hFw := HFW.out.below (Frm.pos HFW.out) HB8.out
                      clear hW2 hb8 HB7
                      go_wp2_with fail
                      refine (awake_at w8 hFw).mono ?_
                      rintro x w9 ⟨rfl, hb9⟩
                      go_wp2
                      go_ret
                      exact ⟨rfl, HBW.out.trans ((HB8.out.trans (hb9.mono HB8.out.size)).mono HBW.out.size)⟩
end Go.Proofs.YtbhpafgoofkkmaaGreatDoor
