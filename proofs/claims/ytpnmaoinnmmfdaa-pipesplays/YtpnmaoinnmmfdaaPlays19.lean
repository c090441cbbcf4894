/- januslaw19.PipesPlays: the walk. -/
import Derived.Test.YtpnmaoinnmmfdaaRpC
import Derived.Deep.DeepCutAuto
import Derived.Deep.CutBlock
namespace Go.Proofs.Ytpnmaoinnmmfdaa
open Go.ChangeShapes Go.WideShapes Go.ChangeAt Go.RowKit Go.Lib
set_option linter.unusedVariables false

/-- Both machines say the same. -/
structure Duo (w : World) (b c : Nat) (S : PS) : Prop where
  pp : PpAt w b S
  rp : RpAt w c S
  top : ∀ j, 16 ≤ j → S j = none
section
variable {w w' w1 : World} {b c : Nat} {S : PS}
theorem Duo.ne (h : Duo w b c S) : c ≠ b := h.rp.ne h.pp
theorem Duo.below (h : Duo w b c S) (hb : Below w.heap.size w w') : Duo w' b c S := ⟨h.pp.below hb, h.rp.below hb, h.top⟩
theorem top_set {i : Nat} {o : Option (List UInt8)} (h : ∀ j, 16 ≤ j → S j = none) (hi : i < 16) : ∀ j, 16 ≤ j → (S.set i o) j = none := fun j hj => by rw [PS.set_other _ _ _ _ (by omega)]; exact h j hj
theorem has_lt {n : Int} (h : has S n = true) : n.toNat < 16 := by
  obtain ⟨i, l, rfl, hi, _⟩ := has_nat h
  simpa using hi
theorem top_mk (h : ∀ j, 16 ≤ j → S j = none) : ∀ j, 16 ≤ j → (mkS S) j = none := by
  unfold mkS
  split
  · exact top_set h (by assumption)
  · exact h
theorem top_pu (h : ∀ j, 16 ≤ j → S j = none) (n : Int) (s : List UInt8) : ∀ j, 16 ≤ j → (puS S n s) j = none := by
  unfold puS
  split
  · exact top_set h (has_lt (by assumption))
  · exact h
theorem top_ta (h : ∀ j, 16 ≤ j → S j = none) (n k : Int) : ∀ j, 16 ≤ j → (taS S n k) j = none := by
  unfold taS
  split
  · exact top_set h (has_lt (by assumption))
  · exact h
theorem top_dr (h : ∀ j, 16 ≤ j → S j = none) (n : Int) : ∀ j, 16 ≤ j → (drS S n) j = none := by
  unfold drS
  split
  · exact top_set h (has_lt (by assumption))
  · exact h
theorem Duo.keepR (h : Duo w b c S) (hu : Upd b w w1) : RpAt w1 c S := h.rp.keep (hu.block c h.rp.lt h.ne)
theorem Duo.rmake (h : Duo w b c S) (h1 : PpAt w1 b (mkS S)) (hu : Upd b w w1) :
    Calls Try.prog 10 #[.pointer (some ⟨c, 0, none⟩)] w1 fun x w' => x = .returned (.tuple #[.int .i64 (mkI S), .int .i64 (mkE S)]) ∧ Duo w' b c (mkS S) ∧ Upd c w1 w' := by
  refine (xmake_at c S w1 (h.keepR hu)).mono ?_
  rintro x w2 ⟨rfl, h2, hu2⟩
  exact ⟨rfl, ⟨h1.keep (hu2.block b h1.lt (fun e => h.ne e.symm)), h2, top_mk h.top⟩, hu2⟩
theorem Duo.rput (h : Duo w b c S) (n : Int) (s : List UInt8) (hs : s.length ≤ 9223372036854775807) (h1 : PpAt w1 b (puS S n s)) (hu : Upd b w w1) :
    Calls Try.prog 12 #[.pointer (some ⟨c, 0, none⟩), .int .i64 n, tx s] w1 fun x w' => x = .returned (.int .i64 (puI S n s)) ∧ Duo w' b c (puS S n s) ∧ Upd c w1 w' := by
  refine (xput_at c S n s w1 (h.keepR hu) h.pp.fits hs).mono ?_
  rintro x w2 ⟨rfl, h2, hu2⟩
  exact ⟨rfl, ⟨h1.keep (hu2.block b h1.lt (fun e => h.ne e.symm)), h2, top_pu h.top n s⟩, hu2⟩
theorem Duo.rtake (h : Duo w b c S) (n k : Int) (h1 : PpAt w1 b (taS S n k)) (hu : Upd b w w1) :
    Calls Try.prog 14 #[.pointer (some ⟨c, 0, none⟩), .int .i64 n, .int .i64 k] w1 fun x w' => x = .returned (tx (taT S n k)) ∧ Duo w' b c (taS S n k) ∧ Upd c w1 w' := by
  refine (xtake_at c S n k w1 (h.keepR hu)).mono ?_
  rintro x w2 ⟨rfl, h2, hu2⟩
  exact ⟨rfl, ⟨h1.keep (hu2.block b h1.lt (fun e => h.ne e.symm)), h2, top_ta h.top n k⟩, hu2⟩
theorem Duo.rdrop (h : Duo w b c S) (n : Int) (h1 : PpAt w1 b (drS S n)) (hu : Upd b w w1) :
    Calls Try.prog 16 #[.pointer (some ⟨c, 0, none⟩), .int .i64 n] w1 fun x w' => x = .returned (.int .i64 (drE S n)) ∧ Duo w' b c (drS S n) ∧ Upd c w1 w' := by
  refine (xdrop_at c S n w1 (h.keepR hu)).mono ?_
  rintro x w2 ⟨rfl, h2, hu2⟩
  exact ⟨rfl, ⟨h1.keep (hu2.block b h1.lt (fun e => h.ne e.symm)), h2, top_dr h.top n⟩, hu2⟩
end
theorem tx_eq (l : List UInt8) (W : World) : (binOp .eql 9 (tx l) (tx l)).run Try.prog W = .ok (.bool true) W := by
  have := same_text l
  go_simp
theorem encS_u64 {S : PS} (h : Fit8 S) : U64 (encS S) := by
  have h1 : ∀ k, k ≤ 16 → U64 (encK S k) := by
    intro k
    induction k with
    | zero => intro _ x hx; simp [encK] at hx
    | succ k ih =>
      intro hk x hx
      simp only [encK, List.mem_append] at hx
      rcases hx with hx | hx
      · exact ih (by omega) x hx
      · cases hs : S k with
        | none => rw [hs] at hx; simp [encO] at hx; omega
        | some l =>
          rw [hs] at hx
          have := h k l (by omega) hs
          simp only [encO, List.mem_cons, nums, List.mem_map] at hx
          rcases hx with rfl | rfl | ⟨y, _, rfl⟩
          · omega
          · omega
          · have := y.toNat_lt; omega
  exact h1 16 (Nat.le_refl _)
set_option maxRecDepth 100000 in
set_option maxHeartbeats 8000000 in
theorem plays_walk (a0' : Option Addr) (len cap : Nat) (w : World) (hlen : len ≤ 9223372036854775807) (hd : DeedsIn w a0' len) :
    Calls Try.prog 3 #[.slice a0' len cap] w fun e w' => e = .returned (.bool true) ∧ Below w.heap.size w w' := by
  have hdeeds : Hid (DeedsIn w a0' len) := hd
  have hN := new_at w
  have hz := zero_ref
  have HRr : Hid (RpR rrow PS.none) := rrow_R
  generalize rrow = R at *
  obtain ⟨b0, hb⟩ : ∃ b, b = w.heap.size := ⟨_, rfl⟩
  rw [← hb] at hN
  have hbb0 : w.heap.size ≤ b0 := by omega
  have hne0 := ptr_eq b0
  have HBb : Hid (b0 = w.heap.size) := hb
  clear hb hd
  go_enter Try.func3, Try.ntmps3
  go_wp2_with fail
  refine hN.mono ?_
  rintro e w1 ⟨rfl, hA1, hB1, -⟩
  have HA1 : Hid (PpAt w1 b0 PS.none) := hA1
  have HB1 : Hid (Below w.heap.size w w1) := by rw [← HBb.out]; exact hB1
  clear hN hA1 hB1
  go_wp2
  have HD0 : Hid (Duo (w1.alloc (.cells R 29)) b0 w1.heap.size PS.none) := ⟨HA1.out.below (below_alloc _ _), ⟨R, heap_alloc_new _ _, HRr.out⟩, fun _ _ => rfl⟩
  have HB0 : Hid (Below w.heap.size w (w1.alloc (.cells R 29))) := HB1.out.alloc HB1.out.size _
  have hcc : w.heap.size ≤ w1.heap.size := HB1.out.size
  generalize w1.alloc (.cells R 29) = W0 at *
  generalize w1.heap.size = c at *
  clear HA1 HB1 hz hne0 HRr
  go_loopw [3, 5] (fun p s wr => ∃ (k b : Nat) (S : PS), k ≤ len ∧ k ≤ 200 ∧ .pointer (some ⟨b, 0, none⟩) = p ∧ s = .int .i64 k ∧ Duo wr b c S ∧ Below w.heap.size w wr ∧ w.heap.size ≤ b) (fun _ s _ => 200 - (intOf s).toNat)
  case atStart => exact ⟨0, b0, _, by omega, by omega, rfl, rfl, HD0.out, HB0.out, hbb0⟩
  case round =>
    clear HD0 HB0 hbb0 HBb
    obtain ⟨k, b, S, hk, hk2, rfl, rfl, hD, hB, hbb⟩ := hrel
    have hn1 := ptr_eq b
    by_cases hlt : k < len ∧ k < 200
    · obtain ⟨l1, l2⟩ := hlt
      obtain ⟨gb, off, ⟨dk, di, dn, ds⟩, rfl, hds, d0, d1, d2, d3⟩ := hdeeds.out k l1
      dsimp only at hds d0 d1 d2 d3
      have e0 := (hB.cell (cell_lt d0)).trans d0
      have e1 := (hB.cell (cell_lt d1)).trans d1
      have e2 := (hB.cell (cell_lt d2)).trans d2
      have e3 := (hB.cell (cell_lt d3)).trans d3
      have hds9 : ds.length ≤ 9223372036854775807 := by unfold maxLen at hds; omega
      have g0 : decide ((k : Int) < (len : Int)) = true := decide_eq_true (by omega)
      have g1 : decide ((k : Int) < 200) = true := decide_eq_true (by omega)
      have ik : (k : Int) < (len : Int) := by omega
      obtain ⟨W, hW⟩ : ∃ W, W = wr.alloc (.cells (deedRow ⟨dk, di, dn, ds⟩) 31) := ⟨_, rfl⟩
      have hbW : Below wr.heap.size wr W := by rw [hW]; exact below_alloc _ _
      obtain ⟨D, hDn⟩ : ∃ D, D = wr.heap.size := ⟨_, rfl⟩
      have HX : Hid (Box W D ⟨dk, di, dn, ds⟩) := by rw [hW, hDn]; exact heap_alloc_new _ _
      have hDb : b < D := by rw [hDn]; exact hD.pp.lt
      have hDc : c < D := by rw [hDn]; exact hD.rp.lt
      have HD : Hid (Duo W b c S) := hD.below hbW
      have HB : Hid (Below w.heap.size w W) := hB.trans (hbW.mono hB.size)
      have HW : Hid _ := hW
      have HDn : Hid _ := hDn
      dsimp only [deedRow] at HW
      clear hW hbW hD hB hDn d0 d1 d2 d3 hds
      go_upto_block 2 with fail
      rw [← HW.out, ← HDn.out]
      clear HW HDn e0 e1 e2 e3 hdeeds
      go_cut [3, 7, 8, 9, 10, 11, 12, 13] (fun p ok _ _ _ _ _ _ wc => ∃ (b' : Nat) (S' : PS), .pointer (some ⟨b', 0, none⟩) = p ∧ ok = .bool true ∧ Duo wc b' c S' ∧ Box wc D ⟨dk, di, dn, ds⟩ ∧ Below w.heap.size w wc ∧ w.heap.size ≤ b' ∧ D ≠ b')
      case first =>
        have hdr : Below W.heap.size W W.drew := (Below.refl _ _).drew
        obtain ⟨c0, c1, c2, c3⟩ := Box.cells HX.out
        obtain ⟨f0, f1, f2, f3⟩ := Box.cells (Box.below HX.out hdr)
        have HXd : Hid (Box W.drew D ⟨dk, di, dn, ds⟩) := Box.below HX.out hdr
        have HDd : Hid (Duo W.drew b c S) := HD.out.below hdr
        have HBd : Hid (Below w.heap.size w W.drew) := HB.out.drew
        dsimp only at c0 c1 c2 c3 f0 f1 f2 f3
        have kinds : (dk == 0) = true ∨ ((dk == 0) = false ∧ (dk == 1) = true) ∨ ((dk == 0) = false ∧ (dk == 1) = false ∧ (dk == 2) = true) ∨ ((dk == 0) = false ∧ (dk == 1) = false ∧ (dk == 2) = false ∧ (dk == 3) = true) ∨ ((dk == 0) = false ∧ (dk == 1) = false ∧ (dk == 2) = false ∧ (dk == 3) = false) := by
          simp only [beq_iff_eq, beq_eq_false_iff_ne]
          omega
        clear hdr
        rcases kinds with k0 | ⟨k0, k1⟩ | ⟨k0, k1, k2⟩ | ⟨k0, k1, k2, k3⟩ | ⟨k0, k1, k2, k3⟩
        · have hop := make_at b S W HD.out.pp
          have hrf := fun (w1 : World) (h1 : PpAt w1 b (mkS S)) (hu1 : Upd b W w1) => HD.out.rmake h1 hu1
          generalize mkI S = r at hop hrf
          generalize mkE S = r2 at hop hrf
          generalize mkS S = S1 at hop hrf
          go_wp2_with fail
          refine hop.mono ?_
          rintro e w1 ⟨rfl, hE1, hu1⟩
          have HX1 : Hid _ := Box.upd HX.out hu1 (by omega)
          have HB1 : Hid (Below w.heap.size w w1) := upd_below HB.out hu1 hbb
          have hrf1 := hrf w1 hE1 hu1
          clear hE1 hu1 hrf hop c0 c1 c2 c3 f0 f1 f2 f3
          go_wp2_with fail
          refine hrf1.mono ?_
          rintro e w2 ⟨rfl, hD2, hu2⟩
          have HX2 : Hid _ := Box.upd HX1.out hu2 (by omega)
          have HB2 : Hid (Below w.heap.size w w2) := upd_below HB1.out hu2 hcc
          have HD2 : Hid _ := hD2
          clear hD2 hu2 hrf1
          go_wp2_with fail
          go_meet
          case rel => exact ⟨b, S1, rfl, by simp, HD2.out, HX2.out, HB2.out, hbb, by omega⟩
        · have hop := put_at b S di ds W.drew HDd.out.pp
          have hrf := fun (w1 : World) (h1 : PpAt w1 b (puS S di ds)) (hu1 : Upd b W.drew w1) => HDd.out.rput di ds hds9 h1 hu1
          generalize hrr : puI S di ds = r at hop hrf
          generalize hss : puS S di ds = S1 at hop hrf
          clear hrr hss
          go_wp2_with fail
          clear c0 c1 c2 c3
          refine wp_region_held_drew (S := fun w' => w'.cell? ⟨D, 1, none⟩ = some (.int .i64 di) ∧ w'.cell? ⟨D, 3, none⟩ = some (tx ds)) (by kernel_rfl) ⟨f1, f3⟩ (fun hHeld => ?_)
          refine wpAnyH_take (i := 0) (v := ?_) rfl (by kernel_rfl) (by kernel_rfl) (by kernel_rfl) (fun _ _ _ h => h) (Or.inl ⟨by kernel_rfl, ?_⟩) (by assumption) ?_
          rotate_left
          · (intro w hSw; (try dsimp only at hSw); go_simp) <;> with_reducible rfl
          (try simp only [Act.put, List.getElem_toArray, List.getElem_cons_zero, List.setIfInBounds_toArray, List.set_cons_zero, List.set_cons_succ])
          refine wpAnyH_take (i := 1) (v := ?_) rfl (by kernel_rfl) (by kernel_rfl) (by kernel_rfl) (fun _ _ _ h => h) (Or.inl ⟨by kernel_rfl, ?_⟩) (by assumption) ?_
          rotate_left
          · (intro w hSw; (try dsimp only at hSw); go_simp) <;> with_reducible rfl
          (try simp only [Act.put, List.getElem_toArray, List.getElem_cons_zero, List.getElem_cons_succ, List.setIfInBounds_toArray, List.set_cons_zero, List.set_cons_succ])
          refine wpAnyH_take (i := 2) (v := ?_) rfl (by kernel_rfl) (by kernel_rfl) (by kernel_rfl) (fun _ _ _ h => h) (Or.inl ⟨by kernel_rfl, ?_⟩) (by assumption) ?_
          rotate_left
          · (intro w hSw; (try dsimp only at hSw); go_simp) <;> with_reducible rfl
          (try simp only [Act.put, List.getElem_toArray, List.getElem_cons_zero, List.getElem_cons_succ, List.setIfInBounds_toArray, List.set_cons_zero, List.set_cons_succ])
          refine wpAnyH_take (i := 3) (v := ?_) rfl (by kernel_rfl) (by kernel_rfl) (by kernel_rfl) (fun _ _ _ h => h) (Or.inl ⟨by kernel_rfl, ?_⟩) (by assumption) ?_
          rotate_left
          · (intro w hSw; (try dsimp only at hSw); go_simp) <;> with_reducible rfl
          (try simp only [Act.put, List.getElem_toArray, List.getElem_cons_zero, List.getElem_cons_succ, List.setIfInBounds_toArray, List.set_cons_zero, List.set_cons_succ])
          refine wpAnyH_take (i := 4) (v := ?_) rfl (by kernel_rfl) (by kernel_rfl) (by kernel_rfl) (fun _ _ _ h => h) (Or.inl ⟨by kernel_rfl, ?_⟩) (by assumption) ?_
          rotate_left
          · (intro w hSw; (try dsimp only at hSw); go_simp) <;> with_reducible rfl
          (try simp only [Act.put, List.getElem_toArray, List.getElem_cons_zero, List.getElem_cons_succ, List.setIfInBounds_toArray, List.set_cons_zero, List.set_cons_succ])
          refine wpAnyH_take (i := 6) (v := ?_) rfl (by kernel_rfl) (by kernel_rfl) (by kernel_rfl) (fun _ _ _ h => h) (Or.inl ⟨by kernel_rfl, ?_⟩) (by assumption) ?_
          rotate_left
          · (intro w hSw; (try dsimp only at hSw); go_simp) <;> with_reducible rfl
          (try simp only [Act.put, List.getElem_toArray, List.getElem_cons_zero, List.getElem_cons_succ, List.setIfInBounds_toArray, List.set_cons_zero, List.set_cons_succ])
          refine wpAnyH_take (i := 7) (v := ?_) rfl (by kernel_rfl) (by kernel_rfl) (by kernel_rfl) (fun _ _ _ h => h) (Or.inl ⟨by kernel_rfl, ?_⟩) (by assumption) ?_
          rotate_left
          · (intro w hSw; (try dsimp only at hSw); go_simp) <;> with_reducible rfl
          (try simp only [Act.put, List.getElem_toArray, List.getElem_cons_zero, List.getElem_cons_succ, List.setIfInBounds_toArray, List.set_cons_zero, List.set_cons_succ])
          refine wpAnyH_take (i := 8) (v := ?_) rfl (by kernel_rfl) (by kernel_rfl) (by kernel_rfl) (fun _ _ _ h => h) (Or.inl ⟨by kernel_rfl, ?_⟩) (by assumption) ?_
          rotate_left
          · (intro w hSw; (try dsimp only at hSw); go_simp) <;> with_reducible rfl
          (try simp only [Act.put, List.getElem_toArray, List.getElem_cons_zero, List.getElem_cons_succ, List.setIfInBounds_toArray, List.set_cons_zero, List.set_cons_succ])
          refine wpAnyH_take (i := 9) (v := ?_) rfl (by kernel_rfl) (by kernel_rfl) (by kernel_rfl) (fun _ _ _ h => h) (Or.inl ⟨by kernel_rfl, ?_⟩) (by assumption) ?_
          rotate_left
          · (intro w hSw; (try dsimp only at hSw); go_simp) <;> with_reducible rfl
          (try simp only [Act.put, List.getElem_toArray, List.getElem_cons_zero, List.getElem_cons_succ, List.setIfInBounds_toArray, List.set_cons_zero, List.set_cons_succ])
          refine wpAnyH_take (i := 10) (v := ?_) rfl (by kernel_rfl) (by kernel_rfl) (by kernel_rfl) (fun _ _ _ h => h) (Or.inl ⟨by kernel_rfl, ?_⟩) (by assumption) ?_
          rotate_left
          · (intro w hSw; (try dsimp only at hSw); go_simp) <;> with_reducible rfl
          (try simp only [Act.put, List.getElem_toArray, List.getElem_cons_zero, List.getElem_cons_succ, List.setIfInBounds_toArray, List.set_cons_zero, List.set_cons_succ])
          refine wpAnyH_ready (rs := [5]) (by kernel_rfl) (by simp) ?_
          refine AllReadyH.cons rfl (fun K hK => ?_) AllReadyH.nil
          go_simp
          refine hop.mono ?_
          rintro e w1 ⟨rfl, hE1, hu1⟩
          have hX1 := Box.upd HXd.out hu1 (by omega)
          have HB1 : Hid (Below w.heap.size w w1) := upd_below HBd.out hu1 hbb
          have HX1 : Hid _ := hX1
          obtain ⟨g0, g1, g2, g3⟩ := Box.cells hX1
          have hrf1 := hrf w1 hE1 hu1
          clear hX1 hE1 hu1 hrf hop
          refine hK.out _ _ ⟨g1, g3⟩ (fun hHeld => ?_)
          clear hK K
          (try simp only [Act.put, List.getElem_toArray, List.getElem_cons_zero, List.getElem_cons_succ, List.setIfInBounds_toArray, List.set_cons_zero, List.set_cons_succ])
          refine wpAnyH_ready (rs := [11]) (by kernel_rfl) (by simp) ?_
          refine AllReadyH.cons rfl (fun K hK => ?_) AllReadyH.nil
          go_simp
          refine hrf1.mono ?_
          rintro e w2 ⟨rfl, hD2, hu2⟩
          have hX2 := Box.upd HX1.out hu2 (by omega)
          have HB2 : Hid (Below w.heap.size w w2) := upd_below HB1.out hu2 hcc
          have HX2 : Hid _ := hX2
          have HD2 : Hid _ := hD2
          obtain ⟨m0, m1, m2, m3⟩ := Box.cells hX2
          clear hX2 hD2 hu2 hrf1
          refine hK.out _ _ ⟨m1, m3⟩ (fun hHeld => ?_)
          clear hK K
          (try simp only [Act.put, List.getElem_toArray, List.getElem_cons_zero, List.getElem_cons_succ, List.setIfInBounds_toArray, List.set_cons_zero, List.set_cons_succ])
          refine wpAnyH_take (i := 12) (v := ?_) rfl (by kernel_rfl) (by kernel_rfl) (by kernel_rfl) (fun _ _ _ h => h) (Or.inl ⟨by kernel_rfl, ?_⟩) (by assumption) ?_
          rotate_left
          · (intro w hSw; (try dsimp only at hSw); go_simp) <;> with_reducible rfl
          (try simp only [Act.put, List.getElem_toArray, List.getElem_cons_zero, List.getElem_cons_succ, List.setIfInBounds_toArray, List.set_cons_zero, List.set_cons_succ])
          refine wpAnyH_take (i := 13) (v := ?_) rfl (by kernel_rfl) (by kernel_rfl) (by kernel_rfl) (fun _ _ _ h => h) (Or.inl ⟨by kernel_rfl, ?_⟩) (by assumption) ?_
          rotate_left
          · (intro w hSw; (try dsimp only at hSw); go_simp) <;> with_reducible rfl
          (try simp only [Act.put, List.getElem_toArray, List.getElem_cons_zero, List.getElem_cons_succ, List.setIfInBounds_toArray, List.set_cons_zero, List.set_cons_succ])
          refine wpAnyH_done (by kernel_rfl) ?_ _
          clear hHeld
          go_wp2_with fail
          go_meet
          case rel => exact ⟨b, S1, rfl, by simp, HD2.out, HX2.out, HB2.out, hbb, by omega⟩
        · have hop := take_at b S di dn W.drew HDd.out.pp
          have hrf := fun (w1 : World) (h1 : PpAt w1 b (taS S di dn)) (hu1 : Upd b W.drew w1) => HDd.out.rtake di dn h1 hu1
          generalize hrr : taT S di dn = r at hop hrf
          generalize hss : taS S di dn = S1 at hop hrf
          clear hrr hss
          go_wp2_with fail
          clear c0 c1 c2 c3
          refine wp_region_held_drew (S := fun w' => w'.cell? ⟨D, 1, none⟩ = some (.int .i64 di) ∧ w'.cell? ⟨D, 2, none⟩ = some (.int .i64 dn)) (by kernel_rfl) ⟨f1, f2⟩ (fun hHeld => ?_)
          refine wpAnyH_take (i := 0) (v := ?_) rfl (by kernel_rfl) (by kernel_rfl) (by kernel_rfl) (fun _ _ _ h => h) (Or.inl ⟨by kernel_rfl, ?_⟩) (by assumption) ?_
          rotate_left
          · (intro w hSw; (try dsimp only at hSw); go_simp) <;> with_reducible rfl
          (try simp only [Act.put, List.getElem_toArray, List.getElem_cons_zero, List.setIfInBounds_toArray, List.set_cons_zero, List.set_cons_succ])
          refine wpAnyH_take (i := 1) (v := ?_) rfl (by kernel_rfl) (by kernel_rfl) (by kernel_rfl) (fun _ _ _ h => h) (Or.inl ⟨by kernel_rfl, ?_⟩) (by assumption) ?_
          rotate_left
          · (intro w hSw; (try dsimp only at hSw); go_simp) <;> with_reducible rfl
          (try simp only [Act.put, List.getElem_toArray, List.getElem_cons_zero, List.getElem_cons_succ, List.setIfInBounds_toArray, List.set_cons_zero, List.set_cons_succ])
          refine wpAnyH_take (i := 2) (v := ?_) rfl (by kernel_rfl) (by kernel_rfl) (by kernel_rfl) (fun _ _ _ h => h) (Or.inl ⟨by kernel_rfl, ?_⟩) (by assumption) ?_
          rotate_left
          · (intro w hSw; (try dsimp only at hSw); go_simp) <;> with_reducible rfl
          (try simp only [Act.put, List.getElem_toArray, List.getElem_cons_zero, List.getElem_cons_succ, List.setIfInBounds_toArray, List.set_cons_zero, List.set_cons_succ])
          refine wpAnyH_take (i := 3) (v := ?_) rfl (by kernel_rfl) (by kernel_rfl) (by kernel_rfl) (fun _ _ _ h => h) (Or.inl ⟨by kernel_rfl, ?_⟩) (by assumption) ?_
          rotate_left
          · (intro w hSw; (try dsimp only at hSw); go_simp) <;> with_reducible rfl
          (try simp only [Act.put, List.getElem_toArray, List.getElem_cons_zero, List.getElem_cons_succ, List.setIfInBounds_toArray, List.set_cons_zero, List.set_cons_succ])
          refine wpAnyH_take (i := 4) (v := ?_) rfl (by kernel_rfl) (by kernel_rfl) (by kernel_rfl) (fun _ _ _ h => h) (Or.inl ⟨by kernel_rfl, ?_⟩) (by assumption) ?_
          rotate_left
          · (intro w hSw; (try dsimp only at hSw); go_simp) <;> with_reducible rfl
          (try simp only [Act.put, List.getElem_toArray, List.getElem_cons_zero, List.getElem_cons_succ, List.setIfInBounds_toArray, List.set_cons_zero, List.set_cons_succ])
          refine wpAnyH_take (i := 6) (v := ?_) rfl (by kernel_rfl) (by kernel_rfl) (by kernel_rfl) (fun _ _ _ h => h) (Or.inl ⟨by kernel_rfl, ?_⟩) (by assumption) ?_
          rotate_left
          · (intro w hSw; (try dsimp only at hSw); go_simp) <;> with_reducible rfl
          (try simp only [Act.put, List.getElem_toArray, List.getElem_cons_zero, List.getElem_cons_succ, List.setIfInBounds_toArray, List.set_cons_zero, List.set_cons_succ])
          refine wpAnyH_take (i := 7) (v := ?_) rfl (by kernel_rfl) (by kernel_rfl) (by kernel_rfl) (fun _ _ _ h => h) (Or.inl ⟨by kernel_rfl, ?_⟩) (by assumption) ?_
          rotate_left
          · (intro w hSw; (try dsimp only at hSw); go_simp) <;> with_reducible rfl
          (try simp only [Act.put, List.getElem_toArray, List.getElem_cons_zero, List.getElem_cons_succ, List.setIfInBounds_toArray, List.set_cons_zero, List.set_cons_succ])
          refine wpAnyH_take (i := 8) (v := ?_) rfl (by kernel_rfl) (by kernel_rfl) (by kernel_rfl) (fun _ _ _ h => h) (Or.inl ⟨by kernel_rfl, ?_⟩) (by assumption) ?_
          rotate_left
          · (intro w hSw; (try dsimp only at hSw); go_simp) <;> with_reducible rfl
          (try simp only [Act.put, List.getElem_toArray, List.getElem_cons_zero, List.getElem_cons_succ, List.setIfInBounds_toArray, List.set_cons_zero, List.set_cons_succ])
          refine wpAnyH_take (i := 9) (v := ?_) rfl (by kernel_rfl) (by kernel_rfl) (by kernel_rfl) (fun _ _ _ h => h) (Or.inl ⟨by kernel_rfl, ?_⟩) (by assumption) ?_
          rotate_left
          · (intro w hSw; (try dsimp only at hSw); go_simp) <;> with_reducible rfl
          (try simp only [Act.put, List.getElem_toArray, List.getElem_cons_zero, List.getElem_cons_succ, List.setIfInBounds_toArray, List.set_cons_zero, List.set_cons_succ])
          refine wpAnyH_take (i := 10) (v := ?_) rfl (by kernel_rfl) (by kernel_rfl) (by kernel_rfl) (fun _ _ _ h => h) (Or.inl ⟨by kernel_rfl, ?_⟩) (by assumption) ?_
          rotate_left
          · (intro w hSw; (try dsimp only at hSw); go_simp) <;> with_reducible rfl
          (try simp only [Act.put, List.getElem_toArray, List.getElem_cons_zero, List.getElem_cons_succ, List.setIfInBounds_toArray, List.set_cons_zero, List.set_cons_succ])
          refine wpAnyH_ready (rs := [5]) (by kernel_rfl) (by simp) ?_
          refine AllReadyH.cons rfl (fun K hK => ?_) AllReadyH.nil
          go_simp
          refine hop.mono ?_
          rintro e w1 ⟨rfl, hE1, hu1⟩
          have hX1 := Box.upd HXd.out hu1 (by omega)
          have HB1 : Hid (Below w.heap.size w w1) := upd_below HBd.out hu1 hbb
          have HX1 : Hid _ := hX1
          obtain ⟨g0, g1, g2, g3⟩ := Box.cells hX1
          have hrf1 := hrf w1 hE1 hu1
          clear hX1 hE1 hu1 hrf hop
          refine hK.out _ _ ⟨g1, g2⟩ (fun hHeld => ?_)
          clear hK K
          (try simp only [Act.put, List.getElem_toArray, List.getElem_cons_zero, List.getElem_cons_succ, List.setIfInBounds_toArray, List.set_cons_zero, List.set_cons_succ])
          refine wpAnyH_ready (rs := [11]) (by kernel_rfl) (by simp) ?_
          refine AllReadyH.cons rfl (fun K hK => ?_) AllReadyH.nil
          go_simp
          refine hrf1.mono ?_
          rintro e w2 ⟨rfl, hD2, hu2⟩
          have hX2 := Box.upd HX1.out hu2 (by omega)
          have HB2 : Hid (Below w.heap.size w w2) := upd_below HB1.out hu2 hcc
          have HX2 : Hid _ := hX2
          have HD2 : Hid _ := hD2
          obtain ⟨m0, m1, m2, m3⟩ := Box.cells hX2
          clear hX2 hD2 hu2 hrf1
          refine hK.out _ _ ⟨m1, m2⟩ (fun hHeld => ?_)
          clear hK K
          (try simp only [Act.put, List.getElem_toArray, List.getElem_cons_zero, List.getElem_cons_succ, List.setIfInBounds_toArray, List.set_cons_zero, List.set_cons_succ])
          have hte := tx_eq r
          refine wpAnyH_take (i := 12) (v := ?_) rfl (by kernel_rfl) (by kernel_rfl) (by kernel_rfl) (fun _ _ _ h => h) (Or.inl ⟨by kernel_rfl, ?_⟩) (by assumption) ?_
          rotate_left
          · (intro w hSw; (try dsimp only at hSw); go_simp) <;> with_reducible rfl
          (try simp only [Act.put, List.getElem_toArray, List.getElem_cons_zero, List.getElem_cons_succ, List.setIfInBounds_toArray, List.set_cons_zero, List.set_cons_succ])
          refine wpAnyH_take (i := 13) (v := ?_) rfl (by kernel_rfl) (by kernel_rfl) (by kernel_rfl) (fun _ _ _ h => h) (Or.inl ⟨by kernel_rfl, ?_⟩) (by assumption) ?_
          rotate_left
          · (intro w hSw; (try dsimp only at hSw); go_simp) <;> with_reducible rfl
          (try simp only [Act.put, List.getElem_toArray, List.getElem_cons_zero, List.getElem_cons_succ, List.setIfInBounds_toArray, List.set_cons_zero, List.set_cons_succ])
          refine wpAnyH_done (by kernel_rfl) ?_ _
          clear hHeld
          go_wp2_with fail
          go_meet
          case rel => exact ⟨b, S1, rfl, by simp, HD2.out, HX2.out, HB2.out, hbb, by omega⟩
        · have hop := drop_at b S di W.drew HDd.out.pp
          have hrf := fun (w1 : World) (h1 : PpAt w1 b (drS S di)) (hu1 : Upd b W.drew w1) => HDd.out.rdrop di h1 hu1
          generalize hrr : drE S di = r at hop hrf
          generalize hss : drS S di = S1 at hop hrf
          clear hrr hss
          go_wp2_with fail
          clear c0 c1 c2 c3
          refine wp_region_held_drew (S := fun w' => w'.cell? ⟨D, 1, none⟩ = some (.int .i64 di)) (by kernel_rfl) f1 (fun hHeld => ?_)
          refine wpAnyH_take (i := 0) (v := ?_) rfl (by kernel_rfl) (by kernel_rfl) (by kernel_rfl) (fun _ _ _ h => h) (Or.inl ⟨by kernel_rfl, ?_⟩) (by assumption) ?_
          rotate_left
          · (intro w hSw; (try dsimp only at hSw); go_simp) <;> with_reducible rfl
          (try simp only [Act.put, List.getElem_toArray, List.getElem_cons_zero, List.setIfInBounds_toArray, List.set_cons_zero, List.set_cons_succ])
          refine wpAnyH_take (i := 1) (v := ?_) rfl (by kernel_rfl) (by kernel_rfl) (by kernel_rfl) (fun _ _ _ h => h) (Or.inl ⟨by kernel_rfl, ?_⟩) (by assumption) ?_
          rotate_left
          · (intro w hSw; (try dsimp only at hSw); go_simp) <;> with_reducible rfl
          (try simp only [Act.put, List.getElem_toArray, List.getElem_cons_zero, List.getElem_cons_succ, List.setIfInBounds_toArray, List.set_cons_zero, List.set_cons_succ])
          refine wpAnyH_take (i := 2) (v := ?_) rfl (by kernel_rfl) (by kernel_rfl) (by kernel_rfl) (fun _ _ _ h => h) (Or.inl ⟨by kernel_rfl, ?_⟩) (by assumption) ?_
          rotate_left
          · (intro w hSw; (try dsimp only at hSw); go_simp) <;> with_reducible rfl
          (try simp only [Act.put, List.getElem_toArray, List.getElem_cons_zero, List.getElem_cons_succ, List.setIfInBounds_toArray, List.set_cons_zero, List.set_cons_succ])
          refine wpAnyH_take (i := 4) (v := ?_) rfl (by kernel_rfl) (by kernel_rfl) (by kernel_rfl) (fun _ _ _ h => h) (Or.inl ⟨by kernel_rfl, ?_⟩) (by assumption) ?_
          rotate_left
          · (intro w hSw; (try dsimp only at hSw); go_simp) <;> with_reducible rfl
          (try simp only [Act.put, List.getElem_toArray, List.getElem_cons_zero, List.getElem_cons_succ, List.setIfInBounds_toArray, List.set_cons_zero, List.set_cons_succ])
          refine wpAnyH_take (i := 5) (v := ?_) rfl (by kernel_rfl) (by kernel_rfl) (by kernel_rfl) (fun _ _ _ h => h) (Or.inl ⟨by kernel_rfl, ?_⟩) (by assumption) ?_
          rotate_left
          · (intro w hSw; (try dsimp only at hSw); go_simp) <;> with_reducible rfl
          (try simp only [Act.put, List.getElem_toArray, List.getElem_cons_zero, List.getElem_cons_succ, List.setIfInBounds_toArray, List.set_cons_zero, List.set_cons_succ])
          refine wpAnyH_take (i := 6) (v := ?_) rfl (by kernel_rfl) (by kernel_rfl) (by kernel_rfl) (fun _ _ _ h => h) (Or.inl ⟨by kernel_rfl, ?_⟩) (by assumption) ?_
          rotate_left
          · (intro w hSw; (try dsimp only at hSw); go_simp) <;> with_reducible rfl
          (try simp only [Act.put, List.getElem_toArray, List.getElem_cons_zero, List.getElem_cons_succ, List.setIfInBounds_toArray, List.set_cons_zero, List.set_cons_succ])
          refine wpAnyH_ready (rs := [3]) (by kernel_rfl) (by simp) ?_
          refine AllReadyH.cons rfl (fun K hK => ?_) AllReadyH.nil
          go_simp
          refine hop.mono ?_
          rintro e w1 ⟨rfl, hE1, hu1⟩
          have hX1 := Box.upd HXd.out hu1 (by omega)
          have HB1 : Hid (Below w.heap.size w w1) := upd_below HBd.out hu1 hbb
          have HX1 : Hid _ := hX1
          obtain ⟨g0, g1, g2, g3⟩ := Box.cells hX1
          have hrf1 := hrf w1 hE1 hu1
          clear hX1 hE1 hu1 hrf hop
          refine hK.out _ _ g1 (fun hHeld => ?_)
          clear hK K
          (try simp only [Act.put, List.getElem_toArray, List.getElem_cons_zero, List.getElem_cons_succ, List.setIfInBounds_toArray, List.set_cons_zero, List.set_cons_succ])
          refine wpAnyH_ready (rs := [7]) (by kernel_rfl) (by simp) ?_
          refine AllReadyH.cons rfl (fun K hK => ?_) AllReadyH.nil
          go_simp
          refine hrf1.mono ?_
          rintro e w2 ⟨rfl, hD2, hu2⟩
          have hX2 := Box.upd HX1.out hu2 (by omega)
          have HB2 : Hid (Below w.heap.size w w2) := upd_below HB1.out hu2 hcc
          have HX2 : Hid _ := hX2
          have HD2 : Hid _ := hD2
          obtain ⟨m0, m1, m2, m3⟩ := Box.cells hX2
          clear hX2 hD2 hu2 hrf1
          refine hK.out _ _ m1 (fun hHeld => ?_)
          clear hK K
          (try simp only [Act.put, List.getElem_toArray, List.getElem_cons_zero, List.getElem_cons_succ, List.setIfInBounds_toArray, List.set_cons_zero, List.set_cons_succ])
          refine wpAnyH_take (i := 8) (v := ?_) rfl (by kernel_rfl) (by kernel_rfl) (by kernel_rfl) (fun _ _ _ h => h) (Or.inl ⟨by kernel_rfl, ?_⟩) (by assumption) ?_
          rotate_left
          · (intro w hSw; (try dsimp only at hSw); go_simp) <;> with_reducible rfl
          (try simp only [Act.put, List.getElem_toArray, List.getElem_cons_zero, List.getElem_cons_succ, List.setIfInBounds_toArray, List.set_cons_zero, List.set_cons_succ])
          refine wpAnyH_take (i := 9) (v := ?_) rfl (by kernel_rfl) (by kernel_rfl) (by kernel_rfl) (fun _ _ _ h => h) (Or.inl ⟨by kernel_rfl, ?_⟩) (by assumption) ?_
          rotate_left
          · (intro w hSw; (try dsimp only at hSw); go_simp) <;> with_reducible rfl
          (try simp only [Act.put, List.getElem_toArray, List.getElem_cons_zero, List.getElem_cons_succ, List.setIfInBounds_toArray, List.set_cons_zero, List.set_cons_succ])
          refine wpAnyH_done (by kernel_rfl) ?_ _
          clear hHeld
          go_wp2_with fail
          go_meet
          case rel => exact ⟨b, S1, rfl, by simp, HD2.out, HX2.out, HB2.out, hbb, by omega⟩
        · have hop := encode_at b S W HD.out.pp
          have HU6 : Hid (U64 (encS S)) := encS_u64 HD.out.pp.fits
          have HEl : Hid ((encS S).length ≤ 160) := encS_len HD.out.pp.fits
          have HDe : Hid (decS (encS S) = some S) := dec_enc HD.out.pp.fits HD.out.top
          clear c0 c1 c2 c3 f0 f1 f2 f3
          go_wp2_with fail
          refine hop.mono ?_
          rintro e w1 ⟨v, rfl, hown, hb1⟩
          obtain ⟨av, cv, rfl, hcv, hrd⟩ := own_rd hown
          have hDc2 := decode_at av (encS S).length cv (encS S) w1 hrd rfl hcv HU6.out (by have := HEl.out; omega)
          have HB1 : Hid (Below w.heap.size w w1) := HB.out.trans (hb1.mono HB.out.size)
          have HX1 : Hid _ := Box.below HX.out hb1
          have HD1 : Hid (Duo w1 b c S) := HD.out.below hb1
          clear hop hown hrd hb1 hcv
          generalize (encS S).length = el at *
          go_wp2_with fail
          refine hDc2.mono ?_
          rintro e w2 ⟨-, hx2, hb2⟩
          obtain ⟨hx, hA2⟩ := hx2 S HDe.out
          subst hx
          have HB2 : Hid (Below w.heap.size w w2) := HB1.out.trans (hb2.mono HB1.out.size)
          have HX2 : Hid _ := Box.below HX1.out hb2
          have hDl : D < w1.heap.size := lt_of_heap HX1.out
          have HD2 : Hid (Duo w2 w1.heap.size c S) := ⟨hA2, HD1.out.rp.below hb2, HD1.out.top⟩
          have hbs : w.heap.size ≤ w1.heap.size := HB1.out.size
          have hnn := ptr_eq w1.heap.size
          generalize w1.heap.size = b2 at *
          clear hDc2 hx2 hb2 hA2 HB1 HX1 HD1
          go_wp2_with fail
          go_meet
          case rel => exact ⟨b2, S, rfl, rfl, HD2.out, HX2.out, HB2.out, hbs, by omega⟩
      case rest =>
        obtain ⟨b', S', rfl, rfl, hD, hX, hB, hbb', hDb'⟩ := hcut
        clear HX HD HB hn1
        have hdr : Below wc.heap.size wc wc.drew := (Below.refl _ _).drew
        have HX : Hid (Box wc.drew D ⟨dk, di, dn, ds⟩) := Box.below hX hdr
        have HD : Hid (Duo wc.drew b' c S') := hD.below hdr
        have HB : Hid (Below w.heap.size w wc.drew) := hB.drew
        have hL := len_at b' S' di wc.drew HD.out.pp
        have hxL := fun (w1 : World) (h1 : Below wc.drew.heap.size wc.drew w1) => xlen_at c S' di w1 (HD.out.rp.below h1)
        generalize (inn S' di).length = ln at hL hxL
        obtain ⟨x0, x1, x2, x3⟩ := Box.cells HX.out
        dsimp only at x0 x1 x2 x3
        clear hdr hX hD hB
        go_wp2_with fail
        refine wp_region_held_drew (S := fun w' => w'.cell? ⟨D, 1, none⟩ = some (.int .i64 di)) (by kernel_rfl) x1 (fun hHeld => ?_)
        refine wpAnyH_take (i := 0) (v := ?_) rfl (by kernel_rfl) (by kernel_rfl) (by kernel_rfl) (fun _ _ _ h => h) (Or.inl ⟨by kernel_rfl, ?_⟩) (by assumption) ?_
        rotate_left
        · (intro w hSw; (try dsimp only at hSw); go_simp) <;> with_reducible rfl
        (try simp only [Act.put, List.getElem_toArray, List.getElem_cons_zero, List.setIfInBounds_toArray, List.set_cons_zero, List.set_cons_succ])
        refine wpAnyH_take (i := 1) (v := ?_) rfl (by kernel_rfl) (by kernel_rfl) (by kernel_rfl) (fun _ _ _ h => h) (Or.inl ⟨by kernel_rfl, ?_⟩) (by assumption) ?_
        rotate_left
        · (intro w hSw; (try dsimp only at hSw); go_simp) <;> with_reducible rfl
        (try simp only [Act.put, List.getElem_toArray, List.getElem_cons_zero, List.getElem_cons_succ, List.setIfInBounds_toArray, List.set_cons_zero, List.set_cons_succ])
        refine wpAnyH_take (i := 2) (v := ?_) rfl (by kernel_rfl) (by kernel_rfl) (by kernel_rfl) (fun _ _ _ h => h) (Or.inl ⟨by kernel_rfl, ?_⟩) (by assumption) ?_
        rotate_left
        · (intro w hSw; (try dsimp only at hSw); go_simp) <;> with_reducible rfl
        (try simp only [Act.put, List.getElem_toArray, List.getElem_cons_zero, List.getElem_cons_succ, List.setIfInBounds_toArray, List.set_cons_zero, List.set_cons_succ])
        refine wpAnyH_take (i := 3) (v := ?_) rfl (by kernel_rfl) (by kernel_rfl) (by kernel_rfl) (fun _ _ _ h => h) (Or.inl ⟨by kernel_rfl, ?_⟩) (by assumption) ?_
        rotate_left
        · (intro w hSw; (try dsimp only at hSw); go_simp) <;> with_reducible rfl
        (try simp only [Act.put, List.getElem_toArray, List.getElem_cons_zero, List.getElem_cons_succ, List.setIfInBounds_toArray, List.set_cons_zero, List.set_cons_succ])
        refine wpAnyH_take (i := 4) (v := ?_) rfl (by kernel_rfl) (by kernel_rfl) (by kernel_rfl) (fun _ _ _ h => h) (Or.inl ⟨by kernel_rfl, ?_⟩) (by assumption) ?_
        rotate_left
        · (intro w hSw; (try dsimp only at hSw); go_simp) <;> with_reducible rfl
        (try simp only [Act.put, List.getElem_toArray, List.getElem_cons_zero, List.getElem_cons_succ, List.setIfInBounds_toArray, List.set_cons_zero, List.set_cons_succ])
        refine wpAnyH_take (i := 5) (v := ?_) rfl (by kernel_rfl) (by kernel_rfl) (by kernel_rfl) (fun _ _ _ h => h) (Or.inl ⟨by kernel_rfl, ?_⟩) (by assumption) ?_
        rotate_left
        · (intro w hSw; (try dsimp only at hSw); go_simp) <;> with_reducible rfl
        (try simp only [Act.put, List.getElem_toArray, List.getElem_cons_zero, List.getElem_cons_succ, List.setIfInBounds_toArray, List.set_cons_zero, List.set_cons_succ])
        refine wpAnyH_take (i := 7) (v := ?_) rfl (by kernel_rfl) (by kernel_rfl) (by kernel_rfl) (fun _ _ _ h => h) (Or.inl ⟨by kernel_rfl, ?_⟩) (by assumption) ?_
        rotate_left
        · (intro w hSw; (try dsimp only at hSw); go_simp) <;> with_reducible rfl
        (try simp only [Act.put, List.getElem_toArray, List.getElem_cons_zero, List.getElem_cons_succ, List.setIfInBounds_toArray, List.set_cons_zero, List.set_cons_succ])
        refine wpAnyH_take (i := 8) (v := ?_) rfl (by kernel_rfl) (by kernel_rfl) (by kernel_rfl) (fun _ _ _ h => h) (Or.inl ⟨by kernel_rfl, ?_⟩) (by assumption) ?_
        rotate_left
        · (intro w hSw; (try dsimp only at hSw); go_simp) <;> with_reducible rfl
        (try simp only [Act.put, List.getElem_toArray, List.getElem_cons_zero, List.getElem_cons_succ, List.setIfInBounds_toArray, List.set_cons_zero, List.set_cons_succ])
        refine wpAnyH_take (i := 9) (v := ?_) rfl (by kernel_rfl) (by kernel_rfl) (by kernel_rfl) (fun _ _ _ h => h) (Or.inl ⟨by kernel_rfl, ?_⟩) (by assumption) ?_
        rotate_left
        · (intro w hSw; (try dsimp only at hSw); go_simp) <;> with_reducible rfl
        (try simp only [Act.put, List.getElem_toArray, List.getElem_cons_zero, List.getElem_cons_succ, List.setIfInBounds_toArray, List.set_cons_zero, List.set_cons_succ])
        refine wpAnyH_ready (rs := [6]) (by kernel_rfl) (by simp) ?_
        refine AllReadyH.cons rfl (fun K hK => ?_) AllReadyH.nil
        go_simp
        refine hL.mono ?_
        rintro e w3 ⟨rfl, hb3⟩
        have HX3 : Hid _ := Box.below HX.out hb3
        have HD3 : Hid (Duo w3 b' c S') := HD.out.below hb3
        have HB3 : Hid (Below w.heap.size w w3) := HB.out.trans (hb3.mono HB.out.size)
        have hxL3 := hxL w3 hb3
        obtain ⟨p0, p1, p2, p3⟩ := Box.cells HX3.out
        clear hb3 hL hxL HX HD HB
        refine hK.out _ _ p1 (fun hHeld => ?_)
        clear hK K
        (try simp only [Act.put, List.getElem_toArray, List.getElem_cons_zero, List.getElem_cons_succ, List.setIfInBounds_toArray, List.set_cons_zero, List.set_cons_succ])
        refine wpAnyH_ready (rs := [10]) (by kernel_rfl) (by simp) ?_
        refine AllReadyH.cons rfl (fun K hK => ?_) AllReadyH.nil
        go_simp
        refine hxL3.mono ?_
        rintro e w4 ⟨rfl, hw⟩
        rw [hw]
        clear hw w4 hxL3
        refine hK.out _ _ p1 (fun hHeld => ?_)
        clear hK K
        (try simp only [Act.put, List.getElem_toArray, List.getElem_cons_zero, List.getElem_cons_succ, List.setIfInBounds_toArray, List.set_cons_zero, List.set_cons_succ])
        refine wpAnyH_take (i := 11) (v := ?_) rfl (by kernel_rfl) (by kernel_rfl) (by kernel_rfl) (fun _ _ _ h => h) (Or.inl ⟨by kernel_rfl, ?_⟩) (by assumption) ?_
        rotate_left
        · (intro w hSw; (try dsimp only at hSw); go_simp) <;> with_reducible rfl
        (try simp only [Act.put, List.getElem_toArray, List.getElem_cons_zero, List.getElem_cons_succ, List.setIfInBounds_toArray, List.set_cons_zero, List.set_cons_succ])
        refine wpAnyH_take (i := 12) (v := ?_) rfl (by kernel_rfl) (by kernel_rfl) (by kernel_rfl) (fun _ _ _ h => h) (Or.inl ⟨by kernel_rfl, ?_⟩) (by assumption) ?_
        rotate_left
        · (intro w hSw; (try dsimp only at hSw); go_simp) <;> with_reducible rfl
        (try simp only [Act.put, List.getElem_toArray, List.getElem_cons_zero, List.getElem_cons_succ, List.setIfInBounds_toArray, List.set_cons_zero, List.set_cons_succ])
        refine wpAnyH_take (i := 13) (v := ?_) rfl (by kernel_rfl) (by kernel_rfl) (by kernel_rfl) (fun _ _ _ h => h) (Or.inl ⟨by kernel_rfl, ?_⟩) (by assumption) ?_
        rotate_left
        · (intro w hSw; (try dsimp only at hSw); go_simp) <;> with_reducible rfl
        (try simp only [Act.put, List.getElem_toArray, List.getElem_cons_zero, List.getElem_cons_succ, List.setIfInBounds_toArray, List.set_cons_zero, List.set_cons_succ])
        refine wpAnyH_take (i := 14) (v := ?_) rfl (by kernel_rfl) (by kernel_rfl) (by kernel_rfl) (fun _ _ _ h => h) (Or.inl ⟨by kernel_rfl, ?_⟩) (by assumption) ?_
        rotate_left
        · (intro w hSw; (try dsimp only at hSw); go_simp) <;> with_reducible rfl
        (try simp only [Act.put, List.getElem_toArray, List.getElem_cons_zero, List.getElem_cons_succ, List.setIfInBounds_toArray, List.set_cons_zero, List.set_cons_succ])
        refine wpAnyH_take (i := 16) (v := ?_) rfl (by kernel_rfl) (by kernel_rfl) (by kernel_rfl) (fun _ _ _ h => h) (Or.inl ⟨by kernel_rfl, ?_⟩) (by assumption) ?_
        rotate_left
        · (intro w hSw; (try dsimp only at hSw); go_simp) <;> with_reducible rfl
        (try simp only [Act.put, List.getElem_toArray, List.getElem_cons_zero, List.getElem_cons_succ, List.setIfInBounds_toArray, List.set_cons_zero, List.set_cons_succ])
        refine wpAnyH_ready (rs := [15]) (by kernel_rfl) (by simp) ?_
        refine AllReadyH.cons rfl (fun K hK => ?_) AllReadyH.nil
        go_simp
        refine (encode_at b' S' w3 HD3.out.pp).mono ?_
        rintro e w5 ⟨v5, rfl, hown5, hb5⟩
        obtain ⟨a5, c5, rfl, _, hrd5⟩ := own_rd hown5
        have HX5 : Hid _ := Box.below HX3.out hb5
        have HD5 : Hid (Duo w5 b' c S') := HD3.out.below hb5
        have HB5 : Hid (Below w.heap.size w w5) := HB3.out.trans (hb5.mono HB3.out.size)
        have HR5 : Hid (Rd w5 a5 (encS S')) := hrd5
        obtain ⟨q0, q1, q2, q3⟩ := Box.cells HX5.out
        clear hb5 hown5 hrd5 HX3 HD3 HB3
        refine hK.out _ _ q1 (fun hHeld => ?_)
        clear hK K
        (try simp only [Act.put, List.getElem_toArray, List.getElem_cons_zero, List.getElem_cons_succ, List.setIfInBounds_toArray, List.set_cons_zero, List.set_cons_succ])
        refine wpAnyH_ready (rs := [17]) (by kernel_rfl) (by simp) ?_
        refine AllReadyH.cons rfl (fun K hK => ?_) AllReadyH.nil
        go_simp
        refine (xencode_at c S' w5 HD5.out.rp HD5.out.pp.fits).mono ?_
        rintro e w6 ⟨v6, rfl, hown6, hb6⟩
        obtain ⟨a6, c6, rfl, _, hrd6⟩ := own_rd hown6
        have HX6 : Hid _ := Box.below HX5.out hb6
        have HD6 : Hid (Duo w6 b' c S') := HD5.out.below hb6
        have HB6 : Hid (Below w.heap.size w w6) := HB5.out.trans (hb6.mono HB5.out.size)
        have hWo := words_same (encS S') a5 a6 c5 c6 w6 (HR5.out.below hb6) hrd6 (by have := encS_len HD6.out.pp.fits; omega)
        obtain ⟨r0, r1, r2, r3⟩ := Box.cells HX6.out
        clear hb6 hown6 hrd6 HX5 HD5 HB5 HR5
        generalize (encS S').length = el at *
        refine hK.out _ _ r1 (fun hHeld => ?_)
        clear hK K
        (try simp only [Act.put, List.getElem_toArray, List.getElem_cons_zero, List.getElem_cons_succ, List.setIfInBounds_toArray, List.set_cons_zero, List.set_cons_succ])
        refine wpAnyH_ready (rs := [18]) (by kernel_rfl) (by simp) ?_
        refine AllReadyH.cons rfl (fun K hK => ?_) AllReadyH.nil
        go_simp
        refine hWo.mono ?_
        rintro e w7 ⟨rfl, hb7⟩
        have HX7 : Hid _ := Box.below HX6.out hb7
        have HD7 : Hid (Duo w7 b' c S') := HD6.out.below hb7
        have HB7 : Hid (Below w.heap.size w w7) := HB6.out.trans (hb7.mono HB6.out.size)
        obtain ⟨s0, s1, s2, s3⟩ := Box.cells HX7.out
        clear hb7 hWo HX6 HD6 HB6
        refine hK.out _ _ s1 (fun hHeld => ?_)
        clear hK K
        (try simp only [Act.put, List.getElem_toArray, List.getElem_cons_zero, List.getElem_cons_succ, List.setIfInBounds_toArray, List.set_cons_zero, List.set_cons_succ])
        refine wpAnyH_take (i := 19) (v := ?_) rfl (by kernel_rfl) (by kernel_rfl) (by kernel_rfl) (fun _ _ _ h => h) (Or.inl ⟨by kernel_rfl, ?_⟩) (by assumption) ?_
        rotate_left
        · (intro w hSw; (try dsimp only at hSw); go_simp) <;> with_reducible rfl
        (try simp only [Act.put, List.getElem_toArray, List.getElem_cons_zero, List.getElem_cons_succ, List.setIfInBounds_toArray, List.set_cons_zero, List.set_cons_succ])
        refine wpAnyH_take (i := 20) (v := ?_) rfl (by kernel_rfl) (by kernel_rfl) (by kernel_rfl) (fun _ _ _ h => h) (Or.inl ⟨by kernel_rfl, ?_⟩) (by assumption) ?_
        rotate_left
        · (intro w hSw; (try dsimp only at hSw); go_simp) <;> with_reducible rfl
        (try simp only [Act.put, List.getElem_toArray, List.getElem_cons_zero, List.getElem_cons_succ, List.setIfInBounds_toArray, List.set_cons_zero, List.set_cons_succ])
        refine wpAnyH_done (by kernel_rfl) ?_ _
        clear hHeld
        go_wp2
        go_roundw
        case rel => exact ⟨k + 1, b', S', by omega, by omega, rfl, by go_num, HD7.out, HB7.out, hbb'⟩
        case measure => simp [intOf]; omega
    · have HB : Hid (Below w.heap.size w wr) := hB
      clear hD hB hdeeds
      have hkl : k < len ∨ len ≤ k := by omega
      rcases hkl with hkl | hkl
      · have g0 : decide ((k : Int) < (len : Int)) = true := decide_eq_true (by omega)
        have g1 : decide ((k : Int) < 200) = false := decide_eq_false (by omega)
        go_wp2_with fail
        refine (awake_at _).mono ?_
        rintro e w6 ⟨rfl, hb6⟩
        go_wp2
        go_ret
        exact ⟨rfl, HB.out.trans (hb6.mono HB.out.size)⟩
      · have g0 : decide ((k : Int) < (len : Int)) = false := decide_eq_false (by omega)
        go_wp2_with fail
        refine (awake_at _).mono ?_
        rintro e w6 ⟨rfl, hb6⟩
        go_wp2
        go_ret
        exact ⟨rfl, HB.out.trans (hb6.mono HB.out.size)⟩
end Go.Proofs.Ytpnmaoinnmmfdaa
