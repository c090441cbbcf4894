/- januslaw20.do: a deed with both. -/
import Derived.Test.YtliifpknkdjgjaaOneM20
import Derived.Test.YtliifpknkdjgjaaRsE
namespace Go.Proofs.Ytliifpknkdjgjaa
open Go.RowKit Go.Lib
set_option linter.unusedVariables false

/-- Both say the same. -/
structure Duo (w : World) (b c : Nat) (S : SS) : Prop where
  sg : SgAt w b S
  rg : RgAt w c S
  ok : SOk S
  top : ∀ j, 8 ≤ j → S j = Sg.first
section
variable {w w' w1 w2 : World} {b c : Nat} {S T : SS}
theorem Duo.ne (h : Duo w b c S) : c ≠ b := h.rg.ne h.sg
theorem Duo.below (h : Duo w b c S) (hb : Below w.heap.size w w') : Duo w' b c S := ⟨h.sg.below hb, h.rg.below hb, h.ok, h.top⟩
theorem Duo.keepR (h : Duo w b c S) (hu : Upd b w w1) : RgAt w1 c S := h.rg.keep (hu.block c h.rg.lt h.ne) (h.sg.kw hu)
theorem Duo.next (h : Duo w b c S) (h1 : SgAt w1 b T) (hu1 : Upd b w w1) (h2 : RgAt w2 c T) (hu2 : Upd c w1 w2) (hok : SOk T) (ht : ∀ j, 8 ≤ j → T j = Sg.first) : Duo w2 b c T :=
  ⟨h1.keep (hu2.block b h1.lt (fun e => h.ne e.symm)) ((h.keepR hu1).kw hu2), h2, hok, ht⟩
theorem isP_lt {n : Int} (h : isP n = true) : (n - 1).toNat < 8 := by
  obtain ⟨i, rfl, hi⟩ := isP_nat h
  omega
theorem top_set {i : Nat} {p : Sg} (h : ∀ j, 8 ≤ j → S j = Sg.first) (hi : i < 8) : ∀ j, 8 ≤ j → (S.set i p) j = Sg.first := fun j hj => by rw [SS.set_other _ _ _ _ (by omega)]; exact h j hj
theorem top_se (h : ∀ j, 8 ≤ j → S j = Sg.first) (pid sig x : Int) : ∀ j, 8 ≤ j → (seS S pid sig x) j = Sg.first := by
  unfold seS
  split
  · rename_i e
    simp only [Bool.and_eq_true] at e
    exact top_set h (isP_lt e.1)
  · exact h
theorem top_sd (h : ∀ j, 8 ≤ j → S j = Sg.first) (pid sig : Int) : ∀ j, 8 ≤ j → (sdS S pid sig) j = Sg.first := by
  unfold sdS
  split
  · rename_i e
    simp only [Bool.and_eq_true] at e
    exact top_set h (isP_lt e.1)
  · exact h
theorem top_nx (h : ∀ j, 8 ≤ j → S j = Sg.first) (pid : Int) : ∀ j, 8 ≤ j → (nxS S pid) j = Sg.first := by
  unfold nxS
  split
  · exact top_set h (isP_lt (by assumption))
  · exact h
theorem top_en (h : ∀ j, 8 ≤ j → S j = Sg.first) (pid pc : Int) (st : List Int) : ∀ j, 8 ≤ j → (enS S pid pc st) j = Sg.first := by
  unfold enS
  split
  · rename_i e
    simp only [Bool.and_eq_true] at e
    exact top_set h (isP_lt e.1)
  · exact h
theorem top_le (h : ∀ j, 8 ≤ j → S j = Sg.first) (pid : Int) : ∀ j, 8 ≤ j → (leS S pid) j = Sg.first := by
  unfold leS
  split
  · exact top_set h (isP_lt (by assumption))
  · exact h
theorem top_fk (h : ∀ j, 8 ≤ j → S j = Sg.first) (pid child : Int) : ∀ j, 8 ≤ j → (fkS S pid child) j = Sg.first := by
  unfold fkS
  split
  · rename_i e
    simp only [Bool.and_eq_true] at e
    exact top_set h (isP_lt e.1.2)
  · exact h
theorem top_cl (h : ∀ j, 8 ≤ j → S j = Sg.first) (pid : Int) : ∀ j, 8 ≤ j → (clS S pid) j = Sg.first := by
  unfold clS
  split
  · exact top_set h (isP_lt (by assumption))
  · exact h
theorem top_go (h : ∀ j, 8 ≤ j → S j = Sg.first) (pid : Int) : ∀ j, 8 ≤ j → (goS S pid) j = Sg.first := by
  unfold goS
  split
  · exact top_set h (isP_lt (by assumption))
  · exact h
theorem leSt_len (h : SOk S) (pid : Int) : (leSt S pid).length ≤ 32 := by
  unfold leSt
  split
  · exact (h _ (isP_lt (by assumption))).st32
  · simp
end
set_option maxRecDepth 100000 in
set_option maxHeartbeats 16000000 in
theorem do_at (w0 w : World) (b c : Nat) (S : SS) (d : Deed) (h : Duo w b c S) (hw : Below w0.heap.size w0 w) (hb : w0.heap.size ≤ b) (hc : w0.heap.size ≤ c) (hr : Rd w0 d.va d.st) (hf : (0 ≤ d.pc ∧ d.pc ≤ 1048576) ∧ d.st.length ≤ 32) (hu : U64 d.st) (hh : 0 ≤ d.h ∧ d.h < 18446744073709551616) :
    Calls Try.prog 11 #[.pointer (some ⟨b, 0, none⟩), .pointer (some ⟨c, 0, none⟩), .agg (deedRow d)] w fun e w' => e = .returned (.bool true) ∧ (∃ T, Duo w' b c T) ∧ UpdP (fun k => k = b ∨ k = c) w w' := by
  obtain ⟨dk, dp, ds, dh, pc, st, va, vc⟩ := d
  dsimp only at hr hf hu hh
  obtain ⟨W, hW⟩ : ∃ W, W = w.alloc (.cells (deedRow ⟨dk, dp, ds, dh, pc, st, va, vc⟩) 32) := ⟨_, rfl⟩
  obtain ⟨D, hD⟩ : ∃ D, D = w.heap.size := ⟨_, rfl⟩
  have hbW : Below w.heap.size w W := by rw [hW]; exact below_alloc _ _
  have hdr : Below W.heap.size W W.drew := (Below.refl _ _).drew
  have HX : Hid (Box W D ⟨dk, dp, ds, dh, pc, st, va, vc⟩) := by rw [hW, hD]; exact heap_alloc_new _ _
  have HXd : Hid (Box W.drew D ⟨dk, dp, ds, dh, pc, st, va, vc⟩) := Box.below HX.out hdr
  have hDb : D ≠ b := by have := h.sg.lt; omega
  have hDc : D ≠ c := by have := h.rg.lt; omega
  have HD : Hid (Duo W b c S) := h.below hbW
  have HDd : Hid (Duo W.drew b c S) := HD.out.below hdr
  have HU : Hid (UpdP (fun k => k = b ∨ k = c) w W) := UpdP.of_below hbW
  have HUd : Hid (UpdP (fun k => k = b ∨ k = c) w W.drew) := HU.out.trans (UpdP.of_below hdr)
  have HRw : Hid (∀ V : World, Below w0.heap.size w0 V → Rd V va st) := fun V hV => hr.below hV
  have HBW : Hid (Below w0.heap.size w0 W) := hw.trans (hbW.mono hw.size)
  have HBWd : Hid (Below w0.heap.size w0 W.drew) := HBW.out.drew
  have HW : Hid _ := hW
  have HDn : Hid (D = w.heap.size) := hD
  obtain ⟨c0, c1, c2, c3, c4, c5⟩ := Box.cells HX.out
  obtain ⟨f0, f1, f2, f3, f4, f5⟩ := Box.cells HXd.out
  dsimp only at c0 c1 c2 c3 c4 c5 f0 f1 f2 f3 f4 f5
  dsimp only [deedRow] at HW ⊢
  have kinds : ((dk == 0) = true) ∨ ((dk == 0) = false ∧ (dk == 1) = true) ∨ ((dk == 0) = false ∧ (dk == 1) = false ∧ (dk == 2) = true) ∨ ((dk == 0) = false ∧ (dk == 1) = false ∧ (dk == 2) = false ∧ (dk == 3) = true) ∨ ((dk == 0) = false ∧ (dk == 1) = false ∧ (dk == 2) = false ∧ (dk == 3) = false ∧ (dk == 4) = true) ∨ ((dk == 0) = false ∧ (dk == 1) = false ∧ (dk == 2) = false ∧ (dk == 3) = false ∧ (dk == 4) = false ∧ (dk == 5) = true) ∨ ((dk == 0) = false ∧ (dk == 1) = false ∧ (dk == 2) = false ∧ (dk == 3) = false ∧ (dk == 4) = false ∧ (dk == 5) = false ∧ (dk == 6) = true) ∨ ((dk == 0) = false ∧ (dk == 1) = false ∧ (dk == 2) = false ∧ (dk == 3) = false ∧ (dk == 4) = false ∧ (dk == 5) = false ∧ (dk == 6) = false ∧ (dk == 7) = true) ∨ ((dk == 0) = false ∧ (dk == 1) = false ∧ (dk == 2) = false ∧ (dk == 3) = false ∧ (dk == 4) = false ∧ (dk == 5) = false ∧ (dk == 6) = false ∧ (dk == 7) = false) := by
    simp only [beq_iff_eq, beq_eq_false_iff_ne]
    omega
  clear hW hD hbW hdr h hw hr
  go_enter Try.func11, Try.ntmps11
  go_upto_region 1 with fail
  rw [← HW.out, ← HDn.out]
  clear HW HDn
  rcases kinds with k0 | ⟨k0, k1⟩ | ⟨k0, k1, k2⟩ | ⟨k0, k1, k2, k3⟩ | ⟨k0, k1, k2, k3, k4⟩ | ⟨k0, k1, k2, k3, k4, k5⟩ | ⟨k0, k1, k2, k3, k4, k5, k6⟩ | ⟨k0, k1, k2, k3, k4, k5, k6, k7⟩ | ⟨k0, k1, k2, k3, k4, k5, k6, k7⟩
  · have hop := set_at b S dp ds dh W.drew HDd.out.sg HDd.out.ok
    have HOK : Hid (SOk (seS S dp ds dh)) := ok_se HD.out.ok dp ds dh hh
    have HTP : Hid (∀ j, 8 ≤ j → (seS S dp ds dh) j = Sg.first) := top_se HD.out.top dp ds dh
    have hrf : ∀ w1, Upd b W.drew w1 → Calls Try.prog 29 #[.pointer (some ⟨c, 0, none⟩), .int .i64 dp, .int .i64 ds, .int .u64 dh] w1 fun e w' => e = .returned (.int .i64 (seE dp ds)) ∧ RgAt w' c (seS S dp ds dh) ∧ Upd c w1 w' := fun w1 hu1 => xset_at c S dp ds dh w1 (HDd.out.keepR hu1) HDd.out.ok
    generalize seE dp ds = r at hop hrf
    generalize seS S dp ds dh = S1 at hop hrf HOK HTP
    go_wp2_with fail
    clear c0 c1 c2 c3 c4 c5
    refine wp_region_held_drew (S := fun w' => w'.cell? ⟨D, 1, none⟩ = some (.int .i64 dp) ∧ w'.cell? ⟨D, 2, none⟩ = some (.int .i64 ds) ∧ w'.cell? ⟨D, 3, none⟩ = some (.int .u64 dh)) (by kernel_rfl) ⟨f1, f2, f3⟩ (fun hHeld => ?_)
    refine wpAnyH_take (i := 0) (v := ?_) rfl (by kernel_rfl) (by kernel_rfl) (by kernel_rfl) (fun _ _ _ h => h) (Or.inl ⟨by kernel_rfl, ?_⟩) (by assumption) ?_
    rotate_left
    · (intro w hSw; (try dsimp only at hSw); go_simp) <;> with_reducible rfl
    (try simp only [Act.put, List.getElem_toArray, List.getElem_cons_zero, List.setIfInBounds_toArray, List.set_cons_zero, List.set_cons_succ])
    refine wpAnyH_take (i := 1) (v := ?_) rfl (by kernel_rfl) (by kernel_rfl) (by kernel_rfl) (fun _ _ _ h => h) (Or.inl ⟨by kernel_rfl, ?_⟩) (by assumption) ?_
    rotate_left
    · (intro w hSw; (try dsimp only at hSw); go_simp) <;> with_reducible rfl
    (try simp only [Act.put, List.getElem_toArray, List.getElem_cons_zero, List.getElem_cons_succ, List.setIfInBounds_toArray, List.set_cons_zero, List.set_cons_succ])
    refine wpAnyH_take (i := 2) (v := ?_) rfl (by kernel_rfl) (by kernel_rfl) (by kernel_rfl) (fun _ _ _ h => h) (Or.inl ⟨by kernel_rfl, ?_⟩) (by assumption) ?_
    rotate_left
    · (intro w hSw; (try dsimp only at hSw); go_simp) <;> with_reducible rfl
    (try simp only [Act.put, List.getElem_toArray, List.getElem_cons_zero, List.getElem_cons_succ, List.setIfInBounds_toArray, List.set_cons_zero, List.set_cons_succ])
    refine wpAnyH_take (i := 3) (v := ?_) rfl (by kernel_rfl) (by kernel_rfl) (by kernel_rfl) (fun _ _ _ h => h) (Or.inl ⟨by kernel_rfl, ?_⟩) (by assumption) ?_
    rotate_left
    · (intro w hSw; (try dsimp only at hSw); go_simp) <;> with_reducible rfl
    (try simp only [Act.put, List.getElem_toArray, List.getElem_cons_zero, List.getElem_cons_succ, List.setIfInBounds_toArray, List.set_cons_zero, List.set_cons_succ])
    refine wpAnyH_take (i := 4) (v := ?_) rfl (by kernel_rfl) (by kernel_rfl) (by kernel_rfl) (fun _ _ _ h => h) (Or.inl ⟨by kernel_rfl, ?_⟩) (by assumption) ?_
    rotate_left
    · (intro w hSw; (try dsimp only at hSw); go_simp) <;> with_reducible rfl
    (try simp only [Act.put, List.getElem_toArray, List.getElem_cons_zero, List.getElem_cons_succ, List.setIfInBounds_toArray, List.set_cons_zero, List.set_cons_succ])
    refine wpAnyH_take (i := 5) (v := ?_) rfl (by kernel_rfl) (by kernel_rfl) (by kernel_rfl) (fun _ _ _ h => h) (Or.inl ⟨by kernel_rfl, ?_⟩) (by assumption) ?_
    rotate_left
    · (intro w hSw; (try dsimp only at hSw); go_simp) <;> with_reducible rfl
    (try simp only [Act.put, List.getElem_toArray, List.getElem_cons_zero, List.getElem_cons_succ, List.setIfInBounds_toArray, List.set_cons_zero, List.set_cons_succ])
    refine wpAnyH_take (i := 6) (v := ?_) rfl (by kernel_rfl) (by kernel_rfl) (by kernel_rfl) (fun _ _ _ h => h) (Or.inl ⟨by kernel_rfl, ?_⟩) (by assumption) ?_
    rotate_left
    · (intro w hSw; (try dsimp only at hSw); go_simp) <;> with_reducible rfl
    (try simp only [Act.put, List.getElem_toArray, List.getElem_cons_zero, List.getElem_cons_succ, List.setIfInBounds_toArray, List.set_cons_zero, List.set_cons_succ])
    refine wpAnyH_take (i := 8) (v := ?_) rfl (by kernel_rfl) (by kernel_rfl) (by kernel_rfl) (fun _ _ _ h => h) (Or.inl ⟨by kernel_rfl, ?_⟩) (by assumption) ?_
    rotate_left
    · (intro w hSw; (try dsimp only at hSw); go_simp) <;> with_reducible rfl
    (try simp only [Act.put, List.getElem_toArray, List.getElem_cons_zero, List.getElem_cons_succ, List.setIfInBounds_toArray, List.set_cons_zero, List.set_cons_succ])
    refine wpAnyH_take (i := 9) (v := ?_) rfl (by kernel_rfl) (by kernel_rfl) (by kernel_rfl) (fun _ _ _ h => h) (Or.inl ⟨by kernel_rfl, ?_⟩) (by assumption) ?_
    rotate_left
    · (intro w hSw; (try dsimp only at hSw); go_simp) <;> with_reducible rfl
    (try simp only [Act.put, List.getElem_toArray, List.getElem_cons_zero, List.getElem_cons_succ, List.setIfInBounds_toArray, List.set_cons_zero, List.set_cons_succ])
    refine wpAnyH_take (i := 10) (v := ?_) rfl (by kernel_rfl) (by kernel_rfl) (by kernel_rfl) (fun _ _ _ h => h) (Or.inl ⟨by kernel_rfl, ?_⟩) (by assumption) ?_
    rotate_left
    · (intro w hSw; (try dsimp only at hSw); go_simp) <;> with_reducible rfl
    (try simp only [Act.put, List.getElem_toArray, List.getElem_cons_zero, List.getElem_cons_succ, List.setIfInBounds_toArray, List.set_cons_zero, List.set_cons_succ])
    refine wpAnyH_take (i := 11) (v := ?_) rfl (by kernel_rfl) (by kernel_rfl) (by kernel_rfl) (fun _ _ _ h => h) (Or.inl ⟨by kernel_rfl, ?_⟩) (by assumption) ?_
    rotate_left
    · (intro w hSw; (try dsimp only at hSw); go_simp) <;> with_reducible rfl
    (try simp only [Act.put, List.getElem_toArray, List.getElem_cons_zero, List.getElem_cons_succ, List.setIfInBounds_toArray, List.set_cons_zero, List.set_cons_succ])
    refine wpAnyH_take (i := 12) (v := ?_) rfl (by kernel_rfl) (by kernel_rfl) (by kernel_rfl) (fun _ _ _ h => h) (Or.inl ⟨by kernel_rfl, ?_⟩) (by assumption) ?_
    rotate_left
    · (intro w hSw; (try dsimp only at hSw); go_simp) <;> with_reducible rfl
    (try simp only [Act.put, List.getElem_toArray, List.getElem_cons_zero, List.getElem_cons_succ, List.setIfInBounds_toArray, List.set_cons_zero, List.set_cons_succ])
    refine wpAnyH_take (i := 13) (v := ?_) rfl (by kernel_rfl) (by kernel_rfl) (by kernel_rfl) (fun _ _ _ h => h) (Or.inl ⟨by kernel_rfl, ?_⟩) (by assumption) ?_
    rotate_left
    · (intro w hSw; (try dsimp only at hSw); go_simp) <;> with_reducible rfl
    (try simp only [Act.put, List.getElem_toArray, List.getElem_cons_zero, List.getElem_cons_succ, List.setIfInBounds_toArray, List.set_cons_zero, List.set_cons_succ])
    refine wpAnyH_take (i := 14) (v := ?_) rfl (by kernel_rfl) (by kernel_rfl) (by kernel_rfl) (fun _ _ _ h => h) (Or.inl ⟨by kernel_rfl, ?_⟩) (by assumption) ?_
    rotate_left
    · (intro w hSw; (try dsimp only at hSw); go_simp) <;> with_reducible rfl
    (try simp only [Act.put, List.getElem_toArray, List.getElem_cons_zero, List.getElem_cons_succ, List.setIfInBounds_toArray, List.set_cons_zero, List.set_cons_succ])
    refine wpAnyH_ready (rs := [7]) (by kernel_rfl) (by simp) ?_
    refine AllReadyH.cons rfl (fun K hK => ?_) AllReadyH.nil
    go_simp
    refine hop.mono ?_
    rintro e w1 ⟨rfl, hE1, hu1⟩
    have hX1 := Box.upd HXd.out hu1 hDb
    obtain ⟨g0, g1, g2, g3, g4, g5⟩ := Box.cells hX1
    have hrf1 := hrf w1 hu1
    have HE1 : Hid (SgAt w1 b S1) := hE1
    have HU1 : Hid (Upd b W.drew w1) := hu1
    have HX1 : Hid _ := hX1
    clear hX1 hE1 hu1 hrf hop
    dsimp only at g0 g1 g2 g3 g4 g5
    refine hK.out _ _ ⟨g1, g2, g3⟩ (fun hHeld => ?_)
    clear hK K
    (try simp only [Act.put, List.getElem_toArray, List.getElem_cons_zero, List.getElem_cons_succ, List.setIfInBounds_toArray, List.set_cons_zero, List.set_cons_succ])
    refine wpAnyH_ready (rs := [15]) (by kernel_rfl) (by simp) ?_
    refine AllReadyH.cons rfl (fun K hK => ?_) AllReadyH.nil
    go_simp
    refine hrf1.mono ?_
    rintro e w2 ⟨rfl, h2, hu2⟩
    have hX2 := Box.upd HX1.out hu2 hDc
    obtain ⟨m0, m1, m2, m3, m4, m5⟩ := Box.cells hX2
    have HD2 : Hid (Duo w2 b c S1) := HDd.out.next HE1.out HU1.out h2 hu2 HOK.out HTP.out
    have HU2 : Hid (UpdP (fun k => k = b ∨ k = c) w w2) := HUd.out.trans ((HU1.out.p _ (Or.inl rfl)).trans (hu2.p _ (Or.inr rfl)))
    clear hX2 h2 hu2 hrf1
    dsimp only at m0 m1 m2 m3 m4 m5
    refine hK.out _ _ ⟨m1, m2, m3⟩ (fun hHeld => ?_)
    clear hK K
    (try simp only [Act.put, List.getElem_toArray, List.getElem_cons_zero, List.getElem_cons_succ, List.setIfInBounds_toArray, List.set_cons_zero, List.set_cons_succ])
    refine wpAnyH_take (i := 16) (v := ?_) rfl (by kernel_rfl) (by kernel_rfl) (by kernel_rfl) (fun _ _ _ h => h) (Or.inl ⟨by kernel_rfl, ?_⟩) (by assumption) ?_
    rotate_left
    · (intro w hSw; (try dsimp only at hSw); go_simp) <;> with_reducible rfl
    (try simp only [Act.put, List.getElem_toArray, List.getElem_cons_zero, List.getElem_cons_succ, List.setIfInBounds_toArray, List.set_cons_zero, List.set_cons_succ])
    refine wpAnyH_take (i := 17) (v := ?_) rfl (by kernel_rfl) (by kernel_rfl) (by kernel_rfl) (fun _ _ _ h => h) (Or.inl ⟨by kernel_rfl, ?_⟩) (by assumption) ?_
    rotate_left
    · (intro w hSw; (try dsimp only at hSw); go_simp) <;> with_reducible rfl
    (try simp only [Act.put, List.getElem_toArray, List.getElem_cons_zero, List.getElem_cons_succ, List.setIfInBounds_toArray, List.set_cons_zero, List.set_cons_succ])
    refine wpAnyH_done (by kernel_rfl) ?_ _
    clear hHeld
    go_wp2
    go_ret
    exact ⟨rfl, ⟨S1, HD2.out⟩, HU2.out⟩
  · have hop := send_at b S dp ds W.drew HDd.out.sg HDd.out.ok
    have HOK : Hid (SOk (sdS S dp ds)) := ok_sd HD.out.ok dp ds
    have HTP : Hid (∀ j, 8 ≤ j → (sdS S dp ds) j = Sg.first) := top_sd HD.out.top dp ds
    have hrf : ∀ w1, Upd b W.drew w1 → Calls Try.prog 30 #[.pointer (some ⟨c, 0, none⟩), .int .i64 dp, .int .i64 ds] w1 fun e w' => e = .returned (.int .i64 (sdE dp ds)) ∧ RgAt w' c (sdS S dp ds) ∧ Upd c w1 w' := fun w1 hu1 => xsend_at c S dp ds w1 (HDd.out.keepR hu1) HDd.out.ok
    generalize sdE dp ds = r at hop hrf
    generalize sdS S dp ds = S1 at hop hrf HOK HTP
    go_wp2_with fail
    clear c0 c1 c2 c3 c4 c5
    refine wp_region_held_drew (S := fun w' => w'.cell? ⟨D, 1, none⟩ = some (.int .i64 dp) ∧ w'.cell? ⟨D, 2, none⟩ = some (.int .i64 ds)) (by kernel_rfl) ⟨f1, f2⟩ (fun hHeld => ?_)
    refine wpAnyH_take (i := 0) (v := ?_) rfl (by kernel_rfl) (by kernel_rfl) (by kernel_rfl) (fun _ _ _ h => h) (Or.inl ⟨by kernel_rfl, ?_⟩) (by assumption) ?_
    rotate_left
    · (intro w hSw; (try dsimp only at hSw); go_simp) <;> with_reducible rfl
    (try simp only [Act.put, List.getElem_toArray, List.getElem_cons_zero, List.setIfInBounds_toArray, List.set_cons_zero, List.set_cons_succ])
    refine wpAnyH_take (i := 1) (v := ?_) rfl (by kernel_rfl) (by kernel_rfl) (by kernel_rfl) (fun _ _ _ h => h) (Or.inl ⟨by kernel_rfl, ?_⟩) (by assumption) ?_
    rotate_left
    · (intro w hSw; (try dsimp only at hSw); go_simp) <;> with_reducible rfl
    (try simp only [Act.put, List.getElem_toArray, List.getElem_cons_zero, List.getElem_cons_succ, List.setIfInBounds_toArray, List.set_cons_zero, List.set_cons_succ])
    refine wpAnyH_take (i := 2) (v := ?_) rfl (by kernel_rfl) (by kernel_rfl) (by kernel_rfl) (fun _ _ _ h => h) (Or.inl ⟨by kernel_rfl, ?_⟩) (by assumption) ?_
    rotate_left
    · (intro w hSw; (try dsimp only at hSw); go_simp) <;> with_reducible rfl
    (try simp only [Act.put, List.getElem_toArray, List.getElem_cons_zero, List.getElem_cons_succ, List.setIfInBounds_toArray, List.set_cons_zero, List.set_cons_succ])
    refine wpAnyH_take (i := 3) (v := ?_) rfl (by kernel_rfl) (by kernel_rfl) (by kernel_rfl) (fun _ _ _ h => h) (Or.inl ⟨by kernel_rfl, ?_⟩) (by assumption) ?_
    rotate_left
    · (intro w hSw; (try dsimp only at hSw); go_simp) <;> with_reducible rfl
    (try simp only [Act.put, List.getElem_toArray, List.getElem_cons_zero, List.getElem_cons_succ, List.setIfInBounds_toArray, List.set_cons_zero, List.set_cons_succ])
    refine wpAnyH_take (i := 4) (v := ?_) rfl (by kernel_rfl) (by kernel_rfl) (by kernel_rfl) (fun _ _ _ h => h) (Or.inl ⟨by kernel_rfl, ?_⟩) (by assumption) ?_
    rotate_left
    · (intro w hSw; (try dsimp only at hSw); go_simp) <;> with_reducible rfl
    (try simp only [Act.put, List.getElem_toArray, List.getElem_cons_zero, List.getElem_cons_succ, List.setIfInBounds_toArray, List.set_cons_zero, List.set_cons_succ])
    refine wpAnyH_take (i := 6) (v := ?_) rfl (by kernel_rfl) (by kernel_rfl) (by kernel_rfl) (fun _ _ _ h => h) (Or.inl ⟨by kernel_rfl, ?_⟩) (by assumption) ?_
    rotate_left
    · (intro w hSw; (try dsimp only at hSw); go_simp) <;> with_reducible rfl
    (try simp only [Act.put, List.getElem_toArray, List.getElem_cons_zero, List.getElem_cons_succ, List.setIfInBounds_toArray, List.set_cons_zero, List.set_cons_succ])
    refine wpAnyH_take (i := 7) (v := ?_) rfl (by kernel_rfl) (by kernel_rfl) (by kernel_rfl) (fun _ _ _ h => h) (Or.inl ⟨by kernel_rfl, ?_⟩) (by assumption) ?_
    rotate_left
    · (intro w hSw; (try dsimp only at hSw); go_simp) <;> with_reducible rfl
    (try simp only [Act.put, List.getElem_toArray, List.getElem_cons_zero, List.getElem_cons_succ, List.setIfInBounds_toArray, List.set_cons_zero, List.set_cons_succ])
    refine wpAnyH_take (i := 8) (v := ?_) rfl (by kernel_rfl) (by kernel_rfl) (by kernel_rfl) (fun _ _ _ h => h) (Or.inl ⟨by kernel_rfl, ?_⟩) (by assumption) ?_
    rotate_left
    · (intro w hSw; (try dsimp only at hSw); go_simp) <;> with_reducible rfl
    (try simp only [Act.put, List.getElem_toArray, List.getElem_cons_zero, List.getElem_cons_succ, List.setIfInBounds_toArray, List.set_cons_zero, List.set_cons_succ])
    refine wpAnyH_take (i := 9) (v := ?_) rfl (by kernel_rfl) (by kernel_rfl) (by kernel_rfl) (fun _ _ _ h => h) (Or.inl ⟨by kernel_rfl, ?_⟩) (by assumption) ?_
    rotate_left
    · (intro w hSw; (try dsimp only at hSw); go_simp) <;> with_reducible rfl
    (try simp only [Act.put, List.getElem_toArray, List.getElem_cons_zero, List.getElem_cons_succ, List.setIfInBounds_toArray, List.set_cons_zero, List.set_cons_succ])
    refine wpAnyH_take (i := 10) (v := ?_) rfl (by kernel_rfl) (by kernel_rfl) (by kernel_rfl) (fun _ _ _ h => h) (Or.inl ⟨by kernel_rfl, ?_⟩) (by assumption) ?_
    rotate_left
    · (intro w hSw; (try dsimp only at hSw); go_simp) <;> with_reducible rfl
    (try simp only [Act.put, List.getElem_toArray, List.getElem_cons_zero, List.getElem_cons_succ, List.setIfInBounds_toArray, List.set_cons_zero, List.set_cons_succ])
    refine wpAnyH_ready (rs := [5]) (by kernel_rfl) (by simp) ?_
    refine AllReadyH.cons rfl (fun K hK => ?_) AllReadyH.nil
    go_simp
    refine hop.mono ?_
    rintro e w1 ⟨rfl, hE1, hu1⟩
    have hX1 := Box.upd HXd.out hu1 hDb
    obtain ⟨g0, g1, g2, g3, g4, g5⟩ := Box.cells hX1
    have hrf1 := hrf w1 hu1
    have HE1 : Hid (SgAt w1 b S1) := hE1
    have HU1 : Hid (Upd b W.drew w1) := hu1
    have HX1 : Hid _ := hX1
    clear hX1 hE1 hu1 hrf hop
    dsimp only at g0 g1 g2 g3 g4 g5
    refine hK.out _ _ ⟨g1, g2⟩ (fun hHeld => ?_)
    clear hK K
    (try simp only [Act.put, List.getElem_toArray, List.getElem_cons_zero, List.getElem_cons_succ, List.setIfInBounds_toArray, List.set_cons_zero, List.set_cons_succ])
    refine wpAnyH_ready (rs := [11]) (by kernel_rfl) (by simp) ?_
    refine AllReadyH.cons rfl (fun K hK => ?_) AllReadyH.nil
    go_simp
    refine hrf1.mono ?_
    rintro e w2 ⟨rfl, h2, hu2⟩
    have hX2 := Box.upd HX1.out hu2 hDc
    obtain ⟨m0, m1, m2, m3, m4, m5⟩ := Box.cells hX2
    have HD2 : Hid (Duo w2 b c S1) := HDd.out.next HE1.out HU1.out h2 hu2 HOK.out HTP.out
    have HU2 : Hid (UpdP (fun k => k = b ∨ k = c) w w2) := HUd.out.trans ((HU1.out.p _ (Or.inl rfl)).trans (hu2.p _ (Or.inr rfl)))
    clear hX2 h2 hu2 hrf1
    dsimp only at m0 m1 m2 m3 m4 m5
    refine hK.out _ _ ⟨m1, m2⟩ (fun hHeld => ?_)
    clear hK K
    (try simp only [Act.put, List.getElem_toArray, List.getElem_cons_zero, List.getElem_cons_succ, List.setIfInBounds_toArray, List.set_cons_zero, List.set_cons_succ])
    refine wpAnyH_take (i := 12) (v := ?_) rfl (by kernel_rfl) (by kernel_rfl) (by kernel_rfl) (fun _ _ _ h => h) (Or.inl ⟨by kernel_rfl, ?_⟩) (by assumption) ?_
    rotate_left
    · (intro w hSw; (try dsimp only at hSw); go_simp) <;> with_reducible rfl
    (try simp only [Act.put, List.getElem_toArray, List.getElem_cons_zero, List.getElem_cons_succ, List.setIfInBounds_toArray, List.set_cons_zero, List.set_cons_succ])
    refine wpAnyH_take (i := 13) (v := ?_) rfl (by kernel_rfl) (by kernel_rfl) (by kernel_rfl) (fun _ _ _ h => h) (Or.inl ⟨by kernel_rfl, ?_⟩) (by assumption) ?_
    rotate_left
    · (intro w hSw; (try dsimp only at hSw); go_simp) <;> with_reducible rfl
    (try simp only [Act.put, List.getElem_toArray, List.getElem_cons_zero, List.getElem_cons_succ, List.setIfInBounds_toArray, List.set_cons_zero, List.set_cons_succ])
    refine wpAnyH_done (by kernel_rfl) ?_ _
    clear hHeld
    go_wp2
    go_ret
    exact ⟨rfl, ⟨S1, HD2.out⟩, HU2.out⟩
  · have hop := snext_at b S dp W HD.out.sg HD.out.ok
    have HOK : Hid (SOk (nxS S dp)) := ok_nx HD.out.ok dp
    have HTP : Hid (∀ j, 8 ≤ j → (nxS S dp) j = Sg.first) := top_nx HD.out.top dp
    have hrf : ∀ w1, Upd b W w1 → Calls Try.prog 31 #[.pointer (some ⟨c, 0, none⟩), .int .i64 dp] w1 fun e w' => e = .returned (.tuple #[.int .i64 (nxI S dp : Nat), .int .u64 (nxH S dp), .bool (nxB S dp)]) ∧ RgAt w' c (nxS S dp) ∧ Upd c w1 w' := fun w1 hu1 => xnext_at c S dp w1 (HD.out.keepR hu1) HD.out.ok
    generalize ((nxI S dp : Nat) : Int) = r at hop hrf
    generalize nxH S dp = r2 at hop hrf
    generalize nxB S dp = r3 at hop hrf
    generalize nxS S dp = S1 at hop hrf HOK HTP
    go_wp2_with fail
    refine hop.mono ?_
    rintro e w1 ⟨rfl, hE1, hu1⟩
    have hX1 := Box.upd HX.out hu1 hDb
    obtain ⟨g0, g1, g2, g3, g4, g5⟩ := Box.cells hX1
    have hrf1 := hrf w1 hu1
    have HE1 : Hid (SgAt w1 b S1) := hE1
    have HU1 : Hid (Upd b W w1) := hu1
    clear hX1 hE1 hu1 hrf hop c0 c1 c2 c3 c4 c5
    dsimp only at g0 g1 g2 g3 g4 g5
    go_wp2_with fail
    refine hrf1.mono ?_
    rintro e w2 ⟨rfl, h2, hu2⟩
    have HD2 : Hid (Duo w2 b c S1) := HD.out.next HE1.out HU1.out h2 hu2 HOK.out HTP.out
    have HU2 : Hid (UpdP (fun k => k = b ∨ k = c) w w2) := HU.out.trans ((HU1.out.p _ (Or.inl rfl)).trans (hu2.p _ (Or.inr rfl)))
    clear h2 hu2 hrf1 g0 g1 g2 g3 g4 g5
    go_wp2
    go_ret
    exact ⟨rfl, ⟨S1, HD2.out⟩, HU2.out⟩
  · have hop := enter_at b S dp pc va st.length vc st W.drew HDd.out.sg (HRw.out W.drew HBWd.out) rfl (by omega)
    have HOK : Hid (SOk (enS S dp pc st)) := ok_en HD.out.ok dp pc st hf.1.1 hf.1.2 hf.2 hu
    have HTP : Hid (∀ j, 8 ≤ j → (enS S dp pc st) j = Sg.first) := top_en HD.out.top dp pc st
    have hrf : ∀ w1, Upd b W.drew w1 → Calls Try.prog 32 #[.pointer (some ⟨c, 0, none⟩), .int .i64 dp, vmV pc va st.length vc] w1 fun e w' => e = .returned (.int .i64 (enE S dp)) ∧ RgAt w' c (enS S dp pc st) ∧ Upd c w1 w' := fun w1 hu1 => xenter_at c S dp pc va st.length vc st w1 (HDd.out.keepR hu1) (HRw.out w1 (HBWd.out.trans (hu1.below hb HBWd.out.size))) rfl (by omega)
    generalize enE S dp = r at hop hrf
    generalize enS S dp pc st = S1 at hop hrf HOK HTP
    go_wp2_with fail
    clear c0 c1 c2 c3 c4 c5
    refine wp_region_held_drew (S := fun w' => w'.cell? ⟨D, 1, none⟩ = some (.int .i64 dp) ∧ w'.cell? ⟨D, 4, none⟩ = some (.int .i64 pc) ∧ w'.cell? ⟨D, 5, none⟩ = some (.slice va st.length vc)) (by kernel_rfl) ⟨f1, f4, f5⟩ (fun hHeld => ?_)
    refine wpAnyH_take (i := 0) (v := ?_) rfl (by kernel_rfl) (by kernel_rfl) (by kernel_rfl) (fun _ _ _ h => h) (Or.inl ⟨by kernel_rfl, ?_⟩) (by assumption) ?_
    rotate_left
    · (intro w hSw; (try dsimp only at hSw); go_simp) <;> with_reducible rfl
    (try simp only [Act.put, List.getElem_toArray, List.getElem_cons_zero, List.setIfInBounds_toArray, List.set_cons_zero, List.set_cons_succ])
    refine wpAnyH_take (i := 1) (v := ?_) rfl (by kernel_rfl) (by kernel_rfl) (by kernel_rfl) (fun _ _ _ h => h) (Or.inl ⟨by kernel_rfl, ?_⟩) (by assumption) ?_
    rotate_left
    · (intro w hSw; (try dsimp only at hSw); go_simp) <;> with_reducible rfl
    (try simp only [Act.put, List.getElem_toArray, List.getElem_cons_zero, List.getElem_cons_succ, List.setIfInBounds_toArray, List.set_cons_zero, List.set_cons_succ])
    refine wpAnyH_take (i := 2) (v := ?_) rfl (by kernel_rfl) (by kernel_rfl) (by kernel_rfl) (fun _ _ _ h => h) (Or.inl ⟨by kernel_rfl, ?_⟩) (by assumption) ?_
    rotate_left
    · (intro w hSw; (try dsimp only at hSw); go_simp) <;> with_reducible rfl
    (try simp only [Act.put, List.getElem_toArray, List.getElem_cons_zero, List.getElem_cons_succ, List.setIfInBounds_toArray, List.set_cons_zero, List.set_cons_succ])
    refine wpAnyH_take (i := 3) (v := ?_) rfl (by kernel_rfl) (by kernel_rfl) (by kernel_rfl) (fun _ _ _ h => h) (Or.inl ⟨by kernel_rfl, ?_⟩) (by assumption) ?_
    rotate_left
    · (intro w hSw; (try dsimp only at hSw); go_simp) <;> with_reducible rfl
    (try simp only [Act.put, List.getElem_toArray, List.getElem_cons_zero, List.getElem_cons_succ, List.setIfInBounds_toArray, List.set_cons_zero, List.set_cons_succ])
    refine wpAnyH_take (i := 4) (v := ?_) rfl (by kernel_rfl) (by kernel_rfl) (by kernel_rfl) (fun _ _ _ h => h) (Or.inl ⟨by kernel_rfl, ?_⟩) (by assumption) ?_
    rotate_left
    · (intro w hSw; (try dsimp only at hSw); go_simp) <;> with_reducible rfl
    (try simp only [Act.put, List.getElem_toArray, List.getElem_cons_zero, List.getElem_cons_succ, List.setIfInBounds_toArray, List.set_cons_zero, List.set_cons_succ])
    refine wpAnyH_take (i := 6) (v := ?_) rfl (by kernel_rfl) (by kernel_rfl) (by kernel_rfl) (fun _ _ _ h => h) (Or.inl ⟨by kernel_rfl, ?_⟩) (by assumption) ?_
    rotate_left
    · (intro w hSw; (try dsimp only at hSw); go_simp) <;> with_reducible rfl
    (try simp only [Act.put, List.getElem_toArray, List.getElem_cons_zero, List.getElem_cons_succ, List.setIfInBounds_toArray, List.set_cons_zero, List.set_cons_succ])
    refine wpAnyH_take (i := 7) (v := ?_) rfl (by kernel_rfl) (by kernel_rfl) (by kernel_rfl) (fun _ _ _ h => h) (Or.inl ⟨by kernel_rfl, ?_⟩) (by assumption) ?_
    rotate_left
    · (intro w hSw; (try dsimp only at hSw); go_simp) <;> with_reducible rfl
    (try simp only [Act.put, List.getElem_toArray, List.getElem_cons_zero, List.getElem_cons_succ, List.setIfInBounds_toArray, List.set_cons_zero, List.set_cons_succ])
    refine wpAnyH_take (i := 8) (v := ?_) rfl (by kernel_rfl) (by kernel_rfl) (by kernel_rfl) (fun _ _ _ h => h) (Or.inl ⟨by kernel_rfl, ?_⟩) (by assumption) ?_
    rotate_left
    · (intro w hSw; (try dsimp only at hSw); go_simp) <;> with_reducible rfl
    (try simp only [Act.put, List.getElem_toArray, List.getElem_cons_zero, List.getElem_cons_succ, List.setIfInBounds_toArray, List.set_cons_zero, List.set_cons_succ])
    refine wpAnyH_take (i := 9) (v := ?_) rfl (by kernel_rfl) (by kernel_rfl) (by kernel_rfl) (fun _ _ _ h => h) (Or.inl ⟨by kernel_rfl, ?_⟩) (by assumption) ?_
    rotate_left
    · (intro w hSw; (try dsimp only at hSw); go_simp) <;> with_reducible rfl
    (try simp only [Act.put, List.getElem_toArray, List.getElem_cons_zero, List.getElem_cons_succ, List.setIfInBounds_toArray, List.set_cons_zero, List.set_cons_succ])
    refine wpAnyH_take (i := 10) (v := ?_) rfl (by kernel_rfl) (by kernel_rfl) (by kernel_rfl) (fun _ _ _ h => h) (Or.inl ⟨by kernel_rfl, ?_⟩) (by assumption) ?_
    rotate_left
    · (intro w hSw; (try dsimp only at hSw); go_simp) <;> with_reducible rfl
    (try simp only [Act.put, List.getElem_toArray, List.getElem_cons_zero, List.getElem_cons_succ, List.setIfInBounds_toArray, List.set_cons_zero, List.set_cons_succ])
    refine wpAnyH_ready (rs := [5]) (by kernel_rfl) (by simp) ?_
    refine AllReadyH.cons rfl (fun K hK => ?_) AllReadyH.nil
    go_simp
    refine hop.mono ?_
    rintro e w1 ⟨rfl, hE1, hu1⟩
    have hX1 := Box.upd HXd.out hu1 hDb
    obtain ⟨g0, g1, g2, g3, g4, g5⟩ := Box.cells hX1
    have hrf1 := hrf w1 hu1
    have HE1 : Hid (SgAt w1 b S1) := hE1
    have HU1 : Hid (Upd b W.drew w1) := hu1
    have HX1 : Hid _ := hX1
    clear hX1 hE1 hu1 hrf hop
    dsimp only at g0 g1 g2 g3 g4 g5
    refine hK.out _ _ ⟨g1, g4, g5⟩ (fun hHeld => ?_)
    clear hK K
    (try simp only [Act.put, List.getElem_toArray, List.getElem_cons_zero, List.getElem_cons_succ, List.setIfInBounds_toArray, List.set_cons_zero, List.set_cons_succ])
    refine wpAnyH_ready (rs := [11]) (by kernel_rfl) (by simp) ?_
    refine AllReadyH.cons rfl (fun K hK => ?_) AllReadyH.nil
    go_simp
    refine hrf1.mono ?_
    rintro e w2 ⟨rfl, h2, hu2⟩
    have hX2 := Box.upd HX1.out hu2 hDc
    obtain ⟨m0, m1, m2, m3, m4, m5⟩ := Box.cells hX2
    have HD2 : Hid (Duo w2 b c S1) := HDd.out.next HE1.out HU1.out h2 hu2 HOK.out HTP.out
    have HU2 : Hid (UpdP (fun k => k = b ∨ k = c) w w2) := HUd.out.trans ((HU1.out.p _ (Or.inl rfl)).trans (hu2.p _ (Or.inr rfl)))
    clear hX2 h2 hu2 hrf1
    dsimp only at m0 m1 m2 m3 m4 m5
    refine hK.out _ _ ⟨m1, m4, m5⟩ (fun hHeld => ?_)
    clear hK K
    (try simp only [Act.put, List.getElem_toArray, List.getElem_cons_zero, List.getElem_cons_succ, List.setIfInBounds_toArray, List.set_cons_zero, List.set_cons_succ])
    refine wpAnyH_take (i := 12) (v := ?_) rfl (by kernel_rfl) (by kernel_rfl) (by kernel_rfl) (fun _ _ _ h => h) (Or.inl ⟨by kernel_rfl, ?_⟩) (by assumption) ?_
    rotate_left
    · (intro w hSw; (try dsimp only at hSw); go_simp) <;> with_reducible rfl
    (try simp only [Act.put, List.getElem_toArray, List.getElem_cons_zero, List.getElem_cons_succ, List.setIfInBounds_toArray, List.set_cons_zero, List.set_cons_succ])
    refine wpAnyH_take (i := 13) (v := ?_) rfl (by kernel_rfl) (by kernel_rfl) (by kernel_rfl) (fun _ _ _ h => h) (Or.inl ⟨by kernel_rfl, ?_⟩) (by assumption) ?_
    rotate_left
    · (intro w hSw; (try dsimp only at hSw); go_simp) <;> with_reducible rfl
    (try simp only [Act.put, List.getElem_toArray, List.getElem_cons_zero, List.getElem_cons_succ, List.setIfInBounds_toArray, List.set_cons_zero, List.set_cons_succ])
    refine wpAnyH_done (by kernel_rfl) ?_ _
    clear hHeld
    go_wp2
    go_ret
    exact ⟨rfl, ⟨S1, HD2.out⟩, HU2.out⟩
  · have hop := leave_at b S dp W HD.out.sg
    have HOK : Hid (SOk (leS S dp)) := ok_le HD.out.ok dp
    have HTP : Hid (∀ j, 8 ≤ j → (leS S dp) j = Sg.first) := top_le HD.out.top dp
    have hrf := fun (V : World) (h : RgAt V c S) => xleave_at c S dp V h
    have hsl := leSt_len HD.out.ok dp
    generalize lePc S dp = lp at hop hrf
    generalize leSt S dp = ls at hop hrf hsl
    generalize leE S dp = le at hop hrf
    generalize leS S dp = S1 at hop hrf HOK HTP
    go_wp2_with fail
    refine hop.mono ?_
    rintro e w1 ⟨a9, c9, rfl, hc9, hT9, hE1, hu1⟩
    obtain ⟨V1, hV1⟩ : ∃ V, V = w1.alloc (.cells #[.int .i64 lp, .slice a9 ls.length c9] 30) := ⟨_, rfl⟩
    obtain ⟨q1, hq1⟩ : ∃ q, q = w1.heap.size := ⟨_, rfl⟩
    have hbV1 : Below w1.heap.size w1 V1 := by rw [hV1]; exact below_alloc _ _
    have hk1 : V1.heap[q1]? = some (.cells #[.int .i64 lp, .slice a9 ls.length c9] 30 (0, 0)) := by rw [hV1, hq1]; exact heap_alloc_new _ _
    have HK1 : Hid (V1.heap[q1]? = some (.cells #[.int .i64 lp, .slice a9 ls.length c9] 30 (0, 0))) := hk1
    have HT9 : Hid (TRd V1 a9 ls) := hT9.kept (KeepW.below hbV1)
    have HE1 : Hid (SgAt V1 b S1) := SgAt.below hE1 hbV1
    have HUb : Hid (Upd b W V1) := hu1.trans (Upd.of_below hbV1)
    have HR1 : Hid (RgAt V1 c S) := HD.out.keepR HUb.out
    have Hqc : Hid (q1 ≠ c) := by
      show q1 ≠ c
      have := (HD.out.keepR hu1).lt
      omega
    have hX1 : Box V1 D ⟨dk, dp, ds, dh, pc, st, va, vc⟩ := Box.upd HX.out HUb.out hDb
    obtain ⟨g0, g1, g2, g3, g4, g5⟩ := Box.cells hX1
    have HV1 : Hid _ := hV1
    have HQ1 : Hid (q1 = w1.heap.size) := hq1
    have hrf1 := hrf V1 HR1.out
    clear hV1 hq1 hbV1 hk1 hT9 hE1 hu1 hX1 hop hrf hc9 c0 c1 c2 c3 c4 c5
    dsimp only at g0 g1 g2 g3 g4 g5
    go_upto_region 14 with fail
    rw [← HV1.out, ← HQ1.out]
    clear HV1
    go_wp2_with fail
    refine hrf1.mono ?_
    rintro e w2 ⟨a10, c10, rfl, hc10, hT10, h2, hu2⟩
    obtain ⟨V2, hV2⟩ : ∃ V, V = w2.alloc (.cells #[.int .i64 lp, .slice a10 ls.length c10] 30) := ⟨_, rfl⟩
    obtain ⟨q2, hq2⟩ : ∃ q, q = w2.heap.size := ⟨_, rfl⟩
    have hbV2 : Below w2.heap.size w2 V2 := by rw [hV2]; exact below_alloc _ _
    have hk2 : V2.heap[q2]? = some (.cells #[.int .i64 lp, .slice a10 ls.length c10] 30 (0, 0)) := by rw [hV2, hq2]; exact heap_alloc_new _ _
    have hU2 : Upd c V1 V2 := hu2.trans (Upd.of_below hbV2)
    have hk1 := (hU2.block q1 (lt_of_heap HK1.out) Hqc.out).trans HK1.out
    have z0 : V2.cell? ⟨q1, 0, none⟩ = some (.int .i64 lp) := by rw [cell_of_heap hk1]; rfl
    have z1 : V2.cell? ⟨q1, 1, none⟩ = some (.slice a9 ls.length c9) := by rw [cell_of_heap hk1]; rfl
    have y0 : V2.cell? ⟨q2, 0, none⟩ = some (.int .i64 lp) := by rw [cell_of_heap hk2]; rfl
    have y1 : V2.cell? ⟨q2, 1, none⟩ = some (.slice a10 ls.length c10) := by rw [cell_of_heap hk2]; rfl
    have hSa := same_at lp ls a9 a10 ls.length c9 c10 V2 rfl ((HT9.out.kept (HR1.out.kw hU2)).rd) ((hT10.kept (KeepW.below hbV2)).rd) (by omega)
    have HD2 : Hid (Duo V2 b c S1) := HD.out.next HE1.out HUb.out (h2.below hbV2) hU2 HOK.out HTP.out
    have HU2 : Hid (UpdP (fun k => k = b ∨ k = c) w V2) := HU.out.trans ((HUb.out.p _ (Or.inl rfl)).trans (hU2.p _ (Or.inr rfl)))
    have HV2 : Hid _ := hV2
    have HQ2 : Hid (q2 = w2.heap.size) := hq2
    generalize ls.length = ll at *
    clear hV2 hq2 hbV2 hk2 hU2 hk1 hT10 h2 hu2 hrf1 hc10 g0 g1 g2 g3 g4 g5
    go_upto_region 15 with fail
    rw [← HV2.out, ← HQ2.out]
    clear HV2
    go_wp2_with fail
    refine hSa.mono ?_
    rintro e w3 ⟨rfl, hb3⟩
    have HD3 : Hid (Duo w3 b c S1) := HD2.out.below hb3
    have HU3 : Hid (UpdP (fun k => k = b ∨ k = c) w w3) := HU2.out.trans (UpdP.of_below hb3)
    clear hb3 hSa z0 z1 y0 y1
    go_wp2
    go_ret
    exact ⟨rfl, ⟨S1, HD3.out⟩, HU3.out⟩
  · have hop := fork_at b S dp ds W HD.out.sg HD.out.ok
    have HOK : Hid (SOk (fkS S dp ds)) := ok_fk HD.out.ok dp ds
    have HTP : Hid (∀ j, 8 ≤ j → (fkS S dp ds) j = Sg.first) := top_fk HD.out.top dp ds
    have hrf : ∀ w1, Upd b W w1 → Calls Try.prog 34 #[.pointer (some ⟨c, 0, none⟩), .int .i64 dp, .int .i64 ds] w1 fun e w' => e = .returned (.tuple #[]) ∧ RgAt w' c (fkS S dp ds) ∧ Upd c w1 w' := fun w1 hu1 => xfork_at c S dp ds w1 (HD.out.keepR hu1) HD.out.ok
    generalize fkS S dp ds = S1 at hop hrf HOK HTP
    go_wp2_with fail
    refine hop.mono ?_
    rintro e w1 ⟨rfl, hE1, hu1⟩
    have hX1 := Box.upd HX.out hu1 hDb
    obtain ⟨g0, g1, g2, g3, g4, g5⟩ := Box.cells hX1
    have hrf1 := hrf w1 hu1
    have HE1 : Hid (SgAt w1 b S1) := hE1
    have HU1 : Hid (Upd b W w1) := hu1
    clear hX1 hE1 hu1 hrf hop c0 c1 c2 c3 c4 c5
    dsimp only at g0 g1 g2 g3 g4 g5
    go_wp2_with fail
    refine hrf1.mono ?_
    rintro e w2 ⟨rfl, h2, hu2⟩
    have HD2 : Hid (Duo w2 b c S1) := HD.out.next HE1.out HU1.out h2 hu2 HOK.out HTP.out
    have HU2 : Hid (UpdP (fun k => k = b ∨ k = c) w w2) := HU.out.trans ((HU1.out.p _ (Or.inl rfl)).trans (hu2.p _ (Or.inr rfl)))
    clear h2 hu2 hrf1 g0 g1 g2 g3 g4 g5
    go_wp2
    go_ret
    exact ⟨rfl, ⟨S1, HD2.out⟩, HU2.out⟩
  · have hop := clear_at b S dp W HD.out.sg HD.out.ok
    have HOK : Hid (SOk (clS S dp)) := ok_cl HD.out.ok dp
    have HTP : Hid (∀ j, 8 ≤ j → (clS S dp) j = Sg.first) := top_cl HD.out.top dp
    have hrf : ∀ w1, Upd b W w1 → Calls Try.prog 35 #[.pointer (some ⟨c, 0, none⟩), .int .i64 dp] w1 fun e w' => e = .returned (.tuple #[]) ∧ RgAt w' c (clS S dp) ∧ Upd c w1 w' := fun w1 hu1 => xclear_at c S dp w1 (HD.out.keepR hu1) HD.out.ok
    generalize clS S dp = S1 at hop hrf HOK HTP
    go_wp2_with fail
    refine hop.mono ?_
    rintro e w1 ⟨rfl, hE1, hu1⟩
    have hX1 := Box.upd HX.out hu1 hDb
    obtain ⟨g0, g1, g2, g3, g4, g5⟩ := Box.cells hX1
    have hrf1 := hrf w1 hu1
    have HE1 : Hid (SgAt w1 b S1) := hE1
    have HU1 : Hid (Upd b W w1) := hu1
    clear hX1 hE1 hu1 hrf hop c0 c1 c2 c3 c4 c5
    dsimp only at g0 g1 g2 g3 g4 g5
    go_wp2_with fail
    refine hrf1.mono ?_
    rintro e w2 ⟨rfl, h2, hu2⟩
    have HD2 : Hid (Duo w2 b c S1) := HD.out.next HE1.out HU1.out h2 hu2 HOK.out HTP.out
    have HU2 : Hid (UpdP (fun k => k = b ∨ k = c) w w2) := HU.out.trans ((HU1.out.p _ (Or.inl rfl)).trans (hu2.p _ (Or.inr rfl)))
    clear h2 hu2 hrf1 g0 g1 g2 g3 g4 g5
    go_wp2
    go_ret
    exact ⟨rfl, ⟨S1, HD2.out⟩, HU2.out⟩
  · have hop := gone_at b S dp W HD.out.sg
    have HOK : Hid (SOk (goS S dp)) := ok_go HD.out.ok dp
    have HTP : Hid (∀ j, 8 ≤ j → (goS S dp) j = Sg.first) := top_go HD.out.top dp
    have hrf : ∀ w1, Upd b W w1 → Calls Try.prog 36 #[.pointer (some ⟨c, 0, none⟩), .int .i64 dp] w1 fun e w' => e = .returned (.tuple #[]) ∧ RgAt w' c (goS S dp) ∧ Upd c w1 w' := fun w1 hu1 => xgone_at c S dp w1 (HD.out.keepR hu1)
    generalize goS S dp = S1 at hop hrf HOK HTP
    go_wp2_with fail
    refine hop.mono ?_
    rintro e w1 ⟨rfl, hE1, hu1⟩
    have hX1 := Box.upd HX.out hu1 hDb
    obtain ⟨g0, g1, g2, g3, g4, g5⟩ := Box.cells hX1
    have hrf1 := hrf w1 hu1
    have HE1 : Hid (SgAt w1 b S1) := hE1
    have HU1 : Hid (Upd b W w1) := hu1
    clear hX1 hE1 hu1 hrf hop c0 c1 c2 c3 c4 c5
    dsimp only at g0 g1 g2 g3 g4 g5
    go_wp2_with fail
    refine hrf1.mono ?_
    rintro e w2 ⟨rfl, h2, hu2⟩
    have HD2 : Hid (Duo w2 b c S1) := HD.out.next HE1.out HU1.out h2 hu2 HOK.out HTP.out
    have HU2 : Hid (UpdP (fun k => k = b ∨ k = c) w w2) := HU.out.trans ((HU1.out.p _ (Or.inl rfl)).trans (hu2.p _ (Or.inr rfl)))
    clear h2 hu2 hrf1 g0 g1 g2 g3 g4 g5
    go_wp2
    go_ret
    exact ⟨rfl, ⟨S1, HD2.out⟩, HU2.out⟩
  · have HDw : Hid (Duo W b c S) := HD.out
    go_wp2
    go_ret
    exact ⟨rfl, ⟨S, HDw.out⟩, HU.out⟩
end Go.Proofs.Ytliifpknkdjgjaa
