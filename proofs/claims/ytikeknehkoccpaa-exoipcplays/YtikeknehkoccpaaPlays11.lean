/- Proved: januslaw11.ExoipcPlays answers true for every list of deeds (each answer, and who waits for whom, are the document's), at the commit of this claim; no condition beyond the row's own. -/
import Derived.Test.YtikeknehkoccpaaArgs11
import Derived.Test.YtikeknehkoccpaaRelM11
import Derived.Deep.RegionHeld3
import Derived.Deep.DeepCutAuto
import Derived.Deep.CutBlock
namespace Go.Proofs.Ytikeknehkoccpaa
open Go.ChangeShapes Go.WideShapes Go.ChangeAt Go.RowKit Go.Lib Go.Joins
set_option linter.unusedVariables false

theorem ints_same (D : List Int) (a b : Option Addr) (ca cb : Nat) (w : World) (ha : IRow w a D) (hb : IRow w b D) (hl : D.length ≤ 1000000) :
    Calls Try.prog 18 #[.slice a D.length ca, .slice b D.length cb] w fun e w' => e = .returned (.bool true) ∧ Below w.heap.size w w' := by
  have HA : Hid (IRow w a D) := ha
  have HB : Hid (IRow w b D) := hb
  clear ha hb
  go_enter Try.func18, Try.ntmps18
  go_wp2
  go_loopw [5] (fun s wr => ∃ (k : Nat), k ≤ D.length ∧ s = .int .i64 k ∧ Below w.heap.size w wr) (fun s _ => D.length - (intOf s).toNat)
  case atStart => exact ⟨0, by omega, rfl, Below.refl _ _⟩
  case round =>
    obtain ⟨k, hk, rfl, hbw⟩ := hrel
    by_cases hlt : k < D.length
    · obtain ⟨x, hx⟩ : ∃ x, D[k]? = some x := ⟨D[k], List.getElem?_eq_getElem hlt⟩
      obtain ⟨ga, oa, rfl, a0⟩ := (IRow.below HA.out hbw) k x hx
      obtain ⟨gb, ob, rfl, b0⟩ := (IRow.below HB.out hbw) k x hx
      clear hx
      go_wp2_with fail
      go_region
      all_goals
        go_wp2
        go_roundw
        case rel => exact ⟨k + 1, by omega, by go_num, hbw.drew⟩
        case measure => simp [intOf]; omega
    · obtain rfl : k = D.length := by omega
      go_wp2
      go_ret
      exact ⟨rfl, hbw⟩

/-- A deed in its block. -/
def Box (w : World) (D : Nat) (d : Deed) : Prop := w.heap[D]? = some (.cells (deedRow d) 31)
theorem Box.cells {w : World} {D : Nat} {d : Deed} (h : Box w D d) : w.cell? ⟨D, 0, none⟩ = some (.int .i64 d.kind) ∧ w.cell? ⟨D, 1, none⟩ = some (.int .i64 d.fr) ∧ w.cell? ⟨D, 2, none⟩ = some (.int .i64 d.tt) ∧ w.cell? ⟨D, 3, none⟩ = some (.slice d.a d.ws.length d.cap) := deedCells h
theorem Box.below {w w' : World} {D : Nat} {d : Deed} (h : Box w D d) (hb : Below w.heap.size w w') : Box w' D d := (hb.block _ (lt_of_heap h)).trans h
theorem Box.tch {B : Nat} {w w' : World} {D : Nat} {d : Deed} (h : Box w D d) (hb : Tch B w w') : Box w' D d := hb.other h (by decide) (by decide)
theorem Box.upd {w w' : World} {D c : Nat} {d : Deed} {cs : Array Value} (h : Box w D d) (hc : w.heap[c]? = some (.cells cs 28)) (hu : Upd c w w') : Box w' D d := (hu.block _ (lt_of_heap h) (by
  rintro rfl
  rw [h] at hc
  simp only [Option.some.injEq, Obj.cells.injEq] at hc
  exact absurd hc.2.1 (by decide))).trans h
theorem cell3 {w : World} {D : Nat} {d : Deed} (h : Box w D d) : w.cell? ⟨D, 1, none⟩ = some (.int .i64 d.fr) ∧ w.cell? ⟨D, 2, none⟩ = some (.int .i64 d.tt) ∧ w.cell? ⟨D, 3, none⟩ = some (.slice d.a d.ws.length d.cap) := ⟨h.cells.2.1, h.cells.2.2.1, h.cells.2.2.2⟩

theorem Wd.upd {w w' : World} {c : Nat} {a : Option Addr} {ws : List Int} {cs : Array Value} (h : Wd w a ws) (hc : w.heap[c]? = some (.cells cs 28)) (hu : Upd c w w') : Wd w' a ws := h.keep (fun k cs' fr hk => (hu.block k (lt_of_heap hk) (by
  rintro rfl
  rw [hc] at hk
  simp only [Option.some.injEq, Obj.cells.injEq] at hk
  exact absurd hk.2.1 (by decide))).trans hk)

set_option maxRecDepth 100000 in
set_option maxHeartbeats 8000000 in
theorem plays_walk (a0' : Option Addr) (len cap : Nat) (w : World) (hlen : len ≤ 9223372036854775807) (hdeeds : Hid (DeedsAt w a0' len)) :
    Calls Try.prog 3 #[.slice a0' len cap] w fun e w' => e = .returned (.bool true) ∧ Below w.heap.size w w' := by
  go_enter Try.func3, Try.ntmps3
  go_wp2_with fail
  refine (new_at w).mono ?_
  rintro e w1 ⟨rfl, hA, hB⟩
  obtain ⟨b, hbq⟩ : ∃ b, b = w.heap.size := ⟨_, rfl⟩
  rw [← hbq] at hA ⊢
  have hne := ptr_eq b
  have hwb : w.heap.size ≤ b := by omega
  have hbw : b ≤ w.heap.size := by omega
  obtain ⟨W, hW⟩ : ∃ W, W = w1.alloc (.cells #[.slice none 0 0] 28) := ⟨_, rfl⟩
  have hbW : Below w1.heap.size w1 W := by rw [hW]; exact below_alloc _ _
  obtain ⟨c, hcq⟩ : ∃ c, c = w1.heap.size := ⟨_, rfl⟩
  have hcb : b ≤ c := by rw [hcq]; exact Nat.le_trans hbw hB.size
  have HD : Hid (Duo W b c (.slice none 0 0) [] Q0) := by
    refine ⟨hA.below hbW, ⟨?_, World.ownsRow_nil _ _ _ _, fun m hm => by simp at hm⟩, Rel.zero⟩
    rw [hW, hcq]
    exact heap_alloc_new _ _
  have HB : Hid (Below w.heap.size w W) := hB.trans (hbW.mono hB.size)
  have HW : Hid (W = w1.alloc (.cells #[.slice none 0 0] 28)) := hW
  have HC : Hid (c = w1.heap.size) := hcq
  clear hA hB hbq hW hbW hcq
  go_wp2
  rw [← HW.out, ← HC.out]
  clear HW HC
  go_loopw [5] (fun s wr => ∃ (k : Nat) (v : Value) (L : List RMg) (Q : QS), k ≤ len ∧ k ≤ 200 ∧ s = .int .i64 k ∧ Duo wr b c v L Q ∧ L.length ≤ k ∧ Below w.heap.size w wr) (fun s _ => 200 - (intOf s).toNat)
  case atStart => exact ⟨0, _, [], Q0, by omega, by omega, rfl, HD.out, by simp, HB.out⟩
  case round =>
    clear HD HB
    obtain ⟨k, v, L, Q, hk, hk2, rfl, hD, hLk, hB⟩ := hrel
    by_cases hlt : k < len ∧ k < 200
    · obtain ⟨l1, l2⟩ := hlt
      obtain ⟨gb, off, d, rfl, e0, e1, e2, e3, hok⟩ := (hdeeds.out.below hB) k l1
      have g0 : decide ((k : Int) < (len : Int)) = true := decide_eq_true (by omega)
      have g1 : decide ((k : Int) < 200) = true := decide_eq_true (by omega)
      have ik : (k : Int) < (len : Int) := by omega
      obtain ⟨W, hW⟩ : ∃ W, W = wr.alloc (.cells (deedRow d) 31) := ⟨_, rfl⟩
      have hbW : Below wr.heap.size wr W := by rw [hW]; exact below_alloc _ _
      obtain ⟨D, hDn⟩ : ∃ D, D = wr.heap.size := ⟨_, rfl⟩
      have HX : Hid (Box W D d) := by rw [hW, hDn]; exact heap_alloc_new _ _
      have HD : Hid (Duo W b c v L Q) := hD.below hbW
      have HB : Hid (Below w.heap.size w W) := hB.trans (hbW.mono hB.size)
      have hsW : b ≤ W.heap.size := Nat.le_trans hbw (Nat.le_trans hB.size hbW.size)
      have HOk : Hid (DeedOk W d) := ⟨hok.1.below hbW, hok.2⟩
      -- the words that came in lie below b
      have HIn : Hid (∀ w', Below b W w' → Rd w' d.a d.ws) := by
        intro w' hb'
        obtain ⟨g2, o2, d2, e, q0, q1, q2, q3, q4, q5⟩ := hdeeds.out k l1
        simp only [Option.some.injEq, Addr.mk.injEq] at e
        obtain ⟨rfl, rfl, _⟩ := e
        have hw3 := (hB.cell (cell_lt q3)).trans q3
        rw [e3] at hw3
        simp only [Option.some.injEq, Value.slice.injEq] at hw3
        obtain ⟨ea, el, ec⟩ := hw3
        intro j x hj
        obtain ⟨g5, o5, e5, c5⟩ := (hok.1.below hbW) j x hj
        refine ⟨g5, o5, e5, ?_⟩
        have hj2 : j < d2.ws.length := by have := (List.getElem?_eq_some_iff.1 hj).1; omega
        obtain ⟨g6, o6, e6, c6⟩ := q4 j _ (List.getElem?_eq_getElem hj2)
        rw [ea, e6] at e5
        simp only [Option.some.injEq, Addr.mk.injEq] at e5
        obtain ⟨rfl, rfl, _⟩ := e5
        rw [hb'.cell (p := ⟨g6, o6 + j, none⟩) (Nat.lt_of_lt_of_le (cell_lt c6) hwb)]
        exact c5
      obtain ⟨kd, f, t, a, cp, ws⟩ := d
      unfold deedRow at hW
      dsimp only at *
      have HW : Hid (W = wr.alloc (.cells #[.int .i64 kd, .int .i64 f, .int .i64 t, .slice a ws.length cp] 31)) := hW
      have HDn : Hid (D = wr.heap.size) := hDn
      clear hW hbW hD hB hDn hok
      go_upto_block 2 with fail
      rw [← HW.out, ← HDn.out]
      clear HW HDn e0 e1 e2 e3 hdeeds
      go_cut [7, 8, 9, 10, 11, 12, 13] (fun ok _ _ _ _ _ _ wc => ok = .bool true ∧ ∃ (v' : Value) (L' : List RMg) (Q' : QS), Duo wc b c v' L' Q' ∧ L'.length ≤ k + 1 ∧ Box wc D ⟨kd, f, t, a, cp, ws⟩ ∧ Below w.heap.size w wc)
      case first =>
        have hdr : Below W.heap.size W W.drew := (Below.refl _ _).drew
        obtain ⟨c0, c1, c2, c3⟩ := Box.cells HX.out
        dsimp only at c0 c1 c2 c3
        have kinds : (kd == 0) = true ∨ ((kd == 0) = false ∧ (kd == 1) = true) ∨ ((kd == 0) = false ∧ (kd == 1) = false) := by
          simp only [beq_iff_eq, beq_eq_false_iff_ne]
          omega
        rcases kinds with k0 | ⟨k0, k1⟩ | ⟨k0, k1⟩
        · have hXd := Box.below HX.out hdr
          have hCd := cell3 hXd
          dsimp only at hCd
          have hDd := Duo.below HD.out hdr
          obtain ⟨a2, cp2, w2, hrun, hwd, hb2⟩ := copy_words (HIn.out W.drew ((Below.refl _ _).drew)) cp (by have := HOk.out.2; dsimp only at this; omega)
          have hb2' : Below W.heap.size W w2 := hdr.trans hb2
          have HRun : Hid (∀ ty, (Builtin.append_ #[29, 29] ty #[.slice none 0 0, .slice a ws.length cp]).run Try.prog W.drew = .ok (.slice a2 ws.length cp2) w2) := hrun
          have HD2 : Hid (Duo w2 b c v L Q) := Duo.below HD.out hb2'
          have HX2 : Hid (Box w2 D ⟨kd, f, t, a, cp, ws⟩) := Box.below HX.out hb2'
          have HW2 : Hid (Wd w2 a2 ws) := hwd
          have HB2 : Hid (Below W.heap.size W w2) := hb2'
          have hC2 := cell3 HX2.out
          dsimp only at hC2
          have hs2 : b ≤ w2.heap.size := Nat.le_trans hsW hb2'.size
          have hop := send_at b b Q f t a2 ws cp2 w2 HD2.out.ipc (Wd.rd HW2.out) hs2
          generalize hr : sendR Q f t ws.length = r at hop
          have HRr : Hid (sendR Q f t ws.length = r) := hr
          clear hrun hwd hb2 hb2' hXd hDd hdr hr
          go_wp2_with fail
          clear c0 c1 c2 c3
          refine wp_region_held_drew (S := fun w' => w'.cell? ⟨D, 1, none⟩ = some (.int .i64 f) ∧ w'.cell? ⟨D, 2, none⟩ = some (.int .i64 t) ∧ w'.cell? ⟨D, 3, none⟩ = some (.slice a ws.length cp)) (by kernel_rfl) hCd (fun hHeld => ?_)
          refine wpAnyH_take (i := 0) (v := ?_) rfl (by kernel_rfl) (by kernel_rfl) (by kernel_rfl) (fun _ _ _ h => h) (Or.inl ⟨by kernel_rfl, ?_⟩) (by assumption) ?_
          rotate_left
          · (intro w hSw; (try dsimp only at hSw); go_simp) <;> with_reducible rfl
          (try simp only [Act.put, List.getElem_toArray, List.getElem_cons_zero, List.setIfInBounds_toArray, List.set_cons_zero, List.set_cons_succ])
          refine wpAnyH_take (i := 1) (v := ?_) rfl (by kernel_rfl) (by kernel_rfl) (by kernel_rfl) (fun _ _ _ h => h) (Or.inl ⟨by kernel_rfl, ?_⟩) (by assumption) ?_
          rotate_left
          · (intro w hSw; (try dsimp only at hSw); go_simp) <;> with_reducible rfl
          (try simp only [Act.put, List.getElem_toArray, List.getElem_cons_zero, List.getElem_cons_succ, List.setIfInBounds_toArray, List.set_cons_zero, List.set_cons_succ])
          refine wpAnyH_take (i := 2) (v := ?_) rfl (by kernel_rfl) (by kernel_rfl) (by kernel_rfl) (fun _ _ _ h => h) (Or.inl ⟨by kernel_rfl, ?_⟩) (by assumption) ?_
          rotate_left
          · (intro w hSw; (try dsimp only at hSw); go_simp) <;> with_reducible rfl
          (try simp only [Act.put, List.getElem_toArray, List.getElem_cons_zero, List.getElem_cons_succ, List.setIfInBounds_toArray, List.set_cons_zero, List.set_cons_succ])
          refine wpAnyH_take (i := 3) (v := ?_) rfl (by kernel_rfl) (by kernel_rfl) (by kernel_rfl) (fun _ _ _ h => h) (Or.inl ⟨by kernel_rfl, ?_⟩) (by assumption) ?_
          rotate_left
          · (intro w hSw; (try dsimp only at hSw); go_simp) <;> with_reducible rfl
          (try simp only [Act.put, List.getElem_toArray, List.getElem_cons_zero, List.getElem_cons_succ, List.setIfInBounds_toArray, List.set_cons_zero, List.set_cons_succ])
          refine wpAnyH_take (i := 4) (v := ?_) rfl (by kernel_rfl) (by kernel_rfl) (by kernel_rfl) (fun _ _ _ h => h) (Or.inl ⟨by kernel_rfl, ?_⟩) (by assumption) ?_
          rotate_left
          · (intro w hSw; (try dsimp only at hSw); go_simp) <;> with_reducible rfl
          (try simp only [Act.put, List.getElem_toArray, List.getElem_cons_zero, List.getElem_cons_succ, List.setIfInBounds_toArray, List.set_cons_zero, List.set_cons_succ])
          refine wpAnyH_take (i := 5) (v := ?_) rfl (by kernel_rfl) (by kernel_rfl) (by kernel_rfl) (fun _ _ _ h => h) (Or.inl ⟨by kernel_rfl, ?_⟩) (by assumption) ?_
          rotate_left
          · (intro w hSw; (try dsimp only at hSw); go_simp) <;> with_reducible rfl
          (try simp only [Act.put, List.getElem_toArray, List.getElem_cons_zero, List.getElem_cons_succ, List.setIfInBounds_toArray, List.set_cons_zero, List.set_cons_succ])
          refine wpAnyH_take (i := 6) (v := ?_) rfl (by kernel_rfl) (by kernel_rfl) (by kernel_rfl) (fun _ _ _ h => h) (Or.inl ⟨by kernel_rfl, ?_⟩) (by assumption) ?_
          rotate_left
          · (intro w hSw; (try dsimp only at hSw); go_simp) <;> with_reducible rfl
          (try simp only [Act.put, List.getElem_toArray, List.getElem_cons_zero, List.getElem_cons_succ, List.setIfInBounds_toArray, List.set_cons_zero, List.set_cons_succ])
          refine wpAnyH_take (i := 9) (v := ?_) rfl (by kernel_rfl) (by kernel_rfl) (by kernel_rfl) (fun _ _ _ h => h) (Or.inl ⟨by kernel_rfl, ?_⟩) (by assumption) ?_
          rotate_left
          · (intro w hSw; (try dsimp only at hSw); go_simp) <;> with_reducible rfl
          (try simp only [Act.put, List.getElem_toArray, List.getElem_cons_zero, List.getElem_cons_succ, List.setIfInBounds_toArray, List.set_cons_zero, List.set_cons_succ])
          refine wpAnyH_take (i := 10) (v := ?_) rfl (by kernel_rfl) (by kernel_rfl) (by kernel_rfl) (fun _ _ _ h => h) (Or.inl ⟨by kernel_rfl, ?_⟩) (by assumption) ?_
          rotate_left
          · (intro w hSw; (try dsimp only at hSw); go_simp) <;> with_reducible rfl
          (try simp only [Act.put, List.getElem_toArray, List.getElem_cons_zero, List.getElem_cons_succ, List.setIfInBounds_toArray, List.set_cons_zero, List.set_cons_succ])
          refine wpAnyH_take (i := 11) (v := ?_) rfl (by kernel_rfl) (by kernel_rfl) (by kernel_rfl) (fun _ _ _ h => h) (Or.inl ⟨by kernel_rfl, ?_⟩) (by assumption) ?_
          rotate_left
          · (intro w hSw; (try dsimp only at hSw); go_simp) <;> with_reducible rfl
          (try simp only [Act.put, List.getElem_toArray, List.getElem_cons_zero, List.getElem_cons_succ, List.setIfInBounds_toArray, List.set_cons_zero, List.set_cons_succ])
          refine wpAnyH_take (i := 12) (v := ?_) rfl (by kernel_rfl) (by kernel_rfl) (by kernel_rfl) (fun _ _ _ h => h) (Or.inl ⟨by kernel_rfl, ?_⟩) (by assumption) ?_
          rotate_left
          · (intro w hSw; (try dsimp only at hSw); go_simp) <;> with_reducible rfl
          (try simp only [Act.put, List.getElem_toArray, List.getElem_cons_zero, List.getElem_cons_succ, List.setIfInBounds_toArray, List.set_cons_zero, List.set_cons_succ])
          refine wpAnyH_take (i := 13) (v := ?_) rfl (by kernel_rfl) (by kernel_rfl) (by kernel_rfl) (fun _ _ _ h => h) (Or.inl ⟨by kernel_rfl, ?_⟩) (by assumption) ?_
          rotate_left
          · (intro w hSw; (try dsimp only at hSw); go_simp) <;> with_reducible rfl
          (try simp only [Act.put, List.getElem_toArray, List.getElem_cons_zero, List.getElem_cons_succ, List.setIfInBounds_toArray, List.set_cons_zero, List.set_cons_succ])
          refine wpAnyH_take (i := 14) (v := ?_) rfl (by kernel_rfl) (by kernel_rfl) (by kernel_rfl) (fun _ _ _ h => h) (Or.inl ⟨by kernel_rfl, ?_⟩) (by assumption) ?_
          rotate_left
          · (intro w hSw; (try dsimp only at hSw); go_simp) <;> with_reducible rfl
          (try simp only [Act.put, List.getElem_toArray, List.getElem_cons_zero, List.getElem_cons_succ, List.setIfInBounds_toArray, List.set_cons_zero, List.set_cons_succ])
          refine wpAnyH_take (i := 15) (v := ?_) rfl (by kernel_rfl) (by kernel_rfl) (by kernel_rfl) (fun _ _ _ h => h) (Or.inl ⟨by kernel_rfl, ?_⟩) (by assumption) ?_
          rotate_left
          · (intro w hSw; (try dsimp only at hSw); go_simp) <;> with_reducible rfl
          (try simp only [Act.put, List.getElem_toArray, List.getElem_cons_zero, List.getElem_cons_succ, List.setIfInBounds_toArray, List.set_cons_zero, List.set_cons_succ])
          refine wpAnyH_ready (rs := [7]) (by kernel_rfl) (by simp) ?_
          refine AllReadyH.cons rfl (fun K hK => ?_) AllReadyH.nil
          refine step_append_eq rfl (.const (.slice none 0 0)) (.tmp 51) 29 rfl (.slice none 0 0) (.slice a ws.length cp) (.slice a2 ws.length cp2) rfl (by rfl) HRun.out ?_
          refine hK.out _ _ hC2 (fun hHeld => ?_)
          clear hK K
          (try simp only [Act.put, List.getElem_toArray, List.getElem_cons_zero, List.getElem_cons_succ, List.setIfInBounds_toArray, List.set_cons_zero, List.set_cons_succ])
          refine wpAnyH_ready (rs := [8]) (by kernel_rfl) (by simp) ?_
          refine AllReadyH.cons rfl (fun K hK => ?_) AllReadyH.nil
          go_simp
          refine hop.mono ?_
          rintro e w3 ⟨rfl, ⟨a3, cp3, hA3⟩, hT3⟩
          have hX3 := Box.tch HX2.out hT3
          have hC3 := cell3 hX3
          dsimp only at hC3
          have hR3 := HD2.out.ref.tch hT3
          have hb3 : Below b W w3 := (HB2.out.mono hsW).trans (hT3.below hs2)
          have hrf := rsend_at c v L f t a ws cp w3 hR3 (by omega) (HIn.out w3 hb3)
          rw [HD2.out.rel.sendR, HRr.out] at hrf
          have HX3 : Hid (Box w3 D ⟨kd, f, t, a, cp, ws⟩) := hX3
          have HR3 : Hid (RIs w3 c v L) := hR3
          have HA3 : Hid (IpcAt w3 b b (sendQ Q f t a3 cp3 ws)) := hA3
          have HB3 : Hid (Below b W w3) := hb3
          have hc3 : c < w3.heap.size := hR3.lt
          clear hX3 hA3 hT3 hR3 hb3 hop hCd hC2
          refine hK.out _ _ hC3 (fun hHeld => ?_)
          clear hK K
          (try simp only [Act.put, List.getElem_toArray, List.getElem_cons_zero, List.getElem_cons_succ, List.setIfInBounds_toArray, List.set_cons_zero, List.set_cons_succ])
          refine wpAnyH_ready (rs := [16]) (by kernel_rfl) (by simp) ?_
          refine AllReadyH.cons rfl (fun K hK => ?_) AllReadyH.nil
          go_simp
          refine hrf.mono ?_
          rintro e w4 ⟨rfl, ⟨v4, a4, cp4, hR4⟩, hu4⟩
          have HX4 : Hid (Box w4 D ⟨kd, f, t, a, cp, ws⟩) := Box.upd HX3.out HR3.out.head hu4
          have HD4 : Hid (Duo w4 b c v4 (rsendL L f t a4 cp4 ws) (sendQ Q f t a3 cp3 ws)) := ⟨IpcAt.upd HA3.out HR3.out.head hu4, hR4, HD2.out.rel.send f t a4 a3 cp4 cp3 ws⟩
          have HB4 : Hid (Below w.heap.size w w4) := (HB.out.trans (HB3.out.mono hwb)).trans (hu4.below (by omega) (by omega))
          have hC4 := cell3 HX4.out
          dsimp only at hC4
          clear hR4 hu4 hrf hC3
          refine hK.out _ _ hC4 (fun hHeld => ?_)
          clear hK K
          (try simp only [Act.put, List.getElem_toArray, List.getElem_cons_zero, List.getElem_cons_succ, List.setIfInBounds_toArray, List.set_cons_zero, List.set_cons_succ])
          refine wpAnyH_take (i := 17) (v := ?_) rfl (by kernel_rfl) (by kernel_rfl) (by kernel_rfl) (fun _ _ _ h => h) (Or.inl ⟨by kernel_rfl, ?_⟩) (by assumption) ?_
          rotate_left
          · (intro w hSw; (try dsimp only at hSw); go_simp) <;> with_reducible rfl
          (try simp only [Act.put, List.getElem_toArray, List.getElem_cons_zero, List.getElem_cons_succ, List.setIfInBounds_toArray, List.set_cons_zero, List.set_cons_succ])
          refine wpAnyH_take (i := 18) (v := ?_) rfl (by kernel_rfl) (by kernel_rfl) (by kernel_rfl) (fun _ _ _ h => h) (Or.inl ⟨by kernel_rfl, ?_⟩) (by assumption) ?_
          rotate_left
          · (intro w hSw; (try dsimp only at hSw); go_simp) <;> with_reducible rfl
          (try simp only [Act.put, List.getElem_toArray, List.getElem_cons_zero, List.getElem_cons_succ, List.setIfInBounds_toArray, List.set_cons_zero, List.set_cons_succ])
          refine wpAnyH_done (by kernel_rfl) ?_ _
          clear hHeld
          go_wp2_with fail
          go_meet
          case rel => exact ⟨by simp, v4, _, _, HD4.out, Nat.le_trans (rsendL_len _ _ _ _ _ _) (by omega), HX4.out, HB4.out⟩
        · have hop := recv_at b b Q t W HD.out.ipc
          clear hdr
          rcases first_or t L with hno | ⟨i, m, hm, htt, hfirst⟩
          · obtain ⟨hq, hrel2⟩ := HD.out.rel.none hno
            rw [hq] at hop
            dsimp only [recvF, recvV, recvB] at hop
            have HNo : Hid (∀ m ∈ L, m.tt ≠ t) := hno
            have HRel : Hid (Rel L (recvQ Q t)) := hrel2
            clear hq hno hrel2
            go_wp2_with fail
            refine hop.mono ?_
            rintro e w2 ⟨rfl, hA2, hT2⟩
            have hR2 := HD.out.ref.tch hT2
            have hX2 := Box.tch HX.out hT2
            obtain ⟨p0, p1, p2, p3⟩ := Box.cells hX2
            dsimp only at p0 p1 p2 p3
            have HX2 : Hid (Box w2 D ⟨kd, f, t, a, cp, ws⟩) := hX2
            have HD2 : Hid (Duo w2 b c v L (recvQ Q t)) := ⟨hA2, hR2, HRel.out⟩
            have HB2 : Hid (Below w.heap.size w w2) := HB.out.trans ((hT2.below hsW).mono hwb)
            have hrf := rrecv_no c v L t w2 hR2 (by omega) HNo.out
            have hWs := words_same [] none none 0 0 w2 (Rd.nil _ _) (Rd.nil _ _) (by simp)
            dsimp only [List.length_nil] at hWs
            clear hA2 hT2 hR2 hX2 hop c0 c1 c2 c3
            go_wp2_with fail
            refine hrf.mono ?_
            rintro e w3 ⟨rfl, hw⟩
            rw [hw]
            clear hw w3 hrf
            go_wp2_with fail
            refine hWs.mono ?_
            rintro e w3 ⟨rfl, hb3⟩
            have HX3 : Hid (Box w3 D ⟨kd, f, t, a, cp, ws⟩) := Box.below HX2.out hb3
            have HD3 : Hid (Duo w3 b c v L (recvQ Q t)) := Duo.below HD2.out hb3
            have HB3 : Hid (Below w.heap.size w w3) := HB2.out.trans (hb3.mono HB2.out.size)
            clear hb3 hWs
            go_wp2_with fail
            go_meet
            case rel => exact ⟨by simp, v, L, _, HD3.out, by omega, HX3.out, HB3.out⟩
          · obtain ⟨⟨q, R, hq, hqf, hqw⟩, hrel2⟩ := HD.out.rel.some hm htt hfirst
            have hwq := HD.out.ipc.wd (n := t) (m := q) (by rw [hq]; simp)
            rw [hq] at hop
            obtain ⟨qf, qa, qc, qw⟩ := q
            dsimp only [recvF, recvV, recvB, Mg.v] at *
            subst hqf hqw
            have HWq : Hid (Wd W qa m.ws) := hwq
            have HM : Hid (L[i]? = some m) := hm
            have HTT : Hid (m.tt = t) := htt
            have HF : Hid (∀ (j : Nat) (x : RMg), j < i → L[j]? = some x → x.tt ≠ t) := hfirst
            have HRel : Hid (Rel (L.take i ++ L.drop (i + 1)) (recvQ Q t)) := hrel2
            have hw8 : m.ws.length ≤ 1000000 := by
              have := (HD.out.rel.2 m (List.mem_of_getElem? HM.out)).2.2
              omega
            have HW8 : Hid (m.ws.length ≤ 1000000) := hw8
            clear hq hm htt hfirst hrel2 hwq hw8
            go_wp2_with fail
            refine hop.mono ?_
            rintro e w2 ⟨rfl, hA2, hT2⟩
            have hR2 := HD.out.ref.tch hT2
            have hX2 := Box.tch HX.out hT2
            obtain ⟨p0, p1, p2, p3⟩ := Box.cells hX2
            dsimp only at p0 p1 p2 p3
            have HX2 : Hid (Box w2 D ⟨kd, f, t, a, cp, ws⟩) := hX2
            have HA2 : Hid (IpcAt w2 b b (recvQ Q t)) := hA2
            have HR2 : Hid (RIs w2 c v L) := hR2
            have HB2 : Hid (Below w.heap.size w w2) := HB.out.trans ((hT2.below hsW).mono hwb)
            have HWq2 : Hid (Wd w2 qa m.ws) := Wd.tch HWq.out hT2
            have hrf := rrecv_yes c v L t i m w2 hR2 (by omega) HM.out HTT.out HF.out
            have hcl := hR2.lt
            have hs2 := HB2.out.size
            clear hA2 hT2 hR2 hX2 hop c0 c1 c2 c3
            go_wp2_with fail
            refine hrf.mono ?_
            rintro e w3 ⟨rfl, ⟨v3, hR3⟩, hu3⟩
            have HX3 : Hid (Box w3 D ⟨kd, f, t, a, cp, ws⟩) := Box.upd HX2.out HR2.out.head hu3
            have HD3 : Hid (Duo w3 b c v3 (L.take i ++ L.drop (i + 1)) (recvQ Q t)) := ⟨IpcAt.upd HA2.out HR2.out.head hu3, hR3, HRel.out⟩
            have HB3 : Hid (Below w.heap.size w w3) := HB2.out.trans (hu3.below (by omega) hs2)
            have hWs := words_same m.ws qa m.a qc m.cap w3 (Wd.upd HWq2.out HR2.out.head hu3).rd (Wd.upd (HR2.out.wd m (List.mem_of_getElem? HM.out)) HR2.out.head hu3).rd HW8.out
            clear hR3 hu3 hrf
            go_wp2_with fail
            refine hWs.mono ?_
            rintro e w4 ⟨rfl, hb4⟩
            have HX4 : Hid (Box w4 D ⟨kd, f, t, a, cp, ws⟩) := Box.below HX3.out hb4
            have HD4 : Hid (Duo w4 b c v3 (L.take i ++ L.drop (i + 1)) (recvQ Q t)) := Duo.below HD3.out hb4
            have HB4 : Hid (Below w.heap.size w w4) := HB3.out.trans (hb4.mono HB3.out.size)
            clear hb4 hWs
            go_wp2_with fail
            go_meet
            case rel =>
              refine ⟨by simp, v3, _, _, HD4.out, ?_, HX4.out, HB4.out⟩
              rw [List.length_append, List.length_take, List.length_drop]
              omega
        · have hop := gone_at b b Q f W HD.out.ipc
          clear hdr
          go_wp2_with fail
          refine hop.mono ?_
          rintro e w2 ⟨rfl, hA2, hT2⟩
          have hR2 := HD.out.ref.tch hT2
          have hX2 := Box.tch HX.out hT2
          obtain ⟨p0, p1, p2, p3⟩ := Box.cells hX2
          dsimp only at p0 p1 p2 p3
          have HX2 : Hid (Box w2 D ⟨kd, f, t, a, cp, ws⟩) := hX2
          have HA2 : Hid (IpcAt w2 b b (goneQ Q f)) := hA2
          have HR2 : Hid (RIs w2 c v L) := hR2
          have HB2 : Hid (Below w.heap.size w w2) := HB.out.trans ((hT2.below hsW).mono hwb)
          have hrf := rgone_at c v L f w2 hR2 (by omega)
          have hcl := hR2.lt
          have hs2 := HB2.out.size
          clear hA2 hT2 hR2 hX2 hop c0 c1 c2 c3
          go_wp2_with fail
          refine hrf.mono ?_
          rintro e w3 ⟨rfl, ⟨v3, hR3⟩, hu3⟩
          have HX3 : Hid (Box w3 D ⟨kd, f, t, a, cp, ws⟩) := Box.upd HX2.out HR2.out.head hu3
          have HD3 : Hid (Duo w3 b c v3 (rgoneL L f) (goneQ Q f)) := ⟨IpcAt.upd HA2.out HR2.out.head hu3, hR3, HD.out.rel.gone f⟩
          have HB3 : Hid (Below w.heap.size w w3) := HB2.out.trans (hu3.below (by omega) hs2)
          clear hR3 hu3 hrf
          go_wp2_with fail
          go_meet
          case rel => exact ⟨by first | rfl | simp, v3, _, _, HD3.out, Nat.le_trans (rgoneL_len _ _) (by omega), HX3.out, HB3.out⟩
      case rest =>
        obtain ⟨rfl, v', L', Q', hD, hL', hX, hB⟩ := hcut
        clear HX HD HB HOk HIn
        have hdr : Below wc.heap.size wc wc.drew := (Below.refl _ _).drew
        have HX : Hid (Box wc.drew D ⟨kd, f, t, a, cp, ws⟩) := Box.below hX hdr
        have HD : Hid (Duo wc.drew b c v' L' Q') := Duo.below hD hdr
        have HB : Hid (Below w.heap.size w wc.drew) := hB.drew
        have hWt := waiting_at b b Q' t wc.drew HD.out.ipc
        have hrW := rwaiting_at c v' L' t wc.drew HD.out.ref (by omega)
        rw [HD.out.rel.rlen t] at hrW
        have hl4 := HD.out.ipc.len t
        have HFr : Hid (rfroms L' t = froms (qat Q' t)) := HD.out.rel.froms t
        have hfl : (froms (qat Q' t)).length ≤ 4 := by rw [froms_len]; exact hl4
        generalize (qat Q' t).length = N at hWt hrW hl4
        generalize hF4 : froms (qat Q' t) = F4 at hfl
        have HF4 : Hid (froms (qat Q' t) = F4) := hF4
        have x2 := (Box.cells HX.out).2.2.1
        dsimp only at x2
        clear hdr hX hD hB hF4
        go_wp2_with fail
        refine wp_region_held_drew (S := fun w' => w'.cell? ⟨D, 2, none⟩ = some (.int .i64 t)) (by kernel_rfl) x2 (fun hHeld => ?_)
        refine wpAnyH_take (i := 0) (v := ?_) rfl (by kernel_rfl) (by kernel_rfl) (by kernel_rfl) (fun _ _ _ h => h) (Or.inl ⟨by kernel_rfl, ?_⟩) (by assumption) ?_
        rotate_left
        · (intro w hSw; (try dsimp only at hSw); go_simp) <;> with_reducible rfl
        (try simp only [Act.put, List.getElem_toArray, List.getElem_cons_zero, List.setIfInBounds_toArray, List.set_cons_zero, List.set_cons_succ])
        refine wpAnyH_take (i := 1) (v := ?_) rfl (by kernel_rfl) (by kernel_rfl) (by kernel_rfl) (fun _ _ _ h => h) (Or.inl ⟨by kernel_rfl, ?_⟩) (by assumption) ?_
        rotate_left
        · (intro w hSw; (try dsimp only at hSw); go_simp) <;> with_reducible rfl
        (try simp only [Act.put, List.getElem_toArray, List.getElem_cons_zero, List.getElem_cons_succ, List.setIfInBounds_toArray, List.set_cons_zero, List.set_cons_succ])
        refine wpAnyH_take (i := 2) (v := ?_) rfl (by kernel_rfl) (by kernel_rfl) (by kernel_rfl) (fun _ _ _ h => h) (Or.inl ⟨by kernel_rfl, ?_⟩) (by assumption) ?_
        rotate_left
        · (intro w hSw; (try dsimp only at hSw); go_simp) <;> with_reducible rfl
        (try simp only [Act.put, List.getElem_toArray, List.getElem_cons_zero, List.getElem_cons_succ, List.setIfInBounds_toArray, List.set_cons_zero, List.set_cons_succ])
        refine wpAnyH_take (i := 3) (v := ?_) rfl (by kernel_rfl) (by kernel_rfl) (by kernel_rfl) (fun _ _ _ h => h) (Or.inl ⟨by kernel_rfl, ?_⟩) (by assumption) ?_
        rotate_left
        · (intro w hSw; (try dsimp only at hSw); go_simp) <;> with_reducible rfl
        (try simp only [Act.put, List.getElem_toArray, List.getElem_cons_zero, List.getElem_cons_succ, List.setIfInBounds_toArray, List.set_cons_zero, List.set_cons_succ])
        refine wpAnyH_take (i := 4) (v := ?_) rfl (by kernel_rfl) (by kernel_rfl) (by kernel_rfl) (fun _ _ _ h => h) (Or.inl ⟨by kernel_rfl, ?_⟩) (by assumption) ?_
        rotate_left
        · (intro w hSw; (try dsimp only at hSw); go_simp) <;> with_reducible rfl
        (try simp only [Act.put, List.getElem_toArray, List.getElem_cons_zero, List.getElem_cons_succ, List.setIfInBounds_toArray, List.set_cons_zero, List.set_cons_succ])
        refine wpAnyH_take (i := 5) (v := ?_) rfl (by kernel_rfl) (by kernel_rfl) (by kernel_rfl) (fun _ _ _ h => h) (Or.inl ⟨by kernel_rfl, ?_⟩) (by assumption) ?_
        rotate_left
        · (intro w hSw; (try dsimp only at hSw); go_simp) <;> with_reducible rfl
        (try simp only [Act.put, List.getElem_toArray, List.getElem_cons_zero, List.getElem_cons_succ, List.setIfInBounds_toArray, List.set_cons_zero, List.set_cons_succ])
        refine wpAnyH_take (i := 7) (v := ?_) rfl (by kernel_rfl) (by kernel_rfl) (by kernel_rfl) (fun _ _ _ h => h) (Or.inl ⟨by kernel_rfl, ?_⟩) (by assumption) ?_
        rotate_left
        · (intro w hSw; (try dsimp only at hSw); go_simp) <;> with_reducible rfl
        (try simp only [Act.put, List.getElem_toArray, List.getElem_cons_zero, List.getElem_cons_succ, List.setIfInBounds_toArray, List.set_cons_zero, List.set_cons_succ])
        refine wpAnyH_take (i := 8) (v := ?_) rfl (by kernel_rfl) (by kernel_rfl) (by kernel_rfl) (fun _ _ _ h => h) (Or.inl ⟨by kernel_rfl, ?_⟩) (by assumption) ?_
        rotate_left
        · (intro w hSw; (try dsimp only at hSw); go_simp) <;> with_reducible rfl
        (try simp only [Act.put, List.getElem_toArray, List.getElem_cons_zero, List.getElem_cons_succ, List.setIfInBounds_toArray, List.set_cons_zero, List.set_cons_succ])
        refine wpAnyH_take (i := 9) (v := ?_) rfl (by kernel_rfl) (by kernel_rfl) (by kernel_rfl) (fun _ _ _ h => h) (Or.inl ⟨by kernel_rfl, ?_⟩) (by assumption) ?_
        rotate_left
        · (intro w hSw; (try dsimp only at hSw); go_simp) <;> with_reducible rfl
        (try simp only [Act.put, List.getElem_toArray, List.getElem_cons_zero, List.getElem_cons_succ, List.setIfInBounds_toArray, List.set_cons_zero, List.set_cons_succ])
        refine wpAnyH_ready (rs := [6]) (by kernel_rfl) (by simp) ?_
        refine AllReadyH.cons rfl (fun K hK => ?_) AllReadyH.nil
        go_simp
        refine hWt.mono ?_
        rintro e w3 ⟨rfl, hw⟩
        rw [hw]
        clear hw w3 hWt
        refine hK.out _ _ x2 (fun hHeld => ?_)
        clear hK K
        (try simp only [Act.put, List.getElem_toArray, List.getElem_cons_zero, List.getElem_cons_succ, List.setIfInBounds_toArray, List.set_cons_zero, List.set_cons_succ])
        refine wpAnyH_ready (rs := [10]) (by kernel_rfl) (by simp) ?_
        refine AllReadyH.cons rfl (fun K hK => ?_) AllReadyH.nil
        go_simp
        refine hrW.mono ?_
        rintro e w3 ⟨rfl, hb3⟩
        have HX3 : Hid (Box w3 D ⟨kd, f, t, a, cp, ws⟩) := Box.below HX.out hb3
        have HD3 : Hid (Duo w3 b c v' L' Q') := Duo.below HD.out hb3
        have HB3 : Hid (Below w.heap.size w w3) := HB.out.trans (hb3.mono HB.out.size)
        have x3 := (Box.cells HX3.out).2.2.1
        dsimp only at x3
        clear hb3 hrW HX HD HB x2
        refine hK.out _ _ x3 (fun hHeld => ?_)
        clear hK K
        (try simp only [Act.put, List.getElem_toArray, List.getElem_cons_zero, List.getElem_cons_succ, List.setIfInBounds_toArray, List.set_cons_zero, List.set_cons_succ])
        refine wpAnyH_take (i := 11) (v := ?_) rfl (by kernel_rfl) (by kernel_rfl) (by kernel_rfl) (fun _ _ _ h => h) (Or.inl ⟨by kernel_rfl, ?_⟩) (by assumption) ?_
        rotate_left
        · (intro w hSw; (try dsimp only at hSw); go_simp) <;> with_reducible rfl
        (try simp only [Act.put, List.getElem_toArray, List.getElem_cons_zero, List.getElem_cons_succ, List.setIfInBounds_toArray, List.set_cons_zero, List.set_cons_succ])
        refine wpAnyH_take (i := 12) (v := ?_) rfl (by kernel_rfl) (by kernel_rfl) (by kernel_rfl) (fun _ _ _ h => h) (Or.inl ⟨by kernel_rfl, ?_⟩) (by assumption) ?_
        rotate_left
        · (intro w hSw; (try dsimp only at hSw); go_simp) <;> with_reducible rfl
        (try simp only [Act.put, List.getElem_toArray, List.getElem_cons_zero, List.getElem_cons_succ, List.setIfInBounds_toArray, List.set_cons_zero, List.set_cons_succ])
        refine wpAnyH_take (i := 13) (v := ?_) rfl (by kernel_rfl) (by kernel_rfl) (by kernel_rfl) (fun _ _ _ h => h) (Or.inl ⟨by kernel_rfl, ?_⟩) (by assumption) ?_
        rotate_left
        · (intro w hSw; (try dsimp only at hSw); go_simp) <;> with_reducible rfl
        (try simp only [Act.put, List.getElem_toArray, List.getElem_cons_zero, List.getElem_cons_succ, List.setIfInBounds_toArray, List.set_cons_zero, List.set_cons_succ])
        refine wpAnyH_take (i := 14) (v := ?_) rfl (by kernel_rfl) (by kernel_rfl) (by kernel_rfl) (fun _ _ _ h => h) (Or.inl ⟨by kernel_rfl, ?_⟩) (by assumption) ?_
        rotate_left
        · (intro w hSw; (try dsimp only at hSw); go_simp) <;> with_reducible rfl
        (try simp only [Act.put, List.getElem_toArray, List.getElem_cons_zero, List.getElem_cons_succ, List.setIfInBounds_toArray, List.set_cons_zero, List.set_cons_succ])
        refine wpAnyH_take (i := 15) (v := ?_) rfl (by kernel_rfl) (by kernel_rfl) (by kernel_rfl) (fun _ _ _ h => h) (Or.inl ⟨by kernel_rfl, ?_⟩) (by assumption) ?_
        rotate_left
        · (intro w hSw; (try dsimp only at hSw); go_simp) <;> with_reducible rfl
        (try simp only [Act.put, List.getElem_toArray, List.getElem_cons_zero, List.getElem_cons_succ, List.setIfInBounds_toArray, List.set_cons_zero, List.set_cons_succ])
        refine wpAnyH_take (i := 16) (v := ?_) rfl (by kernel_rfl) (by kernel_rfl) (by kernel_rfl) (fun _ _ _ h => h) (Or.inl ⟨by kernel_rfl, ?_⟩) (by assumption) ?_
        rotate_left
        · (intro w hSw; (try dsimp only at hSw); go_simp) <;> with_reducible rfl
        (try simp only [Act.put, List.getElem_toArray, List.getElem_cons_zero, List.getElem_cons_succ, List.setIfInBounds_toArray, List.set_cons_zero, List.set_cons_succ])
        refine wpAnyH_take (i := 18) (v := ?_) rfl (by kernel_rfl) (by kernel_rfl) (by kernel_rfl) (fun _ _ _ h => h) (Or.inl ⟨by kernel_rfl, ?_⟩) (by assumption) ?_
        rotate_left
        · (intro w hSw; (try dsimp only at hSw); go_simp) <;> with_reducible rfl
        (try simp only [Act.put, List.getElem_toArray, List.getElem_cons_zero, List.getElem_cons_succ, List.setIfInBounds_toArray, List.set_cons_zero, List.set_cons_succ])
        refine wpAnyH_take (i := 19) (v := ?_) rfl (by kernel_rfl) (by kernel_rfl) (by kernel_rfl) (fun _ _ _ h => h) (Or.inl ⟨by kernel_rfl, ?_⟩) (by assumption) ?_
        rotate_left
        · (intro w hSw; (try dsimp only at hSw); go_simp) <;> with_reducible rfl
        (try simp only [Act.put, List.getElem_toArray, List.getElem_cons_zero, List.getElem_cons_succ, List.setIfInBounds_toArray, List.set_cons_zero, List.set_cons_succ])
        refine wpAnyH_take (i := 20) (v := ?_) rfl (by kernel_rfl) (by kernel_rfl) (by kernel_rfl) (fun _ _ _ h => h) (Or.inl ⟨by kernel_rfl, ?_⟩) (by assumption) ?_
        rotate_left
        · (intro w hSw; (try dsimp only at hSw); go_simp) <;> with_reducible rfl
        (try simp only [Act.put, List.getElem_toArray, List.getElem_cons_zero, List.getElem_cons_succ, List.setIfInBounds_toArray, List.set_cons_zero, List.set_cons_succ])
        refine wpAnyH_ready (rs := [17]) (by kernel_rfl) (by simp) ?_
        refine AllReadyH.cons rfl (fun K hK => ?_) AllReadyH.nil
        go_simp
        refine (from_at b b Q' t w3 HD3.out.ipc).mono ?_
        rw [HF4.out]
        rintro e w4 ⟨u4, rfl, hown4, hb4⟩
        obtain ⟨a4, cp4, rfl, hrow4⟩ := own_irow hown4
        have HX4 : Hid (Box w4 D ⟨kd, f, t, a, cp, ws⟩) := Box.below HX3.out hb4
        have HD4 : Hid (Duo w4 b c v' L' Q') := Duo.below HD3.out hb4
        have HB4 : Hid (Below w.heap.size w w4) := HB3.out.trans (hb4.mono HB3.out.size)
        have HI4 : Hid (IRow w4 a4 F4) := hrow4
        have x4 := (Box.cells HX4.out).2.2.1
        dsimp only at x4
        clear hb4 hown4 hrow4 HX3 HD3 HB3 x3
        refine hK.out _ _ x4 (fun hHeld => ?_)
        clear hK K
        (try simp only [Act.put, List.getElem_toArray, List.getElem_cons_zero, List.getElem_cons_succ, List.setIfInBounds_toArray, List.set_cons_zero, List.set_cons_succ])
        refine wpAnyH_ready (rs := [21]) (by kernel_rfl) (by simp) ?_
        refine AllReadyH.cons rfl (fun K hK => ?_) AllReadyH.nil
        go_simp
        refine (rfrom_at c v' L' t w4 HD4.out.ref (by omega)).mono ?_
        rw [HFr.out, HF4.out]
        rintro e w5 ⟨u5, rfl, hown5, hb5⟩
        obtain ⟨a5, cp5, rfl, hrow5⟩ := own_irow hown5
        have HX5 : Hid (Box w5 D ⟨kd, f, t, a, cp, ws⟩) := Box.below HX4.out hb5
        have HD5 : Hid (Duo w5 b c v' L' Q') := Duo.below HD4.out hb5
        have HB5 : Hid (Below w.heap.size w w5) := HB4.out.trans (hb5.mono HB4.out.size)
        have HI5 : Hid (IRow w5 a4 F4) := IRow.below HI4.out hb5
        have HJ5 : Hid (IRow w5 a5 F4) := hrow5
        have x5 := (Box.cells HX5.out).2.2.1
        dsimp only at x5
        clear hb5 hown5 hrow5 HX4 HD4 HB4 HI4 x4
        refine hK.out _ _ x5 (fun hHeld => ?_)
        clear hK K
        (try simp only [Act.put, List.getElem_toArray, List.getElem_cons_zero, List.getElem_cons_succ, List.setIfInBounds_toArray, List.set_cons_zero, List.set_cons_succ])
        refine wpAnyH_ready (rs := [22]) (by kernel_rfl) (by simp) ?_
        refine AllReadyH.cons rfl (fun K hK => ?_) AllReadyH.nil
        go_simp
        refine (ints_same F4 a4 a5 cp4 cp5 w5 HI5.out HJ5.out (by omega)).mono ?_
        rintro e w6 ⟨rfl, hb6⟩
        have HX6 : Hid (Box w6 D ⟨kd, f, t, a, cp, ws⟩) := Box.below HX5.out hb6
        have HD6 : Hid (Duo w6 b c v' L' Q') := Duo.below HD5.out hb6
        have HB6 : Hid (Below w.heap.size w w6) := HB5.out.trans (hb6.mono HB5.out.size)
        have x6 := (Box.cells HX6.out).2.2.1
        dsimp only at x6
        clear hb6 HX5 HD5 HB5 HI5 HJ5 x5
        refine hK.out _ _ x6 (fun hHeld => ?_)
        clear hK K
        (try simp only [Act.put, List.getElem_toArray, List.getElem_cons_zero, List.getElem_cons_succ, List.setIfInBounds_toArray, List.set_cons_zero, List.set_cons_succ])
        refine wpAnyH_take (i := 23) (v := ?_) rfl (by kernel_rfl) (by kernel_rfl) (by kernel_rfl) (fun _ _ _ h => h) (Or.inl ⟨by kernel_rfl, ?_⟩) (by assumption) ?_
        rotate_left
        · (intro w hSw; (try dsimp only at hSw); go_simp) <;> with_reducible rfl
        (try simp only [Act.put, List.getElem_toArray, List.getElem_cons_zero, List.getElem_cons_succ, List.setIfInBounds_toArray, List.set_cons_zero, List.set_cons_succ])
        refine wpAnyH_take (i := 24) (v := ?_) rfl (by kernel_rfl) (by kernel_rfl) (by kernel_rfl) (fun _ _ _ h => h) (Or.inl ⟨by kernel_rfl, ?_⟩) (by assumption) ?_
        rotate_left
        · (intro w hSw; (try dsimp only at hSw); go_simp) <;> with_reducible rfl
        (try simp only [Act.put, List.getElem_toArray, List.getElem_cons_zero, List.getElem_cons_succ, List.setIfInBounds_toArray, List.set_cons_zero, List.set_cons_succ])
        refine wpAnyH_done (by kernel_rfl) ?_ _
        clear hHeld
        go_wp2
        go_roundw
        case rel => exact ⟨k + 1, v', L', Q', by omega, by omega, by go_num, HD6.out, hL', HB6.out⟩
        case measure => simp [intOf]; omega
    · have HB : Hid (Below w.heap.size w wr) := hB
      have stop : (decide ((k : Int) < (len : Int)) = false ∧ len ≤ k) ∨ (decide ((k : Int) < (len : Int)) = true ∧ decide ((k : Int) < 200) = false ∧ k < len ∧ 200 ≤ k) := by
        simp only [decide_eq_true_eq, decide_eq_false_iff_not]
        omega
      clear hD hB hdeeds hlt
      rcases stop with ⟨g0, l0⟩ | ⟨g0, g1, l0, l1⟩
      all_goals
        go_wp2_with fail
        refine (awake_at _).mono ?_
        rintro e w6 ⟨rfl, hb6⟩
        go_wp2
        go_ret
        exact ⟨rfl, HB.out.trans (hb6.mono HB.out.size)⟩

theorem own : ownKnob Try.prog.godebug = none := by kernel_rfl
theorem laidOut : laidOutB Try.prog = true := by kernel_rfl

set_option maxRecDepth 100000 in
theorem plays_lifted (os : Os) (started : os.Started) (H : Type) (enc : TypeId × Value → H) :
    ReturnsInHanded {} Try.checked os 3 .any (Rows.exoipcPlaysSpec.pre6 enc Try.prog Try.f3 Rows.exoipcPlaysRow.domain false) (Rows.exoipcPlaysSpec.post enc Try.prog Try.f3 false true false false) := by
  refine returnsInHanded_of_change_sized (C := Try.checked) own started (by kernel_rfl) Try.func3
    (ChangeSpec.witness6 (enc := enc) (C := Try.checked) false ⟨#[], #[.slice none 0 0], []⟩ 8 (by kernel_rfl) (by kernel_rfl) (by kernel_rfl) (by kernel_rfl)) ?_
  intro W base args ds gs before hval0 hW hcnd hsz _
  have hval : ∀ (j : Nat) t v, Try.f3.params[j]? = some t → args[j]? = some v → Value.okWide Try.prog W .any base t v := hval0
  have hW' := hW
  obtain ⟨p, q, hA0, hV, rfl, hfz, hnd⟩ := hW
  have hA : DataW.TrodAll enc Try.prog W 0 (fun _ => true) true Try.f3.params.toList args.toList ds p := hA0
  rw [Try.params3] at hA hval
  obtain ⟨v0, vs0, d0, ds0, p0, q0, hargs, rfl, rfl, h0, r0⟩ := trodAll_cons hA
  obtain ⟨rfl, rfl, rfl⟩ := trodAll_nil r0
  obtain rfl : args = #[v0] := by cases args; simp_all
  obtain ⟨rfl, rfl⟩ := trodVars_none hV
  have k0 := h0
  have lt0 : ∀ x ∈ p0, x.block < W.heap.size := by obtain ⟨m, hm⟩ := k0; exact DataW.trod_lt m _ _ _ hm
  obtain ⟨a0, len0, cap0, rfl⟩ := okWide_slice Try.underlying22 (hval 0 22 v0 rfl rfl)
  clear hA0 hval0
  have hw0 : ∀ k ∈ d0.weights Try.prog 22, k ≤ reachBytes := fun k hk => by
    have := List.all_eq_true.1 hsz k (DataW.weights_mem_each (j := 0) (t := 22) (d := d0) rfl rfl k hk)
    simpa using this
  have hdeeds : len0 ≤ 9223372036854775807 ∧ DeedsAt W a0 len0 := by
    obtain ⟨fuel, hf⟩ := h0
    exact deeds_in (by simpa [Value.cells] using hf) hw0
  have hwalk : Calls Try.prog 3 #[.slice a0 len0 cap0] W fun e w' => e = .returned (.bool true) ∧ Below W.heap.size W w' := plays_walk a0 len0 cap0 W hdeeds.1 hdeeds.2
  refine hwalk.mono fun e W' ⟨he, bel⟩ => ?_
  subst he
  exact ⟨_, rfl, _, _, _, [], _, [], hW', trodAll_mk1 (shut_bool Try.underlying4 _), (trodAll_cons_mk (Below.trod laidOut (by kernel_rfl) (of_decide_eq_true (by kernel_rfl)) k0 bel lt0) trodAll_mk0), rfl, bel.frame _, fun h => by cases h⟩

theorem plays_holds : Rows.ExoipcPlaysSaid :=
  OpenClaim.holds_of_wide 3 Try.f3 rfl rfl rfl rfl rfl rfl rfl ⟨rfl, rfl, rfl, rfl, rfl⟩ rfl rfl rfl rfl rfl (by kernel_rfl) Try.func3 (by kernel_rfl)
    (of_decide_eq_true (by kernel_rfl)) (by unfold Func.isWrapper; first | (rw [if_pos (by decide +kernel)]; kernel_rfl) | (rw [if_neg (by decide +kernel)]; exact ⟨rfl, rfl⟩))
    (fun os started H enc _ => plays_lifted os started H enc)
#print axioms plays_holds
end Go.Proofs.Ytikeknehkoccpaa
