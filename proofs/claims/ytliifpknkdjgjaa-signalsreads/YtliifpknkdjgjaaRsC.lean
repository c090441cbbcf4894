/- The reference of package signals: Next, Enter, Leave, Gone, Clear. -/
import Derived.Test.YtliifpknkdjgjaaRsB
namespace Go.Proofs.Ytliifpknkdjgjaa
open Go.RowKit Go.Lib
set_option linter.unusedVariables false

theorem clr_at {p : Sg} {m : Nat} (hq : p.q < 65536) (hm : m < 15) : ∀ j, j < 15 → (clr p.q (m + 1)).testBit (j + 1) = if j = m then false else p.q.testBit (j + 1) := fun j hj => by
  rw [clr_bit hq (by omega)]
  by_cases e : j = m
  · rw [if_pos (by omega), if_pos e]
  · rw [if_neg (by omega), if_neg e]
set_option maxRecDepth 100000 in
set_option maxHeartbeats 4000000 in
theorem xnext_at (b : Nat) (S : SS) (pid : Int) (w : World) (h : RgAt w b S) (hok : SOk S) :
    Calls Try.prog 31 #[.pointer (some ⟨b, 0, none⟩), .int .i64 pid] w fun e w' => e = .returned (.tuple #[.int .i64 (nxI S pid : Nat), .int .u64 (nxH S pid), .bool (nxB S pid)]) ∧ RgAt w' b (nxS S pid) ∧ Upd b w w' := by
  have hP := xPid_at pid w
  cases hp : isP pid with
  | false =>
    have HE : Hid (nxI S pid = 0) := by show _ = _; unfold nxI; rw [hp]; rfl
    have HS : Hid (nxS S pid = S) := by show _ = _; unfold nxS; rw [hp]; rfl
    have HH : Hid (RgAt w b S) := h
    rw [hp] at hP
    clear h hp
    go_enter Try.func31, Try.ntmps31
    go_wp2_with fail
    refine hP.mono ?_
    rintro e w1 ⟨rfl, hw⟩
    rw [hw]
    clear hw w1 hP
    go_wp2
    go_ret3
    refine ⟨?_, by rw [HS.out]; exact HH.out, Upd.refl _ _⟩
    unfold nxH nxB
    rw [HE.out]
    rfl
  | true =>
    obtain ⟨i, rfl, hi⟩ := isP_nat hp
    rw [hp] at hP
    have HI : Hid (nxI S ((i : Int) + 1) = (S i).nx.1) := by show _ = _; unfold nxI; rw [hp, if_pos rfl, show ((i : Int) + 1 - 1).toNat = i by omega]
    have HS : Hid (nxS S ((i : Int) + 1) = S.set i ((S i).q' (S i).nx.2)) := by show _ = _; unfold nxS; rw [hp, if_pos rfl, show ((i : Int) + 1 - 1).toNat = i by omega]
    have HH : Hid (nxH S ((i : Int) + 1) = if (S i).nx.1 = 0 then 0 else (S i).hd (S i).nx.1) := by show _ = _; unfold nxH nxI; rw [hp, if_pos rfl, show ((i : Int) + 1 - 1).toNat = i by omega]
    have HO : Hid (S i).Ok := hok i hi
    have hw1 := wr_pred i (by omega)
    have hii : (i : Int) < 8 := by omega
    obtain ⟨row, hB, hR⟩ := h
    have hRi := hR.at' i hi
    have c8 := (hB.cell (i * 33 + 15 + 8)).trans (hRi.pen 8 (by omega))
    have f8 := hB.free (i * 33 + 15 + 8)
    have HB : Hid (SB w b row → False) := fun h' => by
      unfold SB at h'
      unfold RB at hB
      rw [hB] at h'
      simp only [Option.some.injEq, Obj.cells.injEq] at h'
      exact absurd h'.2.1 (by decide)
    have HBr : Hid (RB w b row) := hB
    have HR : Hid (RgRow w row S) := hR
    cases h9 : (S i).q.testBit (8 + 1) with
    | true =>
      rw [h9] at c8
      have hnx : (S i).nx = (9, clr (S i).q 9) := by unfold Sg.nx; rw [h9, if_pos rfl]
      have HF : Hid (RgAt (w.setCell ⟨b, i * 33 + 15 + 8, none⟩ (.bool false)) b (nxS S ((i : Int) + 1)) ∧ Upd b w (w.setCell ⟨b, i * 33 + 15 + 8, none⟩ (.bool false))) := by
        have hu : Upd b w (w.setCell ⟨b, i * 33 + 15 + 8, none⟩ (.bool false)) := Upd.setCell _ _ _ _
        rw [HS.out, hnx]
        exact ⟨⟨_, hB.set _ _, hR.put (SameR.bit _ _ (by omega)) (hRi.bit false (by omega) (clr_at HO.out.pend.1 (by omega)) (hB.kw hu)) (hB.kw hu)⟩, hu⟩
      have HE : Hid (nxI S ((i : Int) + 1) = 9) := by show _ = _; rw [HI.out, hnx]
      have HX : Hid (nxH S ((i : Int) + 1) = 18446744073709551615) := by
        show _ = _
        rw [HH.out, hnx, if_neg (by omega)]
        show (S i).h.getD 8 0 = _
        rw [List.getD_eq_getElem?_getD, HO.out.nine]
        rfl
      clear hp hB hR hRi h9 hnx
      generalize (i : Int) + 1 = pd at *
      go_enter Try.func31, Try.ntmps31
      go_wp2_with fail
      refine hP.mono ?_
      rintro e w1 ⟨rfl, hw⟩
      rw [hw]
      clear hw w1 hP
      go_wp2
      go_ret3
      refine ⟨?_, HF.out.1, HF.out.2⟩
      unfold nxB
      rw [HE.out, HX.out]
      rfl
    | false =>
      rw [h9] at c8
      have h9' : (S i).q.testBit 9 = false := h9
      have c30 := (hB.cell (i * 33 + 30)).trans hRi.inh
      cases hk : (S i).k.isSome with
      | true =>
        rw [hk] at c30
        have hnx : (S i).nx = (0, (S i).q) := by unfold Sg.nx; rw [h9', if_neg (by simp), hk, if_pos rfl]
        have HE : Hid (nxI S ((i : Int) + 1) = 0) := by show _ = _; rw [HI.out, hnx]
        have HX : Hid (nxH S ((i : Int) + 1) = 0) := by show _ = _; rw [HH.out, hnx]; rfl
        have HS2 : Hid (nxS S ((i : Int) + 1) = S) := by
          show _ = _
          rw [HS.out, hnx]
          funext j
          by_cases e : j = i
          · rw [e, SS.set_same]; rfl
          · rw [SS.set_other _ _ _ _ e]
        clear hp hB hR hRi h9 h9' hnx hk
        generalize (i : Int) + 1 = pd at *
        go_enter Try.func31, Try.ntmps31
        go_wp2_with fail
        refine hP.mono ?_
        rintro e w1 ⟨rfl, hw⟩
        rw [hw]
        clear hw w1 hP
        go_wp2
        go_ret3
        refine ⟨?_, by rw [HS2.out]; exact ⟨row, HBr.out, HR.out⟩, Upd.refl _ _⟩
        unfold nxB
        rw [HE.out, HX.out]
        rfl
      | false =>
        rw [hk] at c30
        have HNx : Hid ((S i).nx = nxF (S i).h 15 1 (S i).q) := by show _ = _; unfold Sg.nx; rw [h9', if_neg (by simp), hk, if_neg (by simp)]
        clear hp hB hR hRi h9 h9' hk
        generalize (i : Int) + 1 = pd at *
        go_enter Try.func31, Try.ntmps31
        go_wp2_with fail
        refine hP.mono ?_
        rintro e w1 ⟨rfl, hw⟩
        rw [hw]
        clear hw w1 hP
        go_wp2
        clear c8 f8 c30
        go_loopw [8] (fun s wr => ∃ (k q : Nat) (row' : Array Value), k ≤ 15 ∧ s = .int .i64 k ∧ QOk q ∧ nxF (S i).h 15 1 (S i).q = nxF (S i).h (15 - k) (k + 1) q ∧ RB wr b row' ∧ RgR wr row' (i * 33) ((S i).q' q) ∧ SameR (i * 33) row row' ∧ Upd b w wr) (fun s _ => 15 - (intOf s).toNat)
        case atStart => exact ⟨0, (S i).q, row, by omega, rfl, HO.out.pend, rfl, HBr.out, HR.out.at' i hi, SameR.refl _ _, Upd.refl _ _⟩
        case round =>
          obtain ⟨k, q, row', hk, rfl, hq, hnx, hB, hRr, hSm, hU⟩ := hrel
          have HQ : Hid (QOk q) := hq
          have HB2 : Hid (RB wr b row') := hB
          have HR2 : Hid (RgR wr row' (i * 33) ((S i).q' q)) := hRr
          have HSm : Hid (SameR (i * 33) row row') := hSm
          have HU : Hid (Upd b w wr) := hU
          have HN : Hid (nxF (S i).h 15 1 (S i).q = nxF (S i).h (15 - k) (k + 1) q) := hnx
          by_cases hlt : k < 15
          · have i1 : decide ((k : Int) < 15) = true := decide_eq_true (by omega)
            have hki : (k : Int) < 15 := by omega
            have c0 := (hB.cell (i * 33 + 15 + k)).trans (hRr.pen k hlt)
            have f0 := hB.free (i * 33 + 15 + k)
            have h15 : 15 - k = (15 - (k + 1)) + 1 := by omega
            cases hb : q.testBit (k + 1) with
            | false =>
              rw [show ((S i).q' q).q = q from rfl, hb] at c0
              have HN2 : Hid (nxF (S i).h 15 1 (S i).q = nxF (S i).h (15 - (k + 1)) (k + 1 + 1) q) := by
                show _ = _
                rw [HN.out, h15]
                conv => lhs; unfold nxF
                rw [hb, if_neg (by simp)]
              clear hq hnx hB hRr hSm hU hb HN h15
              go_wp2
              go_roundw
              case rel => exact ⟨k + 1, q, row', by omega, by go_num, HQ.out, HN2.out, HB2.out, HR2.out, HSm.out, HU.out⟩
              case measure => simp [intOf]; omega
            | true =>
              rw [show ((S i).q' q).q = q from rfl, hb] at c0
              have hu : Upd b wr (wr.setCell ⟨b, i * 33 + 15 + k, none⟩ (.bool false)) := Upd.setCell _ _ _ _
              have hB3 := hB.set (i * 33 + 15 + k) (.bool false)
              have hR3 : RgR (wr.setCell ⟨b, i * 33 + 15 + k, none⟩ (.bool false)) (row'.setIfInBounds (i * 33 + 15 + k) (.bool false)) (i * 33) ((S i).q' (clr q (k + 1))) := by
                have := RgR.bit (p := (S i).q' q) hRr (q := clr q (k + 1)) false hlt (clr_at (p := (S i).q' q) hq.1 hlt) (hB.kw hu)
                exact this
              have HB3 : Hid (RB (wr.setCell ⟨b, i * 33 + 15 + k, none⟩ (.bool false)) b (row'.setIfInBounds (i * 33 + 15 + k) (.bool false))) := hB3
              have HR3 : Hid (RgR (wr.setCell ⟨b, i * 33 + 15 + k, none⟩ (.bool false)) (row'.setIfInBounds (i * 33 + 15 + k) (.bool false)) (i * 33) ((S i).q' (clr q (k + 1)))) := hR3
              have HS3 : Hid (SameR (i * 33) row (row'.setIfInBounds (i * 33 + 15 + k) (.bool false))) := hSm.trans (SameR.bit _ _ hlt)
              have HU3 : Hid (Upd b w (wr.setCell ⟨b, i * 33 + 15 + k, none⟩ (.bool false))) := hU.trans hu
              have d0 := (hB3.cell (i * 33 + k)).trans (hR3.hnd k hlt)
              rw [show ((S i).q' (clr q (k + 1))).h = (S i).h from rfl] at d0
              have d00 := (hB.cell (i * 33 + k)).trans (hRr.hnd k hlt)
              rw [show ((S i).q' q).h = (S i).h from rfl] at d00
              by_cases he : (S i).h.getD k 0 = ign
              · have g0 : ((S i).h.getD k 0 != 18446744073709551614) = false := by rw [he]; rfl
                have HN2 : Hid (nxF (S i).h 15 1 (S i).q = nxF (S i).h (15 - (k + 1)) (k + 1 + 1) (clr q (k + 1))) := by
                  show _ = _
                  rw [HN.out, h15]
                  conv => lhs; unfold nxF
                  rw [hb, if_pos rfl, show k + 1 - 1 = k by omega, if_pos he]
                have HQ3 : Hid (QOk (clr q (k + 1))) := hq.clr (by omega)
                generalize (S i).h.getD k 0 = hx at *
                clear hq hnx hB hRr hSm hU hb HN h15 hu hB3 hR3 he
                go_wp2
                go_roundw
                case rel => exact ⟨k + 1, _, _, by omega, by go_num, HQ3.out, HN2.out, HB3.out, HR3.out, HS3.out, HU3.out⟩
                case measure => simp [intOf]; omega
              · have g0 : ((S i).h.getD k 0 != 18446744073709551614) = true := bne_iff_ne.2 he
                have HN2 : Hid ((S i).nx = (k + 1, clr q (k + 1))) := by
                  show _ = _
                  rw [HNx.out, HN.out, h15]
                  unfold nxF
                  rw [hb, if_pos rfl, show k + 1 - 1 = k by omega, if_neg he]
                have HE : Hid (nxI S pd = k + 1) := by show _ = _; rw [HI.out, HN2.out]
                have HX : Hid (nxH S pd = (S i).h.getD k 0) := by
                  show _ = _
                  rw [HH.out, HN2.out, if_neg (by omega)]
                  show (S i).h.getD (k + 1 - 1) 0 = _
                  rw [show k + 1 - 1 = k by omega]
                have HF : Hid (RgAt (wr.setCell ⟨b, i * 33 + 15 + k, none⟩ (.bool false)) b (nxS S pd)) := by
                  rw [HS.out, HN2.out]
                  exact ⟨_, hB3, HR.out.put HS3.out hR3 (HBr.out.kw HU3.out)⟩
                have hw9 : IntKind.i64.wrap ((k : Int) + 1) = (k : Int) + 1 := by simp [IntKind.wrap, IntKind.bits, IntKind.signed]; omega
                generalize (S i).h.getD k 0 = hx at *
                clear hq hnx hB hRr hSm hU hb HN h15 hu hB3 hR3 he
                go_upto_region 15 with fail
                go_quiet (fail)
                go_wp2
                go_ret3
                refine ⟨?_, ?_, HU3.out.trans (upd_drewN _ _ _)⟩
                · unfold nxB
                  rw [HE.out, HX.out]
                  rfl
                · exact HF.out.below (drewN_below ⟨nq, rfl⟩)
          · obtain rfl : k = 15 := by omega
            have i1 : decide (((15 : Nat) : Int) < 15) = false := rfl
            have HN2 : Hid ((S i).nx = (0, q)) := by show _ = _; rw [HNx.out, HN.out]; rfl
            have HE : Hid (nxI S pd = 0) := by show _ = _; rw [HI.out, HN2.out]
            have HX : Hid (nxH S pd = 0) := by show _ = _; rw [HH.out, HN2.out]; rfl
            have HF : Hid (RgAt wr b (nxS S pd)) := by
              rw [HS.out, HN2.out]
              exact ⟨_, hB, HR.out.put hSm hRr (HBr.out.kw hU)⟩
            clear hq hnx hB hRr hSm hU HN
            go_wp2
            go_ret3
            refine ⟨?_, HF.out, HU.out⟩
            unfold nxB
            rw [HE.out, HX.out]
            rfl
/-- The machine of the process at o is this one (or it is in no handler). -/
theorem RgR.vm {w w' : World} {row row' : Array Value} {o : Nat} {p : Sg} {k : Option (Int × List Int)} (h : RgR w row o p) (hs : SameR o row row') (hk : ∀ j, j < 30 → row'[o + j]? = row[o + j]?)
    (h1 : row'[o + 30]? = some (.bool k.isSome)) (h2 : row'[o + 31]? = some (.int .i64 (k.getD (0, [])).1)) (a : Option Addr) (c : Nat) (h3 : row'[o + 32]? = some (.slice a (k.getD (0, [])).2.length c)) (h4 : (k.getD (0, [])).2.length ≤ c) (h5 : TRd w' a (k.getD (0, [])).2) : RgR w' row' o ⟨p.h, p.q, k⟩ := by
  refine ⟨by rw [hs.1]; exact h.size, fun j hj => ?_, fun j hj => ?_, h1, h2, a, c, h3, h4, h5⟩
  · rw [hk j (by omega)]; exact h.hnd j hj
  · rw [Nat.add_assoc, hk (15 + j) (by omega), ← Nat.add_assoc]; exact h.pen j hj
/-- A machine is laid into the process: three stores. -/
theorem RB.three {w : World} {b o : Nat} {row : Array Value} (h : RB w b row) (x y z : Value) : RB (((w.setCell ⟨b, o + 30, none⟩ x).setCell ⟨b, o + 31, none⟩ y).setCell ⟨b, o + 32, none⟩ z) b (((row.setIfInBounds (o + 30) x).setIfInBounds (o + 31) y).setIfInBounds (o + 32) z) := ((h.set _ _).set _ _).set _ _
theorem upd_threeR (b o : Nat) (w : World) (x y z : Value) : Upd b w (((w.setCell ⟨b, o + 30, none⟩ x).setCell ⟨b, o + 31, none⟩ y).setCell ⟨b, o + 32, none⟩ z) := ((Upd.setCell _ _ _ _).trans (Upd.setCell _ _ _ _)).trans (Upd.setCell _ _ _ _)
theorem same_threeR (o : Nat) (row : Array Value) (x y z : Value) : SameR o row (((row.setIfInBounds (o + 30) x).setIfInBounds (o + 31) y).setIfInBounds (o + 32) z) := ((SameR.set row _ (by omega)).trans (SameR.set _ _ (by omega))).trans (SameR.set _ _ (by omega))
theorem RgR.three {w w' : World} {row : Array Value} {o : Nat} {p : Sg} {k : Option (Int × List Int)} (h : RgR w row o p) (a : Option Addr) (c : Nat) (h4 : (k.getD (0, [])).2.length ≤ c) (h5 : TRd w' a (k.getD (0, [])).2) :
    RgR w' (((row.setIfInBounds (o + 30) (.bool k.isSome)).setIfInBounds (o + 31) (.int .i64 (k.getD (0, [])).1)).setIfInBounds (o + 32) (.slice a (k.getD (0, [])).2.length c)) o ⟨p.h, p.q, k⟩ := by
  have hs := h.size
  refine h.vm (same_threeR o row _ _ _) (fun j hj => ?_) ?_ ?_ a c ?_ h4 h5
  · rw [Array.getElem?_setIfInBounds, if_neg (by omega), Array.getElem?_setIfInBounds, if_neg (by omega), Array.getElem?_setIfInBounds, if_neg (by omega)]
  · rw [Array.getElem?_setIfInBounds, if_neg (by omega), Array.getElem?_setIfInBounds, if_neg (by omega), Array.getElem?_setIfInBounds, if_pos rfl, if_pos (by omega)]
  · rw [Array.getElem?_setIfInBounds, if_neg (by omega), Array.getElem?_setIfInBounds, if_pos rfl, if_pos (by rw [Array.size_setIfInBounds]; omega)]
  · rw [Array.getElem?_setIfInBounds, if_pos rfl, if_pos (by rw [Array.size_setIfInBounds, Array.size_setIfInBounds]; omega)]

set_option maxHeartbeats 2000000 in
theorem xenter_at (b : Nat) (S : SS) (pid pc : Int) (a : Option Addr) (n c : Nat) (st : List Int) (w : World) (h : RgAt w b S) (hr : Rd w a st) (hn : n = st.length) (hl : n ≤ 2000) :
    Calls Try.prog 32 #[.pointer (some ⟨b, 0, none⟩), .int .i64 pid, vmV pc a n c] w fun e w' => e = .returned (.int .i64 (enE S pid)) ∧ RgAt w' b (enS S pid pc st) ∧ Upd b w w' := by
  obtain ⟨W, hW⟩ : ∃ W, W = w.alloc (.cells #[.int .i64 pc, .slice a n c] 30) := ⟨_, rfl⟩
  have hb0 : Below w.heap.size w W := by rw [hW]; exact below_alloc _ _
  have HB0 : Hid (Below w.heap.size w W) := hb0
  have hA := h.below hb0
  obtain ⟨g, hg⟩ : ∃ g, g = w.heap.size := ⟨_, rfl⟩
  have H0 : Hid (W.heap[g]? = some (.cells #[.int .i64 pc, .slice a n c] 30 (0, 0))) := by rw [hW, hg]; exact heap_alloc_new _ _
  have HW : Hid _ := hW
  have HG : Hid (g = w.heap.size) := hg
  have hRW := hr.below hb0
  have HN : Hid (n = st.length) := hn
  clear hW hg hb0 h hr hn
  cases hp : isP pid with
  | false =>
    have hP := xPid_at pid W
    rw [hp] at hP
    have HE : Hid (enE S pid = 3) := by show _ = _; unfold enE; rw [hp]; rfl
    have HS : Hid (enS S pid pc st = S) := by show _ = _; unfold enS; rw [hp]; rfl
    have HH : Hid (RgAt W b S) := hA
    clear hA hp hRW
    go_enter Try.func32, Try.ntmps32
    go_wp2_with fail
    rw [← HW.out]
    refine hP.mono ?_
    rintro e w1 ⟨rfl, hw⟩
    rw [hw]
    clear hw w1 hP HW
    go_wp2
    go_ret
    exact ⟨by rw [HE.out]; rfl, by rw [HS.out]; exact HH.out, Upd.of_below HB0.out⟩
  | true =>
    obtain ⟨i, rfl, hi⟩ := isP_nat hp
    have hP := xPid_at ((i : Int) + 1) W
    rw [hp] at hP
    have hw1 := wr_pred i (by omega)
    have hii : (i : Int) < 8 := by omega
    obtain ⟨row, hB, hR⟩ := hA
    have hRi := hR.at' i hi
    have c16 := (hB.cell (i * 33 + 30)).trans hRi.inh
    cases hk : (S i).k.isSome with
    | true =>
      rw [hk] at c16
      have HE : Hid (enE S ((i : Int) + 1) = 22) := by show _ = _; unfold enE; rw [hp, if_pos rfl, show ((i : Int) + 1 - 1).toNat = i by omega, hk]; rfl
      have HS : Hid (enS S ((i : Int) + 1) pc st = S) := by show _ = _; unfold enS; rw [hp, show ((i : Int) + 1 - 1).toNat = i by omega, hk]; rfl
      have HH : Hid (RgAt W b S) := ⟨row, hB, hR⟩
      clear hB hR hRi hp hk hRW
      go_enter Try.func32, Try.ntmps32
      go_wp2_with fail
      rw [← HW.out]
      refine hP.mono ?_
      rintro e w1 ⟨rfl, hw⟩
      rw [hw]
      clear hw w1 hP HW
      go_wp2
      go_ret
      exact ⟨by rw [HE.out]; rfl, by rw [HS.out]; exact HH.out, Upd.of_below HB0.out⟩
    | false =>
      rw [hk] at c16
      have HE : Hid (enE S ((i : Int) + 1) = 0) := by show _ = _; unfold enE; rw [hp, if_pos rfl, show ((i : Int) + 1 - 1).toNat = i by omega, hk]; rfl
      have HS : Hid (enS S ((i : Int) + 1) pc st = S.set i ⟨(S i).h, (S i).q, some (pc, st)⟩) := by show _ = _; unfold enS; rw [hp, show ((i : Int) + 1 - 1).toNat = i by omega, hk]; rfl
      have hC := xcopy_at pc a n c st W hRW HN.out hl
      have HB : Hid (RB W b row) := hB
      have HR : Hid (RgRow W row S) := hR
      have HGb : Hid (g ≠ b) := by
        show g ≠ b
        intro e
        have h0 := H0.out
        unfold RB at hB
        rw [e, hB] at h0
        simp only [Option.some.injEq, Obj.cells.injEq] at h0
        exact absurd h0.2.1 (by decide)
      have k0 := H0.out
      have z0 : W.cell? ⟨g, 0, none⟩ = some (.int .i64 pc) := by rw [cell_of_heap k0]; rfl
      have z1 : W.cell? ⟨g, 1, none⟩ = some (.slice a n c) := by rw [cell_of_heap k0]; rfl
      clear hB hR hRi hp hk hRW k0
      go_enter Try.func32, Try.ntmps32
      go_wp2_with fail
      rw [← HW.out, ← HG.out]
      refine hP.mono ?_
      rintro e w1 ⟨rfl, hw⟩
      rw [hw]
      clear hw w1 hP HW
      go_wp2_with fail
      refine hC.mono ?_
      rintro e w1 ⟨a', c', rfl, hc', hT, hb1⟩
      have hB1 := HB.out.below hb1
      have c1 := hB1.cell (i * 33 + 30)
      rw [(HR.out.at' i hi).inh] at c1
      obtain ⟨a0, c0, e18, -, -⟩ := (HR.out.at' i hi).stk
      have c2 := (hB1.cell (i * 33 + 31)).trans (HR.out.at' i hi).pc
      have c3 := (hB1.cell (i * 33 + 32)).trans e18
      have f1 := hB1.free (i * 33 + 30)
      have f2 := hB1.free (i * 33 + 31)
      have f3 := hB1.free (i * 33 + 32)
      have HB1 : Hid (RB w1 b row) := hB1
      have HT : Hid (TRd w1 a' st) := hT
      have HCc : Hid (n ≤ c') := hc'
      have HBl : Hid (Below w.heap.size w w1) := HB0.out.trans (hb1.mono HB0.out.size)
      have HKw : Hid (KeepW W w1) := KeepW.below hb1
      generalize (S i).k.isSome = kb at *
      generalize (S i).pc = kpc at *
      generalize (S i).st.length = kl at *
      clear hB1 hT hb1 hC e18 hc' c16 z0 z1
      go_wp2
      go_ret
      have hu := upd_threeR b (i * 33) w1 (.bool true) (.int .i64 pc) (.slice a' n c')
      refine ⟨by rw [HE.out]; rfl, ?_, (Upd.of_below HBl.out).trans hu⟩
      rw [HS.out]
      refine ⟨_, HB1.out.three _ _ _, HR.out.put (p := ⟨(S i).h, (S i).q, some (pc, st)⟩) (same_threeR _ row (.bool true) (.int .i64 pc) (.slice a' n c')) ?_ (HKw.out.trans (HB1.out.kw hu))⟩
      have h3 := (HR.out.at' i hi).three (w' := ((w1.setCell ⟨b, i * 33 + 30, none⟩ (.bool true)).setCell ⟨b, i * 33 + 31, none⟩ (.int .i64 pc)).setCell ⟨b, i * 33 + 32, none⟩ (.slice a' n c')) (k := some (pc, st)) a' c' (by rw [HN.out] at HCc; exact HCc.out) (HT.out.kept (HB1.out.kw hu))
      rw [HN.out]
      rw [HN.out] at h3
      exact h3
set_option maxHeartbeats 2000000 in
theorem xleave_at (b : Nat) (S : SS) (pid : Int) (w : World) (h : RgAt w b S) :
    Calls Try.prog 33 #[.pointer (some ⟨b, 0, none⟩), .int .i64 pid] w fun e w' => ∃ a c, e = .returned (.tuple #[vmV (lePc S pid) a (leSt S pid).length c, .int .i64 (leE S pid)]) ∧ (leSt S pid).length ≤ c ∧ TRd w' a (leSt S pid) ∧ RgAt w' b (leS S pid) ∧ Upd b w w' := by
  obtain ⟨W, hW⟩ : ∃ W, W = w.alloc (.cells #[.int .i64 0, .slice none 0 0] 30) := ⟨_, rfl⟩
  obtain ⟨g, hg⟩ : ∃ g, g = w.heap.size := ⟨_, rfl⟩
  have hb : Below w.heap.size w W := by rw [hW]; exact below_alloc _ _
  have h0 : W.heap[g]? = some (.cells #[.int .i64 0, .slice none 0 0] 30 (0, 0)) := by rw [hW, hg]; exact heap_alloc_new _ _
  have z0 : W.cell? ⟨g, 0, none⟩ = some (.int .i64 0) := by rw [cell_of_heap h0]; rfl
  have z1 : W.cell? ⟨g, 1, none⟩ = some (.slice none 0 0) := by rw [cell_of_heap h0]; rfl
  have f0 : W.frozen? ⟨g, 0, none⟩ = false := frozen_of_heap h0
  have f1 : W.frozen? ⟨g, 1, none⟩ = false := frozen_of_heap h0
  have hsz : W.heap.size = g + 1 := by rw [hW, hg]; simp
  have HB : Hid (Below w.heap.size w W) := hb
  have H0 : Hid _ := h0
  have HW : Hid _ := hW
  have HG : Hid (g = w.heap.size) := hg
  have hA := h.below hb
  have hgb : g ≠ b := by have := h.lt; omega
  clear hW hg hb h0 h
  have fin : ∀ (a : Option Addr) (W2 : World) (k c : Nat) (x er : Int) (tm : Array Value), tm.getD 4 undef = .pointer (some ⟨g, 0, none⟩) → tm.getD 5 undef = .int .i64 er → W2.heap[g]? = some (.cells #[.int .i64 x, .slice a k c] 30 (0, 0)) →
      (results Try.f33 tm).run Try.prog W2 = .ok (.tuple #[vmV x a k c, .int .i64 er]) W2 := by
    intro a W2 k c x er tm h1 h2 h3
    rw [results_cell_tmp rfl, h1, h2]
    simp only [asAddr, Sem.run_pure, Result.andThen_ok]
    rw [run_loadVar_row _ g _ _ _ (0, 0) _ h3 Try.underlying30 rfl vmSize]
    rfl
  have HFin : Hid _ := fin
  clear fin
  cases hp : isP pid with
  | false =>
    have hP := xPid_at pid W
    rw [hp] at hP
    have HE : Hid (leE S pid = 3) := by show _ = _; unfold leE; rw [hp]; rfl
    have HPc : Hid (lePc S pid = 0) := by show _ = _; unfold lePc; rw [hp]; rfl
    have HSt : Hid (leSt S pid = []) := by show _ = _; unfold leSt; rw [hp]; rfl
    have HS : Hid (leS S pid = S) := by show _ = _; unfold leS; rw [hp]; rfl
    have HH : Hid (RgAt W b S) := hA
    clear hA hp
    go_enter Try.func33, Try.ntmps33
    go_wp2_with fail
    rw [← HW.out, ← HG.out]
    refine hP.mono ?_
    rintro e w1 ⟨rfl, hw⟩
    rw [hw]
    clear hw w1 hP HW
    go_wp2
    have k1 := heap_set H0.out 0 (.int .i64 0)
    have k2 := heap_set k1 1 (.slice none 0 0)
    have hk := (kw_set H0.out (by decide) 0 (.int .i64 0)).trans (kw_set k1 (by decide) 1 (.slice none 0 0))
    refine bodyPost_ret (v := .tuple #[vmV 0 none 0 0, .int .i64 3]) (HFin.out none _ 0 0 0 3 _ rfl rfl k2) rfl ⟨none, 0, ?_, ?_, ?_, ?_, ?_⟩
    · rw [HPc.out, HSt.out, HE.out]; rfl
    · rw [HSt.out]; exact Nat.le_refl _
    · rw [HSt.out]; exact TRd.nil _ _
    · rw [HS.out]
      exact HH.out.keep ((Below.heap_setCell _ _ _ _ (by show b ≠ g; omega)).trans (Below.heap_setCell _ _ _ _ (by show b ≠ g; omega))) hk
    · exact Upd.of_below (HB.out.trans (((Upd.setCell g 0 W _).trans (Upd.setCell g 1 _ _)).below (by have := HG.out; omega) HB.out.size))
  | true =>
    obtain ⟨i, rfl, hi⟩ := isP_nat hp
    have hP := xPid_at ((i : Int) + 1) W
    rw [hp] at hP
    have hw1 := wr_pred i (by omega)
    have hii : (i : Int) < 8 := by omega
    obtain ⟨row, hB, hR⟩ := hA
    have hRi := hR.at' i hi
    have c16 := (hB.cell (i * 33 + 30)).trans hRi.inh
    have HPc : Hid (lePc S ((i : Int) + 1) = (S i).pc) := by show _ = _; unfold lePc; rw [hp, if_pos rfl, show ((i : Int) + 1 - 1).toNat = i by omega]
    have HSt : Hid (leSt S ((i : Int) + 1) = (S i).st) := by show _ = _; unfold leSt; rw [hp, if_pos rfl, show ((i : Int) + 1 - 1).toNat = i by omega]
    have HS : Hid (leS S ((i : Int) + 1) = S.set i ⟨(S i).h, (S i).q, none⟩) := by show _ = _; unfold leS; rw [hp, if_pos rfl, show ((i : Int) + 1 - 1).toNat = i by omega]
    cases hk : (S i).k with
    | none =>
      have hkb : (S i).k.isSome = false := by rw [hk]; rfl
      rw [hkb] at c16
      have HE : Hid (leE S ((i : Int) + 1) = 22) := by show _ = _; unfold leE; rw [hp, if_pos rfl, show ((i : Int) + 1 - 1).toNat = i by omega, hkb]; rfl
      have HX : Hid ((S i).pc = 0 ∧ (S i).st = []) := by show _ ∧ _; unfold Sg.pc Sg.st; rw [hk]; exact ⟨rfl, rfl⟩
      have HS2 : Hid (S.set i ⟨(S i).h, (S i).q, none⟩ = S) := by
        show _ = _
        funext j
        by_cases e : j = i
        · rw [e, SS.set_same, ← hk]
        · rw [SS.set_other _ _ _ _ e]
      have HH : Hid (RgAt W b S) := ⟨row, hB, hR⟩
      clear hB hR hRi hp hk hkb
      go_enter Try.func33, Try.ntmps33
      go_wp2_with fail
      rw [← HW.out, ← HG.out]
      refine hP.mono ?_
      rintro e w1 ⟨rfl, hw⟩
      rw [hw]
      clear hw w1 hP HW
      go_wp2
      have k1 := heap_set H0.out 0 (.int .i64 0)
      have k2 := heap_set k1 1 (.slice none 0 0)
      have hk := (kw_set H0.out (by decide) 0 (.int .i64 0)).trans (kw_set k1 (by decide) 1 (.slice none 0 0))
      refine bodyPost_ret (v := .tuple #[vmV 0 none 0 0, .int .i64 22]) (HFin.out none _ 0 0 0 22 _ rfl rfl k2) rfl ⟨none, 0, ?_, ?_, ?_, ?_, ?_⟩
      · rw [HPc.out, HSt.out, HE.out, HX.out.1, HX.out.2]; rfl
      · rw [HSt.out, HX.out.2]; exact Nat.le_refl _
      · rw [HSt.out, HX.out.2]; exact TRd.nil _ _
      · rw [HS.out, HS2.out]
        exact HH.out.keep ((Below.heap_setCell _ _ _ _ (by show b ≠ g; omega)).trans (Below.heap_setCell _ _ _ _ (by show b ≠ g; omega))) hk
      · exact Upd.of_below (HB.out.trans (((Upd.setCell g 0 W _).trans (Upd.setCell g 1 _ _)).below (by have := HG.out; omega) HB.out.size))
    | some z =>
      have hkb : (S i).k.isSome = true := by rw [hk]; rfl
      rw [hkb] at c16
      have HE : Hid (leE S ((i : Int) + 1) = 0) := by show _ = _; unfold leE; rw [hp, if_pos rfl, show ((i : Int) + 1 - 1).toNat = i by omega, hkb]; rfl
      obtain ⟨a, c, e18, hcc, hT⟩ := hRi.stk
      have c17 := (hB.cell (i * 33 + 31)).trans hRi.pc
      have c18 := (hB.cell (i * 33 + 32)).trans e18
      have f16 := hB.free (i * 33 + 30)
      have f17 := hB.free (i * 33 + 31)
      have f18 := hB.free (i * 33 + 32)
      have HBw : Hid (RB W b row) := hB
      have HR : Hid (RgRow W row S) := hR
      have HT : Hid (TRd W a (S i).st) := hT
      have HCc : Hid ((S i).st.length ≤ c) := hcc
      generalize (S i).pc = kpc at *
      generalize hkl : (S i).st.length = kl at *
      have HKl : Hid ((S i).st.length = kl) := hkl
      have hbl : b < g + 1 := by have := hB.lt; omega
      have hbl2 : b < W.heap.size := hB.lt
      obtain ⟨V, hV⟩ : ∃ V, V = W.alloc (.cells #[.int .i64 kpc, .slice a kl c] 30) := ⟨_, rfl⟩
      have hbV : Below W.heap.size W V := by rw [hV]; exact below_alloc _ _
      have hBV := hB.below hbV
      have y16 := (hBV.cell (i * 33 + 30)).trans hRi.inh
      rw [hkb] at y16
      have y17 := (hBV.cell (i * 33 + 31)).trans ((hB.cell (i * 33 + 31)).symm.trans c17)
      have y18 := (hBV.cell (i * 33 + 32)).trans ((hB.cell (i * 33 + 32)).symm.trans c18)
      have x16 := hBV.free (i * 33 + 30)
      have x17 := hBV.free (i * 33 + 31)
      have x18 := hBV.free (i * 33 + 32)
      have k0 : V.heap[g]? = _ := (hbV.block g (by omega)).trans H0.out
      have k1 : V.heap[g + 1]? = some (.cells #[.int .i64 kpc, .slice a kl c] 30 (0, 0)) := by rw [hV, ← hsz]; exact heap_alloc_new _ _
      have v0 : V.cell? ⟨g, 0, none⟩ = some (.int .i64 0) := by rw [cell_of_heap k0]; rfl
      have v1 : V.cell? ⟨g, 1, none⟩ = some (.slice none 0 0) := by rw [cell_of_heap k0]; rfl
      have p0 : V.frozen? ⟨g, 0, none⟩ = false := frozen_of_heap k0
      have p1 : V.frozen? ⟨g, 1, none⟩ = false := frozen_of_heap k0
      have r0 : V.cell? ⟨g + 1, 0, none⟩ = some (.int .i64 kpc) := by rw [cell_of_heap k1]; rfl
      have r1 : V.cell? ⟨g + 1, 1, none⟩ = some (.slice a kl c) := by rw [cell_of_heap k1]; rfl
      have HK0 : Hid (V.heap[g]? = some (.cells #[.int .i64 0, .slice none 0 0] 30 (0, 0))) := k0
      have HBV : Hid (RB V b row) := hBV
      have HbV : Hid (Below W.heap.size W V) := hbV
      have HV : Hid _ := hV
      clear hB hR hRi hp hk hkb hT e18 hkl hcc hV hBV hbV k0 k1
      go_enter Try.func33, Try.ntmps33
      go_wp2_with fail
      rw [← HW.out, ← HG.out]
      refine hP.mono ?_
      rintro e w1 ⟨rfl, hw⟩
      rw [hw]
      clear hw w1 hP HW
      go_upto_region 7 with fail
      rw [← HV.out]
      clear z0 z1 f0 f1 c16 c17 c18 f16 f17 f18 HV
      go_wp2
      have hu := upd_threeR b (i * 33) V (.bool false) (.int .i64 0) (.slice none 0 0)
      have hB3 := HBV.out.three (o := i * 33) (.bool false) (.int .i64 0) (.slice none 0 0)
      have hK3 := HBV.out.kw hu
      obtain ⟨V3, hV3⟩ : ∃ V3, V3 = ((V.setCell ⟨b, i * 33 + 30, none⟩ (.bool false)).setCell ⟨b, i * 33 + 31, none⟩ (.int .i64 0)).setCell ⟨b, i * 33 + 32, none⟩ (.slice none 0 0) := ⟨_, rfl⟩
      rw [← hV3] at hu hB3 hK3
      have k0 : V3.heap[g]? = _ := (hu.block g (lt_of_heap HK0.out) hgb).trans HK0.out
      have k1 := heap_set k0 0 (.int .i64 kpc)
      have k2 := heap_set k1 1 (.slice a kl c)
      have hk := (kw_set k0 (by decide) 0 (.int .i64 kpc)).trans (kw_set k1 (by decide) 1 (.slice a kl c))
      have hall : KeepW W ((V3.setCell ⟨g, 0, none⟩ (.int .i64 kpc)).setCell ⟨g, 1, none⟩ (.slice a kl c)) := ((KeepW.below HbV.out).trans hK3).trans hk
      rw [Nat.add_assoc]
      show bodyPost Try.prog _ _ _ _ (((((V.setCell ⟨b, i * 33 + 30, none⟩ (.bool false)).setCell ⟨b, i * 33 + 31, none⟩ (.int .i64 0)).setCell ⟨b, i * 33 + 32, none⟩ (.slice none 0 0)).setCell ⟨g, 0, none⟩ (.int .i64 kpc)).setCell ⟨g, 1, none⟩ (.slice a kl c))
      rw [← hV3]
      refine bodyPost_ret (v := .tuple #[vmV kpc a kl c, .int .i64 0]) (HFin.out a _ kl c kpc 0 _ rfl rfl k2) rfl ⟨a, c, ?_, ?_, ?_, ?_, ?_⟩
      · rw [HPc.out, HSt.out, HE.out, HKl.out]
      · rw [HSt.out, HKl.out]; exact HCc.out
      · rw [HSt.out]; exact HT.out.kept hall
      · rw [HS.out]
        refine ⟨_, hB3.keep ((Below.heap_setCell _ _ _ _ (by show b ≠ g; omega)).trans (Below.heap_setCell _ _ _ _ (by show b ≠ g; omega))), HR.out.put (p := ⟨(S i).h, (S i).q, none⟩) (same_threeR _ row _ _ _) ?_ hall⟩
        exact (HR.out.at' i hi).three (k := none) none 0 (Nat.le_refl _) (TRd.nil _ _)
      · have hX : Upd b w V3 := (Upd.of_below (HB.out.trans (HbV.out.mono HB.out.size))).trans hu
        exact hX.then_below (((Upd.setCell g 0 V3 (.int .i64 kpc)).trans (Upd.setCell g 1 _ (.slice a kl c))).below (B := w.heap.size) (by have := HG.out; omega) hX.size)
end Go.Proofs.Ytliifpknkdjgjaa
