/- januslaw21.ProcsPlays: the walk. (Written by Plays21.py.) -/
import Derived.Test.YtfcpcncafopobaaRqB
import Derived.Test.YtfcpcncafopobaaRqC
import Derived.Test.YtfcpcncafopobaaRqD
import Derived.Deep.DeepCutAuto
import Derived.Deep.CutBlock
import Derived.BigQuiet
namespace Go.Proofs.Ytfcpcncafopobaa
open Go.ChangeShapes Go.WideShapes Go.ChangeAt Go.RowKit Go.Lib
set_option linter.unusedVariables false

theorem PrAt.other {w w' : World} {B b c : Nat} {S : St} {T : TS} (h : PrAt w B b S) (hr : RT w c T) (hu : Upd c w w') : PrAt w' B b S := by
  obtain ⟨mo, f, h⟩ := h
  have hn : ¬ PB w c := not_pb hr (by decide) (by decide)
  exact ⟨mo, f, h.upd hu (fun e => hn (by rw [e]; exact h.pbb)) (fun m e e2 => hn (by rw [e2]; exact h.pbm m e)) (fun k p hk e => hn (by rw [e]; exact h.pbc hk))⟩
theorem PrAt.lower {w : World} {B B' b : Nat} {S : St} (h : PrAt w B' b S) (hB : B ≤ B') : PrAt w B b S := by
  obtain ⟨mo, f, h⟩ := h
  exact ⟨mo, f, h.head, h.map, h.pr, h.inj, h.dom, Nat.le_trans hB h.bB, fun m e => Nat.le_trans hB (h.mB m e), fun k p hk => Nat.le_trans hB (h.cB k p hk)⟩
theorem RT.tch {w w' : World} {B c : Nat} {T : TS} (h : RT w c T) (ht : Tch B w w') : RT w' c T := ht.other h (by decide) (by decide)
/-- Both machines hold S. -/
structure Duo (w : World) (B b c : Nat) (S : St) : Prop where
  pr : PrAt w B b S
  rt : RT w c (trS S)
  inv : Inv S
  cB : B ≤ c
theorem Duo.below {w w' : World} {B b c : Nat} {S : St} (h : Duo w B b c S) (hb : Below w.heap.size w w') : Duo w' B b c S := ⟨h.pr.below hb, h.rt.below hb, h.inv, h.cB⟩
theorem Duo.step {w w1 w2 : World} {B b c : Nat} {S S1 : St} (h : Duo w B b c S) (hp : PrAt w1 B b S1) (ht : Tch B w w1) (hr : RT w2 c (trS S1)) (hu : Upd c w1 w2) (hi : Inv S1) : Duo w2 B b c S1 := ⟨hp.other (h.rt.tch ht) hu, hr, hi, h.cB⟩
theorem below_tch {B : Nat} {w w1 w2 : World} (h : Below B w w1) (ht : Tch B w1 w2) (hB : B ≤ w1.heap.size) : Below B w w2 := h.trans (ht.below hB)
theorem below_updc {B c : Nat} {w w1 w2 : World} (h : Below B w w1) (hu : Upd c w1 w2) (hc : B ≤ c) (hB : B ≤ w1.heap.size) : Below B w w2 := h.trans (hu.below hc hB)
theorem enc_words (S : St) : Words (encW S) := by
  have key : ∀ k, Words (encK S k) := by
    intro k
    induction k with
    | zero => intro x hx; simp [encK] at hx
    | succ k ih =>
      intro x hx
      simp only [encK, List.mem_append] at hx
      rcases hx with hx | hx
      · exact ih x hx
      · unfold encP at hx
        split at hx
        · simp at hx; omega
        · rename_i p _
          simp only [List.mem_cons, List.not_mem_nil, or_false] at hx
          rcases hx with rfl | rfl | rfl
          · split <;> omega
          · simp [IntKind.wrap, IntKind.bits, IntKind.signed]; omega
          · simp [IntKind.wrap, IntKind.bits, IntKind.signed]; omega
  exact key 8
theorem pick_ok (S : St) (w : World) {B b : Nat} (hp : PrAt w B b S) (hi : Inv S) (a : Option Addr) (n cap : Nat) (hr : Rd w a (encW S)) (hn : n = (encW S).length) (hc : n ≤ cap) :
    Calls Try.prog 17 #[.slice a n cap] w fun e w' => e = .returned (.tuple #[ptr w.heap.size, .int .i64 0]) ∧ PrAt w' w.heap.size w.heap.size S ∧ Below w.heap.size w w' := by
  refine (decode_at a n cap (encW S) w hr hn hc (enc_words S) (by rw [hn]; have := encK_len S 8; unfold encW; omega)).mono ?_
  rintro e w' ⟨h, hb⟩
  rcases h with ⟨_, h1, h2⟩ | ⟨h0, _⟩
  · rw [dec_enc hi] at h2
    exact ⟨h1, h2, hb⟩
  · rw [hi.ok] at h0
    cases h0
theorem lit24 : (#[.int .i64 0, .int .i64 0, .int .i64 0, .int .i64 0, .int .i64 0, .int .i64 0, .int .i64 0, .int .i64 0, .int .i64 0, .int .i64 0, .int .i64 0, .int .i64 0, .int .i64 0, .int .i64 0, .int .i64 0, .int .i64 0, .int .i64 0, .int .i64 0, .int .i64 0, .int .i64 0, .int .i64 0, .int .i64 0, .int .i64 0, .int .i64 0] : Array Value) = irow (rqL (trS St0)) := by kernel_rfl
theorem zero_row : Try.prog.built 30 [] = some (irow (rqL (trS St0))) := by kernel_rfl
theorem build_ref (W : World) : (Instr.build 30 #[]).run Try.prog W = .ok (.agg (irow (rqL (trS St0)))) W := run_build W _ _ _ zero_row
set_option maxRecDepth 100000 in
theorem rbegin_at (c : Nat) (w : World) (h : RT w c (trS St0)) :
    Calls Try.prog 10 #[ptr c] w fun e w' => e = .returned (.int .i64 1) ∧ RT w' c (trS (beS St0)) ∧ Upd c w w' := by
  have hlo : w.rangeAt c 0 (ivs (rqL (trS St0))) := fun j v hv => by
    rw [cell_of_heap h, Nat.zero_add]
    simpa [irow, ivs] using hv
  have hne : ∀ W, (binOp .neq 28 (.agg (ivs (rqL (trS St0))).toArray) (.agg #[.int .i64 0, .int .i64 0, .int .i64 0, .int .i64 0, .int .i64 0, .int .i64 0, .int .i64 0, .int .i64 0, .int .i64 0, .int .i64 0, .int .i64 0, .int .i64 0, .int .i64 0, .int .i64 0, .int .i64 0, .int .i64 0, .int .i64 0, .int .i64 0, .int .i64 0, .int .i64 0, .int .i64 0, .int .i64 0, .int .i64 0, .int .i64 0])).run Try.prog W = .ok (.bool false) W := fun W => by kernel_rfl
  have c0 : w.cell? ⟨c, 0, none⟩ = some (.int .i64 0) := by rw [cell_of_heap h]; kernel_rfl
  have f0 := h.free 0
  have HE : Hid (RT (w.setCell ⟨c, 0, none⟩ (.int .i64 1)) c (trS (beS St0))) := by
    have h1 := h.set0 (i := 0) 1
    have e : (trS St0).set 0 ⟨1, (trS St0 0).par, (trS St0 0).st⟩ = trS (beS St0) := by
      rw [show (⟨1, (trS St0 0).par, (trS St0 0).st⟩ : Tr) = trO (some ⟨0, false, 0⟩) from rfl, tr_set]
      rfl
    rw [e] at h1
    exact h1
  have HL : Hid (w.rangeAt c 0 (ivs (rqL (trS St0)))) := hlo
  generalize hiv : ivs (rqL (trS St0)) = V at *
  have hsz : (Try.prog.info? 28).map (·.size) = some V.length := by rw [← hiv]; kernel_rfl
  clear h hlo hiv
  go_enter Try.func10, Try.ntmps10
  go_wp2_with (first | (refine wpList_load_mid rfl 28 _ rfl c 0 rfl V _ HL.out Try.underlying28 rfl hsz ?_) | go_in)
  go_ret
  exact ⟨rfl, HE.out, Upd.setCell _ _ _ _⟩

set_option maxRecDepth 100000 in
set_option maxHeartbeats 16000000 in
theorem plays_walk (bg : Bool) (a0' : Option Addr) (len cap : Nat) (w : World) (hlen : len ≤ 9223372036854775807) (hdeeds : Hid (DeedsIn w a0' len)) :
    Calls Try.prog 3 #[.bool bg, .slice a0' len cap] w fun e w' => e = .returned (.bool true) ∧ Below w.heap.size w w' := by
  have hN := new_at w
  obtain ⟨B, hB⟩ : ∃ B, B = w.heap.size := ⟨_, rfl⟩
  rw [← hB] at hN
  have hq := eq_procs B
  have HBs : Hid (B = w.heap.size) := hB
  clear hB
  go_enter Try.func3, Try.ntmps3
  go_wp2_with fail
  refine hN.mono ?_
  rintro e w1 ⟨rfl, hA1, hB1⟩
  obtain ⟨W0, hW0⟩ : ∃ W, W = w1.alloc (.cells (irow (rqL (trS St0))) 30) := ⟨_, rfl⟩
  obtain ⟨c, hc⟩ : ∃ c, c = w1.heap.size := ⟨_, rfl⟩
  have hb0 : Below w1.heap.size w1 W0 := by rw [hW0]; exact below_alloc _ _
  have HD0 : Hid (Duo W0 B B c St0) := by
    refine ⟨hA1.below hb0, ?_, inv_0, ?_⟩
    · unfold RT
      rw [hW0, hc]
      exact heap_alloc_new _ _
    · have := hB1.size; have := HBs.out; omega
  have HB0 : Hid (Below B w W0) := hB1.trans (hb0.mono (by have := hB1.size; have := HBs.out; omega))
  have HW0 : Hid _ := hW0
  have HCc : Hid _ := hc
  clear hN hA1 hB1 hb0 hW0 hc
  go_upto_region 4 with fail
  rw [lit24, ← HW0.out, ← HCc.out]
  generalize irow (rqL (trS St0)) = R
  clear HW0 HCc
  -- begun, or not
  have hst : ∃ S1 : St, Inv S1 ∧ (bg = true → S1 = beS St0) ∧ (bg = false → S1 = St0) := by
    cases bg with
    | true => exact ⟨_, inv_0.begin, fun _ => rfl, fun h => by cases h⟩
    | false => exact ⟨_, inv_0, fun h => (by cases h), fun _ => rfl⟩
  obtain ⟨S1, hI1, hS1, hS0⟩ := hst
  go_cut [36] (fun t wc => t = .bool false ∧ Duo wc B B c S1 ∧ Below B w wc)
  case first => as_aux_lemma =>
    cases bg with
    | false =>
      have e := hS0 rfl
      subst e
      go_wp2_with fail
      go_meet
      case rel => exact ⟨rfl, HD0.out, HB0.out⟩
    | true =>
      have e := hS1 rfl
      subst e
      have hop := begin_at B B St0 W0 HD0.out.pr
      rw [aw_0] at hop
      go_wp2_with fail
      refine hop.mono ?_
      rintro e w1 ⟨rfl, hp1, ht1⟩
      have HP1 : Hid (PrAt w1 B B (beS St0)) := hp1
      have HT1 : Hid (Tch B W0 w1) := ht1
      have hr := rbegin_at c w1 (HD0.out.rt.tch ht1)
      have HB1 : Hid (Below B w w1) := below_tch HB0.out ht1 HD0.out.pr.low
      clear hp1 ht1 hop
      go_wp2_with fail
      refine hr.mono ?_
      rintro e w2 ⟨rfl, hr2, hu2⟩
      have HD2 : Hid (Duo w2 B B c (beS St0)) := HD0.out.step HP1.out HT1.out hr2 hu2 inv_0.begin
      have HB2 : Hid (Below B w w2) := below_updc HB1.out hu2 HD0.out.cB HP1.out.low
      clear hr hr2 hu2
      go_wp2_with fail
      go_meet
      case rel => exact ⟨rfl, HD2.out, HB2.out⟩
  case rest => as_aux_lemma =>
    obtain ⟨rfl, hD, hB⟩ := hcut
    have HDs : Hid (Duo wc B B c S1) := hD
    have HBs1 : Hid (Below B w wc) := hB
    clear hD hB hS1 hS0 hI1 HD0 HB0
    go_wp2
    clear hq
    go_loopw [5, 7] (fun p s wr => ∃ (k b : Nat) (S : St), k ≤ len ∧ k ≤ 200 ∧ ptr b = p ∧ s = .int .i64 k ∧ Duo wr B b c S ∧ Below B w wr) (fun _ s _ => 200 - (intOf s).toNat)
    case atStart => exact ⟨0, B, _, by omega, by omega, rfl, rfl, HDs.out, HBs1.out⟩
    case round =>
      clear HDs HBs1
      obtain ⟨k, b, S, hk, hk2, rfl, rfl, hD, hB⟩ := hrel
      have hn1 := eq_procs b
      by_cases hlt : k < len ∧ k < 200
      · obtain ⟨l1, l2⟩ := hlt
        obtain ⟨gb, off, ⟨dk, dp, dn⟩, rfl, hdn, d0, d1, d2⟩ := hdeeds.out k l1
        have hBw : Below w.heap.size w wr := by rw [← HBs.out]; exact hB
        have e0 := (hBw.cell (cell_lt d0)).trans d0
        have e1 := (hBw.cell (cell_lt d1)).trans d1
        have e2 := (hBw.cell (cell_lt d2)).trans d2
        dsimp only at e0 e1 e2
        have g0 : decide ((k : Int) < (len : Int)) = true := decide_eq_true (by omega)
        have g1 : decide ((k : Int) < 200) = true := decide_eq_true (by omega)
        have ik : (k : Int) < (len : Int) := by omega
        obtain ⟨W, hW⟩ : ∃ W, W = wr.alloc (.cells #[.int .i64 dk, .int .i64 dp, .int .i64 dn] 33) := ⟨_, rfl⟩
        have hbW : Below wr.heap.size wr W := by rw [hW]; exact below_alloc _ _
        obtain ⟨D, hDn⟩ : ∃ D, D = wr.heap.size := ⟨_, rfl⟩
        have HX : Hid (Box W D ⟨dk, dp, dn⟩) := by rw [hW, hDn]; exact heap_alloc_new _ _
        have HD : Hid (Duo W B b c S) := hD.below hbW
        have HB : Hid (Below B w W) := hB.trans (hbW.mono hD.pr.low)
        have HDc : Hid (D ≠ c) := by show D ≠ c; have := hD.rt.lt; omega
        have HN : Hid (-9223372036854775808 ≤ dn ∧ dn < 9223372036854775808) := hdn
        have HW : Hid _ := hW
        have HDn : Hid _ := hDn
        clear hW hbW hD hB hDn hBw d0 d1 d2 hdn
        go_upto_region 10 with fail
        rw [← HW.out, ← HDn.out]
        clear HW HDn e0 e1 e2 hdeeds ik
        obtain ⟨c0, c1, c2⟩ := Box.cells HX.out
        dsimp only at c0 c1 c2
        go_upto_block 2 with fail
        go_cut [5, 9] (fun p t wc => ∃ (b' : Nat) (S' : St), ptr b' = p ∧ t = .bool true ∧ Duo wc B b' c S' ∧ Box wc D ⟨dk, dp, dn⟩ ∧ Below B w wc)
        case first => as_aux_lemma =>
          by_cases h0 : dk = 0
          · have K0 : Hid ((dk == 0) = true) := by show _ = _; simp [h0]
            clear h0
            have hop := fork_at B b S dp W HD.out.pr
            have hrop := fun (w1 : World) (h1 : RT w1 c (trS S)) => rfork_at c S dp w1 h1 HD.out.pr.dom
            have hI : Inv (fkS S dp) := HD.out.inv.fork dp
            generalize fkN S dp = x0 at hop hrop
            generalize fkE S dp = x1 at hop hrop
            generalize fkS S dp = S1 at hop hrop hI
            have HI : Hid (Inv S1) := hI
            have k0 : (dk == 0) = true := K0.out

            clear hI
            go_wp2_with fail
            refine hop.mono ?_
            rintro e w1 ⟨rfl, hp1, ht1⟩
            have HP1 : Hid (PrAt w1 B b S1) := hp1
            have HT1 : Hid (Tch B W w1) := ht1
            have HX1 : Hid (Box w1 D ⟨dk, dp, dn⟩) := Box.tch HX.out ht1
            have hr := hrop w1 (HD.out.rt.tch ht1)
            have HB1 : Hid (Below B w w1) := below_tch HB.out ht1 HD.out.pr.low
            obtain ⟨p0, p1, p2⟩ := Box.cells HX1.out
            dsimp only at p0 p1 p2
            clear hp1 ht1 hrop hop c0 c1 c2
            go_wp2_with fail
            refine hr.mono ?_
            rintro e w2 ⟨rfl, hr2, hu2⟩
            have HD2 : Hid (Duo w2 B b c S1) := HD.out.step HP1.out HT1.out hr2 hu2 HI.out
            have HX2 : Hid (Box w2 D ⟨dk, dp, dn⟩) := (hu2.block D (lt_of_heap HX1.out) HDc.out).trans HX1.out
            have HB2 : Hid (Below B w w2) := below_updc HB1.out hu2 HD.out.cB HP1.out.low
            clear hr hr2 hu2 p0 p1 p2
            go_wp2_with fail
            go_meet
            case rel => exact ⟨b, S1, rfl, by simp, HD2.out, HX2.out, HB2.out⟩
          · have K0 : Hid ((dk == 0) = false) := beq_false_of_ne h0
            by_cases h1 : dk = 1
            · have K1 : Hid ((dk == 1) = true) := by show _ = _; simp [h1]
              clear h0 h1
              have hdr : Below W.heap.size W W.drew := (Below.refl _ _).drew
              have HDd : Hid (Duo W.drew B b c S) := HD.out.below hdr
              have HXd : Hid (Box W.drew D ⟨dk, dp, dn⟩) := Box.below HX.out hdr
              have HBd : Hid (Below B w W.drew) := HB.out.drew
              have hop := exit_at B b S dp dn W.drew HDd.out.pr
              have hrop := fun (w1 : World) (h1 : RT w1 c (trS S)) => rexit_at c S dp dn w1 h1 HDd.out.pr.dom
              have hI : Inv (exS S dp dn) := HDd.out.inv.exit dp dn HN.out
              generalize exE S dp = x0 at hop hrop
              generalize exS S dp dn = S1 at hop hrop hI
              have HI : Hid (Inv S1) := hI
              have k0 : (dk == 0) = false := K0.out
              have k1 : (dk == 1) = true := K1.out
              obtain ⟨g0, g1, g2⟩ := Box.cells HXd.out
              dsimp only at g0 g1 g2
              clear hI hdr
              go_wp2_with fail
              clear c0 c1 c2
              refine wp_region_held_drew (S := fun w' => w'.cell? ⟨D, 1, none⟩ = some (.int .i64 dp) ∧ w'.cell? ⟨D, 2, none⟩ = some (.int .i64 dn)) (by kernel_rfl) ⟨g1, g2⟩ (fun hHeld => ?_)
              refine wpAnyH_take (i := 0) (v := ?_) rfl (by kernel_rfl) (by kernel_rfl) (by kernel_rfl) (fun _ _ _ h => h) (Or.inl ⟨by kernel_rfl, ?_⟩) (by assumption) ?_
              rotate_left
              · (intro w hSw; (try dsimp only at hSw); go_simp) <;> with_reducible rfl
              (try simp only [Act.put, List.getElem_toArray, List.getElem_cons_zero, List.setIfInBounds_toArray, List.set_cons_zero, List.set_cons_succ])
              refine wpAnyH_take (i := 1) (v := ?_) rfl (by kernel_rfl) (by kernel_rfl) (by kernel_rfl) (fun _ _ _ h => h) (Or.inl ⟨by kernel_rfl, ?_⟩) (by assumption) ?_
              rotate_left
              · (intro w hSw; (try dsimp only at hSw); go_simp) <;> with_reducible rfl
              (try simp only [Act.put, List.getElem_toArray, List.getElem_cons_zero, List.getElem_cons_succ, List.setIfInBounds_toArray, List.set_cons_zero, List.set_cons_succ])
              refine wpAnyH_take (i := 2) (v := ?_) rfl (by kernel_rfl) (by kernel_rfl) (by kernel_rfl) (fun _ _ _ h => h) (Or.inl ⟨by kernel_rfl, ?_⟩) (by assumption) ?_
              rotate_left
              · (intro w hSw; (try dsimp only at hSw); go_simp) <;> with_reducible rfl
              (try simp only [Act.put, List.getElem_toArray, List.getElem_cons_zero, List.getElem_cons_succ, List.setIfInBounds_toArray, List.set_cons_zero, List.set_cons_succ])
              refine wpAnyH_take (i := 3) (v := ?_) rfl (by kernel_rfl) (by kernel_rfl) (by kernel_rfl) (fun _ _ _ h => h) (Or.inl ⟨by kernel_rfl, ?_⟩) (by assumption) ?_
              rotate_left
              · (intro w hSw; (try dsimp only at hSw); go_simp) <;> with_reducible rfl
              (try simp only [Act.put, List.getElem_toArray, List.getElem_cons_zero, List.getElem_cons_succ, List.setIfInBounds_toArray, List.set_cons_zero, List.set_cons_succ])
              refine wpAnyH_take (i := 4) (v := ?_) rfl (by kernel_rfl) (by kernel_rfl) (by kernel_rfl) (fun _ _ _ h => h) (Or.inl ⟨by kernel_rfl, ?_⟩) (by assumption) ?_
              rotate_left
              · (intro w hSw; (try dsimp only at hSw); go_simp) <;> with_reducible rfl
              (try simp only [Act.put, List.getElem_toArray, List.getElem_cons_zero, List.getElem_cons_succ, List.setIfInBounds_toArray, List.set_cons_zero, List.set_cons_succ])
              refine wpAnyH_take (i := 6) (v := ?_) rfl (by kernel_rfl) (by kernel_rfl) (by kernel_rfl) (fun _ _ _ h => h) (Or.inl ⟨by kernel_rfl, ?_⟩) (by assumption) ?_
              rotate_left
              · (intro w hSw; (try dsimp only at hSw); go_simp) <;> with_reducible rfl
              (try simp only [Act.put, List.getElem_toArray, List.getElem_cons_zero, List.getElem_cons_succ, List.setIfInBounds_toArray, List.set_cons_zero, List.set_cons_succ])
              refine wpAnyH_take (i := 7) (v := ?_) rfl (by kernel_rfl) (by kernel_rfl) (by kernel_rfl) (fun _ _ _ h => h) (Or.inl ⟨by kernel_rfl, ?_⟩) (by assumption) ?_
              rotate_left
              · (intro w hSw; (try dsimp only at hSw); go_simp) <;> with_reducible rfl
              (try simp only [Act.put, List.getElem_toArray, List.getElem_cons_zero, List.getElem_cons_succ, List.setIfInBounds_toArray, List.set_cons_zero, List.set_cons_succ])
              refine wpAnyH_take (i := 8) (v := ?_) rfl (by kernel_rfl) (by kernel_rfl) (by kernel_rfl) (fun _ _ _ h => h) (Or.inl ⟨by kernel_rfl, ?_⟩) (by assumption) ?_
              rotate_left
              · (intro w hSw; (try dsimp only at hSw); go_simp) <;> with_reducible rfl
              (try simp only [Act.put, List.getElem_toArray, List.getElem_cons_zero, List.getElem_cons_succ, List.setIfInBounds_toArray, List.set_cons_zero, List.set_cons_succ])
              refine wpAnyH_take (i := 9) (v := ?_) rfl (by kernel_rfl) (by kernel_rfl) (by kernel_rfl) (fun _ _ _ h => h) (Or.inl ⟨by kernel_rfl, ?_⟩) (by assumption) ?_
              rotate_left
              · (intro w hSw; (try dsimp only at hSw); go_simp) <;> with_reducible rfl
              (try simp only [Act.put, List.getElem_toArray, List.getElem_cons_zero, List.getElem_cons_succ, List.setIfInBounds_toArray, List.set_cons_zero, List.set_cons_succ])
              refine wpAnyH_take (i := 10) (v := ?_) rfl (by kernel_rfl) (by kernel_rfl) (by kernel_rfl) (fun _ _ _ h => h) (Or.inl ⟨by kernel_rfl, ?_⟩) (by assumption) ?_
              rotate_left
              · (intro w hSw; (try dsimp only at hSw); go_simp) <;> with_reducible rfl
              (try simp only [Act.put, List.getElem_toArray, List.getElem_cons_zero, List.getElem_cons_succ, List.setIfInBounds_toArray, List.set_cons_zero, List.set_cons_succ])
              refine wpAnyH_ready (rs := [5]) (by kernel_rfl) (by simp) ?_
              refine AllReadyH.cons rfl (fun K hK => ?_) AllReadyH.nil
              go_simp
              refine hop.mono ?_
              rintro e w1 ⟨rfl, hp1, ht1⟩
              have HP1 : Hid (PrAt w1 B b S1) := hp1
              have HT1 : Hid (Tch B W.drew w1) := ht1
              have HX1 : Hid (Box w1 D ⟨dk, dp, dn⟩) := Box.tch HXd.out ht1
              have hr := hrop w1 (HDd.out.rt.tch ht1)
              have HB1 : Hid (Below B w w1) := below_tch HBd.out ht1 HDd.out.pr.low
              obtain ⟨p0, p1, p2⟩ := Box.cells HX1.out
              dsimp only at p0 p1 p2
              clear hp1 ht1 hrop hop
              refine hK.out _ _ ⟨p1, p2⟩ (fun hHeld => ?_)
              clear hK K
              (try simp only [Act.put, List.getElem_toArray, List.getElem_cons_zero, List.getElem_cons_succ, List.setIfInBounds_toArray, List.set_cons_zero, List.set_cons_succ])
              refine wpAnyH_ready (rs := [11]) (by kernel_rfl) (by simp) ?_
              refine AllReadyH.cons rfl (fun K hK => ?_) AllReadyH.nil
              go_simp
              refine hr.mono ?_
              rintro e w2 ⟨rfl, hr2, hu2⟩
              have HD2 : Hid (Duo w2 B b c S1) := HDd.out.step HP1.out HT1.out hr2 hu2 HI.out
              have HX2 : Hid (Box w2 D ⟨dk, dp, dn⟩) := (hu2.block D (lt_of_heap HX1.out) HDc.out).trans HX1.out
              have HB2 : Hid (Below B w w2) := below_updc HB1.out hu2 HDd.out.cB HP1.out.low
              obtain ⟨m0, m1, m2⟩ := Box.cells HX2.out
              dsimp only at m0 m1 m2
              clear hr hr2 hu2
              refine hK.out _ _ ⟨m1, m2⟩ (fun hHeld => ?_)
              clear hK K
              (try simp only [Act.put, List.getElem_toArray, List.getElem_cons_zero, List.getElem_cons_succ, List.setIfInBounds_toArray, List.set_cons_zero, List.set_cons_succ])
              refine wpAnyH_take (i := 12) (v := ?_) rfl (by kernel_rfl) (by kernel_rfl) (by kernel_rfl) (fun _ _ _ h => h) (Or.inl ⟨by kernel_rfl, ?_⟩) (by assumption) ?_
              rotate_left
              · (intro w hSw; (try dsimp only at hSw); go_simp) <;> with_reducible rfl
              (try simp only [Act.put, List.getElem_toArray, List.getElem_cons_zero, List.getElem_cons_succ, List.setIfInBounds_toArray, List.set_cons_zero, List.set_cons_succ])
              refine wpAnyH_take (i := 13) (v := ?_) rfl (by kernel_rfl) (by kernel_rfl) (by kernel_rfl) (fun _ _ _ h => h) (Or.inl ⟨by kernel_rfl, ?_⟩) (by assumption) ?_
              rotate_left
              · (intro w hSw; (try dsimp only at hSw); go_simp) <;> with_reducible rfl
              (try simp only [Act.put, List.getElem_toArray, List.getElem_cons_zero, List.getElem_cons_succ, List.setIfInBounds_toArray, List.set_cons_zero, List.set_cons_succ])
              refine wpAnyH_done (by kernel_rfl) ?_ _
              clear hHeld g0 g1 g2 p0 p1 p2 m0 m1 m2
              go_wp2_with fail
              go_meet
              case rel => exact ⟨b, S1, rfl, by simp, HD2.out, HX2.out, HB2.out⟩
            · have K1 : Hid ((dk == 1) = false) := beq_false_of_ne h1
              by_cases h2 : dk = 2
              · have K2 : Hid ((dk == 2) = true) := by show _ = _; simp [h2]
                clear h0 h1 h2
                have hop := wait_at B b S dp W HD.out.pr
                have hrop := fun (w1 : World) (h1 : RT w1 c (trS S)) => rwait_at c S dp w1 h1 HD.out.pr.dom
                have hI : Inv (wtS S dp) := HD.out.inv.wait dp
                generalize wtN S dp = x0 at hop hrop
                generalize wtT S dp = x1 at hop hrop
                generalize wtE S dp = x2 at hop hrop
                generalize wtB S dp = x3 at hop hrop
                generalize wtS S dp = S1 at hop hrop hI
                have HI : Hid (Inv S1) := hI
                have k0 : (dk == 0) = false := K0.out
                have k1 : (dk == 1) = false := K1.out
                have k2 : (dk == 2) = true := K2.out
                clear hI
                go_wp2_with fail
                refine hop.mono ?_
                rintro e w1 ⟨rfl, hp1, ht1⟩
                have HP1 : Hid (PrAt w1 B b S1) := hp1
                have HT1 : Hid (Tch B W w1) := ht1
                have HX1 : Hid (Box w1 D ⟨dk, dp, dn⟩) := Box.tch HX.out ht1
                have hr := hrop w1 (HD.out.rt.tch ht1)
                have HB1 : Hid (Below B w w1) := below_tch HB.out ht1 HD.out.pr.low
                obtain ⟨p0, p1, p2⟩ := Box.cells HX1.out
                dsimp only at p0 p1 p2
                clear hp1 ht1 hrop hop c0 c1 c2
                go_wp2_with fail
                refine hr.mono ?_
                rintro e w2 ⟨rfl, hr2, hu2⟩
                have HD2 : Hid (Duo w2 B b c S1) := HD.out.step HP1.out HT1.out hr2 hu2 HI.out
                have HX2 : Hid (Box w2 D ⟨dk, dp, dn⟩) := (hu2.block D (lt_of_heap HX1.out) HDc.out).trans HX1.out
                have HB2 : Hid (Below B w w2) := below_updc HB1.out hu2 HD.out.cB HP1.out.low
                clear hr hr2 hu2 p0 p1 p2
                go_wp2_with fail
                go_meet
                case rel => exact ⟨b, S1, rfl, by simp, HD2.out, HX2.out, HB2.out⟩
              · have K2 : Hid ((dk == 2) = false) := beq_false_of_ne h2
                clear h0 h1 h2
                have hop := encode_at B b S W HD.out.pr
                have hlE : (encW S).length ≤ 24 := by have := encK_len S 8; unfold encW; omega
                have k0 : (dk == 0) = false := K0.out
                have k1 : (dk == 1) = false := K1.out
                have k2 : (dk == 2) = false := K2.out
                go_wp2_with fail
                refine hop.mono ?_
                rintro e w1 ⟨v1, rfl, ho1, hb1⟩
                obtain ⟨a1, k1', rfl, hc1, hr1⟩ := own_rd ho1
                have HD1 : Hid (Duo w1 B b c S) := HD.out.below hb1
                have HX1 : Hid (Box w1 D ⟨dk, dp, dn⟩) := Box.below HX.out hb1
                have HB1 : Hid (Below B w w1) := HB.out.trans (hb1.mono HD.out.pr.low)
                have hde := pick_ok S w1 HD1.out.pr HD1.out.inv a1 _ k1' hr1 rfl hc1
                generalize (encW S).length = el at *
                clear ho1 hc1 hr1 hb1 hop c0 c1 c2
                go_wp2_with fail
                refine hde.mono ?_
                rintro e w2 ⟨rfl, hp2, hb2⟩
                obtain ⟨b2, hb2e⟩ : ∃ b2, b2 = w1.heap.size := ⟨_, rfl⟩
                have hlo : B ≤ w1.heap.size := HD1.out.pr.low
                rw [← hb2e] at hp2 hlo
                rw [← hb2e]
                have HX2 : Hid (Box w2 D ⟨dk, dp, dn⟩) := Box.below HX1.out hb2
                have HB2 : Hid (Below B w w2) := HB1.out.trans (hb2.mono HD1.out.pr.low)
                have HD2 : Hid (Duo w2 B b2 c S) := ⟨hp2.lower hlo, HD1.out.rt.below hb2, HD1.out.inv, HD1.out.cB⟩
                have hnn := eq_procs b2
                clear hde hp2 hb2 hb2e hlo hlE
                go_wp2_with fail
                go_meet
                case rel => exact ⟨b2, S, rfl, rfl, HD2.out, HX2.out, HB2.out⟩
        case rest => as_aux_lemma =>
          obtain ⟨b', S', rfl, rfl, hD, hX, hB⟩ := hcut
          clear HX HD HB hn1
          have hdr : Below wc.heap.size wc wc.drew := (Below.refl _ _).drew
          have HX : Hid (Box wc.drew D ⟨dk, dp, dn⟩) := Box.below hX hdr
          have HD : Hid (Duo wc.drew B b' c S') := hD.below hdr
          have HB : Hid (Below B w wc.drew) := hB.drew
          have h1 := live_at B b' S' dp wc.drew HD.out.pr
          have h2 := rlive_at c (trS S') dp wc.drew HD.out.rt
          rw [livT_S HD.out.pr.dom] at h2
          have h3 := parent_at B b' S' dp wc.drew HD.out.pr
          have h4 := rparent_at c S' dp wc.drew HD.out.rt HD.out.pr.dom
          generalize liv S' dp = lv at h1 h2
          generalize parI S' dp = pa at h3 h4
          obtain ⟨x0, x1, x2⟩ := Box.cells HX.out
          dsimp only at x0 x1 x2
          clear hdr hX hD hB
          go_wp2_with fail
          refine wp_region_held_drew (S := fun w' => w'.cell? ⟨D, 1, none⟩ = some (.int .i64 dp) ∧ w'.cell? ⟨D, 2, none⟩ = some (.int .i64 dn)) (by kernel_rfl) ⟨x1, x2⟩ (fun hHeld => ?_)
          refine wpAnyH_take (i := 0) (v := ?_) rfl (by kernel_rfl) (by kernel_rfl) (by kernel_rfl) (fun _ _ _ h => h) (Or.inl ⟨by kernel_rfl, ?_⟩) (by assumption) ?_
          rotate_left
          · (intro w hSw; (try dsimp only at hSw); go_simp) <;> with_reducible rfl
          (try simp only [Act.put, List.getElem_toArray, List.getElem_cons_zero, List.setIfInBounds_toArray, List.set_cons_zero, List.set_cons_succ])
          refine wpAnyH_take (i := 1) (v := ?_) rfl (by kernel_rfl) (by kernel_rfl) (by kernel_rfl) (fun _ _ _ h => h) (Or.inl ⟨by kernel_rfl, ?_⟩) (by assumption) ?_
          rotate_left
          · (intro w hSw; (try dsimp only at hSw); go_simp) <;> with_reducible rfl
          (try simp only [Act.put, List.getElem_toArray, List.getElem_cons_zero, List.getElem_cons_succ, List.setIfInBounds_toArray, List.set_cons_zero, List.set_cons_succ])
          refine wpAnyH_take (i := 2) (v := ?_) rfl (by kernel_rfl) (by kernel_rfl) (by kernel_rfl) (fun _ _ _ h => h) (Or.inl ⟨by kernel_rfl, ?_⟩) (by assumption) ?_
          rotate_left
          · (intro w hSw; (try dsimp only at hSw); go_simp) <;> with_reducible rfl
          (try simp only [Act.put, List.getElem_toArray, List.getElem_cons_zero, List.getElem_cons_succ, List.setIfInBounds_toArray, List.set_cons_zero, List.set_cons_succ])
          refine wpAnyH_take (i := 3) (v := ?_) rfl (by kernel_rfl) (by kernel_rfl) (by kernel_rfl) (fun _ _ _ h => h) (Or.inl ⟨by kernel_rfl, ?_⟩) (by assumption) ?_
          rotate_left
          · (intro w hSw; (try dsimp only at hSw); go_simp) <;> with_reducible rfl
          (try simp only [Act.put, List.getElem_toArray, List.getElem_cons_zero, List.getElem_cons_succ, List.setIfInBounds_toArray, List.set_cons_zero, List.set_cons_succ])
          refine wpAnyH_take (i := 4) (v := ?_) rfl (by kernel_rfl) (by kernel_rfl) (by kernel_rfl) (fun _ _ _ h => h) (Or.inl ⟨by kernel_rfl, ?_⟩) (by assumption) ?_
          rotate_left
          · (intro w hSw; (try dsimp only at hSw); go_simp) <;> with_reducible rfl
          (try simp only [Act.put, List.getElem_toArray, List.getElem_cons_zero, List.getElem_cons_succ, List.setIfInBounds_toArray, List.set_cons_zero, List.set_cons_succ])
          refine wpAnyH_take (i := 5) (v := ?_) rfl (by kernel_rfl) (by kernel_rfl) (by kernel_rfl) (fun _ _ _ h => h) (Or.inl ⟨by kernel_rfl, ?_⟩) (by assumption) ?_
          rotate_left
          · (intro w hSw; (try dsimp only at hSw); go_simp) <;> with_reducible rfl
          (try simp only [Act.put, List.getElem_toArray, List.getElem_cons_zero, List.getElem_cons_succ, List.setIfInBounds_toArray, List.set_cons_zero, List.set_cons_succ])
          refine wpAnyH_take (i := 7) (v := ?_) rfl (by kernel_rfl) (by kernel_rfl) (by kernel_rfl) (fun _ _ _ h => h) (Or.inl ⟨by kernel_rfl, ?_⟩) (by assumption) ?_
          rotate_left
          · (intro w hSw; (try dsimp only at hSw); go_simp) <;> with_reducible rfl
          (try simp only [Act.put, List.getElem_toArray, List.getElem_cons_zero, List.getElem_cons_succ, List.setIfInBounds_toArray, List.set_cons_zero, List.set_cons_succ])
          refine wpAnyH_take (i := 8) (v := ?_) rfl (by kernel_rfl) (by kernel_rfl) (by kernel_rfl) (fun _ _ _ h => h) (Or.inl ⟨by kernel_rfl, ?_⟩) (by assumption) ?_
          rotate_left
          · (intro w hSw; (try dsimp only at hSw); go_simp) <;> with_reducible rfl
          (try simp only [Act.put, List.getElem_toArray, List.getElem_cons_zero, List.getElem_cons_succ, List.setIfInBounds_toArray, List.set_cons_zero, List.set_cons_succ])
          refine wpAnyH_take (i := 9) (v := ?_) rfl (by kernel_rfl) (by kernel_rfl) (by kernel_rfl) (fun _ _ _ h => h) (Or.inl ⟨by kernel_rfl, ?_⟩) (by assumption) ?_
          rotate_left
          · (intro w hSw; (try dsimp only at hSw); go_simp) <;> with_reducible rfl
          (try simp only [Act.put, List.getElem_toArray, List.getElem_cons_zero, List.getElem_cons_succ, List.setIfInBounds_toArray, List.set_cons_zero, List.set_cons_succ])
          refine wpAnyH_ready (rs := [6]) (by kernel_rfl) (by simp) ?_
          refine AllReadyH.cons rfl (fun K hK => ?_) AllReadyH.nil
          go_simp
          refine h1.mono ?_
          rintro e w3 ⟨rfl, hw⟩
          rw [hw]
          clear hw w3 h1
          refine hK.out _ _ ⟨x1, x2⟩ (fun hHeld => ?_)
          clear hK K
          (try simp only [Act.put, List.getElem_toArray, List.getElem_cons_zero, List.getElem_cons_succ, List.setIfInBounds_toArray, List.set_cons_zero, List.set_cons_succ])
          refine wpAnyH_ready (rs := [10]) (by kernel_rfl) (by simp) ?_
          refine AllReadyH.cons rfl (fun K hK => ?_) AllReadyH.nil
          go_simp
          refine h2.mono ?_
          rintro e w3 ⟨rfl, hw⟩
          rw [hw]
          clear hw w3 h2
          refine hK.out _ _ ⟨x1, x2⟩ (fun hHeld => ?_)
          clear hK K
          (try simp only [Act.put, List.getElem_toArray, List.getElem_cons_zero, List.getElem_cons_succ, List.setIfInBounds_toArray, List.set_cons_zero, List.set_cons_succ])
          refine wpAnyH_take (i := 11) (v := ?_) rfl (by kernel_rfl) (by kernel_rfl) (by kernel_rfl) (fun _ _ _ h => h) (Or.inl ⟨by kernel_rfl, ?_⟩) (by assumption) ?_
          rotate_left
          · (intro w hSw; (try dsimp only at hSw); go_simp) <;> with_reducible rfl
          (try simp only [Act.put, List.getElem_toArray, List.getElem_cons_zero, List.getElem_cons_succ, List.setIfInBounds_toArray, List.set_cons_zero, List.set_cons_succ])
          refine wpAnyH_take (i := 12) (v := ?_) rfl (by kernel_rfl) (by kernel_rfl) (by kernel_rfl) (fun _ _ _ h => h) (Or.inl ⟨by kernel_rfl, ?_⟩) (by assumption) ?_
          rotate_left
          · (intro w hSw; (try dsimp only at hSw); go_simp) <;> with_reducible rfl
          (try simp only [Act.put, List.getElem_toArray, List.getElem_cons_zero, List.getElem_cons_succ, List.setIfInBounds_toArray, List.set_cons_zero, List.set_cons_succ])
          refine wpAnyH_take (i := 13) (v := ?_) rfl (by kernel_rfl) (by kernel_rfl) (by kernel_rfl) (fun _ _ _ h => h) (Or.inl ⟨by kernel_rfl, ?_⟩) (by assumption) ?_
          rotate_left
          · (intro w hSw; (try dsimp only at hSw); go_simp) <;> with_reducible rfl
          (try simp only [Act.put, List.getElem_toArray, List.getElem_cons_zero, List.getElem_cons_succ, List.setIfInBounds_toArray, List.set_cons_zero, List.set_cons_succ])
          refine wpAnyH_take (i := 14) (v := ?_) rfl (by kernel_rfl) (by kernel_rfl) (by kernel_rfl) (fun _ _ _ h => h) (Or.inl ⟨by kernel_rfl, ?_⟩) (by assumption) ?_
          rotate_left
          · (intro w hSw; (try dsimp only at hSw); go_simp) <;> with_reducible rfl
          (try simp only [Act.put, List.getElem_toArray, List.getElem_cons_zero, List.getElem_cons_succ, List.setIfInBounds_toArray, List.set_cons_zero, List.set_cons_succ])
          refine wpAnyH_take (i := 15) (v := ?_) rfl (by kernel_rfl) (by kernel_rfl) (by kernel_rfl) (fun _ _ _ h => h) (Or.inl ⟨by kernel_rfl, ?_⟩) (by assumption) ?_
          rotate_left
          · (intro w hSw; (try dsimp only at hSw); go_simp) <;> with_reducible rfl
          (try simp only [Act.put, List.getElem_toArray, List.getElem_cons_zero, List.getElem_cons_succ, List.setIfInBounds_toArray, List.set_cons_zero, List.set_cons_succ])
          refine wpAnyH_take (i := 16) (v := ?_) rfl (by kernel_rfl) (by kernel_rfl) (by kernel_rfl) (fun _ _ _ h => h) (Or.inl ⟨by kernel_rfl, ?_⟩) (by assumption) ?_
          rotate_left
          · (intro w hSw; (try dsimp only at hSw); go_simp) <;> with_reducible rfl
          (try simp only [Act.put, List.getElem_toArray, List.getElem_cons_zero, List.getElem_cons_succ, List.setIfInBounds_toArray, List.set_cons_zero, List.set_cons_succ])
          refine wpAnyH_take (i := 18) (v := ?_) rfl (by kernel_rfl) (by kernel_rfl) (by kernel_rfl) (fun _ _ _ h => h) (Or.inl ⟨by kernel_rfl, ?_⟩) (by assumption) ?_
          rotate_left
          · (intro w hSw; (try dsimp only at hSw); go_simp) <;> with_reducible rfl
          (try simp only [Act.put, List.getElem_toArray, List.getElem_cons_zero, List.getElem_cons_succ, List.setIfInBounds_toArray, List.set_cons_zero, List.set_cons_succ])
          refine wpAnyH_take (i := 19) (v := ?_) rfl (by kernel_rfl) (by kernel_rfl) (by kernel_rfl) (fun _ _ _ h => h) (Or.inl ⟨by kernel_rfl, ?_⟩) (by assumption) ?_
          rotate_left
          · (intro w hSw; (try dsimp only at hSw); go_simp) <;> with_reducible rfl
          (try simp only [Act.put, List.getElem_toArray, List.getElem_cons_zero, List.getElem_cons_succ, List.setIfInBounds_toArray, List.set_cons_zero, List.set_cons_succ])
          refine wpAnyH_take (i := 20) (v := ?_) rfl (by kernel_rfl) (by kernel_rfl) (by kernel_rfl) (fun _ _ _ h => h) (Or.inl ⟨by kernel_rfl, ?_⟩) (by assumption) ?_
          rotate_left
          · (intro w hSw; (try dsimp only at hSw); go_simp) <;> with_reducible rfl
          (try simp only [Act.put, List.getElem_toArray, List.getElem_cons_zero, List.getElem_cons_succ, List.setIfInBounds_toArray, List.set_cons_zero, List.set_cons_succ])
          refine wpAnyH_ready (rs := [17]) (by kernel_rfl) (by simp) ?_
          refine AllReadyH.cons rfl (fun K hK => ?_) AllReadyH.nil
          go_simp
          refine h3.mono ?_
          rintro e w3 ⟨rfl, hw⟩
          rw [hw]
          clear hw w3 h3
          refine hK.out _ _ ⟨x1, x2⟩ (fun hHeld => ?_)
          clear hK K
          (try simp only [Act.put, List.getElem_toArray, List.getElem_cons_zero, List.getElem_cons_succ, List.setIfInBounds_toArray, List.set_cons_zero, List.set_cons_succ])
          refine wpAnyH_ready (rs := [21]) (by kernel_rfl) (by simp) ?_
          refine AllReadyH.cons rfl (fun K hK => ?_) AllReadyH.nil
          go_simp
          refine h4.mono ?_
          rintro e w3 ⟨rfl, hw⟩
          rw [hw]
          clear hw w3 h4
          refine hK.out _ _ ⟨x1, x2⟩ (fun hHeld => ?_)
          clear hK K
          (try simp only [Act.put, List.getElem_toArray, List.getElem_cons_zero, List.getElem_cons_succ, List.setIfInBounds_toArray, List.set_cons_zero, List.set_cons_succ])
          refine wpAnyH_take (i := 22) (v := ?_) rfl (by kernel_rfl) (by kernel_rfl) (by kernel_rfl) (fun _ _ _ h => h) (Or.inl ⟨by kernel_rfl, ?_⟩) (by assumption) ?_
          rotate_left
          · (intro w hSw; (try dsimp only at hSw); go_simp) <;> with_reducible rfl
          (try simp only [Act.put, List.getElem_toArray, List.getElem_cons_zero, List.getElem_cons_succ, List.setIfInBounds_toArray, List.set_cons_zero, List.set_cons_succ])
          refine wpAnyH_take (i := 23) (v := ?_) rfl (by kernel_rfl) (by kernel_rfl) (by kernel_rfl) (fun _ _ _ h => h) (Or.inl ⟨by kernel_rfl, ?_⟩) (by assumption) ?_
          rotate_left
          · (intro w hSw; (try dsimp only at hSw); go_simp) <;> with_reducible rfl
          (try simp only [Act.put, List.getElem_toArray, List.getElem_cons_zero, List.getElem_cons_succ, List.setIfInBounds_toArray, List.set_cons_zero, List.set_cons_succ])
          refine wpAnyH_take (i := 24) (v := ?_) rfl (by kernel_rfl) (by kernel_rfl) (by kernel_rfl) (fun _ _ _ h => h) (Or.inl ⟨by kernel_rfl, ?_⟩) (by assumption) ?_
          rotate_left
          · (intro w hSw; (try dsimp only at hSw); go_simp) <;> with_reducible rfl
          (try simp only [Act.put, List.getElem_toArray, List.getElem_cons_zero, List.getElem_cons_succ, List.setIfInBounds_toArray, List.set_cons_zero, List.set_cons_succ])
          refine wpAnyH_take (i := 25) (v := ?_) rfl (by kernel_rfl) (by kernel_rfl) (by kernel_rfl) (fun _ _ _ h => h) (Or.inl ⟨by kernel_rfl, ?_⟩) (by assumption) ?_
          rotate_left
          · (intro w hSw; (try dsimp only at hSw); go_simp) <;> with_reducible rfl
          (try simp only [Act.put, List.getElem_toArray, List.getElem_cons_zero, List.getElem_cons_succ, List.setIfInBounds_toArray, List.set_cons_zero, List.set_cons_succ])
          refine wpAnyH_take (i := 27) (v := ?_) rfl (by kernel_rfl) (by kernel_rfl) (by kernel_rfl) (fun _ _ _ h => h) (Or.inl ⟨by kernel_rfl, ?_⟩) (by assumption) ?_
          rotate_left
          · (intro w hSw; (try dsimp only at hSw); go_simp) <;> with_reducible rfl
          (try simp only [Act.put, List.getElem_toArray, List.getElem_cons_zero, List.getElem_cons_succ, List.setIfInBounds_toArray, List.set_cons_zero, List.set_cons_succ])
          refine wpAnyH_ready (rs := [26]) (by kernel_rfl) (by simp) ?_
          refine AllReadyH.cons rfl (fun K hK => ?_) AllReadyH.nil
          go_simp
          refine (all_at B b' S' wc.drew HD.out.pr).mono ?_
          rintro e w3 ⟨a3, c3, rfl, hr3, hb3⟩
          have HX3 : Hid (Box w3 D ⟨dk, dp, dn⟩) := Box.below HX.out hb3
          have HD3 : Hid (Duo w3 B b' c S') := HD.out.below hb3
          have HB3 : Hid (Below B w w3) := HB.out.trans (hb3.mono HD.out.pr.low)
          have HI3 : Hid (IRow w3 a3 (lstF S' (fun p => !p.zom))) := hr3
          obtain ⟨p0, p1, p2⟩ := Box.cells HX3.out
          clear hb3 hr3 HX HD HB
          refine hK.out _ _ ⟨p1, p2⟩ (fun hHeld => ?_)
          clear hK K
          (try simp only [Act.put, List.getElem_toArray, List.getElem_cons_zero, List.getElem_cons_succ, List.setIfInBounds_toArray, List.set_cons_zero, List.set_cons_succ])
          refine wpAnyH_ready (rs := [28]) (by kernel_rfl) (by simp) ?_
          refine AllReadyH.cons rfl (fun K hK => ?_) AllReadyH.nil
          go_simp
          refine (rall_at c S' w3 HD3.out.rt HD3.out.pr.dom).mono ?_
          rintro e w4 ⟨a4, c4, rfl, hr4, hb4⟩
          have HX4 : Hid (Box w4 D ⟨dk, dp, dn⟩) := Box.below HX3.out hb4
          have HD4 : Hid (Duo w4 B b' c S') := HD3.out.below hb4
          have HB4 : Hid (Below B w w4) := HB3.out.trans (hb4.mono HD3.out.pr.low)
          have hIn := ints_same (lstF S' (fun p => !p.zom)) a3 a4 c3 c4 w4 (HI3.out.below hb4) hr4 (by have := lst_len S' (fun p => !p.zom); omega)
          generalize (lstF S' (fun p => !p.zom)).length = il at *
          obtain ⟨q0, q1, q2⟩ := Box.cells HX4.out
          clear hb4 hr4 HX3 HD3 HB3 HI3
          refine hK.out _ _ ⟨q1, q2⟩ (fun hHeld => ?_)
          clear hK K
          (try simp only [Act.put, List.getElem_toArray, List.getElem_cons_zero, List.getElem_cons_succ, List.setIfInBounds_toArray, List.set_cons_zero, List.set_cons_succ])
          refine wpAnyH_ready (rs := [29]) (by kernel_rfl) (by simp) ?_
          refine AllReadyH.cons rfl (fun K hK => ?_) AllReadyH.nil
          go_simp
          refine hIn.mono ?_
          rintro e w5 ⟨rfl, hb5⟩
          have HX5 : Hid (Box w5 D ⟨dk, dp, dn⟩) := Box.below HX4.out hb5
          have HD5 : Hid (Duo w5 B b' c S') := HD4.out.below hb5
          have HB5 : Hid (Below B w w5) := HB4.out.trans (hb5.mono HD4.out.pr.low)
          obtain ⟨r0, r1, r2⟩ := Box.cells HX5.out
          clear hb5 hIn HX4 HD4 HB4
          refine hK.out _ _ ⟨r1, r2⟩ (fun hHeld => ?_)
          clear hK K
          (try simp only [Act.put, List.getElem_toArray, List.getElem_cons_zero, List.getElem_cons_succ, List.setIfInBounds_toArray, List.set_cons_zero, List.set_cons_succ])
          refine wpAnyH_take (i := 30) (v := ?_) rfl (by kernel_rfl) (by kernel_rfl) (by kernel_rfl) (fun _ _ _ h => h) (Or.inl ⟨by kernel_rfl, ?_⟩) (by assumption) ?_
          rotate_left
          · (intro w hSw; (try dsimp only at hSw); go_simp) <;> with_reducible rfl
          (try simp only [Act.put, List.getElem_toArray, List.getElem_cons_zero, List.getElem_cons_succ, List.setIfInBounds_toArray, List.set_cons_zero, List.set_cons_succ])
          refine wpAnyH_take (i := 31) (v := ?_) rfl (by kernel_rfl) (by kernel_rfl) (by kernel_rfl) (fun _ _ _ h => h) (Or.inl ⟨by kernel_rfl, ?_⟩) (by assumption) ?_
          rotate_left
          · (intro w hSw; (try dsimp only at hSw); go_simp) <;> with_reducible rfl
          (try simp only [Act.put, List.getElem_toArray, List.getElem_cons_zero, List.getElem_cons_succ, List.setIfInBounds_toArray, List.set_cons_zero, List.set_cons_succ])
          refine wpAnyH_take (i := 32) (v := ?_) rfl (by kernel_rfl) (by kernel_rfl) (by kernel_rfl) (fun _ _ _ h => h) (Or.inl ⟨by kernel_rfl, ?_⟩) (by assumption) ?_
          rotate_left
          · (intro w hSw; (try dsimp only at hSw); go_simp) <;> with_reducible rfl
          (try simp only [Act.put, List.getElem_toArray, List.getElem_cons_zero, List.getElem_cons_succ, List.setIfInBounds_toArray, List.set_cons_zero, List.set_cons_succ])
          refine wpAnyH_take (i := 33) (v := ?_) rfl (by kernel_rfl) (by kernel_rfl) (by kernel_rfl) (fun _ _ _ h => h) (Or.inl ⟨by kernel_rfl, ?_⟩) (by assumption) ?_
          rotate_left
          · (intro w hSw; (try dsimp only at hSw); go_simp) <;> with_reducible rfl
          (try simp only [Act.put, List.getElem_toArray, List.getElem_cons_zero, List.getElem_cons_succ, List.setIfInBounds_toArray, List.set_cons_zero, List.set_cons_succ])
          refine wpAnyH_take (i := 35) (v := ?_) rfl (by kernel_rfl) (by kernel_rfl) (by kernel_rfl) (fun _ _ _ h => h) (Or.inl ⟨by kernel_rfl, ?_⟩) (by assumption) ?_
          rotate_left
          · (intro w hSw; (try dsimp only at hSw); go_simp) <;> with_reducible rfl
          (try simp only [Act.put, List.getElem_toArray, List.getElem_cons_zero, List.getElem_cons_succ, List.setIfInBounds_toArray, List.set_cons_zero, List.set_cons_succ])
          refine wpAnyH_ready (rs := [34]) (by kernel_rfl) (by simp) ?_
          refine AllReadyH.cons rfl (fun K hK => ?_) AllReadyH.nil
          go_simp
          refine (encode_at B b' S' w5 HD5.out.pr).mono ?_
          rintro e w6 ⟨v6, rfl, ho6, hb6⟩
          obtain ⟨a6, c6, rfl, _, hr6⟩ := own_rd ho6
          have HX6 : Hid (Box w6 D ⟨dk, dp, dn⟩) := Box.below HX5.out hb6
          have HD6 : Hid (Duo w6 B b' c S') := HD5.out.below hb6
          have HB6 : Hid (Below B w w6) := HB5.out.trans (hb6.mono HD5.out.pr.low)
          have HI6 : Hid (Rd w6 a6 (encW S')) := hr6
          obtain ⟨s0, s1, s2⟩ := Box.cells HX6.out
          clear hb6 hr6 ho6 HX5 HD5 HB5
          refine hK.out _ _ ⟨s1, s2⟩ (fun hHeld => ?_)
          clear hK K
          (try simp only [Act.put, List.getElem_toArray, List.getElem_cons_zero, List.getElem_cons_succ, List.setIfInBounds_toArray, List.set_cons_zero, List.set_cons_succ])
          refine wpAnyH_ready (rs := [36]) (by kernel_rfl) (by simp) ?_
          refine AllReadyH.cons rfl (fun K hK => ?_) AllReadyH.nil
          go_simp
          refine (rencode_at c (trS S') w6 HD6.out.rt).mono ?_
          rintro e w7 ⟨v7, rfl, ho7, hb7⟩
          rw [show encT (trS S') 8 = encW S' from encT_S S' 8] at ho7
          obtain ⟨a7, c7, rfl, _, hr7⟩ := own_rd ho7
          have HX7 : Hid (Box w7 D ⟨dk, dp, dn⟩) := Box.below HX6.out hb7
          have HD7 : Hid (Duo w7 B b' c S') := HD6.out.below hb7
          have HB7 : Hid (Below B w w7) := HB6.out.trans (hb7.mono HD6.out.pr.low)
          have hWo := words_same (encW S') a6 a7 c6 c7 w7 (HI6.out.below hb7) hr7 (by have := encK_len S' 8; unfold encW; omega)
          generalize (encW S').length = el at *
          obtain ⟨t0, t1, t2⟩ := Box.cells HX7.out
          clear hb7 hr7 ho7 HX6 HD6 HB6 HI6
          refine hK.out _ _ ⟨t1, t2⟩ (fun hHeld => ?_)
          clear hK K
          (try simp only [Act.put, List.getElem_toArray, List.getElem_cons_zero, List.getElem_cons_succ, List.setIfInBounds_toArray, List.set_cons_zero, List.set_cons_succ])
          refine wpAnyH_ready (rs := [37]) (by kernel_rfl) (by simp) ?_
          refine AllReadyH.cons rfl (fun K hK => ?_) AllReadyH.nil
          go_simp
          refine hWo.mono ?_
          rintro e w8 ⟨rfl, hb8⟩
          have HX8 : Hid (Box w8 D ⟨dk, dp, dn⟩) := Box.below HX7.out hb8
          have HD8 : Hid (Duo w8 B b' c S') := HD7.out.below hb8
          have HB8 : Hid (Below B w w8) := HB7.out.trans (hb8.mono HD7.out.pr.low)
          obtain ⟨y0, y1, y2⟩ := Box.cells HX8.out
          clear hb8 hWo HX7 HD7 HB7
          refine hK.out _ _ ⟨y1, y2⟩ (fun hHeld => ?_)
          clear hK K
          (try simp only [Act.put, List.getElem_toArray, List.getElem_cons_zero, List.getElem_cons_succ, List.setIfInBounds_toArray, List.set_cons_zero, List.set_cons_succ])
          refine wpAnyH_take (i := 38) (v := ?_) rfl (by kernel_rfl) (by kernel_rfl) (by kernel_rfl) (fun _ _ _ h => h) (Or.inl ⟨by kernel_rfl, ?_⟩) (by assumption) ?_
          rotate_left
          · (intro w hSw; (try dsimp only at hSw); go_simp) <;> with_reducible rfl
          (try simp only [Act.put, List.getElem_toArray, List.getElem_cons_zero, List.getElem_cons_succ, List.setIfInBounds_toArray, List.set_cons_zero, List.set_cons_succ])
          refine wpAnyH_take (i := 39) (v := ?_) rfl (by kernel_rfl) (by kernel_rfl) (by kernel_rfl) (fun _ _ _ h => h) (Or.inl ⟨by kernel_rfl, ?_⟩) (by assumption) ?_
          rotate_left
          · (intro w hSw; (try dsimp only at hSw); go_simp) <;> with_reducible rfl
          (try simp only [Act.put, List.getElem_toArray, List.getElem_cons_zero, List.getElem_cons_succ, List.setIfInBounds_toArray, List.set_cons_zero, List.set_cons_succ])
          refine wpAnyH_done (by kernel_rfl) ?_ _
          clear hHeld
          go_wp2
          go_roundw
          case rel => exact ⟨k + 1, b', S', by omega, by omega, rfl, by go_num, HD8.out, HB8.out⟩
          case measure => simp [intOf]; omega
      · as_aux_lemma =>
        have HB : Hid (Below B w wr) := hB
        clear hD hB hdeeds
        have hkl : k < len ∨ len ≤ k := by omega
        rcases hkl with hkl | hkl
        · have g0 : decide ((k : Int) < (len : Int)) = true := decide_eq_true (by omega)
          have g1 : decide ((k : Int) < 200) = false := decide_eq_false (by omega)
          go_wp2_with fail
          refine (awake_at _).mono ?_
          rintro e w6 ⟨rfl, hb6⟩
          go_wp2
          go_ret
          exact ⟨rfl, by rw [HBs.out] at HB; exact HB.out.trans (hb6.mono HB.out.size)⟩
        · have g0 : decide ((k : Int) < (len : Int)) = false := decide_eq_false (by omega)
          go_wp2_with fail
          refine (awake_at _).mono ?_
          rintro e w6 ⟨rfl, hb6⟩
          go_wp2
          go_ret
          exact ⟨rfl, by rw [HBs.out] at HB; exact HB.out.trans (hb6.mono HB.out.size)⟩
end Go.Proofs.Ytfcpcncafopobaa
