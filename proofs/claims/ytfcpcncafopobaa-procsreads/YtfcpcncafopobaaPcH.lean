/- Package procs: hasRoot, isForest. -/
import Derived.Test.YtfcpcncafopobaaPcF
import Derived.Test.YtfcpcncafopobaaPcG
namespace Go.Proofs.Ytfcpcncafopobaa
open Go.RowKit Go.Lib Go.Maps
set_option linter.unusedVariables false

set_option maxHeartbeats 4000000 in
theorem root_at (B b : Nat) (mo : Option Nat) (c : Int → Nat) (S : St) (k0 : Int) (p0 : Pr) (w : World) (h : PrIs w B b mo c S) (h0 : S k0 = some p0) (hup : ∀ k p, S k = some p → p.par ≠ 0 → (S p.par).isSome = true) :
    Calls Try.prog 45 #[ptr b, ptr (c k0)] w fun e w' => e = .returned (.bool (rootB S 8 p0)) ∧ ∃ q, w' = w.drewN q := by
  have HH : Hid (PrIs w B b mo c S) := h
  have HU : Hid (∀ k p, S k = some p → p.par ≠ 0 → (S p.par).isSome = true) := hup
  have H0 : Hid (S k0 = some p0) := h0
  clear h hup h0
  go_enter Try.func45, Try.ntmps45
  go_wp2
  go_loopw [1, 5] (fun x i wr => ∃ (k : Nat) (kx : Int) (p : Pr) (q : Nat), k ≤ 8 ∧ i = .int .i64 k ∧ ptr (c kx) = x ∧ S kx = some p ∧ rootB S 8 p0 = rootB S (8 - k) p ∧ wr = w.drewN q) (fun _ i _ => 8 - (intOf i).toNat)
  case atStart => exact ⟨0, k0, p0, 0, by omega, rfl, rfl, H0.out, rfl, rfl⟩
  case round =>
    obtain ⟨k, kx, p, q, hk, rfl, rfl, hp, hr, hw⟩ := hrel
    have HW : Hid (wr = w.drewN q) := hw
    have HP : Hid (S kx = some p) := hp
    have HR : Hid (rootB S 8 p0 = rootB S (8 - k) p) := hr
    have hP : PrIs wr B b mo c S := by rw [hw]; exact HH.out.below (drewN_bel w q)
    obtain ⟨c0, -, -⟩ := hP.cells hp
    have e0 := hP.cell
    clear hw
    by_cases hlt : k < 8
    · have i1 : decide ((k : Int) < 8) = true := decide_eq_true (by omega)
      have hki : (k : Int) < 8 := by omega
      rw [show 8 - k = (8 - (k + 1)) + 1 by omega] at HR
      by_cases hz : p.par = 0
      · have g0 : (p.par == 0) = true := by simp [hz]
        have HT : Hid (rootB S 8 p0 = true) := by show _ = _; rw [HR.out]; unfold rootB; rw [decide_eq_true hz]; rfl
        clear hp hr hP hz
        generalize c kx = cx at *
        go_wp2
        go_ret
        exact ⟨by rw [HT.out]; rfl, q, HW.out⟩
      · have g0 : (p.par == 0) = false := beq_false_of_ne hz
        obtain ⟨x, hx⟩ := Option.isSome_iff_exists.1 (HU.out kx p hp hz)
        have HX : Hid (S p.par = some x) := hx
        have HT : Hid (rootB S 8 p0 = rootB S (8 - (k + 1)) x) := by
          show _ = _
          rw [HR.out]
          show (decide (p.par = 0) || hits S (rootB S (8 - (k + 1))) p.par) = _
          unfold hits
          rw [decide_eq_false hz, hx]
          rfl
        have hP2 := hP.below (Below.refl wr.heap.size wr).drew
        have hl := hP2.look_some hx
        have d0 : wr.drew.cell? ⟨c kx, 0, none⟩ = some (.int .i64 p.par) := c0
        have f0 : wr.drew.cell? ⟨b, 0, none⟩ = some (.map mo) := e0
        clear hp hr hP hz hx hP2
        obtain ⟨cx, hcx⟩ : ∃ cx, c kx = cx := ⟨_, rfl⟩
        obtain ⟨cp, hcp⟩ : ∃ cp, c p.par = cp := ⟨_, rfl⟩
        have HC : Hid (c p.par = cp) := hcp
        rw [hcx] at c0 d0
        rw [hcp] at hl
        rw [hcx]
        clear hcx hcp
        go_wp2_with fail
        go_region
        all_goals
          go_wp2
          go_roundw
          case rel => exact ⟨k + 1, p.par, x, q + 1, by omega, by go_num, by rw [HC.out], HX.out, HT.out, by rw [HW.out]; rfl⟩
          case measure => simp [intOf]; omega
    · have i1 : decide ((k : Int) < 8) = false := decide_eq_false (by omega)
      have HT : Hid (rootB S 8 p0 = false) := by show _ = _; rw [HR.out, show 8 - k = 0 by omega]; rfl
      clear hp hr hP
      generalize c kx = cx at *
      go_wp2
      go_ret
      exact ⟨by rw [HT.out]; rfl, q, HW.out⟩
theorem hit_of {S : St} {c : Int → Nat} {x : Int} (hdx : (pf S c x).isSome = true) : ∃ p, S x = some p := by
  unfold pf at hdx
  cases e : S x with
  | none => rw [e] at hdx; cases hdx
  | some p => exact ⟨p, rfl⟩
theorem may_up {S : St} (hd : Dom S) (h : allB S (mayB S) = true) : ∀ k p, S k = some p → p.par ≠ 0 → (S p.par).isSome = true := by
  intro k p hk hne
  have := (allB_true hd).1 h k p hk
  unfold mayB at this
  split at this
  · obtain ⟨x, hx, _⟩ := liv_is.1 this
    rw [hx]; rfl
  · rw [decide_eq_false hne, Bool.false_or] at this
    exact this
set_option maxRecDepth 100000 in
set_option maxHeartbeats 4000000 in
theorem isForest_at (B b : Nat) (S : St) (w : World) (h : PrAt w B b S) :
    Calls Try.prog 38 #[ptr b] w fun e w' => e = .returned (.bool (frB S)) ∧ Below w.heap.size w w' := by
  obtain ⟨mo, c, h⟩ := h
  have HH : Hid (PrIs w B b mo c S) := h
  have HM : Hid (MapO w .i64 mo (pf S c)) := h.map
  have HD : Hid (Dom S) := h.dom
  have c0 := h.cell
  clear h
  go_enter Try.func38, Try.ntmps38
  go_wp2_with (first | (at_range; refine wpList_range_o rfl _ _ _ _ rfl Try.underlying64 .i64 mo (pf S c) rfl HM.out ?_; intro w0 n0 hrg0 hb0 hs0) | go_in)
  go_frame
  have HR0 : Hid (RngO w0 .i64 mo w.heap.size (pf S c) (fun a => (pf S c a).isSome) n0) := hrg0
  have HB0 : Hid (Below w.heap.size w w0) := hb0
  obtain ⟨r, hr⟩ : ∃ r, r = w.heap.size := ⟨_, rfl⟩
  rw [← hr] at HR0 ⊢
  have Hr : Hid (r = w.heap.size) := hr
  clear hrg0 hb0 hs0 c0 hr
  go_loopw [] (fun wr => ∃ (left : Int → Bool) (n : Nat), RngO wr .i64 mo r (pf S c) left n ∧ Below w.heap.size w wr ∧ ∀ k p, S k = some p → left k = false → mayB S p = true) (fun wr => mleft mo r wr)
  case atStart => exact ⟨_, n0, HR0.out, HB0.out, fun k p hk hl => (by rw [pf_some, hk] at hl; cases hl)⟩
  case round =>
    clear HR0 HB0
    obtain ⟨left, n, hrg, hB, hM⟩ := hrel
    have HRg : Hid (RngO wr .i64 mo r (pf S c) left n) := hrg
    have HB : Hid (Below w.heap.size w wr) := hB
    have HMa : Hid (∀ k p, S k = some p → left k = false → mayB S p = true) := hM
    clear hrg hB hM
    go_wp2_with (first | (at_next; refine wpList_next_o rfl _ rfl .i64 mo r (pf S c) (fun x => ptr (c x)) pf_ptr left n rfl HRg.out ?_ ?_) | go_in)
    · intro hl0
      have HA : Hid (allB S (mayB S) = true) := (allB_true HD.out).2 (fun k p hk => HMa.out k p hk (hl0 k))
      have hP := HH.out.below HB.out
      have HP : Hid (PrIs wr B b mo c S) := hP
      have HM2 : Hid (MapO wr .i64 mo (pf S c)) := hP.map
      have c0 := hP.cell
      clear hl0 HMa HRg hP
      go_wp2_with (first | (at_range; refine wpList_range_o rfl _ _ _ _ rfl Try.underlying64 .i64 mo (pf S c) rfl HM2.out ?_; intro w3 n3 hrg3 hb3 hs3) | go_in)
      go_frame
      have HR3 : Hid (RngO w3 .i64 mo wr.heap.size (pf S c) (fun a => (pf S c a).isSome) n3) := hrg3
      have HB3 : Hid (Below w.heap.size w w3) := HB.out.trans (hb3.mono HB.out.size)
      obtain ⟨r2, hr2⟩ : ∃ r2, r2 = wr.heap.size := ⟨_, rfl⟩
      rw [← hr2] at HR3 ⊢
      have Hr2 : Hid (w.heap.size ≤ r2) := by show w.heap.size ≤ r2; rw [hr2]; exact HB.out.size
      clear hrg3 hb3 hs3 c0 hr2 HP HM2 HB
      go_loopw [] (fun wr => ∃ (left : Int → Bool) (n : Nat), RngO wr .i64 mo r2 (pf S c) left n ∧ Below w.heap.size w wr ∧ ∀ k p, S k = some p → left k = false → rootB S 8 p = true) (fun wr => mleft mo r2 wr)
      case atStart => exact ⟨_, n3, HR3.out, HB3.out, fun k p hk hl => (by rw [pf_some, hk] at hl; cases hl)⟩
      case round =>
        clear HR3 HB3
        obtain ⟨left2, n2, hrg, hB, hM⟩ := hrel
        have HRg : Hid (RngO wr .i64 mo r2 (pf S c) left2 n2) := hrg
        have HB : Hid (Below w.heap.size w wr) := hB
        have HMa : Hid (∀ k p, S k = some p → left2 k = false → rootB S 8 p = true) := hM
        clear hrg hB hM
        go_wp2_with (first | (at_next; refine wpList_next_o rfl _ rfl .i64 mo r2 (pf S c) (fun x => ptr (c x)) pf_ptr left2 n2 rfl HRg.out ?_ ?_) | go_in)
        · intro hl0
          have HE : Hid (frB S = true) := by
            show frB S = true
            unfold frB
            rw [HA.out, (allB_true HD.out).2 (fun k p hk => HMa.out k p hk (hl0 k))]
            rfl
          clear hl0
          go_wp2
          go_ret
          exact ⟨by rw [HE.out]; rfl, HB.out⟩
        · intro x w1 n1 hlx hdx hrg1 hlt1 hu1 hs1 hen
          have HRg1 : Hid (RngO w1 .i64 mo r2 (pf S c) (fun z => left2 z && z != x) n1) := hrg1
          have HLt : Hid (n1 < n2) := hlt1
          have HB1 : Hid (Below w.heap.size w w1) := below_upd HB.out hu1 Hr2.out HB.out.size
          obtain ⟨p, hp⟩ := hit_of hdx
          have hRo := root_at B b mo c S x p w1 (HH.out.below HB1.out) hp (may_up HD.out HA.out)
          have HPx : Hid (S x = some p) := hp
          clear hrg1 hlt1 hu1 hs1 hdx hp hlx
          generalize hcx : c x = cx at *
          clear hcx
          go_wp2_with fail
          refine hRo.mono ?_
          rintro e w2 ⟨rfl, q, hw⟩
          rw [hw]
          clear hw w2 hRo hen
          have HRg2 : Hid (RngO (w1.drewN q) .i64 mo r2 (pf S c) (fun z => left2 z && z != x) n1) := HRg1.out.of_blocks (fun _ _ => rfl) rfl
          have HB2 : Hid (Below w.heap.size w (w1.drewN q)) := HB1.out.trans ((drewN_bel w1 q).mono HB1.out.size)
          generalize w1.drewN q = W at *
          cases hm : rootB S 8 p with
          | true =>
            have HMa2 : Hid (∀ k p, S k = some p → (left2 k && k != x) = false → rootB S 8 p = true) := by
              intro k q hk hl
              by_cases e : k = x
              · rw [e, HPx.out] at hk; cases hk; exact hm
              · rw [bne_iff_ne.2 e, Bool.and_true] at hl
                exact HMa.out k q hk hl
            clear hm HB1 HRg1
            go_wp2
            go_roundw
            case rel => exact ⟨_, n1, HRg2.out, HB2.out, HMa2.out⟩
            case measure => rw [HRg2.out.left_eq, HRg.out.left_eq]; exact HLt.out
          | false =>
            have HE : Hid (frB S = false) := by
              show frB S = false
              unfold frB
              rw [allB_false HD.out HPx.out hm, Bool.and_false]
            clear hm HB1 HRg1
            go_wp2
            go_ret
            exact ⟨by rw [HE.out]; rfl, HB2.out⟩
    · intro x w1 n1 hlx hdx hrg1 hlt1 hu1 hs1 hen
      have HRg1 : Hid (RngO w1 .i64 mo r (pf S c) (fun z => left z && z != x) n1) := hrg1
      have HLt : Hid (n1 < n) := hlt1
      have HB1 : Hid (Below w.heap.size w w1) := below_upd HB.out hu1 (by have := Hr.out; omega) HB.out.size
      obtain ⟨p, hp⟩ := hit_of hdx
      have hP1 := HH.out.below HB1.out
      have hRo := may_at B b (c x) S p w1 ⟨mo, c, hP1⟩ (hP1.pr x p hp)
      have HPx : Hid (S x = some p) := hp
      clear hrg1 hlt1 hu1 hs1 hdx hp hlx hP1
      generalize hcx : c x = cx at *
      clear hcx
      go_wp2_with fail
      refine hRo.mono ?_
      rintro e w2 ⟨rfl, q, hw⟩
      rw [hw]
      clear hw w2 hRo hen
      have HRg2 : Hid (RngO (w1.drewN q) .i64 mo r (pf S c) (fun z => left z && z != x) n1) := HRg1.out.of_blocks (fun _ _ => rfl) rfl
      have HB2 : Hid (Below w.heap.size w (w1.drewN q)) := HB1.out.trans ((drewN_bel w1 q).mono HB1.out.size)
      generalize w1.drewN q = W at *
      cases hm : mayB S p with
      | true =>
        have HMa2 : Hid (∀ k p, S k = some p → (left k && k != x) = false → mayB S p = true) := by
          intro k q hk hl
          by_cases e : k = x
          · rw [e, HPx.out] at hk; cases hk; exact hm
          · rw [bne_iff_ne.2 e, Bool.and_true] at hl
            exact HMa.out k q hk hl
        clear hm HB1 HRg1
        go_wp2
        go_roundw
        case rel => exact ⟨_, n1, HRg2.out, HB2.out, HMa2.out⟩
        case measure => rw [HRg2.out.left_eq, HRg.out.left_eq]; exact HLt.out
      | false =>
        have HE : Hid (frB S = false) := by
          show frB S = false
          unfold frB
          rw [allB_false HD.out HPx.out hm, Bool.false_and]
        clear hm HB1 HRg1
        go_wp2
        go_ret
        exact ⟨by rw [HE.out]; rfl, HB2.out⟩
end Go.Proofs.Ytfcpcncafopobaa
