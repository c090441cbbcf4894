/- The kernel of blocks: extent, may, anyHas, Alloc, Grant, Revoke, Gone. -/
import Derived.Test.YtfnafjddajgahabXdA
import Derived.OwnWalk
namespace Go.Proofs.Ytfnafjddajgahab
open Go.RowKit Ca
set_option linter.unusedVariables false

section
variable {w w' : World} {K : Nat} {Y : Yd} {n m : Nat} {vs : List Int} {l : Lines} {T : Tab}
theorem xcap_at (h : KAt w K Y n m vs l T) (e s : Int) :
    Calls Try.prog 52 #[ptr K, .int .i64 e, .int .i64 s] w fun x w' => x = .returned (.tuple #[.agg (cpRow (getT T e s)), .bool (getT T e s).is]) ∧ Below w.heap.size w w' := by
  obtain ⟨W, hW⟩ : ∃ W, W = w.alloc (.cells #[.int .i64 0, .int .i64 0, .int .i64 0, .int .i64 0] 68) := ⟨_, rfl⟩
  have hbW : Below w.heap.size w W := by rw [hW]; exact below_alloc _ _
  have hsW : W.heap.size = w.heap.size + 1 := by rw [hW]; simp
  have hbox : W.heap[w.heap.size]? = some (.cells #[.int .i64 0, .int .i64 0, .int .i64 0, .int .i64 0] 68) := by rw [hW]; exact heap_alloc_new _ _
  have hg := Ca.get_at Y.cb T e s W (h.below hbW).caps
  have hc := cell_alloc_old h.k3 (.cells #[.int .i64 0, .int .i64 0, .int .i64 0, .int .i64 0] 68)
  have HB : Hid _ := hbW
  have HS : Hid _ := hsW
  have HO : Hid _ := hbox
  clear h hbW hsW hbox
  generalize getT T e s = x at *
  obtain ⟨k, i, q, p⟩ := x
  generalize Cp.is ⟨k, i, q, p⟩ = B at *
  dsimp only [cpRow] at *
  go_enter Try.func52, Try.ntmps52
  go_wp2_with fail
  rw [← hW]
  clear hW
  refine hg.mono ?_
  rintro x w1 ⟨rfl, hb1⟩
  have HB1 : Hid _ := hb1
  have hbx : w1.heap[w.heap.size]? = some (.cells #[.int .i64 0, .int .i64 0, .int .i64 0, .int .i64 0] 68) := (hb1.block _ (by rw [HS.out]; omega)).trans HO.out
  have x0 := cell_of_heap (i := 0) hbx
  have x1 := cell_of_heap (i := 1) hbx
  have x2 := cell_of_heap (i := 2) hbx
  have x3 := cell_of_heap (i := 3) hbx
  have xf := fun i => frozen_of_heap (i := i) hbx
  simp only [List.getElem?_toArray, List.getElem?_cons_zero, List.getElem?_cons_succ] at x0 x1 x2 x3
  clear hb1 hbx hg
  go_wp2
  refine bodyPost_ret (by rw [results_cell_tmp rfl]; go_simp) rfl ⟨rfl, ?_⟩
  exact (((((HB.out.trans (HB1.out.mono (by have := HS.out; omega))).setCell (Nat.le_refl _) _).setCell (Nat.le_refl _) _).setCell (Nat.le_refl _) _).setCell (Nat.le_refl _) _)
theorem xext_at (h : KAt w K Y n m vs l T) (e s r : Int) :
    Calls Try.prog 43 #[ptr K, .int .i64 e, .int .i64 s, .int .i64 r] w fun x w' => x = .returned (.tuple #[.agg (cpRow (extC T e s r)), .bool (hasR T e s r)]) ∧ Below w.heap.size w w' := by
  obtain ⟨W, hW⟩ : ∃ W, W = w.alloc (.cells #[.int .i64 0, .int .i64 0, .int .i64 0, .int .i64 0] 68) := ⟨_, rfl⟩
  have hbW : Below w.heap.size w W := by rw [hW]; exact below_alloc _ _
  have hsW : W.heap.size = w.heap.size + 1 := by rw [hW]; simp
  have hbox : W.heap[w.heap.size]? = some (.cells #[.int .i64 0, .int .i64 0, .int .i64 0, .int .i64 0] 68) := by rw [hW]; exact heap_alloc_new _ _
  have hg := xcap_at (h.below hbW) e s
  have HX : Hid (hasR T e s r = ((getT T e s).is && (bits .and .i64 (getT T e s).rights r != 0))) := rfl
  have HC : Hid (extC T e s r = if hasR T e s r = true then getT T e s else Cp.no) := rfl
  have HB : Hid _ := hbW
  have HS : Hid _ := hsW
  have HO : Hid _ := hbox
  clear h hbW hsW hbox
  generalize extC T e s r = C at *
  generalize hasR T e s r = R at *
  generalize getT T e s = x at *
  obtain ⟨k, i, q, p⟩ := x
  have hcase : (Cp.is ⟨k, i, q, p⟩ = false ∧ R = false ∧ C = Cp.no) ∨ (Cp.is ⟨k, i, q, p⟩ = true ∧ (bits .and .i64 p r == 0) = true ∧ R = false ∧ C = Cp.no) ∨ (Cp.is ⟨k, i, q, p⟩ = true ∧ (bits .and .i64 p r == 0) = false ∧ R = true ∧ C = ⟨k, i, q, p⟩) := by
    have h1 := HX.out
    have h2 := HC.out
    cases hi : Cp.is ⟨k, i, q, p⟩ with
    | false =>
      rw [hi] at h1
      have h1' : R = false := h1
      rw [h1'] at h2
      exact Or.inl ⟨rfl, h1', h2⟩
    | true =>
      rw [hi] at h1
      cases hb : (bits .and .i64 p r == 0) with
      | true =>
        have h1' : R = false := by rw [h1]; simp [bne, hb]
        rw [h1'] at h2
        exact Or.inr (Or.inl ⟨rfl, rfl, h1', h2⟩)
      | false =>
        have h1' : R = true := by rw [h1]; simp [bne, hb]
        rw [h1'] at h2
        exact Or.inr (Or.inr ⟨rfl, rfl, h1', h2⟩)
  clear HX HC
  rcases hcase with ⟨hi, hR, hCC⟩ | ⟨hi, hbq, hR, hCC⟩ | ⟨hi, hbq, hR, hCC⟩
  all_goals
    rw [hi] at hg
    subst hR
    subst hCC
    clear hi
    dsimp only [cpRow] at *
    go_enter Try.func43, Try.ntmps43
    go_wp2_with fail
    rw [← hW]
    clear hW
    refine hg.mono ?_
    rintro x w1 ⟨rfl, hb1⟩
    have HB1 : Hid _ := hb1
    have hb2 := (below_alloc w1 (.cells #[.int .i64 k, .int .i64 i, .int .i64 q, .int .i64 p] 68))
    have hbx : (w1.alloc (.cells #[.int .i64 k, .int .i64 i, .int .i64 q, .int .i64 p] 68)).heap[w.heap.size]? = some (.cells #[.int .i64 0, .int .i64 0, .int .i64 0, .int .i64 0] 68) :=
      (hb2.block _ (by have := hb1.size; rw [HS.out] at this; omega)).trans ((hb1.block _ (by rw [HS.out]; omega)).trans HO.out)
    have x0 := cell_of_heap (i := 0) hbx
    have x1 := cell_of_heap (i := 1) hbx
    have x2 := cell_of_heap (i := 2) hbx
    have x3 := cell_of_heap (i := 3) hbx
    have xf := fun i => frozen_of_heap (i := i) hbx
    simp only [List.getElem?_toArray, List.getElem?_cons_zero, List.getElem?_cons_succ] at x0 x1 x2 x3
    clear hb1 hb2 hbx hg
    go_wp2
    refine bodyPost_ret (by rw [results_cell_tmp rfl]; go_simp) rfl ⟨rfl, ?_⟩
    exact ((((((HB.out.trans (HB1.out.mono (by have := HS.out; omega))).alloc (by have := HS.out; have := HB1.out.size; omega) _).setCell (Nat.le_refl _) _).setCell (Nat.le_refl _) _).setCell (Nat.le_refl _) _).setCell (Nat.le_refl _) _)

theorem xmay_at (h : KAt w K Y n m vs l T) (e s b r : Int) (hb : I64 b) :
    Calls Try.prog 29 #[ptr K, .int .i64 e, .int .i64 s, .int .i64 b, .int .i64 r] w fun x w' => x = .returned (.bool (mayX T e s b r)) ∧ Below w.heap.size w w' := by
  have hx := xext_at h e s r
  have HO : Hid (hasR T e s r = true → OkX n (extC T e s r)) := fun hr => by
    have : extC T e s r = getT T e s := by unfold extC; rw [if_pos hr]
    rw [this]
    simp only [hasR, Bool.and_eq_true] at hr
    exact h.inv.get hr.1
  have HM : Hid (mayX T e s b r = (hasR T e s r && (decide ((extC T e s r).id ≤ b) && decide (b - (extC T e s r).id < (extC T e s r).len)))) := by
    show _ = _
    unfold mayX extC
    cases hasR T e s r <;> rfl
  have hn := h.n2
  obtain ⟨b1, b2⟩ := hb
  clear h
  generalize mayX T e s b r = M at *
  generalize extC T e s r = C at *
  generalize hasR T e s r = R at *
  obtain ⟨k, i, q, p⟩ := C
  dsimp only [cpRow] at *
  cases R with
  | false =>
    have hM : M = false := HM.out
    subst hM
    clear HM HO
    go_enter Try.func29, Try.ntmps29
    go_wp2_with fail
    refine hx.mono ?_
    rintro x w1 ⟨rfl, hb1⟩
    go_wp2
    go_ret
    exact ⟨rfl, hb1.alloc hb1.size _⟩
  | true =>
    obtain ⟨_, o1, o2, o3, _⟩ := HO.out rfl
    have hM : M = (decide (i ≤ b) && decide (b - i < q)) := HM.out
    dsimp only at o1 o2 o3
    clear HM HO
    by_cases hib : i ≤ b
    · have g0 : decide (i ≤ b) = true := decide_eq_true hib
      rw [g0, Bool.true_and] at hM
      have HM2 : Hid _ := hM
      clear hM
      go_enter Try.func29, Try.ntmps29
      go_wp2_with fail
      refine hx.mono ?_
      rintro x w1 ⟨rfl, hb1⟩
      go_wp2
      go_ret
      exact ⟨by rw [HM2.out]; rfl, hb1.alloc hb1.size _⟩
    · have g0 : decide (i ≤ b) = false := decide_eq_false hib
      rw [g0, Bool.false_and] at hM
      subst hM
      go_enter Try.func29, Try.ntmps29
      go_wp2_with fail
      refine hx.mono ?_
      rintro x w1 ⟨rfl, hb1⟩
      go_wp2
      go_ret
      exact ⟨rfl, hb1.alloc hb1.size _⟩

theorem xany_at (h : KAt w K Y n m vs l T) (f k : Nat) (hk : f + k ≤ n) :
    Calls Try.prog 27 #[ptr K, .int .i64 f, .int .i64 k] w fun x w' => x = .returned (.bool (anyX T f k)) ∧ Below w.heap.size w w' := by
  have hn := h.n2
  have HH : Hid _ := h
  clear h
  go_enter Try.func27, Try.ntmps27
  go_wp2
  go_loopw [7] (fun s wr => ∃ (j : Nat), j ≤ k ∧ s = .int .i64 (f + j : Nat) ∧ anyX T f j = false ∧ Below w.heap.size w wr) (fun s _ => f + k - (intOf s).toNat)
  case atStart => exact ⟨0, by omega, rfl, rfl, Below.refl _ _⟩
  case round =>
    obtain ⟨j, hj, rfl, hno, hb⟩ := hrel
    by_cases hjk : j < k
    · have hK := HH.out.below hb
      have hc := hK.k3
      have hh := holders_at Y.cb T 2 (f + j : Nat) wr hK.caps hK.sanes ⟨by omega, by omega⟩
      have i1 : ((f + j : Nat) : Int) < (f : Int) + (k : Int) := by omega
      have HN : Hid _ := hno
      have HB : Hid _ := hb
      have HE : Hid (anyX T f (j + 1) = (anyX T f j || !(holdTo T 2 (f + j : Nat) 12).isEmpty)) := by
        show _ = _
        rw [show (((f + j : Nat) : Int)) = (f : Int) + (j : Int) from by omega]
        rfl
      clear hno hb hK
      generalize holdTo T 2 (f + j : Nat) 12 = L at *
      go_wp2_with fail
      refine hh.mono ?_
      rintro x w1 ⟨v, rfl, hown, hb1⟩
      have HB1 : Hid (Below w.heap.size w w1) := HB.out.trans (hb1.mono HB.out.size)
      obtain ⟨a, cap, rfl⟩ : ∃ a cap, v = .slice a L.length cap := by
        rcases hown.2 with ⟨e2, e3⟩ | ⟨g, cap, cur, e2, _⟩
        · exact ⟨none, 0, by rw [e2, e3]⟩
        · exact ⟨_, _, e2⟩
      clear hh hown hb1
      cases L with
      | nil =>
        go_wp2
        go_roundw
        case rel => exact ⟨j + 1, by omega, by go_num, by rw [HE.out, HN.out]; rfl, HB1.out⟩
        case measure => simp [intOf]; omega
      | cons d L =>
        have i2 : 0 < (d :: L).length := by simp
        have HA : Hid (anyX T f k = true) := by
          show _ = _
          have h1 : anyX T f (j + 1) = true := by rw [HE.out, HN.out]; rfl
          clear HE HN
          have : ∀ d, anyX T f (j + 1 + d) = true := by
            intro d
            induction d with
            | zero => exact h1
            | succ d ih => show (anyX T f (j + 1 + d) || _) = true; rw [ih]; rfl
          have := this (k - (j + 1))
          rwa [show j + 1 + (k - (j + 1)) = k from by omega] at this
        clear HE HN
        generalize (d :: L).length = z at *
        go_wp2
        go_ret
        exact ⟨by rw [HA.out]; rfl, HB1.out⟩
    · obtain rfl : j = k := by omega
      have i1 : ¬ (((f + j : Nat) : Int) < (f : Int) + (j : Int)) := by omega
      have HN : Hid _ := hno
      clear hno
      go_wp2
      go_ret
      exact ⟨by rw [HN.out]; rfl, hb⟩

theorem areX_nat {f k : Int} (h : areX n f k = true) : ∃ f' k' : Nat, f = f' ∧ k = k' ∧ f' + k' ≤ n ∧ 1 ≤ k' := by
  simp only [areX, Bool.and_eq_true, decide_eq_true_eq] at h
  exact ⟨f.toNat, k.toNat, by omega, by omega, by omega, by omega⟩

theorem xalloc_at (h : KAt w K Y n m vs l T) (e f k : Int) (hf : I64 f) (hk : I64 k) :
    Calls Try.prog 7 #[ptr K, .int .i64 e, .int .i64 f, .int .i64 k] w fun x w' => x = .returned (.tuple #[.int .i64 (xallocA T n e f k), .int .i64 (xallocR T n e f k)]) ∧ KAt w' K Y n m vs l (xallocT T n e f k) ∧ UpdP (XFoot Y) w w' := by
  have hE := fun W => xisEnv_at e W
  have hA := xare_at h f k hf hk
  have HH : Hid _ := h
  have HI : Hid (XInv (xallocT T n e f k) n) := h.inv.alloc e f k
  have HQ : Hid (xallocA T n e f k = if (isE e && areX n f k) = true then (if anyX T f k.toNat = true then 0 else addA T e ⟨2, f, k, 7⟩) else 0) := rfl
  have HR : Hid (xallocR T n e f k = if (isE e && areX n f k) = true then (if anyX T f k.toNat = true then 104 else addR T e ⟨2, f, k, 7⟩) else 101) := rfl
  have HT : Hid (xallocT T n e f k = if (isE e && areX n f k) = true then (if anyX T f k.toNat = true then T else addT T e ⟨2, f, k, 7⟩) else T) := rfl
  have hc := h.k3
  clear hf hk
  generalize xallocA T n e f k = A at *
  generalize xallocR T n e f k = R at *
  generalize xallocT T n e f k = T' at *
  cases he : isE e with
  | false =>
    rw [he] at hE
    have hAA : A = 0 := by rw [HQ.out, he]; rfl
    have hRR : R = 101 := by rw [HR.out, he]; rfl
    have hTT : T' = T := by rw [HT.out, he]; rfl
    subst hAA hRR hTT
    clear HQ HR HT he h hc hA
    go_enter Try.func7, Try.ntmps7
    go_wp2_with (go_at_call 25; refine (hE _).mono ?_; rintro x w1 ⟨rfl, hw1⟩; rw [hw1]; clear hw1 w1)
    go_ret2
    exact ⟨rfl, HH.out, UpdP.refl _ _⟩
  | true =>
    rw [he] at hE HQ HR HT
    cases ha : areX n f k with
    | false =>
      rw [ha] at hA
      have hAA : A = 0 := by rw [HQ.out, ha]; rfl
      have hRR : R = 101 := by rw [HR.out, ha]; rfl
      have hTT : T' = T := by rw [HT.out, ha]; rfl
      subst hAA hRR hTT
      clear HQ HR HT he h hc ha
      go_enter Try.func7, Try.ntmps7
      go_wp2_with (first | (go_at_call 25; refine (hE _).mono ?_; rintro x w1 ⟨rfl, hw1⟩; rw [hw1]; clear hw1 w1) | (go_at_call 26; refine hA.mono ?_; rintro x w1 ⟨rfl, hw1⟩; rw [hw1]; clear hw1 w1))
      go_ret2
      exact ⟨rfl, HH.out, UpdP.refl _ _⟩
    | true =>
      rw [ha] at hA HQ HR HT
      obtain ⟨f, k, rfl, rfl, hfk, hk1⟩ := areX_nat ha
      have hY := xany_at h f k hfk
      simp only [Int.toNat_natCast] at HQ HR HT
      cases hy : anyX T f k with
      | true =>
        rw [hy] at hY
        have hAA : A = 0 := by rw [HQ.out]; simp [hy]
        have hRR : R = 104 := by rw [HR.out]; simp [hy]
        have hTT : T' = T := by rw [HT.out]; simp [hy]
        subst hAA hRR hTT
        clear HQ HR HT he h hc ha hy
        go_enter Try.func7, Try.ntmps7
        go_wp2_with (first | (go_at_call 25; refine (hE _).mono ?_; rintro x w1 ⟨rfl, hw1⟩; rw [hw1]; clear hw1 w1) | (go_at_call 26; refine hA.mono ?_; rintro x w1 ⟨rfl, hw1⟩; rw [hw1]; clear hw1 w1) | (go_at_call 27; refine hY.mono ?_; rintro x w1 ⟨rfl, hb1⟩))
        go_ret2
        exact ⟨rfl, HH.out.below hb1, UpdP.of_below hb1⟩
      | false =>
        rw [hy] at hY
        have hAA : A = addA T e ⟨2, f, k, 7⟩ := by rw [HQ.out]; simp [hy]
        have hRR : R = addR T e ⟨2, f, k, 7⟩ := by rw [HR.out]; simp [hy]
        have hTT : T' = addT T e ⟨2, f, k, 7⟩ := by rw [HT.out]; simp [hy]
        clear HQ HR HT he h hc ha hy
        go_enter Try.func7, Try.ntmps7
        have HA3 : Hid _ := hAA
        have HR3 : Hid _ := hRR
        have HT3 : Hid _ := hTT
        clear hAA hRR hTT
        go_wp2_with (first | (go_at_call 25; refine (hE _).mono ?_; rintro x w1 ⟨rfl, hw1⟩; rw [hw1]; clear hw1 w1) | (go_at_call 26; refine hA.mono ?_; rintro x w1 ⟨rfl, hw1⟩; rw [hw1]; clear hw1 w1) | (go_at_call 27; refine hY.mono ?_; rintro x w1 ⟨rfl, hb1⟩; have hc1 := (HH.out.below hb1).k3) | fail)
        have hadd := Ca.add_at Y.cb T e ⟨2, f, k, 7⟩ w1 (HH.out.below hb1).caps
        rw [← HA3.out, ← HR3.out, ← HT3.out] at hadd
        dsimp only [cpRow] at hadd
        refine hadd.mono ?_
        rintro x w2 ⟨rfl, hC2, hu2⟩
        have HK : Hid _ := (HH.out.below hb1).updC hC2 HI.out hu2
        have HU : Hid (UpdP (XFoot Y) w w2) := (UpdP.of_below hb1).trans (hu2.p _ (Or.inr (Or.inr (Or.inr rfl))))
        clear hC2 hu2 hadd
        go_wp2
        go_ret2
        exact ⟨rfl, HK.out, HU.out⟩

theorem xgrant_at (h : KAt w K Y n m vs l T) (e s q r : Int) :
    Calls Try.prog 14 #[ptr K, .int .i64 e, .int .i64 s, .int .i64 q, .int .i64 r] w fun x w' => x = .returned (.tuple #[.int .i64 (giveA T e s q r), .int .i64 (giveR T e s q r)]) ∧ KAt w' K Y n m vs l (giveT T e s q r) ∧ UpdP (XFoot Y) w w' := by
  have hg := give_at Y.cb T e s q r w h.caps
  have hc := h.k3
  have HH : Hid _ := h
  have HI : Hid _ := h.inv.give e s q r
  clear h
  generalize giveA T e s q r = A at *
  generalize giveR T e s q r = R at *
  generalize giveT T e s q r = T' at *
  go_enter Try.func14, Try.ntmps14
  go_wp2_with fail
  refine hg.mono ?_
  rintro x w1 ⟨rfl, hC1, hu1⟩
  have HK : Hid _ := HH.out.updC hC1 HI.out hu1
  have HU : Hid (UpdP (XFoot Y) w w1) := hu1.p _ (Or.inr (Or.inr (Or.inr rfl)))
  clear hC1 hu1 hg
  go_wp2
  go_ret2
  exact ⟨rfl, HK.out, HU.out⟩

theorem xrevoke_caps (cb : Nat) (h : CapsAt w cb T) (e s : Int) :
    Calls Try.prog 36 #[ptr cb, .int .i64 e, .int .i64 s] w fun x w' => ∃ N : Int, x = .returned (.tuple #[.int .i64 N, .int .i64 (revR T e s)]) ∧ CapsAt w' cb (revT T e s) ∧ Upd cb w w' := by
  cases hi : (getT T e s).is with
  | false =>
    refine (Ca.revoke_no cb T e s w h hi).mono ?_
    rintro x w' ⟨hx, hb⟩
    refine ⟨0, by rw [hx]; unfold revR; rw [hi]; rfl, ?_, Upd.of_below hb⟩
    unfold revT
    rw [hi]
    exact h.below hb
  | true =>
    refine (Ca.revoke_yes cb T e s w h hi).mono ?_
    rintro x w' ⟨N, hN, hx, hc, hu⟩
    refine ⟨N, by rw [hx]; unfold revR; rw [if_pos hi], ?_, hu⟩
    rw [revT_is hi hN]
    exact hc
theorem xrevoke_at (h : KAt w K Y n m vs l T) (e s : Int) :
    Calls Try.prog 19 #[ptr K, .int .i64 e, .int .i64 s] w fun x w' => x = .returned (.int .i64 (revR T e s)) ∧ KAt w' K Y n m vs l (revT T e s) ∧ UpdP (XFoot Y) w w' := by
  have hg := xrevoke_caps Y.cb h.caps e s
  have hc := h.k3
  have HH : Hid _ := h
  have HI : Hid _ := h.inv.rev e s
  clear h
  generalize revR T e s = R at *
  generalize revT T e s = T' at *
  go_enter Try.func19, Try.ntmps19
  go_wp2_with fail
  refine hg.mono ?_
  rintro x w1 ⟨N, rfl, hC1, hu1⟩
  have HK : Hid _ := HH.out.updC hC1 HI.out hu1
  have HU : Hid (UpdP (XFoot Y) w w1) := hu1.p _ (Or.inr (Or.inr (Or.inr rfl)))
  clear hC1 hu1 hg
  go_wp2
  go_ret
  exact ⟨rfl, HK.out, HU.out⟩
theorem xgone_at (h : KAt w K Y n m vs l T) (e : Int) :
    Calls Try.prog 18 #[ptr K, .int .i64 e] w fun x w' => x = .returned (.tuple #[]) ∧ KAt w' K Y n m vs l (goneT T e 64) ∧ UpdP (XFoot Y) w w' := by
  have hg := Ca.gone_at Y.cb T e w h.caps h.sanes
  have hc := h.k3
  have HH : Hid _ := h
  have HI : Hid _ := h.inv.gone e 64
  clear h
  generalize goneT T e 64 = T' at *
  go_enter Try.func18, Try.ntmps18
  go_wp2_with fail
  refine hg.mono ?_
  rintro x w1 ⟨rfl, hC1, hu1⟩
  have HK : Hid _ := HH.out.updC hC1 HI.out hu1
  have HU : Hid (UpdP (XFoot Y) w w1) := hu1.p _ (Or.inr (Or.inr (Or.inr rfl)))
  clear hC1 hu1 hg
  go_wp2
  go_end0
  exact ⟨rfl, HK.out, HU.out⟩
end
end Go.Proofs.Ytfnafjddajgahab
