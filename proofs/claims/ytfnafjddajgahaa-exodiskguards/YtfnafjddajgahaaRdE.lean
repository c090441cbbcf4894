/- The reference kernel of blocks: Give, Revoke, Gone, Alloc, New. -/
import Derived.Test.YtfnafjddajgahaaRdD
namespace Go.Proofs.Ytfnafjddajgahaa
open Go.RowKit Ca
set_option linter.unusedVariables false

/-- What a call that may add a capability leaves. -/
def Gw (w' : World) (X : Nat) (Q : Rq) (n m : Nat) (vs : List Int) (l : Lines) (L : List Ce) (last : Int) (T : Tab) : Prop :=
  ∃ L' last', RkX w' X Q n m vs l L' last' ∧ Rel T L' last' ∧ 0 ≤ last' ∧ L'.length ≤ L.length + 1 ∧ last' ≤ last + 1
theorem rev_N (T : Tab) (p : Int × Int) (hp : p.2 ≠ 0) : ∃ N, (Ca.revS T p (N + 1)).2.length = N + 1 := by
  have mono : ∀ i, (Ca.revS T p i).2.length ≤ (Ca.revS T p (i + 1)).2.length := by
    intro i
    show _ ≤ (Ca.revS T p (i + 1)).2.length
    rw [Ca.revS]
    split
    · exact Nat.le_refl _
    · simp
  have step : ∀ i, (∃ N, (Ca.revS T p (N + 1)).2.length = N + 1) ∨ i < (Ca.revS T p i).2.length := by
    intro i
    induction i with
    | zero => right; simp [Ca.revS]
    | succ i ih =>
      rcases ih with h | h
      · exact Or.inl h
      · have := mono i
        by_cases e : (Ca.revS T p (i + 1)).2.length = i + 1
        · exact Or.inl ⟨i, e⟩
        · right; omega
  rcases step 769 with h | h
  · exact h
  · have := revS_len T p hp 769
    omega
theorem rrev_len (L : List Ce) (root : Int) (bad : List Int) : (rrevL L root bad).length ≤ L.length := List.length_filter_le _ _

section
variable {w w' : World} {X : Nat} {Q : Rq} {n m : Nat} {vs : List Int} {l : Lines} {L : List Ce} {last : Int} {T : Tab}
theorem rfC {w1 : World} (hu : Upd Q.c w w1) : UpdP (RF X Q) w w1 := hu.p _ (Or.inr (Or.inr (Or.inr (Or.inl rfl))))
theorem rxgive_at (h : RkX w X Q n m vs l L last) (hk : Lx T L last n) (e s q r : Int) :
    Calls Try.prog 75 #[ptr Q.c, .int .i64 e, .int .i64 s, .int .i64 q, .int .i64 r] w fun x w' => x = .returned (.tuple #[.int .i64 (giveA T e s q r), .int .i64 (giveR T e s q r)]) ∧ Gw w' X Q n m vs l L last (giveT T e s q r) ∧ UpdP (RF X Q) w w' := by
  obtain ⟨sv, hC⟩ := h.caps
  have hl := hk.len
  have ht := hk.top
  rcases hk.rel.find e s with ⟨hf, hi⟩ | ⟨k, d, hf, hd, rfl, rfl, hg, hi⟩
  · obtain ⟨q1, q2, q3⟩ := Rel.giveNo hi q r
    rw [q1, q2, q3]
    refine (rgive_no Q.M Q.c sv L last e s q r w hC (by omega) hf).mono ?_
    rintro x w' ⟨hx, rfl⟩
    exact ⟨hx, ⟨L, last, h, hk.rel, hk.pos, by omega, by omega⟩, UpdP.refl _ _⟩
  · obtain ⟨q1, q2, q3, q4, q5, q6⟩ := hk.rel.give hk.pos (List.mem_of_getElem? hd) hg hi q r
    rw [q1, q2]
    refine (rgive_yes Q.M Q.c sv L last d.env d.slot q r k d w hC h.MS (by omega) ⟨hk.pos, by omega⟩ hf hd).mono ?_
    rintro x w' ⟨hx, sv', hc', hu⟩
    have hp := hk.pos
    exact ⟨hx, ⟨_, _, h.updC hc' hu, q3, by omega, q4, q6⟩, rfC hu⟩
theorem rxrevoke_at (h : RkX w X Q n m vs l L last) (hk : Lx T L last n) (e s : Int) :
    Calls Try.prog 76 #[ptr Q.c, .int .i64 e, .int .i64 s] w fun x w' => ∃ N : Int, x = .returned (.tuple #[.int .i64 N, .int .i64 (revR T e s)]) ∧ Gw w' X Q n m vs l L last (revT T e s) ∧ UpdP (RF X Q) w w' := by
  obtain ⟨sv, hC⟩ := h.caps
  have hl := hk.len
  rcases hk.rel.find e s with ⟨hf, hi⟩ | ⟨k, d, hf, hd, rfl, rfl, hg, hi⟩
  · refine (rrevoke_no Q.M Q.c sv L last e s w hC (by omega) hf).mono ?_
    rintro x w' ⟨hx, rfl⟩
    refine ⟨0, by rw [hx]; unfold revR; rw [hi]; rfl, ⟨L, last, h, ?_, hk.pos, by omega, by omega⟩, UpdP.refl _ _⟩
    unfold revT
    rw [hi]
    exact hk.rel
  · have hm := List.mem_of_getElem? hd
    obtain ⟨N, hN⟩ := rev_N T (d.env, d.slot) (hk.rel.slot hm)
    refine (rrevoke_yes Q.M Q.c sv L last d.env d.slot k d w hC h.MS (by omega) hf hd).mono ?_
    rintro x w' ⟨bad, hb, hx, sv', hc', hu⟩
    obtain ⟨_, hr⟩ := hk.rel.rev hm N hN hb
    have hle := rrev_len L d.no bad
    refine ⟨_, by rw [hx]; unfold revR; rw [if_pos hi], ⟨rrevL L d.no bad, last, h.updC hc' hu, ?_, hk.pos, by omega, by omega⟩, rfC hu⟩
    rw [revT_is hi hN]
    exact hr
theorem rxgone_at (h : RkX w X Q n m vs l L last) (hk : Lx T L last n) (e : Int) :
    Calls Try.prog 82 #[ptr Q.c, .int .i64 e] w fun x w' => x = .returned (.tuple #[]) ∧ Gw w' X Q n m vs l L last (goneT T e 64) ∧ UpdP (RF X Q) w w' := by
  obtain ⟨sv, hC⟩ := h.caps
  refine (rgone_at Q.M Q.c sv L last e w hC h.MS (by have := hk.len; omega) hk.rel.rsanes).mono ?_
  rintro x w' ⟨hx, sv', hc', hu⟩
  have hle := rgoneL_len L e 64
  exact ⟨hx, ⟨rgoneL L e 64, last, h.updC hc' hu, hk.rel.gone e 64, hk.pos, by omega, by omega⟩, rfC hu⟩
set_option maxRecDepth 100000 in
set_option maxHeartbeats 2000000 in
theorem rxalloc_at (h : RkX w X Q n m vs l L last) (hk : Lx T L last n) (e f k : Int) (hf : I64 f) (hkk : I64 k) :
    Calls Try.prog 27 #[ptr X, .int .i64 e, .int .i64 f, .int .i64 k] w fun x w' => x = .returned (.tuple #[.int .i64 (xallocA T n e f k), .int .i64 (xallocR T n e f k)]) ∧ Gw w' X Q n m vs l L last (xallocT T n e f k) ∧ UpdP (RF X Q) w w' := by
  have hE := fun W => renv_at e W
  have HH : Hid _ := h
  have HK : Hid _ := hk
  have HQ : Hid (xallocA T n e f k = if (isE e && areX n f k) = true then (if anyX T f k.toNat = true then 0 else addA T e ⟨2, f, k, 7⟩) else 0) := rfl
  have HR : Hid (xallocR T n e f k = if (isE e && areX n f k) = true then (if anyX T f k.toNat = true then 104 else addR T e ⟨2, f, k, 7⟩) else 101) := rfl
  have HT : Hid (xallocT T n e f k = if (isE e && areX n f k) = true then (if anyX T f k.toNat = true then T else addT T e ⟨2, f, k, 7⟩) else T) := rfl
  have x4 := h.x4
  have hn := hk.n2
  have HG : Hid (Gw w X Q n m vs l L last T) := ⟨L, last, h, hk.rel, hk.pos, by omega, by omega⟩
  obtain ⟨f1, f2⟩ := hf
  obtain ⟨k1, k2⟩ := hkk
  generalize xallocA T n e f k = A at *
  generalize xallocR T n e f k = R at *
  generalize xallocT T n e f k = T' at *
  cases he : isE e with
  | false =>
    rw [he] at hE
    have hAA : A = 0 := by rw [HQ.out, he]; rfl
    have hRR : R = 101 := by rw [HR.out, he]; rfl
    have hTT : T' = T := by rw [HT.out, he]; rfl
    subst hAA hRR hTT
    clear HQ HR HT he h hk HH HK
    go_enter Try.func27, Try.ntmps27
    go_wp2_with (go_at_call 67; refine (hE _).mono ?_; rintro x w1 ⟨rfl, hw1⟩; rw [hw1]; clear hw1 w1)
    go_ret2
    exact ⟨rfl, HG.out, UpdP.refl _ _⟩
  | true =>
    rw [he] at hE HQ HR HT
    cases ha : areX n f k with
    | false =>
      have hAA : A = 0 := by rw [HQ.out, ha]; rfl
      have hRR : R = 101 := by rw [HR.out, ha]; rfl
      have hTT : T' = T := by rw [HT.out, ha]; rfl
      subst hAA hRR hTT
      have hcase : k < 1 ∨ (1 ≤ k ∧ f < 0) ∨ (1 ≤ k ∧ 0 ≤ f ∧ (n : Int) ≤ f) ∨ (1 ≤ k ∧ 0 ≤ f ∧ f < n ∧ (n : Int) - f < k) := by
        simp [areX] at ha
        omega
      clear HQ HR HT he h hk HH HK ha
      rcases hcase with g | ⟨g0, g⟩ | ⟨g0, g1, g⟩ | ⟨g0, g1, g2, g⟩
      all_goals
        go_enter Try.func27, Try.ntmps27
        go_wp2_with (go_at_call 67; refine (hE _).mono ?_; rintro x w1 ⟨rfl, hw1⟩; rw [hw1]; clear hw1 w1)
        go_ret2
        exact ⟨rfl, HG.out, UpdP.refl _ _⟩
    | true =>
      rw [ha] at HQ HR HT
      obtain ⟨f, k, rfl, rfl, hfk, hk1⟩ := areX_nat ha
      simp only [Int.toNat_natCast] at HQ HR HT
      clear h hk he ha f1 f2 k1 k2
      have g0 : decide ((k : Int) < 1) = false := decide_eq_false (by omega)
      have g1 : decide ((f : Int) < 0) = false := decide_eq_false (by omega)
      have g2 : decide ((n : Int) ≤ (f : Int)) = false := decide_eq_false (by omega)
      have g3 : decide ((n : Int) - (f : Int) < (k : Int)) = false := decide_eq_false (by omega)
      have g4 : decide (n ≤ f) = false := decide_eq_false (by omega)
      go_enter Try.func27, Try.ntmps27
      go_wp2_with (go_at_call 67; refine (hE _).mono ?_; rintro x w1 ⟨rfl, hw1⟩; rw [hw1]; clear hw1 w1)
      go_loopw [10] (fun s wr => ∃ (j : Nat), j ≤ k ∧ s = .int .i64 (f + j : Nat) ∧ anyX T f j = false ∧ Below w.heap.size w wr) (fun s _ => f + k - (intOf s).toNat)
      case atStart => exact ⟨0, by omega, rfl, rfl, Below.refl _ _⟩
      case round =>
        obtain ⟨j, hj, rfl, hno, hb⟩ := hrel
        have hKr := HH.out.below hb
        have c1 := hKr.x1
        obtain ⟨sv, hC⟩ := hKr.caps
        by_cases hjk : j < k
        · have hh := rhold_at Q.M Q.c sv L last 2 (f + j : Nat) wr hC (by have := HK.out.len; omega) HK.out.rel.rsanes ⟨by omega, by omega⟩
          rw [← HK.out.rel.hold] at hh
          have i1 : ((f + j : Nat) : Int) < (f : Int) + (k : Int) := by omega
          have HN : Hid _ := hno
          have HB : Hid _ := hb
          have HE : Hid (anyX T f (j + 1) = (anyX T f j || !(holdTo T 2 (f + j : Nat) 12).isEmpty)) := by
            show _ = _
            rw [show (((f + j : Nat) : Int)) = (f : Int) + (j : Int) from by omega]
            rfl
          clear hno hb hKr hC
          generalize holdTo T 2 (f + j : Nat) 12 = H at *
          go_wp2_with fail
          refine hh.mono ?_
          rintro x w1 ⟨v, rfl, hown, hb1⟩
          have HB1 : Hid (Below w.heap.size w w1) := HB.out.trans (hb1.mono HB.out.size)
          obtain ⟨a, cap, rfl⟩ : ∃ a cap, v = .slice a H.length cap := by
            rcases hown.2 with ⟨e2, e3⟩ | ⟨g, cap, cur, e2, _⟩
            · exact ⟨none, 0, by rw [e2, e3]⟩
            · exact ⟨_, _, e2⟩
          clear hh hown hb1
          cases H with
          | nil =>
            go_wp2
            go_roundw
            case rel => exact ⟨j + 1, by omega, by go_num, by rw [HE.out, HN.out]; rfl, HB1.out⟩
            case measure => simp [intOf]; omega
          | cons d H =>
            have i2 : 0 < (d :: H).length := by simp
            have HA : Hid (anyX T f k = true) := by
              show _ = _
              have h1 : anyX T f (j + 1) = true := by rw [HE.out, HN.out]; rfl
              clear HE HN
              have : ∀ d, anyX T f (j + 1 + d) = true := by
                intro d
                induction d with
                | zero => exact h1
                | succ d ih => show (anyX T f (j + 1 + d) || _) = true; rw [ih]; rfl
              have := this (k - (j + 1))
              rwa [show j + 1 + (k - (j + 1)) = k from by omega] at this
            have hA3 : A = 0 := by rw [HQ.out]; simp [HA.out]
            have hR3 : R = 104 := by rw [HR.out]; simp [HA.out]
            have hT3 : T' = T := by rw [HT.out]; simp [HA.out]
            have HA3 : Hid _ := hA3
            have HR3 : Hid _ := hR3
            have HT3 : Hid _ := hT3
            clear HE HN hA3 hR3 hT3
            generalize (d :: H).length = z at *
            go_wp2
            go_ret2
            refine ⟨by rw [HA3.out, HR3.out]; rfl, ?_, UpdP.of_below HB1.out⟩
            rw [HT3.out]
            exact ⟨L, last, HH.out.below HB1.out, HK.out.rel, HK.out.pos, by omega, by omega⟩
        · obtain rfl : j = k := by omega
          have i1 : ¬ (((f + j : Nat) : Int) < (f : Int) + (j : Int)) := by omega
          have hadd := radd_at Q.M Q.c sv L last e ⟨2, f, j, 7⟩ wr hC hKr.MS (by have := HK.out.len; omega) ⟨HK.out.pos, by have := HK.out.top; omega⟩
          obtain ⟨p1, p2, p3, p4, p5, p6⟩ := HK.out.rel.add HK.out.pos e ⟨2, f, j, 7⟩
          rw [← p1, ← p2] at hadd
          have hA3 : A = addA T e ⟨2, f, j, 7⟩ := by rw [HQ.out]; simp [hno]
          have hR3 : R = addR T e ⟨2, f, j, 7⟩ := by rw [HR.out]; simp [hno]
          have hT3 : T' = addT T e ⟨2, f, j, 7⟩ := by rw [HT.out]; simp [hno]
          rw [← hA3, ← hR3] at hadd
          rw [← hT3] at p3
          dsimp only [cpRow] at hadd
          have HKr : Hid _ := hKr
          have HP : Hid (Rel T' (raddL L last e ⟨2, f, j, 7⟩) (raddN L last e ⟨2, f, j, 7⟩) ∧ 0 ≤ raddN L last e ⟨2, f, j, 7⟩ ∧ (raddL L last e ⟨2, f, j, 7⟩).length ≤ L.length + 1 ∧ raddN L last e ⟨2, f, j, 7⟩ ≤ last + 1) := ⟨p3, by have := HK.out.pos; omega, p4, p6⟩
          have HB : Hid _ := hb
          clear hno hb hC hA3 hR3 hT3 p1 p2 p3 p4 p5 p6 HQ HR HT hKr
          go_wp2_with fail
          refine hadd.mono ?_
          rintro x w2 ⟨rfl, sv2, hc2, hu2⟩
          have HF : Hid (Gw w2 X Q n m vs l L last T') := ⟨_, _, HKr.out.updC hc2 hu2, HP.out.1, HP.out.2.1, HP.out.2.2.1, HP.out.2.2.2⟩
          have HU : Hid (UpdP (RF X Q) w w2) := (UpdP.of_below HB.out).trans (rfC hu2)
          clear hc2 hu2 hadd
          go_wp2
          go_ret2
          exact ⟨rfl, HF.out, HU.out⟩
end
theorem rowInfo : (Try.prog.info? 58).map (fun i => (i.zero, i.size, i.bytes)) = some (some (.slice none 0 0), 1, 24) := by kernel_rfl
def nils (n : Nat) : Array Value := Array.replicate (n * 1) (.slice none 0 0)
theorem make_rows (n : Nat) (h : n ≤ 1024) (w : World) : (Instr.makeSlice 114 (.int .i64 (n : Int)) (.int .i64 (n : Int))).run Try.prog w = .ok (.slice (some ⟨w.heap.size, 0, none⟩) n n) (w.alloc (.cells (nils n) 58)) :=
  run_make_flat 114 58 (.slice none 0 0) (.slice none 0 0) 1 24 Try.underlying114 rowInfo rfl (by omega) .i64 .i64 n (by omega) (by omega) w
theorem in_zero (n : Nat) : inL L0 n = [] ∧ newL L0 n = [] := by
  constructor
  · unfold inL fl
    rw [List.map_eq_nil_iff, List.filter_eq_nil_iff]
    intro i _ h
    cases h
  · unfold newL fl
    rw [List.map_eq_nil_iff, List.filter_eq_nil_iff]
    intro i _ h
    cases h
set_option maxRecDepth 100000 in
set_option maxHeartbeats 2000000 in
theorem rxnew_at (n : Int) (w : World) (h1 : 1 ≤ n) (h2 : n ≤ 1024) :
    Calls Try.prog 25 #[.int .i64 n] w fun x w' => ∃ X Q, x = .returned (ptr X) ∧ RkX w' X Q n.toNat 0 (List.replicate (n.toNat * 32) 0) L0 [] 0 ∧ Below w.heap.size w w' ∧ ∀ k, RF X Q k → w.heap.size ≤ k := by
  obtain ⟨n, rfl⟩ := nat_of n (by omega)
  simp only [Int.toNat_natCast]
  have hnew := Di.rnew_ref n w h1 h2
  have hmk := fun w => make_rows n (by omega) w
  simp only [Int.toNat_natCast] at hnew
  obtain ⟨R, hR⟩ : ∃ R, R = nils n := ⟨_, rfl⟩
  rw [← hR] at hmk
  have HR : Hid _ := hR
  clear hR h1 h2
  go_enter Try.func25, Try.ntmps25
  go_wp2_with fail
  refine hnew.mono ?_
  rintro x w1 ⟨rfl, ⟨gx, cap, hd⟩, hb1⟩
  have HD : Hid _ := hd
  have HB1 : Hid _ := hb1
  clear hd hb1 hnew
  obtain ⟨A1, hA1⟩ : ∃ A, A = w1.alloc (.cells #[.slice none 0 0, .int .i64 0] 113) := ⟨_, rfl⟩
  obtain ⟨A2, hA2⟩ : ∃ A, A = A1.alloc (.cells R 58) := ⟨_, rfl⟩
  obtain ⟨A3, hA3⟩ : ∃ A, A = A2.alloc (.cells #[ptr w.heap.size, ptr w1.heap.size, .slice none 0 0, .slice none 0 0, .slice (some ⟨w1.heap.size + 1, 0, none⟩) n n] 116) := ⟨_, rfl⟩
  have s1 : A1.heap.size = w1.heap.size + 1 := by rw [hA1]; simp
  have s2 : A2.heap.size = w1.heap.size + 1 + 1 := by rw [hA2, World.size_alloc, s1]
  have s3 : A3.heap.size = w1.heap.size + 1 + 1 + 1 := by rw [hA3, World.size_alloc, s2]
  have b1 : Below w1.heap.size w1 A1 := by rw [hA1]; exact below_alloc _ _
  have b2 : Below A1.heap.size A1 A2 := by rw [hA2]; exact below_alloc _ _
  have b3 : Below A2.heap.size A2 A3 := by rw [hA3]; exact below_alloc _ _
  have e1 : A3.heap[w1.heap.size]? = some (.cells #[.slice none 0 0, .int .i64 0] 113) :=
    (b3.block _ (by omega)).trans ((b2.block _ (by omega)).trans (by rw [hA1]; exact heap_alloc_new _ _))
  have e2 : A3.heap[w1.heap.size + 1]? = some (.cells R 58) :=
    (b3.block _ (by omega)).trans (by rw [hA2, ← s1]; exact heap_alloc_new _ _)
  have e3 : A3.heap[w1.heap.size + 1 + 1]? = some (.cells #[ptr w.heap.size, ptr w1.heap.size, .slice none 0 0, .slice none 0 0, .slice (some ⟨w1.heap.size + 1, 0, none⟩) n n] 116) := by
    rw [hA3, ← s2]; exact heap_alloc_new _ _
  have HB3 : Hid (Below w1.heap.size w1 A3) := (b1.trans (b2.mono (by omega))).trans (b3.mono (by omega))
  have HF : Hid (RkX A3 (w1.heap.size + 1 + 1) ⟨w.heap.size, gx, cap, w1.heap.size, w1.heap.size + 1, w1.heap.size + 3⟩ n 0 (List.replicate (n * 32) 0) L0 [] 0) := by
    have hz := in_zero n
    refine ⟨⟨.slice none 0 0, .slice none 0 0, e3, by rw [hz.1]; exact IV.nil _, by rw [hz.2]; exact IV.nil _⟩, ⟨0, 0, HD.out.below HB3.out, Nat.le_refl _⟩, ⟨R, e2, by rw [HR.out]; simp [nils], fun i hi => ⟨.slice none 0 0, by rw [HR.out]; simp [nils, hi], fun ws h => (by cases h)⟩⟩, ⟨.slice none 0 0, e1, World.ownsRow_nil _ _ _ _, fun _ => rfl⟩, ?_, by show w1.heap.size + 3 ≤ _; omega, LInv.zero n⟩
    have := HD.out.glt
    show gx ≠ w1.heap.size + 1
    omega
  clear s1 s2 s3 b1 b2 b3 e1 e2 e3
  go_wp2
  rw [← hA1, ← hA2, ← hA3]
  clear hA1 hA2 hA3
  go_ret
  have s1 := HB1.out.size
  have hgx : w.heap.size < gx := HD.out.low
  refine ⟨_, _, rfl, HF.out, HB1.out.trans (HB3.out.mono s1), ?_⟩
  rintro k (e | e | e | e | e)
  · rw [e]; omega
  · rw [e]; exact Nat.le_refl _
  · rw [e]; show _ ≤ gx; omega
  · rw [e]; exact s1
  · rw [e]; show _ ≤ w1.heap.size + 1; omega
end Go.Proofs.Ytfnafjddajgahaa
