/- The reference kernel: Left, Refs, Slot, Alloc. -/
import Derived.Test.YtfnafjddajgahaaGreatRkB
namespace Go.Proofs.YtfnafjddajgahaaGreat
open Go.RowKit Ca
set_option linter.unusedVariables false

section
variable {w w' : World} {X : Nat} {Q : RLay} {n : Nat} {vs : List Int} {L : List Ce} {last : Int} {F : Pages} {T : Tab}

set_option maxHeartbeats 4000000 in
theorem rkleft_at (h : RkAt w X Q n vs L last F) (hk : Lnk T L last n F) :
    Calls Tryz.prog 11 #[ptr X] w fun x w' => x = .returned (.int .i64 (leftN T n)) ∧ Below w.heap.size w w' := by
  have HK : Hid _ := h
  have HL : Hid _ := hk
  have hn2 := hk.n2
  clear h hk
  go_enter Tryz.func11, Tryz.ntmps11
  go_wp2
  go_loopw [3, 4] (fun a s wr => ∃ (k : Nat), k ≤ n ∧ s = .int .i64 k ∧ a = .int .i64 (leftN T k) ∧ Below w.heap.size w wr) (fun _ s _ => n - (intOf s).toNat)
  case atStart => exact ⟨0, by omega, rfl, rfl, Below.refl _ _⟩
  case round =>
    obtain ⟨k, hk', rfl, rfl, hb⟩ := hrel
    have hKr := HK.out.below hb
    have x0 := hKr.x0
    have x1 := hKr.x1
    have xm := hKr.mem.cell
    by_cases hlt : k < n
    · have i1 : decide ((k : Int) < n) = true := decide_eq_true (by omega)
      have hI : I64 (k : Int) := ⟨by omega, by omega⟩
      obtain ⟨sv, hC⟩ := hKr.caps
      have hh := rhold_at Q.M Q.c sv L last 1 k wr hC (by have := HL.out.len; omega) HL.out.rsanes hI
      have HS : Hid _ := leftN_succ T k
      have hle := leftN_le T k
      have HR : Hid _ := rel_hold HL.out.rel HL.out.inv (k : Int)
      have hll : (holdL 1 (k : Int) L).length ≤ 850 := by have h1 := holdL_len 1 k L []; have h2 := HL.out.len; rw [List.length_nil] at h1; unfold holdL; omega
      clear hKr hC hI
      generalize leftN T k = a at *
      generalize cnt T 768 (k : Int) = c at *
      by_cases h0 : c = 0
      · have HS2 : Hid (leftN T (k + 1) = a + 1) := by show _ = _; rw [HS.out, if_pos h0]
        have hz : (holdL 1 (k : Int) L).length = 0 := HR.out.2 h0
        clear HS HR h0
        go_wp2_with fail
        refine hh.mono ?_
        rintro x w1 ⟨v, rfl, hv, hb1⟩
        obtain ⟨va, vc, rfl, _⟩ := own_irow hv
        rw [hz]
        clear hv hh hz
        go_wp2
        go_roundw
        case rel => exact ⟨k + 1, by omega, by go_num, by rw [HS2.out]; go_num, hb.trans (hb1.mono hb.size)⟩
        case measure => simp [intOf]; omega
      · have HS2 : Hid (leftN T (k + 1) = a) := by show _ = _; rw [HS.out, if_neg h0]; rfl
        have hz : ¬ (((holdL 1 (k : Int) L).length : Int) = 0) := fun e => h0 (HR.out.1 (by omega))
        generalize (holdL 1 (k : Int) L).length = q at *
        clear HS HR h0
        go_wp2_with fail
        refine hh.mono ?_
        rintro x w1 ⟨v, rfl, hv, hb1⟩
        obtain ⟨va, vc, rfl⟩ : ∃ va vc, v = .slice va q vc := by
          rcases hv.2 with ⟨e2, e3⟩ | ⟨g, cap, cur, e2, _⟩
          · exact ⟨_, _, by rw [e2, e3]⟩
          · exact ⟨_, _, e2⟩
        clear hv hh
        go_wp2
        go_roundw
        case rel => exact ⟨k + 1, by omega, by go_num, by rw [HS2.out], hb.trans (hb1.mono hb.size)⟩
        case measure => simp [intOf]; omega
    · obtain rfl : k = n := by omega
      clear hKr
      go_wp2
      go_ret
      exact ⟨rfl, hb⟩

theorem take_filter {L : List Ce} {k : Nat} {d : Ce} (h : L[k]? = some d) (f : Int) : ((L.take (k + 1)).filter (fun d => d.x.id == f)).length = ((L.take k).filter (fun d => d.x.id == f)).length + if d.x.id = f then 1 else 0 := by
  have hl : k < L.length := (List.getElem?_eq_some_iff.1 h).1
  have he : L[k] = d := (List.getElem?_eq_some_iff.1 h).2
  rw [List.take_succ_eq_append_getElem hl, List.filter_append, List.length_append, he]
  by_cases e : d.x.id = f <;> simp [e]

set_option maxHeartbeats 4000000 in
theorem rkrefs_at (h : RkAt w X Q n vs L last F) (hk : Lnk T L last n F) (e s : Int) :
    Calls Tryz.prog 13 #[ptr X, .int .i64 e, .int .i64 s] w fun x w' => x = .returned (.int .i64 (refsN T e s)) ∧ Below w.heap.size w w' := by
  obtain ⟨sv, hC⟩ := h.caps
  have hg := rget_at Q.M Q.c sv L last e s w hC (by have := hk.len; omega)
  obtain ⟨q1, q2⟩ := hk.rel.get e s
  rw [← q1, ← q2] at hg
  have hc := h.x1
  have HF : Hid (refsN T e s = if (getT T e s).is = true then ((cnt T 768 (getT T e s).id : Nat) : Int) else 0) := rfl
  have HK : Hid _ := h
  have HL : Hid _ := hk
  clear h hk hC q1 q2
  generalize refsN T e s = R at *
  generalize getT T e s = x at *
  obtain ⟨kd, f, ln, q⟩ := x
  cases hi : Cp.is ⟨kd, f, ln, q⟩ with
  | false =>
    rw [hi] at hg
    have HR : Hid (R = 0) := by show _ = _; rw [HF.out, hi]; rfl
    clear HF hi
    dsimp only [cpRow] at *
    go_enter Tryz.func13, Tryz.ntmps13
    go_wp2_with fail
    refine hg.mono ?_
    rintro x w1 ⟨rfl, hb⟩
    obtain ⟨V, hV⟩ : ∃ V, V = w1.alloc (.cells #[.int .i64 kd, .int .i64 f, .int .i64 ln, .int .i64 q] 95) := ⟨_, rfl⟩
    have hbV : Below w.heap.size w V := by rw [hV]; exact hb.alloc hb.size _
    have HV : Hid _ := hbV
    have HKV : Hid _ := HK.out.below hbV
    clear hb hbV hg hc
    go_wp2_with fail
    rw [← hV]
    clear hV
    go_loopw [9, 10] (fun a s wr => a = .int .i64 0 ∧ s = .int .i64 0 ∧ wr = V) (fun _ s _ => 0)
    case atStart => exact ⟨rfl, rfl, rfl⟩
    case round =>
      obtain ⟨rfl, rfl, hwr⟩ := hrel
      subst hwr
      have x1 := HKV.out.x1
      obtain ⟨sv, hC⟩ := HKV.out.caps
      have s0 := hC.c0
      obtain ⟨sa, sc, rfl⟩ := hC.form
      clear hC
      by_cases hl0 : L.length = 0
      · rw [hl0] at s0
        go_wp2
        go_ret
        exact ⟨by rw [HR.out]; rfl, HV.out⟩
      · have hl1 : decide ((0 : Int) < (L.length : Int)) = true := decide_eq_true (by omega)
        go_wp2
        go_ret
        exact ⟨by rw [HR.out]; rfl, HV.out⟩
  | true =>
    rw [hi] at hg
    have HR : Hid (R = ((L.filter (fun d => d.x.id == f)).length : Nat)) := by show _ = _; rw [HF.out, hi, rel_cnt HL.out.rel f]; rfl
    clear HF hi
    dsimp only [cpRow] at *
    have hlen := HL.out.len
    go_enter Tryz.func13, Tryz.ntmps13
    go_wp2_with fail
    refine hg.mono ?_
    rintro x w1 ⟨rfl, hb⟩
    obtain ⟨V, hV⟩ : ∃ V, V = w1.alloc (.cells #[.int .i64 kd, .int .i64 f, .int .i64 ln, .int .i64 q] 95) := ⟨_, rfl⟩
    have hbV : Below w.heap.size w V := by rw [hV]; exact hb.alloc hb.size _
    have hnew : V.heap[w1.heap.size]? = some (.cells #[.int .i64 kd, .int .i64 f, .int .i64 ln, .int .i64 q] 95) := by rw [hV]; exact heap_alloc_new _ _
    have HX : Hid (V.cell? ⟨w1.heap.size, 1, none⟩ = some (.int .i64 f)) := by show _ = _; rw [cell_of_heap hnew]; rfl
    have HV : Hid _ := hbV
    have HKV : Hid _ := HK.out.below hbV
    clear hb hbV hg hc hnew
    go_wp2_with fail
    rw [← hV]
    clear hV
    go_loopw [9, 10] (fun a s wr => ∃ (k : Nat), k ≤ L.length ∧ s = .int .i64 k ∧ a = .int .i64 ((L.take k).filter (fun d => d.x.id == f)).length ∧ Below V.heap.size V wr) (fun _ s _ => L.length - (intOf s).toNat)
    case atStart => exact ⟨0, by omega, rfl, rfl, Below.refl _ _⟩
    case round =>
      obtain ⟨k, hk', rfl, rfl, hb⟩ := hrel
      have hKr := HKV.out.below hb
      have x1 := hKr.x1
      obtain ⟨sv, hC⟩ := hKr.caps
      have s0 := hC.c0
      by_cases hlt : k < L.length
      · obtain ⟨d, hd⟩ : ∃ d, L[k]? = some d := ⟨L[k], List.getElem?_eq_getElem hlt⟩
        obtain ⟨g, cap, rfl, ⟨_, _, _, _⟩, _, c5, _, _⟩ := hC.at hd
        have cb : wr.cell? ⟨w1.heap.size, 1, none⟩ = some (.int .i64 f) := by rw [hb.cell (cell_lt HX.out)]; exact HX.out
        have HT : Hid _ := take_filter hd f
        have hle : ((L.take k).filter (fun d => d.x.id == f)).length ≤ 850 := by
          have := List.length_filter_le (fun d : Ce => d.x.id == f) (L.take k)
          have := List.length_take_le k L
          omega
        have i1 : decide ((k : Int) < (L.length : Int)) = true := decide_eq_true (by omega)
        clear hC hKr hd
        generalize ((L.take k).filter (fun d => d.x.id == f)).length = a at *
        by_cases hdf : d.x.id = f
        · have HT2 : Hid (((L.take (k + 1)).filter (fun d => d.x.id == f)).length = a + 1) := by show _ = _; rw [HT.out, if_pos hdf]
          rw [hdf] at c5
          clear HT hdf
          go_wp2
          go_quiet (fail)
          go_wp2
          go_roundw
          case rel => exact ⟨k + 1, by omega, by go_num, by rw [HT2.out]; go_num, below_drewN hb _⟩
          case measure => simp [intOf]; omega
        · have HT2 : Hid (((L.take (k + 1)).filter (fun d => d.x.id == f)).length = a) := by show _ = _; rw [HT.out, if_neg hdf]; rfl
          clear HT
          go_wp2
          go_quiet (fail)
          go_wp2
          go_roundw
          case rel => exact ⟨k + 1, by omega, by go_num, by rw [HT2.out], below_drewN hb _⟩
          case measure => simp [intOf]; omega
      · obtain rfl : k = L.length := by omega
        obtain ⟨sa, sc, rfl⟩ := hC.form
        clear hC hKr
        go_wp2
        go_ret
        have hVV := HV.out
        exact ⟨by rw [HR.out, List.take_length]; rfl, Below.trans hVV (hb.mono hVV.size)⟩

set_option maxHeartbeats 4000000 in
theorem rkslot_at (h : RkAt w X Q n vs L last F) (hk : Lnk T L last n F) (e f : Int) :
    Calls Tryz.prog 15 #[ptr X, .int .i64 e, .int .i64 f] w fun x w' => x = .returned (.int .i64 (slotI T e f)) ∧ Below w.heap.size w w' := by
  have HK : Hid _ := h
  have HL : Hid _ := hk
  clear h hk
  go_enter Tryz.func15, Tryz.ntmps15
  go_wp2
  go_loopw [7] (fun s wr => ∃ (k : Nat), k ≤ 64 ∧ s = .int .i64 (k + 1 : Nat) ∧ Hid (∀ j, j < k → atF T e f j = false) ∧ Below w.heap.size w wr) (fun s _ => 65 - (intOf s).toNat)
  case atStart => exact ⟨0, by omega, rfl, (show Hid _ from fun j hj => absurd hj (Nat.not_lt_zero _)), Below.refl _ _⟩
  case round =>
    obtain ⟨k, hk, rfl, HN, hb⟩ := hrel
    by_cases hlt : k < 64
    · have hKr := HK.out.below hb
      have x1 := hKr.x1
      obtain ⟨sv, hC⟩ := hKr.caps
      have hg := rget_at Q.M Q.c sv L last e (k + 1 : Nat) wr hC (by have := HL.out.len; omega)
      obtain ⟨q1, q2⟩ := HL.out.rel.get e (k + 1 : Nat)
      rw [← q1, ← q2] at hg
      have HY : Hid (atF T e f k = true → slotI T e f = ((k + 1 : Nat) : Int)) := fun h => slotI_hit hlt h HN.out
      have HM : Hid (atF T e f k = false → ∀ j, j < k + 1 → atF T e f j = false) := by
        intro h j hj
        by_cases e : j = k
        · rw [e]; exact h
        · exact HN.out j (by omega)
      have HA : Hid (atF T e f k = ((getT T e ((k + 1 : Nat) : Int)).is && (getT T e ((k + 1 : Nat) : Int)).id == f)) := rfl
      clear HN hC q1 q2 hKr
      generalize atF T e f k = A at *
      generalize getT T e ((k + 1 : Nat) : Int) = x at *
      obtain ⟨kd, i, ln, q⟩ := x
      generalize Cp.is ⟨kd, i, ln, q⟩ = B at *
      dsimp only [cpRow] at *
      cases B
      · have HF : Hid _ := HM.out (by rw [HA.out]; rfl)
        clear HY HM HA
        go_wp2_with (go_at_call 49; refine hg.mono ?_; rintro e w1 ⟨rfl, hb1⟩)
        go_roundw
        case rel => exact ⟨k + 1, by omega, by go_num, HF, (hb.trans (hb1.mono hb.size)).alloc (by have := hb.size; have := hb1.size; omega) _⟩
        case measure => simp [intOf]; omega
      · by_cases hif : i = f
        · have HF := HY.out (by rw [HA.out, hif]; simp)
          clear HY HM HA
          subst hif
          go_wp2_with (go_at_call 49; refine hg.mono ?_; rintro e w1 ⟨rfl, hb1⟩)
          go_ret
          exact ⟨by rw [HF]; rfl, (hb.trans (hb1.mono hb.size)).alloc (by have := hb.size; have := hb1.size; omega) _⟩
        · have HF : Hid _ := HM.out (by rw [HA.out]; simpa using hif)
          clear HY HM HA
          go_wp2_with (go_at_call 49; refine hg.mono ?_; rintro e w1 ⟨rfl, hb1⟩)
          go_roundw
          case rel => exact ⟨k + 1, by omega, by go_num, HF, (hb.trans (hb1.mono hb.size)).alloc (by have := hb.size; have := hb1.size; omega) _⟩
          case measure => simp [intOf]; omega
    · obtain rfl : k = 64 := by omega
      have HF : Hid (slotI T e f = 0) := slotI_miss HN.out
      go_wp2
      go_ret
      exact ⟨by rw [HF.out]; rfl, hb⟩

/-- What a call that may add one leaves. -/
def Grew (w' : World) (X : Nat) (Q : RLay) (n : Nat) (vs : List Int) (L : List Ce) (last : Int) (F : Pages) (T : Tab) : Prop :=
  ∃ L' last', RkAt w' X Q n vs L' last' F ∧ Rel T L' last' ∧ 0 ≤ last' ∧ L'.length ≤ L.length + 1 ∧ last' ≤ last + 1

set_option maxHeartbeats 4000000 in
theorem rkalloc_at (h : RkAt w X Q n vs L last F) (hk : Lnk T L last n F) (e : Int) :
    Calls Tryz.prog 20 #[ptr X, .int .i64 e] w fun x w' => x = .returned (.tuple #[.int .i64 (allocA T n e), .int .i64 (allocR T n e)]) ∧ Grew w' X Q n (allocV T n e vs) L last F (allocT T n e) ∧ UpdP (RFoot X Q n) w w' := by
  have hE := renv_at e
  cases he : isE e with
  | false =>
    rw [he] at hE
    have HA : Hid (allocA T n e = 0 ∧ allocR T n e = 101 ∧ allocT T n e = T ∧ allocV T n e vs = vs) := by
      show _ ∧ _
      simp [allocA, allocR, allocT, allocV, he]
    have HK : Hid _ := h
    have HL : Hid _ := hk
    clear he h hk
    go_enter Tryz.func20, Tryz.ntmps20
    go_wp2_with (go_at_call 52; refine (hE _).mono ?_; rintro e w1 ⟨rfl, hw1⟩; rw [hw1]; clear hw1 w1)
    go_ret2
    obtain ⟨a1, a2, a3, a4⟩ := HA.out
    exact ⟨by rw [a1, a2]; rfl, by rw [a3, a4]; exact ⟨L, last, HK.out, HL.out.rel, HL.out.pos, by omega, by omega⟩, UpdP.refl _ _⟩
  | true =>
    rw [he] at hE
    have HK : Hid _ := h
    have HL : Hid _ := hk
    have HE : Hid _ := he
    have hn2 := hk.n2
    clear h hk he
    go_enter Tryz.func20, Tryz.ntmps20
    go_wp2_with (go_at_call 52; refine (hE _).mono ?_; rintro e w1 ⟨rfl, hw1⟩; rw [hw1]; clear hw1 w1)
    go_loopw [6] (fun s wr => ∃ (k : Nat), k ≤ n ∧ s = .int .i64 k ∧ Hid (∀ i : Nat, i < k → cnt T 768 (i : Int) ≠ 0) ∧ Below w.heap.size w wr) (fun s _ => n - (intOf s).toNat)
    case atStart => exact ⟨0, by omega, rfl, (show Hid _ from fun j hj => absurd hj (Nat.not_lt_zero _)), Below.refl _ _⟩
    case round =>
      obtain ⟨k, hk', rfl, HN, hb⟩ := hrel
      have hKr := HK.out.below hb
      have x0 := hKr.x0
      have x1 := hKr.x1
      have xm := hKr.mem.cell
      by_cases hlt : k < n
      · have i1 : decide ((k : Int) < n) = true := decide_eq_true (by omega)
        have hI : I64 (k : Int) := ⟨by omega, by omega⟩
        obtain ⟨sv, hC⟩ := hKr.caps
        have hh := rhold_at Q.M Q.c sv L last 1 k wr hC (by have := HL.out.len; omega) HL.out.rsanes hI
        have HR : Hid _ := rel_hold HL.out.rel HL.out.inv (k : Int)
        have hll : (holdL 1 (k : Int) L).length ≤ 850 := by have h1 := holdL_len 1 k L []; have h2 := HL.out.len; rw [List.length_nil] at h1; unfold holdL; omega
        have HKr : Hid _ := hKr
        clear hKr hC hI
        by_cases h0 : cnt T 768 (k : Int) = 0
        · have hz : (holdL 1 (k : Int) L).length = 0 := HR.out.2 h0
          have hfi : freeI T n = (k : Int) := by
            rcases freeI_cases T n with ⟨_, h2⟩ | ⟨f, hf, h2, h3, h4⟩
            · exact absurd h0 (h2 k hlt)
            · have : f = k := by
                rcases Nat.lt_trichotomy f k with q | q | q
                · exact absurd h3 (HN.out f q)
                · exact q
                · exact absurd h0 (h4 k q)
              rw [h2, this]
          have hn0 : ¬ (freeI T n < 0) := by rw [hfi]; omega
          have hok := addOK_frame (e := e) (f := k) HE.out (by omega)
          have HA0 : Hid (allocA T n e = putA T e.toNat ∧ allocR T n e = putE T e.toNat ∧ allocT T n e = putT T e.toNat ⟨⟨1, k, 1, 7⟩, 0, 0⟩ ∧ allocV T n e vs = if freeT T e.toNat < 64 then Me.putZ n vs k else vs) := by
            show _ ∧ _
            have he := HE.out
            simp only [allocA, allocR, allocT, allocV, he, if_true, hfi]
            exact ⟨rfl, rfl, rfl, rfl⟩
          obtain ⟨r1, r2, r3, r4, r5, r6⟩ := HL.out.rel.add HL.out.pos e ⟨1, k, 1, 7⟩
          have HT : addT T e ⟨1, k, 1, 7⟩ = putT T e.toNat ⟨⟨1, k, 1, 7⟩, 0, 0⟩ := by unfold addT; rw [if_pos hok]
          have t1 : addA T e ⟨1, k, 1, 7⟩ = putA T e.toNat := by unfold addA; rw [if_pos hok]
          have t2 : addR T e ⟨1, k, 1, 7⟩ = putE T e.toNat := by unfold addR; rw [if_pos hok]
          rw [HT] at r3
          have had : ∀ W, RkAt W X Q n vs L last F → Calls Tryz.prog 59 #[ptr Q.c, .int .i64 e, .agg #[.int .i64 1, .int .i64 k, .int .i64 1, .int .i64 7]] W fun x w' => x = .returned (.tuple #[.int .i64 (putA T e.toNat), .int .i64 (putE T e.toNat)]) ∧ RkAt w' X Q n vs (raddL L last e ⟨1, k, 1, 7⟩) (raddN L last e ⟨1, k, 1, 7⟩) F ∧ Upd Q.c W w' := by
            intro W hW
            obtain ⟨sv, hC⟩ := hW.caps
            have := radd_at Q.M Q.c sv L last e ⟨1, k, 1, 7⟩ W hC hW.MS (by have := HL.out.len; omega) ⟨HL.out.pos, by have := HL.out.top; omega⟩
            rw [← r1, ← r2, t1, t2] at this
            refine this.mono ?_
            rintro x w' ⟨hx, sv', hc', hu⟩
            exact ⟨hx, hW.updC hc' hu, hu⟩
          have HG : Hid _ := And.intro r3 (And.intro r4 (And.intro r5 r6))
          have HPos : Hid _ := HL.out.pos
          clear HR h0 hfi hn0 hok HT t1 t2 r1 r2 r3 r4 r5 r6
          generalize raddL L last e ⟨1, k, 1, 7⟩ = L' at *
          generalize raddN L last e ⟨1, k, 1, 7⟩ = last' at *
          by_cases hfr : freeT T e.toNat < 64
          · have HE2 : Hid (putE T e.toNat = 0) := by show _ = _; unfold putE; rw [if_pos hfr]
            have HV : Hid (allocV T n e vs = Me.putZ n vs k) := by show _ = _; rw [HA0.out.2.2.2, if_pos hfr]
            rw [HE2.out] at had
            generalize putA T e.toNat = A at *
            generalize putT T e.toNat ⟨⟨1, k, 1, 7⟩, 0, 0⟩ = T' at *
            clear hfr
            go_wp2_with fail
            refine hh.mono ?_
            rintro x w1 ⟨v, rfl, hv, hb1⟩
            obtain ⟨va, vc, rfl, _⟩ := own_irow hv
            rw [hz]
            have hK1 := HKr.out.below hb1
            have y1 := hK1.x1
            have H1 : Hid _ := hK1
            clear hv hh hz hK1 x0 x1 xm
            go_wp2_with fail
            refine (had w1 H1.out).mono ?_
            rintro x w2 ⟨rfl, hK2, hu2⟩
            have y0 := hK2.x0
            have hzr := Me.rzero_all hK2.mem k
            have H2 : Hid _ := hK2
            clear hK2 y1 had
            generalize Me.errZ n k = ZE at *
            go_wp2_with fail
            refine hzr.mono ?_
            rintro x w3 ⟨rfl, hM3, hu3⟩
            have H3 : Hid _ := H2.out.updM hM3 hu3
            have HU : Hid (UpdP (RFoot X Q n) w w3) := (((UpdP.of_below hb).trans (UpdP.of_below hb1)).trans (hu2.p _ (Or.inr (Or.inl rfl)))).trans (hu3.mono (fun b hb => Or.inr (Or.inr hb)))
            clear hM3 hu3 hu2 hzr y0
            go_wp2_with fail
            go_ret2
            obtain ⟨a1, a2, a3, a4⟩ := HA0.out
            obtain ⟨g1, g2, g3, g4⟩ := HG.out
            have hp := HPos.out
            exact ⟨by rw [a1, a2, HE2.out]; rfl, by rw [a3, HV.out]; exact ⟨L', last', H3.out, g1, by omega, g2, g4⟩, HU.out⟩
          · have HE2 : Hid (putE T e.toNat = 105) := by show _ = _; unfold putE; rw [if_neg hfr]
            have HA2 : Hid (putA T e.toNat = 0) := by show _ = _; unfold putA; rw [if_neg hfr]
            have HV : Hid (allocV T n e vs = vs) := by show _ = _; rw [HA0.out.2.2.2, if_neg hfr]
            rw [HE2.out, HA2.out] at had
            generalize putT T e.toNat ⟨⟨1, k, 1, 7⟩, 0, 0⟩ = T' at *
            clear hfr
            go_wp2_with fail
            refine hh.mono ?_
            rintro x w1 ⟨v, rfl, hv, hb1⟩
            obtain ⟨va, vc, rfl, _⟩ := own_irow hv
            rw [hz]
            have hK1 := HKr.out.below hb1
            have y1 := hK1.x1
            have H1 : Hid _ := hK1
            clear hv hh hz hK1 x0 x1 xm
            go_wp2_with fail
            refine (had w1 H1.out).mono ?_
            rintro x w2 ⟨rfl, hK2, hu2⟩
            have H2 : Hid _ := hK2
            have HU : Hid (UpdP (RFoot X Q n) w w2) := ((UpdP.of_below hb).trans (UpdP.of_below hb1)).trans (hu2.p _ (Or.inr (Or.inl rfl)))
            clear hK2 y1 had hu2
            go_wp2_with fail
            go_ret2
            obtain ⟨a1, a2, a3, a4⟩ := HA0.out
            obtain ⟨g1, g2, g3, g4⟩ := HG.out
            have hp := HPos.out
            exact ⟨by rw [a1, a2, HE2.out, HA2.out]; rfl, by rw [a3, HV.out]; exact ⟨L', last', H2.out, g1, by omega, g2, g4⟩, HU.out⟩
        · have HM : Hid (∀ i : Nat, i < k + 1 → cnt T 768 (i : Int) ≠ 0) := by
            intro i hi
            by_cases e1 : i = k
            · rw [e1]; exact h0
            · exact HN.out i (by omega)
          have hz : 0 < (holdL 1 (k : Int) L).length := by
            have : (holdL 1 (k : Int) L).length ≠ 0 := fun e => h0 (HR.out.1 e)
            omega
          have hz2 : decide (0 < (holdL 1 (k : Int) L).length) = true := decide_eq_true hz
          clear HR h0 HKr
          generalize (holdL 1 (k : Int) L).length = q at *
          go_wp2_with fail
          refine hh.mono ?_
          rintro x w1 ⟨v, rfl, hv, hb1⟩
          obtain ⟨va, vc, rfl⟩ : ∃ va vc, v = .slice va q vc := by
            rcases hv.2 with ⟨e2, e3⟩ | ⟨g, cap, cur, e2, _⟩
            · exact ⟨_, _, by rw [e2, e3]⟩
            · exact ⟨_, _, e2⟩
          clear hv hh
          go_wp2
          go_roundw
          case rel => exact ⟨k + 1, by omega, by go_num, HM, hb.trans (hb1.mono hb.size)⟩
          case measure => simp [intOf]; omega
      · obtain rfl : k = n := by omega
        have HA : Hid (allocA T k e = 0 ∧ allocR T k e = 106 ∧ allocT T k e = T ∧ allocV T k e vs = vs) := by
          show _ ∧ _
          have hfi : freeI T k = -1 := by
            rcases freeI_cases T k with ⟨h1, _⟩ | ⟨f, hf, _, h3, _⟩
            · exact h1
            · exact absurd h3 (HN.out f hf)
          have he := HE.out
          simp [allocA, allocR, allocT, allocV, he, hfi]
        have HKr : Hid _ := hKr
        clear hKr
        go_wp2
        go_ret2
        obtain ⟨a1, a2, a3, a4⟩ := HA.out
        exact ⟨by rw [a1, a2]; rfl, by rw [a3, a4]; exact ⟨L, last, HKr.out, HL.out.rel, HL.out.pos, by omega, by omega⟩, UpdP.of_below hb⟩
end
end Go.Proofs.YtfnafjddajgahaaGreat
