/- Package exomem: Alloc, Grant, Free, Revoke, Gone: what each answers, and the kernel behind it. -/
import Derived.Test.YtfnafjddajgahaaGreatExC
namespace Go.Proofs.YtfnafjddajgahaaGreat
open Go.RowKit Ca
set_option linter.unusedVariables false

def allocR (T : Tab) (n : Nat) (e : Int) : Int := if isE e = true then (if freeI T n < 0 then 106 else putE T e.toNat) else 101
def allocA (T : Tab) (n : Nat) (e : Int) : Int := if isE e = true then (if freeI T n < 0 then 0 else putA T e.toNat) else 0
def allocT (T : Tab) (n : Nat) (e : Int) : Tab := if isE e = true then (if freeI T n < 0 then T else putT T e.toNat ⟨⟨1, freeI T n, 1, 7⟩, 0, 0⟩) else T
def allocV (T : Tab) (n : Nat) (e : Int) (vs : List Int) : List Int := if isE e = true then (if freeI T n < 0 then vs else if freeT T e.toNat < 64 then Me.putZ n vs (freeI T n) else vs) else vs

section
variable {K : Nat} {Y : Lay} {n : Nat} {vs : List Int} {T : Tab} {F : Pages} {w : World}

theorem kalloc_nil (e : Int) (w : World) :
    Calls Tryz.prog 18 #[.pointer none, .int .i64 e] w fun x w' => x = .returned (.tuple #[.int .i64 0, .int .i64 101]) ∧ w' = w := by
  go_enter Tryz.func18, Tryz.ntmps18
  go_wp2
  go_ret2
  exact ⟨rfl, rfl⟩
theorem addOK_frame {e : Int} {f : Nat} (he : isE e = true) (hf : f < 1024) : addOK e ⟨1, f, 1, 7⟩ = true := by
  simp [addOK, he, mayB, longOk, areR]
  omega

set_option maxHeartbeats 1000000 in
theorem kalloc_at (h : KerAt w K Y n vs T F) (e : Int) :
    Calls Tryz.prog 18 #[ptr K, .int .i64 e] w fun x w' => x = .returned (.tuple #[.int .i64 (allocA T n e), .int .i64 (allocR T n e)]) ∧ KerAt w' K Y n (allocV T n e vs) (allocT T n e) F ∧ UpdP (Foot Y) w w' := by
  have hE := kisEnv_at e
  cases he : isE e with
  | false =>
    rw [he] at hE
    have HA : Hid (allocA T n e = 0 ∧ allocR T n e = 101 ∧ allocT T n e = T ∧ allocV T n e vs = vs) := by
      show _ ∧ _
      simp [allocA, allocR, allocT, allocV, he]
    have HK : Hid _ := h
    clear he h
    go_enter Tryz.func18, Tryz.ntmps18
    go_wp2_with (go_at_call 54; refine (hE _).mono ?_; rintro e w1 ⟨rfl, hw1⟩; rw [hw1]; clear hw1 w1)
    go_ret2
    obtain ⟨a1, a2, a3, a4⟩ := HA.out
    exact ⟨by rw [a1, a2]; rfl, by rw [a3, a4]; exact HK.out, UpdP.refl _ _⟩
  | true =>
    rw [he] at hE
    have hr := krefs_at h
    have hn2 := h.n2
    have hix : ∀ W : World, W.heap[w.heap.size]? = some (.cells (irow (refsTo T 768 n)) 3) → Calls Tryz.prog 55 #[.slice (some ⟨w.heap.size, 0, none⟩) n n, .int .i64 0] W fun e w' => e = .returned (.int .i64 (freeI T n)) ∧ w' = W := by
      intro W hW
      have := index0_at (refsTo T 768 n) w.heap.size n W hW (by rw [refsTo_len]; omega)
      rwa [refsTo_len] at this
    rcases freeI_cases T n with ⟨hf, _⟩ | ⟨f, hfn, hf, _⟩
    · have HA : Hid (allocA T n e = 0 ∧ allocR T n e = 106 ∧ allocT T n e = T ∧ allocV T n e vs = vs) := by
        show _ ∧ _
        simp [allocA, allocR, allocT, allocV, he, hf]
      rw [hf] at hix
      have HK : Hid _ := h
      clear he h hf
      go_enter Tryz.func18, Tryz.ntmps18
      go_wp2_with fail
      refine (hE _).mono ?_
      rintro e w1 ⟨rfl, hw1⟩
      rw [hw1]
      clear hw1 w1
      go_wp2_with fail
      refine hr.mono ?_
      rintro e w1 ⟨rfl, hR, hB⟩
      go_wp2_with fail
      refine (hix w1 hR).mono ?_
      rintro e w2 ⟨rfl, hw2⟩
      rw [hw2]
      clear hw2 w2 hR
      go_wp2
      go_ret2
      obtain ⟨a1, a2, a3, a4⟩ := HA.out
      exact ⟨by rw [a1, a2]; rfl, by rw [a3, a4]; exact HK.out.below hB, UpdP.of_below hB⟩
    · have hn0 : ¬ (freeI T n < 0) := by rw [hf]; omega
      have hok := addOK_frame (f := f) he (by omega)
      have HA0 : Hid (allocA T n e = putA T e.toNat ∧ allocR T n e = putE T e.toNat ∧ allocT T n e = putT T e.toNat ⟨⟨1, f, 1, 7⟩, 0, 0⟩ ∧ allocV T n e vs = if freeT T e.toNat < 64 then Me.putZ n vs f else vs) := by
        simp only [allocA, allocR, allocT, allocV, he, if_true, hf]
        exact ⟨rfl, rfl, rfl, rfl⟩
      have HT : Hid (addT T e ⟨1, f, 1, 7⟩ = putT T e.toNat ⟨⟨1, f, 1, 7⟩, 0, 0⟩) := by show _ = _; unfold addT; rw [if_pos hok]
      have ha : ∀ W, KerAt W K Y n vs T F → Calls Tryz.prog 56 #[ptr Y.cb, .int .i64 e, .agg #[.int .i64 1, .int .i64 f, .int .i64 1, .int .i64 7]] W fun x w' => x = .returned (.tuple #[.int .i64 (putA T e.toNat), .int .i64 (putE T e.toNat)]) ∧ KerAt w' K Y n vs (putT T e.toNat ⟨⟨1, f, 1, 7⟩, 0, 0⟩) F ∧ Upd Y.cb W w' := by
        intro W hW
        have := add_at Y.cb T e ⟨1, f, 1, 7⟩ W hW.caps
        rw [HT.out] at this
        rw [show addA T e ⟨1, f, 1, 7⟩ = putA T e.toNat from by unfold addA; rw [if_pos hok], show addR T e ⟨1, f, 1, 7⟩ = putE T e.toNat from by unfold addR; rw [if_pos hok]] at this
        refine this.mono ?_
        rintro x w' ⟨hx, hc, hu⟩
        exact ⟨hx, hW.updC hc (by rw [← HT.out]; exact hW.inv.add e f (by omega) (by omega)) hu, hu⟩
      rw [hf] at hix
      have HK : Hid _ := h
      clear he h hf hn0 hok HT
      by_cases hfr : freeT T e.toNat < 64
      · have HE : Hid (putE T e.toNat = 0) := by show _ = _; unfold putE; rw [if_pos hfr]
        have HV : Hid (allocV T n e vs = Me.putZ n vs f) := by show _ = _; rw [HA0.out.2.2.2, if_pos hfr]
        rw [HE.out] at ha
        generalize putA T e.toNat = A at *
        generalize putT T e.toNat ⟨⟨1, f, 1, 7⟩, 0, 0⟩ = T' at *
        generalize Me.errZ n f = Z at *
        clear hfr
        go_enter Tryz.func18, Tryz.ntmps18
        go_wp2_with fail
        refine (hE _).mono ?_
        rintro x w1 ⟨rfl, hw1⟩
        rw [hw1]
        clear hw1 w1
        go_wp2_with fail
        refine hr.mono ?_
        rintro x w1 ⟨rfl, hR, hB⟩
        go_wp2_with fail
        refine (hix w1 hR).mono ?_
        rintro x w2 ⟨rfl, hw2⟩
        rw [hw2]
        clear hw2 w2 hR hix hr
        have hK1 := HK.out.below hB
        have hc1 := hK1.k1
        have H1 : Hid _ := hK1
        clear hK1
        go_wp2_with fail
        refine (ha w1 H1.out).mono ?_
        rintro x w2 ⟨rfl, hK2, hu2⟩
        have hc0 := hK2.k0
        have hz := Me.zero_all hK2.mem f
        have H2 : Hid _ := hK2
        clear hK2 hc1
        generalize Me.errZ n f = Z at *
        go_wp2_with fail
        refine hz.mono ?_
        rintro x w3 ⟨rfl, hM3, hu3⟩
        have H3 : Hid _ := H2.out.updM hM3 hu3
        have HU : Hid (UpdP (Foot Y) w w3) := ((UpdP.of_below hB).trans (hu2.p _ (Or.inr (Or.inl rfl)))).trans (hu3.p _ (Or.inl rfl))
        clear hM3 hu3 hu2 hz ha hc0
        go_wp2_with fail
        go_ret2
        obtain ⟨a1, a2, a3, a4⟩ := HA0.out
        exact ⟨by rw [a1, a2, HE.out]; rfl, by rw [a3, HV.out]; exact H3.out, HU.out⟩
      · have HE : Hid (putE T e.toNat = 105) := by show _ = _; unfold putE; rw [if_neg hfr]
        have HA : Hid (putA T e.toNat = 0) := by show _ = _; unfold putA; rw [if_neg hfr]
        have HV : Hid (allocV T n e vs = vs) := by show _ = _; rw [HA0.out.2.2.2, if_neg hfr]
        rw [HE.out] at ha
        generalize putT T e.toNat ⟨⟨1, f, 1, 7⟩, 0, 0⟩ = T' at *
        clear hfr
        go_enter Tryz.func18, Tryz.ntmps18
        go_wp2_with fail
        refine (hE _).mono ?_
        rintro x w1 ⟨rfl, hw1⟩
        rw [hw1]
        clear hw1 w1
        go_wp2_with fail
        refine hr.mono ?_
        rintro x w1 ⟨rfl, hR, hB⟩
        go_wp2_with fail
        refine (hix w1 hR).mono ?_
        rintro x w2 ⟨rfl, hw2⟩
        rw [hw2]
        clear hw2 w2 hR hix hr
        have hK1 := HK.out.below hB
        have hc1 := hK1.k1
        have H1 : Hid _ := hK1
        clear hK1
        go_wp2_with fail
        refine (ha w1 H1.out).mono ?_
        rintro x w2 ⟨rfl, hK2, hu2⟩
        have H2 : Hid _ := hK2
        have HU : Hid (UpdP (Foot Y) w w2) := (UpdP.of_below hB).trans (hu2.p _ (Or.inr (Or.inl rfl)))
        clear hK2 hc1 hu2 ha
        go_wp2_with fail
        go_ret2
        obtain ⟨a1, a2, a3, a4⟩ := HA0.out
        exact ⟨by rw [a1, a2, HE.out, HA.out]; rfl, by rw [a3, HV.out]; exact H2.out, HU.out⟩

theorem kgrant_nil (e s q r : Int) (w : World) :
    Calls Tryz.prog 31 #[.pointer none, .int .i64 e, .int .i64 s, .int .i64 q, .int .i64 r] w fun x w' => x = .returned (.tuple #[.int .i64 0, .int .i64 101]) ∧ w' = w := by
  go_enter Tryz.func31, Tryz.ntmps31
  go_wp2
  go_ret2
  exact ⟨rfl, rfl⟩
theorem kgrant_at (h : KerAt w K Y n vs T F) (e s q r : Int) :
    Calls Tryz.prog 31 #[ptr K, .int .i64 e, .int .i64 s, .int .i64 q, .int .i64 r] w fun x w' => x = .returned (.tuple #[.int .i64 (giveA T e s q r), .int .i64 (giveR T e s q r)]) ∧ KerAt w' K Y n vs (giveT T e s q r) F ∧ UpdP (Foot Y) w w' := by
  have hg := give_at Y.cb T e s q r w h.caps
  have hc := h.k1
  have HK : Hid _ := h
  clear h
  generalize giveA T e s q r = A at *
  generalize giveR T e s q r = R at *
  go_enter Tryz.func31, Tryz.ntmps31
  go_wp2_with fail
  refine hg.mono ?_
  rintro x w1 ⟨rfl, hC, hu⟩
  have H1 : Hid _ := HK.out.updC hC (HK.out.inv.give e s q r) hu
  have HU : Hid (UpdP (Foot Y) w w1) := hu.p _ (Or.inr (Or.inl rfl))
  clear hC hu hg hc
  go_wp2_with fail
  go_ret2
  exact ⟨rfl, H1.out, HU.out⟩

theorem kfree_nil (e s : Int) (w : World) :
    Calls Tryz.prog 34 #[.pointer none, .int .i64 e, .int .i64 s] w fun x w' => x = .returned (.int .i64 101) ∧ w' = w := by
  go_enter Tryz.func34, Tryz.ntmps34
  go_wp2
  go_ret
  exact ⟨rfl, rfl⟩
theorem kfree_at (h : KerAt w K Y n vs T F) (e s : Int) :
    Calls Tryz.prog 34 #[ptr K, .int .i64 e, .int .i64 s] w fun x w' => x = .returned (.int .i64 (dropR T e s)) ∧ KerAt w' K Y n vs (dropT T e s) (tidyF (dropT T e s) F) ∧ UpdP (Foot Y) w w' := by
  have hg := drop_at Y.cb T e s w h.caps h.sanes
  have hc := h.k1
  have HK : Hid _ := h
  clear h
  generalize dropB T e s = A at *
  generalize dropR T e s = R at *
  go_enter Tryz.func34, Tryz.ntmps34
  go_wp2_with fail
  refine hg.mono ?_
  rintro x w1 ⟨rfl, hC, hu⟩
  have hun := kunmapLost_at (HK.out.updC hC (HK.out.inv.drop e s) hu)
  have HU : Hid (UpdP (Foot Y) w w1) := hu.p _ (Or.inr (Or.inl rfl))
  clear hC hu hg hc
  go_wp2_with fail
  refine hun.mono ?_
  rintro x w2 ⟨rfl, hK2, hu2⟩
  have H2 : Hid _ := hK2
  have HU2 : Hid _ := HU.out.trans hu2
  clear hK2 hu2 hun
  go_wp2_with fail
  go_ret
  exact ⟨rfl, H2.out, HU2.out⟩

theorem krevoke_nil (e s : Int) (w : World) :
    Calls Tryz.prog 32 #[.pointer none, .int .i64 e, .int .i64 s] w fun x w' => x = .returned (.int .i64 101) ∧ w' = w := by
  go_enter Tryz.func32, Tryz.ntmps32
  go_wp2
  go_ret
  exact ⟨rfl, rfl⟩
theorem krevoke_caps (h : KerAt w K Y n vs T F) (e s : Int) :
    Calls Tryz.prog 71 #[ptr Y.cb, .int .i64 e, .int .i64 s] w fun x w' => ∃ N : Int, x = .returned (.tuple #[.int .i64 N, .int .i64 (revR T e s)]) ∧ CapsAt w' Y.cb (revT T e s) ∧ Upd Y.cb w w' := by
  cases hi : (getT T e s).is with
  | false =>
    refine (revoke_no Y.cb T e s w h.caps hi).mono ?_
    rintro x w' ⟨hx, hb⟩
    refine ⟨0, by rw [hx]; unfold revR; rw [hi]; rfl, ?_, Upd.of_below hb⟩
    unfold revT
    rw [hi]
    exact h.caps.below hb
  | true =>
    refine (revoke_yes Y.cb T e s w h.caps hi).mono ?_
    rintro x w' ⟨N, hN, hx, hC, hu⟩
    refine ⟨N, by rw [hx]; unfold revR; rw [if_pos hi], ?_, hu⟩
    rw [revT_is hi hN]
    exact hC
theorem krevoke_at (h : KerAt w K Y n vs T F) (e s : Int) :
    Calls Tryz.prog 32 #[ptr K, .int .i64 e, .int .i64 s] w fun x w' => x = .returned (.int .i64 (revR T e s)) ∧ KerAt w' K Y n vs (revT T e s) (tidyF (revT T e s) F) ∧ UpdP (Foot Y) w w' := by
  have hg := krevoke_caps h e s
  have hc := h.k1
  have HK : Hid _ := h
  clear h
  generalize revR T e s = R at *
  go_enter Tryz.func32, Tryz.ntmps32
  go_wp2_with fail
  refine hg.mono ?_
  rintro x w1 ⟨N, rfl, hC, hu⟩
  have hun := kunmapLost_at (HK.out.updC hC (HK.out.inv.rev e s) hu)
  have HU : Hid (UpdP (Foot Y) w w1) := hu.p _ (Or.inr (Or.inl rfl))
  clear hC hu hg hc
  go_wp2_with fail
  refine hun.mono ?_
  rintro x w2 ⟨rfl, hK2, hu2⟩
  have H2 : Hid _ := hK2
  have HU2 : Hid _ := HU.out.trans hu2
  clear hK2 hu2 hun
  go_wp2_with fail
  go_ret
  exact ⟨rfl, H2.out, HU2.out⟩

theorem kgone_nil (e : Int) (w : World) :
    Calls Tryz.prog 23 #[.pointer none, .int .i64 e] w fun x w' => x = .returned (.tuple #[]) ∧ w' = w := by
  go_enter Tryz.func23, Tryz.ntmps23
  go_wp2
  (try simp only [Exit.inBlock, Exit.then])
  refine bodyPost_ret (results_none rfl _ _ _) rfl ?_
  exact ⟨rfl, rfl⟩
theorem kgone_at (h : KerAt w K Y n vs T F) (e : Int) :
    Calls Tryz.prog 23 #[ptr K, .int .i64 e] w fun x w' => x = .returned (.tuple #[]) ∧ KerAt w' K Y n vs (goneT T e 64) (tidyF (goneT T e 64) F) ∧ UpdP (Foot Y) w w' := by
  have hg := gone_at Y.cb T e w h.caps h.sanes
  have hc := h.k1
  have HK : Hid _ := h
  clear h
  go_enter Tryz.func23, Tryz.ntmps23
  go_wp2_with fail
  refine hg.mono ?_
  rintro x w1 ⟨rfl, hC, hu⟩
  have hun := kunmapLost_at (HK.out.updC hC (HK.out.inv.gone e 64) hu)
  have HU : Hid (UpdP (Foot Y) w w1) := hu.p _ (Or.inr (Or.inl rfl))
  clear hC hu hg hc
  go_wp2_with fail
  refine hun.mono ?_
  rintro x w2 ⟨rfl, hK2, hu2⟩
  have H2 : Hid _ := hK2
  have HU2 : Hid _ := HU.out.trans hu2
  clear hK2 hu2 hun
  go_wp2_with fail
  go_end0
  exact ⟨rfl, H2.out, HU2.out⟩
end
end Go.Proofs.YtfnafjddajgahaaGreat
