/- Package exomem: New, Map, Unmap, Load, Store, Copy, Read, Write, Page. -/
import Derived.Test.YtfnafjddajgahaaGreatExD
namespace Go.Proofs.YtfnafjddajgahaaGreat
open Go.RowKit Ca
set_option linter.unusedVariables false

def kmapR (T : Tab) (e p s : Int) (b : Bool) : Int := if (isE e && Mu.isPg p) = true then (if (frm T e s (prt b)).isSome = true then 0 else 104) else 101
def kmapF (T : Tab) (F : Pages) (e p s : Int) (b : Bool) : Pages := if (isE e && Mu.isPg p) = true then (match frm T e s (prt b) with
  | none => F
  | some f => setF F e.toNat (Mu.mapF (F e.toNat) p (f, b))) else F
def kunmapR (F : Pages) (e p : Int) : Int := if isE e = true then Mu.unmapV (F e.toNat) p else 101
def kunmapF (F : Pages) (e p : Int) : Pages := if isE e = true then setF F e.toNat (Mu.unmapF (F e.toNat) p) else F
def kloadR (n : Nat) (vs : List Int) (F : Pages) (e a : Int) : Int × Int := if isE e = true then (if (Mu.walkV (F e.toNat) a false).2.2 = 0 then (Me.valR n vs (Mu.walkV (F e.toNat) a false).1 (Mu.walkV (F e.toNat) a false).2.1, Me.errW n (Mu.walkV (F e.toNat) a false).1 (Mu.walkV (F e.toNat) a false).2.1) else (0, (Mu.walkV (F e.toNat) a false).2.2)) else (0, 101)
def kstoreR (n : Nat) (F : Pages) (e a : Int) : Int := if isE e = true then (if (Mu.walkV (F e.toNat) a true).2.2 = 0 then Me.errW n (Mu.walkV (F e.toNat) a true).1 (Mu.walkV (F e.toNat) a true).2.1 else (Mu.walkV (F e.toNat) a true).2.2) else 101
def kstoreV (n : Nat) (vs : List Int) (F : Pages) (e a v : Int) : List Int := if isE e = true then (if (Mu.walkV (F e.toNat) a true).2.2 = 0 then Me.putW n vs (Mu.walkV (F e.toNat) a true).1 (Mu.walkV (F e.toNat) a true).2.1 v else vs) else vs
def kcopyR (T : Tab) (n : Nat) (e a b : Int) : Int := match frm T e a 2, frm T e b 1 with
  | some f, some g => Me.errC n f g
  | _, _ => 104
def kcopyV (T : Tab) (n : Nat) (vs : List Int) (e a b : Int) : List Int := match frm T e a 2, frm T e b 1 with
  | some f, some g => Me.putC n vs f g
  | _, _ => vs
def kreadR (T : Tab) (n : Nat) (vs : List Int) (e s k : Int) : Int × Int := match frm T e s 1 with
  | none => (0, 104)
  | some f => (Me.valR n vs f k, Me.errW n f k)
def kwriteR (T : Tab) (n : Nat) (e s k : Int) : Int := match frm T e s 2 with
  | none => 104
  | some f => Me.errW n f k
def kwriteV (T : Tab) (n : Nat) (vs : List Int) (e s k v : Int) : List Int := match frm T e s 2 with
  | none => vs
  | some f => Me.putW n vs f k v
def kpageV (F : Pages) (e p : Int) : Option (Int × Bool) := if isE e = true then F e.toNat p else none

section
variable {K : Nat} {Y : Lay} {n : Nat} {vs : List Int} {T : Tab} {F : Pages} {w : World}

theorem kmap_nil (e p s : Int) (b : Bool) (w : World) :
    Calls Tryz.prog 28 #[.pointer none, .int .i64 e, .int .i64 p, .int .i64 s, .bool b] w fun x w' => x = .returned (.int .i64 101) ∧ w' = w := by
  go_enter Tryz.func28, Tryz.ntmps28
  go_wp2
  go_ret
  exact ⟨rfl, rfl⟩

set_option maxHeartbeats 1000000 in
theorem kmap_at (h : KerAt w K Y n vs T F) (e p s : Int) (b : Bool) :
    Calls Tryz.prog 28 #[ptr K, .int .i64 e, .int .i64 p, .int .i64 s, .bool b] w fun x w' => x = .returned (.int .i64 (kmapR T e p s b)) ∧ KerAt w' K Y n vs T (kmapF T F e p s b) ∧ UpdP (Foot Y) w w' := by
  have hE := kisEnv_at e
  have hP := kisPage_at p
  cases he : isE e with
  | false =>
    rw [he] at hE
    have HA : Hid (kmapR T e p s b = 101 ∧ kmapF T F e p s b = F) := by
      show _ ∧ _
      simp [kmapR, kmapF, he]
    have HK : Hid _ := h
    clear he h hP
    go_enter Tryz.func28, Tryz.ntmps28
    go_wp2_with (go_at_call 54; refine (hE _).mono ?_; rintro e w1 ⟨rfl, hw1⟩; rw [hw1]; clear hw1 w1)
    go_ret
    exact ⟨by rw [HA.out.1]; rfl, by rw [HA.out.2]; exact HK.out, UpdP.refl _ _⟩
  | true =>
    rw [he] at hE
    cases hp : Mu.isPg p with
    | false =>
      rw [hp] at hP
      have HA : Hid (kmapR T e p s b = 101 ∧ kmapF T F e p s b = F) := by
        show _ ∧ _
        simp [kmapR, kmapF, hp]
      have HK : Hid _ := h
      clear he h hp
      go_enter Tryz.func28, Tryz.ntmps28
      go_wp2_with fail
      refine (hE _).mono ?_
      rintro x w1 ⟨rfl, hw1⟩
      rw [hw1]
      clear hw1 w1
      go_wp2_with fail
      refine (hP _).mono ?_
      rintro x w1 ⟨rfl, hw1⟩
      rw [hw1]
      clear hw1 w1
      go_wp2_with fail
      go_ret
      exact ⟨by rw [HA.out.1]; rfl, by rw [HA.out.2]; exact HK.out, UpdP.refl _ _⟩
    | true =>
      rw [hp] at hP
      obtain ⟨m, rfl, hm⟩ := isE_nat he
      have hr := kpr_at b
      have hf := kframe_at h m s (prt b)
      have hv := fun f (hh : frm T m s (prt b) = some f) => h.inv.frm hh
      have HA : Hid (kmapR T m p s b = (if (frm T m s (prt b)).isSome = true then 0 else 104) ∧ kmapF T F m p s b = match frm T m s (prt b) with | none => F | some f => setF F m (Mu.mapF (F m) p (f, b))) := by
        show _ ∧ _
        simp only [kmapR, kmapF, he, hp, Bool.and_self, if_true, Int.toNat_natCast]
        exact ⟨trivial, trivial⟩
      have HK : Hid _ := h
      have HPG : Hid _ := hp
      clear he h hp
      generalize prt b = q at *
      cases hfr : frm T m s q with
      | none =>
        rw [hfr] at hf
        have HA2 : Hid (kmapR T m p s b = 104 ∧ kmapF T F m p s b = F) := by
          show _ ∧ _
          rw [HA.out.1, HA.out.2, hfr]
          exact ⟨rfl, rfl⟩
        simp only [Option.getD_none, Option.isSome_none] at hf
        clear HA hfr hv
        go_enter Tryz.func28, Tryz.ntmps28
        go_wp2_with fail
        refine (hE _).mono ?_
        rintro x w1 ⟨rfl, hw1⟩
        rw [hw1]
        clear hw1 w1
        go_wp2_with fail
        refine (hP _).mono ?_
        rintro x w1 ⟨rfl, hw1⟩
        rw [hw1]
        clear hw1 w1
        go_wp2_with fail
        refine (hr _).mono ?_
        rintro x w1 ⟨rfl, hw1⟩
        rw [hw1]
        clear hw1 w1
        go_wp2_with fail
        refine hf.mono ?_
        rintro x w1 ⟨rfl, hb1⟩
        go_wp2_with fail
        go_ret
        exact ⟨by rw [HA2.out.1]; rfl, by rw [HA2.out.2]; exact HK.out.below hb1, UpdP.of_below hb1⟩
      | some f =>
        rw [hfr] at hf
        have hfv := hv f hfr
        have HA2 : Hid (kmapR T m p s b = 0 ∧ kmapF T F m p s b = setF F m (Mu.mapF (F m) p (f, b))) := by
          show _ ∧ _
          rw [HA.out.1, HA.out.2, hfr]
          exact ⟨rfl, rfl⟩
        simp only [Option.getD_some, Option.isSome_some] at hf
        clear HA hfr hv
        have HMV : Hid (Mu.mapV p (f, b) = 0) := by
          show _ = _
          simp [Mu.mapV, HPG.out, hfv.1]
        go_enter Tryz.func28, Tryz.ntmps28
        go_wp2_with fail
        refine (hE _).mono ?_
        rintro x w1 ⟨rfl, hw1⟩
        rw [hw1]
        clear hw1 w1
        go_wp2_with fail
        refine (hP _).mono ?_
        rintro x w1 ⟨rfl, hw1⟩
        rw [hw1]
        clear hw1 w1
        go_wp2_with fail
        refine (hr _).mono ?_
        rintro x w1 ⟨rfl, hw1⟩
        rw [hw1]
        clear hw1 w1
        go_wp2_with fail
        refine hf.mono ?_
        rintro x w1 ⟨rfl, hb1⟩
        have hK1 := HK.out.below hb1
        have hct := hK1.kt hm
        have hma := Mu.map_at _ _ _ p (f, b) _ (hK1.tbl m hm)
        rw [HMV.out] at hma
        unfold Mu.pv at hma
        have H1 : Hid _ := hK1
        have i1 : (m : Int) < 12 := by omega
        clear hK1 hE hP hr hf
        go_wp2_with fail
        refine hma.mono ?_
        rintro x w2 ⟨rfl, ht2, hu2⟩
        have H2 : Hid _ := H1.out.updT hm ht2 (fun k y hy => by
          unfold Mu.mapF at hy
          split at hy
          · dsimp only at hy
            split at hy
            · cases hy; exact hfv.2
            · exact HK.out.pg m hm k y hy
          · exact HK.out.pg m hm k y hy) hu2
        have HU : Hid (UpdP (Foot Y) w w2) := (UpdP.of_below hb1).trans (hu2.p _ (Or.inr (Or.inr ⟨m, hm, rfl⟩)))
        clear ht2 hu2 hma hct
        go_wp2_with fail
        go_ret
        exact ⟨by rw [HA2.out.1]; rfl, by rw [HA2.out.2]; exact H2.out, HU.out⟩

theorem kunmap_nil (e p : Int) (w : World) :
    Calls Tryz.prog 38 #[.pointer none, .int .i64 e, .int .i64 p] w fun x w' => x = .returned (.int .i64 101) ∧ w' = w := by
  go_enter Tryz.func38, Tryz.ntmps38
  go_wp2_with fail
  refine (ktable_nil _ _).mono ?_
  rintro x w1 ⟨rfl, rfl⟩
  go_wp2_with fail
  refine (Mu.unmap_nil _ _).mono ?_
  rintro x w1 ⟨rfl, rfl⟩
  go_wp2_with fail
  go_ret
  exact ⟨rfl, rfl⟩
theorem kunmap_at (h : KerAt w K Y n vs T F) (e p : Int) :
    Calls Tryz.prog 38 #[ptr K, .int .i64 e, .int .i64 p] w fun x w' => x = .returned (.int .i64 (kunmapR F e p)) ∧ KerAt w' K Y n vs T (kunmapF F e p) ∧ UpdP (Foot Y) w w' := by
  cases he : isE e with
  | false =>
    have ht := ktable_no K e w he
    have HA : Hid (kunmapR F e p = 101 ∧ kunmapF F e p = F) := by
      show _ ∧ _
      simp [kunmapR, kunmapF, he]
    have HK : Hid _ := h
    clear he h
    go_enter Tryz.func38, Tryz.ntmps38
    go_wp2_with fail
    refine ht.mono ?_
    rintro x w1 ⟨rfl, rfl⟩
    go_wp2_with fail
    refine (Mu.unmap_nil _ _).mono ?_
    rintro x w1 ⟨rfl, rfl⟩
    go_wp2_with fail
    go_ret
    exact ⟨by rw [HA.out.1]; rfl, by rw [HA.out.2]; exact HK.out, UpdP.refl _ _⟩
  | true =>
    obtain ⟨m, rfl, hm⟩ := isE_nat he
    have ht := ktable_yes h m hm
    have hun := Mu.unmap_at _ _ _ p _ (h.tbl m hm)
    have HA : Hid (kunmapR F m p = Mu.unmapV (F m) p ∧ kunmapF F m p = setF F m (Mu.unmapF (F m) p)) := by
      show _ ∧ _
      simp [kunmapR, kunmapF, he]
    have HK : Hid _ := h
    clear he h
    generalize Mu.unmapV (F m) p = V at *
    go_enter Tryz.func38, Tryz.ntmps38
    go_wp2_with fail
    refine ht.mono ?_
    rintro x w1 ⟨rfl, hw1⟩
    rw [hw1]
    clear hw1 w1
    go_wp2_with fail
    refine hun.mono ?_
    rintro x w1 ⟨rfl, ht1, hu1⟩
    have H1 : Hid _ := HK.out.updT hm ht1 (fun k y hy => HK.out.pg m hm k y (unmapF_some hy)) hu1
    have HU : Hid (UpdP (Foot Y) w w1) := hu1.p _ (Or.inr (Or.inr ⟨m, hm, rfl⟩))
    clear ht1 hu1 hun ht
    go_wp2_with fail
    go_ret
    exact ⟨by rw [HA.out.1]; rfl, by rw [HA.out.2]; exact H1.out, HU.out⟩

theorem kload_nil (e a : Int) (w : World) :
    Calls Tryz.prog 30 #[.pointer none, .int .i64 e, .int .u64 a] w fun x w' => x = .returned (.tuple #[.int .u64 0, .int .i64 101]) ∧ w' = w := by
  go_enter Tryz.func30, Tryz.ntmps30
  go_wp2_with fail
  refine (ktable_nil _ _).mono ?_
  rintro x w1 ⟨rfl, rfl⟩
  go_wp2_with fail
  go_ret2
  exact ⟨rfl, rfl⟩
set_option maxHeartbeats 1000000 in
theorem kload_at (h : KerAt w K Y n vs T F) (e a : Int) (ha : 0 ≤ a) :
    Calls Tryz.prog 30 #[ptr K, .int .i64 e, .int .u64 a] w fun x w' => x = .returned (.tuple #[.int .u64 (kloadR n vs F e a).1, .int .i64 (kloadR n vs F e a).2]) ∧ Below w.heap.size w w' := by
  cases he : isE e with
  | false =>
    have ht := ktable_no K e w he
    have HA : Hid (kloadR n vs F e a = (0, 101)) := by
      show _ = _
      simp [kloadR, he]
    clear he h
    go_enter Tryz.func30, Tryz.ntmps30
    go_wp2_with fail
    refine ht.mono ?_
    rintro x w1 ⟨rfl, rfl⟩
    go_wp2_with fail
    go_ret2
    exact ⟨by rw [HA.out]; rfl, Below.refl _ _⟩
  | true =>
    obtain ⟨m, rfl, hm⟩ := isE_nat he
    have ht := ktable_yes h m hm
    have hwk := Mu.walk_at _ _ _ a false _ (h.tbl m hm) ha
    have HA : Hid (kloadR n vs F m a = if (Mu.walkV (F m) a false).2.2 = 0 then (Me.valR n vs (Mu.walkV (F m) a false).1 (Mu.walkV (F m) a false).2.1, Me.errW n (Mu.walkV (F m) a false).1 (Mu.walkV (F m) a false).2.1) else (0, (Mu.walkV (F m) a false).2.2)) := by
      show _ = _
      simp only [kloadR, he, if_true, Int.toNat_natCast]
    have HK : Hid _ := h
    clear he h
    generalize Mu.walkV (F m) a false = r at *
    generalize kloadR n vs F m a = R at *
    obtain ⟨f, k, er⟩ := r
    dsimp only [Mu.t3] at *
    by_cases h0 : er = 0
    · subst h0
      have HA2 : Hid (R = (Me.valR n vs f k, Me.errW n f k)) := HA.out
      clear HA
      have hrd : ∀ W, KerAt W K Y n vs T F → _ := fun W hW => Me.read_all (W := W) hW.mem f k
      generalize Me.valR n vs f k = V at *
      generalize Me.errW n f k = E at *
      go_enter Tryz.func30, Tryz.ntmps30
      go_wp2_with fail
      refine ht.mono ?_
      rintro x w1 ⟨rfl, hw1⟩
      rw [hw1]
      clear hw1 w1
      go_wp2_with fail
      refine hwk.mono ?_
      rintro x w1 ⟨rfl, hb1⟩
      have hK1 := HK.out.below hb1
      have hc0 := hK1.k0
      have hr1 := hrd w1 hK1
      clear hK1 hrd hwk ht
      go_wp2_with fail
      refine hr1.mono ?_
      rintro x w2 ⟨rfl, hw2⟩
      rw [hw2]
      clear hw2 w2
      go_wp2_with fail
      go_ret2
      exact ⟨by rw [HA2.out]; rfl, hb1⟩
    · have HA2 : Hid (R = (0, er)) := by
        show _ = _
        rw [HA.out, if_neg h0]
      clear HA
      go_enter Tryz.func30, Tryz.ntmps30
      go_wp2_with fail
      refine ht.mono ?_
      rintro x w1 ⟨rfl, hw1⟩
      rw [hw1]
      clear hw1 w1
      go_wp2_with fail
      refine hwk.mono ?_
      rintro x w1 ⟨rfl, hb1⟩
      go_wp2_with fail
      go_ret2
      exact ⟨by rw [HA2.out]; rfl, hb1⟩

theorem kstore_nil (e a v : Int) (w : World) :
    Calls Tryz.prog 29 #[.pointer none, .int .i64 e, .int .u64 a, .int .u64 v] w fun x w' => x = .returned (.int .i64 101) ∧ w' = w := by
  go_enter Tryz.func29, Tryz.ntmps29
  go_wp2_with fail
  refine (ktable_nil _ _).mono ?_
  rintro x w1 ⟨rfl, rfl⟩
  go_wp2_with fail
  go_ret
  exact ⟨rfl, rfl⟩
set_option maxHeartbeats 1000000 in
theorem kstore_at (h : KerAt w K Y n vs T F) (e a v : Int) (ha : 0 ≤ a) :
    Calls Tryz.prog 29 #[ptr K, .int .i64 e, .int .u64 a, .int .u64 v] w fun x w' => x = .returned (.int .i64 (kstoreR n F e a)) ∧ KerAt w' K Y n (kstoreV n vs F e a v) T F ∧ UpdP (Foot Y) w w' := by
  cases he : isE e with
  | false =>
    have ht := ktable_no K e w he
    have HA : Hid (kstoreR n F e a = 101 ∧ kstoreV n vs F e a v = vs) := by
      show _ ∧ _
      simp [kstoreR, kstoreV, he]
    have HK : Hid _ := h
    clear he h
    go_enter Tryz.func29, Tryz.ntmps29
    go_wp2_with fail
    refine ht.mono ?_
    rintro x w1 ⟨rfl, rfl⟩
    go_wp2_with fail
    go_ret
    exact ⟨by rw [HA.out.1]; rfl, by rw [HA.out.2]; exact HK.out, UpdP.refl _ _⟩
  | true =>
    obtain ⟨m, rfl, hm⟩ := isE_nat he
    have ht := ktable_yes h m hm
    have hwk := Mu.walk_at _ _ _ a true _ (h.tbl m hm) ha
    have HA : Hid (kstoreR n F m a = (if (Mu.walkV (F m) a true).2.2 = 0 then Me.errW n (Mu.walkV (F m) a true).1 (Mu.walkV (F m) a true).2.1 else (Mu.walkV (F m) a true).2.2) ∧ kstoreV n vs F m a v = if (Mu.walkV (F m) a true).2.2 = 0 then Me.putW n vs (Mu.walkV (F m) a true).1 (Mu.walkV (F m) a true).2.1 v else vs) := by
      show _ ∧ _
      simp only [kstoreR, kstoreV, he, if_true, Int.toNat_natCast, and_self]
    have HK : Hid _ := h
    clear he h
    generalize Mu.walkV (F m) a true = r at *
    generalize kstoreR n F m a = R at *
    generalize kstoreV n vs F m a v = vs' at *
    obtain ⟨f, k, er⟩ := r
    dsimp only [Mu.t3] at *
    by_cases h0 : er = 0
    · subst h0
      have HA2 : Hid (R = Me.errW n f k ∧ vs' = Me.putW n vs f k v) := HA.out
      clear HA
      have hrd : ∀ W, KerAt W K Y n vs T F → _ := fun W hW => Me.write_all (W := W) hW.mem f k v
      generalize Me.errW n f k = E at *
      go_enter Tryz.func29, Tryz.ntmps29
      go_wp2_with fail
      refine ht.mono ?_
      rintro x w1 ⟨rfl, hw1⟩
      rw [hw1]
      clear hw1 w1
      go_wp2_with fail
      refine hwk.mono ?_
      rintro x w1 ⟨rfl, hb1⟩
      have hK1 := HK.out.below hb1
      have hc0 := hK1.k0
      have hr1 := hrd w1 hK1
      have H1 : Hid _ := hK1
      clear hK1 hrd hwk ht
      go_wp2_with fail
      refine hr1.mono ?_
      rintro x w2 ⟨rfl, hM2, hu2⟩
      have H2 : Hid _ := H1.out.updM hM2 hu2
      have HU : Hid (UpdP (Foot Y) w w2) := (UpdP.of_below hb1).trans (hu2.p _ (Or.inl rfl))
      clear hM2 hu2 hr1 hc0
      go_wp2_with fail
      go_ret
      exact ⟨by rw [HA2.out.1]; rfl, by rw [HA2.out.2]; exact H2.out, HU.out⟩
    · have HA2 : Hid (R = er ∧ vs' = vs) := by
        show _ ∧ _
        rw [HA.out.1, HA.out.2, if_neg h0, if_neg h0]
        exact ⟨rfl, rfl⟩
      clear HA
      go_enter Tryz.func29, Tryz.ntmps29
      go_wp2_with fail
      refine ht.mono ?_
      rintro x w1 ⟨rfl, hw1⟩
      rw [hw1]
      clear hw1 w1
      go_wp2_with fail
      refine hwk.mono ?_
      rintro x w1 ⟨rfl, hb1⟩
      go_wp2_with fail
      go_ret
      exact ⟨by rw [HA2.out.1]; rfl, by rw [HA2.out.2]; exact HK.out.below hb1, UpdP.of_below hb1⟩

theorem kpage_nil (e p : Int) (w : World) :
    Calls Tryz.prog 16 #[.pointer none, .int .i64 e, .int .i64 p] w fun x w' => x = .returned (.tuple #[Mu.pv (0, false), .bool false]) ∧ Below w.heap.size w w' := by
  go_enter Tryz.func16, Tryz.ntmps16
  go_wp2_with fail
  refine (ktable_nil _ _).mono ?_
  rintro x w1 ⟨rfl, hw1⟩
  rw [hw1]
  clear hw1 w1
  go_wp2_with fail
  refine (Mu.at_nil _ _).mono ?_
  rintro x w1 ⟨rfl, hb1⟩
  unfold Mu.pv
  have hs : w.heap.size < w1.heap.size := by have := hb1.size; simp at this; omega
  have hc := (hb1.block w.heap.size (by simp)).trans (heap_alloc_new w (.cells #[.int .i64 0, .bool false] 35))
  have c0 : w1.cell? ⟨w.heap.size, 0, none⟩ = some (.int .i64 0) := by rw [cell_of_heap hc]; rfl
  have c1 : w1.cell? ⟨w.heap.size, 1, none⟩ = some (.bool false) := by rw [cell_of_heap hc]; rfl
  have f0 : w1.frozen? ⟨w.heap.size, 0, none⟩ = false := frozen_of_heap hc
  have f1 : w1.frozen? ⟨w.heap.size, 1, none⟩ = false := frozen_of_heap hc
  have HB : Hid (Below w.heap.size w w1) := (below_alloc w _).trans (hb1.mono (by simp))
  clear hc hb1
  go_wp2_with fail
  (try simp only [Exit.inBlock, Exit.then])
  refine bodyPost_ret (v := .tuple #[.agg #[.int .i64 0, .bool false], .bool false]) ?_ rfl ⟨rfl, ?_⟩
  · rw [results_cell_tmp rfl]
    go_simp
  · (repeat' (first | exact HB.out | refine Below.setCell ?_ (by simp) _ | refine Below.alloc ?_ (by simp) _))
end
end Go.Proofs.YtfnafjddajgahaaGreat
