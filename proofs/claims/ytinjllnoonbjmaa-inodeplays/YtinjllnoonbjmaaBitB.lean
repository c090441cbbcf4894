/- Package bitmap: first, count, Left, Mark, Take. -/
import Derived.Test.YtinjllnoonbjmaaBitA
import Derived.Deep.RegionWith
namespace Go.Proofs.Ytinjllnoonbjmaa
open Go.RowKit
namespace Bi
set_option linter.unusedVariables false

/-- r is the lowest of n that is not, or -1. -/
def Low (f : Nat → Bool) (n : Nat) (r : Int) : Prop := (∃ k : Nat, r = (k : Int) ∧ k < n ∧ (∀ j, j < k → f j = true) ∧ f k = false) ∨ (r = -1 ∧ ∀ j, j < n → f j = true)
theorem low_is (f : Nat → Bool) (n : Nat) : ∃ r, Low f n r := by
  rcases lowest f n with ⟨k, h⟩ | h
  · exact ⟨k, Or.inl ⟨k, rfl, h⟩⟩
  · exact ⟨-1, Or.inr ⟨rfl, h⟩⟩
theorem Low.one {f : Nat → Bool} {n : Nat} {r s : Int} (h : Low f n r) (h' : Low f n s) : r = s := by
  rcases h with ⟨k, rfl, hk, h1, h2⟩ | ⟨rfl, h1⟩
  · rcases h' with ⟨k', rfl, hk', h1', h2'⟩ | ⟨rfl, h1'⟩
    · rcases Nat.lt_trichotomy k k' with q | q | q
      · rw [h1' k q] at h2; cases h2
      · rw [q]
      · rw [h1 k' q] at h2'; cases h2'
    · rw [h1' k hk] at h2; cases h2
  · rcases h' with ⟨k', rfl, hk', h1', h2'⟩ | ⟨rfl, h1'⟩
    · rw [h1 k' hk'] at h2'; cases h2'
    · rfl

set_option maxHeartbeats 800000 in
theorem first_at (b g n : Nat) (ws : List Nat) (w : World) (h : BmAt w b g n ws) :
    Calls Try.prog 65 #[.pointer (some ⟨b, 0, none⟩), .func (.func 66) #[] #[]] w fun e w' => ∃ r, e = .returned (.int .i64 r) ∧ Low (bt ws) n r ∧ ∃ q, w' = w.drewN q := by
  have hL := len_at b g n ws w h
  have hle := h.le
  have HB : Hid _ := h
  clear h
  go_enter Try.func65, Try.ntmps65
  go_wp2_with fail
  refine hL.mono ?_
  rintro e w1 ⟨rfl, hw⟩
  rw [hw]
  clear hw w1 hL
  go_wp2
  go_loopw [8] (fun s wr => ∃ (k : Nat), k ≤ n ∧ s = .int .i64 k ∧ (∀ j, j < k → bt ws j = true) ∧ ∃ q, wr = w.drewN q) (fun s _ => n - (intOf s).toNat)
  case atStart => exact ⟨0, by omega, rfl, fun j hj => by omega, 0, rfl⟩
  case round =>
    obtain ⟨k, hk, rfl, hA, q, rfl⟩ := hrel
    have HA : Hid _ := hA
    clear hA
    by_cases hlt : k < n
    · have hki : (k : Int) < (n : Int) := by omega
      have hF := free_at b g n ws k _ (BmAt.drew HB.out q) hlt
      cases hB : bt ws k with
      | true =>
        have HK : Hid (bt ws k = true) := hB
        rw [hB] at hF
        clear hB
        go_wp2_with fail
        refine hF.mono ?_
        rintro e w1 ⟨rfl, q2, hw⟩
        rw [hw]
        clear hw w1 hF
        go_wp2
        go_roundw
        case rel =>
          refine ⟨k + 1, by omega, by go_num, fun j hj => ?_, _, rfl⟩
          by_cases e : j = k
          · rw [e]; exact HK.out
          · exact HA.out j (by omega)
        case measure => simp [intOf]; omega
      | false =>
        have HK : Hid (bt ws k = false) := hB
        rw [hB] at hF
        clear hB
        go_wp2_with fail
        refine hF.mono ?_
        rintro e w1 ⟨rfl, q2, hw⟩
        rw [hw]
        clear hw w1 hF
        go_wp2
        go_ret
        exact ⟨_, rfl, Or.inl ⟨k, rfl, hlt, HA.out, HK.out⟩, _, rfl⟩
    · obtain rfl : k = n := by omega
      go_wp2
      go_ret
      exact ⟨_, rfl, Or.inr ⟨rfl, HA.out⟩, q, rfl⟩

set_option maxHeartbeats 800000 in
theorem count_at (b g n : Nat) (ws : List Nat) (w : World) (h : BmAt w b g n ws) :
    Calls Try.prog 80 #[.pointer (some ⟨b, 0, none⟩), .func (.func 66) #[] #[]] w fun e w' => e = .returned (.int .i64 ((cntF (bt ws) n : Nat) : Int)) ∧ ∃ q, w' = w.drewN q := by
  have hL := len_at b g n ws w h
  have hle := h.le
  have HB : Hid _ := h
  clear h
  go_enter Try.func80, Try.ntmps80
  go_wp2_with fail
  refine hL.mono ?_
  rintro e w1 ⟨rfl, hw⟩
  rw [hw]
  clear hw w1 hL
  go_wp2
  go_loopw [5, 9] (fun c s wr => ∃ (k m : Nat), k ≤ n ∧ s = .int .i64 k ∧ c = .int .i64 m ∧ Hid (m = cntF (bt ws) k) ∧ m ≤ k ∧ ∃ q, wr = w.drewN q) (fun _ s _ => n - (intOf s).toNat)
  case atStart => exact ⟨0, 0, by omega, rfl, rfl, rfl, by omega, 0, rfl⟩
  case round =>
    obtain ⟨k, m, hk, rfl, rfl, HA, hm, q, rfl⟩ := hrel
    by_cases hlt : k < n
    · have hki : (k : Int) < (n : Int) := by omega
      have hF := free_at b g n ws k _ (BmAt.drew HB.out q) hlt
      cases hB : bt ws k with
      | true =>
        have HK : Hid (bt ws k = true) := hB
        rw [hB] at hF
        clear hB
        go_wp2_with fail
        refine hF.mono ?_
        rintro e w1 ⟨rfl, q2, hw⟩
        rw [hw]
        clear hw w1 hF
        go_wp2
        go_roundw
        case rel =>
          refine ⟨k + 1, m, by omega, by go_num, rfl, ?_, by omega, _, rfl⟩
          show _ = _
          unfold cntF
          rw [HK.out, ← HA.out]
          rfl
        case measure => simp [intOf]; omega
      | false =>
        have HK : Hid (bt ws k = false) := hB
        rw [hB] at hF
        clear hB
        go_wp2_with fail
        refine hF.mono ?_
        rintro e w1 ⟨rfl, q2, hw⟩
        rw [hw]
        clear hw w1 hF
        go_wp2
        go_roundw
        case rel =>
          refine ⟨k + 1, m + 1, by omega, by go_num, by go_num, ?_, by omega, _, rfl⟩
          show _ = _
          unfold cntF
          rw [HK.out, ← HA.out]
          rfl
        case measure => simp [intOf]; omega
    · obtain rfl : k = n := by omega
      go_wp2
      go_ret
      exact ⟨by rw [← HA.out]; rfl, q, rfl⟩
theorem left_at (b g n : Nat) (ws : List Nat) (w : World) (h : BmAt w b g n ws) :
    Calls Try.prog 57 #[.pointer (some ⟨b, 0, none⟩)] w fun e w' => e = .returned (.int .i64 ((cntF (bt ws) n : Nat) : Int)) ∧ ∃ q, w' = w.drewN q := by
  have hC := count_at b g n ws w h
  clear h
  generalize cntF (bt ws) n = C at *
  go_enter Try.func57, Try.ntmps57
  go_wp2_with fail
  refine hC.mono ?_
  rintro e w1 ⟨rfl, q, hw⟩
  rw [hw]
  clear hw w1 hC
  go_wp2
  go_ret
  exact ⟨rfl, q, rfl⟩

theorem mark_nil (f : Int) (on : Bool) (w : World) :
    Calls Try.prog 45 #[.pointer none, .int .i64 f, .bool on] w fun e w' => e = .returned (.int .i64 101) ∧ w' = w := by
  go_enter Try.func45, Try.ntmps45
  go_wp2_with (go_at_call 73; refine (is_nil _ _).mono ?_; rintro e w' ⟨rfl, rfl⟩)
  go_ret
  exact ⟨rfl, rfl⟩
theorem mark_no (b g n : Nat) (ws : List Nat) (f : Int) (on : Bool) (w : World) (h : BmAt w b g n ws) (hi : inB f n = false) :
    Calls Try.prog 45 #[.pointer (some ⟨b, 0, none⟩), .int .i64 f, .bool on] w fun e w' => e = .returned (.int .i64 101) ∧ w' = w := by
  have hI := is_at b g n ws f w h
  rw [hi] at hI
  clear h hi
  go_enter Try.func45, Try.ntmps45
  go_wp2_with fail
  refine hI.mono ?_
  rintro e w1 ⟨rfl, hw⟩
  rw [hw]
  clear hw w1 hI
  go_wp2
  go_ret
  exact ⟨rfl, rfl⟩
set_option maxHeartbeats 800000 in
theorem mark_yes (b g n : Nat) (ws : List Nat) (i : Nat) (on : Bool) (w : World) (h : BmAt w b g n ws) (hi : i < n) :
    Calls Try.prog 45 #[.pointer (some ⟨b, 0, none⟩), .int .i64 (i : Int), .bool on] w fun e w' => e = .returned (.int .i64 0) ∧ BmAt w' b g n (mkW ws i on) ∧ Upd g w w' := by
  have hle := h.le
  have hI := is_at b g n ws i w h
  rw [inB_nat hi] at hI
  have hK := fun q => mask_at i (by omega) (w.drewN q)
  have hd := tdiv64 i
  have c1 := h.c1
  have hk : i / 64 < ws.length := h.wf.at hi
  have c2 := h.word hk
  have f2 := h.free (i / 64)
  have H : Hid (∀ q, BmAt ((w.drewN q).setCell ⟨g, i / 64, none⟩ (.int .u64 ((wd (ws.getD (i / 64) 0) i on : Nat) : Int))) b g n (mkW ws i on)) := fun q => (h.drew q).mark hi on
  have ha := set_bit (ws.getD (i / 64) 0) i (h.wf.word _)
  have hb := clear_bit (ws.getD (i / 64) 0) i (h.wf.word _)
  clear h
  cases on
  all_goals
    generalize wd (ws.getD (i / 64) 0) i true = r1 at *
    generalize wd (ws.getD (i / 64) 0) i false = r0 at *
    generalize ws.getD (i / 64) 0 = x at *
    generalize mk i = M at *
    obtain ⟨p, hp⟩ : ∃ p, p = i / 64 := ⟨_, rfl⟩
    have hwr := wrap_small p (by omega)
    rw [← hp] at hd hk c2 H f2
    clear hp
    generalize ws.length = L at *
    go_enter Try.func45, Try.ntmps45
    go_wp2_with fail
    refine hI.mono ?_
    rintro e w1 ⟨rfl, hw⟩
    rw [hw]
    clear hw w1 hI
    go_wp2
    go_region_with (go_at_call 74; refine (hK 1).mono ?_; rintro e w2 ⟨rfl, hw⟩; rw [hw]; clear hw w2)
    all_goals
      go_wp2
      go_ret
      exact ⟨rfl, H.out 1, (Upd.drew g w).trans (Upd.setCell g p w.drew _)⟩

/-- What Take leaves, if it answers r. -/
def takeW (ws : List Nat) (r : Int) : List Nat := if 0 ≤ r then mkW ws r.toNat true else ws
theorem take_at (b g n : Nat) (ws : List Nat) (r : Int) (w : World) (h : BmAt w b g n ws) (hr : Low (bt ws) n r) :
    Calls Try.prog 35 #[.pointer (some ⟨b, 0, none⟩)] w fun e w' => e = .returned (.int .i64 r) ∧ BmAt w' b g n (takeW ws r) ∧ Upd g w w' := by
  have HR : Hid (Low (bt ws) n r) := hr
  have HB : Hid _ := h
  have hF := first_at b g n ws w h
  clear h hr
  go_enter Try.func35, Try.ntmps35
  go_wp2_with fail
  refine hF.mono ?_
  rintro e w1 ⟨s, rfl, hs, q, hw⟩
  rw [hw]
  obtain rfl : s = r := hs.one HR.out
  clear hw w1 hF hs
  rcases HR.out with ⟨k, hk, hkn, -, -⟩ | ⟨hk, -⟩
  · have hM := mark_yes b g n ws k true (w.drewN q) (BmAt.drew HB.out q) hkn
    have HT : Hid (takeW ws s = mkW ws k true) := by show _ = _; rw [hk]; simp [takeW]
    subst hk
    go_wp2_with fail
    refine hM.mono ?_
    rintro e w1 ⟨rfl, hB, hU⟩
    have HB2 : Hid _ := hB
    have HU2 : Hid _ := hU
    clear hM hB hU
    go_wp2
    go_ret
    exact ⟨rfl, by rw [HT.out]; exact HB2.out, (Upd.of_below (drewN_below ⟨q, rfl⟩)).trans HU2.out⟩
  · have hM := mark_no b g n ws s true (w.drewN q) (BmAt.drew HB.out q) (by rw [hk]; rfl)
    have HT : Hid (takeW ws s = ws) := by show _ = _; rw [hk]; simp [takeW]
    clear hk
    go_wp2_with fail
    refine hM.mono ?_
    rintro e w1 ⟨rfl, hw⟩
    rw [hw]
    clear hM hw w1
    go_wp2
    go_ret
    exact ⟨rfl, by rw [HT.out]; exact BmAt.drew HB.out q, Upd.of_below (drewN_below ⟨q, rfl⟩)⟩
/-- What Mark answers, and leaves. -/
def markR (n : Nat) (f : Int) : Int := if inB f n = true then 0 else 101
def markW (ws : List Nat) (n : Nat) (f : Int) (on : Bool) : List Nat := if inB f n = true then mkW ws f.toNat on else ws
theorem mark_at (b g n : Nat) (ws : List Nat) (f : Int) (on : Bool) (w : World) (h : BmAt w b g n ws) :
    Calls Try.prog 45 #[.pointer (some ⟨b, 0, none⟩), .int .i64 f, .bool on] w fun e w' => e = .returned (.int .i64 (markR n f)) ∧ BmAt w' b g n (markW ws n f on) ∧ Upd g w w' := by
  unfold markR markW
  cases hi : inB f n with
  | false =>
    refine (mark_no b g n ws f on w h hi).mono ?_
    rintro e w1 ⟨rfl, rfl⟩
    exact ⟨rfl, h, Upd.refl _ _⟩
  | true =>
    obtain ⟨k, rfl, hk⟩ := inB_of hi
    exact mark_yes b g n ws k on w h hk
end Bi
end Go.Proofs.Ytinjllnoonbjmaa
