/- Package exoenv: New, Create, takeSlices, Kill. -/
import Derived.Test.YteealgnclpfmkaaEnvA
namespace Go.Proofs.Yteealgnclpfmkaa
open Go.RowKit
set_option linter.unusedVariables false

/-- The cells of new environments. -/
def nrow (g n : Nat) : Array Value := #[.bool false, .bool false, .int .u64 0, .bool false, .bool false, .int .u64 0, .bool false, .bool false, .int .u64 0, .bool false, .bool false, .int .u64 0, .bool false, .bool false, .int .u64 0, .bool false, .bool false, .int .u64 0, .bool false, .bool false, .int .u64 0, .bool false, .bool false, .int .u64 0, .bool false, .bool false, .int .u64 0, .bool false, .bool false, .int .u64 0, .bool false, .bool false, .int .u64 0, .bool false, .bool false, .int .u64 0, .slice (some ⟨g, 0, none⟩) n n]
theorem nrow_get (g n j k : Nat) (hj : j < 12) (hk : k < 3) : (nrow g n)[j * 3 + k]? = some ((E0 j).get k) := by
  obtain rfl | rfl | rfl : k = 0 ∨ k = 1 ∨ k = 2 := by omega
  all_goals
    obtain rfl | rfl | rfl | rfl | rfl | rfl | rfl | rfl | rfl | rfl | rfl | rfl : j = 0 ∨ j = 1 ∨ j = 2 ∨ j = 3 ∨ j = 4 ∨ j = 5 ∨ j = 6 ∨ j = 7 ∨ j = 8 ∨ j = 9 ∨ j = 10 ∨ j = 11 := by omega
    all_goals rfl
/-- The first k slots of so many are nobody's. -/
def nv (n k : Nat) : List Int := List.replicate k (-1) ++ List.replicate (n - k) 0
theorem nv_len (n k : Nat) (h : k ≤ n) : (nv n k).length = n := by simp [nv]; omega
theorem nv_zero (n : Nat) : nv n 0 = List.replicate n 0 := by simp [nv]
theorem nv_all (n : Nat) : nv n n = List.replicate n (-1) := by simp [nv]
theorem nv_get (n k : Nat) (h : k < n) : (nv n k)[k]? = some 0 := by
  unfold nv
  rw [List.getElem?_append_right (by simp), List.length_replicate, Nat.sub_self, List.getElem?_replicate, if_pos (by omega)]
theorem nv_set (n k : Nat) (h : k < n) : (nv n k).set k (-1) = nv n (k + 1) := by
  unfold nv
  rw [List.set_append, if_neg (by simp), List.length_replicate, Nat.sub_self]
  obtain ⟨d, hd⟩ : ∃ d, n - k = d + 1 := ⟨n - k - 1, by omega⟩
  rw [hd, show n - (k + 1) = d by omega]
  rw [List.replicate_succ, List.set_cons_zero, List.replicate_succ', List.append_assoc]
  rfl
theorem env_new (n : Nat) (w : World) (h : 1 ≤ n) (h2 : n ≤ 64) :
    EnvAt ((w.alloc (.cells (irow (List.replicate n 0)) 3)).alloc (.cells (nrow w.heap.size n) 56)) (w.heap.size + 1) w.heap.size E0 (nv n 0) := by
  rw [nv_zero]
  refine ⟨⟨nrow w.heap.size n, ?_, rfl, fun j hj k hk => nrow_get _ _ j k hj hk, ?_⟩, ?_, by omega, by simpa using h, by simpa using h2⟩
  · have := heap_alloc_new (w.alloc (.cells (irow (List.replicate n 0)) 3)) (.cells (nrow w.heap.size n) 56)
    simpa using this
  · rw [List.length_replicate]
    rfl
  · rw [Below.heap_alloc _ _ _ (by simp)]
    exact heap_alloc_new _ _

set_option maxRecDepth 100000 in
theorem new_yes (n : Nat) (w : World) (h : 1 ≤ n) (h2 : n ≤ 64) :
    Calls Try.prog 7 #[.int .i64 n] w fun e w' => e = .returned (.pointer (some ⟨w.heap.size + 1, 0, none⟩)) ∧ EnvAt w' (w.heap.size + 1) w.heap.size E0 (List.replicate n (-1)) ∧ Below w.heap.size w w' ∧ w'.heap.size = w.heap.size + 2 := by
  have hmk := fun w => make_ints n (by omega) w
  obtain ⟨W, hW⟩ : ∃ W, W = (w.alloc (.cells (irow (List.replicate n 0)) 3)).alloc (.cells (nrow w.heap.size n) 56) := ⟨_, rfl⟩
  have HE : Hid (EnvAt W (w.heap.size + 1) w.heap.size E0 (nv n 0)) := by rw [hW]; exact env_new n w h h2
  have HB : Hid (Below w.heap.size w W) := by rw [hW]; exact below_alloc2 _ _ _
  have HS : Hid (W.heap.size = w.heap.size + 2) := by show _ = _; rw [hW]; simp
  unfold nrow at hW
  have HW : Hid _ := hW
  clear hW
  go_enter Try.func7, Try.ntmps7
  go_wp2
  rw [← HW.out]
  clear HW hmk
  go_loopw [16] (fun s wr => ∃ (k : Nat), k ≤ n ∧ s = .int .i64 k ∧ EnvAt wr (w.heap.size + 1) w.heap.size E0 (nv n k) ∧ Below w.heap.size w wr ∧ Hid (wr.heap.size = w.heap.size + 2)) (fun s _ => n - (intOf s).toNat)
  case atStart => exact ⟨0, by omega, rfl, HE.out, HB.out, HS⟩
  case round =>
    clear HE HB HS
    obtain ⟨k, hk, rfl, hE, hB, HS⟩ := hrel
    have HE : Hid _ := hE
    have HB : Hid _ := hB
    by_cases hlt : k < n
    · have c0 := hE.sl
      rw [nv_len n k hk] at c0
      have c1 := hE.vcell (nv_get n k hlt)
      have f1 := hE.freeg k
      clear hE hB
      have hki : (k : Int) < (n : Int) := by omega
      go_wp2
      go_roundw
      case rel =>
        refine ⟨k + 1, by omega, by go_num, ?_, HB.out.trans ((Upd.setCell w.heap.size k wr _).below (Nat.le_refl _) HB.out.size), ?_⟩
        · have := HE.out.setV k (-1)
          rwa [nv_set n k hlt] at this
        · show _ = _
          rw [← HS.out]
          simp [World.setCell]
      case measure => simp [intOf]; omega
    · obtain rfl : k = n := by omega
      clear hE hB
      go_wp2
      go_ret
      refine ⟨rfl, ?_, HB.out, HS.out⟩
      rw [← nv_all]
      exact HE.out

theorem create_nil (n : Int) (w : World) :
    Calls Try.prog 9 #[.pointer none, .int .i64 n] w fun e w' => e = .returned (.int .i64 101) ∧ w' = w := by
  go_enter Try.func9, Try.ntmps9
  go_wp2
  go_ret
  exact ⟨rfl, rfl⟩
theorem create_at (b g : Nat) (E : ES) (V : List Int) (n : Int) (w : World) (h : EnvAt w b g E V) :
    Calls Try.prog 9 #[.pointer (some ⟨b, 0, none⟩), .int .i64 n] w fun e w' => e = .returned (.int .i64 (createR E n)) ∧ EnvAt w' b g (createT E n) V ∧ UpdP (Mine b g) w w' := by
  have hne := ptr_eq b
  have hI := is_at b g E V n w h
  have HE : Hid _ := h
  cases hn : isE n with
  | false =>
    have HR : Hid (createR E n = 101) := by show _ = _; simp [createR, hn]
    have HT : Hid (createT E n = E) := by show _ = _; simp [createT, hn]
    have hc : n < 0 ∨ 12 ≤ n := by simp [isE] at hn; omega
    clear h hI hn
    rcases hc with hc | hc
    · have g0 : decide (n < 0) = true := decide_eq_true hc
      go_enter Try.func9, Try.ntmps9
      go_wp2
      go_ret
      exact ⟨by rw [HR.out]; rfl, by rw [HT.out]; exact HE.out, UpdP.refl _ _⟩
    · have g0 : decide (n < 0) = false := decide_eq_false (by omega)
      have g1 : decide (12 ≤ n) = true := decide_eq_true hc
      go_enter Try.func9, Try.ntmps9
      go_wp2
      go_ret
      exact ⟨by rw [HR.out]; rfl, by rw [HT.out]; exact HE.out, UpdP.refl _ _⟩
  | true =>
    obtain ⟨m, rfl, hm⟩ := isE_nat hn
    have g0 : decide ((m : Int) < 0) = false := decide_eq_false (by omega)
    have g1 : decide (12 ≤ (m : Int)) = false := decide_eq_false (by omega)
    rw [isB_of hm] at hI
    have c0 := h.cell (j := m) (k := 0) (o := m * 3) hm (by omega) (by omega)
    have f0 := h.freeb (m * 3)
    dsimp only [Ev.get] at c0
    cases hl : (E m).lives with
    | true =>
      have HR : Hid (createR E m = 105) := by show _ = _; simp [createR, hn, hl]
      have HT : Hid (createT E m = E) := by show _ = _; simp [createT, hl]
      rw [hl] at hI
      clear h hn hl
      go_enter Try.func9, Try.ntmps9
      go_wp2_with (go_at_call 21; refine hI.mono ?_; rintro e w1 ⟨rfl, hw⟩; rw [hw]; clear hw w1)
      go_ret
      exact ⟨by rw [HR.out]; rfl, by rw [HT.out]; exact HE.out, UpdP.refl _ _⟩
    | false =>
      have HR : Hid (createR E m = 0) := by show _ = _; simp [createR, hn, hl]
      have HT : Hid (createT E m = E.set m ⟨true, (E m).waits, (E m).addr⟩) := by show _ = _; simp [createT, hn, hl]
      rw [hl] at hI c0
      clear h hn hl
      go_enter Try.func9, Try.ntmps9
      go_wp2_with (go_at_call 21; refine hI.mono ?_; rintro e w1 ⟨rfl, hw⟩; rw [hw]; clear hw w1)
      go_ret
      refine ⟨by rw [HR.out]; rfl, ?_, mine_b b g _ _ _⟩
      rw [HT.out]
      refine HE.out.set (j := m) (k := 0) hm (by omega) (by omega) _ _ rfl ?_
      intro i hi hne
      obtain rfl | rfl : i = 1 ∨ i = 2 := by omega
      all_goals rfl

theorem take_at (b g : Nat) (E : ES) (V : List Int) (n : Int) (w : World) (h : EnvAt w b g E V) :
    Calls Try.prog 29 #[.pointer (some ⟨b, 0, none⟩), .int .i64 n] w fun e w' => e = .returned (.tuple #[]) ∧ EnvAt w' b g E (wo V n) ∧ UpdP (Mine b g) w w' := by
  have HE : Hid _ := h
  have c0 := h.sl
  have hl64 := h.len
  clear h
  go_enter Try.func29, Try.ntmps29
  go_wp2
  clear c0
  go_loopw [10] (fun s wr => ∃ (k : Nat), k ≤ V.length ∧ s = .int .i64 k ∧ EnvAt wr b g E (woTo V n k) ∧ UpdP (Mine b g) w wr) (fun s _ => V.length - (intOf s).toNat)
  case atStart => exact ⟨0, by omega, rfl, by rw [woTo_zero]; exact HE.out, UpdP.refl _ _⟩
  case round =>
    clear HE
    obtain ⟨k, hk, rfl, hE, hU⟩ := hrel
    have HE : Hid _ := hE
    have HU : Hid _ := hU
    by_cases hlt : k < V.length
    · obtain ⟨x, hx⟩ : ∃ x, V[k]? = some x := ⟨V[k], List.getElem?_eq_getElem hlt⟩
      have c0 := hE.sl
      rw [woTo_length] at c0
      have c1 := hE.vcell (woTo_get V n k k x hx (Nat.le_refl _))
      have f1 := hE.freeg k
      have hki : (k : Int) < (V.length : Int) := by omega
      by_cases e : x = n
      · have ge : (x == n) = true := by simp [e]
        have HN : Hid (woTo V n (k + 1) = (woTo V n k).set k (-1)) := woTo_hit V n k x hx e
        clear hE hU hx e
        go_wp2
        go_roundw
        case rel =>
          refine ⟨k + 1, by omega, by go_num, ?_, HU.out.trans (mine_g b g _ _ _)⟩
          rw [HN.out]
          exact HE.out.setV k (-1)
        case measure => simp [intOf]; omega
      · have ge : (x == n) = false := by simp [e]
        have HN : Hid (woTo V n (k + 1) = woTo V n k) := woTo_same V n k x hx e
        clear hE hU hx e
        go_wp2
        go_roundw
        case rel => exact ⟨k + 1, by omega, by go_num, by rw [HN.out]; exact HE.out, HU.out⟩
        case measure => simp [intOf]; omega
    · obtain rfl : k = V.length := by omega
      clear hE hU
      go_wp2
      go_end0
      refine ⟨rfl, ?_, HU.out⟩
      rw [← woTo_all]
      exact HE.out

theorem kill_nil (n : Int) (w : World) :
    Calls Try.prog 11 #[.pointer none, .int .i64 n] w fun e w' => e = .returned (.int .i64 101) ∧ w' = w := by
  go_enter Try.func11, Try.ntmps11
  go_wp2
  go_ret
  exact ⟨rfl, rfl⟩
/-- An environment's cells are laid anew. -/
theorem EnvAt.put3 {w : World} {b g : Nat} {E : ES} {V : List Int} (h : EnvAt w b g E V) {m : Nat} (hm : m < 12) (x y : Bool) (a : Int) :
    EnvAt (((w.setCell ⟨b, m * 3, none⟩ (.bool x)).setCell ⟨b, m * 3 + 1, none⟩ (.bool y)).setCell ⟨b, m * 3 + 2, none⟩ (.int .u64 a)) b g (E.set m ⟨x, y, a⟩) V := by
  have h0 := h.set (j := m) (k := 0) (o := m * 3) hm (by omega) (by omega) (.bool x) ⟨x, (E m).waits, (E m).addr⟩ rfl (fun i hi hne => by
    obtain rfl | rfl : i = 1 ∨ i = 2 := by omega
    all_goals rfl)
  have h1 := h0.set (j := m) (k := 1) (o := m * 3 + 1) hm (by omega) (by omega) (.bool y) ⟨x, y, (E m).addr⟩ rfl (fun i hi hne => by
    rw [ES.set_same]
    obtain rfl | rfl : i = 0 ∨ i = 2 := by omega
    all_goals rfl)
  have h2 := h1.set (j := m) (k := 2) (o := m * 3 + 2) hm (by omega) (by omega) (.int .u64 a) ⟨x, y, a⟩ rfl (fun i hi hne => by
    rw [ES.set_same]
    obtain rfl | rfl : i = 0 ∨ i = 1 := by omega
    all_goals rfl)
  rw [ES.set_set, ES.set_set] at h2
  exact h2
theorem EnvAt.put2 {w : World} {b g : Nat} {E : ES} {V : List Int} (h : EnvAt w b g E V) {m : Nat} (hm : m < 12) (y : Bool) (a : Int) :
    EnvAt ((w.setCell ⟨b, m * 3 + 1, none⟩ (.bool y)).setCell ⟨b, m * 3 + 2, none⟩ (.int .u64 a)) b g (E.set m ⟨(E m).lives, y, a⟩) V := by
  have h1 := h.set (j := m) (k := 1) (o := m * 3 + 1) hm (by omega) (by omega) (.bool y) ⟨(E m).lives, y, (E m).addr⟩ rfl (fun i hi hne => by
    obtain rfl | rfl : i = 0 ∨ i = 2 := by omega
    all_goals rfl)
  have h2 := h1.set (j := m) (k := 2) (o := m * 3 + 2) hm (by omega) (by omega) (.int .u64 a) ⟨(E m).lives, y, a⟩ rfl (fun i hi hne => by
    rw [ES.set_same]
    obtain rfl | rfl : i = 0 ∨ i = 1 := by omega
    all_goals rfl)
  rw [ES.set_set] at h2
  exact h2
theorem EnvAt.cells {w : World} {b g : Nat} {E : ES} {V : List Int} (h : EnvAt w b g E V) {m : Nat} (hm : m < 12) :
    w.cell? ⟨b, m * 3, none⟩ = some (.bool (E m).lives) ∧ w.cell? ⟨b, m * 3 + 1, none⟩ = some (.bool (E m).waits) ∧ w.cell? ⟨b, m * 3 + 2, none⟩ = some (.int .u64 (E m).addr) :=
  ⟨h.cell (k := 0) hm (by omega) (by omega), h.cell (k := 1) hm (by omega) (by omega), h.cell (k := 2) hm (by omega) (by omega)⟩

theorem kill_at (b g : Nat) (E : ES) (V : List Int) (n : Int) (w : World) (h : EnvAt w b g E V) :
    Calls Try.prog 11 #[.pointer (some ⟨b, 0, none⟩), .int .i64 n] w fun e w' => e = .returned (.int .i64 (killR E n)) ∧ EnvAt w' b g (killT E n) (killV E V n) ∧ UpdP (Mine b g) w w' := by
  have hne := ptr_eq b
  have hI := is_at b g E V n w h
  have HE : Hid _ := h
  cases hn : isB E n with
  | false =>
    have HR : Hid (killR E n = 106) := by show _ = _; simp [killR, hn]
    have HT : Hid (killT E n = E) := by show _ = _; simp [killT, hn]
    have HV : Hid (killV E V n = V) := by show _ = _; simp [killV, hn]
    rw [hn] at hI
    clear h hn
    go_enter Try.func11, Try.ntmps11
    go_wp2_with (go_at_call 21; refine hI.mono ?_; rintro e w1 ⟨rfl, hw⟩; rw [hw]; clear hw w1)
    go_ret
    exact ⟨by rw [HR.out]; rfl, by rw [HT.out, HV.out]; exact HE.out, UpdP.refl _ _⟩
  | true =>
    rw [hn] at hI
    obtain ⟨m, rfl, hm, hl⟩ := isB_nat hn
    have HR : Hid (killR E m = 0) := by show _ = _; simp [killR, hn]
    have HT : Hid (killT E m = E.set m ⟨false, false, 0⟩) := by show _ = _; simp [killT, hn, Ev.no]
    have HV : Hid (killV E V m = wo V m) := by show _ = _; simp [killV, hn]
    obtain ⟨c0, c1, c2⟩ := h.cells hm
    have f0 := h.freeb (m * 3)
    have f1 := h.freeb (m * 3 + 1)
    have f2 := h.freeb (m * 3 + 2)
    clear h hn hl
    go_enter Try.func11, Try.ntmps11
    go_wp2_with fail
    refine hI.mono ?_
    rintro e w1 ⟨rfl, hw⟩
    rw [hw]
    clear hw w1 hI
    go_wp2_with fail
    have HU : Hid (UpdP (Mine b g) w (((w.setCell ⟨b, m * 3, none⟩ (.bool false)).setCell ⟨b, m * 3 + 1, none⟩ (.bool false)).setCell ⟨b, m * 3 + 2, none⟩ (.int .u64 0))) := ((mine_b b g _ _ _).trans (mine_b b g _ _ _)).trans (mine_b b g _ _ _)
    refine (take_at b g _ V m _ (HE.out.put3 hm false false 0)).mono ?_
    rintro e w1 ⟨rfl, hE1, hU1⟩
    have HE1 : Hid _ := hE1
    have HU1 : Hid _ := HU.out.trans hU1
    clear c0 c1 c2 f0 f1 f2 hE1 hU1 HU
    go_wp2
    go_ret
    refine ⟨by rw [HR.out]; rfl, ?_, HU1.out⟩
    rw [HT.out, HV.out]
    exact HE1.out
end Go.Proofs.Yteealgnclpfmkaa
