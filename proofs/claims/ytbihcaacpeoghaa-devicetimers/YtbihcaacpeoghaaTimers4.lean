/- Proved: januslaw04.DeviceTimers answers true for every list of settings and ticks (each answer, and how many ticks are left, are the document's), at the commit of this claim; no condition beyond the row's own. -/
import Derived.Test.YtbihcaacpeoghaaAwake4
import Derived.Test.YtbihcaacpeoghaaKinds
import Derived.BigQuiet
import Derived.Deep.QuietTactic
import Derived.Deep.RegionHeld3
import Derived.Deep.DeepCutAuto
import Derived.Deep.CutBlock
import Derived.ProofKit
import Derived.OpenShut
import Derived.ChangeOld
import Derived.Below
namespace Go.Proofs.Ytbihcaacpeoghaa
open Go.ChangeShapes Go.WideShapes Go.ChangeAt Go.RowKit Go.Lib
set_option linter.unusedVariables false

/-- Both timers in the world W; below the old world's size it is as w was. -/
structure Pair (w W : World) (b x : Nat) (n m : Int) : Prop where
  tim : TimAt W b n
  ref : RTimAt W x m
  old : Below w.heap.size w W
  lo1 : w.heap.size ≤ b
  lo2 : w.heap.size ≤ x
  n0 : 0 ≤ n ∧ n ≤ 200
  m0 : 0 ≤ m ∧ m ≤ 200
def errS (v : Int) : Int := if okSet v then 0 else 101
def setN (v n : Int) : Int := if okSet v then v else n
section
variable {w W W' : World} {b x : Nat} {n m : Int}
theorem Pair.below (h : Pair w W b x n m) (k : Below W.heap.size W W') : Pair w W' b x n m :=
  ⟨h.tim.below k, h.ref.below k, h.old.trans (k.mono h.old.size), h.lo1, h.lo2, h.n0, h.m0⟩
theorem Pair.ne (h : Pair w W b x n m) : b ≠ x := by
  intro e
  have h1 := h.tim
  have h2 := h.ref
  unfold TimAt RTimAt OneAt at *
  rw [e, h2] at h1
  simp at h1
theorem Pair.updT {n' : Int} (h : Pair w W b x n m) (ht : TimAt W' b n') (hu : Upd b W W') (hn : 0 ≤ n' ∧ n' ≤ 200) : Pair w W' b x n' m :=
  ⟨ht, h.ref.keep (hu.block _ (lt_of_heap h.ref) (Ne.symm h.ne)), h.old.trans (hu.below h.lo1 h.old.size), h.lo1, h.lo2, hn, h.m0⟩
theorem Pair.updX {m' : Int} (h : Pair w W b x n m) (ht : RTimAt W' x m') (hu : Upd x W W') (hm : 0 ≤ m' ∧ m' ≤ 200) : Pair w W' b x n m' :=
  ⟨h.tim.keep (hu.block _ (lt_of_heap h.tim) h.ne), ht, h.old.trans (hu.below h.lo2 h.old.size), h.lo1, h.lo2, h.n0, hm⟩
theorem p_tick (h : Pair w W b x n m) :
    Calls Try.prog 16 #[.pointer (some ⟨b, 0, none⟩)] W fun e W' => e = .returned (.bool (decide (n = 1))) ∧ Pair w W' b x (max (n - 1) 0) m := by
  refine (tick_at b n W h.tim h.n0.1 h.n0.2).mono ?_
  rintro e W' ⟨rfl, ht, hu⟩
  exact ⟨rfl, h.updT ht hu (by have := h.n0; omega)⟩
theorem p_rtick (h : Pair w W b x n m) :
    Calls Try.prog 17 #[.pointer (some ⟨x, 0, none⟩)] W fun e W' => e = .returned (.bool (decide (m = 1))) ∧ Pair w W' b x n (max (m - 1) 0) := by
  refine (rtick_at x m W h.ref h.m0.1 h.m0.2).mono ?_
  rintro e W' ⟨rfl, ht, hu⟩
  exact ⟨rfl, h.updX ht hu (by have := h.m0; omega)⟩
theorem p_set (h : Pair w W b x n m) (v : Int) :
    Calls Try.prog 18 #[.pointer (some ⟨b, 0, none⟩), .int .i64 v] W fun e W' => e = .returned (.int .i64 (errS v)) ∧ Pair w W' b x (setN v n) m := by
  cases hv : okSet v
  · refine (tset_no b v W hv).mono ?_
    rintro e W' ⟨rfl, rfl⟩
    simp only [errS, setN, hv]
    exact ⟨rfl, h⟩
  · refine (tset_yes b n v W hv h.tim).mono ?_
    rintro e W' ⟨rfl, ht, hu⟩
    simp only [errS, setN, hv]
    exact ⟨rfl, h.updT ht hu (okSet_yes hv)⟩
theorem p_rset (h : Pair w W b x n m) (v : Int) :
    Calls Try.prog 19 #[.pointer (some ⟨x, 0, none⟩), .int .i64 v] W fun e W' => e = .returned (.int .i64 (errS v)) ∧ Pair w W' b x n (setN v m) := by
  cases hv : okSet v
  · refine (rset_no x v W hv).mono ?_
    rintro e W' ⟨rfl, rfl⟩
    simp only [errS, setN, hv]
    exact ⟨rfl, h⟩
  · refine (rset_yes x m v W hv h.ref).mono ?_
    rintro e W' ⟨rfl, ht, hu⟩
    simp only [errS, setN, hv]
    exact ⟨rfl, h.updX ht hu (okSet_yes hv)⟩
end

set_option maxRecDepth 100000 in
set_option maxHeartbeats 2000000 in
theorem timers_walk (a0 : Option Addr) (len cap : Nat) (w : World) (hlen : len ≤ 9223372036854775807)
    (HC : Hid (∀ j, j < len → ∃ gb off v, a0 = some ⟨gb, off, none⟩ ∧ w.cell? ⟨gb, off + j, none⟩ = some (.int .i64 v))) :
    Calls Try.prog 4 #[.slice a0 len cap] w fun e w' => e = .returned (.bool true) ∧ Below w.heap.size w w' := by
  go_enter Try.func4, Try.ntmps4
  go_wp2_with fail
  refine (newTimer_at _).mono ?_
  rintro e w1 ⟨rfl, ht1, hb1, hs1⟩
  have HP : Hid (Pair w (w1.alloc (.cells #[.int .i64 0] 41)) w.heap.size w1.heap.size 0 0) :=
    ⟨ht1.below ((Below.refl _ _).alloc (Nat.le_refl _) _), heap_alloc_new _ _, hb1.trans (((Below.refl _ _).alloc (Nat.le_refl _) _).mono hb1.size), Nat.le_refl _, hb1.size, by omega, by omega⟩
  clear ht1 hb1 hs1
  go_wp2_with fail
  obtain ⟨b, hb⟩ : ∃ b, b = w.heap.size := ⟨_, rfl⟩
  obtain ⟨x, hx⟩ : ∃ x, x = w1.heap.size := ⟨_, rfl⟩
  obtain ⟨W1, hW1⟩ : ∃ W, W = w1.alloc (.cells #[.int .i64 0] 41) := ⟨_, rfl⟩
  rw [← hb, ← hx, ← hW1] at HP ⊢
  clear hb hx hW1
  go_loopw [5] (fun i wr => ∃ (k : Nat) (n : Int), k ≤ len ∧ k ≤ 1000 ∧ i = .int .i64 k ∧ Pair w wr b x n n) (fun i _ => 1000 - (intOf i).toNat)
  case atStart => exact ⟨0, 0, Nat.zero_le _, Nat.zero_le _, rfl, HP.out⟩
  case round =>
    obtain ⟨k, n, hk, hk2, rfl, hp⟩ := hrel
    clear HP
    by_cases hlt : k < len ∧ k < 1000
    · obtain ⟨l1, l2⟩ := hlt
      obtain ⟨gb, off, v, rfl, c0⟩ := HC.out k l1
      have HG : Hid (gb < w.heap.size ∧ w.cell? ⟨gb, off + k, none⟩ = some (.int .i64 v)) := ⟨cell_lt c0, c0⟩
      have c1 := (hp.old.cell (cell_lt c0)).trans c0
      clear c0 HC
      by_cases hv : 1000 ≤ v
      · go_wp2_with fail
        refine (p_tick hp).mono ?_
        rintro e w2 ⟨rfl, hp2⟩
        go_wp2_with fail
        refine (p_rtick hp2).mono ?_
        rintro e w3 ⟨rfl, hp3⟩
        generalize max (n - 1) 0 = n' at *
        clear hp hp2
        have hd : Pair w w3.drew b x n' n' := hp3.below ⟨rfl, rfl, rfl, Nat.le_refl _, fun _ _ => rfl⟩
        have hc := hp3.ref.c0
        go_wp2_with fail
        go_region_held3 (fun w' => w'.cell? ⟨x, 0, none⟩ = some (.int .i64 n'))
          (first | go_keep | (exact hd.ref.c0))
          (first | (go_at_call 20; refine (tleft_at _ _ _ hd.tim).mono ?_; rintro e wz ⟨rfl, rfl⟩))
        all_goals
          go_wp2_with fail
          go_roundw
          case rel => exact ⟨k + 1, n', by omega, by omega, by go_num, hd⟩
          case measure => simp [intOf]; omega
      · have hpd : Pair w wr.drew b x n n := hp.below ⟨rfl, rfl, rfl, Nat.le_refl _, fun _ _ => rfl⟩
        clear hp
        go_wp2_with fail
        go_region_held3 (fun w' => w'.cell? ⟨gb, off + k, none⟩ = some (.int .i64 v))
          (first | go_keep | (exact (hq.old.cell HG.out.1).trans HG.out.2))
          (first
            | (go_at_call 18; refine (p_set (by assumption) v).mono ?_; rintro e wq ⟨rfl, hq⟩)
            | (go_at_call 19; refine (p_rset (by assumption) v).mono ?_; rintro e wq ⟨rfl, hq⟩))
        all_goals
          generalize setN v n = n' at *
          clear hpd
          have hd : Pair w wq.drew b x n' n' := hq.below ⟨rfl, rfl, rfl, Nat.le_refl _, fun _ _ => rfl⟩
          have hc := hq.ref.c0
          go_wp2_with fail
          go_region_held3 (fun w' => w'.cell? ⟨x, 0, none⟩ = some (.int .i64 n'))
            (first | go_keep | (exact hd.ref.c0))
            (first | (go_at_call 20; refine (tleft_at _ _ _ hd.tim).mono ?_; rintro e wz ⟨rfl, rfl⟩))
          all_goals
            go_wp2_with fail
            go_roundw
            case rel => exact ⟨k + 1, n', by omega, by omega, by go_num, hd⟩
            case measure => simp [intOf]; omega
    · have HP : Hid _ := hp
      clear hp HC
      have hkl : k < len ∨ len ≤ k := by omega
      rcases hkl with hkl | hkl
      all_goals
        go_wp2_with fail
        refine (awake_any _).mono ?_
        rintro e w5 ⟨rfl, hb5⟩
        go_wp2_with fail
        go_ret
        exact ⟨rfl, HP.out.old.trans (hb5.mono HP.out.old.size)⟩

theorem intKinds : kindsOf Try.prog 9 3 = some [.i .i64] := by kernel_rfl
theorem intSize : Try.prog.cellsOf 3 = 1 := by kernel_rfl
theorem own : ownKnob Try.prog.godebug = none := by kernel_rfl
theorem laidOut : laidOutB Try.prog = true := by kernel_rfl

set_option maxRecDepth 100000 in
theorem timers_lifted (os : Os) (started : os.Started) (H : Type) (enc : TypeId × Value → H) :
    ReturnsInHanded {} Try.checked os 4 .any (Rows.deviceTimersSpec.pre6 enc Try.prog Try.f4 Rows.deviceTimersRow.domain false) (Rows.deviceTimersSpec.post enc Try.prog Try.f4 false true false false) := by
  refine returnsInHanded_of_change (C := Try.checked) own started (by kernel_rfl) Try.func4
    (ChangeSpec.witness6 (enc := enc) (C := Try.checked) false ⟨#[], #[.slice none 0 0], []⟩ 8 (by kernel_rfl) (by kernel_rfl) (by kernel_rfl) (by kernel_rfl)) ?_
  intro W base args ds gs before hval0 hW hcnd _
  have hval : ∀ (j : Nat) t v, Try.f4.params[j]? = some t → args[j]? = some v → Value.okWide Try.prog W .any base t v := hval0
  have hW' := hW
  obtain ⟨p, q, hA0, hV, rfl, hfz, hnd⟩ := hW
  have hA : DataW.TrodAll enc Try.prog W 0 (fun _ => true) true Try.f4.params.toList args.toList ds p := hA0
  rw [Try.params4] at hA hval
  obtain ⟨v0, vs0, d0, ds0, p0, q0, hargs, rfl, rfl, h0, r0⟩ := trodAll_cons hA
  obtain ⟨rfl, rfl, rfl⟩ := trodAll_nil r0
  obtain rfl : args = #[v0] := by cases args; simp_all
  obtain ⟨rfl, rfl⟩ := trodVars_none hV
  have k0 := h0
  have lt0 : ∀ x ∈ p0, x.block < W.heap.size := by obtain ⟨m, hm⟩ := k0; exact DataW.trod_lt m _ _ _ hm
  obtain ⟨a0, len0, cap0, rfl⟩ := okWide_slice Try.underlying36 (hval 0 36 v0 rfl rfl)
  clear hA0 hval0
  have hints : len0 ≤ 9223372036854775807 ∧ ∀ j, j < len0 → ∃ gb off v, a0 = some ⟨gb, off, none⟩ ∧ W.cell? ⟨gb, off + j, none⟩ = some (.int .i64 v) := by
    obtain ⟨fuel, hf⟩ := h0
    obtain ⟨hl, hc⟩ := slice_fits (l := [.i .i64]) Try.underlying36 intKinds (by simp) intSize (by simpa [Value.cells] using hf)
    refine ⟨hl, fun j hj => ?_⟩
    obtain ⟨gb, off, cs, ea, hfit, hcell⟩ := hc j hj
    obtain ⟨_, _, rfl, ⟨v, rfl, _⟩, rfl⟩ := hfit
    have := hcell 0 _ rfl
    exact ⟨gb, off, v, ea, by simpa using this⟩
  have hwalk : Calls Try.prog 4 #[.slice a0 len0 cap0] W fun e w' => e = .returned (.bool true) ∧ Below W.heap.size W w' :=
    timers_walk a0 len0 cap0 W hints.1 hints.2
  refine hwalk.mono fun e W' ⟨he, bel⟩ => ?_
  subst he
  exact ⟨_, rfl, _, _, _, [], _, [], hW', trodAll_mk1 (shut_bool Try.underlying4 _), (trodAll_cons_mk (Below.trod laidOut (by kernel_rfl) (of_decide_eq_true (by kernel_rfl)) k0 bel lt0) trodAll_mk0), rfl, bel.frame _, fun h => by cases h⟩

theorem timers_holds : Rows.DeviceTimersSaid :=
  OpenClaim.holds_of_wide 4 Try.f4 rfl rfl rfl rfl rfl rfl rfl ⟨rfl, rfl, rfl, rfl, rfl⟩ rfl rfl rfl rfl rfl (by kernel_rfl) Try.func4 (by kernel_rfl)
    (of_decide_eq_true (by kernel_rfl)) (by unfold Func.isWrapper; first | (rw [if_pos (by decide +kernel)]; kernel_rfl) | (rw [if_neg (by decide +kernel)]; exact ⟨rfl, rfl⟩))
    (fun os started H enc _ => timers_lifted os started H enc)
#print axioms timers_holds
end Go.Proofs.Ytbihcaacpeoghaa
