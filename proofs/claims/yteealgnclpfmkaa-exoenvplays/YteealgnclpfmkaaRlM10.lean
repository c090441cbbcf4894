/- The environments and the reference's lists tell the same: plain data. -/
import Derived.Test.YteealgnclpfmkaaRfC
namespace Go.Proofs.Yteealgnclpfmkaa
open Go.RowKit
set_option linter.unusedVariables false

structure Rl (E : ES) (L : List Int) (U : List (Int × Int)) : Prop where
  l : L = liveTo E 12
  dead : ∀ j, (E j).lives = false → E j = Ev.no
  quiet : ∀ j, (E j).waits = false → (E j).addr = 0
  u : ∀ n : Int, U.filter (fun x => x.1 == n) = if upB E n then [(n, upA E n)] else []

theorem live_mem (E : ES) (n : Int) : n ∈ liveTo E 12 ↔ isB E n = true := by
  unfold liveTo
  rw [List.mem_map]
  constructor
  · rintro ⟨m, hm, rfl⟩
    rw [List.mem_filter, List.mem_range] at hm
    show isB E (m : Int) = true
    rw [isB_of hm.1]
    exact hm.2
  · intro h
    obtain ⟨m, rfl, hm, hl⟩ := isB_nat h
    exact ⟨m, List.mem_filter.2 ⟨List.mem_range.2 hm, hl⟩, rfl⟩
theorem live_up (E : ES) (k : Nat) : Up (liveTo E k) := by
  unfold liveTo Up
  rw [List.pairwise_map]
  refine List.Pairwise.imp (R := fun a b => a < b) (fun hab => by simpa using hab) ?_
  exact List.Pairwise.sublist List.filter_sublist List.pairwise_lt_range
section
variable {E : ES} {L : List Int} {U : List (Int × Int)}
theorem Rl.has (h : Rl E L U) (n : Int) : L.contains n = isB E n := by
  rw [h.l, Bool.eq_iff_iff, List.contains_iff_mem]
  exact live_mem E n
theorem Rl.len (h : Rl E L U) : L.length ≤ 12 := by
  rw [h.l]
  exact liveTo_len E 12
theorem Rl.zero : Rl E0 [] [] := ⟨rfl, fun _ _ => rfl, fun _ _ => rfl, fun n => by simp [upB, isB, E0, Ev.no]⟩

theorem upH_filter (U : List (Int × Int)) (n : Int) : upH U n = !(U.filter (fun x => x.1 == n)).isEmpty := by
  unfold upH
  induction U with
  | nil => rfl
  | cons u U ih =>
    rw [List.any_cons, List.filter_cons, ih]
    cases u.1 == n <;> simp
theorem upL_from (n : Int) : ∀ (U : List (Int × Int)) (a : Int), U.foldl (fun a u => if u.1 = n then u.2 else a) a = (U.filter (fun x => x.1 == n)).foldl (fun _ u => u.2) a
  | [], a => rfl
  | u :: U, a => by
    rw [List.foldl_cons, upL_from n U, List.filter_cons]
    by_cases e : u.1 = n
    · simp [e]
    · simp [e]
theorem Rl.h (h : Rl E L U) (n : Int) : upH U n = upB E n := by
  rw [upH_filter, h.u n]
  cases upB E n <;> rfl
theorem Rl.a (h : Rl E L U) (n : Int) : upL U n = upA E n := by
  unfold upL
  rw [upL_from, h.u n]
  cases hb : upB E n with
  | true => rfl
  | false =>
    show (0 : Int) = upA E n
    unfold upA
    cases hB : isB E n with
    | false => rfl
    | true =>
      unfold upB at hb
      rw [hB, Bool.true_and] at hb
      exact (h.quiet _ hb).symm

theorem isB_set_other {E : ES} {m : Nat} {n : Int} {v : Ev} (hm : m < 12) (hx : n ≠ m) : isB (E.set m v) n = isB E n ∧ upB (E.set m v) n = upB E n ∧ upA (E.set m v) n = upA E n := by
  cases hn : isE n with
  | false => simp [isB, upB, upA, hn]
  | true =>
    obtain ⟨k, rfl, hk⟩ := isE_nat hn
    have : E.set m v k = E k := ES.set_other _ _ _ _ (by omega)
    simp [isB, upB, upA, hn, this]
theorem upK_filter (U : List (Int × Int)) (n m : Int) : (upK U n).filter (fun x => x.1 == m) = if m = n then [] else U.filter (fun x => x.1 == m) := by
  unfold upK
  rw [List.filter_filter]
  split
  · rename_i e
    subst e
    rw [List.filter_eq_nil_iff]
    intro x hx
    simp
  · rename_i e
    apply List.filter_congr
    intro x hx
    by_cases ex : x.1 = m
    · simp [ex, e]
    · simp [ex]

theorem Rl.createR (h : Rl E L U) (n : Int) : rcreateR L n = Go.Proofs.Yteealgnclpfmkaa.createR E n := by
  unfold rcreateR Go.Proofs.Yteealgnclpfmkaa.createR
  rw [h.has n]
  cases hn : isE n with
  | false => rfl
  | true => simp [isB, hn]
theorem Rl.create (h : Rl E L U) (n : Int) : Rl (createT E n) (rcreateL L n) U := by
  unfold createT rcreateL
  rw [h.has n]
  cases hn : isE n with
  | false => exact h
  | true =>
    obtain ⟨m, rfl, hm⟩ := isE_nat hn
    rw [isB_of hm]
    show Rl (if true && !(E m).lives then E.set m ⟨true, (E m).waits, (E m).addr⟩ else E) _ _
    cases hl : (E m).lives with
    | true => exact h
    | false =>
      have hd := h.dead m hl
      rw [hd]
      show Rl (E.set m ⟨true, false, 0⟩) (insI m L) U
      refine ⟨?_, fun j hj => ?_, fun j hj => ?_, fun x => ?_⟩
      · rw [h.l]
        refine up_eq (insI_up _ _ (live_up E 12)) (live_up _ 12) (fun a => ?_)
        rw [insI_mem, live_mem, live_mem]
        by_cases e : a = m
        · subst e
          rw [isB_of hm, isB_of hm, ES.set_same]
          simp
        · rw [(isB_set_other hm e).1]
          simp [e]
      · by_cases e : j = m
        · subst e
          rw [ES.set_same] at hj
          cases hj
        · rw [ES.set_other _ _ _ _ e] at hj ⊢
          exact h.dead j hj
      · by_cases e : j = m
        · subst e
          rw [ES.set_same]
        · rw [ES.set_other _ _ _ _ e] at hj ⊢
          exact h.quiet j hj
      · by_cases e : x = m
        · subst e
          have h1 := h.u (m : Int)
          have h2 : upB E m = false := by unfold upB; rw [isB_of hm, hl]; rfl
          have h3 : upB (E.set m ⟨true, false, 0⟩) m = false := by
            unfold upB
            show (_ && (E.set m ⟨true, false, 0⟩ m).waits) = false
            rw [ES.set_same, Bool.and_false]
          rw [h1, h2, h3]
          rfl
        · obtain ⟨_, e2, e3⟩ := isB_set_other (v := ⟨true, false, 0⟩) (E := E) hm e
          rw [e2, e3]
          exact h.u x
theorem Rl.killR (h : Rl E L U) (n : Int) : rkillR L n = Go.Proofs.Yteealgnclpfmkaa.killR E n := by
  unfold rkillR Go.Proofs.Yteealgnclpfmkaa.killR
  rw [h.has n]
theorem Rl.killV (h : Rl E L U) (V : List Int) (n : Int) : rkillV L V n = Go.Proofs.Yteealgnclpfmkaa.killV E V n := by
  unfold rkillV Go.Proofs.Yteealgnclpfmkaa.killV
  rw [h.has n]
theorem Rl.kill (h : Rl E L U) (n : Int) : Rl (killT E n) (rkillL L n) (rkillU L U n) := by
  unfold killT rkillL rkillU
  rw [h.has n]
  cases hn : isB E n with
  | false => exact h
  | true =>
    obtain ⟨m, rfl, hm, hl⟩ := isB_nat hn
    show Rl (E.set m Ev.no) (lK L m) (upK U m)
    refine ⟨?_, fun j hj => ?_, fun j hj => ?_, fun x => ?_⟩
    · rw [h.l]
      refine up_eq ?_ (live_up _ 12) (fun a => ?_)
      · exact List.Pairwise.sublist List.filter_sublist (live_up E 12)
      · unfold lK
        rw [List.mem_filter, live_mem, live_mem]
        by_cases e : a = m
        · subst e
          rw [isB_of hm, isB_of hm, ES.set_same]
          simp [Ev.no]
        · rw [(isB_set_other hm e).1]
          simp [e]
    · by_cases e : j = m
      · subst e
        rw [ES.set_same]
      · rw [ES.set_other _ _ _ _ e] at hj ⊢
        exact h.dead j hj
    · by_cases e : j = m
      · subst e
        rw [ES.set_same]
        rfl
      · rw [ES.set_other _ _ _ _ e] at hj ⊢
        exact h.quiet j hj
    · rw [upK_filter]
      by_cases e : x = m
      · subst e
        have h3 : upB (E.set m Ev.no) m = false := by
          unfold upB
          rw [isB_of hm, ES.set_same]
          rfl
        rw [if_pos rfl, h3]
        rfl
      · obtain ⟨_, e2, e3⟩ := isB_set_other (v := Ev.no) (E := E) hm e
        rw [if_neg e, e2, e3]
        exact h.u x
theorem Rl.sliceR (h : Rl E L U) (V : List Int) (s n : Int) : rsliceR L V s n = Go.Proofs.Yteealgnclpfmkaa.sliceR E V s n := by
  unfold rsliceR Go.Proofs.Yteealgnclpfmkaa.sliceR
  rw [h.has n]
theorem Rl.sliceV (h : Rl E L U) (V : List Int) (s n : Int) : rsliceV L V s n = Go.Proofs.Yteealgnclpfmkaa.sliceV E V s n := by
  unfold rsliceV Go.Proofs.Yteealgnclpfmkaa.sliceV
  rw [h.has n]
theorem Rl.faultR (h : Rl E L U) (n : Int) : rfaultR L U n = Go.Proofs.Yteealgnclpfmkaa.faultR E n := by
  unfold rfaultR Go.Proofs.Yteealgnclpfmkaa.faultR
  rw [h.has n, h.h n]
  unfold upB
  cases isB E n <;> simp
theorem Rl.fault (h : Rl E L U) (n a : Int) : Rl (faultT E n a) L (rfaultU L U n a) := by
  unfold faultT rfaultU
  rw [h.has n, h.h n]
  unfold upB
  cases hn : isB E n with
  | false => exact h
  | true =>
    obtain ⟨m, rfl, hm, hl⟩ := isB_nat hn
    show Rl (if true && !(E m).waits then E.set m ⟨(E m).lives, true, a⟩ else E) L (if true && !(true && (E m).waits) then U ++ [((m : Int), a)] else U)
    cases hw : (E m).waits with
    | true => exact h
    | false =>
      show Rl (E.set m ⟨(E m).lives, true, a⟩) L (U ++ [((m : Int), a)])
      rw [hl]
      refine ⟨?_, fun j hj => ?_, fun j hj => ?_, fun x => ?_⟩
      · rw [h.l]
        refine up_eq (live_up E 12) (live_up _ 12) (fun b => ?_)
        rw [live_mem, live_mem]
        by_cases e : b = m
        · subst e
          rw [isB_of hm, isB_of hm, ES.set_same, hl]
        · rw [(isB_set_other hm e).1]
      · by_cases e : j = m
        · subst e
          rw [ES.set_same] at hj
          cases hj
        · rw [ES.set_other _ _ _ _ e] at hj ⊢
          exact h.dead j hj
      · by_cases e : j = m
        · subst e
          rw [ES.set_same] at hj
          cases hj
        · rw [ES.set_other _ _ _ _ e] at hj ⊢
          exact h.quiet j hj
      · rw [List.filter_append, h.u x]
        by_cases e : x = m
        · subst e
          have h2 : upB E m = false := by
            unfold upB
            rw [hn]
            show (true && (E m).waits) = false
            rw [hw]
            rfl
          have h3 : upB (E.set m ⟨true, true, a⟩) m = true := by
            unfold upB
            rw [isB_of hm]
            show ((E.set m ⟨true, true, a⟩ m).lives && (E.set m ⟨true, true, a⟩ m).waits) = true
            rw [ES.set_same]
            rfl
          have h4 : upA (E.set m ⟨true, true, a⟩) m = a := by
            unfold upA
            rw [isB_of hm, ES.set_same, if_pos rfl]
            show (E.set m ⟨true, true, a⟩ m).addr = a
            rw [ES.set_same]
          rw [h2, h3, h4]
          simp
        · obtain ⟨_, e2, e3⟩ := isB_set_other (v := ⟨true, true, a⟩) (E := E) hm e
          rw [e2, e3]
          simp [Ne.symm e]
theorem Rl.up (h : Rl E L U) (n : Int) : Rl (upT E n) L (upK U n) := by
  unfold upT
  cases hn : isB E n with
  | false =>
    have h0 : upB E n = false := by unfold upB; rw [hn]; rfl
    have hu := h.u n
    rw [h0] at hu
    have e : upK U n = U := by
      unfold upK
      rw [List.filter_eq_self]
      intro x hx
      have := List.filter_eq_nil_iff.1 hu x hx
      simpa using this
    rw [e]
    exact h
  | true =>
    obtain ⟨m, rfl, hm, hl⟩ := isB_nat hn
    show Rl (E.set m ⟨(E m).lives, false, 0⟩) L (upK U m)
    rw [hl]
    refine ⟨?_, fun j hj => ?_, fun j hj => ?_, fun x => ?_⟩
    · rw [h.l]
      refine up_eq (live_up E 12) (live_up _ 12) (fun b => ?_)
      rw [live_mem, live_mem]
      by_cases e : b = m
      · subst e
        rw [isB_of hm, isB_of hm, ES.set_same, hl]
      · rw [(isB_set_other hm e).1]
    · by_cases e : j = m
      · subst e
        rw [ES.set_same] at hj
        cases hj
      · rw [ES.set_other _ _ _ _ e] at hj ⊢
        exact h.dead j hj
    · by_cases e : j = m
      · subst e
        rw [ES.set_same]
      · rw [ES.set_other _ _ _ _ e] at hj ⊢
        exact h.quiet j hj
    · rw [upK_filter]
      by_cases e : x = m
      · subst e
        have h3 : upB (E.set m ⟨true, false, 0⟩) m = false := by
          unfold upB
          show (_ && (E.set m ⟨true, false, 0⟩ m).waits) = false
          rw [ES.set_same, Bool.and_false]
        rw [if_pos rfl, h3]
        rfl
      · obtain ⟨_, e2, e3⟩ := isB_set_other (v := ⟨true, false, 0⟩) (E := E) hm e
        rw [if_neg e, e2, e3]
        exact h.u x
end
theorem rfaultU_len (L : List Int) (U : List (Int × Int)) (n a : Int) : (rfaultU L U n a).length ≤ U.length + 1 := by
  unfold rfaultU
  split
  · simp
  · omega
theorem rkillU_len (L : List Int) (U : List (Int × Int)) (n : Int) : (rkillU L U n).length ≤ U.length := by
  unfold rkillU
  split
  · exact upK_len U n
  · exact Nat.le_refl _

/-- Both, side by side. -/
structure Duo (w : World) (b g B c gv : Nat) (E : ES) (L V : List Int) (U : List (Int × Int)) : Prop where
  env : EnvAt w b g E V
  ref : RfAt w B c gv L V U
  rl : Rl E L U
  bB : b < B
  gB : g < B
  bc : B ≤ c
  bg : B ≤ gv
theorem RfAt.keep {w w' : World} {B c gv : Nat} {L V : List Int} {U : List (Int × Int)} (h : RfAt w B c gv L V U) (hb : ∀ k, B ≤ k → k < w.heap.size → w'.heap[k]? = w.heap[k]?) : RfAt w' B c gv L V U := by
  obtain ⟨al, cl, cv, au, cu, hR⟩ := h
  exact ⟨al, cl, cv, au, cu, hR.keep hb⟩
theorem RfAt.mine {w w' : World} {b g B c gv : Nat} {L V : List Int} {U : List (Int × Int)} (h : RfAt w B c gv L V U) (hu : UpdP (Mine b g) w w') (hb : b < B) (hg : g < B) : RfAt w' B c gv L V U :=
  h.keep (fun k hk hl => hu.block k hl (by rintro (rfl | rfl) <;> omega))
theorem EnvAt.its {w w' : World} {b g B c gv : Nat} {E : ES} {V : List Int} (h : EnvAt w b g E V) (hu : UpdP (Its c gv) w w') (hb : b < B) (hg : g < B) (hc : B ≤ c) (hv : B ≤ gv) : EnvAt w' b g E V :=
  h.keep (hu.block b h.ltb (by rintro (rfl | rfl) <;> omega)) (hu.block g h.ltg (by rintro (rfl | rfl) <;> omega))
theorem Duo.below {w w' : World} {b g B c gv : Nat} {E : ES} {L V : List Int} {U : List (Int × Int)} (h : Duo w b g B c gv E L V U) (hb : Below w.heap.size w w') : Duo w' b g B c gv E L V U :=
  ⟨h.env.below hb, h.ref.keep (fun k _ hl => hb.block k hl), h.rl, h.bB, h.gB, h.bc, h.bg⟩
/-- The four blocks. -/
abbrev Four (b g c gv : Nat) (k : Nat) : Prop := (k = b ∨ k = g) ∨ (k = c ∨ k = gv)
end Go.Proofs.Yteealgnclpfmkaa
