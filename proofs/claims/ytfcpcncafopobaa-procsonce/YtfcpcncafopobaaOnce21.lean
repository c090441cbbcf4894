/- Proved: januslaw21.ProcsOnce answers true for every list of statuses (each process that ends is told once to its parent, with its status), at the commit of this claim; no condition beyond the row's own. -/
import Derived.Test.YtfcpcncafopobaaPcX
import Derived.Lib.MinMax
import Derived.ProofKit
import Derived.OpenShut
import Derived.ChangeOld
import Derived.Below
namespace Go.Proofs.Ytfcpcncafopobaa
open Go.ChangeShapes Go.WideShapes Go.ChangeAt Go.RowKit Go.Lib
set_option linter.unusedVariables false

/-- Process 1 and its first k children. -/
def foS (k : Nat) : St := fun x => if x = 1 then some ⟨0, false, 0⟩ else if 2 ≤ x ∧ x ≤ (k : Int) + 1 then some ⟨1, false, 0⟩ else none
theorem fo_0 : beS St0 = foS 0 := by
  funext x
  show stPut St0 1 ⟨0, false, 0⟩ x = _
  unfold stPut foS
  by_cases e : x = 1
  · rw [if_pos e, if_pos e]
  · rw [if_neg e, if_neg e, if_neg (by omega)]
    rfl
theorem fo_at {k : Nat} {x : Int} {q : Pr} (h : foS k x = some q) : (x = 1 ∧ q = ⟨0, false, 0⟩) ∨ (2 ≤ x ∧ x ≤ (k : Int) + 1 ∧ q = ⟨1, false, 0⟩) := by
  unfold foS at h
  by_cases e : x = 1
  · rw [if_pos e] at h; cases h; exact Or.inl ⟨e, rfl⟩
  · rw [if_neg e] at h
    by_cases e2 : 2 ≤ x ∧ x ≤ (k : Int) + 1
    · rw [if_pos e2] at h; cases h; exact Or.inr ⟨e2.1, e2.2, rfl⟩
    · rw [if_neg e2] at h; cases h
theorem fo_child {k : Nat} {x : Int} (h2 : 2 ≤ x) (hx : x ≤ (k : Int) + 1) : foS k x = some ⟨1, false, 0⟩ := by
  unfold foS
  rw [if_neg (by omega), if_pos ⟨h2, hx⟩]
theorem fo_none {k : Nat} : foS k ((k : Int) + 2) = none := by
  unfold foS
  rw [if_neg (by omega), if_neg (by omega)]
theorem seven {p : Nat → Prop} (h0 : p 0) (h1 : p 1) (h2 : p 2) (h3 : p 3) (h4 : p 4) (h5 : p 5) (h6 : p 6) {k : Nat} (hk : k < 7) : p k := by
  match k, hk with
  | 0, _ => exact h0
  | 1, _ => exact h1
  | 2, _ => exact h2
  | 3, _ => exact h3
  | 4, _ => exact h4
  | 5, _ => exact h5
  | 6, _ => exact h6
theorem fo_fork {k : Nat} (hk : k < 7) : fkN (foS k) 1 = (k : Int) + 2 ∧ fkE (foS k) 1 = 0 := by
  refine seven (p := fun k => fkN (foS k) 1 = (k : Int) + 2 ∧ fkE (foS k) 1 = 0) ?_ ?_ ?_ ?_ ?_ ?_ ?_ hk <;> exact ⟨by kernel_rfl, by kernel_rfl⟩
theorem fo_next {k : Nat} (hk : k < 7) : fkS (foS k) 1 = foS (k + 1) := by
  have h := fo_fork hk
  have hl : lowI (foS k) = (k : Int) + 2 := by
    have := h.1
    unfold fkN at this
    rw [h.2, if_pos rfl] at this
    exact this
  unfold fkS
  rw [h.2, if_pos rfl, hl]
  funext x
  unfold stPut
  by_cases e : x = (k : Int) + 2
  · rw [if_pos e, fo_child (k := k + 1) (by omega) (by omega)]
  · rw [if_neg e]
    unfold foS
    by_cases e1 : x = 1
    · rw [if_pos e1, if_pos e1]
    · rw [if_neg e1, if_neg e1]
      by_cases e2 : 2 ≤ x ∧ x ≤ (k : Int) + 1
      · rw [if_pos e2, if_pos (by omega)]
      · rw [if_neg e2, if_neg (by omega)]
theorem fo_full : fkE (foS 7) 1 = 11 ∧ fkN (foS 7) 1 = 0 ∧ fkS (foS 7) 1 = foS 7 := by
  have e : fkE (foS 7) 1 = 11 := by kernel_rfl
  refine ⟨e, by kernel_rfl, ?_⟩
  unfold fkS
  rw [e, if_neg (by decide)]
/-- The last child has ended. -/
def zoS (i : Nat) (s : Int) : St := stPut (foS i) ((i : Int) + 2) ⟨1, true, s⟩
theorem ex_put {S : St} {k st : Int} {p : Pr} (hk : S k = some p) (hz : p.zom = false) (h0 : p.par ≠ 0) (hk2 : p.par ≠ k) (hc : ∀ x q, S x = some q → q.par ≠ k) (hn : ∀ x q, S x = some q → ¬ (q.zom = true ∧ q.par = 0)) : exE S k = 0 ∧ exS S k st = stPut S k ⟨p.par, true, st⟩ := by
  have hl : liv S k = true := liv_is.2 ⟨p, hk, hz⟩
  refine ⟨by unfold exE; rw [if_pos hl], ?_⟩
  unfold exS
  rw [if_pos hl]
  have hp : parI S k = p.par := by unfold parI; rw [hk]
  rw [hp]
  funext x
  unfold bur orph
  by_cases e : x = k
  · subst e
    rw [stPut_same]
    show buP (orP x ⟨p.par, true, st⟩) = _
    unfold orP
    rw [if_neg hk2]
    unfold buP
    rw [if_neg (fun q => h0 q.2)]
  · rw [stPut_other _ e]
    cases hx : S x with
    | none => rfl
    | some q =>
      show buP (orP k q) = some q
      unfold orP
      rw [if_neg (hc x q hx)]
      unfold buP
      rw [if_neg (hn x q hx)]
theorem fo_exit {i : Nat} (s : Int) : exE (foS (i + 1)) ((i : Int) + 2) = 0 ∧ exS (foS (i + 1)) ((i : Int) + 2) s = zoS i s := by
  have hc : foS (i + 1) ((i : Int) + 2) = some ⟨1, false, 0⟩ := fo_child (by omega) (by omega)
  have h := ex_put (st := s) hc rfl (by decide) (by show (1 : Int) ≠ _; omega) (fun x q hx => by
    rcases fo_at hx with ⟨_, rfl⟩ | ⟨_, _, rfl⟩
    · show (0 : Int) ≠ _; omega
    · show (1 : Int) ≠ _; omega) (fun x q hx e => by
    rcases fo_at hx with ⟨_, rfl⟩ | ⟨_, _, rfl⟩
    · cases e.1
    · cases e.1)
  refine ⟨h.1, h.2.trans ?_⟩
  unfold zoS
  funext x
  unfold stPut
  by_cases e : x = (i : Int) + 2
  · rw [if_pos e, if_pos e]
  · rw [if_neg e, if_neg e]
    unfold foS
    by_cases e1 : x = 1
    · rw [if_pos e1, if_pos e1]
    · rw [if_neg e1, if_neg e1]
      by_cases e2 : 2 ≤ x ∧ x ≤ (i : Int) + 1
      · rw [if_pos (by omega), if_pos e2]
      · rw [if_neg (by omega), if_neg e2]
theorem zo_dead {i : Nat} (s : Int) : liv (zoS i s) ((i : Int) + 2) = false := by
  unfold liv hits zoS
  rw [stPut_same]
  rfl
theorem zo_wait {i : Nat} (hi : i < 7) (s : Int) : wtN (zoS i s) 1 = (i : Int) + 2 ∧ wtT (zoS i s) 1 = s ∧ wtE (zoS i s) 1 = 0 ∧ wtB (zoS i s) 1 = true := by
  refine seven (p := fun i => wtN (zoS i s) 1 = (i : Int) + 2 ∧ wtT (zoS i s) 1 = s ∧ wtE (zoS i s) 1 = 0 ∧ wtB (zoS i s) 1 = true) ?_ ?_ ?_ ?_ ?_ ?_ ?_ hi <;> exact ⟨by kernel_rfl, by kernel_rfl, by kernel_rfl, by kernel_rfl⟩
theorem zo_gone {i : Nat} (hi : i < 7) (s : Int) : wtS (zoS i s) 1 = foS i := by
  have h := (zo_wait hi s).1
  unfold wtS
  rw [h, if_neg (by omega)]
  unfold zoS
  funext x
  unfold stDel stPut
  by_cases e : x = (i : Int) + 2
  · rw [if_pos e, e, fo_none]
  · rw [if_neg e, if_neg e]
theorem fo_wait {i : Nat} (hi : i < 7) : wtN (foS (i + 1)) 1 = 0 ∧ wtT (foS (i + 1)) 1 = 0 ∧ wtE (foS (i + 1)) 1 = 0 ∧ wtB (foS (i + 1)) 1 = false ∧ wtS (foS (i + 1)) 1 = foS (i + 1) := by
  have h : wtN (foS (i + 1)) 1 = 0 ∧ wtT (foS (i + 1)) 1 = 0 ∧ wtE (foS (i + 1)) 1 = 0 ∧ wtB (foS (i + 1)) 1 = false := by
    refine seven (p := fun i => wtN (foS (i + 1)) 1 = 0 ∧ wtT (foS (i + 1)) 1 = 0 ∧ wtE (foS (i + 1)) 1 = 0 ∧ wtB (foS (i + 1)) 1 = false) ?_ ?_ ?_ ?_ ?_ ?_ ?_ hi <;> exact ⟨by kernel_rfl, by kernel_rfl, by kernel_rfl, by kernel_rfl⟩
  refine ⟨h.1, h.2.1, h.2.2.1, h.2.2.2, ?_⟩
  unfold wtS
  rw [if_pos h.1]
theorem fo_last : wtN (foS 0) 1 = 0 ∧ wtT (foS 0) 1 = 0 ∧ wtE (foS 0) 1 = 10 ∧ wtB (foS 0) 1 = false ∧ wtS (foS 0) 1 = foS 0 := by
  have h : wtN (foS 0) 1 = 0 := by kernel_rfl
  refine ⟨h, by kernel_rfl, by kernel_rfl, by kernel_rfl, ?_⟩
  unfold wtS
  rw [if_pos h]
/-- Who lives. -/
def foL (k : Nat) : List Int := (List.range (k + 1)).map fun (j : Nat) => (j : Int) + 1
theorem fo_all {k : Nat} (hk : k < 8) : lstF (foS k) (fun p => !p.zom) = foL k := by
  rcases Nat.lt_or_ge k 7 with h | h
  · exact seven (p := fun k => lstF (foS k) (fun p => !p.zom) = foL k) (by kernel_rfl) (by kernel_rfl) (by kernel_rfl) (by kernel_rfl) (by kernel_rfl) (by kernel_rfl) (by kernel_rfl) h
  · obtain rfl : k = 7 := by omega
    kernel_rfl
theorem foL_len (k : Nat) : (foL k).length = k + 1 := by simp [foL]
theorem foL_get {k j : Nat} (h : j < k + 1) : (foL k)[j]? = some ((j : Int) + 1) := by simp [foL, h]

set_option maxRecDepth 100000 in
set_option maxHeartbeats 8000000 in
theorem again_full (B : Nat) (w : World) (h : PrAt w B B (foS 7)) :
    Calls Try.prog 30 #[ptr B, .int .i64 7] w fun e w' => e = .returned (ptr B) ∧ PrAt w' B B (foS 7) ∧ Tch B w w' := by
  have hAll := all_at B B (foS 7) w h
  rw [fo_all (by omega)] at hAll
  have HA : Hid (PrAt w B B (foS 7)) := h
  have HL : Hid ((foL 7).length = 8) := foL_len 7
  rw [HL.out] at hAll
  clear h
  go_enter Try.func30, Try.ntmps30
  go_wp2_with fail
  refine hAll.mono ?_
  rintro e w1 ⟨a, cap, rfl, hI, hb⟩
  have HI : Hid (IRow w1 a (foL 7)) := hI
  have HA1 : Hid (PrAt w1 B B (foS 7)) := HA.out.below hb
  have HT1 : Hid (Tch B w w1) := Tch.of_below hb
  clear hAll hI hb
  go_wp2
  go_loopw [6] (fun s wr => ∃ i : Nat, i ≤ 8 ∧ s = .int .i64 i ∧ wr = w1) (fun s _ => 8 - (intOf s).toNat)
  case atStart => exact ⟨0, by omega, rfl, rfl⟩
  case round =>
    obtain ⟨i, hi, rfl, hw⟩ := hrel
    subst hw
    by_cases hlt : i < 8
    · obtain ⟨ga, oa, rfl, hc⟩ := HI.out i _ (foL_get hlt)
      have i1 : decide ((i : Int) < 8) = true := decide_eq_true (by omega)
      have hii : (i : Int) < 8 := by omega
      have g1 : decide ((8 : Int) < (i : Int) + 1) = false := decide_eq_false (by omega)
      go_wp2
      go_roundw
      case rel => exact ⟨i + 1, by omega, by go_num, by first | rfl | trivial⟩
      case measure => simp [intOf]; omega
    · have i1 : decide ((i : Int) < 8) = false := decide_eq_false (by omega)
      have hge : (8 : Int) ≤ (i : Int) := by omega
      go_wp2
      go_ret
      exact ⟨rfl, HA1.out, HT1.out⟩
set_option maxRecDepth 100000 in
set_option maxHeartbeats 8000000 in
theorem again_few (B n : Nat) (w : World) (h : PrAt w B B (foS (n + 1))) (hn : n < 7) :
    Calls Try.prog 30 #[ptr B, .int .i64 (n : Int)] w fun e w' => e = .returned (ptr B) ∧ PrAt w' B B (foS n) ∧ Tch B w w' := by
  have hAll := all_at B B (foS (n + 1)) w h
  rw [fo_all (by omega)] at hAll
  have HA : Hid (PrAt w B B (foS (n + 1))) := h
  obtain ⟨m, hm⟩ : ∃ m, m = n + 2 := ⟨_, rfl⟩
  have HL : Hid ((foL (n + 1)).length = m) := by show _ = m; rw [foL_len, hm]
  rw [HL.out] at hAll
  have Hm : Hid (m = n + 2) := hm
  clear h hm
  go_enter Try.func30, Try.ntmps30
  go_wp2_with fail
  refine hAll.mono ?_
  rintro e w1 ⟨a, cap, rfl, hI, hb⟩
  have HI : Hid (IRow w1 a (foL (n + 1))) := hI
  have HA1 : Hid (PrAt w1 B B (foS (n + 1))) := HA.out.below hb
  have HT1 : Hid (Tch B w w1) := Tch.of_below hb
  clear hAll hI hb
  go_wp2
  go_loopw [6] (fun s wr => ∃ i : Nat, s = .int .i64 i ∧ ((i ≤ n + 1 ∧ wr = w1) ∨ (i = n + 2 ∧ PrAt wr B B (foS n) ∧ Tch B w wr))) (fun s _ => m - (intOf s).toNat)
  case atStart => exact ⟨0, rfl, Or.inl ⟨by omega, rfl⟩⟩
  case round =>
    obtain ⟨i, rfl, ⟨hi, hw⟩ | ⟨hi, hA, hT⟩⟩ := hrel
    · subst hw
      have hm2 := Hm.out
      obtain ⟨ga, oa, rfl, hc⟩ := HI.out i _ (foL_get (show i < n + 1 + 1 by omega))
      have i1 : decide ((i : Int) < (m : Int)) = true := decide_eq_true (by omega)
      have hii : (i : Int) < (m : Int) := by omega
      have him : i < m := by omega
      by_cases he : i = n + 1
      · have g1 : decide ((n : Int) + 1 < (i : Int) + 1) = true := decide_eq_true (by omega)
        have hE := exit_at B B (foS (n + 1)) ((i : Int) + 1) 0 wr HA1.out
        have e1 : (i : Int) + 1 = (n : Int) + 2 := by omega
        rw [e1, (fo_exit 0).1, (fo_exit 0).2] at hE
        rw [e1] at hc g1
        have He : Hid (i = n + 1) := he
        have hi8 : i < 100 := by omega
        clear hm2 he e1 hi
        go_wp2_with fail
        refine hE.mono ?_
        rintro e w2 ⟨rfl, hA2, hT2⟩
        have hW := wait_at B B (zoS n 0) 1 w2 hA2
        obtain ⟨z1, z2, z3, z4⟩ := zo_wait hn 0
        rw [z1, z2, z3, z4, zo_gone hn 0] at hW
        have HT2 : Hid (Tch B w w2) := HT1.out.trans hT2
        clear hE hA2 hT2 z1 z2 z3 z4 hc
        go_wp2_with fail
        refine hW.mono ?_
        rintro e w3 ⟨rfl, hA3, hT3⟩
        have HA3 : Hid (PrAt w3 B B (foS n)) := hA3
        have HT3 : Hid (Tch B w w3) := HT2.out.trans hT3
        clear hW hA3 hT3
        go_wp2
        go_roundw
        case rel => exact ⟨i + 1, by go_num, Or.inr ⟨by have := He.out; omega, HA3.out, HT3.out⟩⟩
        case measure => simp [intOf]; omega
      · have g1 : decide ((n : Int) + 1 < (i : Int) + 1) = false := decide_eq_false (by omega)
        go_wp2
        go_roundw
        case rel => exact ⟨i + 1, by go_num, Or.inl ⟨by omega, by first | rfl | trivial⟩⟩
        case measure => simp [intOf]; omega
    · have HA3 : Hid (PrAt wr B B (foS n)) := hA
      have HT3 : Hid (Tch B w wr) := hT
      have hm2 := Hm.out
      have i1 : decide ((i : Int) < (m : Int)) = false := decide_eq_false (by omega)
      have hge : (m : Int) ≤ (i : Int) := by omega
      have hge2 : m ≤ i := by omega
      clear hA hT
      go_wp2
      go_ret
      exact ⟨rfl, HA3.out, HT3.out⟩
theorem eq_procs' (b : Nat) (W : World) : (binOp .eql 23 (ptr b) (.pointer none)).run Try.prog W = .ok (.bool false) W := eq_procs b W
set_option maxRecDepth 100000 in
set_option maxHeartbeats 16000000 in
theorem once_walk (D : List Int) (a0 : Option Addr) (len cap : Nat) (w : World) (hR : IRow w a0 D) (hl : len = D.length) (hl9 : len ≤ 9223372036854775807) :
    Calls Try.prog 5 #[.slice a0 len cap] w fun e w' => e = .returned (.bool true) ∧ Below w.heap.size w w' := by
  have hNew := new_at w
  have HR : Hid (IRow w a0 D) := hR
  have HL : Hid (len = D.length) := hl
  obtain ⟨n, hn⟩ : ∃ n : Nat, min (len : Int) 7 = (n : Int) := ⟨min len 7, by omega⟩
  have hn7 : n ≤ 7 := by omega
  have hnl : n ≤ len := by omega
  obtain ⟨B, hB⟩ : ∃ B, B = w.heap.size := ⟨_, rfl⟩
  rw [← hB] at hNew
  have hq := eq_procs B
  have HBs : Hid (B = w.heap.size) := hB
  clear hB hR hl
  go_enter Try.func5, Try.ntmps5
  go_wp2_with fail
  refine hNew.mono ?_
  rintro e w0 ⟨rfl, hA, hb⟩
  have HT0 : Hid (Below B w w0) := by rw [HBs.out] at hb ⊢; exact hb
  have h := begin_at B B St0 w0 hA
  rw [aw_0, fo_0] at h
  have HA0 : Hid (PrAt w0 B B St0) := hA
  clear hNew hA hb
  go_wp2_with fail
  refine h.mono ?_
  rintro e w1 ⟨rfl, hA, hT⟩
  have HA1 : Hid (PrAt w1 B B (foS 0)) := hA
  have HB1 : Hid (Below B w w1) := HT0.out.trans (hT.below (by have := HA0.out.low; omega))
  clear h hA hT HA0 HT0
  go_wp2
  go_loopw [5] (fun s wr => ∃ k : Nat, k ≤ n ∧ s = .int .i64 k ∧ PrAt wr B B (foS k) ∧ Below B w wr) (fun s _ => n - (intOf s).toNat)
  case atStart => exact ⟨0, by omega, rfl, HA1.out, HB1.out⟩
  case round =>
    clear HA1 HB1
    obtain ⟨k, hk, rfl, hA, hB⟩ := hrel
    have HA : Hid (PrAt wr B B (foS k)) := hA
    have HB : Hid (Below B w wr) := hB
    by_cases hlt : k < n
    · have i1 : decide ((k : Int) < (n : Int)) = true := decide_eq_true (by omega)
      have hkn : (k : Int) < (n : Int) := by omega
      have h := fork_at B B (foS k) 1 wr hA
      obtain ⟨e1, e2⟩ := fo_fork (show k < 7 by omega)
      rw [e1, e2, fo_next (by omega)] at h
      have g0 : (((k : Int) + 2) != ((k : Int) + 2)) = false := by simp
      clear hA hB e1 e2
      go_wp2_with fail
      refine h.mono ?_
      rintro e w2 ⟨rfl, hA, hT⟩
      have HA2 : Hid (PrAt w2 B B (foS (k + 1))) := hA
      have HB2 : Hid (Below B w w2) := HB.out.trans (hT.below (by have := HA.out.low; omega))
      clear h hA hT
      go_wp2
      go_roundw
      case rel => exact ⟨k + 1, by omega, by go_num, HA2.out, HB2.out⟩
      case measure => simp [intOf]; omega
    · have hkn : k = n := by omega
      subst hkn
      have i1 : decide ((k : Int) < (k : Int)) = false := decide_eq_false (by omega)
      have hge : (k : Int) ≤ (k : Int) := by omega
      have i2 : decide (k < k) = false := decide_eq_false (by omega)
      have h := fork_at B B (foS k) 1 wr hA
      -- one more, and again
      have hAg : ∃ (er : Int) (cn : Int), fkN (foS k) 1 = cn ∧ fkE (foS k) 1 = er ∧ ((k : Int) == 7 && er != 11) = false ∧ ∀ w2, PrAt w2 B B (fkS (foS k) 1) → Calls Try.prog 30 #[ptr B, .int .i64 (k : Int)] w2 fun e w' => e = .returned (ptr B) ∧ PrAt w' B B (foS k) ∧ Tch B w2 w' := by
        rcases Nat.lt_or_ge k 7 with h7 | h7
        · refine ⟨_, _, rfl, rfl, ?_, fun w2 h2 => ?_⟩
          · have : ((k : Int) == 7) = false := beq_false_of_ne (by omega)
            rw [this]; rfl
          · rw [fo_next h7] at h2
            exact again_few B k w2 h2 h7
        · obtain rfl : k = 7 := by omega
          refine ⟨_, _, rfl, rfl, ?_, fun w2 h2 => ?_⟩
          · rw [fo_full.1]; rfl
          · rw [fo_full.2.2] at h2
            exact again_full B w2 h2
      obtain ⟨er, cn, e1, e2, e3, hAg⟩ := hAg
      rw [e1, e2] at h
      have HAg : Hid (∀ w2, PrAt w2 B B (fkS (foS k) 1) → Calls Try.prog 30 #[ptr B, .int .i64 (k : Int)] w2 fun e w' => e = .returned (ptr B) ∧ PrAt w' B B (foS k) ∧ Tch B w2 w') := hAg
      have HE : Hid (((k : Int) == 7 && er != 11) = false) := e3
      have HK : Hid (k ≤ 7 ∧ k ≤ len) := ⟨hn7, hnl⟩
      clear hA hB e1 e2 e3 hAg hlt hk
      go_wp2_with fail
      refine h.mono ?_
      rintro e w2 ⟨rfl, hA, hT⟩
      have hAg := HAg.out w2 hA
      have HB2 : Hid (Below B w w2) := HB.out.trans (hT.below (by have := HA.out.low; omega))
      have HLow2 : Hid (B ≤ w2.heap.size) := hA.low
      clear h hA hT HA HB HAg
      have hcase : (((k : Int) == 7) = true ∧ (er != 11) = false) ∨ ((k : Int) == 7) = false := by
        have := HE.out
        cases q : ((k : Int) == 7) with
        | false => exact Or.inr rfl
        | true =>
          rw [q, Bool.true_and] at this
          exact Or.inl ⟨rfl, this⟩
      rcases hcase with ⟨q1, q2⟩ | q1
      all_goals
        go_wp2_with fail
        refine hAg.mono ?_
        rintro e w3 ⟨rfl, hA, hT⟩
        have HA3 : Hid (PrAt w3 B B (foS k)) := hA
        have HB3 : Hid (Below B w w3) := HB2.out.trans (hT.below HLow2.out)
        clear hAg hA hT HB2 HLow2 HE
        go_wp2
        go_loopw [10] (fun s wr => ∃ j : Nat, j ≤ k ∧ s = .int .i64 ((j : Int) - 1) ∧ PrAt wr B B (foS j) ∧ Below B w wr) (fun s _ => ((intOf s) + 1).toNat)
        case atStart => exact ⟨k, by omega, by go_num, HA3.out, HB3.out⟩
        case round =>
          clear HA3 HB3
          obtain ⟨j, hj, rfl, hA, hB⟩ := hrel
          have HB : Hid (Below B w wr) := hB
          have HJ : Hid (j ≤ k) := hj
          cases j with
          | zero =>
            have h := wait_at B B (foS 0) 1 wr hA
            obtain ⟨z1, z2, z3, z4, z5⟩ := fo_last
            rw [z1, z2, z3, z4, z5] at h
            have HLow : Hid (B ≤ wr.heap.size) := hA.low
            clear hA hB z1 z2 z3 z4 z5 hj
            go_wp2_with fail
            refine h.mono ?_
            rintro e w4 ⟨rfl, hA, hT⟩
            have HB4 : Hid (Below B w w4) := HB.out.trans (hT.below HLow.out)
            have HLow4 : Hid (B ≤ w4.heap.size) := hA.low
            have h2 := all_at B B (foS 0) w4 hA
            rw [fo_all (by omega), show foL 0 = [1] from rfl] at h2
            clear h hA hT
            go_wp2_with fail
            refine h2.mono ?_
            rintro e w5 ⟨a5, c5, rfl, hI, hb⟩
            have HI5 : Hid (IRow w5 a5 [1]) := hI
            have HB5 : Hid (Below B w w5) := HB4.out.trans (hb.mono HLow4.out)
            have hb6 := below_alloc w5 (.cells #[.int .i64 1] 3)
            have hnew : (w5.alloc (.cells #[.int .i64 1] 3)).heap[w5.heap.size]? = some (.cells #[.int .i64 1] 3) := heap_alloc_new _ _
            have h3 := ints_same [1] a5 (some ⟨w5.heap.size, 0, none⟩) c5 1 _ (HI5.out.below hb6) (fun i x hx => ⟨w5.heap.size, 0, rfl, by
              have hi : i = 0 := by have := (List.getElem?_eq_some_iff.1 hx).1; simp at this; omega
              subst hi
              simp at hx
              subst hx
              rw [cell_of_heap hnew]
              rfl⟩) (by simp)
            have HB6 : Hid (Below B w (w5.alloc (.cells #[.int .i64 1] 3))) := HB5.out.trans (hb6.mono (by have := hb.size; have := HLow4.out; omega))
            have HLow6 : Hid (B ≤ (w5.alloc (.cells #[.int .i64 1] 3)).heap.size) := by show B ≤ _; have := hb.size; have := hb6.size; have := HLow4.out; omega
            clear h2 hI hb hb6 hnew
            go_wp2_with fail
            refine h3.mono ?_
            rintro e w6 ⟨rfl, hb7⟩
            have HB7 : Hid (Below B w w6) := HB6.out.trans (hb7.mono HLow6.out)
            have HLow7 : Hid (B ≤ w6.heap.size) := by show B ≤ _; have := hb7.size; have := HLow6.out; omega
            clear h3 hb7
            go_wp2_with fail
            refine (awake_at _).mono ?_
            rintro e w7 ⟨rfl, hb8⟩
            have HE : Hid (Below w.heap.size w w7) := by
              show Below w.heap.size w w7
              rw [← HBs.out]
              exact HB7.out.trans (hb8.mono HLow7.out)
            clear hb8
            go_wp2
            go_ret
            exact ⟨rfl, HE.out⟩
          | succ i =>
            have hik : i < k := by omega
            have hi7 : i < 7 := by have := HK.out.1; omega
            have hil : i < len := by have := HK.out.2; omega
            obtain ⟨x, hx⟩ : ∃ x, D[i]? = some x := ⟨D[i]'(by rw [← HL.out]; exact hil), List.getElem?_eq_getElem _⟩
            have HX : Hid (D[i]? = some x) := hx
            have hce : (((i + 1 : Nat) : Int) - 1) = (i : Int) := by omega
            rw [hce]
            have h := wait_at B B (foS (i + 1)) 1 wr hA
            obtain ⟨z1, z2, z3, z4, z5⟩ := fo_wait hi7
            rw [z1, z2, z3, z4, z5] at h
            have HLow : Hid (B ≤ wr.heap.size) := hA.low
            have i1 : decide (0 ≤ (i : Int)) = true := decide_eq_true (by omega)
            have hi0 : (0 : Int) ≤ (i : Int) := by omega
            have hlen : (i : Int) < (len : Int) := by omega
            clear hA hB z1 z2 z3 z4 z5 hj hx hce
            go_wp2_with fail
            refine h.mono ?_
            rintro e w4 ⟨rfl, hA, hT⟩
            have HB4 : Hid (Below B w w4) := HB.out.trans (hT.below HLow.out)
            have HLow4 : Hid (B ≤ w4.heap.size) := hA.low
            have hrow : ∀ W, Below B w W → ∃ g off, a0 = some ⟨g, off, none⟩ ∧ W.cell? ⟨g, off + i, none⟩ = some (.int .i64 x) := fun W hb => (HR.out.below (by rw [← HBs.out]; exact hb)) i x HX.out
            have HRow : Hid (∀ W, Below B w W → ∃ g off, a0 = some ⟨g, off, none⟩ ∧ W.cell? ⟨g, off + i, none⟩ = some (.int .i64 x)) := hrow
            obtain ⟨g, off, ea, c4⟩ := hrow w4 HB4.out
            subst ea
            have h2 := exit_at B B (foS (i + 1)) ((i : Int) + 2) x w4 hA
            rw [(fo_exit x).1, (fo_exit x).2] at h2
            clear h hA hT hrow
            go_wp2_with fail
            refine h2.mono ?_
            rintro e w5 ⟨rfl, hA, hT⟩
            have HB5 : Hid (Below B w w5) := HB4.out.trans (hT.below HLow4.out)
            have HLow5 : Hid (B ≤ w5.heap.size) := hA.low
            have h3 := live_at B B (zoS i x) ((i : Int) + 2) w5 hA
            rw [zo_dead] at h3
            have HA5 : Hid (PrAt w5 B B (zoS i x)) := hA
            clear h2 hA hT c4
            go_wp2_with fail
            refine h3.mono ?_
            rintro e w6 ⟨rfl, hw⟩
            rw [hw]
            clear hw w6 h3
            have h4 := wait_at B B (zoS i x) 1 w5 HA5.out
            obtain ⟨z1, z2, z3, z4⟩ := zo_wait hi7 x
            rw [z1, z2, z3, z4, zo_gone hi7 x] at h4
            clear z1 z2 z3 z4
            go_wp2_with fail
            refine h4.mono ?_
            rintro e w6 ⟨rfl, hA, hT⟩
            have HB6 : Hid (Below B w w6) := HB5.out.trans (hT.below HLow5.out)
            have HA6 : Hid (PrAt w6 B B (foS i)) := hA
            obtain ⟨_, _, e6, c6⟩ := HRow.out w6 HB6.out
            simp only [Option.some.injEq, Addr.mk.injEq, and_true] at e6
            obtain ⟨rfl, rfl⟩ := e6
            have g0 : (((i : Int) + 2) != ((i : Int) + 2)) = false := by simp
            have g1 : (x != x) = false := by simp
            clear h4 hA hT
            go_wp2
            go_roundw
            case rel => exact ⟨i, by omega, by go_num, HA6.out, HB6.out⟩
            case measure => first | (simp [intOf]; done) | (simp [intOf]; omega)
theorem own : ownKnob Try.prog.godebug = none := by kernel_rfl
theorem laidOut : laidOutB Try.prog = true := by kernel_rfl

set_option maxRecDepth 100000 in
theorem once_lifted (os : Os) (started : os.Started) (H : Type) (enc : TypeId × Value → H) :
    ReturnsInHanded {} Try.checked os 5 .any (Rows.procsOnceSpec.pre6 enc Try.prog Try.f5 Rows.procsOnceRow.domain false) (Rows.procsOnceSpec.post enc Try.prog Try.f5 false true false false) := by
  refine returnsInHanded_of_change (C := Try.checked) own started (by kernel_rfl) Try.func5
    (ChangeSpec.witness6 (enc := enc) (C := Try.checked) false ⟨#[], #[.slice none 0 0], []⟩ 8 (by kernel_rfl) (by kernel_rfl) (by kernel_rfl) (by kernel_rfl)) ?_
  intro W base args ds gs before hval0 hW hcnd _
  have hval : ∀ (j : Nat) t v, Try.f5.params[j]? = some t → args[j]? = some v → Value.okWide Try.prog W .any base t v := hval0
  have hW' := hW
  obtain ⟨p, q, hA0, hV, rfl, hfz, hnd⟩ := hW
  have hA : DataW.TrodAll enc Try.prog W 0 (fun _ => true) true Try.f5.params.toList args.toList ds p := hA0
  rw [Try.params5] at hA hval
  obtain ⟨v0, vs0, d0, ds0, p0, q0, hargs, rfl, rfl, h0, r0⟩ := trodAll_cons hA
  obtain ⟨rfl, rfl, rfl⟩ := trodAll_nil r0
  obtain rfl : args = #[v0] := by cases args; simp_all
  obtain ⟨rfl, rfl⟩ := trodVars_none hV
  have k0 := h0
  have lt0 : ∀ x ∈ p0, x.block < W.heap.size := by obtain ⟨m, hm⟩ := k0; exact DataW.trod_lt m _ _ _ hm
  obtain ⟨a0, len0, cap0, rfl⟩ := okWide_slice Try.underlying52 (hval 0 52 v0 rfl rfl)
  clear hA0 hval0
  have hin : len0 ≤ 9223372036854775807 ∧ ∃ D : List Int, len0 = D.length ∧ IRow W a0 D := by
    obtain ⟨fuel, hf⟩ := h0
    exact ints_in (by simpa [Value.cells] using hf)
  obtain ⟨hle, D, hD, hR⟩ := hin
  have hwalk : Calls Try.prog 5 #[.slice a0 len0 cap0] W fun e w' => e = .returned (.bool true) ∧ Below W.heap.size W w' := once_walk D a0 len0 cap0 W hR hD hle
  refine hwalk.mono fun e W' ⟨he, bel⟩ => ?_
  subst he
  exact ⟨_, rfl, _, _, _, [], _, [], hW', trodAll_mk1 (shut_bool Try.underlying4 _), (trodAll_cons_mk (Below.trod laidOut (by kernel_rfl) (of_decide_eq_true (by kernel_rfl)) k0 bel lt0) trodAll_mk0), rfl, bel.frame _, fun h => by cases h⟩

theorem once_holds : Rows.ProcsOnceSaid :=
  OpenClaim.holds_of_wide 5 Try.f5 rfl rfl rfl rfl rfl rfl rfl ⟨rfl, rfl, rfl, rfl, rfl⟩ rfl rfl rfl rfl rfl (by kernel_rfl) Try.func5 (by kernel_rfl)
    (of_decide_eq_true (by kernel_rfl)) (by unfold Func.isWrapper; first | (rw [if_pos (by decide +kernel)]; kernel_rfl) | (rw [if_neg (by decide +kernel)]; exact ⟨rfl, rfl⟩))
    (fun os started H enc _ => once_lifted os started H enc)
#print axioms once_holds
end Go.Proofs.Ytfcpcncafopobaa
