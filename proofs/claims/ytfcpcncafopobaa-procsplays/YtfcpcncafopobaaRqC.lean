/- The reference of package procs: Wait. -/
import Derived.Test.YtfcpcncafopobaaRqA
namespace Go.Proofs.Ytfcpcncafopobaa
open Go.RowKit Go.Lib
set_option linter.unusedVariables false

/-- The pids of which that is so among the first i. -/
def someTo (S : St) (k : Int) : Nat → Bool
  | 0 => false
  | i + 1 => someTo S k i || hits S (fun p => p.par == k) ((i : Int) + 1)
theorem someTo_is {S : St} {k : Int} : ∀ {i : Nat}, someTo S k i = true ↔ ∃ j, j < i ∧ hits S (fun p => p.par == k) ((j : Int) + 1) = true
  | 0 => by simp [someTo]
  | i + 1 => by
    unfold someTo
    rw [Bool.or_eq_true, someTo_is]
    constructor
    · rintro (⟨j, h1, h2⟩ | h)
      · exact ⟨j, by omega, h2⟩
      · exact ⟨i, by omega, h⟩
    · rintro ⟨j, h1, h2⟩
      by_cases e : j = i
      · rw [e] at h2; exact Or.inr h2
      · exact Or.inl ⟨j, by omega, h2⟩
theorem chs_nil {S : St} {k : Int} (hd : Dom S) (h : someTo S k 8 = false) : chs S k = [] := by
  cases e : chs S k with
  | nil => rfl
  | cons x l =>
    have hx : x ∈ chs S k := by rw [e]; simp
    have hh := (mem_lst hd).1 hx
    have hr : 1 ≤ x ∧ x ≤ 8 := by
      unfold hits at hh
      cases q : S x with
      | none => rw [q] at hh; cases hh
      | some p => exact hd x p q
    have : someTo S k 8 = true := someTo_is.2 ⟨(x - 1).toNat, by omega, by rw [show (((x - 1).toNat : Nat) : Int) + 1 = x by omega]; exact hh⟩
    rw [h] at this
    cases this
theorem chs_ne {S : St} {k : Int} (hd : Dom S) (h : someTo S k 8 = true) : chs S k ≠ [] := by
  obtain ⟨j, hj, hh⟩ := someTo_is.1 h
  intro e
  have : ((j : Int) + 1) ∈ chs S k := (mem_lst hd).2 hh
  rw [e] at this
  simp at this
theorem pids_get {i : Nat} (hi : i < 8) : pids[i]? = some ((i : Int) + 1) := by
  match i, hi with
  | 0, _ => rfl
  | 1, _ => rfl
  | 2, _ => rfl
  | 3, _ => rfl
  | 4, _ => rfl
  | 5, _ => rfl
  | 6, _ => rfl
  | 7, _ => rfl
theorem find_chs {S : St} {k : Int} : (chs S k).find? (hits S Pr.zom) = pids.find? (fun x => hits S (fun p => p.par == k) x && hits S Pr.zom x) := by
  unfold chs lstF
  rw [List.find?_filter]
  simp only [Bool.decide_and, Bool.decide_eq_true]
theorem find_none {S : St} {k : Int} (h : ∀ j : Nat, j < 8 → (hits S (fun p => p.par == k) ((j : Int) + 1) && hits S Pr.zom ((j : Int) + 1)) = false) : (chs S k).find? (hits S Pr.zom) = none := by
  rw [find_chs, List.find?_eq_none]
  intro x hx
  have := mem_pids.1 hx
  have h2 := h (x - 1).toNat (by omega)
  rw [show (((x - 1).toNat : Nat) : Int) + 1 = x by omega] at h2
  rw [h2]
  simp
set_option maxRecDepth 100000 in
set_option maxHeartbeats 4000000 in
theorem rwait_at (b : Nat) (S : St) (k : Int) (w : World) (h : RT w b (trS S)) (hd : Dom S) :
    Calls Try.prog 16 #[ptr b, .int .i64 k] w fun e w' => e = .returned (.tuple #[.int .i64 (wtN S k), .int .i64 (wtT S k), .int .i64 (wtE S k), .bool (wtB S k)]) ∧ RT w' b (trS (wtS S k)) ∧ Upd b w w' := by
  have hv := rlive_at b (trS S) k w h
  rw [livT_S hd] at hv
  have HH : Hid (RT w b (trS S)) := h
  have HD : Hid (Dom S) := hd
  cases hk : liv S k with
  | false =>
    have HR : Hid (wtN S k = 0 ∧ wtT S k = 0 ∧ wtE S k = 3 ∧ wtB S k = false ∧ wtS S k = S) := by
      have e : wtN S k = 0 := by unfold wtN; rw [hk, if_neg (by simp)]
      refine ⟨e, ?_, ?_, ?_, ?_⟩
      · unfold wtT; rw [if_pos e]
      · unfold wtE; rw [hk, if_neg (by simp)]
      · unfold wtB; rw [e]; rfl
      · unfold wtS; rw [if_pos e]
    rw [hk] at hv
    clear h hk hd
    go_enter Try.func16, Try.ntmps16
    go_wp2_with fail
    refine hv.mono ?_
    rintro e w1 ⟨rfl, hw⟩
    rw [hw]
    clear hw w1 hv
    go_wp2
    (try simp only [Exit.inBlock, Exit.then])
    refine bodyPost_ret (results_tmp4 rfl _ _ _) rfl ?_
    obtain ⟨e1, e2, e3, e4, e5⟩ := HR.out
    exact ⟨by rw [e1, e2, e3, e4]; rfl, by rw [e5]; exact HH.out, Upd.refl _ _⟩
  | true =>
    have HLv : Hid (liv S k = true) := hk
    rw [hk] at hv
    clear h hk hd
    go_enter Try.func16, Try.ntmps16
    go_wp2_with fail
    refine hv.mono ?_
    rintro e w1 ⟨rfl, hw⟩
    rw [hw]
    clear hw w1 hv
    go_wp2
    go_loopw [8, 9] (fun t s wr => ∃ i : Nat, i ≤ 8 ∧ s = .int .i64 i ∧ t = .bool (someTo S k i) ∧ (∀ j, j < i → (hits S (fun p => p.par == k) ((j : Int) + 1) && hits S Pr.zom ((j : Int) + 1)) = false) ∧ wr = w) (fun _ s _ => 8 - (intOf s).toNat)
    case atStart => exact ⟨0, by omega, rfl, rfl, fun j hj => by omega, rfl⟩
    case round =>
      obtain ⟨i, hi, rfl, rfl, hno, hw⟩ := hrel
      subst hw
      have HNo : Hid (∀ j, j < i → (hits S (fun p => p.par == k) ((j : Int) + 1) && hits S Pr.zom ((j : Int) + 1)) = false) := hno
      clear hno
      by_cases hlt : i < 8
      · have i1 : decide ((i : Int) < 8) = true := decide_eq_true (by omega)
        have n1 : (i : Int) < 8 := by omega
        have n0 : (0 : Int) ≤ (i : Int) := by omega
        have c0 := HH.out.is hlt
        have c1 := HH.out.par hlt
        have c2 := HH.out.st hlt
        rw [show trS S i = trO (S ((i : Int) + 1)) from rfl] at c0 c1 c2
        have HSt : Hid (someTo S k (i + 1) = (someTo S k i || hits S (fun p => p.par == k) ((i : Int) + 1))) := rfl
        have HNo2 : Hid ((hits S (fun p => p.par == k) ((i : Int) + 1) && hits S Pr.zom ((i : Int) + 1)) = false → ∀ j, j < i + 1 → (hits S (fun p => p.par == k) ((j : Int) + 1) && hits S Pr.zom ((j : Int) + 1)) = false) := fun h j hj => by
          by_cases e : j = i
          · rw [e]; exact h
          · exact HNo.out j (by omega)
        cases hS : S ((i : Int) + 1) with
        | none =>
          rw [hS] at c0 c1 c2
          unfold trO at c0 c1 c2
          dsimp only at c0 c1 c2
          have hh : hits S (fun p => p.par == k) ((i : Int) + 1) = false := by unfold hits; rw [hS]
          have HS1 : Hid (someTo S k (i + 1) = someTo S k i) := by show _ = _; rw [HSt.out, hh, Bool.or_false]
          have HN1 := HNo2.out (by rw [hh]; rfl)
          have HN2 : Hid _ := HN1
          clear hS hh HN1 HNo2
          generalize someTo S k i = sb at *
          go_wp2
          go_roundw
          case rel => exact ⟨i + 1, by omega, by go_num, by rw [HS1.out], HN2.out, by first | rfl | trivial⟩
          case measure => simp [intOf]; omega
        | some p =>
          rw [hS] at c0 c1 c2
          have ez : (trO (some p)).is = if p.zom = true then 2 else 1 := rfl
          have ep : (trO (some p)).par = p.par := rfl
          have es : (trO (some p)).st = p.st := rfl
          rw [ez] at c0
          rw [ep] at c1
          rw [es] at c2
          have hh : hits S (fun p => p.par == k) ((i : Int) + 1) = (p.par == k) := by unfold hits; rw [hS]
          have hzz : hits S Pr.zom ((i : Int) + 1) = p.zom := by unfold hits; rw [hS]
          by_cases hpk : p.par = k
          · have q1 : (p.par != k) = false := by simp [hpk]
            have q2 : (p.par == k) = true := by simp [hpk]
            rw [q2] at hh
            cases hzm : p.zom with
            | false =>
              rw [hzm, if_neg (by simp)] at c0
              have HS1 : Hid (someTo S k (i + 1) = true) := by show _ = _; rw [HSt.out, hh, Bool.or_true]
              have HN1 := HNo2.out (by rw [hzz, hzm, Bool.and_false])
              have HN2 : Hid _ := HN1
              clear hS hh hzz hzm HN1 HNo2 ez ep es hpk
              go_wp2
              go_roundw
              case rel => exact ⟨i + 1, by omega, by go_num, by rw [HS1.out], HN2.out, by first | rfl | trivial⟩
              case measure => simp [intOf]; omega
            | true =>
              rw [hzm, if_pos rfl] at c0
              have hth : wr.there b (i * 3) 3 := HH.out.there hlt
              have HR : Hid (wtN S k = (i : Int) + 1 ∧ wtT S k = p.st ∧ wtE S k = 0 ∧ wtB S k = true ∧ wtS S k = stDel S ((i : Int) + 1)) := by
                have e0 : (chs S k).find? (hits S Pr.zom) = some ((i : Int) + 1) := by
                  rw [find_chs]
                  refine find_at (pids_get hlt) (by rw [hh, hzz, hzm]; rfl) (fun j y hj hy => ?_)
                  rw [pids_get (by omega)] at hy
                  cases hy
                  exact HNo.out j hj
                have e : wtN S k = (i : Int) + 1 := by unfold wtN wtZ; rw [e0, if_pos HLv.out]; rfl
                have hx0 : (i : Int) + 1 ≠ 0 := by omega
                refine ⟨e, ?_, ?_, ?_, ?_⟩
                · unfold wtT stI; rw [e, if_neg hx0, hS]
                · unfold wtE
                  rw [HLv.out, if_pos rfl, if_neg]
                  intro q
                  rw [q] at e0
                  cases e0
                · unfold wtB; rw [e]; exact bne_iff_ne.2 hx0
                · unfold wtS; rw [e, if_neg hx0]
              obtain ⟨V, hV⟩ : ∃ V, V = wr.setCells b (i * 3) [.int .i64 0, .int .i64 0, .int .i64 0] := ⟨_, rfl⟩
              have HR2 : Hid (RT V b (trS (stDel S ((i : Int) + 1)))) := by
                show RT V b _
                have h1 := HH.out.put3 (i := i) 0 0 0
                rw [tr_del] at h1
                rw [hV]
                exact h1
              have HU2 : Hid (Upd b wr V) := by rw [hV]; exact upd_sets _ _ _ _
              have HV : Hid _ := hV
              clear hS hh hzz hzm HNo2 ez ep es hpk hV
              go_wp2_with (first | (refine wpList_store_mid rfl 27 _ _ rfl b (i * 3) #[.int .i64 0, .int .i64 0, .int .i64 0] rfl rfl hth trSize (by simp [Value.oneCell']) ?_; rw [show (#[.int .i64 0, .int .i64 0, .int .i64 0] : Array Value).toList = [.int .i64 0, .int .i64 0, .int .i64 0] from rfl, ← HV.out]) | go_in)
              (try simp only [Exit.inBlock, Exit.then])
              refine bodyPost_ret (results_tmp4 rfl _ _ _) rfl ?_
              obtain ⟨e1, e2, e3, e4, e5⟩ := HR.out
              refine ⟨?_, by rw [e5]; exact HR2.out, HU2.out⟩
              rw [e1, e2, e3, e4]
              go_num
          · have q1 : (p.par != k) = true := bne_iff_ne.2 hpk
            have q2 : (p.par == k) = false := beq_false_of_ne hpk
            rw [q2] at hh
            obtain ⟨z, hz⟩ : ∃ z : Int, z = (if p.zom = true then 2 else 1) := ⟨_, rfl⟩
            rw [← hz] at c0
            have g0 : (z == 0) = false := beq_false_of_ne (by rw [hz]; split <;> omega)
            have HS1 : Hid (someTo S k (i + 1) = someTo S k i) := by show _ = _; rw [HSt.out, hh, Bool.or_false]
            have HN1 := HNo2.out (by rw [hh]; rfl)
            have HN2 : Hid _ := HN1
            clear hS hh hzz HN1 HNo2 ez ep es hpk hz
            generalize someTo S k i = sb at *
            go_wp2
            go_roundw
            case rel => exact ⟨i + 1, by omega, by go_num, by rw [HS1.out], HN2.out, by first | rfl | trivial⟩
            case measure => simp [intOf]; omega
      · have i1 : decide ((i : Int) < 8) = false := decide_eq_false (by omega)
        have hi8 : i = 8 := by omega
        subst hi8
        have hfn : (chs S k).find? (hits S Pr.zom) = none := find_none HNo.out
        have e : wtN S k = 0 := by unfold wtN wtZ; rw [hfn, if_pos HLv.out]; rfl
        have HR0 : Hid (wtN S k = 0 ∧ wtT S k = 0 ∧ wtB S k = false ∧ wtS S k = S) := by
          refine ⟨e, ?_, ?_, ?_⟩
          · unfold wtT; rw [if_pos e]
          · unfold wtB; rw [e]; rfl
          · unfold wtS; rw [if_pos e]
        cases hs : someTo S k 8 with
        | false =>
          have HE : Hid (wtE S k = 10) := by show _ = _; unfold wtE; rw [HLv.out, if_pos rfl, if_pos (chs_nil HD.out hs)]
          clear hfn e hs
          go_wp2
          (try simp only [Exit.inBlock, Exit.then])
          refine bodyPost_ret (results_tmp4 rfl _ _ _) rfl ?_
          obtain ⟨e1, e2, e4, e5⟩ := HR0.out
          exact ⟨by rw [e1, e2, HE.out, e4]; rfl, by rw [e5]; exact HH.out, Upd.refl _ _⟩
        | true =>
          have HE : Hid (wtE S k = 0) := by show _ = _; unfold wtE; rw [HLv.out, if_pos rfl, if_neg (chs_ne HD.out hs)]
          clear hfn e hs
          go_wp2
          (try simp only [Exit.inBlock, Exit.then])
          refine bodyPost_ret (results_tmp4 rfl _ _ _) rfl ?_
          obtain ⟨e1, e2, e4, e5⟩ := HR0.out
          exact ⟨by rw [e1, e2, HE.out, e4]; rfl, by rw [e5]; exact HH.out, Upd.refl _ _⟩
end Go.Proofs.Ytfcpcncafopobaa
