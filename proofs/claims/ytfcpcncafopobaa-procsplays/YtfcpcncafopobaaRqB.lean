/- The reference of package procs: Exit. -/
import Derived.Test.YtfcpcncafopobaaRqA
namespace Go.Proofs.Ytfcpcncafopobaa
open Go.RowKit Go.Lib
set_option linter.unusedVariables false

/-- The first k pids are done, the others as they were. -/
def orTo (S : St) (pid : Int) (k : Nat) : St := fun x => if x ≤ k then orph S pid x else S x
def buTo (S : St) (k : Nat) : St := fun x => if x ≤ k then bur S x else S x
theorem orTo_0 {S : St} (hd : Dom S) (pid : Int) : orTo S pid 0 = S := by
  funext x
  unfold orTo
  split
  · have : S x = none := hd.none (by omega)
    unfold orph; rw [this]; rfl
  · rfl
theorem orTo_8 {S : St} (hd : Dom S) (pid : Int) : orTo S pid 8 = orph S pid := by
  funext x
  unfold orTo
  split
  · rfl
  · have : S x = none := hd.none (by omega)
    unfold orph; rw [this]; rfl
theorem buTo_0 {S : St} (hd : Dom S) : buTo S 0 = S := by
  funext x
  unfold buTo
  split
  · have : S x = none := hd.none (by omega)
    unfold bur; rw [this]; rfl
  · rfl
theorem buTo_8 {S : St} (hd : Dom S) : buTo S 8 = bur S := by
  funext x
  unfold buTo
  split
  · rfl
  · have : S x = none := hd.none (by omega)
    unfold bur; rw [this]; rfl
theorem orTo_at (S : St) (pid : Int) (i : Nat) : orTo S pid i ((i : Int) + 1) = S ((i : Int) + 1) := by unfold orTo; rw [if_neg (by omega)]
theorem buTo_at (S : St) (i : Nat) : buTo S i ((i : Int) + 1) = S ((i : Int) + 1) := by unfold buTo; rw [if_neg (by omega)]
theorem orTo_same {S : St} {pid : Int} {i : Nat} (h : orph S pid ((i : Int) + 1) = S ((i : Int) + 1)) : orTo S pid (i + 1) = orTo S pid i := by
  funext x
  unfold orTo
  by_cases e : x = (i : Int) + 1
  · rw [e, if_pos (by omega), if_neg (by omega), h]
  · by_cases e2 : x ≤ (i : Int)
    · rw [if_pos (by omega), if_pos e2]
    · rw [if_neg (by omega), if_neg e2]
theorem orTo_put {S : St} {pid : Int} {i : Nat} {p : Pr} (h : orph S pid ((i : Int) + 1) = some p) : orTo S pid (i + 1) = stPut (orTo S pid i) ((i : Int) + 1) p := by
  funext x
  unfold orTo stPut
  dsimp only
  by_cases e : x = (i : Int) + 1
  · rw [if_pos e, e, if_pos (by omega), h]
  · rw [if_neg e]
    by_cases e2 : x ≤ (i : Int)
    · rw [if_pos (by omega), if_pos e2]
    · rw [if_neg (by omega), if_neg e2]
theorem buTo_same {S : St} {i : Nat} (h : bur S ((i : Int) + 1) = S ((i : Int) + 1)) : buTo S (i + 1) = buTo S i := by
  funext x
  unfold buTo
  by_cases e : x = (i : Int) + 1
  · rw [e, if_pos (by omega), if_neg (by omega), h]
  · by_cases e2 : x ≤ (i : Int)
    · rw [if_pos (by omega), if_pos e2]
    · rw [if_neg (by omega), if_neg e2]
theorem buTo_del {S : St} {i : Nat} (h : bur S ((i : Int) + 1) = none) : buTo S (i + 1) = stDel (buTo S i) ((i : Int) + 1) := by
  funext x
  unfold buTo stDel
  dsimp only
  by_cases e : x = (i : Int) + 1
  · rw [if_pos e, e, if_pos (by omega), h]
  · rw [if_neg e]
    by_cases e2 : x ≤ (i : Int)
    · rw [if_pos (by omega), if_pos e2]
    · rw [if_neg (by omega), if_neg e2]
set_option maxRecDepth 100000 in
set_option maxHeartbeats 8000000 in
theorem rexit_at (b : Nat) (S : St) (k st : Int) (w : World) (h : RT w b (trS S)) (hd : Dom S) :
    Calls Try.prog 14 #[ptr b, .int .i64 k, .int .i64 st] w fun e w' => e = .returned (.int .i64 (exE S k)) ∧ RT w' b (trS (exS S k st)) ∧ Upd b w w' := by
  have hv := rlive_at b (trS S) k w h
  rw [livT_S hd] at hv
  cases hk : liv S k with
  | false =>
    have HH : Hid (RT w b (trS S)) := h
    have HR : Hid (exE S k = 3 ∧ exS S k st = S) := by
      unfold exE exS
      rw [hk, if_neg (by simp), if_neg (by simp)]
      exact ⟨rfl, rfl⟩
    rw [hk] at hv
    clear h hk
    go_enter Try.func14, Try.ntmps14
    go_wp2_with fail
    refine hv.mono ?_
    rintro e w1 ⟨rfl, hw⟩
    rw [hw]
    clear hw w1 hv
    go_wp2
    go_ret
    obtain ⟨e1, e2⟩ := HR.out
    exact ⟨by rw [e1]; rfl, by rw [e2]; exact HH.out, Upd.refl _ _⟩
  | true =>
    obtain ⟨p, hp, hz⟩ := liv_is.1 hk
    have hdk := hd k p hp
    obtain ⟨i, hi⟩ : ∃ i : Nat, (i : Int) = k - 1 := ⟨(k - 1).toNat, by omega⟩
    have hi8 : i < 8 := by omega
    have hik : (i : Int) + 1 = k := by omega
    have hw1 : IntKind.i64.wrap (k - 1) = (i : Int) := by rw [← hi]; simp [IntKind.wrap, IntKind.bits, IntKind.signed]; omega
    have n0 : (0 : Int) ≤ (i : Int) := by omega
    have n1 : (i : Int) < 8 := by omega
    have hT : trS S i = ⟨1, p.par, p.st⟩ := by
      unfold trS
      rw [hik, hp]
      show (⟨if p.zom = true then 2 else 1, p.par, p.st⟩ : Tr) = _
      rw [hz, if_neg (by simp)]
    obtain ⟨S2, hS2⟩ : ∃ S2, S2 = stPut S k ⟨p.par, true, st⟩ := ⟨_, rfl⟩
    have hd2 : Dom S2 := by rw [hS2]; exact hd.put _ hdk.1 hdk.2
    have hR1 := h.set0 (i := i) 2
    have hR2 := hR1.set2 (i := i) st
    rw [TS.set_set, TS.set_same, hT] at hR2
    have hTT : (trS S).set i ⟨2, p.par, st⟩ = trS S2 := by
      rw [hS2, ← hik, show (⟨2, p.par, st⟩ : Tr) = trO (some ⟨p.par, true, st⟩) from rfl, tr_set]
    have hR3 : RT ((w.setCell ⟨b, i * 3, none⟩ (.int .i64 2)).setCell ⟨b, i * 3 + 2, none⟩ (.int .i64 st)).drew b (trS S2) := by rw [← hTT]; exact hR2.drew
    obtain ⟨W, hW⟩ : ∃ W, W = ((w.setCell ⟨b, i * 3, none⟩ (.int .i64 2)).setCell ⟨b, i * 3 + 2, none⟩ (.int .i64 st)).drew := ⟨_, rfl⟩
    have HWR : Hid (RT W b (trS S2)) := by rw [hW]; exact hR3
    have HU : Hid (Upd b w W) := by rw [hW]; exact ((Upd.setCell _ _ _ _).trans (Upd.setCell _ _ _ _)).trans (Upd.drew b _)
    have HR : Hid (exE S k = 0 ∧ exS S k st = bur (orph S2 k)) := by
      unfold exE exS parI
      rw [hk, if_pos rfl, if_pos rfl, hp, hS2]
      exact ⟨rfl, rfl⟩
    have HD2 : Hid (Dom S2) := hd2
    have b0 := h.is hi8
    have b2 := h.st hi8
    have g0 := h.free (i * 3)
    have g2 := h.free (i * 3 + 2)
    have c3 := hR1.st hi8
    rw [TS.set_same] at c3
    dsimp only at c3
    have f3 := hR1.free (i * 3 + 2)
    have HW : Hid _ := hW
    rw [hk] at hv
    clear h hk hd hp hz hdk hi hik hT hS2 hd2 hR1 hR2 hTT hR3 hW
    go_enter Try.func14, Try.ntmps14
    go_wp2_with fail
    refine hv.mono ?_
    rintro e w1 ⟨rfl, hw⟩
    rw [hw]
    clear hw w1 hv
    go_upto_region 3 with fail
    go_region
    all_goals
      go_upto_region 4 with fail
      rw [← HW.out]
      clear HW b0 b2 g0 g2 c3 f3
      go_wp2
      go_loopw [7] (fun s wr => ∃ i : Nat, i ≤ 8 ∧ s = .int .i64 i ∧ RT wr b (trS (orTo S2 k i)) ∧ Upd b w wr) (fun s _ => 8 - (intOf s).toNat)
      case atStart => exact ⟨0, by omega, rfl, by rw [orTo_0 HD2.out]; exact HWR.out, HU.out⟩
      case round =>
        clear HWR HU
        obtain ⟨j, hj, rfl, hR, hU⟩ := hrel
        have HRt : Hid (RT wr b (trS (orTo S2 k j))) := hR
        have HU : Hid (Upd b w wr) := hU
        by_cases hlt : j < 8
        · have j1 : decide ((j : Int) < 8) = true := decide_eq_true (by omega)
          have m1 : (j : Int) < 8 := by omega
          have m0 : (0 : Int) ≤ (j : Int) := by omega
          have c0 := hR.is hlt
          have c1 := hR.par hlt
          have f1 := hR.free (j * 3 + 1)
          have hTj : trS (orTo S2 k j) j = trO (S2 ((j : Int) + 1)) := by unfold trS; rw [orTo_at]
          rw [hTj] at c0 c1
          cases hS : S2 ((j : Int) + 1) with
          | none =>
            rw [hS] at c0 c1
            unfold trO at c0 c1
            dsimp only at c0 c1
            have HR2 : Hid (RT wr b (trS (orTo S2 k (j + 1)))) := by rw [orTo_same (by unfold orph; rw [hS]; rfl)]; exact hR
            clear hR hU hTj hS
            go_wp2
            go_roundw
            case rel => exact ⟨j + 1, by omega, by go_num, HR2.out, HU.out⟩
            case measure => simp [intOf]; omega
          | some p =>
            rw [hS] at c0 c1
            have ez : (trO (some p)).is = if p.zom = true then 2 else 1 := rfl
            rw [ez] at c0
            have ep : (trO (some p)).par = p.par := rfl
            rw [ep] at c1
            obtain ⟨z, hz⟩ : ∃ z : Int, z = (if p.zom = true then 2 else 1) := ⟨_, rfl⟩
            rw [← hz] at c0
            have q0 : (z != 0) = true := bne_iff_ne.2 (by rw [hz]; split <;> omega)
            by_cases hpk : p.par = k
            · have q1 : (p.par == k) = true := by simp [hpk]
              have HR2 : Hid (RT (wr.setCell ⟨b, j * 3 + 1, none⟩ (.int .i64 0)) b (trS (orTo S2 k (j + 1)))) := by
                have h1 := hR.set1 (i := j) 0
                rw [hTj, hS, show (⟨(trO (some p)).is, 0, (trO (some p)).st⟩ : Tr) = trO (some ⟨0, p.zom, p.st⟩) from rfl, tr_set] at h1
                rw [orTo_put (p := ⟨0, p.zom, p.st⟩) (by unfold orph; rw [hS]; show some (orP k p) = _; unfold orP; rw [if_pos hpk])]
                exact h1
              have HU2 : Hid (Upd b w (wr.setCell ⟨b, j * 3 + 1, none⟩ (.int .i64 0))) := hU.trans (Upd.setCell _ _ _ _)
              clear hR hU hTj hS hz ez ep hpk
              go_wp2
              go_roundw
              case rel => exact ⟨j + 1, by omega, by go_num, HR2.out, HU2.out⟩
              case measure => simp [intOf]; omega
            · have q1 : (p.par == k) = false := beq_false_of_ne hpk
              have HR2 : Hid (RT wr b (trS (orTo S2 k (j + 1)))) := by
                rw [orTo_same (by unfold orph; rw [hS]; show some (orP k p) = _; unfold orP; rw [if_neg hpk])]
                exact hR
              clear hR hU hTj hS hz ez ep hpk
              go_wp2
              go_roundw
              case rel => exact ⟨j + 1, by omega, by go_num, HR2.out, HU.out⟩
              case measure => simp [intOf]; omega
        · have j1 : decide ((j : Int) < 8) = false := decide_eq_false (by omega)
          have hj8 : j = 8 := by omega
          rw [hj8, orTo_8 HD2.out] at hR
          have HD3 : Hid (Dom (orph S2 k)) := HD2.out.orph k
          obtain ⟨S3, hS3⟩ : ∃ S3, S3 = orph S2 k := ⟨_, rfl⟩
          rw [← hS3] at hR HD3
          have HRb : Hid (RT wr b (trS S3)) := hR
          have HS3 : Hid (S3 = orph S2 k) := hS3
          clear hR hU hj8 hS3 HRt
          go_wp2
          generalize wr = wm at *
          go_loopw [8] (fun s wr => ∃ i : Nat, i ≤ 8 ∧ s = .int .i64 i ∧ RT wr b (trS (buTo S3 i)) ∧ Upd b w wr) (fun s _ => 8 - (intOf s).toNat)
          case atStart => exact ⟨0, by omega, rfl, by rw [buTo_0 HD3.out]; exact HRb.out, HU.out⟩
          case round =>
            clear HRb HU
            obtain ⟨i, hi, rfl, hR, hU⟩ := hrel
            have HRt : Hid (RT wr b (trS (buTo S3 i))) := hR
            have HU : Hid (Upd b w wr) := hU
            by_cases hli : i < 8
            · have i1 : decide ((i : Int) < 8) = true := decide_eq_true (by omega)
              have m1 : (i : Int) < 8 := by omega
              have m0 : (0 : Int) ≤ (i : Int) := by omega
              have c0 := hR.is hli
              have c1 := hR.par hli
              have hth : wr.there b (i * 3) 3 := hR.there hli
              have hTj : trS (buTo S3 i) i = trO (S3 ((i : Int) + 1)) := by unfold trS; rw [buTo_at]
              rw [hTj] at c0 c1
              cases hS : S3 ((i : Int) + 1) with
              | none =>
                rw [hS] at c0 c1
                unfold trO at c0 c1
                dsimp only at c0 c1
                have HR2 : Hid (RT wr b (trS (buTo S3 (i + 1)))) := by rw [buTo_same (by unfold bur; rw [hS]; rfl)]; exact hR
                clear hR hU hTj hS hth
                go_wp2
                go_roundw
                case rel => exact ⟨i + 1, by omega, by go_num, HR2.out, HU.out⟩
                case measure => simp [intOf]; omega
              | some p =>
                rw [hS] at c0 c1
                have ez : (trO (some p)).is = if p.zom = true then 2 else 1 := rfl
                rw [ez] at c0
                have ep : (trO (some p)).par = p.par := rfl
                rw [ep] at c1
                cases hzm : p.zom with
                | false =>
                  rw [hzm, if_neg (by simp)] at c0
                  have HR2 : Hid (RT wr b (trS (buTo S3 (i + 1)))) := by
                    rw [buTo_same (by unfold bur; rw [hS]; show buP p = _; unfold buP; rw [if_neg (by rw [hzm]; simp)])]
                    exact hR
                  clear hR hU hTj hS ez ep hzm hth
                  go_wp2
                  go_roundw
                  case rel => exact ⟨i + 1, by omega, by go_num, HR2.out, HU.out⟩
                  case measure => simp [intOf]; omega
                | true =>
                  rw [hzm, if_pos rfl] at c0
                  by_cases hp0 : p.par = 0
                  · have q1 : (p.par == 0) = true := by simp [hp0]
                    obtain ⟨V, hV⟩ : ∃ V, V = wr.setCells b (i * 3) [.int .i64 0, .int .i64 0, .int .i64 0] := ⟨_, rfl⟩
                    have HR2 : Hid (RT V b (trS (buTo S3 (i + 1)))) := by
                      show RT V b (trS (buTo S3 (i + 1)))
                      have h1 := hR.put3 (i := i) 0 0 0
                      rw [tr_del] at h1
                      rw [buTo_del (by unfold bur; rw [hS]; show buP p = _; unfold buP; rw [if_pos ⟨hzm, hp0⟩]), hV]
                      exact h1
                    have HU2 : Hid (Upd b w V) := by rw [hV]; exact hU.trans (upd_sets _ _ _ _)
                    have HV : Hid _ := hV
                    clear hR hU hTj hS ez ep hzm hV hp0
                    go_wp2_with (first | (refine wpList_store_mid rfl 27 _ _ rfl b (i * 3) #[.int .i64 0, .int .i64 0, .int .i64 0] rfl rfl hth trSize (by simp [Value.oneCell']) ?_; rw [show (#[.int .i64 0, .int .i64 0, .int .i64 0] : Array Value).toList = [.int .i64 0, .int .i64 0, .int .i64 0] from rfl, ← HV.out]) | go_in)
                    go_roundw
                    case rel => exact ⟨i + 1, by omega, by go_num, HR2.out, HU2.out⟩
                    case measure => simp [intOf]; omega
                  · have q1 : (p.par == 0) = false := beq_false_of_ne hp0
                    have HR2 : Hid (RT wr b (trS (buTo S3 (i + 1)))) := by
                      rw [buTo_same (by unfold bur; rw [hS]; show buP p = _; unfold buP; rw [if_neg (fun q => hp0 q.2)])]
                      exact hR
                    clear hR hU hTj hS ez ep hzm hth hp0
                    go_wp2
                    go_roundw
                    case rel => exact ⟨i + 1, by omega, by go_num, HR2.out, HU.out⟩
                    case measure => simp [intOf]; omega
            · have i1 : decide ((i : Int) < 8) = false := decide_eq_false (by omega)
              have hi8 : i = 8 := by omega
              rw [hi8, buTo_8 HD3.out] at hR
              have HE : Hid (RT wr b (trS (bur S3))) := hR
              clear hR hU hi8 HRt
              go_wp2
              go_ret
              obtain ⟨e1, e2⟩ := HR.out
              exact ⟨by rw [e1]; rfl, by rw [e2, ← HS3.out]; exact HE.out, HU.out⟩
end Go.Proofs.Ytfcpcncafopobaa
