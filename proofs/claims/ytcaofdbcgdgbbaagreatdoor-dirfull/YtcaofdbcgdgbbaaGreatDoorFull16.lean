/- Proved: januslaw16.DirFull answers true for every number (a directory has room for 21 names, no more; one that is removed makes room), and its argument reads behind the call as before, at the commit of this claim; where the listed variables of package unicode/utf8 are laid as the program's text lays them (the card ties that; the call reads none of them). -/
import Derived.Test.YtcaofdbcgdgbbaaGreatDoorDtJ
namespace Go.Proofs.YtcaofdbcgdgbbaaGreatDoor
open Go.ChangeShapes Go.WideShapes Go.ChangeAt Go.RowKit Go.Lib
set_option linter.unusedVariables false

def nm (i : Nat) : List UInt8 := [UInt8.ofNat (97 + i)]
def ents (k : Nat) : List Ent := (List.range k).map (fun j => ⟨nm j, j⟩)
theorem ents_len (k : Nat) : (ents k).length = k := by simp [ents]
theorem ents_succ (k : Nat) : ents (k + 1) = ents k ++ [⟨nm k, k⟩] := by simp [ents, List.range_succ]
theorem nm_name : ∀ i, i < 30 → isName (nm i) = true := by decide +kernel
theorem nm_new : ∀ i, i < 30 → findE (ents (min i 21)) (nm i) = -1 := by decide +kernel
theorem nm_a : ∀ k, k < 22 → 1 ≤ k → placeE (ents k) [97] = 0 := by decide +kernel
theorem nm_zz : ∀ k, k < 22 → 1 ≤ k → findE ((ents k).take 0 ++ (ents k).drop (0 + 1)) [122, 122] = -1 := by decide +kernel
theorem nm_gone : ∀ k, k < 22 → 1 ≤ k → findE (((ents k).take 0 ++ (ents k).drop (0 + 1)) ++ [⟨[122, 122], 3⟩]) [97] = -1 := by decide +kernel
theorem zz_name : isName [122, 122] = true := by decide +kernel
set_option maxHeartbeats 8000000 in
set_option maxRecDepth 100000 in
theorem full_walk (n : Int) (w : World) :
    Calls Tryz.prog 7 #[.int .i64 n] w fun e w' => e = .returned (.bool true) ∧ Below w.heap.size w w' := by
  obtain ⟨N, hN, hN2⟩ : ∃ N : Nat, max 0 (min n 30) = (N : Int) ∧ N ≤ 30 := ⟨(max 0 (min n 30)).toNat, by omega, by omega⟩
  have hP := on_pair 40 w (by omega) (by omega)
  go_enter Tryz.func7, Tryz.ntmps7
  go_wp2_with fail
  refine hP.mono ?_
  rintro e w1 ⟨B, bx, rfl, G, hO⟩
  have H1 : Hid (OnAt w w1 B G (F0 40) 2000 ∧ FuAt (F0 40) (ents (min 0 21))) := ⟨hO, fu0⟩
  clear hP hO hN
  go_wp2
  go_loopw [6] (fun s6 wr => ∃ (k : Nat) (F : FS), k ≤ N ∧ s6 = .int .i64 k ∧ Hid (OnAt w wr B G F (2000 + 6000 * k) ∧ FuAt F (ents (min k 21)))) (fun s6 _ => N - (RowKit.intOf s6).toNat)
  case atStart => exact ⟨0, _, by omega, rfl, H1⟩
  case round =>
    obtain ⟨k, F, hk, rfl, HS⟩ := hrel
    clear H1
    by_cases hlt : k < N
    · have g1 : (k : Int) < (N : Int) := by omega
      have hnm := nm_name k (by omega)
      have hnew := nm_new k (by omega)
      obtain ⟨c, hc⟩ : ∃ c : Nat, c = 97 + k := ⟨_, rfl⟩
      have hw1 : IntKind.i64.wrap (97 + (k : Int)) = (c : Int) := by simp [IntKind.wrap, IntKind.bits, IntKind.signed]; omega
      have hw2 : IntKind.u8.wrap (c : Int) = (c : Int) := by simp [IntKind.wrap, IntKind.bits, IntKind.signed]; omega
      have hcv := fun W : World => conv_one (to := c) (by omega) (heap_alloc_new W (.cells #[.int .u8 (c : Int)] 5))
      have HW : ∀ W : World, Below wr.heap.size wr W → Hid (OnAt w W B G F (2000 + 6000 * k)) := fun W hb => HS.out.1.below hb
      have hnmc : nm k = [UInt8.ofNat c] := by rw [hc]; rfl
      have hA := on_add (HW _ (below_alloc wr (.cells #[.int .u8 (c : Int)] 5))).out (by omega) 0 [UInt8.ofNat c] (by simp) (k : Int)
      rw [← hnmc] at hA hcv
      obtain ⟨z, hz, hcase⟩ : ∃ z : Int, adR F 0 (nm k) (k : Int) = z ∧ ((z = 0 ∧ k < 21 ∧ FuAt (adF F 0 (nm k) (k : Int)) (ents (min (k + 1) 21))) ∨ (z = 28 ∧ ¬ k < 21 ∧ FuAt (adF F 0 (nm k) (k : Int)) (ents (min (k + 1) 21)))) := by
        by_cases h21 : k < 21
        · have e1 : min k 21 = k := by omega
          have e2 : min (k + 1) 21 = k + 1 := by omega
          have hFu := HS.out.2
          rw [e1] at hFu hnew
          obtain ⟨q1, q2⟩ := hFu.add HS.out.1.fs.inv HS.out.1.dir hnm (by omega : k < 32) hnew (by rw [ents_len]; exact h21)
          exact ⟨0, q1, Or.inl ⟨rfl, h21, by rw [e2, ents_succ]; exact q2⟩⟩
        · have e1 : min k 21 = 21 := by omega
          have e2 : min (k + 1) 21 = 21 := by omega
          have hFu := HS.out.2
          rw [e1] at hFu hnew
          obtain ⟨q1, q2⟩ := hFu.full hnm (by omega : k < 32) hnew (ents_len 21)
          exact ⟨28, q1, Or.inr ⟨rfl, h21, by rw [e2, q2]; exact hFu⟩⟩
      rw [hz] at hA
      clear hc hnmc hnm hnew hz HS HW
      generalize adF F 0 (nm k) (k : Int) = F1 at *
      generalize nm k = s at *
      go_wp2_with fail
      refine hA.mono ?_
      rintro x w2 ⟨rfl, hO, -⟩
      rcases hcase with ⟨rfl, h21, hFu⟩ | ⟨rfl, h21, hFu⟩
      · have HS2 : Hid (OnAt w w2 B G F1 (2000 + 6000 * (k + 1)) ∧ FuAt F1 (ents (min (k + 1) 21))) := ⟨hO.mono (by omega), hFu⟩
        have g2 : (k : Int) < 21 := by omega
        clear hA hO hFu
        go_wp2
        go_roundw
        case rel => exact ⟨k + 1, _, by omega, by go_num, HS2⟩
        case measure => simp [RowKit.intOf]; omega
      · have HS2 : Hid (OnAt w w2 B G F1 (2000 + 6000 * (k + 1)) ∧ FuAt F1 (ents (min (k + 1) 21))) := ⟨hO.mono (by omega), hFu⟩
        have g2 : ¬ (k : Int) < 21 := by omega
        clear hA hO hFu
        go_wp2
        go_roundw
        case rel => exact ⟨k + 1, _, by omega, by go_num, HS2⟩
        case measure => simp [RowKit.intOf]; omega
    · have hkN : k = N := by omega
      have g1 : ¬ (k : Int) < (N : Int) := by omega
      rw [hkN] at HS
      clear hlt hk
      by_cases h0 : N = 0
      · have g0 : ((N : Int) == 0) = true := by simp; omega
        have g0' : (N : Int) = 0 := by omega
        have hAw := awake_at wr
        have HB : Hid (Below w.heap.size w wr) := HS.out.1.old
        clear HS hkN h0
        go_wp2_with fail
        refine hAw.mono ?_
        rintro x w2 ⟨rfl, hb2⟩
        have HB2 : Hid (Below w.heap.size w w2) := HB.out.trans (hb2.mono HB.out.size)
        clear hAw hb2
        go_wp2
        go_ret
        exact ⟨rfl, HB2.out⟩
      · have g0 : ((N : Int) == 0) = false := beq_false_of_ne (by omega)
        obtain ⟨M, hM, hM1, hM2⟩ : ∃ M, M = min N 21 ∧ 1 ≤ M ∧ M < 22 := ⟨min N 21, rfl, by omega, by omega⟩
        rw [← hM] at HS
        have hplace := nm_a M hM2 hM1
        obtain ⟨q1, q2⟩ := HS.out.2.rem HS.out.1.fs.inv HS.out.1.dir (s := [97]) (by rw [hplace, ents_len]; omega)
        rw [hplace] at q2
        have hR := on_rem HS.out.1 (by omega) 0 [97]
        rw [q1] at hR
        have HFu : Hid (FuAt (rmF F 0 [97]) ((ents M).take 0 ++ (ents M).drop (0 + 1))) := q2
        clear q1 q2 HS hplace hkN h0 hM
        generalize rmF F 0 [97] = F1 at *
        go_wp2_with fail
        refine hR.mono ?_
        rintro x w2 ⟨rfl, hO, -⟩
        obtain ⟨q1, q2⟩ := HFu.out.add hO.fs.inv hO.dir zz_name (by omega : 3 < 32) (nm_zz M hM2 hM1) (by have := gone_len (l := ents M) (k := 0) (by rw [ents_len]; omega); rw [ents_len] at this; omega)
        have hA := on_add hO (by omega) 0 [122, 122] (by simp) 3
        have e3 : ((3 : Nat) : Int) = 3 := rfl
        rw [e3] at q1 q2
        rw [q1] at hA
        have HFu2 : Hid (FuAt (adF F1 0 [122, 122] 3) (((ents M).take 0 ++ (ents M).drop (0 + 1)) ++ [⟨[122, 122], 3⟩])) := q2
        clear hR hO q1 q2 e3
        generalize adF F1 0 [122, 122] 3 = F2 at *
        go_wp2_with fail
        refine hA.mono ?_
        rintro x w3 ⟨rfl, hO, -⟩
        have hFd := on_find hO (by omega) 0 [122, 122]
        rw [HFu2.out.find, find_add (k := 3) (nm_zz M hM2 hM1)] at hFd
        simp only [Int.cast_ofNat_Int] at hFd
        clear hA hO
        go_wp2_with fail
        refine hFd.mono ?_
        rintro x w4 ⟨rfl, hO, -⟩
        have hFd2 := on_find hO (by omega) 0 [97]
        rw [HFu2.out.find, nm_gone M hM2 hM1] at hFd2
        clear hFd hO
        go_wp2_with fail
        refine hFd2.mono ?_
        rintro x w5 ⟨rfl, hO, -⟩
        have HB : Hid (Below w.heap.size w w5) := hO.old
        have hAw := awake_at w5
        clear hFd2 hO
        go_wp2_with fail
        refine hAw.mono ?_
        rintro x w6 ⟨rfl, hb6⟩
        have HB6 : Hid (Below w.heap.size w w6) := HB.out.trans (hb6.mono HB.out.size)
        clear hAw hb6
        go_wp2
        go_ret
        exact ⟨rfl, HB6.out⟩
set_option maxRecDepth 100000 in
theorem full_lifted (os : Os) (started : os.Started) (H : Type) (enc : TypeId × Value → H) :
    ReturnsInHanded {} Tryz.checked os 7 .any (fun w args => (Rows.dirFullSpec.pre enc Tryz.prog Tryz.f7 Rows.dirFullRow.domain false w args ∧ laidMetH Tryz.prog Rows.dirFullRow.laid w) ∧ sizedMet enc Tryz.prog Tryz.f7 (OpenSpec.ofChange Rows.dirFullSpec) false w args) (Rows.dirFullSpec.post enc Tryz.prog Tryz.f7 false true false false) := by
  refine returnsInHanded_of_change_and (C := Tryz.checked) (X := fun w _ => laidMetH Tryz.prog Rows.dirFullRow.laid w) (fun _ _ _ hh h => h.of_heap hh) own started (by kernel_rfl) Tryz.func7
    (ChangeSpec.witness_shaped (enc := enc) (C := Tryz.checked) (os := os) (X := fun w _ => laidMetH Tryz.prog Rows.dirFullRow.laid w) false (World.laidAll Tryz.prog os Rows.dirFullRow.laid) #[.int .i64 0] 8 (World.laidAll_os _ _ _)
      (World.shaped_of_ZipB (by kernel_rfl) (by kernel_rfl)) (by kernel_rfl) (by kernel_rfl) (by kernel_rfl)
      (by rw [MakeChecks.laidMetH_plain _ _ _ (by kernel_rfl)]; exact laidMet_laidAll _ (by kernel_rfl) (by kernel_rfl))) ?_
  intro W base args ds gs before hval0 hW hcnd hsz hL _
  have hval : ∀ (j : Nat) t v, Tryz.f7.params[j]? = some t → args[j]? = some v → Value.okWide Tryz.prog W .any base t v := hval0
  have hW' := hW
  obtain ⟨p, q, hA0, hV, rfl, hfz, hnd⟩ := hW
  have hA : DataW.TrodAll enc Tryz.prog W 0 (fun _ => true) true Tryz.f7.params.toList args.toList ds p := hA0
  rw [Tryz.params7] at hA hval
  obtain ⟨v0, vs0, d0, ds0, p0, q0, hargs, rfl, rfl, h0, r0⟩ := trodAll_cons hA
  obtain ⟨rfl, rfl, rfl⟩ := trodAll_nil r0
  obtain rfl : args = #[v0] := by cases args; simp_all
  obtain ⟨rfl, rfl⟩ := trodVars_none hV
  obtain ⟨a0, rfl, rfl, rfl, w0⟩ := open_int Tryz.underlying3 (hval 0 3 v0 rfl rfl) h0
  clear hA0 hval0
  have hwalk : Calls Tryz.prog 7 #[.int .i64 a0] W fun e w' => e = .returned (.bool true) ∧ Below W.heap.size W w' := full_walk a0 W
  refine hwalk.mono fun e W' ⟨he, bel⟩ => ?_
  subst he
  exact ⟨_, rfl, _, _, _, [], _, [], hW', trodAll_mk1 (shut_bool Tryz.underlying4 _), (trodAll_cons_mk (shut_int Tryz.underlying3 w0) trodAll_mk0), rfl, bel.frame _, fun h => by cases h⟩

theorem full_said : Rows.DirFullSaid :=
  OpenClaim.holds_of_wide 7 Tryz.f7 rfl rfl rfl rfl rfl rfl rfl ⟨rfl, rfl, rfl, rfl, rfl⟩ rfl rfl rfl rfl rfl (by kernel_rfl) Tryz.func7 (by kernel_rfl)
    (of_decide_eq_true (by kernel_rfl)) (by unfold Func.isWrapper; first | (rw [if_pos (by decide +kernel)]; kernel_rfl) | (rw [if_neg (by decide +kernel)]; exact ⟨rfl, rfl⟩))
    (fun os started H enc _ => full_lifted os started H enc)
theorem full_holds : Rows.DirFullCardSaid :=
  Claim7.holds_tied_plain_at .later [] _ _ _ _ full_said (fun _ h => by cases h) (by kernel_rfl) (fun _ h => by cases h) dirFull_row_tie rfl ⟨rfl, rfl⟩ (by kernel_rfl) rfl
    (ask_card 7 "janus/januslaw16.DirFull" Tryz.f7 [3] (by kernel_rfl) Tryz.func7 (by rw [Tryz.params7]) (by kernel_rfl)) (by kernel_rfl)
#print axioms full_holds
end Go.Proofs.YtcaofdbcgdgbbaaGreatDoor
