/- Proved: januslaw11.ExoipcApart answers true for every two numbers (what waits for one does not count for another), at the commit of this claim; no condition beyond the row's own. -/
import Derived.Test.YtikeknehkoccpaaArgs11
import Derived.Lib.MinMax
import Derived.Deep.DeepCutAuto
import Derived.Deep.CutBlock
namespace Go.Proofs.Ytikeknehkoccpaa
open Go.ChangeShapes Go.WideShapes Go.ChangeAt Go.RowKit Go.Lib Go.Joins
set_option linter.unusedVariables false

theorem rd_lit1 (w : World) (x : Int) : Rd (w.alloc (.cells #[.int .u64 x] 52)) (some ⟨w.heap.size, 0, none⟩) [x] := by
  have hh := heap_alloc_new w (.cells #[.int .u64 x] 52)
  intro j z hz
  refine ⟨_, _, rfl, ?_⟩
  rw [cell_of_heap hh]
  match j, hz with
  | 0, hz => simp at hz; subst hz; rfl
  | j + 1, hz => simp at hz
theorem small6 (x : Int) : ∃ p : Nat, max 0 (min x 6) = (p : Int) ∧ p ≤ 6 := ⟨(max 0 (min x 6)).toNat, by omega, by omega⟩
theorem uwrap_small (i : Nat) (h : i ≤ 6) : IntKind.u64.wrap (i : Int) = (i : Int) := by
  simp [IntKind.wrap, IntKind.bits, IntKind.signed]
  omega
theorem send3 {Q : QS} {t : Int} {len i : Nat} (ht : isE t = true) (hl : len ≤ 8) (hq : (qat Q t).length = min i 4) : sendR Q 3 t len = if i < 4 then 0 else 105 := by
  unfold sendR
  rw [if_pos ⟨rfl, ht, hl⟩, hq]
  split <;> split <;> first | rfl | omega
theorem send3_len {Q : QS} {t : Int} {a : Option Addr} {c i : Nat} {ws : List Int} (ht : isE t = true) (hl : ws.length ≤ 8) (hq : (qat Q t).length = min i 4) (k : Int) : (qat (sendQ Q 3 t a c ws) k).length = if k = t then min (i + 1) 4 else (qat Q k).length := by
  have hs := send3 ht hl hq
  by_cases h4 : i < 4
  · rw [if_pos h4] at hs
    rw [qat_send hs]
    split
    · rw [List.length_append, hq]
      simp
      omega
    · rfl
  · rw [if_neg h4] at hs
    rw [sendQ_no (by rw [hs]; omega)]
    split
    · rename_i e
      subst e
      rw [hq]
      omega
    · rfl

set_option maxRecDepth 100000 in
set_option maxHeartbeats 4000000 in
theorem apart_walk (x y : Int) (w : World) :
    Calls Try.prog 7 #[.agg #[.int .i64 x, .int .i64 y]] w fun e w' => e = .returned (.bool true) ∧ Below w.heap.size w w' := by
  obtain ⟨W, hW⟩ : ∃ W, W = w.alloc (.cells #[.int .i64 x, .int .i64 y] 51) := ⟨_, rfl⟩
  have hbox : W.heap[w.heap.size]? = some (.cells #[.int .i64 x, .int .i64 y] 51) := by rw [hW]; exact heap_alloc_new _ _
  have HO : Hid (Below w.heap.size w W) := by rw [hW]; exact below_alloc _ _
  have c0 : W.cell? ⟨w.heap.size, 0, none⟩ = some (.int .i64 x) := by rw [cell_of_heap hbox]; rfl
  have c1 : W.cell? ⟨w.heap.size, 1, none⟩ = some (.int .i64 y) := by rw [cell_of_heap hbox]; rfl
  obtain ⟨p, hp, hp6⟩ := small6 x
  obtain ⟨q, hq, hq6⟩ := small6 y
  have HW : Hid _ := hW
  clear hbox hW
  go_enter Try.func7, Try.ntmps7
  go_wp2_with fail
  rw [← HW.out]
  clear HW
  go_cut [3, 4] (fun s3 s4 wc => s3 = .int .i64 p ∧ s4 = .int .i64 q ∧ wc = W.drew)
  case first =>
    go_region
    all_goals
      go_wp2_with fail
      go_meet
      case rel => exact ⟨rfl, rfl, rfl⟩
  case rest =>
    obtain ⟨rfl, rfl, hwc⟩ := hcut
    subst hwc
    have HO2 : Hid (Below w.heap.size w W.drew) := HO.out.drew
    clear c0 c1 HO hp hq
    generalize W.drew = W0 at *
    go_wp2_with fail
    refine (new_at W0).mono ?_
    rintro e w1 ⟨rfl, hA, hB⟩
    obtain ⟨b, hbq⟩ : ∃ b, b = W0.heap.size := ⟨_, rfl⟩
    rw [← hbq] at hA hB ⊢
    have hne := ptr_eq b
    have hwb : w.heap.size ≤ b := by rw [hbq]; exact HO2.out.size
    have HA : Hid (IpcAt w1 b b Q0) := hA
    have HB : Hid (Below w.heap.size w w1) := HO2.out.trans (hB.mono hwb)
    have hs1 : b ≤ w1.heap.size := by rw [hbq]; rw [hbq] at hB; exact hB.size
    clear hA hB hbq HO2
    go_wp2_with fail
    go_loopw [6, 7] (fun s6 _ wr => ∃ (i : Nat) (Q : QS), i ≤ p ∧ s6 = .int .i64 i ∧ IpcAt wr b b Q ∧ Hid ((qat Q 1).length = min i 4 ∧ (qat Q 2).length = 0 ∧ (qat Q 3).length = 0) ∧ b ≤ wr.heap.size ∧ Below w.heap.size w wr) (fun s6 _ _ => p - (intOf s6).toNat)
    case atStart => exact ⟨0, Q0, by omega, rfl, HA.out, ⟨rfl, rfl, rfl⟩, hs1, HB.out⟩
    case round =>
      clear HA HB hs1
      obtain ⟨i, Q, hi, rfl, hA, HQ, hsz, hB⟩ := hrel
      have HB : Hid _ := hB
      by_cases hlt : i < p
      · have hii : (i : Int) < (p : Int) := by omega
        have huw := uwrap_small i (by omega)
        obtain ⟨V, hV⟩ : ∃ V, V = wr.alloc (.cells #[.int .u64 i] 52) := ⟨_, rfl⟩
        have HBV : Hid (Below w.heap.size w V) := by rw [hV]; exact hB.trans ((below_alloc _ _).mono hB.size)
        have hsV : b ≤ V.heap.size := by rw [hV]; simp; omega
        have hS : Calls Try.prog 9 #[.pointer (some ⟨b, 0, none⟩), .int .i64 3, .int .i64 1, .slice (some ⟨wr.heap.size, 0, none⟩) 1 1] V fun e w' => e = .returned (.int .i64 (sendR Q 3 1 ([(i : Int)]).length)) ∧ (∃ a' cap', IpcAt w' b b (sendQ Q 3 1 a' cap' [(i : Int)])) ∧ Tch b V w' := by
          rw [hV] at hsV ⊢
          exact send_at b b Q 3 1 _ [(i : Int)] 1 _ (hA.below (below_alloc _ _)) (rd_lit1 wr i) hsV
        rw [send3 rfl (by simp) HQ.out.1] at hS
        have HS : Hid _ := hS
        have HV : Hid _ := hV
        clear hA hB hS hV
        by_cases h4 : i < 4
        · rw [if_pos h4] at HS
          have h4i : (i : Int) < 4 := by omega
          go_wp2_with fail
          rw [← HV.out]
          refine Calls.mono HS.out ?_
          rintro e w2 ⟨rfl, ⟨a2, c2, hA2⟩, hT2⟩
          have HA2 : Hid _ := hA2
          have HT2 : Hid _ := hT2
          clear hA2 hT2 HS HV
          go_wp2
          go_roundw
          case rel =>
            refine ⟨i + 1, _, by omega, by go_num, HA2.out, ?_, Nat.le_trans hsV HT2.out.size, HBV.out.trans ((HT2.out.below hsV).mono hwb)⟩
            have hq0 := HQ.out
            exact ⟨by rw [send3_len rfl (by simp) hq0.1, if_pos rfl], by rw [send3_len rfl (by simp) hq0.1, if_neg (by omega)]; exact hq0.2.1, by rw [send3_len rfl (by simp) hq0.1, if_neg (by omega)]; exact hq0.2.2⟩
          case measure => simp [intOf]; omega
        · rw [if_neg h4] at HS
          have h4i : ¬ (i : Int) < 4 := by omega
          go_wp2_with fail
          rw [← HV.out]
          refine Calls.mono HS.out ?_
          rintro e w2 ⟨rfl, ⟨a2, c2, hA2⟩, hT2⟩
          have HA2 : Hid _ := hA2
          have HT2 : Hid _ := hT2
          clear hA2 hT2 HS HV
          go_wp2
          go_roundw
          case rel =>
            refine ⟨i + 1, _, by omega, by go_num, HA2.out, ?_, Nat.le_trans hsV HT2.out.size, HBV.out.trans ((HT2.out.below hsV).mono hwb)⟩
            have hq0 := HQ.out
            exact ⟨by rw [send3_len rfl (by simp) hq0.1, if_pos rfl], by rw [send3_len rfl (by simp) hq0.1, if_neg (by omega)]; exact hq0.2.1, by rw [send3_len rfl (by simp) hq0.1, if_neg (by omega)]; exact hq0.2.2⟩
          case measure => simp [intOf]; omega
      · obtain rfl : i = p := by omega
        have HA : Hid _ := hA
        clear hA hB
        go_wp2
        go_loopw [8, 9] (fun s8 _ wz => ∃ (j : Nat) (Q' : QS), j ≤ q ∧ s8 = .int .i64 j ∧ IpcAt wz b b Q' ∧ Hid ((qat Q' 1).length = min i 4 ∧ (qat Q' 2).length = min j 4 ∧ (qat Q' 3).length = 0) ∧ b ≤ wz.heap.size ∧ Below w.heap.size w wz) (fun s8 _ _ => q - (intOf s8).toNat)
        case atStart => exact ⟨0, Q, by omega, rfl, HA.out, ⟨HQ.out.1, HQ.out.2.1.trans (by omega), HQ.out.2.2⟩, hsz, HB.out⟩
        case round =>
          clear HA HB HQ hsz
          obtain ⟨j, Q', hj, rfl, hA, HQ, hsz, hB⟩ := hrel
          have HB : Hid _ := hB
          by_cases hlt : j < q
          · have hji : (j : Int) < (q : Int) := by omega
            have hS := send_at b b Q' 3 2 none [] 0 wr hA (Rd.nil _ _) hsz
            rw [send3 rfl (by simp) HQ.out.2.1] at hS
            dsimp only [List.length_nil] at hS
            have HS : Hid _ := hS
            have hq0 := HQ.out
            clear hA hB hS
            have HK : Hid (∀ a c, (qat (sendQ Q' 3 2 a c []) 1).length = min i 4 ∧ (qat (sendQ Q' 3 2 a c []) 2).length = min (j + 1) 4 ∧ (qat (sendQ Q' 3 2 a c []) 3).length = 0) := by
              intro a c
              exact ⟨by rw [send3_len rfl (by simp) hq0.2.1, if_neg (by omega)]; exact hq0.1, by rw [send3_len rfl (by simp) hq0.2.1, if_pos rfl], by rw [send3_len rfl (by simp) hq0.2.1, if_neg (by omega)]; exact hq0.2.2⟩
            clear hq0
            by_cases h4 : j < 4
            · rw [if_pos h4] at HS
              have h4i : (j : Int) < 4 := by omega
              go_wp2_with fail
              refine Calls.mono HS.out ?_
              rintro e w2 ⟨rfl, ⟨a2, c2, hA2⟩, hT2⟩
              have HA2 : Hid _ := hA2
              have HT2 : Hid _ := hT2
              clear hA2 hT2 HS
              go_wp2
              go_roundw
              case rel => exact ⟨j + 1, _, by omega, by go_num, HA2.out, HK.out _ _, Nat.le_trans hsz HT2.out.size, HB.out.trans ((HT2.out.below hsz).mono hwb)⟩
              case measure => simp [intOf]; omega
            · rw [if_neg h4] at HS
              have h4i : ¬ (j : Int) < 4 := by omega
              go_wp2_with fail
              refine Calls.mono HS.out ?_
              rintro e w2 ⟨rfl, ⟨a2, c2, hA2⟩, hT2⟩
              have HA2 : Hid _ := hA2
              have HT2 : Hid _ := hT2
              clear hA2 hT2 HS
              go_wp2
              go_roundw
              case rel => exact ⟨j + 1, _, by omega, by go_num, HA2.out, HK.out _ _, Nat.le_trans hsz HT2.out.size, HB.out.trans ((HT2.out.below hsz).mono hwb)⟩
              case measure => simp [intOf]; omega
          · obtain rfl : j = q := by omega
            have h1 := waiting_at b b Q' 1 wr hA
            have h2 := waiting_at b b Q' 2 wr hA
            have h3 := waiting_at b b Q' 3 wr hA
            rw [HQ.out.1] at h1
            rw [HQ.out.2.1] at h2
            rw [HQ.out.2.2] at h3
            have m1 : min (i : Int) 4 = ((min i 4 : Nat) : Int) := by omega
            have m2 : min (j : Int) 4 = ((min j 4 : Nat) : Int) := by omega
            generalize min i 4 = z1 at *
            generalize min j 4 = z2 at *
            clear hA hB HQ
            go_wp2_with fail
            refine h1.mono ?_
            rintro e w2 ⟨rfl, hw⟩
            rw [hw]
            clear hw w2
            go_wp2_with fail
            refine h2.mono ?_
            rintro e w2 ⟨rfl, hw⟩
            rw [hw]
            clear hw w2
            go_wp2_with fail
            refine h3.mono ?_
            rintro e w2 ⟨rfl, hw⟩
            rw [hw]
            clear hw w2
            go_wp2_with fail
            refine (awake_at _).mono ?_
            rintro e2 w3 ⟨rfl, hb3⟩
            go_wp2
            go_ret
            exact ⟨rfl, HB.out.trans (hb3.mono HB.out.size)⟩
theorem pairKinds : kindsOf Try.prog 9 51 = some [.i .i64, .i .i64] := by kernel_rfl
theorem own : ownKnob Try.prog.godebug = none := by kernel_rfl
theorem laidOut : laidOutB Try.prog = true := by kernel_rfl

set_option maxRecDepth 100000 in
theorem apart_lifted (os : Os) (started : os.Started) (H : Type) (enc : TypeId × Value → H) :
    ReturnsInHanded {} Try.checked os 7 .any (Rows.exoipcApartSpec.pre6 enc Try.prog Try.f7 Rows.exoipcApartRow.domain false) (Rows.exoipcApartSpec.post enc Try.prog Try.f7 false true false false) := by
  refine returnsInHanded_of_change (C := Try.checked) own started (by kernel_rfl) Try.func7
    (ChangeSpec.witness6 (enc := enc) (C := Try.checked) false ⟨#[], #[.agg #[.int .i64 0, .int .i64 0]], []⟩ 8 (by kernel_rfl) (by kernel_rfl) (by kernel_rfl) (by kernel_rfl)) ?_
  intro W base args ds gs before hval0 hW hcnd _
  have hval : ∀ (j : Nat) t v, Try.f7.params[j]? = some t → args[j]? = some v → Value.okWide Try.prog W .any base t v := hval0
  have hW' := hW
  obtain ⟨p, q, hA0, hV, rfl, hfz, hnd⟩ := hW
  have hA : DataW.TrodAll enc Try.prog W 0 (fun _ => true) true Try.f7.params.toList args.toList ds p := hA0
  rw [Try.params7] at hA hval
  obtain ⟨v0, vs0, d0, ds0, p0, q0, hargs, rfl, rfl, h0, r0⟩ := trodAll_cons hA
  obtain ⟨rfl, rfl, rfl⟩ := trodAll_nil r0
  obtain rfl : args = #[v0] := by cases args; simp_all
  obtain ⟨rfl, rfl⟩ := trodVars_none hV
  have k0 := h0
  have lt0 : ∀ x ∈ p0, x.block < W.heap.size := by obtain ⟨m, hm⟩ := k0; exact DataW.trod_lt m _ _ _ hm
  clear hA0 hval0
  obtain ⟨cs0, rfl, fit0⟩ := array_fits Try.underlying51 pairKinds (hval 0 51 v0 rfl rfl) h0
  obtain ⟨_, _, e0, ⟨x, rfl, hx⟩, _, _, rfl, ⟨y, rfl, hy⟩, rfl⟩ := fit0
  obtain rfl : cs0 = #[.int .i64 x, .int .i64 y] := Array.toList_inj.1 e0
  have hwalk : Calls Try.prog 7 #[.agg #[.int .i64 x, .int .i64 y]] W fun e w' => e = .returned (.bool true) ∧ Below W.heap.size W w' := apart_walk x y W
  refine hwalk.mono fun e W' ⟨he, bel⟩ => ?_
  subst he
  exact ⟨_, rfl, _, _, _, [], _, [], hW', trodAll_mk1 (shut_bool Try.underlying4 _), (trodAll_cons_mk (Below.trod laidOut (by kernel_rfl) (of_decide_eq_true (by kernel_rfl)) k0 bel lt0) trodAll_mk0), rfl, bel.frame _, fun h => by cases h⟩

theorem apart_holds : Rows.ExoipcApartSaid :=
  OpenClaim.holds_of_wide 7 Try.f7 rfl rfl rfl rfl rfl rfl rfl ⟨rfl, rfl, rfl, rfl, rfl⟩ rfl rfl rfl rfl rfl (by kernel_rfl) Try.func7 (by kernel_rfl)
    (of_decide_eq_true (by kernel_rfl)) (by unfold Func.isWrapper; first | (rw [if_pos (by decide +kernel)]; kernel_rfl) | (rw [if_neg (by decide +kernel)]; exact ⟨rfl, rfl⟩))
    (fun os started H enc _ => apart_lifted os started H enc)
#print axioms apart_holds
end Go.Proofs.Ytikeknehkoccpaa
