/- Proved: januslaw06.ValidStays answers true for every text (from an instruction that has a depth a program that may be run goes to instructions with the depths that its moves make, and never beyond its stack), at the commit of this claim; no condition beyond the form's own. -/
import Derived.Test.YteipppdkbpfkaaaDec6
import Derived.ProofKit
import Derived.OpenShut
import Derived.ChangeMaps5
import Derived.ChangeOld
import Derived.Below
namespace Go.Proofs.Yteipppdkbpfkaaa
open Go.ChangeShapes Go.WideShapes Go.ChangeAt Go.RowKit
set_option linter.unusedVariables false

/-- What is known of an instruction that has a depth. -/
structure Goes (l : List Ins) (D : List Int) (k : Nat) (i : Ins) (x : Int) : Prop where
  takes : 0 ≤ (mv i).1
  has : (mv i).1 ≤ x
  room : nxt i x ≤ 32
  next : i.op ≠ 21 → k + 1 < l.length ∧ D[k + 1]? = some (nxt i x)
  jump : (i.op = 21 ∨ i.op = 22) → ∃ (j : Nat) (y : Ins), l[j]? = some y ∧ y.pos = i.arg ∧ D[j]? = some (nxt i x)
theorem goes {s : List UInt8} {l : List Ins} {D : List Int} (hv : Valid s l D) {k : Nat} {i : Ins} {x : Int} (hi : l[k]? = some i) (hx : D[k]? = some x) (h0 : 0 ≤ x) : Goes l D k i x := by
  have hr := hv.sol.own k x hx h0
  obtain ⟨i2, e1, e2, e3⟩ := (hv.sol.all k x hr).2.2
  rw [hi] at e1
  cases e1
  refine ⟨(hv.stand i (List.mem_of_getElem? hi)).2, e2, e3, fun hj => ?_, fun hj => ?_⟩
  · have h1 := (hv.sol.all _ _ (Reach.next hr hi hj)).1
    have h2 := (List.getElem?_eq_some_iff.1 h1).1
    rw [hv.sol.len] at h2
    exact ⟨h2, h1⟩
  · rcases findP_cases l i.arg with ⟨h1, _⟩ | ⟨j, y, h1, h2, h3, _⟩
    · have := (hv.stand i (List.mem_of_getElem? hi)).1 hj
      omega
    · exact ⟨j, y, h2, h3, (hv.sol.all _ _ (Reach.jump hr hi hj h1)).1⟩

set_option maxRecDepth 100000 in
set_option maxHeartbeats 4000000 in
theorem stays_walk (s : List UInt8) (w : World) (hs : s.length ≤ 9223372036854775807) :
    Calls Try.prog 4 #[tx s] w fun e w' => e = .returned (.bool true) ∧ Below w.heap.size w w' := by
  rcases valid_or s with ⟨l, D, hv⟩ | hbad
  · have hlen := hv.lens
    have HV : Hid _ := hv
    have hdep := depths_yes hv w
    have hrd := fun w => rdecode_yes hv w
    have hD0 : D[0]? = some 0 := (hv.sol.all 0 0 Reach.base).1
    have HD0 : Hid _ := hD0
    have hl0 : ((l.length : Int) == 0) = false := beq_false_of_ne (by omega)
    clear hv hD0
    go_enter Try.func4, Try.ntmps4
    go_wp2_with fail
    refine hdep.mono ?_
    rintro e w1 ⟨⟨b0, cb, rfl, hr1⟩, hb1⟩
    have H1 : Hid _ := hr1
    clear hr1 hdep
    go_wp2_with fail
    refine (hrd w1).mono ?_
    rintro e w2 ⟨⟨a0, ca, rfl, hr2⟩, hb2⟩
    have H2 : Hid _ := And.intro hr2 (IRow.below H1.out hb2)
    have hbw2 := hb1.trans (hb2.mono hb1.size)
    clear hr2 H1 hb2 hb1 hrd
    obtain ⟨gb, off, rfl, c0⟩ := H2.out.2 0 0 HD0.out
    simp only [Nat.add_zero] at c0
    go_wp2
    go_loopw [7] (fun s wr => ∃ (k : Nat), k ≤ l.length ∧ s = .int .i64 k ∧ Below w2.heap.size w2 wr) (fun s _ => l.length - (intOf s).toNat)
    case atStart => exact ⟨0, by omega, rfl, Below.refl _ _⟩
    case round =>
      obtain ⟨k, hk, rfl, hb⟩ := hrel
      clear c0
      by_cases hlt : k < l.length
      · obtain ⟨i, hki⟩ : ∃ i, l[k]? = some i := ⟨l[k], List.getElem?_eq_getElem hlt⟩
        obtain ⟨x, hx⟩ : ∃ x, D[k]? = some x := ⟨D[k]'(by omega), List.getElem?_eq_getElem _⟩
        obtain ⟨gb', off', ea, cx⟩ := (IRow.below H2.out.2 hb) k x hx
        cases ea
        by_cases hneg : x < 0
        · clear hki hx
          go_wp2
          go_roundw
          case rel => exact ⟨k + 1, by omega, by go_num, hb⟩
          case measure => simp [intOf]; omega
        · obtain ⟨ga, oa, ea, c0, c1, c2, c3⟩ := (Row.below H2.out.1 hb) k i hki
          subst ea
          have hG := goes HV.out hki hx (by omega)
          have hfi := HV.out.prog.fine i (List.mem_of_getElem? hki)
          have hmv := rmv_at i hfi.1 wr
          have hrg := mv_range i
          dsimp only [insRow] at hmv
          have HN : Hid (nxt i x = x - (mv i).1 + (mv i).2) := by exact rfl
          have hg1 := hG.takes
          have hg2 := hG.has
          have hg3 := hG.room
          rw [HN.out] at hg3
          have HG : Hid _ := hG
          have HX : Hid _ := hx
          have HK : Hid _ := hki
          clear hG hx hki
          generalize hp : (mv i).1 = p at *
          generalize hq : (mv i).2 = q at *
          have HPQ : Hid _ := And.intro hp hq
          clear hp hq
          obtain ⟨N, hN⟩ : ∃ N, N = x - p + q := ⟨_, rfl⟩
          have HNN : Hid (nxt i x = N) := by show _ = _; rw [HN.out, hN]
          have HNE : Hid _ := hN
          clear HN hN
          go_wp2_with fail
          refine hmv.mono ?_
          rintro e w3 ⟨rfl, hb3⟩
          have hbw3 := hb.trans (hb3.mono hb.size)
          clear hmv c0 c1 c2 c3 cx
          obtain ⟨ga', oa', ea, c0, c1, c2, c3⟩ := (Row.below H2.out.1 hbw3) k i HK.out
          cases ea
          obtain ⟨gb', off', ea, cx⟩ := (IRow.below H2.out.2 hbw3) k x HX.out
          cases ea
          clear hb hb3
          by_cases h21 : i.op = 21
          · have hb21 : (i.op == 21) = true := by simp [h21]
            have hn21 : (i.op != 21) = false := by simp [h21]
            obtain ⟨j, y, hy, hyp, hyd⟩ := HG.out.jump (Or.inl h21)
            have HJ : Hid _ := And.intro hy (And.intro hyp hyd)
            clear h21 hy hyp hyd
            go_wp2
            go_loopw [11, 12] (fun b s wr => ∃ (m : Nat) (B : Bool), m ≤ l.length ∧ s = .int .i64 m ∧ Value.bool B = b ∧ Hid (j < m → B = true) ∧ Below w2.heap.size w2 wr) (fun _ s _ => l.length - (intOf s).toNat)
            case atStart => exact ⟨0, false, by omega, rfl, rfl, (fun h => absurd h (Nat.not_lt_zero _)), hbw3⟩
            case round =>
              obtain ⟨m, B, hm, rfl, rfl, HB, hbq⟩ := hrel
              clear c0 c1 c2 c3 cx
              by_cases hml : m < l.length
              · obtain ⟨z, hz⟩ : ∃ z, l[m]? = some z := ⟨l[m], List.getElem?_eq_getElem hml⟩
                obtain ⟨u, hu⟩ : ∃ u, D[m]? = some u := ⟨D[m]'(by omega), List.getElem?_eq_getElem _⟩
                obtain ⟨ga', oa', ea, c0, c1, c2, c3⟩ := (Row.below H2.out.1 hbq) k i HK.out
                cases ea
                obtain ⟨ga', oa', ea, z0, z1, z2, z3⟩ := (Row.below H2.out.1 hbq) m z hz
                cases ea
                obtain ⟨gb', off', ea, cu⟩ := (IRow.below H2.out.2 hbq) m u hu
                cases ea
                have hzp := HV.out.prog.inside m z hz
                have hwz : IntKind.u64.wrap z.pos = z.pos := by
                  have := uwrap_nat z.pos.toNat (by omega)
                  rwa [Int.toNat_of_nonneg hzp.1] at this
                have hjm : B = false → j < m + 1 → z = y ∧ u = N := fun hB hj => by
                  have hjm : j = m := by
                    by_cases h : j < m
                    · have := HB.out h; rw [hB] at this; cases this
                    · omega
                  subst hjm
                  have e1 := HJ.out.1
                  rw [hz] at e1
                  have e2 := HJ.out.2.2
                  rw [HNN.out, hu] at e2
                  cases e1
                  cases e2
                  exact ⟨rfl, rfl⟩
                have HJM : Hid _ := hjm
                clear hz hu hjm
                cases B with
                | true =>
                  go_wp2_with fail
                  go_quiet (fail)
                  go_wp2
                  go_roundw
                  case rel => exact ⟨m + 1, true, by omega, by go_num, rfl, (fun _ => rfl), below_drewN hbq _⟩
                  case measure => simp [intOf]; omega
                | false =>
                  cases h1 : (z.pos == i.arg) with
                  | false =>
                    go_wp2_with fail
                    go_quiet (fail)
                    go_wp2
                    go_roundw
                    case rel =>
                      refine ⟨m + 1, false, by omega, by go_num, rfl, (fun hj => ?_), below_drewN hbq _⟩
                      have e := (HJM.out (by simp) hj).1
                      have e2 := HJ.out.2.1
                      rw [← e] at e2
                      simp [e2] at h1
                    case measure => simp [intOf]; omega
                  | true =>
                    cases h2 : (u == x - p + q) with
                    | false =>
                      go_wp2_with fail
                      go_quiet (fail)
                      go_wp2
                      go_roundw
                      case rel =>
                        refine ⟨m + 1, false, by omega, by go_num, rfl, (fun hj => ?_), below_drewN hbq _⟩
                        have e := (HJM.out (by simp) hj).2
                        rw [← HNE.out] at h2
                        simp [e] at h2
                      case measure => simp [intOf]; omega
                    | true =>
                      go_wp2_with fail
                      go_quiet (fail)
                      go_wp2
                      go_roundw
                      case rel => exact ⟨m + 1, true, by omega, by go_num, rfl, (fun _ => rfl), below_drewN hbq _⟩
                      case measure => simp [intOf]; omega
              · obtain rfl : m = l.length := by omega
                obtain rfl : B = true := HB.out (List.getElem?_eq_some_iff.1 HJ.out.1).1
                go_wp2
                go_roundw
                case rel => exact ⟨k + 1, by omega, by go_num, hbq⟩
                case measure => simp [intOf]; omega
          · have hb21 : (i.op == 21) = false := by simpa using h21
            have hn21 : (i.op != 21) = true := by simpa using h21
            obtain ⟨hk1, hx1⟩ := HG.out.next h21
            rw [HNN.out] at hx1
            obtain ⟨gb', off', ea, cx1⟩ := (IRow.below H2.out.2 hbw3) (k + 1) N hx1
            cases ea
            rw [HNE.out] at cx1
            have hk1' : ((k : Int) + 1 == l.length) = false := beq_false_of_ne (by omega)
            clear hx1
            by_cases h22 : i.op = 22
            · have hb22 : (i.op == 22) = true := by simp [h22]
              obtain ⟨j, y, hy, hyp, hyd⟩ := HG.out.jump (Or.inr h22)
              have HJ : Hid _ := And.intro hy (And.intro hyp hyd)
              clear h21 h22 hy hyp hyd
              go_wp2
              go_loopw [11, 12] (fun b s wr => ∃ (m : Nat) (B : Bool), m ≤ l.length ∧ s = .int .i64 m ∧ Value.bool B = b ∧ Hid (j < m → B = true) ∧ Below w2.heap.size w2 wr) (fun _ s _ => l.length - (intOf s).toNat)
              case atStart => exact ⟨0, false, by omega, rfl, rfl, (fun h => absurd h (Nat.not_lt_zero _)), hbw3⟩
              case round =>
                obtain ⟨m, B, hm, rfl, rfl, HB, hbq⟩ := hrel
                clear c0 c1 c2 c3 cx
                by_cases hml : m < l.length
                · obtain ⟨z, hz⟩ : ∃ z, l[m]? = some z := ⟨l[m], List.getElem?_eq_getElem hml⟩
                  obtain ⟨u, hu⟩ : ∃ u, D[m]? = some u := ⟨D[m]'(by omega), List.getElem?_eq_getElem _⟩
                  obtain ⟨ga', oa', ea, c0, c1, c2, c3⟩ := (Row.below H2.out.1 hbq) k i HK.out
                  cases ea
                  obtain ⟨ga', oa', ea, z0, z1, z2, z3⟩ := (Row.below H2.out.1 hbq) m z hz
                  cases ea
                  obtain ⟨gb', off', ea, cu⟩ := (IRow.below H2.out.2 hbq) m u hu
                  cases ea
                  have hzp := HV.out.prog.inside m z hz
                  have hwz : IntKind.u64.wrap z.pos = z.pos := by
                    have := uwrap_nat z.pos.toNat (by omega)
                    rwa [Int.toNat_of_nonneg hzp.1] at this
                  have hjm : B = false → j < m + 1 → z = y ∧ u = N := fun hB hj => by
                    have hjm : j = m := by
                      by_cases h : j < m
                      · have := HB.out h; rw [hB] at this; cases this
                      · omega
                    subst hjm
                    have e1 := HJ.out.1
                    rw [hz] at e1
                    have e2 := HJ.out.2.2
                    rw [HNN.out, hu] at e2
                    cases e1
                    cases e2
                    exact ⟨rfl, rfl⟩
                  have HJM : Hid _ := hjm
                  clear hz hu hjm
                  cases B with
                  | true =>
                    go_wp2_with fail
                    go_quiet (fail)
                    go_wp2
                    go_roundw
                    case rel => exact ⟨m + 1, true, by omega, by go_num, rfl, (fun _ => rfl), below_drewN hbq _⟩
                    case measure => simp [intOf]; omega
                  | false =>
                    cases h1 : (z.pos == i.arg) with
                    | false =>
                      go_wp2_with fail
                      go_quiet (fail)
                      go_wp2
                      go_roundw
                      case rel =>
                        refine ⟨m + 1, false, by omega, by go_num, rfl, (fun hj => ?_), below_drewN hbq _⟩
                        have e := (HJM.out (by simp) hj).1
                        have e2 := HJ.out.2.1
                        rw [← e] at e2
                        simp [e2] at h1
                      case measure => simp [intOf]; omega
                    | true =>
                      cases h2 : (u == x - p + q) with
                      | false =>
                        go_wp2_with fail
                        go_quiet (fail)
                        go_wp2
                        go_roundw
                        case rel =>
                          refine ⟨m + 1, false, by omega, by go_num, rfl, (fun hj => ?_), below_drewN hbq _⟩
                          have e := (HJM.out (by simp) hj).2
                          rw [← HNE.out] at h2
                          simp [e] at h2
                        case measure => simp [intOf]; omega
                      | true =>
                        go_wp2_with fail
                        go_quiet (fail)
                        go_wp2
                        go_roundw
                        case rel => exact ⟨m + 1, true, by omega, by go_num, rfl, (fun _ => rfl), below_drewN hbq _⟩
                        case measure => simp [intOf]; omega
                · obtain rfl : m = l.length := by omega
                  obtain rfl : B = true := HB.out (List.getElem?_eq_some_iff.1 HJ.out.1).1
                  go_wp2
                  go_roundw
                  case rel => exact ⟨k + 1, by omega, by go_num, hbq⟩
                  case measure => simp [intOf]; omega
            · have hb22 : (i.op == 22) = false := by simpa using h22
              clear h21 h22
              go_wp2
              go_roundw
              case rel => exact ⟨k + 1, by omega, by go_num, hbw3⟩
              case measure => simp [intOf]; omega
      · obtain rfl : k = l.length := by omega
        go_wp2_with fail
        refine (awake_at wr).mono ?_
        rintro e w3 ⟨rfl, hb3⟩
        have hbw3 := hb.trans (hb3.mono hb.size)
        go_wp2
        go_ret
        exact ⟨rfl, hbw2.trans (hbw3.mono hbw2.size)⟩
  · have hdep := depths_no hbad hs w
    go_enter Try.func4, Try.ntmps4
    go_wp2_with fail
    refine hdep.mono ?_
    rintro e w1 ⟨rfl, hb1⟩
    go_wp2_with fail
    refine (awake_at w1).mono ?_
    rintro e w2 ⟨rfl, hb2⟩
    go_wp2
    go_ret
    exact ⟨rfl, hb1.trans (hb2.mono hb1.size)⟩
theorem own : ownKnob Try.prog.godebug = none := by kernel_rfl
theorem laidOut : laidOutB Try.prog = true := by kernel_rfl

set_option maxRecDepth 100000 in
theorem stays_lifted (os : Os) (started : os.Started) (H : Type) (enc : TypeId × Value → H) :
    ReturnsInHanded {} Try.checked os 4 .any (Rows.validStaysSpec.pre6 enc Try.prog Try.f4 Rows.validStaysRow.domain false) (Rows.validStaysSpec.post enc Try.prog Try.f4 false true false false) := by
  refine returnsInHanded_of_change (C := Try.checked) own started (by kernel_rfl) Try.func4
    (ChangeSpec.witness6 (enc := enc) (C := Try.checked) false ⟨#[], #[.string ⟨#[]⟩], []⟩ 8 (by kernel_rfl) (by kernel_rfl) (by kernel_rfl) (by kernel_rfl)) ?_
  intro W base args ds gs before hval0 hW hcnd _
  have hval : ∀ (j : Nat) t v, Try.f4.params[j]? = some t → args[j]? = some v → Value.okWide Try.prog W .any base t v := hval0
  have hW' := hW
  obtain ⟨p, q, hA0, hV, rfl, hfz, hnd⟩ := hW
  have hA : DataW.TrodAll enc Try.prog W 0 (fun _ => true) true Try.f4.params.toList args.toList ds p := hA0
  rw [Try.params4] at hA hval
  obtain ⟨v0, vs0, d0, ds0, p0, q0, hargs, rfl, rfl, h0, r0⟩ := trodAll_cons hA
  obtain ⟨rfl, rfl, rfl⟩ := trodAll_nil r0
  obtain rfl : args = #[v0] := by cases args; simp_all
  obtain ⟨rfl, rfl⟩ := trodVars_none hV
  obtain ⟨s0, rfl, rfl, rfl, len0⟩ := Go.ChangeMaps.open_string Try.underlying9 (hval 0 9 v0 rfl rfl) h0
  clear hA0 hval0
  obtain ⟨s, rfl, hsl⟩ := text_of s0
  have hwalk : Calls Try.prog 4 #[tx s] W fun e w' => e = .returned (.bool true) ∧ Below W.heap.size W w' := stays_walk s W (by unfold maxLen at len0; omega)
  refine hwalk.mono fun e W' ⟨he, bel⟩ => ?_
  subst he
  exact ⟨_, rfl, _, _, _, [], _, [], hW', trodAll_mk1 (shut_bool Try.underlying4 _), (trodAll_cons_mk (Go.ChangeMaps.shut_string Try.underlying9 len0) trodAll_mk0), rfl, bel.frame _, fun h => by cases h⟩

theorem stays_holds : Rows.ValidStaysSaid :=
  OpenClaim.holds_of_wide 4 Try.f4 rfl rfl rfl rfl rfl rfl rfl ⟨rfl, rfl, rfl, rfl, rfl⟩ rfl rfl rfl rfl rfl (by kernel_rfl) Try.func4 (by kernel_rfl)
    (of_decide_eq_true (by kernel_rfl)) (by unfold Func.isWrapper; first | (rw [if_pos (by decide +kernel)]; kernel_rfl) | (rw [if_neg (by decide +kernel)]; exact ⟨rfl, rfl⟩))
    (fun os started H enc _ => stays_lifted os started H enc)
#print axioms stays_holds
end Go.Proofs.Yteipppdkbpfkaaa
