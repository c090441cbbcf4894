/- Proved: januslaw10.ExoenvSlices answers true for every number of slices and every list of deeds (a slice is nobody's, or of one that lives, whatever is done), at the commit of this claim; no condition beyond the row's own. -/
import Derived.Test.YteealgnclpfmkaaEnvW
import Derived.Lib.MinMax
import Derived.Deep.DeepCutAuto
import Derived.Deep.CutBlock
import Derived.ProofKit
import Derived.OpenShut
import Derived.ChangeOld
import Derived.Below
import Derived.Deep.Slices
namespace Go.Proofs.Yteealgnclpfmkaa
open Go.ChangeShapes Go.WideShapes Go.ChangeAt Go.RowKit Go.Lib
set_option linter.unusedVariables false

/-- A slice is nobody's, or of one that lives. -/
def Good (E : ES) (V : List Int) : Prop := ∀ x ∈ V, x = -1 ∨ isB E x = true
theorem Good.new (n : Nat) : Good E0 (List.replicate n (-1)) := fun x hx => Or.inl (List.eq_of_mem_replicate hx)
theorem isB_set {E : ES} {n x : Int} {v : Ev} (hn : isE n = true) (h : isB E x = true) (hx : x ≠ n) : isB (E.set n.toNat v) x = true := by
  obtain ⟨m, rfl, hm⟩ := isE_nat hn
  obtain ⟨k, rfl, hk, hl⟩ := isB_nat h
  rw [isB_of hk, ES.set_other _ _ _ _ (by simp; omega)]
  exact hl
theorem Good.create {E : ES} {V : List Int} (h : Good E V) (n : Int) : Good (createT E n) V := by
  intro x hx
  rcases h x hx with e | hb
  · exact Or.inl e
  · right
    unfold createT
    split
    · rename_i hq
      simp only [Bool.and_eq_true] at hq
      by_cases e : x = n
      · subst e
        obtain ⟨m, rfl, hm⟩ := isE_nat hq.1
        show isB (E.set m _) m = true
        rw [isB_of hm, ES.set_same]
      · exact isB_set hq.1 hb e
    · exact hb
theorem Good.kill {E : ES} {V : List Int} (h : Good E V) (n : Int) : Good (killT E n) (killV E V n) := by
  unfold killT killV
  cases hq : isB E n with
  | false => exact h
  | true =>
    intro x hx
    simp only [if_true, wo, List.mem_map] at hx
    obtain ⟨y, hy, rfl⟩ := hx
    by_cases e : y = n
    · left
      rw [if_pos e]
    · rw [if_neg e]
      rcases h y hy with e2 | hb
      · exact Or.inl e2
      · right
        have hn : isE n = true := by
          simp only [isB, Bool.and_eq_true] at hq
          exact hq.1
        exact isB_set hn hb e
theorem Good.slice {E : ES} {V : List Int} (h : Good E V) (s n : Int) : Good E (sliceV E V s n) := by
  unfold sliceV
  split
  · rename_i hq
    intro x hx
    rcases List.mem_or_eq_of_mem_set hx with hm | rfl
    · exact h x hm
    · exact hq.2
  · exact h
theorem pick_in {V : List Int} {m : Nat} {x : Int} (h : V[m]? = some x) : pickA V m = x ∧ pickA V ((m : Int) + V.length) = x := by
  obtain ⟨hl, rfl⟩ := List.getElem?_eq_some_iff.1 h
  have h1 : ((m : Int) % (V.length : Int)) = m := Int.emod_eq_of_lt (by omega) (by omega)
  have h2 : (((m : Int) + V.length) % (V.length : Int)) = m := by rw [Int.add_emod_right]; exact h1
  unfold pickA
  rw [h1, h2]
  simp [hl]
set_option maxRecDepth 100000 in
set_option maxHeartbeats 800000 in
theorem slices_walk (n : Int) (a0' : Option Addr) (len cap : Nat) (w : World) (hlen : len ≤ 9223372036854775807) (hdeeds : Hid (DeedsAt w a0' len)) :
    Calls Try.prog 4 #[.int .i64 n, .slice a0' len cap] w fun e w' => e = .returned (.bool true) ∧ Below w.heap.size w w' := by
  obtain ⟨N, hN, hN1, hN2⟩ : ∃ N : Nat, max 1 (min n 64) = (N : Int) ∧ 1 ≤ N ∧ N ≤ 64 := ⟨(max 1 (min n 64)).toNat, by omega, by omega, by omega⟩
  go_enter Try.func4, Try.ntmps4
  go_wp2_with fail
  refine (new_yes N w hN1 hN2).mono ?_
  rintro e w1 ⟨rfl, hE, hB, hsz⟩
  obtain ⟨b, hbq⟩ : ∃ b, b = w.heap.size + 1 := ⟨_, rfl⟩
  obtain ⟨g, hgq⟩ : ∃ g, g = w.heap.size := ⟨_, rfl⟩
  rw [← hbq] at hE ⊢
  have HE : Hid (EnvAt w1 b g E0 (List.replicate N (-1))) := by rw [hgq]; exact hE
  have hbb : w.heap.size ≤ b := by omega
  have hgg : w.heap.size ≤ g := by omega
  have HB : Hid (Below w.heap.size w w1) := hB
  have hne := ptr_eq b
  clear hE hB hsz hbq hgq hN
  go_wp2
  go_loopw [6] (fun s wr => ∃ (k : Nat) (E : ES) (V : List Int), k ≤ len ∧ k ≤ 200 ∧ s = .int .i64 k ∧ EnvAt wr b g E V ∧ Good E V ∧ V.length = N ∧ Below w.heap.size w wr) (fun s _ => 200 - (intOf s).toNat)
  case atStart => exact ⟨0, _, _, by omega, by omega, rfl, HE.out, Good.new N, by simp, HB.out⟩
  case round =>
    clear HE HB
    obtain ⟨k, E, V, hk, hk2, rfl, hE, hG, hVN, hB⟩ := hrel
    by_cases hlt : k < len ∧ k < 200
    · obtain ⟨l1, l2⟩ := hlt
      obtain ⟨gb, off, d, rfl, e0, e1, e2, e3⟩ := (hdeeds.out.below hB) k l1
      obtain ⟨kd, env, nn, ad⟩ := d
      dsimp only at *
      have g0 : decide ((k : Int) < (len : Int)) = true := decide_eq_true (by omega)
      have g1 : decide ((k : Int) < 200) = true := decide_eq_true (by omega)
      have ik : (k : Int) < (len : Int) := by omega
      obtain ⟨W, hW⟩ : ∃ W, W = wr.alloc (.cells #[.int .i64 kd, .int .i64 env, .int .i64 nn, .int .u64 ad] 29) := ⟨_, rfl⟩
      have hbW : Below wr.heap.size wr W := by rw [hW]; exact below_alloc _ _
      obtain ⟨c0, c1, c2, c3⟩ := deedCells (w := W) (g := wr.heap.size) (d := ⟨kd, env, nn, ad⟩) (t := 29) (by rw [hW]; exact heap_alloc_new _ _)
      have HE : Hid _ := hE.below hbW
      have HB : Hid (Below w.heap.size w W) := hB.trans (hbW.mono hB.size)
      have HG : Hid _ := hG
      have HVN : Hid _ := hVN
      have HW : Hid _ := hW
      dsimp only at c0 c1 c2 c3
      clear hW hbW hE hB hG hVN
      go_upto_block 2 with fail
      go_cut [] (fun wc => ∃ (E' : ES) (V' : List Int), EnvAt wc b g E' V' ∧ Good E' V' ∧ V'.length = N ∧ Below w.heap.size w wc)
      case first =>
        rw [← HW.out]
        clear HW e0 e1 e2 e3 hdeeds
        have kinds : (kd == 0) = true ∨ ((kd == 0) = false ∧ (kd == 1) = true) ∨ ((kd == 0) = false ∧ (kd == 1) = false ∧ (kd == 2) = true) ∨ ((kd == 0) = false ∧ (kd == 1) = false ∧ (kd == 2) = false) := by
          simp only [beq_iff_eq, beq_eq_false_iff_ne]
          omega
        rcases kinds with k0 | ⟨k0, k1⟩ | ⟨k0, k1, k2⟩ | ⟨k0, k1, k2⟩
        · go_wp2_with fail
          refine (create_at b g E V env W HE.out).mono ?_
          rintro e w2 ⟨rfl, hE2, hU2⟩
          have HE2 : Hid _ := hE2
          have HB2 : Hid (Below w.heap.size w w2) := mine_below HB.out hU2 hbb hgg
          clear hE2 hU2
          go_wp2_with fail
          go_meet
          case rel => exact ⟨_, _, HE2.out, Good.create HG.out env, HVN.out, HB2.out⟩
        · go_wp2_with fail
          refine (kill_at b g E V env W HE.out).mono ?_
          rintro e w2 ⟨rfl, hE2, hU2⟩
          have HE2 : Hid _ := hE2
          have HB2 : Hid (Below w.heap.size w w2) := mine_below HB.out hU2 hbb hgg
          clear hE2 hU2
          go_wp2_with fail
          go_meet
          case rel => exact ⟨_, _, HE2.out, Good.kill HG.out env, by rw [killV_length]; exact HVN.out, HB2.out⟩
        · go_wp2_with fail
          refine (slice_at b g E V nn env W HE.out).mono ?_
          rintro e w2 ⟨rfl, hE2, hU2⟩
          have HE2 : Hid _ := hE2
          have HB2 : Hid (Below w.heap.size w w2) := mine_below HB.out hU2 hbb hgg
          clear hE2 hU2
          go_wp2_with fail
          go_meet
          case rel => exact ⟨_, _, HE2.out, Good.slice HG.out nn env, by rw [sliceV_length]; exact HVN.out, HB2.out⟩
        · go_wp2_with fail
          go_meet
          case rel => exact ⟨_, _, HE.out, HG.out, HVN.out, HB.out⟩
      case rest =>
        clear HE HB HG HVN HW e0 e1 e2 e3 c0 c1 c2 c3 hdeeds
        obtain ⟨E', V', hE, hG, hVN, hB⟩ := hcut
        have hvec := vector_at b g E' V' wc hE
        rw [hVN] at hvec
        have HE : Hid _ := hE
        have HG : Hid _ := hG
        have HVN : Hid _ := hVN
        have HB : Hid _ := hB
        have hlg := hE.ltg
        clear hE hG hVN hB
        go_wp2_with fail
        refine hvec.mono ?_
        rintro e w2 ⟨rfl, hI2, hb2⟩
        have HE2 : Hid _ := HE.out.below hb2
        have HB2 : Hid _ := HB.out.trans (hb2.mono HB.out.size)
        have HI2 : Hid _ := hI2
        clear hI2 hb2 HE HB hvec
        generalize wc.heap.size = gv at *
        go_wp2
        go_loopw [9] (fun s wz => ∃ (m : Nat), m ≤ N ∧ s = .int .i64 m ∧ EnvAt wz b g E' V' ∧ Hid (wz.heap[gv]? = some (.cells (irow V') 3)) ∧ Below w.heap.size w wz) (fun s _ => N - (intOf s).toNat)
        case atStart => exact ⟨0, by omega, rfl, HE2.out, HI2, HB2.out⟩
        case round =>
          clear HE2 HB2 HI2
          obtain ⟨m, hm, rfl, hE, HI, hB⟩ := hrel
          by_cases hmN : m < N
          · obtain ⟨x, hx⟩ : ∃ x, V'[m]? = some x := ⟨V'[m]'(by rw [HVN.out]; exact hmN), List.getElem?_eq_getElem _⟩
            obtain ⟨p1, p2⟩ := pick_in hx
            rw [HVN.out] at p2
            have hgood := HG.out x (List.mem_of_getElem? hx)
            have hq : ∀ q, EnvAt (wr.drewN q) b g E' V' := fun q => hE.below (below_drewN (Below.refl _ _) q)
            have hI : ∀ q, Calls Try.prog 21 #[.pointer (some ⟨b, 0, none⟩), .int .i64 x] (wr.drewN q) fun e w' => e = .returned (.bool (isB E' x)) ∧ w' = wr.drewN q := fun q => is_at b g E' V' x _ (hq q)
            have hP1 : ∀ q, Calls Try.prog 15 #[.pointer (some ⟨b, 0, none⟩), .int .i64 m] (wr.drewN q) fun e w' => e = .returned (.int .i64 x) ∧ w' = wr.drewN q := fun q => by
              have := pick_at b g E' V' m _ (hq q)
              rwa [p1] at this
            have hP2 : ∀ q, Calls Try.prog 15 #[.pointer (some ⟨b, 0, none⟩), .int .i64 ((m : Int) + (N : Int))] (wr.drewN q) fun e w' => e = .returned (.int .i64 x) ∧ w' = wr.drewN q := fun q => by
              have := pick_at b g E' V' ((m : Int) + (N : Int)) _ (hq q)
              rwa [p2] at this
            have c0 := irow_cell HI.out hx
            have HE : Hid _ := hE
            have HB : Hid _ := hB
            have hmi : (m : Int) < (N : Int) := by omega
            have hxx : (x != x) = false := by simp
            clear hq hE hB hx p1 p2
            by_cases hx1 : x = -1
            · subst hx1
              clear hI hgood
              go_wp2_with fail
              go_quiet (first | (go_at_call 15; with_reducible refine Calls.quiet_of_same (hP1 _)) | (go_at_call 15; with_reducible refine Calls.quiet_of_same (hP2 _)))
              go_wp2
              go_roundw
              case rel =>
                have hbV : Below wr.heap.size wr (wr.drewN nq) := below_drewN (Below.refl _ wr) nq
                exact ⟨m + 1, by omega, by go_num, HE.out.below hbV, (hbV.block _ (lt_of_heap HI.out)).trans HI.out, HB.out.trans (hbV.mono HB.out.size)⟩
              case measure => simp [intOf]; omega
            · have hxb : isB E' x = true := hgood.resolve_left hx1
              rw [hxb] at hI
              have ge : (x != -1) = true := by simp [hx1]
              clear hxb hgood hx1
              go_wp2_with fail
              go_quiet (first | (go_at_call 21; refine Calls.quiet_of_same (hI _)) | (go_at_call 15; with_reducible refine Calls.quiet_of_same (hP1 _)) | (go_at_call 15; with_reducible refine Calls.quiet_of_same (hP2 _)))
              go_wp2
              go_roundw
              case rel =>
                have hbV : Below wr.heap.size wr (wr.drewN nq) := below_drewN (Below.refl _ wr) nq
                exact ⟨m + 1, by omega, by go_num, HE.out.below hbV, (hbV.block _ (lt_of_heap HI.out)).trans HI.out, HB.out.trans (hbV.mono HB.out.size)⟩
              case measure => simp [intOf]; omega
          · obtain rfl : m = N := by omega
            have HE : Hid _ := hE
            have HB : Hid _ := hB
            clear hE hB
            go_wp2
            go_roundw
            case rel => exact ⟨k + 1, E', V', by omega, by omega, by go_num, HE.out, HG.out, HVN.out, HB.out⟩
            case measure => simp [intOf]; omega
    · have HB : Hid _ := hB
      clear hE hG hB hVN hdeeds
      have hkl : k < len ∨ len ≤ k := by omega
      rcases hkl with hkl | hkl
      · have g0 : decide ((k : Int) < (len : Int)) = true := decide_eq_true (by omega)
        have g1 : decide ((k : Int) < 200) = false := decide_eq_false (by omega)
        go_wp2_with fail
        refine (awake_at _).mono ?_
        rintro e w6 ⟨rfl, hb6⟩
        go_wp2
        go_ret
        exact ⟨rfl, HB.out.trans (hb6.mono HB.out.size)⟩
      · have g0 : decide ((k : Int) < (len : Int)) = false := decide_eq_false (by omega)
        go_wp2_with fail
        refine (awake_at _).mono ?_
        rintro e w6 ⟨rfl, hb6⟩
        go_wp2
        go_ret
        exact ⟨rfl, HB.out.trans (hb6.mono HB.out.size)⟩

theorem own : ownKnob Try.prog.godebug = none := by kernel_rfl
theorem laidOut : laidOutB Try.prog = true := by kernel_rfl

set_option maxRecDepth 100000 in
theorem slices_lifted (os : Os) (started : os.Started) (H : Type) (enc : TypeId × Value → H) :
    ReturnsInHanded {} Try.checked os 4 .any (Rows.exoenvSlicesSpec.pre6 enc Try.prog Try.f4 Rows.exoenvSlicesRow.domain false) (Rows.exoenvSlicesSpec.post enc Try.prog Try.f4 false true false false) := by
  refine returnsInHanded_of_change (C := Try.checked) own started (by kernel_rfl) Try.func4
    (ChangeSpec.witness6 (enc := enc) (C := Try.checked) false ⟨#[], #[.int .i64 0, .slice none 0 0], []⟩ 8 (by kernel_rfl) (by kernel_rfl) (by kernel_rfl) (by kernel_rfl)) ?_
  intro W base args ds gs before hval0 hW hcnd _
  have hval : ∀ (j : Nat) t v, Try.f4.params[j]? = some t → args[j]? = some v → Value.okWide Try.prog W .any base t v := hval0
  have hW' := hW
  obtain ⟨p, q, hA0, hV, rfl, hfz, hnd⟩ := hW
  have hA : DataW.TrodAll enc Try.prog W 0 (fun _ => true) true Try.f4.params.toList args.toList ds p := hA0
  rw [Try.params4] at hA hval
  obtain ⟨v0, vs0, d0, ds0, p0, q0, hargs, rfl, rfl, h0, r0⟩ := trodAll_cons hA
  obtain ⟨v1, vs1, d1, ds1, p1, q1, rfl, rfl, rfl, h1, r1⟩ := trodAll_cons r0
  obtain ⟨rfl, rfl, rfl⟩ := trodAll_nil r1
  obtain rfl : args = #[v0, v1] := by cases args; simp_all
  obtain ⟨rfl, rfl⟩ := trodVars_none hV
  obtain ⟨a0, rfl, rfl, rfl, w0⟩ := open_int Try.underlying3 (hval 0 3 v0 rfl rfl) h0
  have k1 := h1
  have lt1 : ∀ x ∈ p1, x.block < W.heap.size := by obtain ⟨m, hm⟩ := k1; exact DataW.trod_lt m _ _ _ hm
  obtain ⟨a1, len1, cap1, rfl⟩ := okWide_slice Try.underlying22 (hval 1 22 v1 rfl rfl)
  clear hA0 hval0
  have hdeeds : len1 ≤ 9223372036854775807 ∧ DeedsAt W a1 len1 := by
    obtain ⟨fuel, hf⟩ := h1
    obtain ⟨hl, hc⟩ := slice_fits (l := deedCK) Try.underlying22 deedKinds (by simp) deedSize (by simpa [Value.cells] using hf)
    exact ⟨hl, deeds_of hc⟩
  have hwalk : Calls Try.prog 4 #[.int .i64 a0, .slice a1 len1 cap1] W fun e w' => e = .returned (.bool true) ∧ Below W.heap.size W w' := slices_walk a0 a1 len1 cap1 W hdeeds.1 hdeeds.2
  refine hwalk.mono fun e W' ⟨he, bel⟩ => ?_
  subst he
  exact ⟨_, rfl, _, _, _, [], _, [], hW', trodAll_mk1 (shut_bool Try.underlying4 _), (trodAll_cons_mk (shut_int Try.underlying3 w0) (trodAll_cons_mk (Below.trod laidOut (by kernel_rfl) (of_decide_eq_true (by kernel_rfl)) k1 bel lt1) trodAll_mk0)), rfl, bel.frame _, fun h => by cases h⟩

theorem slices_holds : Rows.ExoenvSlicesSaid :=
  OpenClaim.holds_of_wide 4 Try.f4 rfl rfl rfl rfl rfl rfl rfl ⟨rfl, rfl, rfl, rfl, rfl⟩ rfl rfl rfl rfl rfl (by kernel_rfl) Try.func4 (by kernel_rfl)
    (of_decide_eq_true (by kernel_rfl)) (by unfold Func.isWrapper; first | (rw [if_pos (by decide +kernel)]; kernel_rfl) | (rw [if_neg (by decide +kernel)]; exact ⟨rfl, rfl⟩))
    (fun os started H enc _ => slices_lifted os started H enc)
#print axioms slices_holds
end Go.Proofs.Yteealgnclpfmkaa
