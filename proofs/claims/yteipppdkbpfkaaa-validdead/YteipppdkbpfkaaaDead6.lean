/- Proved: januslaw06.ValidDead answers true for every text and every list of instructions (code that can't be reached, put behind a program that ends in a jump, changes nothing but that it is there), at the commit of this claim; no condition beyond the form's own. -/
import Derived.Test.YteipppdkbpfkaaaDeadM
import Derived.Test.YteipppdkbpfkaaaCodQ
import Derived.Test.YteipppdkbpfkaaaIns5
import Derived.BigQuiet
import Derived.ChangeMaps5
import Derived.ChangeOld
import Derived.Below
namespace Go.Proofs.Yteipppdkbpfkaaa
open Go.ChangeShapes Go.WideShapes Go.ChangeAt Go.RowKit
set_option linter.unusedVariables false

theorem glue (x y : List UInt8) : ByteArray.mk x.toArray ++ ByteArray.mk y.toArray = ByteArray.mk (x ++ y).toArray := ByteArray.mk_append_mk x y
theorem enc_not {l : List Ins} (h : l.all good = false) : encT l = [] ∧ encE l = 101 := by
  unfold encT encE
  rw [h]
  exact ⟨rfl, rfl⟩

set_option maxRecDepth 100000 in
set_option maxHeartbeats 8000000 in
theorem dead_walk (s : List UInt8) (more : List Ins) (a1 : Option Addr) (cap1 : Nat) (w : World) (hs : s.length ≤ 9223372036854775807) (hrow : Row w a1 more) (hfit : ∀ i ∈ more, i.Fit) (hml : more.length ≤ 9223372036854775807) :
    Calls Try.prog 5 #[tx s, .slice a1 more.length cap1] w fun e w' => e = .returned (.bool true) ∧ Below w.heap.size w w' := by
  have hsz : (ByteArray.mk s.toArray).size = s.length := by simp [ByteArray.size]
  obtain ⟨i0, hi0, hzz⟩ := Option.map_eq_some_iff.1 insInfo
  simp only [Prod.mk.injEq] at hzz
  obtain ⟨hz0, hz1, hz2⟩ := hzz
  have HM : Hid _ := hrow
  have HF : Hid _ := hfit
  clear hrow hfit
  rcases valid_or s with ⟨l, D, hv⟩ | hbad
  · have hlen := hv.lens
    have hsl := hv.size
    have HV : Hid _ := hv
    have hdep := depths_yes hv w
    have hrd := fun w => rdecode_yes hv w
    clear hv
    by_cases hm50 : 50 < more.length
    · go_enter Try.func5, Try.ntmps5
      go_wp2_with fail
      refine hdep.mono ?_
      rintro e w1 ⟨⟨b0, cb, rfl, hr1⟩, hb1⟩
      clear hr1
      go_wp2_with fail
      refine (awake_at w1).mono ?_
      rintro e w2 ⟨rfl, hb2⟩
      go_wp2
      go_ret
      exact ⟨rfl, hb1.trans (hb2.mono hb1.size)⟩
    have hl0 : ((l.length : Int) == 0) = false := beq_false_of_ne (by omega)
    go_enter Try.func5, Try.ntmps5
    go_wp2_with fail
    refine hdep.mono ?_
    rintro e w1 ⟨⟨b0, cb, rfl, hr1⟩, hb1⟩
    have H1 : Hid _ := hr1
    clear hr1 hdep
    go_wp2_with fail
    refine (hrd w1).mono ?_
    rintro e w2 ⟨⟨a0, ca, rfl, hr2⟩, hb2⟩
    have H2 : Hid _ := And.intro hr2 (IRow.below H1.out hb2)
    have hbw2 := hb1.trans (hb2.mono hb1.size)
    have HM2 : Hid _ := Row.below HM.out hbw2
    clear hr2 H1 hb2 hb1 hrd HM
    go_wp2
    go_loopw [9, 10] (fun b c wr => ∃ (k : Nat) (u : Value) (P : List Ins), k ≤ more.length ∧ P.length ≤ k ∧ c = .int .i64 k ∧ u = b ∧ Hid (P = (more.take k).filter plainB) ∧ InsOwn wr w2.heap.size u P ∧ Below w2.heap.size w2 wr) (fun _ c _ => more.length - (intOf c).toNat)
    case atStart => exact ⟨0, _, [], by omega, by simp, rfl, rfl, (show _ = _ by simp), World.ownsRow_nil _ _ _ _, Below.refl _ _⟩
    case round =>
      obtain ⟨k, u, P, hk, hPk, rfl, rfl, HP, hB, hb⟩ := hrel
      have hbs := hb.size
      by_cases hlt : k < more.length
      · obtain ⟨i, hki⟩ : ∃ i, more[k]? = some i := ⟨more[k], List.getElem?_eq_getElem hlt⟩
        obtain ⟨ga, oa, ea, c0, c1, c2, c3⟩ := (Row.below HM2.out hb) k i hki
        subst ea
        have hfi := HF.out i (List.mem_of_getElem? hki)
        have hmv := rmv_at i hfi wr
        have hrg := mv_range i
        dsimp only [insRow] at hmv
        have HFS : Hid _ := filter_succ hki
        have HPI : Hid _ := plainB_iff i
        have HK : Hid _ := hki
        clear hki
        generalize (mv i).1 = p at *
        generalize (mv i).2 = q at *
        go_wp2_with fail
        refine hmv.mono ?_
        rintro e w3 ⟨rfl, hb3⟩
        have hbw3 := hb.trans (hb3.mono hbs)
        have hB3 : InsOwn w3 w2.heap.size u P := own_below hB hb3
        have hs3 := hbw3.size
        clear hmv c0 c1 c2 c3 hB hb hb3
        obtain ⟨ga', oa', ea, c0, c1, c2, c3⟩ := (Row.below HM2.out hbw3) k i HK.out
        cases ea
        have hskip : plainB i = false → Hid (P = (more.take (k + 1)).filter plainB) := fun h => by
          show _ = _
          rw [HFS.out, h, ← HP.out]
          simp
        by_cases hp0 : p < 0
        · have HP2 := hskip (by cases h : plainB i with | false => rfl | true => have := (HPI.out.1 h).1; omega)
          clear hskip
          go_wp2
          go_roundw
          case rel => exact ⟨k + 1, _, P, by omega, by omega, by go_num, rfl, HP2, hB3, hbw3⟩
          case measure => simp [intOf]; omega
        · by_cases h21 : i.op = 21
          · have HP2 := hskip (by cases h : plainB i with | false => rfl | true => exact absurd h21 (HPI.out.1 h).2.1)
            have hn21 : (i.op != 21) = false := by simp [h21]
            clear hskip h21
            go_wp2
            go_roundw
            case rel => exact ⟨k + 1, _, P, by omega, by omega, by go_num, rfl, HP2, hB3, hbw3⟩
            case measure => simp [intOf]; omega
          · have hn21 : (i.op != 21) = true := by simpa using h21
            by_cases h22 : i.op = 22
            · have HP2 := hskip (by cases h : plainB i with | false => rfl | true => exact absurd h22 (HPI.out.1 h).2.2)
              have hn22 : (i.op != 22) = false := by simp [h22]
              clear hskip h21 h22
              go_wp2
              go_roundw
              case rel => exact ⟨k + 1, _, P, by omega, by omega, by go_num, rfl, HP2, hB3, hbw3⟩
              case measure => simp [intOf]; omega
            · have hn22 : (i.op != 22) = true := by simpa using h22
              have hpl : plainB i = true := HPI.out.2 ⟨by omega, h21, h22⟩
              have HP2 : Hid (P ++ [i] = (more.take (k + 1)).filter plainB) := by
                show _ = _
                rw [HFS.out, hpl, ← HP.out]
                simp
              clear hskip h21 h22 hpl
              go_wp2_with (at_builtin; refine wpList_append_lies _ rfl _ _ _ rfl w2.heap.size 39 i0 _ 4 32 Try.underlying32 hi0 hz0 hz1 hz2 rfl (by omega) u _ _ rfl (hB3.alloc _) ⟨w3.heap.size, 0, none⟩ 1 1 [.int .i64 i.op, .int .u64 i.arg, .int .i64 i.pos, .int .i64 i.len] rfl rfl (World.news_of_block (cs := #[.int .i64 i.op, .int .u64 i.arg, .int .i64 i.pos, .int .i64 i.len]) (t := 39) (fr := (0, 0)) (heap_alloc_new w3 _)) (by simp [Value.oneCell']) (by omega) (by unfold maxLen; omega) (by omega) (by simp; omega) _ rfl ?_)
              intro gg cap2 w4 hown4 hgrow hat hlt2
              have hbw4 : Below w2.heap.size w2 w4 := (hbw3.alloc hs3 _).trans (below_grown hgrow (by simp; omega) (ownsRow_low hB3))
              rw [insCells_snoc] at hown4
              clear hgrow hat hlt2
              go_wp2
              go_roundw
              case rel => exact ⟨k + 1, _, P ++ [i], by omega, by simp; omega, by go_num, rfl, HP2, by rw [InsOwn, List.length_append]; exact hown4, hbw4⟩
              case measure => simp [intOf]; omega
      · obtain rfl : k = more.length := by omega
        have hPm := HP.out
        rw [List.take_length] at hPm
        have HPM : Hid _ := hPm
        clear hPm HP hlt
        obtain ⟨ua, un, uc, rfl⟩ := own_slice hB
        obtain ⟨rfl, _⟩ := InsOwn.row hB
        go_wp2_with (at_builtin; refine wpList_append_lies _ rfl _ _ _ rfl w2.heap.size 39 i0 _ 4 32 Try.underlying32 hi0 hz0 hz1 hz2 rfl (by omega) (.slice ua P.length uc) _ _ rfl (hB.alloc _) ⟨wr.heap.size, 0, none⟩ 1 1 [.int .i64 21, .int .u64 0, .int .i64 0, .int .i64 0] rfl rfl (World.news_of_block (cs := #[.int .i64 21, .int .u64 0, .int .i64 0, .int .i64 0]) (t := 39) (fr := (0, 0)) (heap_alloc_new wr _)) (by simp [Value.oneCell']) (by omega) (by unfold maxLen; omega) (by omega) (by simp; omega) _ rfl ?_)
        intro gg cap2 w4 hown4 hgrow hat hlt2
        have hbw4 : Below w2.heap.size w2 w4 := (hb.alloc hbs _).trans (below_grown hgrow (by simp; omega) (ownsRow_low hB))
        have hrow4 : Row w4 (some ⟨gg, 0, none⟩) (P ++ [jump0]) := by
          have h : InsOwn w4 w2.heap.size (.slice (some ⟨gg, 0, none⟩) (P.length + 1) cap2) (P ++ [jump0]) := by
            rw [InsOwn, List.length_append, ← insCells_snoc]
            exact hown4
          exact (InsOwn.row h).2
        clear hgrow hat hlt2 hown4 hB hb hbs
        have hfitP : ∀ i ∈ P ++ [jump0], i.Fit := fun i hi => by
          rcases List.mem_append.1 hi with hi | hi
          · rw [HPM.out] at hi
            exact HF.out i (List.mem_filter.1 hi).1
          · simp at hi
            subst hi
            unfold Ins.Fit jump0
            decide
        have henc := rencode_at (P ++ [jump0]) (some ⟨gg, 0, none⟩) cap2 w4 hrow4 hfitP (by simp; omega)
        have hll : (P ++ [jump0]).length = P.length + 1 := by simp
        rw [hll] at henc
        clear hrow4 hfitP hll
        cases hall : (P ++ [jump0]).all good with
        | false =>
          obtain ⟨e1, e2⟩ := enc_not hall
          rw [e1, e2] at henc
          clear e1 e2 hall
          go_wp2_with fail
          refine henc.mono ?_
          rintro e w5 ⟨rfl, hb5⟩
          have hbw5 := hbw4.trans (hb5.mono hbw4.size)
          go_wp2_with fail
          refine (awake_at w5).mono ?_
          rintro e w6 ⟨rfl, hb6⟩
          have hbw6 := hbw5.trans (hb6.mono hbw5.size)
          go_wp2
          go_ret
          exact ⟨rfl, hbw2.trans (hbw6.mono hbw2.size)⟩
        | true =>
          obtain ⟨e1, e2⟩ := enc_yes hall
          have HDD : Hid (Dead (P ++ [jump0])) := by rw [HPM.out]; rw [HPM.out] at hall; exact dead_of HF.out hall
          have hdl := encs_len (P ++ [jump0])
          simp only [List.length_append, List.length_cons, List.length_nil] at hdl
          have hdv : (s ++ encs (P ++ [jump0])).length ≤ 192 → Valid (s ++ encs (P ++ [jump0])) (l ++ place (P ++ [jump0]) s.length) (D ++ List.replicate (P.length + 1) (-1)) := fun h => by
            have := dead_valid HV.out HDD.out h
            simpa using this
          have hpl : (l ++ place (P ++ [jump0]) s.length).length = l.length + P.length + 1 := by simp [place_len]; omega
          have HDV : Hid _ := And.intro hdv hpl
          rw [e1, e2] at henc
          clear e1 e2 hall hdv hpl
          generalize encs (P ++ [jump0]) = t at *
          have hszt : (ByteArray.mk t.toArray).size = t.length := by simp [ByteArray.size]
          go_wp2_with fail
          refine henc.mono ?_
          rintro e w5 ⟨rfl, hb5⟩
          have hbw5 := hbw4.trans (hb5.mono hbw4.size)
          clear henc hb5 hbw4
          by_cases hbig : 192 < s.length + t.length
          · go_wp2_with fail
            refine (awake_at w5).mono ?_
            rintro e w6 ⟨rfl, hb6⟩
            have hbw6 := hbw5.trans (hb6.mono hbw5.size)
            go_wp2
            go_ret
            exact ⟨rfl, hbw2.trans (hbw6.mono hbw2.size)⟩
          · have hdep2 := depths_yes (HDV.out.1 (by simp; omega)) w5
            rw [HDV.out.2] at hdep2
            have hgl := glue s t
            clear HDV
            go_wp2_with fail
            refine hdep2.mono ?_
            rintro e w6 ⟨⟨x0, cx, rfl, hrx⟩, hb6⟩
            have hbw6 := hbw5.trans (hb6.mono hbw5.size)
            have HX6 : Hid _ := And.intro hrx (And.intro (Row.below H2.out.1 hbw6) (IRow.below H2.out.2 hbw6))
            clear hdep2 hrx hb6 hbw5 hgl
            obtain ⟨n1, hn1⟩ : ∃ n1, l.length = n1 + 1 := ⟨l.length - 1, by omega⟩
            obtain ⟨y, hy⟩ : ∃ y, l[n1]? = some y := ⟨l[n1]'(by omega), List.getElem?_eq_getElem _⟩
            obtain ⟨v, hvv⟩ : ∃ v, D[n1]? = some v := ⟨D[n1]'(by omega), List.getElem?_eq_getElem _⟩
            obtain ⟨ga, oa, ea, c0, c1, c2, c3⟩ := HX6.out.2.1 n1 y hy
            obtain ⟨gb, ob, eb, cv⟩ := HX6.out.2.2 n1 v hvv
            subst ea
            subst eb
            have hlj := last_jump HV.out hn1.symm hy hvv
            have hln : (l.length : Int) - 1 = n1 := by omega
            have hlt1 : n1 < l.length := by omega
            have HLJ : Hid _ := hlj
            have HN1 : Hid _ := hn1
            clear hy hvv hlj hn1
            have hjoin : (y.op != 21) = false ∨ ((y.op != 21) = true ∧ v < 0) := by
              by_cases h : y.op = 21
              · exact Or.inl (by simp [h])
              · exact Or.inr ⟨by simpa using h, HLJ.out h⟩
            rcases hjoin with h21 | ⟨h21, hv0⟩
            all_goals
              go_wp2
              go_loopw [17] (fun b wr => ∃ (m : Nat), m ≤ l.length + P.length + 1 ∧ b = .int .i64 m ∧ Below w6.heap.size w6 wr) (fun b _ => l.length + P.length + 1 - (intOf b).toNat)
              case atStart => exact ⟨0, by omega, rfl, Below.refl _ _⟩
              case round =>
                obtain ⟨m, hm, rfl, hb⟩ := hrel
                clear c0 c1 c2 c3 cv hln h21
                by_cases hlt : m < l.length + P.length + 1
                · by_cases hin : m < l.length
                  · obtain ⟨z, hz⟩ : ∃ z, D[m]? = some z := ⟨D[m]'(by omega), List.getElem?_eq_getElem _⟩
                    obtain ⟨gb', ob', ea, cz⟩ := (IRow.below HX6.out.2.2 hb) m z hz
                    cases ea
                    obtain ⟨gx, ox, rfl, cx1⟩ := (IRow.below HX6.out.1 hb) m z (get_app hz)
                    have hd1 : decide (m < l.length) = true := decide_eq_true hin
                    have hd2 : decide (l.length ≤ m) = false := decide_eq_false (by omega)
                    clear hz
                    go_wp2_with fail
                    go_quiet (fail)
                    go_wp2
                    go_roundw
                    case rel => exact ⟨m + 1, by omega, by go_num, below_drewN hb _⟩
                    case measure => simp [intOf]; omega
                  · have hz : (D ++ List.replicate (P.length + 1) (-1))[m]? = some (-1) := by
                      rw [List.getElem?_append_right (by omega), List.getElem?_replicate, if_pos (by omega)]
                    obtain ⟨gx, ox, rfl, cx1⟩ := (IRow.below HX6.out.1 hb) m (-1) hz
                    have hd1 : decide (m < l.length) = false := decide_eq_false hin
                    have hd2 : decide (l.length ≤ m) = true := decide_eq_true (by omega)
                    clear hz
                    go_wp2_with fail
                    go_quiet (fail)
                    go_wp2
                    go_roundw
                    case rel => exact ⟨m + 1, by omega, by go_num, below_drewN hb _⟩
                    case measure => simp [intOf]; omega
                · obtain rfl : m = l.length + P.length + 1 := by omega
                  go_wp2_with fail
                  refine (awake_at wr).mono ?_
                  rintro e w7 ⟨rfl, hb7⟩
                  have hbw7 := hb.trans (hb7.mono hb.size)
                  have hbw8 := hbw6.trans (hbw7.mono hbw6.size)
                  go_wp2
                  go_ret
                  exact ⟨rfl, hbw2.trans (hbw8.mono hbw2.size)⟩
  · have hdep := depths_no hbad hs w
    go_enter Try.func5, Try.ntmps5
    go_wp2_with fail
    refine hdep.mono ?_
    rintro e w1 ⟨rfl, hb1⟩
    go_wp2_with fail
    refine (awake_at w1).mono ?_
    rintro e w2 ⟨rfl, hb2⟩
    go_wp2
    go_ret
    exact ⟨rfl, hb1.trans (hb2.mono hb1.size)⟩
theorem own : ownKnob Try.prog.godebug = none := by kernel_rfl
theorem laidOut : laidOutB Try.prog = true := by kernel_rfl

set_option maxRecDepth 100000 in
theorem dead_lifted (os : Os) (started : os.Started) (H : Type) (enc : TypeId × Value → H) :
    ReturnsInHanded {} Try.checked os 5 .any (Rows.validDeadSpec.pre6 enc Try.prog Try.f5 Rows.validDeadRow.domain false) (Rows.validDeadSpec.post enc Try.prog Try.f5 false true false false) := by
  refine returnsInHanded_of_change (C := Try.checked) own started (by kernel_rfl) Try.func5
    (ChangeSpec.witness6 (enc := enc) (C := Try.checked) false ⟨#[], #[.string ⟨#[]⟩, .slice none 0 0], []⟩ 8 (by kernel_rfl) (by kernel_rfl) (by kernel_rfl) (by kernel_rfl)) ?_
  intro W base args ds gs before hval0 hW hcnd _
  have hval : ∀ (j : Nat) t v, Try.f5.params[j]? = some t → args[j]? = some v → Value.okWide Try.prog W .any base t v := hval0
  have hW' := hW
  obtain ⟨p, q, hA0, hV, rfl, hfz, hnd⟩ := hW
  have hA : DataW.TrodAll enc Try.prog W 0 (fun _ => true) true Try.f5.params.toList args.toList ds p := hA0
  rw [Try.params5] at hA hval
  obtain ⟨v0, vs0, d0, ds0, p0, q0, hargs, rfl, rfl, h0, r0⟩ := trodAll_cons hA
  obtain ⟨v1, vs1, d1, ds1, p1, q1, rfl, rfl, rfl, h1, r1⟩ := trodAll_cons r0
  obtain ⟨rfl, rfl, rfl⟩ := trodAll_nil r1
  obtain rfl : args = #[v0, v1] := by cases args; simp_all
  obtain ⟨rfl, rfl⟩ := trodVars_none hV
  obtain ⟨s0, rfl, rfl, rfl, len0⟩ := Go.ChangeMaps.open_string Try.underlying9 (hval 0 9 v0 rfl rfl) h0
  have k1 := h1
  have lt1 : ∀ x ∈ p1, x.block < W.heap.size := by obtain ⟨m, hm⟩ := k1; exact DataW.trod_lt m _ _ _ hm
  obtain ⟨a1, len1, cap1, rfl⟩ := okWide_slice Try.underlying32 (hval 1 32 v1 rfl rfl)
  clear hA0 hval0
  obtain ⟨l, hlen, hrow, hfit, hl63⟩ : ∃ l : List Ins, l.length = len1 ∧ Row W a1 l ∧ (∀ i ∈ l, i.Fit) ∧ len1 ≤ 9223372036854775807 := by
    obtain ⟨fuel, hf⟩ := h1
    obtain ⟨hl, hc⟩ := slice_fits (l := [.i .i64, .i .u64, .i .i64, .i .i64]) Try.underlying32 insKinds (by simp) insSize (by simpa [Value.cells] using hf)
    obtain ⟨l, h1, h2, h3⟩ := ins_list hc
    exact ⟨l, h1, h2, h3, hl⟩
  subst hlen
  obtain ⟨s, rfl, hsl⟩ := text_of s0
  have hwalk : Calls Try.prog 5 #[tx s, .slice a1 l.length cap1] W fun e w' => e = .returned (.bool true) ∧ Below W.heap.size W w' := dead_walk s l a1 cap1 W (by unfold maxLen at len0; omega) hrow hfit hl63
  refine hwalk.mono fun e W' ⟨he, bel⟩ => ?_
  subst he
  exact ⟨_, rfl, _, _, _, [], _, [], hW', trodAll_mk1 (shut_bool Try.underlying4 _), (trodAll_cons_mk (Go.ChangeMaps.shut_string Try.underlying9 len0) (trodAll_cons_mk (Below.trod laidOut (by kernel_rfl) (of_decide_eq_true (by kernel_rfl)) k1 bel lt1) trodAll_mk0)), rfl, bel.frame _, fun h => by cases h⟩

theorem dead_holds : Rows.ValidDeadSaid :=
  OpenClaim.holds_of_wide 5 Try.f5 rfl rfl rfl rfl rfl rfl rfl ⟨rfl, rfl, rfl, rfl, rfl⟩ rfl rfl rfl rfl rfl (by kernel_rfl) Try.func5 (by kernel_rfl)
    (of_decide_eq_true (by kernel_rfl)) (by unfold Func.isWrapper; first | (rw [if_pos (by decide +kernel)]; kernel_rfl) | (rw [if_neg (by decide +kernel)]; exact ⟨rfl, rfl⟩))
    (fun os started H enc _ => dead_lifted os started H enc)
#print axioms dead_holds
end Go.Proofs.Yteipppdkbpfkaaa
