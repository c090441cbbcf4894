/- Proved: januslaw16.DirPaths answers true for every row of texts and every number (a path of directories, each in the one ahead, leads where they were made; slashes count for nothing), and its arguments read behind the call as before, at the commit of this claim; where the listed variables of package unicode/utf8 are laid as the program's text lays them (the card ties that; the call reads none of them). -/
import Derived.Test.YtcaofdbcgdgbbaaGreatDoorDtP
namespace Go.Proofs.YtcaofdbcgdgbbaaGreatDoor
open Go.ChangeShapes Go.WideShapes Go.ChangeAt Go.RowKit Go.Lib
set_option linter.unusedVariables false

set_option maxHeartbeats 8000000 in
set_option maxRecDepth 100000 in
theorem paths_walk (a0 : Option Addr) (len cap : Nat) (sl : Int) (w : World) (hlen : len ≤ 9223372036854775807) (hin : TxIn w a0 len) :
    Calls Tryz.prog 6 #[.slice a0 len cap, .int .i64 sl] w fun e w' => e = .returned (.bool true) ∧ Below w.heap.size w w' := by
  have HI : Hid (TxIn w a0 len) := hin
  have hP := on_pair 40 w (by omega) (by omega)
  clear hin
  go_enter Tryz.func6, Tryz.ntmps6
  go_wp2_with fail
  refine hP.mono ?_
  rintro e w1 ⟨B, bx, rfl, G, hO⟩
  have H1 : Hid (OnAt w w1 B G (F0 40) 2000 ∧ PwAt (F0 40) []) := ⟨hO, pw0⟩
  clear hP hO
  go_wp2
  go_loopw [8, 9, 10, 11, 12] (fun s8 s9 s10 s11 s12 wr => ∃ (k : Nat) (L : List (List UInt8 × Bool)) (P : List UInt8) (F : FS) (u11 u12 : Value), s8 = .int .i64 (L.length : Int) ∧ s9 = tx P ∧ s10 = .int .i64 k ∧ u11 = s11 ∧ u12 = s12 ∧ k ≤ len ∧ k ≤ 4 ∧ L.length ≤ k ∧ Hid (P = pathP L) ∧ Hid (OnAt w wr B G F (2000 + 10000 * k) ∧ PwAt F L)) (fun _ _ s10 _ _ _ => 4 - (RowKit.intOf s10).toNat)
  case atStart => exact ⟨0, [], [], _, _, _, rfl, rfl, rfl, rfl, rfl, by omega, by omega, by simp, rfl, H1⟩
  case round =>
    obtain ⟨k, L, P, F, u11, u12, rfl, rfl, rfl, rfl, rfl, hkl, hk4, hLk, HP, HS⟩ := hrel
    clear H1
    by_cases hlt : k < len ∧ k < 4
    · obtain ⟨hl1, hl2⟩ := hlt
      have g0 : decide ((k : Int) < (len : Int)) = true := decide_eq_true (by omega)
      have g1 : decide ((k : Int) < 4) = true := decide_eq_true (by omega)
      have g0' : (k : Int) < (len : Int) := by omega
      have g1' : (k : Int) < 4 := by omega
      obtain ⟨gb, off, t, rfl, ct, htl⟩ := HI.out.below HS.out.1.old k hl1
      have hN := rname_at t htl wr
      cases hn : isName t with
      | false =>
        rw [hn] at hN
        have HS2 : Hid (OnAt w wr B G F (2000 + 10000 * (k + 1)) ∧ PwAt F L) := ⟨HS.out.1.mono (by omega), HS.out.2⟩
        clear hn HS
        go_wp2_with fail
        refine hN.mono ?_
        rintro x w2 ⟨rfl, hw⟩
        rw [hw]
        clear hw w2 hN
        go_wp2
        go_roundw
        case rel => exact ⟨k + 1, L, P, F, _, _, rfl, rfl, by go_num, rfl, rfl, by omega, by omega, by omega, HP, HS2⟩
        case measure => simp [RowKit.intOf]; omega
      | true =>
        rw [hn] at hN
        have ht8 : t.length ≤ 8 := (ent_ok (k := 0) hn (by omega)).max
        have hPl : P.length ≤ 40 := by
          have := path_len HS.out.2.name
          rw [← HP.out] at this
          omega
        obtain ⟨P1, hP1⟩ : ∃ P1, P1 = P ++ [47] := ⟨_, rfl⟩
        have gl1 : ByteArray.mk P.toArray ++ ByteArray.mk #[47] = ByteArray.mk P1.toArray := by rw [hP1]; exact text_glue P [47]
        have hP1l : P1.length ≤ 41 := by rw [hP1]; simp; omega
        have HP1 : Hid (P1 = P ++ [47]) := hP1
        have no1 : ¬ 9223372036854775807 < P.length + 1 := by omega
        have hAl := on_alloc HS.out.1 (by omega) 2 ⟨by omega, by omega⟩
        have HSt : Hid (∀ two : Bool, alI F = ((L.length + 1 : Nat) : Int) ∧ alR F = 0 ∧ adR (alF F 2) (L.length : Int) t ((L.length + 1 : Nat) : Int) = 0 ∧ PwAt (adF (alF F 2) (L.length : Int) t ((L.length + 1 : Nat) : Int)) (L ++ [(t, two)])) := fun two => HS.out.2.step HS.out.1.fs.inv HS.out.1.dir (by omega) hn two
        rw [(HSt.out true).1, (HSt.out true).2.1] at hAl
        obtain ⟨n1, hn1⟩ : ∃ n1 : Nat, n1 = L.length + 1 := ⟨_, rfl⟩
        rw [← hn1] at hAl
        have HN1 : Hid (n1 = L.length + 1) := hn1
        have HB0 : Hid (Below w.heap.size w wr) := HS.out.1.old
        clear hn hP1 hn1 HS
        go_wp2_with fail
        refine hN.mono ?_
        rintro x w2 ⟨rfl, hw⟩
        rw [hw]
        clear hw w2 hN
        go_wp2_with fail
        refine hAl.mono ?_
        rintro x w2 ⟨rfl, hO2, -⟩
        have hAd := on_add hO2 (by omega) (L.length : Int) t htl (n1 : Int)
        have HAd : Hid (adR (alF F 2) (L.length : Int) t (n1 : Int) = 0 ∧ ∀ two : Bool, PwAt (adF (alF F 2) (L.length : Int) t (n1 : Int)) (L ++ [(t, two)])) := by
          rw [HN1.out]
          exact ⟨(HSt.out true).2.2.1, fun two => (HSt.out two).2.2.2⟩
        rw [HAd.out.1] at hAd
        have ct2 : w2.cell? ⟨gb, off + k, none⟩ = some (tx t) := by
          obtain ⟨gb', off', t', e, c, _⟩ := HI.out.below hO2.old k hl1
          have hlo : gb < w.heap.size := by
            obtain ⟨gb2, off2, t2, e2, c2, _⟩ := HI.out k hl1
            cases e2
            exact cell_lt c2
          have a1 : w2.cell? ⟨gb, off + k, none⟩ = w.cell? ⟨gb, off + k, none⟩ := hO2.old.cell (p := ⟨gb, off + k, none⟩) hlo
          have a2 : wr.cell? ⟨gb, off + k, none⟩ = w.cell? ⟨gb, off + k, none⟩ := HB0.out.cell (p := ⟨gb, off + k, none⟩) hlo
          rw [a1, ← a2]
          exact ct
        clear hAl hO2 HSt
        generalize adF (alF F 2) (L.length : Int) t (n1 : Int) = F2 at *
        generalize alF F 2 = F1 at *
        go_wp2_with fail
        refine hAd.mono ?_
        rintro x w3 ⟨rfl, hO3, -⟩
        have HO3 : Hid (OnAt w w3 B G F2 (2000 + 10000 * (k + 1))) := hO3.mono (by omega)
        have ct3 : w3.cell? ⟨gb, off + k, none⟩ = some (tx t) := by
          have hlo : gb < w.heap.size := by
            obtain ⟨gb2, off2, t2, e2, c2, _⟩ := HI.out k hl1
            cases e2
            exact cell_lt c2
          have a1 : w3.cell? ⟨gb, off + k, none⟩ = w.cell? ⟨gb, off + k, none⟩ := hO3.old.cell (p := ⟨gb, off + k, none⟩) hlo
          have a2 : wr.cell? ⟨gb, off + k, none⟩ = w.cell? ⟨gb, off + k, none⟩ := HB0.out.cell (p := ⟨gb, off + k, none⟩) hlo
          rw [a1, ← a2]
          exact ct
        clear hAd hO3 ct ct2
        have hcs : ¬ 0 < sl ∨ (0 < sl ∧ (sl % 3 == (k : Int) % 3) = true) ∨ (0 < sl ∧ (sl % 3 == (k : Int) % 3) = false) := by
          by_cases q : 0 < sl
          · cases h : (sl % 3 == (k : Int) % 3)
            · exact Or.inr (Or.inr ⟨q, rfl⟩)
            · exact Or.inr (Or.inl ⟨q, rfl⟩)
          · exact Or.inl q
        rcases hcs with q | ⟨q, qm⟩ | ⟨q, qm⟩
        · obtain ⟨P3, hP3⟩ : ∃ P3, P3 = P1 ++ t := ⟨_, rfl⟩
          have gl3 : ByteArray.mk P1.toArray ++ ByteArray.mk t.toArray = ByteArray.mk P3.toArray := by rw [hP3]; exact text_glue P1 t
          have no3 : ¬ 9223372036854775807 < P1.length + t.length := by omega
          have HP3 : Hid (P3 = pathP (L ++ [(t, false)])) := by
            show _ = _
            rw [hP3, HP1.out, HP.out, path_snoc]
            simp
          have HPw : Hid (OnAt w w3 B G F2 (2000 + 10000 * (k + 1)) ∧ PwAt F2 (L ++ [(t, false)])) := ⟨HO3.out, HAd.out.2 false⟩
          have hln : ((L ++ [(t, false)]).length : Int) = (n1 : Int) := by rw [HN1.out]; simp
          have hln2 : (L ++ [(t, false)]).length ≤ k + 1 := by simp; omega
          clear hP3 HO3 HAd HP HP1 HN1
          generalize L ++ [(t, false)] = L2 at *
          go_wp2
          go_roundw
          case rel => exact ⟨k + 1, L2, P3, F2, _, _, by rw [hln], rfl, by go_num, rfl, rfl, by omega, by omega, hln2, HP3, HPw⟩
          case measure => simp [RowKit.intOf]; omega
        · obtain ⟨P2, hP2⟩ : ∃ P2, P2 = P1 ++ [47] := ⟨_, rfl⟩
          have gl2 : ByteArray.mk P1.toArray ++ ByteArray.mk #[47] = ByteArray.mk P2.toArray := by rw [hP2]; exact text_glue P1 [47]
          have no2 : ¬ 9223372036854775807 < P1.length + 1 := by omega
          have hP2l : P2.length ≤ 42 := by rw [hP2]; simp; omega
          obtain ⟨P3, hP3⟩ : ∃ P3, P3 = P2 ++ t := ⟨_, rfl⟩
          have gl3 : ByteArray.mk P2.toArray ++ ByteArray.mk t.toArray = ByteArray.mk P3.toArray := by rw [hP3]; exact text_glue P2 t
          have no3 : ¬ 9223372036854775807 < P2.length + t.length := by omega
          have HP3 : Hid (P3 = pathP (L ++ [(t, true)])) := by
            show _ = _
            rw [hP3, hP2, HP1.out, HP.out, path_snoc]
            simp
          have HPw : Hid (OnAt w w3 B G F2 (2000 + 10000 * (k + 1)) ∧ PwAt F2 (L ++ [(t, true)])) := ⟨HO3.out, HAd.out.2 true⟩
          have hln : ((L ++ [(t, true)]).length : Int) = (n1 : Int) := by rw [HN1.out]; simp
          have hln2 : (L ++ [(t, true)]).length ≤ k + 1 := by simp; omega
          clear hP3 hP2 HO3 HAd HP HP1 HN1
          generalize L ++ [(t, true)] = L2 at *
          go_wp2
          go_roundw
          case rel => exact ⟨k + 1, L2, P3, F2, _, _, by rw [hln], rfl, by go_num, rfl, rfl, by omega, by omega, hln2, HP3, HPw⟩
          case measure => simp [RowKit.intOf]; omega
        · obtain ⟨P3, hP3⟩ : ∃ P3, P3 = P1 ++ t := ⟨_, rfl⟩
          have gl3 : ByteArray.mk P1.toArray ++ ByteArray.mk t.toArray = ByteArray.mk P3.toArray := by rw [hP3]; exact text_glue P1 t
          have no3 : ¬ 9223372036854775807 < P1.length + t.length := by omega
          have HP3 : Hid (P3 = pathP (L ++ [(t, false)])) := by
            show _ = _
            rw [hP3, HP1.out, HP.out, path_snoc]
            simp
          have HPw : Hid (OnAt w w3 B G F2 (2000 + 10000 * (k + 1)) ∧ PwAt F2 (L ++ [(t, false)])) := ⟨HO3.out, HAd.out.2 false⟩
          have hln : ((L ++ [(t, false)]).length : Int) = (n1 : Int) := by rw [HN1.out]; simp
          have hln2 : (L ++ [(t, false)]).length ≤ k + 1 := by simp; omega
          clear hP3 HO3 HAd HP HP1 HN1
          generalize L ++ [(t, false)] = L2 at *
          go_wp2
          go_roundw
          case rel => exact ⟨k + 1, L2, P3, F2, _, _, by rw [hln], rfl, by go_num, rfl, rfl, by omega, by omega, hln2, HP3, HPw⟩
          case measure => simp [RowKit.intOf]; omega
    · have hend : (k < len ∧ ¬ k < 4) ∨ ¬ k < len := by omega
      have hAw := awake_at wr
      have HB : Hid (Below w.heap.size w wr) := HS.out.1.old
      clear hlt
      by_cases hrun : P = [] ∨ 32 < P.length
      · have hcase : (P = []) ∨ (P ≠ [] ∧ 32 < P.length) := by
          by_cases q : P = []
          · exact Or.inl q
          · exact Or.inr ⟨q, by rcases hrun with z | z; exact absurd z q; exact z⟩
        clear hrun HP HS
        rcases hend with ⟨g0, g1⟩ | g0
        all_goals
          rcases hcase with rfl | ⟨q1, q2⟩
          · go_wp2_with fail
            refine hAw.mono ?_
            rintro x w2 ⟨rfl, hb2⟩
            have HB2 : Hid (Below w.heap.size w w2) := HB.out.trans (hb2.mono HB.out.size)
            clear hAw hb2
            go_wp2
            go_ret
            exact ⟨rfl, HB2.out⟩
          · have hE : P.isEmpty = false := by simpa using q1
            have g32 : (32 : Int) < (P.length : Int) := by omega
            have hs := text_same P
            go_wp2_with fail
            refine hAw.mono ?_
            rintro x w2 ⟨rfl, hb2⟩
            have HB2 : Hid (Below w.heap.size w w2) := HB.out.trans (hb2.mono HB.out.size)
            clear hAw hb2
            go_wp2
            go_ret
            exact ⟨rfl, HB2.out⟩
      · have q1 : P ≠ [] := fun e => hrun (Or.inl e)
        have q2 : ¬ 32 < P.length := fun e => hrun (Or.inr e)
        have hE : P.isEmpty = false := by simpa using q1
        have g32 : ¬ (32 : Int) < (P.length : Int) := by omega
        have hs := text_same P
        have hWk := on_walk HS.out.1 (by omega) P (by omega)
        have hwr : walkR F P = ((L.length : Int), 0) := by
          rw [HP.out]
          exact HS.out.2.walk (by omega) (fun e => q1 (by rw [HP.out, e]; rfl)) (by rw [← HP.out]; omega)
        rw [hwr] at hWk
        clear hrun HP HS hwr hAw
        rcases hend with ⟨g0, g1⟩ | g0
        all_goals
          go_wp2_with fail
          refine hWk.mono ?_
          rintro x w2 ⟨rfl, hO2, -⟩
          have HB2 : Hid (Below w.heap.size w w2) := hO2.old
          have hAw := awake_at w2
          clear hWk hO2
          go_wp2_with fail
          refine hAw.mono ?_
          rintro x w3 ⟨rfl, hb3⟩
          have HB3 : Hid (Below w.heap.size w w3) := HB2.out.trans (hb3.mono HB2.out.size)
          clear hAw hb3
          go_wp2
          go_ret
          exact ⟨rfl, HB3.out⟩
set_option maxRecDepth 100000 in
theorem paths_lifted (os : Os) (started : os.Started) (H : Type) (enc : TypeId × Value → H) :
    ReturnsInHanded {} Tryz.checked os 6 .any (fun w args => (Rows.dirPathsSpec.pre enc Tryz.prog Tryz.f6 Rows.dirPathsRow.domain false w args ∧ laidMetH Tryz.prog Rows.dirPathsRow.laid w) ∧ sizedMet enc Tryz.prog Tryz.f6 (OpenSpec.ofChange Rows.dirPathsSpec) false w args) (Rows.dirPathsSpec.post enc Tryz.prog Tryz.f6 false true false false) := by
  refine returnsInHanded_of_change_and (C := Tryz.checked) (X := fun w _ => laidMetH Tryz.prog Rows.dirPathsRow.laid w) (fun _ _ _ hh h => h.of_heap hh) own started (by kernel_rfl) Tryz.func6
    (ChangeSpec.witness_shaped (enc := enc) (C := Tryz.checked) (os := os) (X := fun w _ => laidMetH Tryz.prog Rows.dirPathsRow.laid w) false (World.laidAll Tryz.prog os Rows.dirPathsRow.laid) #[.slice none 0 0, .int .i64 0] 8 (World.laidAll_os _ _ _)
      (World.shaped_of_ZipB (by kernel_rfl) (by kernel_rfl)) (by kernel_rfl) (by kernel_rfl) (by kernel_rfl)
      (by rw [MakeChecks.laidMetH_plain _ _ _ (by kernel_rfl)]; exact laidMet_laidAll _ (by kernel_rfl) (by kernel_rfl))) ?_
  intro W base args ds gs before hval0 hW hcnd hsz hL _
  have hval : ∀ (j : Nat) t v, Tryz.f6.params[j]? = some t → args[j]? = some v → Value.okWide Tryz.prog W .any base t v := hval0
  have hW' := hW
  obtain ⟨p, q, hA0, hV, rfl, hfz, hnd⟩ := hW
  have hA : DataW.TrodAll enc Tryz.prog W 0 (fun _ => true) true Tryz.f6.params.toList args.toList ds p := hA0
  rw [Tryz.params6] at hA hval
  obtain ⟨v0, vs0, d0, ds0, p0, q0, hargs, rfl, rfl, h0, r0⟩ := trodAll_cons hA
  obtain ⟨v1, vs1, d1, ds1, p1, q1, rfl, rfl, rfl, h1, r1⟩ := trodAll_cons r0
  obtain ⟨rfl, rfl, rfl⟩ := trodAll_nil r1
  obtain rfl : args = #[v0, v1] := by cases args; simp_all
  obtain ⟨rfl, rfl⟩ := trodVars_none hV
  have k0 := h0
  have lt0 : ∀ x ∈ p0, x.block < W.heap.size := by obtain ⟨m, hm⟩ := k0; exact DataW.trod_lt m _ _ _ hm
  obtain ⟨a0, len0, cap0, rfl⟩ := okWide_slice Tryz.underlying22 (hval 0 22 v0 rfl rfl)
  obtain ⟨a1, rfl, rfl, rfl, w1⟩ := open_int Tryz.underlying3 (hval 1 3 v1 rfl rfl) h1
  clear hA0 hval0
  have hin : len0 ≤ 9223372036854775807 ∧ TxIn W a0 len0 := by
    obtain ⟨fuel, hf⟩ := h0
    exact texts_in (by simpa [Value.cells] using hf)
  have hwalk : Calls Tryz.prog 6 #[.slice a0 len0 cap0, .int .i64 a1] W fun e w' => e = .returned (.bool true) ∧ Below W.heap.size W w' := paths_walk a0 len0 cap0 a1 W hin.1 hin.2
  refine hwalk.mono fun e W' ⟨he, bel⟩ => ?_
  subst he
  exact ⟨_, rfl, _, _, _, [], _, [], hW', trodAll_mk1 (shut_bool Tryz.underlying4 _), (trodAll_cons_mk (Below.trod laidOut (by kernel_rfl) (of_decide_eq_true (by kernel_rfl)) k0 bel lt0) (trodAll_cons_mk (shut_int Tryz.underlying3 w1) trodAll_mk0)), rfl, bel.frame _, fun h => by cases h⟩

theorem paths_said : Rows.DirPathsSaid :=
  OpenClaim.holds_of_wide 6 Tryz.f6 rfl rfl rfl rfl rfl rfl rfl ⟨rfl, rfl, rfl, rfl, rfl⟩ rfl rfl rfl rfl rfl (by kernel_rfl) Tryz.func6 (by kernel_rfl)
    (of_decide_eq_true (by kernel_rfl)) (by unfold Func.isWrapper; first | (rw [if_pos (by decide +kernel)]; kernel_rfl) | (rw [if_neg (by decide +kernel)]; exact ⟨rfl, rfl⟩))
    (fun os started H enc _ => paths_lifted os started H enc)
theorem paths_holds : Rows.DirPathsCardSaid :=
  Claim7.holds_tied_plain_at .later [] _ _ _ _ paths_said (fun _ h => by cases h) (by kernel_rfl) (fun _ h => by cases h) dirPaths_row_tie rfl ⟨rfl, rfl⟩ (by kernel_rfl) rfl
    (ask_card 6 "janus/januslaw16.DirPaths" Tryz.f6 [22, 3] (by kernel_rfl) Tryz.func6 (by rw [Tryz.params6]) (by kernel_rfl)) (by kernel_rfl)
#print axioms paths_holds
end Go.Proofs.YtcaofdbcgdgbbaaGreatDoor
