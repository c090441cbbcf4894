/- Proved: januslaw14.BitmapTakes answers true for every number of bits and every list of used ones (Take tells each that is not used once, lowest first, and then -1), at the commit of this claim; no condition beyond the row's own. -/
import Derived.Test.YtahcbehbpadjaaaBitW
import Derived.Test.YtahcbehbpadjaaaBitL
import Derived.Lib.MinMax
namespace Go.Proofs.Ytahcbehbpadjaaa
open Go.ChangeShapes Go.WideShapes Go.ChangeAt Go.RowKit Go.Lib
set_option linter.unusedVariables false

/-- What the law keeps: the bitmap, and its own list of what is free. -/
structure TkAt (w wr : World) (b g c N : Nat) (ws : List Nat) (L : List Bool) : Prop where
  bm : BmAt wr b g N ws
  bl : BlAt wr c L
  len : L.length = N
  old : Below w.heap.size w wr
  hg : w.heap.size ≤ g
  hc : w.heap.size ≤ c
  hne : c ≠ g
  hnb : c ≠ b
theorem TkAt.drop {w wr : World} {b g c N : Nat} {ws : List Nat} {L : List Bool} (h : TkAt w wr b g c N ws L) (i : Nat) (v : Bool) : TkAt w (wr.setCell ⟨c, i, none⟩ (.bool v)) b g c N ws (L.set i v) :=
  ⟨h.bm.keep (Below.heap_setCell _ _ _ _ (Ne.symm h.hnb)) (Below.heap_setCell _ _ _ _ (Ne.symm h.hne)), h.bl.set i v, by rw [List.length_set]; exact h.len, upd_below h.old (Upd.setCell c i wr _) h.hc h.old.size, h.hg, h.hc, h.hne, h.hnb⟩
theorem TkAt.step {w wr w' : World} {b g c N : Nat} {ws us : List Nat} {L : List Bool} (h : TkAt w wr b g c N ws L) (hb : BmAt w' b g N us) (hu : Upd g wr w') : TkAt w w' b g c N us L :=
  ⟨hb, h.bl.upd hu h.hne, h.len, upd_below h.old hu h.hg h.old.size, h.hg, h.hc, h.hne, h.hnb⟩

set_option maxHeartbeats 4000000 in
set_option maxRecDepth 100000 in
theorem takes_walk (n : Int) (a0 : Option Addr) (len cap : Nat) (w : World) (hlen : len ≤ 9223372036854775807) (hints : IntsAt w a0 len) :
    Calls Try.prog 5 #[.int .i64 n, .slice a0 len cap] w fun e w' => e = .returned (.bool true) ∧ Below w.heap.size w w' := by
  obtain ⟨N, hN, hN1, hN2⟩ : ∃ N : Nat, max 1 (min n 1024) = (N : Int) ∧ 1 ≤ N ∧ N ≤ 1024 := ⟨(max 1 (min n 1024)).toNat, by omega, by omega, by omega⟩
  have HI : Hid (IntsAt w a0 len) := hints
  clear hints
  have hmk := fun w => make_bools N hN2 w
  go_enter Try.func5, Try.ntmps5
  go_wp2_with fail
  refine (new_at N w hN1 hN2).mono ?_
  rintro e w1 ⟨rfl, hE, hB, hsz⟩
  obtain ⟨b, hbq⟩ : ∃ b, b = w.heap.size + 1 := ⟨_, rfl⟩
  obtain ⟨g, hgq⟩ : ∃ g, g = w.heap.size := ⟨_, rfl⟩
  obtain ⟨c, hcq⟩ : ∃ c, c = w1.heap.size := ⟨_, rfl⟩
  obtain ⟨W, hW⟩ : ∃ W, W = w1.alloc (.cells (brow (List.replicate N false)) 4) := ⟨_, rfl⟩
  have hb1 : Below w1.heap.size w1 W := by rw [hW]; exact below_alloc _ _
  obtain ⟨L0, hL0⟩ : ∃ L, L = List.replicate N false := ⟨_, rfl⟩
  obtain ⟨Z, hZ⟩ : ∃ Z, Z = List.replicate ((N + 63) / 64) 0 := ⟨_, rfl⟩
  have HT : Hid (TkAt w W b g c N Z L0) := by
    refine ⟨?_, ⟨?_⟩, by rw [hL0]; simp, hB.trans (hb1.mono hB.size), by omega, by omega, by omega, by omega⟩
    · rw [hbq, hgq, hZ]; exact hE.below hb1
    · rw [hW, hcq, hL0]; exact heap_alloc_new _ _
  have HZ : Hid (∀ i, bt Z i = false) := by rw [hZ]; exact fun i => bt_zero _ i
  rw [← hbq]
  have hne := ptr_eq b
  have HW : Hid _ := hW
  have HC : Hid _ := hcq
  clear hE hB hsz hbq hgq hb1 hW hcq hL0 hZ
  go_wp2_with fail
  rw [← HW.out, ← HC.out]
  clear HW HC hmk
  go_loopw [7] (fun s wr => ∃ (k : Nat) (L : List Bool), k ≤ N ∧ s = .int .i64 k ∧ TkAt w wr b g c N Z L ∧ ∀ j, j < k → L.getD j false = true) (fun s _ => N - (intOf s).toNat)
  case atStart => exact ⟨0, _, by omega, rfl, HT.out, fun j hj => by omega⟩
  case round =>
    clear HT
    obtain ⟨k, L, hk, rfl, hT, hA⟩ := hrel
    have HT : Hid (TkAt w wr b g c N Z L) := hT
    have HA : Hid _ := hA
    clear hA
    by_cases hlt : k < N
    · have f1 := hT.bl.free k
      have hki : (k : Int) < (N : Int) := by omega
      have c1 := hT.bl.cell (i := k) (by rw [hT.len]; exact hlt)
      generalize hq : L.getD k false = q at *
      clear hT hq
      go_wp2
      go_roundw
      case rel =>
        refine ⟨k + 1, _, by omega, by go_num, HT.out.drop k true, fun j hj => ?_⟩
        rw [bgetD_set _ _ _ _ (by rw [HT.out.len]; exact hlt)]
        by_cases e : j = k
        · rw [if_pos e]
        · rw [if_neg e]
          exact HA.out j (by omega)
      case measure => simp [intOf]; omega
    · have hki : decide ((k : Int) < (N : Int)) = false := decide_eq_false (by omega)
      have HF : Hid (∀ j, j < N → L.getD j false = !bt Z j) := fun j hj => by rw [HZ.out j]; exact HA.out j (by omega)
      clear hT HA HZ
      go_wp2
      go_loopw [8] (fun s wr => ∃ (k : Nat) (ws : List Nat) (L : List Bool), k ≤ len ∧ k ≤ 200 ∧ s = .int .i64 k ∧ TkAt w wr b g c N ws L ∧ ∀ j, j < N → L.getD j false = !bt ws j) (fun s _ => 200 - (intOf s).toNat)
      case atStart => exact ⟨0, _, _, by omega, by omega, rfl, HT.out, HF.out⟩
      case round =>
        clear HT HF hki hk hlt
        obtain ⟨k, ws, L, hkl, hk2, rfl, hT, hA⟩ := hrel
        have HT : Hid (TkAt w wr b g c N ws L) := hT
        have HA : Hid _ := hA
        clear hA
        by_cases hlt : k < len ∧ k < 200
        · obtain ⟨hl1, hl2⟩ := hlt
          have g0 : decide ((k : Int) < (len : Int)) = true := decide_eq_true (by omega)
          have g1 : decide ((k : Int) < 200) = true := decide_eq_true (by omega)
          obtain ⟨gb, off, x, rfl, cx⟩ := HI.out.below hT.old k hl1
          cases hx : inB x N with
          | false =>
            have hM := mark_no b g N ws x true wr hT.bm hx
            clear hT hx
            go_wp2_with fail
            refine hM.mono ?_
            rintro e w2 ⟨rfl, hw⟩
            rw [hw]
            clear hw w2 hM
            go_wp2
            go_roundw
            case rel => exact ⟨k + 1, ws, L, by omega, by omega, by go_num, HT.out, HA.out⟩
            case measure => simp [intOf]; omega
          | true =>
            obtain ⟨i, rfl, hi⟩ := inB_of hx
            have hM := mark_yes b g N ws i true wr hT.bm hi
            clear hT hx
            go_wp2_with fail
            refine hM.mono ?_
            rintro e w2 ⟨rfl, hB, hU⟩
            have HT2 : Hid (TkAt w w2 b g c N (mkW ws i true) L) := HT.out.step hB hU
            obtain ⟨gb', off', x', e', cx2⟩ := HI.out.below HT2.out.old k hl1
            have cx2 : w2.cell? ⟨gb, off + k, none⟩ = some (.int .i64 (i : Int)) := by
              have hne2 : gb ≠ g := by
                intro e
                subst e
                have h1 := cell_of_heap (i := off + k) HT.out.bm.row
                rw [cx] at h1
                by_cases hz : off + k < ws.length
                · rw [nrow_get ws _ hz] at h1
                  simp at h1
                · rw [Array.getElem?_eq_none (by rw [nrow_size]; omega)] at h1
                  cases h1
              rw [World.cell?_of_block (w := wr) (a := ⟨gb, off + k, none⟩) (hU.block gb (cell_lt cx) hne2)]
              exact cx
            have f1 := HT2.out.bl.free i
            have c1 := HT2.out.bl.cell (i := i) (by rw [HT2.out.len]; exact hi)
            generalize hq : L.getD i false = q at *
            have hlt2 : i / 64 < ws.length := HT.out.bm.wf.at hi
            have g2 : decide ((i : Int) < 0) = false := decide_eq_false (by omega)
            have g3 : decide ((N : Int) ≤ (i : Int)) = false := decide_eq_false (by omega)
            have hiN : (i : Int) < (N : Int) := by omega
            clear hB hU hM cx hq e'
            go_wp2
            go_roundw
            case rel =>
              refine ⟨k + 1, _, _, by omega, by omega, by go_num, HT2.out.drop i false, fun j hj => ?_⟩
              rw [bgetD_set _ _ _ _ (by rw [HT2.out.len]; exact hi), bt_mkW _ _ _ _ hlt2]
              by_cases e : j = i
              · rw [if_pos e, if_pos e]; rfl
              · rw [if_neg e, if_neg e]
                exact HA.out j hj
            case measure => simp [intOf]; omega
        · have hend : k < len ∧ 200 ≤ k ∨ len ≤ k := by omega
          clear hT hlt
          have hgo : (decide ((k : Int) < (len : Int)) = true ∧ decide ((k : Int) < 200) = false ∧ k < len ∧ 200 ≤ k) ∨ (decide ((k : Int) < (len : Int)) = false ∧ len ≤ k) := by
            rcases hend with ⟨he1, he2⟩ | he1
            · exact Or.inl ⟨decide_eq_true (by omega), decide_eq_false (by omega), he1, he2⟩
            · exact Or.inr ⟨decide_eq_false (by omega), he1⟩
          have HF : Hid (∀ j, 0 ≤ j → j < N → L.getD j false = !bt ws j) := fun j _ hj => HA.out j hj
          clear HA hend HI
          rcases hgo with ⟨g0, g1, he1, he2⟩ | ⟨g0, he1⟩
          all_goals
            go_wp2
            go_loopw [9] (fun s wr => ∃ (k : Nat) (ws : List Nat), k ≤ N ∧ s = .int .i64 k ∧ TkAt w wr b g c N ws L ∧ (∀ j, j < k → bt ws j = true) ∧ ∀ j, k ≤ j → j < N → L.getD j false = !bt ws j) (fun s _ => N - (intOf s).toNat)
            case atStart => exact ⟨0, ws, by omega, rfl, HT.out, fun j hj => by omega, HF.out⟩
            case round =>
              clear HT HF
              obtain ⟨m, us, hm, rfl, hT, hA, hF⟩ := hrel
              have HT : Hid (TkAt w wr b g c N us L) := hT
              have HA : Hid _ := hA
              have HF : Hid _ := hF
              clear hA hF
              by_cases hlt : m < N
              · have hmi : (m : Int) < (N : Int) := by omega
                have gm : decide ((m : Int) < (N : Int)) = true := decide_eq_true hmi
                have c1 := hT.bl.cell (i := m) (by rw [hT.len]; exact hlt)
                cases hB : bt us m with
                | true =>
                  rw [HF.out m (Nat.le_refl _) hlt, hB] at c1
                  have HB : Hid (bt us m = true) := hB
                  clear hT hB
                  go_wp2
                  go_roundw
                  case rel =>
                    refine ⟨m + 1, us, by omega, by go_num, HT.out, fun j hj => ?_, fun j h1 h2 => HF.out j (by omega) h2⟩
                    by_cases e : j = m
                    · rw [e]; exact HB.out
                    · exact HA.out j (by omega)
                  case measure => simp [intOf]; omega
                | false =>
                  rw [HF.out m (Nat.le_refl _) hlt, hB] at c1
                  have hK := take_at b g N us m wr hT.bm (Or.inl ⟨m, rfl, hlt, HA.out, hB⟩)
                  have hlt2 : m / 64 < us.length := hT.bm.wf.at hlt
                  have HW : Hid (takeW us m = mkW us m true) := by show _ = _; simp [takeW]
                  clear hT hB
                  go_wp2_with fail
                  refine hK.mono ?_
                  rintro e w2 ⟨rfl, hB, hU⟩
                  have HT2 : Hid (TkAt w w2 b g c N (takeW us m) L) := HT.out.step hB hU
                  clear hK hB hU
                  go_wp2
                  go_roundw
                  case rel =>
                    refine ⟨m + 1, _, by omega, by go_num, HT2.out, fun j hj => ?_, fun j h1 h2 => ?_⟩
                    · rw [HW.out, bt_mkW _ _ _ _ hlt2]
                      by_cases e : j = m
                      · rw [if_pos e]
                      · rw [if_neg e]
                        exact HA.out j (by omega)
                    · rw [HW.out, bt_mkW _ _ _ _ hlt2, if_neg (by omega)]
                      exact HF.out j (by omega) h2
                  case measure => simp [intOf]; omega
              · have gm : decide ((m : Int) < (N : Int)) = false := decide_eq_false (by omega)
                have hAll : ∀ j, j < N → bt us j = true := fun j hj => HA.out j (by omega)
                have hK := take_at b g N us (-1) wr hT.bm (Or.inr ⟨rfl, hAll⟩)
                have hW : takeW us (-1) = us := by simp [takeW]
                rw [hW] at hK
                have HC : Hid (cntF (bt us) N = 0) := cntF_none N hAll
                clear hT hAll hW HF HA
                go_wp2_with fail
                refine hK.mono ?_
                rintro e w2 ⟨rfl, hB, hU⟩
                have HT2 : Hid (TkAt w w2 b g c N us L) := HT.out.step hB hU
                have hLf := left_at b g N us w2 hB
                rw [HC.out] at hLf
                clear hK hB hU HC
                go_wp2_with fail
                refine hLf.mono ?_
                rintro e w3 ⟨rfl, hq⟩
                have HO : Hid (Below w.heap.size w w3) := HT2.out.old.trans ((drewN_below hq).mono HT2.out.old.size)
                clear hLf hq
                go_wp2_with fail
                refine (awake_at _).mono ?_
                rintro e w4 ⟨rfl, hb4⟩
                go_wp2
                go_ret
                exact ⟨rfl, HO.out.trans (hb4.mono HO.out.size)⟩

theorem own : ownKnob Try.prog.godebug = none := by kernel_rfl
theorem laidOut : laidOutB Try.prog = true := by kernel_rfl

set_option maxRecDepth 100000 in
theorem takes_lifted (os : Os) (started : os.Started) (H : Type) (enc : TypeId × Value → H) :
    ReturnsInHanded {} Try.checked os 5 .any (Rows.bitmapTakesSpec.pre6 enc Try.prog Try.f5 Rows.bitmapTakesRow.domain false) (Rows.bitmapTakesSpec.post enc Try.prog Try.f5 false true false false) := by
  refine returnsInHanded_of_change (C := Try.checked) own started (by kernel_rfl) Try.func5
    (ChangeSpec.witness6 (enc := enc) (C := Try.checked) false ⟨#[], #[.int .i64 0, .slice none 0 0], []⟩ 8 (by kernel_rfl) (by kernel_rfl) (by kernel_rfl) (by kernel_rfl)) ?_
  intro W base args ds gs before hval0 hW hcnd _
  have hval : ∀ (j : Nat) t v, Try.f5.params[j]? = some t → args[j]? = some v → Value.okWide Try.prog W .any base t v := hval0
  have hW' := hW
  obtain ⟨p, q, hA0, hV, rfl, hfz, hnd⟩ := hW
  have hA : DataW.TrodAll enc Try.prog W 0 (fun _ => true) true Try.f5.params.toList args.toList ds p := hA0
  rw [Try.params5] at hA hval
  obtain ⟨v0, vs0, d0, ds0, p0, q0, hargs, rfl, rfl, h0, r0⟩ := trodAll_cons hA
  obtain ⟨v1, vs1, d1, ds1, p1, q1, rfl, rfl, rfl, h1, r1⟩ := trodAll_cons r0
  obtain ⟨rfl, rfl, rfl⟩ := trodAll_nil r1
  obtain rfl : args = #[v0, v1] := by cases args; simp_all
  obtain ⟨rfl, rfl⟩ := trodVars_none hV
  obtain ⟨a0, rfl, rfl, rfl, w0⟩ := open_int Try.underlying3 (hval 0 3 v0 rfl rfl) h0
  have k1 := h1
  have lt1 : ∀ x ∈ p1, x.block < W.heap.size := by obtain ⟨m, hm⟩ := k1; exact DataW.trod_lt m _ _ _ hm
  obtain ⟨a1, len1, cap1, rfl⟩ := okWide_slice Try.underlying47 (hval 1 47 v1 rfl rfl)
  clear hA0 hval0
  have hin : len1 ≤ 9223372036854775807 ∧ IntsAt W a1 len1 := by
    obtain ⟨fuel, hf⟩ := h1
    exact ints_in (by simpa [Value.cells] using hf)
  have hwalk : Calls Try.prog 5 #[.int .i64 a0, .slice a1 len1 cap1] W fun e w' => e = .returned (.bool true) ∧ Below W.heap.size W w' := takes_walk a0 a1 len1 cap1 W hin.1 hin.2
  refine hwalk.mono fun e W' ⟨he, bel⟩ => ?_
  subst he
  exact ⟨_, rfl, _, _, _, [], _, [], hW', trodAll_mk1 (shut_bool Try.underlying4 _), (trodAll_cons_mk (shut_int Try.underlying3 w0) (trodAll_cons_mk (Below.trod laidOut (by kernel_rfl) (of_decide_eq_true (by kernel_rfl)) k1 bel lt1) trodAll_mk0)), rfl, bel.frame _, fun h => by cases h⟩

theorem takes_holds : Rows.BitmapTakesSaid :=
  OpenClaim.holds_of_wide 5 Try.f5 rfl rfl rfl rfl rfl rfl rfl ⟨rfl, rfl, rfl, rfl, rfl⟩ rfl rfl rfl rfl rfl (by kernel_rfl) Try.func5 (by kernel_rfl)
    (of_decide_eq_true (by kernel_rfl)) (by unfold Func.isWrapper; first | (rw [if_pos (by decide +kernel)]; kernel_rfl) | (rw [if_neg (by decide +kernel)]; exact ⟨rfl, rfl⟩))
    (fun os started H enc _ => takes_lifted os started H enc)
#print axioms takes_holds
end Go.Proofs.Ytahcbehbpadjaaa
