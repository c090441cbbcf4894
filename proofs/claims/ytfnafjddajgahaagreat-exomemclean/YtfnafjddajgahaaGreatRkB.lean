/- The reference kernel: tidy, Left, Refs, Slot. -/
import Derived.Test.YtfnafjddajgahaaGreatRkA
namespace Go.Proofs.YtfnafjddajgahaaGreat
open Go.RowKit Ca
set_option linter.unusedVariables false

section
variable {w w' : World} {X : Nat} {Q : RLay} {n : Nat} {vs : List Int} {L : List Ce} {last : Int} {F : Pages} {T : Tab}
theorem tidyUp_at (T : Tab) (F : Pages) (m : Nat) : tidyUp T F m m = F m := by
  unfold tidyUp
  rw [if_neg (by omega)]

set_option maxRecDepth 100000 in
set_option maxHeartbeats 8000000 in
theorem rktidy_at (h : RkAt w X Q n vs L last F) (hk : Lnk T L last n F) :
    Calls Tryz.prog 76 #[ptr X] w fun x w' => x = .returned (.tuple #[]) ∧ RkAt w' X Q n vs L last (tidyF T F) ∧ Upd X w w' := by
  have HL : Hid _ := hk
  have HI : Hid (RkAt w X Q n vs L last (tidyUp T F 0)) := by rw [tidyUp_zero]; exact h
  have HN : Hid _ := h.tbl.2
  clear h hk
  go_enter Tryz.func76, Tryz.ntmps76
  go_wp2
  go_loopw [2] (fun s wr => ∃ (m : Nat), m ≤ 12 ∧ s = .int .i64 m ∧ RkAt wr X Q n vs L last (tidyUp T F m) ∧ Upd X w wr) (fun s _ => 12 - (intOf s).toNat)
  case atStart => exact ⟨0, by omega, rfl, HI.out, Upd.refl _ _⟩
  case round =>
    clear HI
    obtain ⟨m, hm', rfl, hK, hU⟩ := hrel
    by_cases hm : m < 12
    · have hn := HN.out m hm
      have H0 : Hid (RkAt wr X Q n vs L last (setF (tidyUp T F m) m (tidyTo T m (F m) 0))) := by
        rw [tidyTo_zero _ _ _ hn]
        have : setF (tidyUp T F m) m (F m) = tidyUp T F m := by
          have := setF_id (tidyUp T F m) m
          rwa [tidyUp_at] at this
        rw [this]
        exact hK
      have H4 : Hid (setF (tidyUp T F m) m (tidyTo T m (F m) 4) = tidyUp T F (m + 1)) := by
        show _ = _
        have := tidyUp_step T F m
        rw [tidyUp_at] at this
        rw [tidyTo_four _ _ _ hn, this]
      have H1 : Hid _ := hU
      have HNN : Hid _ := hn
      have i1 : decide ((m : Int) < 12) = true := decide_eq_true (by omega)
      have i12 : (m : Int) < 12 := by omega
      clear hK hU hn
      go_wp2
      go_loopw [3] (fun s wr => ∃ (k : Nat), k ≤ 4 ∧ s = .int .i64 k ∧ RkAt wr X Q n vs L last (setF (tidyUp T F m) m (tidyTo T m (F m) k)) ∧ Upd X w wr) (fun s _ => 4 - (intOf s).toNat)
      case atStart => exact ⟨0, by omega, rfl, H0.out, H1.out⟩
      case round =>
        clear H0 H1
        obtain ⟨k, hk', rfl, hK, hU⟩ := hrel
        by_cases hkk : k < 4
        · have i2 : decide ((k : Int) < 4) = true := decide_eq_true (by omega)
          have ha := rat_at hK.tbl hm (k : Int)
          rw [setF_same, tidyTo_at] at ha
          have HK : Hid _ := hK
          have HU : Hid _ := hU
          have hl := hK.tbl.1.lt
          clear hK hU
          cases hf : F m (k : Int) with
          | none =>
            rw [hf] at ha
            have HM : Hid (tidyTo T m (F m) (k + 1) = tidyTo T m (F m) k) := tidyTo_keep (by unfold tidy1; rw [hf])
            clear hf
            simp only [Mu.pv, Option.getD_none, Option.isSome_none] at ha
            go_wp2_with fail
            refine ha.mono ?_
            rintro x w1 ⟨rfl, hb1⟩
            have hb2 : Below wr.heap.size wr (w1.alloc (.cells #[.int .i64 0, .bool false] 35)) := hb1.alloc hb1.size _
            have HK2 : Hid _ := HK.out.below hb2
            have HU2 : Hid _ := Upd.trans HU.out (Upd.of_below hb2)
            clear hb1 hb2 ha
            go_wp2
            go_roundw
            case rel => exact ⟨k + 1, by omega, by go_num, by rw [HM.out]; exact HK2.out, HU2.out⟩
            case measure => simp [intOf]; omega
          | some y =>
            rw [hf] at ha
            have y1 := HNN.out k y hf
            have y2 := HL.out.pg m hm k y hf
            have y3 := HL.out.n2
            have hI : I64 y.1 := ⟨by omega, by omega⟩
            have HY : Hid (holdB T m y = true → tidyTo T m (F m) (k + 1) = tidyTo T m (F m) k) := fun hh => tidyTo_keep (by unfold tidy1; rw [hf]; dsimp only; rw [if_pos hh])
            have HX : Hid (holdB T m y = false → tidyTo T m (F m) (k + 1) = Mu.unmapF (tidyTo T m (F m) k) k) := fun hh => tidyTo_lose (by unfold tidy1; rw [hf]; dsimp only; rw [if_neg (by rw [hh]; exact Bool.false_ne_true)])
            obtain ⟨f, b⟩ := y
            simp only [Mu.pv, Option.getD_some, Option.isSome_some] at ha
            clear hf y1 y2 y3
            cases b
            · go_wp2_with fail
              refine ha.mono ?_
              rintro x w1 ⟨rfl, hb1⟩
              obtain ⟨V, hV⟩ : ∃ V, V = w1.alloc (.cells #[.int .i64 f, .bool false] 35) := ⟨_, rfl⟩
              have hbV : Below wr.heap.size wr V := by rw [hV]; exact hb1.alloc hb1.size _
              have hnew : V.heap[w1.heap.size]? = some (.cells #[.int .i64 f, .bool false] 35) := by rw [hV]; exact heap_alloc_new _ _
              have hbD : Below wr.heap.size wr V.drew := hbV.drew
              have c0 : V.drew.cell? ⟨w1.heap.size, 0, none⟩ = some (.int .i64 f) := by rw [cell_of_heap (w := V.drew) hnew]; rfl
              have hKD := HK.out.below hbD
              have c1 := hKD.x1
              obtain ⟨sv, hC⟩ := hKD.caps
              have hh := rhas_at Q.M Q.c sv L last m 1 f 1 V.drew hC (by have := HL.out.len; omega) HL.out.rsanes hI
              rw [← HL.out.rel.has] at hh
              have HB : Hid (holdB T m (f, false) = hasB T m 1 f 1) := rfl
              rw [HB.out] at HY HX
              have HKD : Hid _ := hKD
              have HUD : Hid (Upd X w V.drew) := Upd.trans HU.out (Upd.of_below hbD)
              clear hKD hC hnew hbV hbD hb1 HB ha
              generalize hasB T m 1 f 1 = R at *
              go_wp2_with fail
              rw [← hV]
              clear hV
              cases R
              · skip
                refine wp_region_held_drew (S := fun w' => w'.cell? ⟨w1.heap.size, 0, none⟩ = some (.int .i64 f) ∧ w'.cell? ⟨X, 1, none⟩ = some (ptr Q.c)) (by kernel_rfl) ⟨c0, c1⟩ (fun hHeld => ?_)
                refine wpAnyH_take (i := 0) (v := ?_) rfl (by kernel_rfl) (by kernel_rfl) (by kernel_rfl) (fun _ _ _ h => h) (Or.inl ⟨by kernel_rfl, ?_⟩) (by assumption) ?_
                rotate_left
                · (intro w hSw; (try dsimp only at hSw); go_simp) <;> with_reducible rfl
                (try simp only [Act.put, List.getElem_toArray, List.getElem_cons_zero, List.setIfInBounds_toArray, List.set_cons_zero, List.set_cons_succ])
                refine wpAnyH_take (i := 1) (v := ?_) rfl (by kernel_rfl) (by kernel_rfl) (by kernel_rfl) (fun _ _ _ h => h) (Or.inl ⟨by kernel_rfl, ?_⟩) (by assumption) ?_
                rotate_left
                · (intro w hSw; (try dsimp only at hSw); go_simp) <;> with_reducible rfl
                (try simp only [Act.put, List.getElem_toArray, List.getElem_cons_zero, List.getElem_cons_succ, List.setIfInBounds_toArray, List.set_cons_zero, List.set_cons_succ])
                refine wpAnyH_take (i := 2) (v := ?_) rfl (by kernel_rfl) (by kernel_rfl) (by kernel_rfl) (fun _ _ _ h => h) (Or.inl ⟨by kernel_rfl, ?_⟩) (by assumption) ?_
                rotate_left
                · (intro w hSw; (try dsimp only at hSw); go_simp) <;> with_reducible rfl
                (try simp only [Act.put, List.getElem_toArray, List.getElem_cons_zero, List.getElem_cons_succ, List.setIfInBounds_toArray, List.set_cons_zero, List.set_cons_succ])
                refine wpAnyH_take (i := 3) (v := ?_) rfl (by kernel_rfl) (by kernel_rfl) (by kernel_rfl) (fun _ _ _ h => h) (Or.inl ⟨by kernel_rfl, ?_⟩) (by assumption) ?_
                rotate_left
                · (intro w hSw; (try dsimp only at hSw); go_simp) <;> with_reducible rfl
                (try simp only [Act.put, List.getElem_toArray, List.getElem_cons_zero, List.getElem_cons_succ, List.setIfInBounds_toArray, List.set_cons_zero, List.set_cons_succ])
                refine wpAnyH_take (i := 4) (v := ?_) rfl (by kernel_rfl) (by kernel_rfl) (by kernel_rfl) (fun _ _ _ h => h) (Or.inl ⟨by kernel_rfl, ?_⟩) (by assumption) ?_
                rotate_left
                · (intro w hSw; (try dsimp only at hSw); go_simp) <;> with_reducible rfl
                (try simp only [Act.put, List.getElem_toArray, List.getElem_cons_zero, List.getElem_cons_succ, List.setIfInBounds_toArray, List.set_cons_zero, List.set_cons_succ])
                refine wpAnyH_take (i := 5) (v := ?_) rfl (by kernel_rfl) (by kernel_rfl) (by kernel_rfl) (fun _ _ _ h => h) (Or.inl ⟨by kernel_rfl, ?_⟩) (by assumption) ?_
                rotate_left
                · (intro w hSw; (try dsimp only at hSw); go_simp) <;> with_reducible rfl
                (try simp only [Act.put, List.getElem_toArray, List.getElem_cons_zero, List.getElem_cons_succ, List.setIfInBounds_toArray, List.set_cons_zero, List.set_cons_succ])
                refine wpAnyH_take (i := 6) (v := ?_) rfl (by kernel_rfl) (by kernel_rfl) (by kernel_rfl) (fun _ _ _ h => h) (Or.inl ⟨by kernel_rfl, ?_⟩) (by assumption) ?_
                rotate_left
                · (intro w hSw; (try dsimp only at hSw); go_simp) <;> with_reducible rfl
                (try simp only [Act.put, List.getElem_toArray, List.getElem_cons_zero, List.getElem_cons_succ, List.setIfInBounds_toArray, List.set_cons_zero, List.set_cons_succ])
                refine wpAnyH_take (i := 7) (v := ?_) rfl (by kernel_rfl) (by kernel_rfl) (by kernel_rfl) (fun _ _ _ h => h) (Or.inl ⟨by kernel_rfl, ?_⟩) (by assumption) ?_
                rotate_left
                · (intro w hSw; (try dsimp only at hSw); go_simp) <;> with_reducible rfl
                (try simp only [Act.put, List.getElem_toArray, List.getElem_cons_zero, List.getElem_cons_succ, List.setIfInBounds_toArray, List.set_cons_zero, List.set_cons_succ])
                refine wpAnyH_ready (rs := [8]) (by kernel_rfl) (by simp) ?_
                refine AllReadyH.cons rfl (fun K hK => ?_) AllReadyH.nil
                go_simp
                refine hh.mono ?_
                rintro x wz ⟨rfl, hbz⟩
                refine hK.out _ _ ⟨by rw [hbz.cell (cell_lt c0)]; exact c0, by rw [hbz.cell (cell_lt c1)]; exact c1⟩ (fun hHeld => ?_)
                clear hK K
                (try simp only [Act.put, List.getElem_toArray, List.getElem_cons_zero, List.getElem_cons_succ, List.setIfInBounds_toArray, List.set_cons_zero, List.set_cons_succ])
                refine wpAnyH_take (i := 9) (v := ?_) rfl (by kernel_rfl) (by kernel_rfl) (by kernel_rfl) (fun _ _ _ h => h) (Or.inl ⟨by kernel_rfl, ?_⟩) (by assumption) ?_
                rotate_left
                · (intro w hSw; (try dsimp only at hSw); go_simp) <;> with_reducible rfl
                (try simp only [Act.put, List.getElem_toArray, List.getElem_cons_zero, List.getElem_cons_succ, List.setIfInBounds_toArray, List.set_cons_zero, List.set_cons_succ])
                refine wpAnyH_done (by kernel_rfl) ?_ _
                have HKZ : Hid _ := HKD.out.below hbz
                have HUZ : Hid (Upd X w wz) := Upd.trans HUD.out (Upd.of_below hbz)
                clear hbz hh c0 c1
                have HM : Hid _ := HX.out rfl
                have hun := runmap_at HKZ.out.tbl hm (k : Int)
                rw [setF_same] at hun
                generalize Mu.unmapV (tidyTo T m (F m) k) k = UV at *
                go_wp2_with fail
                refine hun.mono ?_
                rintro x w5 ⟨rfl, ht5, hu5⟩
                have HK5 : Hid (RkAt w5 X Q n vs L last (setF (tidyUp T F m) m (tidyTo T m (F m) (k + 1)))) := by
                  have := HKZ.out.updT ht5 hu5
                  rw [setF_setF, ← HM.out] at this
                  exact this
                have HU5 : Hid _ := Upd.trans HUZ.out hu5
                clear ht5 hu5 hun
                go_wp2_with fail
                go_roundw
                case rel => exact ⟨k + 1, by omega, by go_num, HK5.out, HU5.out⟩
                case measure => simp [intOf]; omega
              · skip
                refine wp_region_held_drew (S := fun w' => w'.cell? ⟨w1.heap.size, 0, none⟩ = some (.int .i64 f) ∧ w'.cell? ⟨X, 1, none⟩ = some (ptr Q.c)) (by kernel_rfl) ⟨c0, c1⟩ (fun hHeld => ?_)
                refine wpAnyH_take (i := 0) (v := ?_) rfl (by kernel_rfl) (by kernel_rfl) (by kernel_rfl) (fun _ _ _ h => h) (Or.inl ⟨by kernel_rfl, ?_⟩) (by assumption) ?_
                rotate_left
                · (intro w hSw; (try dsimp only at hSw); go_simp) <;> with_reducible rfl
                (try simp only [Act.put, List.getElem_toArray, List.getElem_cons_zero, List.setIfInBounds_toArray, List.set_cons_zero, List.set_cons_succ])
                refine wpAnyH_take (i := 1) (v := ?_) rfl (by kernel_rfl) (by kernel_rfl) (by kernel_rfl) (fun _ _ _ h => h) (Or.inl ⟨by kernel_rfl, ?_⟩) (by assumption) ?_
                rotate_left
                · (intro w hSw; (try dsimp only at hSw); go_simp) <;> with_reducible rfl
                (try simp only [Act.put, List.getElem_toArray, List.getElem_cons_zero, List.getElem_cons_succ, List.setIfInBounds_toArray, List.set_cons_zero, List.set_cons_succ])
                refine wpAnyH_take (i := 2) (v := ?_) rfl (by kernel_rfl) (by kernel_rfl) (by kernel_rfl) (fun _ _ _ h => h) (Or.inl ⟨by kernel_rfl, ?_⟩) (by assumption) ?_
                rotate_left
                · (intro w hSw; (try dsimp only at hSw); go_simp) <;> with_reducible rfl
                (try simp only [Act.put, List.getElem_toArray, List.getElem_cons_zero, List.getElem_cons_succ, List.setIfInBounds_toArray, List.set_cons_zero, List.set_cons_succ])
                refine wpAnyH_take (i := 3) (v := ?_) rfl (by kernel_rfl) (by kernel_rfl) (by kernel_rfl) (fun _ _ _ h => h) (Or.inl ⟨by kernel_rfl, ?_⟩) (by assumption) ?_
                rotate_left
                · (intro w hSw; (try dsimp only at hSw); go_simp) <;> with_reducible rfl
                (try simp only [Act.put, List.getElem_toArray, List.getElem_cons_zero, List.getElem_cons_succ, List.setIfInBounds_toArray, List.set_cons_zero, List.set_cons_succ])
                refine wpAnyH_take (i := 4) (v := ?_) rfl (by kernel_rfl) (by kernel_rfl) (by kernel_rfl) (fun _ _ _ h => h) (Or.inl ⟨by kernel_rfl, ?_⟩) (by assumption) ?_
                rotate_left
                · (intro w hSw; (try dsimp only at hSw); go_simp) <;> with_reducible rfl
                (try simp only [Act.put, List.getElem_toArray, List.getElem_cons_zero, List.getElem_cons_succ, List.setIfInBounds_toArray, List.set_cons_zero, List.set_cons_succ])
                refine wpAnyH_take (i := 5) (v := ?_) rfl (by kernel_rfl) (by kernel_rfl) (by kernel_rfl) (fun _ _ _ h => h) (Or.inl ⟨by kernel_rfl, ?_⟩) (by assumption) ?_
                rotate_left
                · (intro w hSw; (try dsimp only at hSw); go_simp) <;> with_reducible rfl
                (try simp only [Act.put, List.getElem_toArray, List.getElem_cons_zero, List.getElem_cons_succ, List.setIfInBounds_toArray, List.set_cons_zero, List.set_cons_succ])
                refine wpAnyH_take (i := 6) (v := ?_) rfl (by kernel_rfl) (by kernel_rfl) (by kernel_rfl) (fun _ _ _ h => h) (Or.inl ⟨by kernel_rfl, ?_⟩) (by assumption) ?_
                rotate_left
                · (intro w hSw; (try dsimp only at hSw); go_simp) <;> with_reducible rfl
                (try simp only [Act.put, List.getElem_toArray, List.getElem_cons_zero, List.getElem_cons_succ, List.setIfInBounds_toArray, List.set_cons_zero, List.set_cons_succ])
                refine wpAnyH_take (i := 7) (v := ?_) rfl (by kernel_rfl) (by kernel_rfl) (by kernel_rfl) (fun _ _ _ h => h) (Or.inl ⟨by kernel_rfl, ?_⟩) (by assumption) ?_
                rotate_left
                · (intro w hSw; (try dsimp only at hSw); go_simp) <;> with_reducible rfl
                (try simp only [Act.put, List.getElem_toArray, List.getElem_cons_zero, List.getElem_cons_succ, List.setIfInBounds_toArray, List.set_cons_zero, List.set_cons_succ])
                refine wpAnyH_ready (rs := [8]) (by kernel_rfl) (by simp) ?_
                refine AllReadyH.cons rfl (fun K hK => ?_) AllReadyH.nil
                go_simp
                refine hh.mono ?_
                rintro x wz ⟨rfl, hbz⟩
                refine hK.out _ _ ⟨by rw [hbz.cell (cell_lt c0)]; exact c0, by rw [hbz.cell (cell_lt c1)]; exact c1⟩ (fun hHeld => ?_)
                clear hK K
                (try simp only [Act.put, List.getElem_toArray, List.getElem_cons_zero, List.getElem_cons_succ, List.setIfInBounds_toArray, List.set_cons_zero, List.set_cons_succ])
                refine wpAnyH_take (i := 9) (v := ?_) rfl (by kernel_rfl) (by kernel_rfl) (by kernel_rfl) (fun _ _ _ h => h) (Or.inl ⟨by kernel_rfl, ?_⟩) (by assumption) ?_
                rotate_left
                · (intro w hSw; (try dsimp only at hSw); go_simp) <;> with_reducible rfl
                (try simp only [Act.put, List.getElem_toArray, List.getElem_cons_zero, List.getElem_cons_succ, List.setIfInBounds_toArray, List.set_cons_zero, List.set_cons_succ])
                refine wpAnyH_done (by kernel_rfl) ?_ _
                have HKZ : Hid _ := HKD.out.below hbz
                have HUZ : Hid (Upd X w wz) := Upd.trans HUD.out (Upd.of_below hbz)
                clear hbz hh c0 c1
                have HM : Hid _ := HY.out rfl
                go_wp2_with fail
                go_roundw
                case rel => exact ⟨k + 1, by omega, by go_num, by rw [HM.out]; exact HKZ.out, HUZ.out⟩
                case measure => simp [intOf]; omega
            · go_wp2_with fail
              refine ha.mono ?_
              rintro x w1 ⟨rfl, hb1⟩
              obtain ⟨V, hV⟩ : ∃ V, V = w1.alloc (.cells #[.int .i64 f, .bool true] 35) := ⟨_, rfl⟩
              have hbV : Below wr.heap.size wr V := by rw [hV]; exact hb1.alloc hb1.size _
              have hnew : V.heap[w1.heap.size]? = some (.cells #[.int .i64 f, .bool true] 35) := by rw [hV]; exact heap_alloc_new _ _
              have hbD : Below wr.heap.size wr V.drew := hbV.drew
              have c0 : V.drew.cell? ⟨w1.heap.size, 0, none⟩ = some (.int .i64 f) := by rw [cell_of_heap (w := V.drew) hnew]; rfl
              have hKD := HK.out.below hbD
              have c1 := hKD.x1
              obtain ⟨sv, hC⟩ := hKD.caps
              have hh := rhas_at Q.M Q.c sv L last m 1 f 3 V.drew hC (by have := HL.out.len; omega) HL.out.rsanes hI
              rw [← HL.out.rel.has] at hh
              have HB : Hid (holdB T m (f, true) = hasB T m 1 f 3) := rfl
              rw [HB.out] at HY HX
              have HKD : Hid _ := hKD
              have HUD : Hid (Upd X w V.drew) := Upd.trans HU.out (Upd.of_below hbD)
              clear hKD hC hnew hbV hbD hb1 HB ha
              generalize hasB T m 1 f 3 = R at *
              go_wp2_with fail
              rw [← hV]
              clear hV
              cases R
              · skip
                refine wp_region_held_drew (S := fun w' => w'.cell? ⟨w1.heap.size, 0, none⟩ = some (.int .i64 f) ∧ w'.cell? ⟨X, 1, none⟩ = some (ptr Q.c)) (by kernel_rfl) ⟨c0, c1⟩ (fun hHeld => ?_)
                refine wpAnyH_take (i := 0) (v := ?_) rfl (by kernel_rfl) (by kernel_rfl) (by kernel_rfl) (fun _ _ _ h => h) (Or.inl ⟨by kernel_rfl, ?_⟩) (by assumption) ?_
                rotate_left
                · (intro w hSw; (try dsimp only at hSw); go_simp) <;> with_reducible rfl
                (try simp only [Act.put, List.getElem_toArray, List.getElem_cons_zero, List.setIfInBounds_toArray, List.set_cons_zero, List.set_cons_succ])
                refine wpAnyH_take (i := 1) (v := ?_) rfl (by kernel_rfl) (by kernel_rfl) (by kernel_rfl) (fun _ _ _ h => h) (Or.inl ⟨by kernel_rfl, ?_⟩) (by assumption) ?_
                rotate_left
                · (intro w hSw; (try dsimp only at hSw); go_simp) <;> with_reducible rfl
                (try simp only [Act.put, List.getElem_toArray, List.getElem_cons_zero, List.getElem_cons_succ, List.setIfInBounds_toArray, List.set_cons_zero, List.set_cons_succ])
                refine wpAnyH_take (i := 2) (v := ?_) rfl (by kernel_rfl) (by kernel_rfl) (by kernel_rfl) (fun _ _ _ h => h) (Or.inl ⟨by kernel_rfl, ?_⟩) (by assumption) ?_
                rotate_left
                · (intro w hSw; (try dsimp only at hSw); go_simp) <;> with_reducible rfl
                (try simp only [Act.put, List.getElem_toArray, List.getElem_cons_zero, List.getElem_cons_succ, List.setIfInBounds_toArray, List.set_cons_zero, List.set_cons_succ])
                refine wpAnyH_take (i := 3) (v := ?_) rfl (by kernel_rfl) (by kernel_rfl) (by kernel_rfl) (fun _ _ _ h => h) (Or.inl ⟨by kernel_rfl, ?_⟩) (by assumption) ?_
                rotate_left
                · (intro w hSw; (try dsimp only at hSw); go_simp) <;> with_reducible rfl
                (try simp only [Act.put, List.getElem_toArray, List.getElem_cons_zero, List.getElem_cons_succ, List.setIfInBounds_toArray, List.set_cons_zero, List.set_cons_succ])
                refine wpAnyH_take (i := 4) (v := ?_) rfl (by kernel_rfl) (by kernel_rfl) (by kernel_rfl) (fun _ _ _ h => h) (Or.inl ⟨by kernel_rfl, ?_⟩) (by assumption) ?_
                rotate_left
                · (intro w hSw; (try dsimp only at hSw); go_simp) <;> with_reducible rfl
                (try simp only [Act.put, List.getElem_toArray, List.getElem_cons_zero, List.getElem_cons_succ, List.setIfInBounds_toArray, List.set_cons_zero, List.set_cons_succ])
                refine wpAnyH_take (i := 5) (v := ?_) rfl (by kernel_rfl) (by kernel_rfl) (by kernel_rfl) (fun _ _ _ h => h) (Or.inl ⟨by kernel_rfl, ?_⟩) (by assumption) ?_
                rotate_left
                · (intro w hSw; (try dsimp only at hSw); go_simp) <;> with_reducible rfl
                (try simp only [Act.put, List.getElem_toArray, List.getElem_cons_zero, List.getElem_cons_succ, List.setIfInBounds_toArray, List.set_cons_zero, List.set_cons_succ])
                refine wpAnyH_take (i := 6) (v := ?_) rfl (by kernel_rfl) (by kernel_rfl) (by kernel_rfl) (fun _ _ _ h => h) (Or.inl ⟨by kernel_rfl, ?_⟩) (by assumption) ?_
                rotate_left
                · (intro w hSw; (try dsimp only at hSw); go_simp) <;> with_reducible rfl
                (try simp only [Act.put, List.getElem_toArray, List.getElem_cons_zero, List.getElem_cons_succ, List.setIfInBounds_toArray, List.set_cons_zero, List.set_cons_succ])
                refine wpAnyH_take (i := 7) (v := ?_) rfl (by kernel_rfl) (by kernel_rfl) (by kernel_rfl) (fun _ _ _ h => h) (Or.inl ⟨by kernel_rfl, ?_⟩) (by assumption) ?_
                rotate_left
                · (intro w hSw; (try dsimp only at hSw); go_simp) <;> with_reducible rfl
                (try simp only [Act.put, List.getElem_toArray, List.getElem_cons_zero, List.getElem_cons_succ, List.setIfInBounds_toArray, List.set_cons_zero, List.set_cons_succ])
                refine wpAnyH_ready (rs := [8]) (by kernel_rfl) (by simp) ?_
                refine AllReadyH.cons rfl (fun K hK => ?_) AllReadyH.nil
                go_simp
                refine hh.mono ?_
                rintro x wz ⟨rfl, hbz⟩
                refine hK.out _ _ ⟨by rw [hbz.cell (cell_lt c0)]; exact c0, by rw [hbz.cell (cell_lt c1)]; exact c1⟩ (fun hHeld => ?_)
                clear hK K
                (try simp only [Act.put, List.getElem_toArray, List.getElem_cons_zero, List.getElem_cons_succ, List.setIfInBounds_toArray, List.set_cons_zero, List.set_cons_succ])
                refine wpAnyH_take (i := 9) (v := ?_) rfl (by kernel_rfl) (by kernel_rfl) (by kernel_rfl) (fun _ _ _ h => h) (Or.inl ⟨by kernel_rfl, ?_⟩) (by assumption) ?_
                rotate_left
                · (intro w hSw; (try dsimp only at hSw); go_simp) <;> with_reducible rfl
                (try simp only [Act.put, List.getElem_toArray, List.getElem_cons_zero, List.getElem_cons_succ, List.setIfInBounds_toArray, List.set_cons_zero, List.set_cons_succ])
                refine wpAnyH_done (by kernel_rfl) ?_ _
                have HKZ : Hid _ := HKD.out.below hbz
                have HUZ : Hid (Upd X w wz) := Upd.trans HUD.out (Upd.of_below hbz)
                clear hbz hh c0 c1
                have HM : Hid _ := HX.out rfl
                have hun := runmap_at HKZ.out.tbl hm (k : Int)
                rw [setF_same] at hun
                generalize Mu.unmapV (tidyTo T m (F m) k) k = UV at *
                go_wp2_with fail
                refine hun.mono ?_
                rintro x w5 ⟨rfl, ht5, hu5⟩
                have HK5 : Hid (RkAt w5 X Q n vs L last (setF (tidyUp T F m) m (tidyTo T m (F m) (k + 1)))) := by
                  have := HKZ.out.updT ht5 hu5
                  rw [setF_setF, ← HM.out] at this
                  exact this
                have HU5 : Hid _ := Upd.trans HUZ.out hu5
                clear ht5 hu5 hun
                go_wp2_with fail
                go_roundw
                case rel => exact ⟨k + 1, by omega, by go_num, HK5.out, HU5.out⟩
                case measure => simp [intOf]; omega
              · skip
                refine wp_region_held_drew (S := fun w' => w'.cell? ⟨w1.heap.size, 0, none⟩ = some (.int .i64 f) ∧ w'.cell? ⟨X, 1, none⟩ = some (ptr Q.c)) (by kernel_rfl) ⟨c0, c1⟩ (fun hHeld => ?_)
                refine wpAnyH_take (i := 0) (v := ?_) rfl (by kernel_rfl) (by kernel_rfl) (by kernel_rfl) (fun _ _ _ h => h) (Or.inl ⟨by kernel_rfl, ?_⟩) (by assumption) ?_
                rotate_left
                · (intro w hSw; (try dsimp only at hSw); go_simp) <;> with_reducible rfl
                (try simp only [Act.put, List.getElem_toArray, List.getElem_cons_zero, List.setIfInBounds_toArray, List.set_cons_zero, List.set_cons_succ])
                refine wpAnyH_take (i := 1) (v := ?_) rfl (by kernel_rfl) (by kernel_rfl) (by kernel_rfl) (fun _ _ _ h => h) (Or.inl ⟨by kernel_rfl, ?_⟩) (by assumption) ?_
                rotate_left
                · (intro w hSw; (try dsimp only at hSw); go_simp) <;> with_reducible rfl
                (try simp only [Act.put, List.getElem_toArray, List.getElem_cons_zero, List.getElem_cons_succ, List.setIfInBounds_toArray, List.set_cons_zero, List.set_cons_succ])
                refine wpAnyH_take (i := 2) (v := ?_) rfl (by kernel_rfl) (by kernel_rfl) (by kernel_rfl) (fun _ _ _ h => h) (Or.inl ⟨by kernel_rfl, ?_⟩) (by assumption) ?_
                rotate_left
                · (intro w hSw; (try dsimp only at hSw); go_simp) <;> with_reducible rfl
                (try simp only [Act.put, List.getElem_toArray, List.getElem_cons_zero, List.getElem_cons_succ, List.setIfInBounds_toArray, List.set_cons_zero, List.set_cons_succ])
                refine wpAnyH_take (i := 3) (v := ?_) rfl (by kernel_rfl) (by kernel_rfl) (by kernel_rfl) (fun _ _ _ h => h) (Or.inl ⟨by kernel_rfl, ?_⟩) (by assumption) ?_
                rotate_left
                · (intro w hSw; (try dsimp only at hSw); go_simp) <;> with_reducible rfl
                (try simp only [Act.put, List.getElem_toArray, List.getElem_cons_zero, List.getElem_cons_succ, List.setIfInBounds_toArray, List.set_cons_zero, List.set_cons_succ])
                refine wpAnyH_take (i := 4) (v := ?_) rfl (by kernel_rfl) (by kernel_rfl) (by kernel_rfl) (fun _ _ _ h => h) (Or.inl ⟨by kernel_rfl, ?_⟩) (by assumption) ?_
                rotate_left
                · (intro w hSw; (try dsimp only at hSw); go_simp) <;> with_reducible rfl
                (try simp only [Act.put, List.getElem_toArray, List.getElem_cons_zero, List.getElem_cons_succ, List.setIfInBounds_toArray, List.set_cons_zero, List.set_cons_succ])
                refine wpAnyH_take (i := 5) (v := ?_) rfl (by kernel_rfl) (by kernel_rfl) (by kernel_rfl) (fun _ _ _ h => h) (Or.inl ⟨by kernel_rfl, ?_⟩) (by assumption) ?_
                rotate_left
                · (intro w hSw; (try dsimp only at hSw); go_simp) <;> with_reducible rfl
                (try simp only [Act.put, List.getElem_toArray, List.getElem_cons_zero, List.getElem_cons_succ, List.setIfInBounds_toArray, List.set_cons_zero, List.set_cons_succ])
                refine wpAnyH_take (i := 6) (v := ?_) rfl (by kernel_rfl) (by kernel_rfl) (by kernel_rfl) (fun _ _ _ h => h) (Or.inl ⟨by kernel_rfl, ?_⟩) (by assumption) ?_
                rotate_left
                · (intro w hSw; (try dsimp only at hSw); go_simp) <;> with_reducible rfl
                (try simp only [Act.put, List.getElem_toArray, List.getElem_cons_zero, List.getElem_cons_succ, List.setIfInBounds_toArray, List.set_cons_zero, List.set_cons_succ])
                refine wpAnyH_take (i := 7) (v := ?_) rfl (by kernel_rfl) (by kernel_rfl) (by kernel_rfl) (fun _ _ _ h => h) (Or.inl ⟨by kernel_rfl, ?_⟩) (by assumption) ?_
                rotate_left
                · (intro w hSw; (try dsimp only at hSw); go_simp) <;> with_reducible rfl
                (try simp only [Act.put, List.getElem_toArray, List.getElem_cons_zero, List.getElem_cons_succ, List.setIfInBounds_toArray, List.set_cons_zero, List.set_cons_succ])
                refine wpAnyH_ready (rs := [8]) (by kernel_rfl) (by simp) ?_
                refine AllReadyH.cons rfl (fun K hK => ?_) AllReadyH.nil
                go_simp
                refine hh.mono ?_
                rintro x wz ⟨rfl, hbz⟩
                refine hK.out _ _ ⟨by rw [hbz.cell (cell_lt c0)]; exact c0, by rw [hbz.cell (cell_lt c1)]; exact c1⟩ (fun hHeld => ?_)
                clear hK K
                (try simp only [Act.put, List.getElem_toArray, List.getElem_cons_zero, List.getElem_cons_succ, List.setIfInBounds_toArray, List.set_cons_zero, List.set_cons_succ])
                refine wpAnyH_take (i := 9) (v := ?_) rfl (by kernel_rfl) (by kernel_rfl) (by kernel_rfl) (fun _ _ _ h => h) (Or.inl ⟨by kernel_rfl, ?_⟩) (by assumption) ?_
                rotate_left
                · (intro w hSw; (try dsimp only at hSw); go_simp) <;> with_reducible rfl
                (try simp only [Act.put, List.getElem_toArray, List.getElem_cons_zero, List.getElem_cons_succ, List.setIfInBounds_toArray, List.set_cons_zero, List.set_cons_succ])
                refine wpAnyH_done (by kernel_rfl) ?_ _
                have HKZ : Hid _ := HKD.out.below hbz
                have HUZ : Hid (Upd X w wz) := Upd.trans HUD.out (Upd.of_below hbz)
                clear hbz hh c0 c1
                have HM : Hid _ := HY.out rfl
                go_wp2_with fail
                go_roundw
                case rel => exact ⟨k + 1, by omega, by go_num, by rw [HM.out]; exact HKZ.out, HUZ.out⟩
                case measure => simp [intOf]; omega
        · obtain rfl : k = 4 := by omega
          go_wp2
          go_roundw
          case rel => exact ⟨m + 1, by omega, by go_num, by rw [← H4.out]; exact hK, hU⟩
          case measure => simp [intOf]; omega
    · obtain rfl : m = 12 := by omega
      go_wp2
      go_end0
      exact ⟨rfl, hK.same (fun e he => by unfold tidyUp; rw [if_pos he]; rfl), hU⟩
end
end Go.Proofs.YtfnafjddajgahaaGreat
