/- Package exomem: pages that do not hold any more are unmapped: the closure, unmapWhere, unmapLost. -/
import Derived.Test.YtfnafjddajgahaaGreatExB
import Derived.Deep.MidRow
namespace Go.Proofs.YtfnafjddajgahaaGreat
open Go.RowKit Ca
set_option linter.unusedVariables false

theorem cell_notmap {w : World} {b c o : Nat} {v : Value} {k : IntKind} {f : Int → Option Value} (h : w.cell? ⟨b, o, none⟩ = some v) (h' : MapIs w k c f) : b ≠ c := by
  intro e
  subst e
  obtain ⟨es, q, hb, _⟩ := h'
  simp [World.cell?, hb] at h

section
variable {K : Nat} {Y : Lay} {n : Nat} {vs : List Int} {T : Tab} {F : Pages} {w : World}

set_option maxHeartbeats 1000000 in
theorem klost_at (h : KerAt w K Y n vs T F) (x : Int × Bool) (B1 B2 m : Nat) (h1 : w.cell? ⟨B1, 0, none⟩ = some (ptr K)) (h2 : w.cell? ⟨B2, 0, none⟩ = some (.int .i64 m)) (hx : I64 x.1) :
    Calls Tryz.prog 98 #[Mu.pv x, .pointer (some ⟨B1, 0, none⟩), .pointer (some ⟨B2, 0, none⟩)] w fun e w' => e = .returned (.bool (!holdB T m x)) ∧ Below w.heap.size w w' := by
  obtain ⟨W, hW⟩ : ∃ W, W = w.alloc (.cells #[.int .i64 x.1, .bool x.2] 35) := ⟨_, rfl⟩
  have hbW : Below w.heap.size w W := by rw [hW]; exact below_alloc _ _
  have hnew : W.heap[w.heap.size]? = some (.cells #[.int .i64 x.1, .bool x.2] 35) := by rw [hW]; exact heap_alloc_new _ _
  have hbD : Below w.heap.size w W.drew := hbW.drew
  have c0 : W.drew.cell? ⟨w.heap.size, 0, none⟩ = some (.int .i64 x.1) := by rw [cell_of_heap (w := W.drew) hnew]; rfl
  have c1 : W.drew.cell? ⟨w.heap.size, 1, none⟩ = some (.bool x.2) := by rw [cell_of_heap (w := W.drew) hnew]; rfl
  have hK := h.below hbD
  have e1 : W.drew.cell? ⟨B1, 0, none⟩ = some (ptr K) := by rw [hbD.cell (cell_lt h1)]; exact h1
  have e2 : W.drew.cell? ⟨B2, 0, none⟩ = some (.int .i64 m) := by rw [hbD.cell (cell_lt h2)]; exact h2
  have hS := hK.k1
  have hh := has_at Y.cb T m 1 x.1 (prt x.2) W.drew hK.caps hK.sanes hx
  have HB : Hid (holdB T m x = hasB T m 1 x.1 (prt x.2)) := rfl
  generalize hasB T m 1 x.1 (prt x.2) = R at *
  clear hnew hK h1 h2 h hbW
  have HD : Hid _ := hbD
  clear hbD
  unfold Mu.pv
  go_enter Tryz.func98, Tryz.ntmps98
  go_wp2_with fail
  rw [← hW]
  clear hW
  refine wp_region_held_drew (S := fun w' => w'.cell? ⟨B1, 0, none⟩ = some (ptr K) ∧ w'.cell? ⟨K, 1, none⟩ = some (ptr Y.cb) ∧ w'.cell? ⟨B2, 0, none⟩ = some (.int .i64 m) ∧ w'.cell? ⟨w.heap.size, 0, none⟩ = some (.int .i64 x.1) ∧ w'.cell? ⟨w.heap.size, 1, none⟩ = some (.bool x.2)) (by kernel_rfl) ⟨e1, hS, e2, c0, c1⟩ (fun hHeld => ?_)
  refine wpAnyH_take (i := 0) (v := ?_) rfl (by kernel_rfl) (by kernel_rfl) (by kernel_rfl) (fun _ _ _ h => h) (Or.inl ⟨by kernel_rfl, ?_⟩) (by assumption) ?_
  rotate_left
  · (intro w hSw; (try dsimp only at hSw); go_simp) <;> with_reducible rfl
  (try simp only [Act.put, List.getElem_toArray, List.getElem_cons_zero, List.setIfInBounds_toArray, List.set_cons_zero, List.set_cons_succ])
  refine wpAnyH_take (i := 1) (v := ?_) rfl (by kernel_rfl) (by kernel_rfl) (by kernel_rfl) (fun _ _ _ h => h) (Or.inl ⟨by kernel_rfl, ?_⟩) (by assumption) ?_
  rotate_left
  · (intro w hSw; (try dsimp only at hSw); go_simp) <;> with_reducible rfl
  (try simp only [Act.put, List.getElem_toArray, List.getElem_cons_zero, List.getElem_cons_succ, List.setIfInBounds_toArray, List.set_cons_zero, List.set_cons_succ])
  refine wpAnyH_take (i := 2) (v := ?_) rfl (by kernel_rfl) (by kernel_rfl) (by kernel_rfl) (fun _ _ _ h => h) (Or.inl ⟨by kernel_rfl, ?_⟩) (by assumption) ?_
  rotate_left
  · (intro w hSw; (try dsimp only at hSw); go_simp) <;> with_reducible rfl
  (try simp only [Act.put, List.getElem_toArray, List.getElem_cons_zero, List.getElem_cons_succ, List.setIfInBounds_toArray, List.set_cons_zero, List.set_cons_succ])
  refine wpAnyH_take (i := 3) (v := ?_) rfl (by kernel_rfl) (by kernel_rfl) (by kernel_rfl) (fun _ _ _ h => h) (Or.inl ⟨by kernel_rfl, ?_⟩) (by assumption) ?_
  rotate_left
  · (intro w hSw; (try dsimp only at hSw); go_simp) <;> with_reducible rfl
  (try simp only [Act.put, List.getElem_toArray, List.getElem_cons_zero, List.getElem_cons_succ, List.setIfInBounds_toArray, List.set_cons_zero, List.set_cons_succ])
  refine wpAnyH_take (i := 4) (v := ?_) rfl (by kernel_rfl) (by kernel_rfl) (by kernel_rfl) (fun _ _ _ h => h) (Or.inl ⟨by kernel_rfl, ?_⟩) (by assumption) ?_
  rotate_left
  · (intro w hSw; (try dsimp only at hSw); go_simp) <;> with_reducible rfl
  (try simp only [Act.put, List.getElem_toArray, List.getElem_cons_zero, List.getElem_cons_succ, List.setIfInBounds_toArray, List.set_cons_zero, List.set_cons_succ])
  refine wpAnyH_take (i := 5) (v := ?_) rfl (by kernel_rfl) (by kernel_rfl) (by kernel_rfl) (fun _ _ _ h => h) (Or.inl ⟨by kernel_rfl, ?_⟩) (by assumption) ?_
  rotate_left
  · (intro w hSw; (try dsimp only at hSw); go_simp) <;> with_reducible rfl
  (try simp only [Act.put, List.getElem_toArray, List.getElem_cons_zero, List.getElem_cons_succ, List.setIfInBounds_toArray, List.set_cons_zero, List.set_cons_succ])
  refine wpAnyH_take (i := 6) (v := ?_) rfl (by kernel_rfl) (by kernel_rfl) (by kernel_rfl) (fun _ _ _ h => h) (Or.inl ⟨by kernel_rfl, ?_⟩) (by assumption) ?_
  rotate_left
  · (intro w hSw; (try dsimp only at hSw); go_simp) <;> with_reducible rfl
  (try simp only [Act.put, List.getElem_toArray, List.getElem_cons_zero, List.getElem_cons_succ, List.setIfInBounds_toArray, List.set_cons_zero, List.set_cons_succ])
  refine wpAnyH_take (i := 7) (v := ?_) rfl (by kernel_rfl) (by kernel_rfl) (by kernel_rfl) (fun _ _ _ h => h) (Or.inl ⟨by kernel_rfl, ?_⟩) (by assumption) ?_
  rotate_left
  · (intro w hSw; (try dsimp only at hSw); go_simp) <;> with_reducible rfl
  (try simp only [Act.put, List.getElem_toArray, List.getElem_cons_zero, List.getElem_cons_succ, List.setIfInBounds_toArray, List.set_cons_zero, List.set_cons_succ])
  refine wpAnyH_take (i := 8) (v := ?_) rfl (by kernel_rfl) (by kernel_rfl) (by kernel_rfl) (fun _ _ _ h => h) (Or.inl ⟨by kernel_rfl, ?_⟩) (by assumption) ?_
  rotate_left
  · (intro w hSw; (try dsimp only at hSw); go_simp) <;> with_reducible rfl
  (try simp only [Act.put, List.getElem_toArray, List.getElem_cons_zero, List.getElem_cons_succ, List.setIfInBounds_toArray, List.set_cons_zero, List.set_cons_succ])
  refine wpAnyH_ready (rs := [9]) (by kernel_rfl) (by simp) ?_
  refine AllReadyH.cons rfl (fun K hK => ?_) AllReadyH.nil
  go_simp
  refine (kpr_at x.2 _).mono ?_
  rintro e wq ⟨rfl, rfl⟩
  refine hK.out _ _ ⟨e1, hS, e2, c0, c1⟩ (fun hHeld => ?_)
  clear hK K
  (try simp only [Act.put, List.getElem_toArray, List.getElem_cons_zero, List.getElem_cons_succ, List.setIfInBounds_toArray, List.set_cons_zero, List.set_cons_succ])
  refine wpAnyH_ready (rs := [10]) (by kernel_rfl) (by simp) ?_
  refine AllReadyH.cons rfl (fun K hK => ?_) AllReadyH.nil
  go_simp
  refine hh.mono ?_
  rintro e wz ⟨rfl, hbz⟩
  refine hK.out _ _ ⟨by rw [hbz.cell (cell_lt e1)]; exact e1, by rw [hbz.cell (cell_lt hS)]; exact hS, by rw [hbz.cell (cell_lt e2)]; exact e2, by rw [hbz.cell (cell_lt c0)]; exact c0, by rw [hbz.cell (cell_lt c1)]; exact c1⟩ (fun hHeld => ?_)
  clear hK K
  (try simp only [Act.put, List.getElem_toArray, List.getElem_cons_zero, List.getElem_cons_succ, List.setIfInBounds_toArray, List.set_cons_zero, List.set_cons_succ])
  refine wpAnyH_take (i := 11) (v := ?_) rfl (by kernel_rfl) (by kernel_rfl) (by kernel_rfl) (fun _ _ _ h => h) (Or.inl ⟨by kernel_rfl, ?_⟩) (by assumption) ?_
  rotate_left
  · (intro w hSw; (try dsimp only at hSw); go_simp) <;> with_reducible rfl
  (try simp only [Act.put, List.getElem_toArray, List.getElem_cons_zero, List.getElem_cons_succ, List.setIfInBounds_toArray, List.set_cons_zero, List.set_cons_succ])
  refine wpAnyH_take (i := 12) (v := ?_) rfl (by kernel_rfl) (by kernel_rfl) (by kernel_rfl) (fun _ _ _ h => h) (Or.inl ⟨by kernel_rfl, ?_⟩) (by assumption) ?_
  rotate_left
  · (intro w hSw; (try dsimp only at hSw); go_simp) <;> with_reducible rfl
  (try simp only [Act.put, List.getElem_toArray, List.getElem_cons_zero, List.getElem_cons_succ, List.setIfInBounds_toArray, List.set_cons_zero, List.set_cons_succ])
  refine wpAnyH_done (by kernel_rfl) ?_ _
  go_wp2_with fail
  go_ret
  exact ⟨by rw [HB.out]; rfl, HD.out.trans (hbz.mono HD.out.size)⟩

theorem tidy1_some {T : Tab} {e : Nat} {f : Int → Option (Int × Bool)} {p : Int} {x : Int × Bool} (h : tidy1 T e f p = some x) : f p = some x := by
  unfold tidy1 at h
  cases hf : f p with
  | none => rw [hf] at h; cases h
  | some y =>
    rw [hf] at h
    dsimp only at h
    split at h
    · exact h
    · cases h
theorem tidyTo_some {T : Tab} {e k : Nat} {f : Int → Option (Int × Bool)} {p : Int} {x : Int × Bool} (h : tidyTo T e f k p = some x) : f p = some x := by
  unfold tidyTo at h
  split at h
  · exact tidy1_some h
  · exact h
theorem unmapF_some {f : Int → Option (Int × Bool)} {k p : Int} {x : Int × Bool} (h : Mu.unmapF f k p = some x) : f p = some x := by
  unfold Mu.unmapF at h
  split at h
  · cases h
  · exact h
theorem setF_setF (F : Pages) (e : Nat) (f g : Int → Option (Int × Bool)) : setF (setF F e f) e g = setF F e g := by
  funext i
  unfold setF
  split <;> rfl
theorem setF_self (F : Pages) (e : Nat) : setF F e (F e) = F := by
  funext i
  unfold setF
  split
  · rename_i h; rw [h]
  · rfl

set_option maxHeartbeats 4000000 in
theorem kwhere_at (h : KerAt w K Y n vs T F) (B1 B2 m : Nat) (hm : m < 12) (h1 : w.cell? ⟨B1, 0, none⟩ = some (ptr K)) (h2 : w.cell? ⟨B2, 0, none⟩ = some (.int .i64 m)) :
    Calls Tryz.prog 97 #[ptr (Y.tb m), .func (.func 98) #[] #[.pointer (some ⟨B1, 0, none⟩), .pointer (some ⟨B2, 0, none⟩)]] w fun e w' => e = .returned (.tuple #[]) ∧ KerAt w' K Y n vs T (setF F m (tidy1 T m (F m))) ∧ Upd (Y.mp m) w w' := by
  have HN := (h.tbl m hm).near
  have b1 : B1 ≠ Y.mp m := cell_notmap h1 (h.tbl m hm).map
  have b2 : B2 ≠ Y.mp m := cell_notmap h2 (h.tbl m hm).map
  have HZ : Hid (KerAt w K Y n vs T (setF F m (tidyTo T m (F m) 0))) := by rw [tidyTo_zero _ _ _ HN, setF_self]; exact h
  have H1 : Hid _ := h1
  have H2 : Hid _ := h2
  have HF : Hid (tidyTo T m (F m) 4 = tidy1 T m (F m)) := tidyTo_four _ _ _ HN
  have HP : Hid (∀ p x, F m p = some x → x.1 < n) := h.pg m hm
  have hn2 := h.n2
  have HNN : Hid _ := HN
  clear h h1 h2 HN
  go_enter Tryz.func97, Tryz.ntmps97
  go_wp2
  go_loopw [7] (fun s wr => ∃ (k : Nat), k ≤ 4 ∧ s = .int .i64 k ∧ KerAt wr K Y n vs T (setF F m (tidyTo T m (F m) k)) ∧ Upd (Y.mp m) w wr) (fun s _ => 4 - (intOf s).toNat)
  case atStart => exact ⟨0, by omega, rfl, HZ.out, Upd.refl _ _⟩
  case round =>
    clear HZ
    obtain ⟨k, hk', rfl, hK, hU⟩ := hrel
    by_cases hk : k < 4
    · have ht := hK.tbl m hm
      rw [setF_same] at ht
      have ha := Mu.at_at _ _ _ (k : Int) _ ht
      rw [tidyTo_at] at ha
      have e1 : wr.cell? ⟨B1, 0, none⟩ = some (ptr K) := by rw [World.cell?_of_block (w := w) (a := ⟨B1, 0, none⟩) (hU.block B1 (cell_lt H1.out) b1)]; exact H1.out
      have e2 : wr.cell? ⟨B2, 0, none⟩ = some (.int .i64 m) := by rw [World.cell?_of_block (w := w) (a := ⟨B2, 0, none⟩) (hU.block B2 (cell_lt H2.out) b2)]; exact H2.out
      cases hf : F m k with
      | none =>
        rw [hf] at ha
        have HM : Hid (tidyTo T m (F m) (k + 1) = tidyTo T m (F m) k) := tidyTo_keep (by unfold tidy1; rw [hf])
        clear hf
        go_wp2_with fail
        refine ha.mono ?_
        rintro e w1 ⟨rfl, hb1⟩
        simp only [Mu.pv, Option.getD_none, Option.isSome_none]
        have HK1 : Hid _ := hK
        have HE : Hid _ := And.intro e1 e2
        clear hK ht ha e1 e2
        go_wp2
        go_roundw
        case rel =>
          have hb2 : Below wr.heap.size wr (w1.alloc (.cells #[.int .i64 0, .bool false] 35)) := hb1.alloc hb1.size _
          exact ⟨k + 1, by omega, by go_num, by rw [HM.out]; exact HK1.out.below hb2, hU.trans (Upd.of_below hb2)⟩
        case measure => simp [intOf]; omega
      | some x =>
        rw [hf] at ha
        have hx1 := HNN.out k x hf
        have hx2 := HP.out k x hf
        have hI : I64 x.1 := ⟨by omega, by omega⟩
        go_wp2_with fail
        refine ha.mono ?_
        rintro e w1 ⟨rfl, hb1⟩
        simp only [Mu.pv, Option.getD_some, Option.isSome_some]
        obtain ⟨W, hW⟩ : ∃ W, W = w1.alloc (.cells #[.int .i64 x.1, .bool x.2] 35) := ⟨_, rfl⟩
        have hbW : Below wr.heap.size wr W := by rw [hW]; exact hb1.alloc hb1.size _
        have hcl := klost_at (hK.below hbW) x B1 B2 m (by rw [hbW.cell (cell_lt e1)]; exact e1) (by rw [hbW.cell (cell_lt e2)]; exact e2) hI
        unfold Mu.pv at hcl
        have HKW : Hid _ := hK.below hbW
        have HUW : Hid (Upd (Y.mp m) w W) := hU.trans (Upd.of_below hbW)
        have HY : Hid (holdB T m x = true → tidyTo T m (F m) (k + 1) = tidyTo T m (F m) k) := fun hh => tidyTo_keep (by unfold tidy1; rw [hf]; dsimp only; rw [if_pos hh])
        have HX : Hid (holdB T m x = false → tidyTo T m (F m) (k + 1) = Mu.unmapF (tidyTo T m (F m) k) k) := fun hh => tidyTo_lose (by unfold tidy1; rw [hf]; dsimp only; rw [if_neg (by rw [hh]; exact Bool.false_ne_true)])
        clear hK ht ha e1 e2 hU hbW hf hx1 hx2 hI hb1
        generalize holdB T m x = R at *
        cases R
        · have HX2 : Hid _ := HX.out rfl
          clear HX HY
          go_wp2_with fail
          rw [← hW]
          refine hcl.mono ?_
          rintro e w2 ⟨rfl, hb2⟩
          have hK2 := HKW.out.below hb2
          have ht2 := hK2.tbl m hm
          rw [setF_same] at ht2
          have hun := Mu.unmap_at _ _ _ (k : Int) _ ht2
          have HK2 : Hid _ := hK2
          have HU2 : Hid (Upd (Y.mp m) w w2) := HUW.out.trans (Upd.of_below hb2)
          clear hK2 ht2 hcl HKW HUW hb2 hW
          generalize Mu.unmapV (tidyTo T m (F m) k) k = V at *
          go_wp2_with fail
          refine hun.mono ?_
          rintro e w3 ⟨rfl, ht3, hu3⟩
          rw [← HX2.out] at ht3
          have HK3 : Hid (KerAt w3 K Y n vs T (setF F m (tidyTo T m (F m) (k + 1)))) := by
            have := HK2.out.updT hm ht3 (fun p y hy => HP.out p y (tidyTo_some hy)) hu3
            rwa [setF_setF] at this
          have HU3 : Hid _ := HU2.out.trans hu3
          clear ht3 hu3 hun HK2 HU2
          go_wp2
          go_roundw
          case rel => exact ⟨k + 1, by omega, by go_num, HK3.out, HU3.out⟩
          case measure => simp [intOf]; omega
        · have HX2 : Hid _ := HY.out rfl
          clear HX HY
          go_wp2_with fail
          rw [← hW]
          refine hcl.mono ?_
          rintro e w2 ⟨rfl, hb2⟩
          have HK2 : Hid _ := HKW.out.below hb2
          have HU2 : Hid (Upd (Y.mp m) w w2) := HUW.out.trans (Upd.of_below hb2)
          clear hcl HKW HUW hb2 hW
          go_wp2
          go_roundw
          case rel => exact ⟨k + 1, by omega, by go_num, by rw [HX2.out]; exact HK2.out, HU2.out⟩
          case measure => simp [intOf]; omega
    · obtain rfl : k = 4 := by omega
      go_wp2
      go_end0
      exact ⟨rfl, by rw [← HF.out]; exact hK, hU⟩

/-- The tables as a value. -/
def tarr (Y : Lay) : List Value := (List.range 12).map fun e => ptr (Y.tb e)
theorem tables_there (h : KerAt w K Y n vs T F) : w.rangeAt K 2 (tarr Y) := by
  intro j v hv
  have hj : j < 12 := by have := (List.getElem?_eq_some_iff.1 hv).1; simpa [tarr] using this
  simp [tarr, hj] at hv
  rw [← hv]
  exact h.kt hj
theorem tables_index (Y : Lay) (m : Nat) (hm : m < 12) (W : World) : (Instr.index 56 (.agg (tarr Y).toArray) (.int .i64 m)).run Tryz.prog W = .ok (ptr (Y.tb m)) W := by
  have h1 : (tarr Y).toArray[m]? = some (ptr (Y.tb m)) := by simp [tarr, hm]
  have hs : (sizeOf 55).run Tryz.prog W = .ok 1 W := by kernel_rfl
  have ha : (isAgg 55).run Tryz.prog W = .ok false W := by kernel_rfl
  have hi : 0 ≤ (m : Int) ∧ (m : Int) < (12 : Nat) := by omega
  simp only [Instr.index, Sem.run_bind, asIntOf, Sem.run_pure, Result.andThen_ok, run_underlying Tryz.underlying56, if_pos hi, hs, part, ha, Bool.false_eq_true, if_false, Int.toNat_natCast, Nat.mul_one, h1]

/-- Pages of the environments under k are tidied. -/
def tidyUp (T : Tab) (F : Pages) (k : Nat) : Pages := fun e => if e < k then tidy1 T e (F e) else F e
theorem tidyUp_zero (T : Tab) (F : Pages) : tidyUp T F 0 = F := by
  funext e
  unfold tidyUp
  rw [if_neg (by omega)]
theorem tidyUp_step (T : Tab) (F : Pages) (k : Nat) : setF (tidyUp T F k) k (tidy1 T k (tidyUp T F k k)) = tidyUp T F (k + 1) := by
  funext e
  unfold setF tidyUp
  by_cases h : e = k
  · subst h
    rw [if_pos rfl, if_neg (by omega), if_pos (by omega)]
  · rw [if_neg h]
    by_cases h2 : e < k
    · rw [if_pos h2, if_pos (by omega)]
    · rw [if_neg h2, if_neg (by omega)]

set_option maxRecDepth 100000 in
set_option maxHeartbeats 4000000 in
theorem kunmapLost_at (h : KerAt w K Y n vs T F) :
    Calls Tryz.prog 65 #[ptr K] w fun e w' => e = .returned (.tuple #[]) ∧ KerAt w' K Y n vs T (tidyF T F) ∧ UpdP (Foot Y) w w' := by
  obtain ⟨W, hW⟩ : ∃ W, W = w.alloc (.cells #[ptr K] 23) := ⟨_, rfl⟩
  have hbW : Below w.heap.size w W := by rw [hW]; exact below_alloc _ _
  have hnew : W.heap[w.heap.size]? = some (.cells #[ptr K] 23) := by rw [hW]; exact heap_alloc_new _ _
  have hc : W.cell? ⟨w.heap.size, 0, none⟩ = some (ptr K) := by rw [cell_of_heap hnew]; rfl
  have hK := h.below hbW
  have HL : Hid _ := tables_there hK
  have HK : Hid (KerAt W K Y n vs T (tidyUp T F 0)) := by rw [tidyUp_zero]; exact hK
  have HU : Hid (UpdP (Foot Y) w W) := UpdP.of_below hbW
  have HC : Hid _ := hc
  have HFP : Hid (∀ b, Foot Y b → b < w.heap.size) := by
    rintro b (e | e | ⟨i, hi, e⟩)
    · rw [e]; exact lt_of_heap h.mem.row
    · rw [e]; exact h.caps.lt
    · rw [e]; exact (h.tbl i hi).mlt
  clear h hbW hnew hK
  rw [hW] at hc HL
  go_enter Tryz.func65, Tryz.ntmps65
  go_wp2_with (first | (refine wpList_load_mid rfl 56 _ rfl K 2 rfl (tarr Y) _ HL.out Tryz.underlying56 rfl (by kernel_rfl) ?_) | go_in)
  rw [← hW]
  clear hW HL hc
  go_loopw [8] (fun s wr => ∃ (k : Nat), k ≤ 12 ∧ s = .int .i64 k ∧ KerAt wr K Y n vs T (tidyUp T F k) ∧ UpdP (Foot Y) w wr ∧ wr.cell? ⟨w.heap.size, 0, none⟩ = some (ptr K)) (fun s _ => 12 - (intOf s).toNat)
  case atStart => exact ⟨0, by omega, rfl, HK.out, HU.out, HC.out⟩
  case round =>
    clear HK HU HC
    obtain ⟨k, hk', rfl, hK, hU, hC⟩ := hrel
    by_cases hk : k < 12
    · obtain ⟨V, hV⟩ : ∃ V, V = wr.alloc (.cells #[.int .i64 k] 3) := ⟨_, rfl⟩
      have hbV : Below wr.heap.size wr V := by rw [hV]; exact below_alloc _ _
      have hnew : V.heap[wr.heap.size]? = some (.cells #[.int .i64 k] 3) := by rw [hV]; exact heap_alloc_new _ _
      have hc2 : V.cell? ⟨wr.heap.size, 0, none⟩ = some (.int .i64 k) := by rw [cell_of_heap hnew]; rfl
      have hc1 : V.cell? ⟨w.heap.size, 0, none⟩ = some (ptr K) := by rw [hbV.cell (cell_lt hC)]; exact hC
      have hwh := kwhere_at (hK.below hbV) w.heap.size wr.heap.size k hk hc1 hc2
      rw [tidyUp_step] at hwh
      have hix := tables_index Y k hk
      have b1 : w.heap.size ≠ Y.mp k := cell_notmap hC (hK.tbl k hk).map
      have HU2 : Hid (UpdP (Foot Y) w V) := hU.trans (UpdP.of_below hbV)
      have HC1 : Hid _ := hc1
      have i1 : decide ((k : Int) < 12) = true := decide_eq_true (by omega)
      clear hK hU hC hbV hnew hc2 hc1
      go_wp2_with fail
      rw [← hV]
      clear hV
      refine hwh.mono ?_
      rintro e w1 ⟨rfl, hK1, hu1⟩
      have HK1 : Hid _ := hK1
      have HU1 : Hid (UpdP (Foot Y) w w1) := HU2.out.trans (hu1.p _ (Or.inr (Or.inr ⟨k, hk, rfl⟩)))
      have HC2 : Hid (w1.cell? ⟨w.heap.size, 0, none⟩ = some (ptr K)) := by rw [World.cell?_of_block (w := V) (a := ⟨w.heap.size, 0, none⟩) (hu1.block _ (cell_lt HC1.out) b1)]; exact HC1.out
      clear hK1 hu1 hwh hix
      go_wp2
      go_roundw
      case rel => exact ⟨k + 1, by omega, by go_num, HK1.out, HU1.out, HC2.out⟩
      case measure => simp [intOf]; omega
    · obtain rfl : k = 12 := by omega
      go_wp2
      go_end0
      exact ⟨rfl, hK.same (fun e he => by unfold tidyUp; rw [if_pos he]; rfl), hU⟩
end
end Go.Proofs.YtfnafjddajgahaaGreat
