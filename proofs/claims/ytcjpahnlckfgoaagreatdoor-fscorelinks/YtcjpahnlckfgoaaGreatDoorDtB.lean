/- Package dir: text, texts. -/
import Derived.Test.YtcjpahnlckfgoaaGreatDoorDirA
import Derived.Deep.RegionHeld3
namespace Go.Proofs.YtcjpahnlckfgoaaGreatDoor
open Go.RowKit Go.Lib
set_option linter.unusedVariables false

theorem Bld.below {B b : Nat} {bs : List Value} {w w' : World} (h : Bld B b bs w) (hb : Below w.heap.size w w') : Bld B b bs w' := by
  have hg : w.grownBy w' none := ⟨hb.os, hb.tape, hb.output, hb.size, fun k hk _ => hb.block k hk⟩
  have ho : ∀ {v : Value} {n : Nat} {xs : List Value}, w.ownsRowF B 5 1 v n xs → w'.ownsRowF B 5 1 v n xs := fun {v n xs} q => by
    refine q.kept hg ?_
    cases hv : v.ownBlock with
    | none => exact Or.inl rfl
    | some g => exact Or.inr (by simp)
  rcases h with ⟨hB, v, h0, h1, hne⟩ | ⟨hB, v, h0, h1, hne⟩
  · exact Or.inl ⟨hB, v, (hb.block b (lt_of_heap h0)).trans h0, ho h1, hne⟩
  · exact Or.inr ⟨hB, v, (hb.block b (lt_of_heap h0)).trans h0, ho h1, hne⟩
theorem conv_one {W : World} {X to : Nat} (h2 : to < 256) (h : W.heap[X]? = some (.cells #[.int .u8 (to : Int)] 5)) : (convert 192 9 (.slice (some ⟨X, 0, none⟩) 1 1)).run Tryz.prog W = .ok (tx [UInt8.ofNat to]) W := by
  refine run_convert_bytes_back W _ _ 5 ⟨X, 0, none⟩ 1 [UInt8.ofNat to] Tryz.underlying192 Tryz.underlying5 Tryz.underlying9 (fun j hj => ?_)
  have hj0 : j = 0 := by simp at hj; exact hj
  subst hj0
  rw [add0, Nat.zero_add, cell_of_heap h]
  have e : to % 256 = to := Nat.mod_eq_of_lt h2
  simp [e]
set_option maxHeartbeats 2000000 in
set_option maxRecDepth 100000 in
theorem text_at (nm : List UInt8) (to : Nat) (h1 : nm.length ≤ 8) (h2 : to < 256) (w : World) :
    Calls Tryz.prog 169 #[.agg #[tx nm, .int .i64 (to : Int)]] w fun e w' => e = .returned (tx (encE ⟨nm, to⟩)) ∧ Below w.heap.size w w' := by
  obtain ⟨p, hp⟩ : ∃ p, p = w.heap.size := ⟨_, rfl⟩
  obtain ⟨W0, hW0⟩ : ∃ W, W = w.alloc (.cells #[tx nm, .int .i64 (to : Int)] 219) := ⟨_, rfl⟩
  have HW0 : Hid (W0 = w.alloc (.cells #[tx nm, .int .i64 (to : Int)] 219)) := hW0
  have Hp : Hid (p = w.heap.size) := hp
  have hbk : W0.heap[p]? = some (.cells #[tx nm, .int .i64 (to : Int)] 219) := by rw [hp, hW0]; exact heap_alloc_new _ _
  have HB0 : Hid (Below w.heap.size w W0) := by rw [hW0]; exact below_alloc _ _
  have c0 : W0.cell? ⟨p, 0, none⟩ = some (tx nm) := by rw [cell_of_heap hbk]; rfl
  have c1 : W0.cell? ⟨p, 1, none⟩ = some (.int .i64 (to : Int)) := by rw [cell_of_heap hbk]; rfl
  have hw8 : IntKind.u8.wrap (to : Int) = (to : Int) := by simp [IntKind.wrap, IntKind.bits, IntKind.signed]; omega
  have hws : IntKind.i64.wrap (8 - (nm.length : Int)) = ((8 - nm.length : Nat) : Int) := by simp [IntKind.wrap, IntKind.bits, IntKind.signed]; omega
  have hpl : p < W0.heap.size := lt_of_heap hbk
  have hR : ∀ W : World, Below W0.heap.size W0 W → Calls Tryz.prog 188 #[tx [0], .int .i64 ((8 - nm.length : Nat) : Int)] W fun e w' => e = .returned (tx (zs (8 - nm.length))) ∧ Below W.heap.size W w' ∧ w'.cell? ⟨p, 0, none⟩ = some (tx nm) ∧ w'.cell? ⟨p, 1, none⟩ = some (.int .i64 (to : Int)) := fun W hb => by
    refine (repeat_at (8 - nm.length) (by omega) W).mono ?_
    rintro e w' ⟨q1, q2⟩
    have hbk' : w'.heap[p]? = some (.cells #[tx nm, .int .i64 (to : Int)] 219) := (q2.block p (Nat.lt_of_lt_of_le hpl hb.size)).trans ((hb.block p hpl).trans hbk)
    exact ⟨q1, q2, by rw [cell_of_heap hbk']; rfl, by rw [cell_of_heap hbk']; rfl⟩
  have g1 := text_glue nm (zs (8 - nm.length))
  have g2 := text_glue (nm ++ zs (8 - nm.length)) [UInt8.ofNat to]
  have HE : Hid (encE ⟨nm, to⟩ = nm ++ zs (8 - nm.length) ++ [UInt8.ofNat to]) := rfl
  rw [HE.out]
  have hlz := zs_len (8 - nm.length)
  have hcv := fun W : World => conv_one h2 (heap_alloc_new W (.cells #[.int .u8 (to : Int)] 5))
  have hcv2 : ∀ W : World, (convert 192 9 (.slice (some ⟨W.heap.size, 0, none⟩) 1 1)).run Tryz.prog (W.alloc (.cells #[.int .u8 (to : Int)] 5)).drew = .ok (tx [UInt8.ofNat to]) (W.alloc (.cells #[.int .u8 (to : Int)] 5)).drew := fun W => conv_one h2 (heap_alloc_new W (.cells #[.int .u8 (to : Int)] 5))
  have hno1 : ¬ 9223372036854775807 < nm.length + (8 - nm.length) := by omega
  have hno2 : ¬ 9223372036854775807 < nm.length + (8 - nm.length) + 1 := by omega
  clear hW0 hp hbk
  generalize 8 - nm.length = k at *
  obtain ⟨W1, hW1⟩ : ∃ W, W = (W0.alloc (.cells #[.int .u8 (to : Int)] 5)).drew := ⟨_, rfl⟩
  have HW1 : Hid (W1 = (W0.alloc (.cells #[.int .u8 (to : Int)] 5)).drew) := hW1
  have hb01 : Below W0.heap.size W0 W1 := by rw [hW1]; exact (below_alloc _ _).drew
  have hx1 : W1.heap[W0.heap.size]? = some (.cells #[.int .u8 (to : Int)] 5) := by rw [hW1]; exact heap_alloc_new W0 _
  have hs1 : W1.heap.size = W0.heap.size + 1 := by rw [hW1]; exact World.size_alloc _ _
  have hcv1 := conv_one h2 hx1
  have b0 : W1.cell? ⟨p, 0, none⟩ = some (tx nm) := by rw [hb01.cell (p := ⟨p, 0, none⟩) hpl]; exact c0
  have b1 : W1.cell? ⟨p, 1, none⟩ = some (.int .i64 (to : Int)) := by rw [hb01.cell (p := ⟨p, 1, none⟩) hpl]; exact c1
  have hRA := hR W0.drew (Below.refl _ W0).drew
  have hRB := hR W1 hb01
  have HB1 : Hid (Below W0.heap.size W0 W1 ∧ W1.heap.size = W0.heap.size + 1) := ⟨hb01, hs1⟩
  have HX1 : Hid _ := hx1
  have HPL : Hid (p < W0.heap.size) := hpl
  clear hW1 hR hb01 hs1 hx1 hpl
  go_enter Tryz.func169, Tryz.ntmps169
  go_wp2
  rw [← HW0.out, ← Hp.out]
  refine wp_region_held_drew (S := fun w' => w'.cell? ⟨p, 0, none⟩ = some (tx nm) ∧ w'.cell? ⟨p, 1, none⟩ = some (.int .i64 (to : Int))) (by kernel_rfl) ⟨c0, c1⟩ (fun hHeld => ?_)
  refine wpAnyH_take (i := 0) (v := ?_) rfl (by kernel_rfl) (by kernel_rfl) (by kernel_rfl) (fun _ _ _ h => h) (Or.inl ⟨by kernel_rfl, ?_⟩) (by assumption) ?_
  rotate_left
  · (intro w hSw; (try dsimp only at hSw); go_simp) <;> with_reducible rfl
  (try simp only [Act.put, List.getElem_toArray, List.getElem_cons_zero, List.setIfInBounds_toArray, List.set_cons_zero, List.set_cons_succ])
  refine wpAnyH_take (i := 1) (v := ?_) rfl (by kernel_rfl) (by kernel_rfl) (by kernel_rfl) (fun _ _ _ h => h) (Or.inl ⟨by kernel_rfl, ?_⟩) (by assumption) ?_
  rotate_left
  · (intro w hSw; (try dsimp only at hSw); go_simp) <;> with_reducible rfl
  (try simp only [Act.put, List.getElem_toArray, List.getElem_cons_zero, List.getElem_cons_succ, List.setIfInBounds_toArray, List.set_cons_zero, List.set_cons_succ])
  refine wpAnyH_take (i := 2) (v := ?_) rfl (by kernel_rfl) (by kernel_rfl) (by kernel_rfl) (fun _ _ _ h => h) (Or.inl ⟨by kernel_rfl, ?_⟩) (by assumption) ?_
  rotate_left
  · (intro w hSw; (try dsimp only at hSw); go_simp) <;> with_reducible rfl
  (try simp only [Act.put, List.getElem_toArray, List.getElem_cons_zero, List.getElem_cons_succ, List.setIfInBounds_toArray, List.set_cons_zero, List.set_cons_succ])
  refine wpAnyH_take (i := 3) (v := ?_) rfl (by kernel_rfl) (by kernel_rfl) (by kernel_rfl) (fun _ _ _ h => h) (Or.inl ⟨by kernel_rfl, ?_⟩) (by assumption) ?_
  rotate_left
  · (intro w hSw; (try dsimp only at hSw); go_simp) <;> with_reducible rfl
  (try simp only [Act.put, List.getElem_toArray, List.getElem_cons_zero, List.getElem_cons_succ, List.setIfInBounds_toArray, List.set_cons_zero, List.set_cons_succ])
  refine wpAnyH_take (i := 4) (v := ?_) rfl (by kernel_rfl) (by kernel_rfl) (by kernel_rfl) (fun _ _ _ h => h) (Or.inl ⟨by kernel_rfl, ?_⟩) (by assumption) ?_
  rotate_left
  · (intro w hSw; (try dsimp only at hSw); go_simp) <;> with_reducible rfl
  (try simp only [Act.put, List.getElem_toArray, List.getElem_cons_zero, List.getElem_cons_succ, List.setIfInBounds_toArray, List.set_cons_zero, List.set_cons_succ])
  refine wpAnyH_take (i := 5) (v := ?_) rfl (by kernel_rfl) (by kernel_rfl) (by kernel_rfl) (fun _ _ _ h => h) (Or.inl ⟨by kernel_rfl, ?_⟩) (by assumption) ?_
  rotate_left
  · (intro w hSw; (try dsimp only at hSw); go_simp) <;> with_reducible rfl
  (try simp only [Act.put, List.getElem_toArray, List.getElem_cons_zero, List.getElem_cons_succ, List.setIfInBounds_toArray, List.set_cons_zero, List.set_cons_succ])
  refine wpAnyH_take (i := 8) (v := ?_) rfl (by kernel_rfl) (by kernel_rfl) (by kernel_rfl) (fun _ _ _ h => h) (Or.inl ⟨by kernel_rfl, ?_⟩) (by assumption) ?_
  rotate_left
  · (intro w hSw; (try dsimp only at hSw); go_simp) <;> with_reducible rfl
  (try simp only [Act.put, List.getElem_toArray, List.getElem_cons_zero, List.getElem_cons_succ, List.setIfInBounds_toArray, List.set_cons_zero, List.set_cons_succ])
  refine wpAnyH_take (i := 9) (v := ?_) rfl (by kernel_rfl) (by kernel_rfl) (by kernel_rfl) (fun _ _ _ h => h) (Or.inl ⟨by kernel_rfl, ?_⟩) (by assumption) ?_
  rotate_left
  · (intro w hSw; (try dsimp only at hSw); go_simp) <;> with_reducible rfl
  (try simp only [Act.put, List.getElem_toArray, List.getElem_cons_zero, List.getElem_cons_succ, List.setIfInBounds_toArray, List.set_cons_zero, List.set_cons_succ])
  refine wpAnyH_take (i := 10) (v := ?_) rfl (by kernel_rfl) (by kernel_rfl) (by kernel_rfl) (fun _ _ _ h => h) (Or.inl ⟨by kernel_rfl, ?_⟩) (by assumption) ?_
  rotate_left
  · (intro w hSw; (try dsimp only at hSw); go_simp) <;> with_reducible rfl
  (try simp only [Act.put, List.getElem_toArray, List.getElem_cons_zero, List.getElem_cons_succ, List.setIfInBounds_toArray, List.set_cons_zero, List.set_cons_succ])
  refine wpAnyH_ready (rs := [6, 11]) (by kernel_rfl) (by simp) ?_
  refine AllReadyH.cons rfl (fun K hK => ?_) (AllReadyH.cons rfl (fun K hK => ?_) AllReadyH.nil)
  · go_simp
    refine hRA.mono ?_
    rintro e w2 ⟨rfl, hb2, d0, d1⟩
    have HB2 : Hid (Below w.heap.size w w2) := HB0.out.trans ((((Below.refl _ W0).drew).trans hb2).mono HB0.out.size)
    have hpl2 : p < w2.heap.size := cell_lt d0
    clear hb2
    refine hK.out _ _ ⟨d0, d1⟩ (fun hHeld => ?_)
    clear hK K
    (try simp only [Act.put, List.getElem_toArray, List.getElem_cons_zero, List.getElem_cons_succ, List.setIfInBounds_toArray, List.set_cons_zero, List.set_cons_succ])
    refine wpAnyH_take (i := 7) (v := ?_) rfl (by kernel_rfl) (by kernel_rfl) (by kernel_rfl) (fun _ _ _ h => h) (Or.inl ⟨by kernel_rfl, ?_⟩) (by assumption) ?_
    rotate_left
    · (intro w hSw; (try dsimp only at hSw); go_simp) <;> with_reducible rfl
    (try simp only [Act.put, List.getElem_toArray, List.getElem_cons_zero, List.getElem_cons_succ, List.setIfInBounds_toArray, List.set_cons_zero, List.set_cons_succ])
    refine wpAnyH_ready (rs := [11]) (by kernel_rfl) (by simp) ?_
    refine AllReadyH.cons rfl (fun K hK => ?_) AllReadyH.nil
    go_simp
    refine hK.out _ _ ⟨by rw [(below_alloc w2 _).cell (p := ⟨p, 0, none⟩) hpl2]; exact d0, by rw [(below_alloc w2 _).cell (p := ⟨p, 1, none⟩) hpl2]; exact d1⟩ (fun hHeld => ?_)
    clear hK K
    (try simp only [Act.put, List.getElem_toArray, List.getElem_cons_zero, List.getElem_cons_succ, List.setIfInBounds_toArray, List.set_cons_zero, List.set_cons_succ])
    refine wpAnyH_ready (rs := [12]) (by kernel_rfl) (by simp) ?_
    refine AllReadyH.cons rfl (fun K hK => ?_) AllReadyH.nil
    go_simp
    refine hK.out _ _ ⟨by rw [(below_alloc w2 _).cell (p := ⟨p, 0, none⟩) hpl2]; exact d0, by rw [(below_alloc w2 _).cell (p := ⟨p, 1, none⟩) hpl2]; exact d1⟩ (fun hHeld => ?_)
    clear hK K
    (try simp only [Act.put, List.getElem_toArray, List.getElem_cons_zero, List.getElem_cons_succ, List.setIfInBounds_toArray, List.set_cons_zero, List.set_cons_succ])
    refine wpAnyH_take (i := 13) (v := ?_) rfl (by kernel_rfl) (by kernel_rfl) (by kernel_rfl) (fun _ _ _ h => h) (Or.inl ⟨by kernel_rfl, ?_⟩) (by assumption) ?_
    rotate_left
    · (intro w hSw; (try dsimp only at hSw); go_simp) <;> with_reducible rfl
    (try simp only [Act.put, List.getElem_toArray, List.getElem_cons_zero, List.getElem_cons_succ, List.setIfInBounds_toArray, List.set_cons_zero, List.set_cons_succ])
    refine wpAnyH_take (i := 14) (v := ?_) rfl (by kernel_rfl) (by kernel_rfl) (by kernel_rfl) (fun _ _ _ h => h) (Or.inl ⟨by kernel_rfl, ?_⟩) (by assumption) ?_
    rotate_left
    · (intro w hSw; (try dsimp only at hSw); go_simp) <;> with_reducible rfl
    (try simp only [Act.put, List.getElem_toArray, List.getElem_cons_zero, List.getElem_cons_succ, List.setIfInBounds_toArray, List.set_cons_zero, List.set_cons_succ])
    refine wpAnyH_done (by kernel_rfl) ?_ _
    go_wp2
    go_ret
    exact ⟨by rw [List.append_assoc]; rfl, HB2.out.trans ((below_alloc _ _).mono HB2.out.size)⟩
  · go_simp
    rw [← HW1.out]
    refine hK.out _ _ ⟨b0, b1⟩ (fun hHeld => ?_)
    clear hK K
    (try simp only [Act.put, List.getElem_toArray, List.getElem_cons_zero, List.getElem_cons_succ, List.setIfInBounds_toArray, List.set_cons_zero, List.set_cons_succ])
    refine wpAnyH_ready (rs := [6, 12]) (by kernel_rfl) (by simp) ?_
    refine AllReadyH.cons rfl (fun K hK => ?_) (AllReadyH.cons rfl (fun K hK => ?_) AllReadyH.nil)
    · go_simp
      refine hRB.mono ?_
      rintro e w2 ⟨rfl, hb2, d0, d1⟩
      have HB2 : Hid (Below w.heap.size w w2) := HB0.out.trans ((HB1.out.1.trans (hb2.mono (by have := HB1.out.2; omega))).mono HB0.out.size)
      have hcq := conv_one h2 ((hb2.block W0.heap.size (by have := HB1.out.2; omega)).trans HX1.out)
      clear hb2
      refine hK.out _ _ ⟨d0, d1⟩ (fun hHeld => ?_)
      clear hK K
      (try simp only [Act.put, List.getElem_toArray, List.getElem_cons_zero, List.getElem_cons_succ, List.setIfInBounds_toArray, List.set_cons_zero, List.set_cons_succ])
      refine wpAnyH_take (i := 7) (v := ?_) rfl (by kernel_rfl) (by kernel_rfl) (by kernel_rfl) (fun _ _ _ h => h) (Or.inl ⟨by kernel_rfl, ?_⟩) (by assumption) ?_
      rotate_left
      · (intro w hSw; (try dsimp only at hSw); go_simp) <;> with_reducible rfl
      (try simp only [Act.put, List.getElem_toArray, List.getElem_cons_zero, List.getElem_cons_succ, List.setIfInBounds_toArray, List.set_cons_zero, List.set_cons_succ])
      refine wpAnyH_ready (rs := [12]) (by kernel_rfl) (by simp) ?_
      refine AllReadyH.cons rfl (fun K hK => ?_) AllReadyH.nil
      go_simp
      refine hK.out _ _ ⟨d0, d1⟩ (fun hHeld => ?_)
      clear hK K
      (try simp only [Act.put, List.getElem_toArray, List.getElem_cons_zero, List.getElem_cons_succ, List.setIfInBounds_toArray, List.set_cons_zero, List.set_cons_succ])
      refine wpAnyH_take (i := 13) (v := ?_) rfl (by kernel_rfl) (by kernel_rfl) (by kernel_rfl) (fun _ _ _ h => h) (Or.inl ⟨by kernel_rfl, ?_⟩) (by assumption) ?_
      rotate_left
      · (intro w hSw; (try dsimp only at hSw); go_simp) <;> with_reducible rfl
      (try simp only [Act.put, List.getElem_toArray, List.getElem_cons_zero, List.getElem_cons_succ, List.setIfInBounds_toArray, List.set_cons_zero, List.set_cons_succ])
      refine wpAnyH_take (i := 14) (v := ?_) rfl (by kernel_rfl) (by kernel_rfl) (by kernel_rfl) (fun _ _ _ h => h) (Or.inl ⟨by kernel_rfl, ?_⟩) (by assumption) ?_
      rotate_left
      · (intro w hSw; (try dsimp only at hSw); go_simp) <;> with_reducible rfl
      (try simp only [Act.put, List.getElem_toArray, List.getElem_cons_zero, List.getElem_cons_succ, List.setIfInBounds_toArray, List.set_cons_zero, List.set_cons_succ])
      refine wpAnyH_done (by kernel_rfl) ?_ _
      go_wp2
      go_ret
      exact ⟨by rw [List.append_assoc]; rfl, HB2.out⟩
    · go_simp
      refine hK.out _ _ ⟨b0, b1⟩ (fun hHeld => ?_)
      clear hK K
      (try simp only [Act.put, List.getElem_toArray, List.getElem_cons_zero, List.getElem_cons_succ, List.setIfInBounds_toArray, List.set_cons_zero, List.set_cons_succ])
      refine wpAnyH_ready (rs := [6]) (by kernel_rfl) (by simp) ?_
      refine AllReadyH.cons rfl (fun K hK => ?_) AllReadyH.nil
      go_simp
      refine hRB.mono ?_
      rintro e w2 ⟨rfl, hb2, d0, d1⟩
      have HB2 : Hid (Below w.heap.size w w2) := HB0.out.trans ((HB1.out.1.trans (hb2.mono (by have := HB1.out.2; omega))).mono HB0.out.size)
      clear hb2
      refine hK.out _ _ ⟨d0, d1⟩ (fun hHeld => ?_)
      clear hK K
      (try simp only [Act.put, List.getElem_toArray, List.getElem_cons_zero, List.getElem_cons_succ, List.setIfInBounds_toArray, List.set_cons_zero, List.set_cons_succ])
      refine wpAnyH_take (i := 7) (v := ?_) rfl (by kernel_rfl) (by kernel_rfl) (by kernel_rfl) (fun _ _ _ h => h) (Or.inl ⟨by kernel_rfl, ?_⟩) (by assumption) ?_
      rotate_left
      · (intro w hSw; (try dsimp only at hSw); go_simp) <;> with_reducible rfl
      (try simp only [Act.put, List.getElem_toArray, List.getElem_cons_zero, List.getElem_cons_succ, List.setIfInBounds_toArray, List.set_cons_zero, List.set_cons_succ])
      refine wpAnyH_take (i := 13) (v := ?_) rfl (by kernel_rfl) (by kernel_rfl) (by kernel_rfl) (fun _ _ _ h => h) (Or.inl ⟨by kernel_rfl, ?_⟩) (by assumption) ?_
      rotate_left
      · (intro w hSw; (try dsimp only at hSw); go_simp) <;> with_reducible rfl
      (try simp only [Act.put, List.getElem_toArray, List.getElem_cons_zero, List.getElem_cons_succ, List.setIfInBounds_toArray, List.set_cons_zero, List.set_cons_succ])
      refine wpAnyH_take (i := 14) (v := ?_) rfl (by kernel_rfl) (by kernel_rfl) (by kernel_rfl) (fun _ _ _ h => h) (Or.inl ⟨by kernel_rfl, ?_⟩) (by assumption) ?_
      rotate_left
      · (intro w hSw; (try dsimp only at hSw); go_simp) <;> with_reducible rfl
      (try simp only [Act.put, List.getElem_toArray, List.getElem_cons_zero, List.getElem_cons_succ, List.setIfInBounds_toArray, List.set_cons_zero, List.set_cons_succ])
      refine wpAnyH_done (by kernel_rfl) ?_ _
      go_wp2
      go_ret
      exact ⟨by rw [List.append_assoc]; rfl, HB2.out⟩
theorem encs_take {l : List Ent} {k : Nat} {e : Ent} (h : l[k]? = some e) : Lib.byteCells (encsE (l.take k)) ++ Lib.strCells ⟨(encE e).toArray⟩ = Lib.byteCells (encsE (l.take (k + 1))) := by
  have e1 : l.take (k + 1) = l.take k ++ [e] := by rw [List.take_add_one, h]; rfl
  have e2 : encsE [e] = encE e := List.append_nil _
  rw [e1, encsE_app, e2]
  show List.map _ _ ++ List.map _ _ = List.map _ _
  rw [← List.map_append]
theorem encE_le {e : Ent} (h : e.name.length ≤ 8) : (encE e).length ≤ 9 := by simp [encE]; omega
theorem encsE_le : ∀ {l : List Ent}, (∀ e ∈ l, e.name.length ≤ 8) → (encsE l).length ≤ 9 * l.length
  | [], _ => Nat.le_refl _
  | e :: l, h => by
    have h1 := encE_le (h e List.mem_cons_self)
    have h2 := encsE_le (l := l) (fun x hx => h x (List.mem_cons_of_mem _ hx))
    simp only [encsE, List.length_append, List.length_cons]
    omega
set_option maxHeartbeats 2000000 in
set_option maxRecDepth 100000 in
theorem texts_at {w : World} {base : Nat} {v : Value} {l : List Ent} (h : Et w base v l) (hl : l.length ≤ 1000) (hok : ∀ e ∈ l, e.name.length ≤ 8 ∧ e.to < 256) :
    Calls Tryz.prog 190 #[v] w fun e w' => e = .returned (tx (encsE l)) ∧ Below w.heap.size w w' := by
  obtain ⟨a, cap, rfl, hcap⟩ := h.form
  have HE : Hid (Et w base (.slice a l.length cap) l) := h
  have HO : Hid (∀ e ∈ l, e.name.length ≤ 8 ∧ e.to < 256) := hok
  obtain ⟨b, hb⟩ : ∃ b, b = w.heap.size := ⟨_, rfl⟩
  obtain ⟨W0, hW0⟩ : ∃ W, W = w.alloc (.cells #[.pointer none, .slice none 0 0] 275) := ⟨_, rfl⟩
  have HW0 : Hid (W0 = w.alloc (.cells #[.pointer none, .slice none 0 0] 275)) := hW0
  have Hb : Hid (b = w.heap.size) := hb
  have HS0 : Hid (Bld w.heap.size b (Lib.byteCells (encsE (l.take 0))) W0 ∧ Below w.heap.size w W0) := by
    refine ⟨Or.inl ⟨by omega, .slice none 0 0, by rw [hb, hW0]; exact heap_alloc_new _ _, World.ownsRowF_nil _ _ _ _, by simp [Value.ownBlock]⟩, by rw [hW0]; exact below_alloc _ _⟩
  clear h hcap hok hb hW0
  go_enter Tryz.func190, Tryz.ntmps190
  go_wp2
  rw [← HW0.out, ← Hb.out]
  go_loopw [5, 8] (fun s5 s8 wr => ∃ (k : Nat) (u5 : Value), u5 = s5 ∧ s8 = .int .i64 k ∧ k ≤ l.length ∧ Hid (Bld w.heap.size b (Lib.byteCells (encsE (l.take k))) wr ∧ Below w.heap.size w wr)) (fun _ s8 _ => l.length - (RowKit.intOf s8).toNat)
  case atStart => exact ⟨0, _, rfl, rfl, by omega, HS0⟩
  case round =>
    obtain ⟨k, u5, rfl, rfl, hk, HS⟩ := hrel
    clear HS0 HW0
    by_cases hlt : k < l.length
    · obtain ⟨e, he⟩ : ∃ e, l[k]? = some e := ⟨l[k], List.getElem?_eq_getElem hlt⟩
      obtain ⟨g, o, rfl, c0, c1⟩ := (HE.out.below HS.out.2).at he
      have HK : Hid (l[k]? = some e) := he
      have hint : (k : Int) < (l.length : Int) := by omega
      obtain ⟨q1, q2⟩ := HO.out e (List.mem_of_getElem? he)
      obtain ⟨W1, hW1⟩ : ∃ W, W = wr.alloc (.cells #[tx e.name, .int .i64 (e.to : Int)] 219) := ⟨_, rfl⟩
      have HW1 : Hid (W1 = wr.alloc (.cells #[tx e.name, .int .i64 (e.to : Int)] 219)) := hW1
      obtain ⟨p, hp⟩ : ∃ p, p = wr.heap.size := ⟨_, rfl⟩
      have Hp : Hid (p = wr.heap.size) := hp
      have hx : W1.heap[p]? = some (.cells #[tx e.name, .int .i64 (e.to : Int)] 219) := by rw [hp, hW1]; exact heap_alloc_new _ _
      have d0 : W1.cell? ⟨p, 0, none⟩ = some (tx e.name) := by rw [cell_of_heap hx]; rfl
      have d1 : W1.cell? ⟨p, 1, none⟩ = some (.int .i64 (e.to : Int)) := by rw [cell_of_heap hx]; rfl
      have hb1 : Below wr.heap.size wr W1 := by rw [hW1]; exact below_alloc _ _
      have HS1 : Hid (Bld w.heap.size b (Lib.byteCells (encsE (l.take k))) W1 ∧ Below w.heap.size w W1) := ⟨HS.out.1.below hb1, HS.out.2.trans (hb1.mono HS.out.2.size)⟩
      have hT := text_at e.name e.to q1 q2 W1
      clear he hx hb1 hW1 hp q1 q2
      go_wp2_with fail
      rw [← HW1.out, ← Hp.out]
      go_wp2_with fail
      refine hT.mono ?_
      rintro x w2 ⟨rfl, hb2⟩
      have HS2 : Hid (Bld w.heap.size b (Lib.byteCells (encsE (l.take k))) w2 ∧ Below w.heap.size w w2) := ⟨HS1.out.1.below hb2, HS1.out.2.trans (hb2.mono HS1.out.2.size)⟩
      have hWs := writeString_at w.heap.size b _ (encE e) w2 HS2.out.1 (by
        have a1 := encE_le (HO.out e (List.mem_of_getElem? HK.out)).1
        have a2 := encsE_le (l := l.take k) (fun x hx => (HO.out x (List.mem_of_mem_take hx)).1)
        have a3 : (l.take k).length ≤ l.length := by rw [List.length_take]; omega
        rw [Lib.byteCells_length]
        omega) HS2.out.2.size
      rw [encs_take HK.out] at hWs
      clear hT hb2 HS1 HS
      go_wp2_with fail
      refine hWs.mono ?_
      rintro x w3 ⟨rfl, hB3, hb3⟩
      have HS3 : Hid (Bld w.heap.size b (Lib.byteCells (encsE (l.take (k + 1)))) w3 ∧ Below w.heap.size w w3) := ⟨Or.inr hB3, HS2.out.2.trans hb3⟩
      clear hWs hB3 hb3 HS2
      go_wp2
      go_roundw
      case rel => exact ⟨k + 1, _, rfl, by go_num, by omega, HS3⟩
      case measure => simp [RowKit.intOf]; omega
    · have hnl : ¬ (k : Int) < (l.length : Int) := by omega
      have hSt := bldString_at w.heap.size b _ wr HS.out.1 HS.out.2.size
      have HB : Hid (Below w.heap.size w wr) := HS.out.2
      rw [List.take_of_length_le (show l.length ≤ k by omega)] at hSt
      clear HS
      go_wp2_with fail
      refine hSt.mono ?_
      rintro x w2 ⟨rfl, hB2, hb2⟩
      have HB2 : Hid (Below w.heap.size w w2) := HB.out.trans hb2
      clear hSt hB2 hb2
      go_wp2
      go_ret
      exact ⟨rfl, HB2.out⟩
end Go.Proofs.YtcjpahnlckfgoaaGreatDoor
