/- The walk of januslaw08.CapsPlays. -/
import Derived.Test.YtfhkdcbhkjkkgaaDo8
namespace Go.Proofs.Ytfhkdcbhkjkkgaa
open Go.RowKit
set_option linter.unusedVariables false

theorem cap_same (k i l r : Int) (W : World) : (binOp .neq 30 (.agg #[.int .i64 k, .int .i64 i, .int .i64 l, .int .i64 r]) (.agg #[.int .i64 k, .int .i64 i, .int .i64 l, .int .i64 r])).run Try.prog W = .ok (.bool false) W := by
  go_simp
theorem updp_below {b c : Nat} {w w1 w2 : World} (h : Below w.heap.size w w1) (hu : UpdP (fun k => k = b ∨ k = c) w1 w2) (hb : w.heap.size ≤ b) (hc : w.heap.size ≤ c) : Below w.heap.size w w2 :=
  h.trans (hu.below (by rintro k (rfl | rfl) <;> omega) h.size)
/-- A deed's cells, all nine. -/
def Nine (w : World) (B : Nat) (kd env slot tg rt x0 x1 x2 x3 : Int) : Prop := w.heap[B]? = some (.cells #[.int .i64 kd, .int .i64 env, .int .i64 slot, .int .i64 tg, .int .i64 rt, .int .i64 x0, .int .i64 x1, .int .i64 x2, .int .i64 x3] 32)
theorem Nine.cells {w : World} {B : Nat} {kd env slot tg rt x0 x1 x2 x3 : Int} (h : Nine w B kd env slot tg rt x0 x1 x2 x3) : w.cell? ⟨B, 0, none⟩ = some (.int .i64 kd) ∧ w.cell? ⟨B, 1, none⟩ = some (.int .i64 env) ∧ w.cell? ⟨B, 2, none⟩ = some (.int .i64 slot) ∧ w.cell? ⟨B, 3, none⟩ = some (.int .i64 tg) ∧ w.cell? ⟨B, 4, none⟩ = some (.int .i64 rt) ∧ w.cell? ⟨B, 5, none⟩ = some (.int .i64 x0) ∧ w.cell? ⟨B, 6, none⟩ = some (.int .i64 x1) ∧ w.cell? ⟨B, 7, none⟩ = some (.int .i64 x2) ∧ w.cell? ⟨B, 8, none⟩ = some (.int .i64 x3) := by
  refine ⟨?_, ?_, ?_, ?_, ?_, ?_, ?_, ?_, ?_⟩ <;> (rw [cell_of_heap h]; rfl)
theorem Nine.below {w w' : World} {B : Nat} {kd env slot tg rt x0 x1 x2 x3 : Int} (h : Nine w B kd env slot tg rt x0 x1 x2 x3) (hb : Below w.heap.size w w') : Nine w' B kd env slot tg rt x0 x1 x2 x3 := (hb.block _ (lt_of_heap h)).trans h

set_option maxRecDepth 100000 in
set_option maxHeartbeats 8000000 in
theorem plays_walk (a0' : Option Addr) (len cap : Nat) (w : World) (hlen : len ≤ 9223372036854775807) (hdeeds : Hid (DeedsAt w a0' len)) :
    Calls Try.prog 3 #[.slice a0' len cap] w fun e w' => e = .returned (.bool true) ∧ Below w.heap.size w w' := by
  go_enter Try.func3, Try.ntmps3
  go_wp2_with fail
  refine (new_at w).mono ?_
  rintro e w1 ⟨rfl, hC, hB, hsz⟩
  obtain ⟨b, hbq⟩ : ∃ b, b = w.heap.size := ⟨_, rfl⟩
  rw [← hbq] at hC ⊢
  have hbb : w.heap.size ≤ b := by omega
  obtain ⟨W, hW⟩ : ∃ W, W = w1.alloc (.cells #[.slice none 0 0, .int .i64 0] 28) := ⟨_, rfl⟩
  have hbW : Below w1.heap.size w1 W := by rw [hW]; exact below_alloc _ _
  obtain ⟨c, hcq⟩ : ∃ c, c = w1.heap.size := ⟨_, rfl⟩
  have HBo : Hid (Both W b c a0 [] 0) := by
    refine ⟨hC.below hbW, ⟨.slice none 0 0, ⟨?_, World.ownsRow_nil _ _ _ _, fun _ => rfl⟩⟩, Rel.zero, by omega, by omega⟩
    rw [hcq, hW]
    exact heap_alloc_new _ _
  have HB : Hid (Below w.heap.size w W) := hB.trans (hbW.mono hB.size)
  have hcc : w.heap.size ≤ c := by omega
  have hne : ∀ V, (binOp .eql 23 (.pointer (some ⟨b, 0, none⟩)) (.pointer none)).run Try.prog V = .ok (.bool false) V := fun V => by go_simp
  have HW : Hid _ := hW
  have HCQ : Hid _ := hcq
  clear hC hB hbW hbq hW hcq hsz
  go_wp2
  rw [← HW.out, ← HCQ.out]
  clear HW HCQ
  go_loopw [5] (fun s wr => ∃ (k : Nat) (T : Tab) (L : List Ce) (last : Int), k ≤ len ∧ k ≤ 150 ∧ s = .int .i64 k ∧ Both wr b c T L last ∧ L.length ≤ k ∧ last ≤ k ∧ Below w.heap.size w wr) (fun s _ => 150 - (intOf s).toNat)
  case atStart => exact ⟨0, a0, [], 0, by omega, by omega, rfl, HBo.out, by simp, by simp, HB.out⟩
  case round =>
    clear HBo HB
    obtain ⟨k, T, L, last, hk, hk1, rfl, hBo, hL, hla, hB⟩ := hrel
    by_cases hlt : k < len ∧ k < 150
    · obtain ⟨hkl, hk150⟩ := hlt
      obtain ⟨gb, off, d, rfl, hfit, ⟨e0, e1, e2, e3, e4⟩, e5, e6, e7, e8⟩ := (hdeeds.out.below hB) k hkl
      have HI64 : Hid (I64 d.x.id) := hfit.x1
      obtain ⟨kd, env, slot, tg, rt, x0, x1, x2, x3⟩ := d
      dsimp only at *
      have g0 : decide ((k : Int) < (len : Int)) = true := decide_eq_true (by omega)
      have g1 : decide ((k : Int) < 150) = true := decide_eq_true (by omega)
      have ik : (k : Int) < (len : Int) := by omega
      obtain ⟨V, hV⟩ : ∃ V, V = wr.alloc (.cells #[.int .i64 kd, .int .i64 env, .int .i64 slot, .int .i64 tg, .int .i64 rt, .int .i64 x0, .int .i64 x1, .int .i64 x2, .int .i64 x3] 32) := ⟨_, rfl⟩
      have hbV : Below wr.heap.size wr V := by rw [hV]; exact below_alloc _ _
      have hN : Nine V wr.heap.size kd env slot tg rt x0 x1 x2 x3 := by rw [hV]; exact heap_alloc_new _ _
      have hBoV := hBo.below hbV
      have hBV : Below w.heap.size w V := hB.trans (hbV.mono hB.size)
      have hBq := hBo.lt
      have hbcq := hBo.bc
      obtain ⟨B, hBn⟩ : ∃ B, B = wr.heap.size := ⟨_, rfl⟩
      have hdr : Below V.heap.size V V.drew := (Below.refl _ _).drew
      have HNd : Hid _ := hN.below hdr
      have HBd : Hid _ := hBoV.below hdr
      have HWd : Hid _ := hBV.drew
      have HV : Hid _ := hV
      rw [← hBn] at HNd hBq
      have HBn : Hid _ := hBn
      clear hV hbV hBo hB hN hBoV hBV hdr hfit hBn
      go_wp2_with fail
      rw [← HV.out, ← HBn.out]
      clear e0 e1 e2 e3 e4 e5 e6 e7 e8
      refine wp_region_held_drew (S := fun w' => w'.cell? ⟨B, 0, none⟩ = some (.int .i64 kd) ∧ w'.cell? ⟨B, 1, none⟩ = some (.int .i64 env) ∧ w'.cell? ⟨B, 2, none⟩ = some (.int .i64 slot) ∧ w'.cell? ⟨B, 3, none⟩ = some (.int .i64 tg) ∧ w'.cell? ⟨B, 4, none⟩ = some (.int .i64 rt) ∧ w'.cell? ⟨B, 5, none⟩ = some (.int .i64 x0) ∧ w'.cell? ⟨B, 6, none⟩ = some (.int .i64 x1) ∧ w'.cell? ⟨B, 7, none⟩ = some (.int .i64 x2) ∧ w'.cell? ⟨B, 8, none⟩ = some (.int .i64 x3)) (by kernel_rfl) (Nine.cells HNd.out) (fun hHeld => ?_)
      refine wpAnyH_take (i := 0) (v := ?_) rfl (by kernel_rfl) (by kernel_rfl) (by kernel_rfl) (fun _ _ _ h => h) (Or.inl ⟨by kernel_rfl, ?_⟩) (by assumption) ?_
      rotate_left
      · (intro w hSw; (try dsimp only at hSw); go_simp) <;> with_reducible rfl
      (try simp only [Act.put, List.getElem_toArray, List.getElem_cons_zero, List.setIfInBounds_toArray, List.set_cons_zero, List.set_cons_succ])
      refine wpAnyH_take (i := 1) (v := ?_) rfl (by kernel_rfl) (by kernel_rfl) (by kernel_rfl) (fun _ _ _ h => h) (Or.inl ⟨by kernel_rfl, ?_⟩) (by assumption) ?_
      rotate_left
      · (intro w hSw; (try dsimp only at hSw); go_simp) <;> with_reducible rfl
      (try simp only [Act.put, List.getElem_toArray, List.getElem_cons_zero, List.getElem_cons_succ, List.setIfInBounds_toArray, List.set_cons_zero, List.set_cons_succ])
      refine wpAnyH_take (i := 2) (v := ?_) rfl (by kernel_rfl) (by kernel_rfl) (by kernel_rfl) (fun _ _ _ h => h) (Or.inl ⟨by kernel_rfl, ?_⟩) (by assumption) ?_
      rotate_left
      · (intro w hSw; (try dsimp only at hSw); go_simp) <;> with_reducible rfl
      (try simp only [Act.put, List.getElem_toArray, List.getElem_cons_zero, List.getElem_cons_succ, List.setIfInBounds_toArray, List.set_cons_zero, List.set_cons_succ])
      refine wpAnyH_ready (rs := [3]) (by kernel_rfl) (by simp) ?_
      refine AllReadyH.cons rfl (fun K hK => ?_) AllReadyH.nil
      go_simp
      refine (do_at b c T L last ⟨kd, env, slot, tg, rt, ⟨x0, x1, x2, x3⟩⟩ V.drew HBd.out (by omega) (by omega)).mono ?_
      rintro e w2 ⟨rfl, T2, L2, last2, hBo2, hL2, hla2, hU2⟩
      have HN2 : Hid (Nine w2 B kd env slot tg rt x0 x1 x2 x3) := (hU2.block _ (lt_of_heap HNd.out) (by omega)).trans HNd.out
      have HW2 : Hid (Below w.heap.size w w2) := updp_below HWd.out hU2 hbb hcc
      have HBo2 : Hid _ := hBo2
      clear hU2 HNd HWd HBd hBo2
      refine hK.out _ _ (Nine.cells HN2.out) (fun hHeld => ?_)
      clear hK K
      (try simp only [Act.put, List.getElem_toArray, List.getElem_cons_zero, List.getElem_cons_succ, List.setIfInBounds_toArray, List.set_cons_zero, List.set_cons_succ])
      obtain ⟨sv2, hR2⟩ := HBo2.out.ref
      have hsn := HBo2.out.rel.sanes
      have hrsn := HBo2.out.rel.rsanes
      refine wpAnyH_take (i := 4) (v := ?_) rfl (by kernel_rfl) (by kernel_rfl) (by kernel_rfl) (fun _ _ _ h => h) (Or.inl ⟨by kernel_rfl, ?_⟩) (by assumption) ?_
      rotate_left
      · (intro w hSw; (try dsimp only at hSw); go_simp) <;> with_reducible rfl
      (try simp only [Act.put, List.getElem_toArray, List.getElem_cons_zero, List.getElem_cons_succ, List.setIfInBounds_toArray, List.set_cons_zero, List.set_cons_succ])
      refine wpAnyH_take (i := 5) (v := ?_) rfl (by kernel_rfl) (by kernel_rfl) (by kernel_rfl) (fun _ _ _ h => h) (Or.inl ⟨by kernel_rfl, ?_⟩) (by assumption) ?_
      rotate_left
      · (intro w hSw; (try dsimp only at hSw); go_simp) <;> with_reducible rfl
      (try simp only [Act.put, List.getElem_toArray, List.getElem_cons_zero, List.getElem_cons_succ, List.setIfInBounds_toArray, List.set_cons_zero, List.set_cons_succ])
      refine wpAnyH_take (i := 6) (v := ?_) rfl (by kernel_rfl) (by kernel_rfl) (by kernel_rfl) (fun _ _ _ h => h) (Or.inl ⟨by kernel_rfl, ?_⟩) (by assumption) ?_
      rotate_left
      · (intro w hSw; (try dsimp only at hSw); go_simp) <;> with_reducible rfl
      (try simp only [Act.put, List.getElem_toArray, List.getElem_cons_zero, List.getElem_cons_succ, List.setIfInBounds_toArray, List.set_cons_zero, List.set_cons_succ])
      refine wpAnyH_take (i := 7) (v := ?_) rfl (by kernel_rfl) (by kernel_rfl) (by kernel_rfl) (fun _ _ _ h => h) (Or.inl ⟨by kernel_rfl, ?_⟩) (by assumption) ?_
      rotate_left
      · (intro w hSw; (try dsimp only at hSw); go_simp) <;> with_reducible rfl
      (try simp only [Act.put, List.getElem_toArray, List.getElem_cons_zero, List.getElem_cons_succ, List.setIfInBounds_toArray, List.set_cons_zero, List.set_cons_succ])
      refine wpAnyH_take (i := 8) (v := ?_) rfl (by kernel_rfl) (by kernel_rfl) (by kernel_rfl) (fun _ _ _ h => h) (Or.inl ⟨by kernel_rfl, ?_⟩) (by assumption) ?_
      rotate_left
      · (intro w hSw; (try dsimp only at hSw); go_simp) <;> with_reducible rfl
      (try simp only [Act.put, List.getElem_toArray, List.getElem_cons_zero, List.getElem_cons_succ, List.setIfInBounds_toArray, List.set_cons_zero, List.set_cons_succ])
      refine wpAnyH_take (i := 9) (v := ?_) rfl (by kernel_rfl) (by kernel_rfl) (by kernel_rfl) (fun _ _ _ h => h) (Or.inl ⟨by kernel_rfl, ?_⟩) (by assumption) ?_
      rotate_left
      · (intro w hSw; (try dsimp only at hSw); go_simp) <;> with_reducible rfl
      (try simp only [Act.put, List.getElem_toArray, List.getElem_cons_zero, List.getElem_cons_succ, List.setIfInBounds_toArray, List.set_cons_zero, List.set_cons_succ])
      refine wpAnyH_take (i := 10) (v := ?_) rfl (by kernel_rfl) (by kernel_rfl) (by kernel_rfl) (fun _ _ _ h => h) (Or.inl ⟨by kernel_rfl, ?_⟩) (by assumption) ?_
      rotate_left
      · (intro w hSw; (try dsimp only at hSw); go_simp) <;> with_reducible rfl
      (try simp only [Act.put, List.getElem_toArray, List.getElem_cons_zero, List.getElem_cons_succ, List.setIfInBounds_toArray, List.set_cons_zero, List.set_cons_succ])
      refine wpAnyH_take (i := 11) (v := ?_) rfl (by kernel_rfl) (by kernel_rfl) (by kernel_rfl) (fun _ _ _ h => h) (Or.inl ⟨by kernel_rfl, ?_⟩) (by assumption) ?_
      rotate_left
      · (intro w hSw; (try dsimp only at hSw); go_simp) <;> with_reducible rfl
      (try simp only [Act.put, List.getElem_toArray, List.getElem_cons_zero, List.getElem_cons_succ, List.setIfInBounds_toArray, List.set_cons_zero, List.set_cons_succ])
      refine wpAnyH_take (i := 12) (v := ?_) rfl (by kernel_rfl) (by kernel_rfl) (by kernel_rfl) (fun _ _ _ h => h) (Or.inl ⟨by kernel_rfl, ?_⟩) (by assumption) ?_
      rotate_left
      · (intro w hSw; (try dsimp only at hSw); go_simp) <;> with_reducible rfl
      (try simp only [Act.put, List.getElem_toArray, List.getElem_cons_zero, List.getElem_cons_succ, List.setIfInBounds_toArray, List.set_cons_zero, List.set_cons_succ])
      refine wpAnyH_take (i := 13) (v := ?_) rfl (by kernel_rfl) (by kernel_rfl) (by kernel_rfl) (fun _ _ _ h => h) (Or.inl ⟨by kernel_rfl, ?_⟩) (by assumption) ?_
      rotate_left
      · (intro w hSw; (try dsimp only at hSw); go_simp) <;> with_reducible rfl
      (try simp only [Act.put, List.getElem_toArray, List.getElem_cons_zero, List.getElem_cons_succ, List.setIfInBounds_toArray, List.set_cons_zero, List.set_cons_succ])
      refine wpAnyH_take (i := 14) (v := ?_) rfl (by kernel_rfl) (by kernel_rfl) (by kernel_rfl) (fun _ _ _ h => h) (Or.inl ⟨by kernel_rfl, ?_⟩) (by assumption) ?_
      rotate_left
      · (intro w hSw; (try dsimp only at hSw); go_simp) <;> with_reducible rfl
      (try simp only [Act.put, List.getElem_toArray, List.getElem_cons_zero, List.getElem_cons_succ, List.setIfInBounds_toArray, List.set_cons_zero, List.set_cons_succ])
      refine wpAnyH_take (i := 15) (v := ?_) rfl (by kernel_rfl) (by kernel_rfl) (by kernel_rfl) (fun _ _ _ h => h) (Or.inl ⟨by kernel_rfl, ?_⟩) (by assumption) ?_
      rotate_left
      · (intro w hSw; (try dsimp only at hSw); go_simp) <;> with_reducible rfl
      (try simp only [Act.put, List.getElem_toArray, List.getElem_cons_zero, List.getElem_cons_succ, List.setIfInBounds_toArray, List.set_cons_zero, List.set_cons_succ])
      refine wpAnyH_take (i := 16) (v := ?_) rfl (by kernel_rfl) (by kernel_rfl) (by kernel_rfl) (fun _ _ _ h => h) (Or.inl ⟨by kernel_rfl, ?_⟩) (by assumption) ?_
      rotate_left
      · (intro w hSw; (try dsimp only at hSw); go_simp) <;> with_reducible rfl
      (try simp only [Act.put, List.getElem_toArray, List.getElem_cons_zero, List.getElem_cons_succ, List.setIfInBounds_toArray, List.set_cons_zero, List.set_cons_succ])
      refine wpAnyH_take (i := 17) (v := ?_) rfl (by kernel_rfl) (by kernel_rfl) (by kernel_rfl) (fun _ _ _ h => h) (Or.inl ⟨by kernel_rfl, ?_⟩) (by assumption) ?_
      rotate_left
      · (intro w hSw; (try dsimp only at hSw); go_simp) <;> with_reducible rfl
      (try simp only [Act.put, List.getElem_toArray, List.getElem_cons_zero, List.getElem_cons_succ, List.setIfInBounds_toArray, List.set_cons_zero, List.set_cons_succ])
      refine wpAnyH_take (i := 19) (v := ?_) rfl (by kernel_rfl) (by kernel_rfl) (by kernel_rfl) (fun _ _ _ h => h) (Or.inl ⟨by kernel_rfl, ?_⟩) (by assumption) ?_
      rotate_left
      · (intro w hSw; (try dsimp only at hSw); go_simp) <;> with_reducible rfl
      (try simp only [Act.put, List.getElem_toArray, List.getElem_cons_zero, List.getElem_cons_succ, List.setIfInBounds_toArray, List.set_cons_zero, List.set_cons_succ])
      refine wpAnyH_take (i := 20) (v := ?_) rfl (by kernel_rfl) (by kernel_rfl) (by kernel_rfl) (fun _ _ _ h => h) (Or.inl ⟨by kernel_rfl, ?_⟩) (by assumption) ?_
      rotate_left
      · (intro w hSw; (try dsimp only at hSw); go_simp) <;> with_reducible rfl
      (try simp only [Act.put, List.getElem_toArray, List.getElem_cons_zero, List.getElem_cons_succ, List.setIfInBounds_toArray, List.set_cons_zero, List.set_cons_succ])
      refine wpAnyH_take (i := 21) (v := ?_) rfl (by kernel_rfl) (by kernel_rfl) (by kernel_rfl) (fun _ _ _ h => h) (Or.inl ⟨by kernel_rfl, ?_⟩) (by assumption) ?_
      rotate_left
      · (intro w hSw; (try dsimp only at hSw); go_simp) <;> with_reducible rfl
      (try simp only [Act.put, List.getElem_toArray, List.getElem_cons_zero, List.getElem_cons_succ, List.setIfInBounds_toArray, List.set_cons_zero, List.set_cons_succ])
      refine wpAnyH_take (i := 22) (v := ?_) rfl (by kernel_rfl) (by kernel_rfl) (by kernel_rfl) (fun _ _ _ h => h) (Or.inl ⟨by kernel_rfl, ?_⟩) (by assumption) ?_
      rotate_left
      · (intro w hSw; (try dsimp only at hSw); go_simp) <;> with_reducible rfl
      (try simp only [Act.put, List.getElem_toArray, List.getElem_cons_zero, List.getElem_cons_succ, List.setIfInBounds_toArray, List.set_cons_zero, List.set_cons_succ])
      refine wpAnyH_take (i := 23) (v := ?_) rfl (by kernel_rfl) (by kernel_rfl) (by kernel_rfl) (fun _ _ _ h => h) (Or.inl ⟨by kernel_rfl, ?_⟩) (by assumption) ?_
      rotate_left
      · (intro w hSw; (try dsimp only at hSw); go_simp) <;> with_reducible rfl
      (try simp only [Act.put, List.getElem_toArray, List.getElem_cons_zero, List.getElem_cons_succ, List.setIfInBounds_toArray, List.set_cons_zero, List.set_cons_succ])
      refine wpAnyH_take (i := 24) (v := ?_) rfl (by kernel_rfl) (by kernel_rfl) (by kernel_rfl) (fun _ _ _ h => h) (Or.inl ⟨by kernel_rfl, ?_⟩) (by assumption) ?_
      rotate_left
      · (intro w hSw; (try dsimp only at hSw); go_simp) <;> with_reducible rfl
      (try simp only [Act.put, List.getElem_toArray, List.getElem_cons_zero, List.getElem_cons_succ, List.setIfInBounds_toArray, List.set_cons_zero, List.set_cons_succ])
      refine wpAnyH_take (i := 25) (v := ?_) rfl (by kernel_rfl) (by kernel_rfl) (by kernel_rfl) (fun _ _ _ h => h) (Or.inl ⟨by kernel_rfl, ?_⟩) (by assumption) ?_
      rotate_left
      · (intro w hSw; (try dsimp only at hSw); go_simp) <;> with_reducible rfl
      (try simp only [Act.put, List.getElem_toArray, List.getElem_cons_zero, List.getElem_cons_succ, List.setIfInBounds_toArray, List.set_cons_zero, List.set_cons_succ])
      refine wpAnyH_take (i := 26) (v := ?_) rfl (by kernel_rfl) (by kernel_rfl) (by kernel_rfl) (fun _ _ _ h => h) (Or.inl ⟨by kernel_rfl, ?_⟩) (by assumption) ?_
      rotate_left
      · (intro w hSw; (try dsimp only at hSw); go_simp) <;> with_reducible rfl
      (try simp only [Act.put, List.getElem_toArray, List.getElem_cons_zero, List.getElem_cons_succ, List.setIfInBounds_toArray, List.set_cons_zero, List.set_cons_succ])
      refine wpAnyH_take (i := 27) (v := ?_) rfl (by kernel_rfl) (by kernel_rfl) (by kernel_rfl) (fun _ _ _ h => h) (Or.inl ⟨by kernel_rfl, ?_⟩) (by assumption) ?_
      rotate_left
      · (intro w hSw; (try dsimp only at hSw); go_simp) <;> with_reducible rfl
      (try simp only [Act.put, List.getElem_toArray, List.getElem_cons_zero, List.getElem_cons_succ, List.setIfInBounds_toArray, List.set_cons_zero, List.set_cons_succ])
      refine wpAnyH_take (i := 28) (v := ?_) rfl (by kernel_rfl) (by kernel_rfl) (by kernel_rfl) (fun _ _ _ h => h) (Or.inl ⟨by kernel_rfl, ?_⟩) (by assumption) ?_
      rotate_left
      · (intro w hSw; (try dsimp only at hSw); go_simp) <;> with_reducible rfl
      (try simp only [Act.put, List.getElem_toArray, List.getElem_cons_zero, List.getElem_cons_succ, List.setIfInBounds_toArray, List.set_cons_zero, List.set_cons_succ])
      refine wpAnyH_take (i := 29) (v := ?_) rfl (by kernel_rfl) (by kernel_rfl) (by kernel_rfl) (fun _ _ _ h => h) (Or.inl ⟨by kernel_rfl, ?_⟩) (by assumption) ?_
      rotate_left
      · (intro w hSw; (try dsimp only at hSw); go_simp) <;> with_reducible rfl
      (try simp only [Act.put, List.getElem_toArray, List.getElem_cons_zero, List.getElem_cons_succ, List.setIfInBounds_toArray, List.set_cons_zero, List.set_cons_succ])
      refine wpAnyH_take (i := 30) (v := ?_) rfl (by kernel_rfl) (by kernel_rfl) (by kernel_rfl) (fun _ _ _ h => h) (Or.inl ⟨by kernel_rfl, ?_⟩) (by assumption) ?_
      rotate_left
      · (intro w hSw; (try dsimp only at hSw); go_simp) <;> with_reducible rfl
      (try simp only [Act.put, List.getElem_toArray, List.getElem_cons_zero, List.getElem_cons_succ, List.setIfInBounds_toArray, List.set_cons_zero, List.set_cons_succ])
      refine wpAnyH_ready (rs := [18]) (by kernel_rfl) (by simp) ?_
      refine AllReadyH.cons rfl (fun K hK => ?_) AllReadyH.nil
      go_simp
      refine (has_at b T2 tg x0 x1 (bits .and .i64 rt 7) w2 HBo2.out.caps hsn HI64.out).mono ?_
      rw [HBo2.out.rel.has]
      rintro e w3 ⟨rfl, hb3⟩
      have HN3 : Hid (Nine w3 B kd env slot tg rt x0 x1 x2 x3) := Nine.below HN2.out hb3
      have HBo3 : Hid _ := HBo2.out.below hb3
      have HW3 : Hid (Below w.heap.size w w3) := HW2.out.trans (hb3.mono HW2.out.size)
      have hR3 := hR2.below hb3
      clear HN2 HBo2 HW2 hb3 hR2
      refine hK.out _ _ (Nine.cells HN3.out) (fun hHeld => ?_)
      clear hK K
      (try simp only [Act.put, List.getElem_toArray, List.getElem_cons_zero, List.getElem_cons_succ, List.setIfInBounds_toArray, List.set_cons_zero, List.set_cons_succ])
      refine wpAnyH_ready (rs := [31]) (by kernel_rfl) (by simp) ?_
      refine AllReadyH.cons rfl (fun K hK => ?_) AllReadyH.nil
      go_simp
      refine (rhas_at (c + 1) c sv2 L2 last2 tg x0 x1 (bits .and .i64 rt 7) w3 hR3 (by omega) hrsn HI64.out).mono ?_
      rintro e w4 ⟨rfl, hb4⟩
      have HN4 : Hid (Nine w4 B kd env slot tg rt x0 x1 x2 x3) := Nine.below HN3.out hb4
      have HBo4 : Hid _ := HBo3.out.below hb4
      have HW4 : Hid (Below w.heap.size w w4) := HW3.out.trans (hb4.mono HW3.out.size)
      have hR4 := hR3.below hb4
      clear HN3 HBo3 HW3 hb4 hR3
      generalize rhas L2 tg x0 x1 (bits .and .i64 rt 7) = hbv
      refine hK.out _ _ (Nine.cells HN4.out) (fun hHeld => ?_)
      clear hK K
      (try simp only [Act.put, List.getElem_toArray, List.getElem_cons_zero, List.getElem_cons_succ, List.setIfInBounds_toArray, List.set_cons_zero, List.set_cons_succ])
      refine wpAnyH_take (i := 32) (v := ?_) rfl (by kernel_rfl) (by kernel_rfl) (by kernel_rfl) (fun _ _ _ h => h) (Or.inl ⟨by kernel_rfl, ?_⟩) (by assumption) ?_
      rotate_left
      · (intro w hSw; (try dsimp only at hSw); go_simp) <;> with_reducible rfl
      (try simp only [Act.put, List.getElem_toArray, List.getElem_cons_zero, List.getElem_cons_succ, List.setIfInBounds_toArray, List.set_cons_zero, List.set_cons_succ])
      refine wpAnyH_take (i := 33) (v := ?_) rfl (by kernel_rfl) (by kernel_rfl) (by kernel_rfl) (fun _ _ _ h => h) (Or.inl ⟨by kernel_rfl, ?_⟩) (by assumption) ?_
      rotate_left
      · (intro w hSw; (try dsimp only at hSw); go_simp) <;> with_reducible rfl
      (try simp only [Act.put, List.getElem_toArray, List.getElem_cons_zero, List.getElem_cons_succ, List.setIfInBounds_toArray, List.set_cons_zero, List.set_cons_succ])
      refine wpAnyH_take (i := 34) (v := ?_) rfl (by kernel_rfl) (by kernel_rfl) (by kernel_rfl) (fun _ _ _ h => h) (Or.inl ⟨by kernel_rfl, ?_⟩) (by assumption) ?_
      rotate_left
      · (intro w hSw; (try dsimp only at hSw); go_simp) <;> with_reducible rfl
      (try simp only [Act.put, List.getElem_toArray, List.getElem_cons_zero, List.getElem_cons_succ, List.setIfInBounds_toArray, List.set_cons_zero, List.set_cons_succ])
      refine wpAnyH_take (i := 35) (v := ?_) rfl (by kernel_rfl) (by kernel_rfl) (by kernel_rfl) (fun _ _ _ h => h) (Or.inl ⟨by kernel_rfl, ?_⟩) (by assumption) ?_
      rotate_left
      · (intro w hSw; (try dsimp only at hSw); go_simp) <;> with_reducible rfl
      (try simp only [Act.put, List.getElem_toArray, List.getElem_cons_zero, List.getElem_cons_succ, List.setIfInBounds_toArray, List.set_cons_zero, List.set_cons_succ])
      refine wpAnyH_take (i := 36) (v := ?_) rfl (by kernel_rfl) (by kernel_rfl) (by kernel_rfl) (fun _ _ _ h => h) (Or.inl ⟨by kernel_rfl, ?_⟩) (by assumption) ?_
      rotate_left
      · (intro w hSw; (try dsimp only at hSw); go_simp) <;> with_reducible rfl
      (try simp only [Act.put, List.getElem_toArray, List.getElem_cons_zero, List.getElem_cons_succ, List.setIfInBounds_toArray, List.set_cons_zero, List.set_cons_succ])
      refine wpAnyH_take (i := 37) (v := ?_) rfl (by kernel_rfl) (by kernel_rfl) (by kernel_rfl) (fun _ _ _ h => h) (Or.inl ⟨by kernel_rfl, ?_⟩) (by assumption) ?_
      rotate_left
      · (intro w hSw; (try dsimp only at hSw); go_simp) <;> with_reducible rfl
      (try simp only [Act.put, List.getElem_toArray, List.getElem_cons_zero, List.getElem_cons_succ, List.setIfInBounds_toArray, List.set_cons_zero, List.set_cons_succ])
      refine wpAnyH_take (i := 38) (v := ?_) rfl (by kernel_rfl) (by kernel_rfl) (by kernel_rfl) (fun _ _ _ h => h) (Or.inl ⟨by kernel_rfl, ?_⟩) (by assumption) ?_
      rotate_left
      · (intro w hSw; (try dsimp only at hSw); go_simp) <;> with_reducible rfl
      (try simp only [Act.put, List.getElem_toArray, List.getElem_cons_zero, List.getElem_cons_succ, List.setIfInBounds_toArray, List.set_cons_zero, List.set_cons_succ])
      refine wpAnyH_take (i := 39) (v := ?_) rfl (by kernel_rfl) (by kernel_rfl) (by kernel_rfl) (fun _ _ _ h => h) (Or.inl ⟨by kernel_rfl, ?_⟩) (by assumption) ?_
      rotate_left
      · (intro w hSw; (try dsimp only at hSw); go_simp) <;> with_reducible rfl
      (try simp only [Act.put, List.getElem_toArray, List.getElem_cons_zero, List.getElem_cons_succ, List.setIfInBounds_toArray, List.set_cons_zero, List.set_cons_succ])
      refine wpAnyH_take (i := 40) (v := ?_) rfl (by kernel_rfl) (by kernel_rfl) (by kernel_rfl) (fun _ _ _ h => h) (Or.inl ⟨by kernel_rfl, ?_⟩) (by assumption) ?_
      rotate_left
      · (intro w hSw; (try dsimp only at hSw); go_simp) <;> with_reducible rfl
      (try simp only [Act.put, List.getElem_toArray, List.getElem_cons_zero, List.getElem_cons_succ, List.setIfInBounds_toArray, List.set_cons_zero, List.set_cons_succ])
      refine wpAnyH_take (i := 41) (v := ?_) rfl (by kernel_rfl) (by kernel_rfl) (by kernel_rfl) (fun _ _ _ h => h) (Or.inl ⟨by kernel_rfl, ?_⟩) (by assumption) ?_
      rotate_left
      · (intro w hSw; (try dsimp only at hSw); go_simp) <;> with_reducible rfl
      (try simp only [Act.put, List.getElem_toArray, List.getElem_cons_zero, List.getElem_cons_succ, List.setIfInBounds_toArray, List.set_cons_zero, List.set_cons_succ])
      refine wpAnyH_take (i := 43) (v := ?_) rfl (by kernel_rfl) (by kernel_rfl) (by kernel_rfl) (fun _ _ _ h => h) (Or.inl ⟨by kernel_rfl, ?_⟩) (by assumption) ?_
      rotate_left
      · (intro w hSw; (try dsimp only at hSw); go_simp) <;> with_reducible rfl
      (try simp only [Act.put, List.getElem_toArray, List.getElem_cons_zero, List.getElem_cons_succ, List.setIfInBounds_toArray, List.set_cons_zero, List.set_cons_succ])
      refine wpAnyH_take (i := 44) (v := ?_) rfl (by kernel_rfl) (by kernel_rfl) (by kernel_rfl) (fun _ _ _ h => h) (Or.inl ⟨by kernel_rfl, ?_⟩) (by assumption) ?_
      rotate_left
      · (intro w hSw; (try dsimp only at hSw); go_simp) <;> with_reducible rfl
      (try simp only [Act.put, List.getElem_toArray, List.getElem_cons_zero, List.getElem_cons_succ, List.setIfInBounds_toArray, List.set_cons_zero, List.set_cons_succ])
      refine wpAnyH_take (i := 45) (v := ?_) rfl (by kernel_rfl) (by kernel_rfl) (by kernel_rfl) (fun _ _ _ h => h) (Or.inl ⟨by kernel_rfl, ?_⟩) (by assumption) ?_
      rotate_left
      · (intro w hSw; (try dsimp only at hSw); go_simp) <;> with_reducible rfl
      (try simp only [Act.put, List.getElem_toArray, List.getElem_cons_zero, List.getElem_cons_succ, List.setIfInBounds_toArray, List.set_cons_zero, List.set_cons_succ])
      refine wpAnyH_take (i := 46) (v := ?_) rfl (by kernel_rfl) (by kernel_rfl) (by kernel_rfl) (fun _ _ _ h => h) (Or.inl ⟨by kernel_rfl, ?_⟩) (by assumption) ?_
      rotate_left
      · (intro w hSw; (try dsimp only at hSw); go_simp) <;> with_reducible rfl
      (try simp only [Act.put, List.getElem_toArray, List.getElem_cons_zero, List.getElem_cons_succ, List.setIfInBounds_toArray, List.set_cons_zero, List.set_cons_succ])
      refine wpAnyH_take (i := 47) (v := ?_) rfl (by kernel_rfl) (by kernel_rfl) (by kernel_rfl) (fun _ _ _ h => h) (Or.inl ⟨by kernel_rfl, ?_⟩) (by assumption) ?_
      rotate_left
      · (intro w hSw; (try dsimp only at hSw); go_simp) <;> with_reducible rfl
      (try simp only [Act.put, List.getElem_toArray, List.getElem_cons_zero, List.getElem_cons_succ, List.setIfInBounds_toArray, List.set_cons_zero, List.set_cons_succ])
      refine wpAnyH_take (i := 48) (v := ?_) rfl (by kernel_rfl) (by kernel_rfl) (by kernel_rfl) (fun _ _ _ h => h) (Or.inl ⟨by kernel_rfl, ?_⟩) (by assumption) ?_
      rotate_left
      · (intro w hSw; (try dsimp only at hSw); go_simp) <;> with_reducible rfl
      (try simp only [Act.put, List.getElem_toArray, List.getElem_cons_zero, List.getElem_cons_succ, List.setIfInBounds_toArray, List.set_cons_zero, List.set_cons_succ])
      refine wpAnyH_take (i := 49) (v := ?_) rfl (by kernel_rfl) (by kernel_rfl) (by kernel_rfl) (fun _ _ _ h => h) (Or.inl ⟨by kernel_rfl, ?_⟩) (by assumption) ?_
      rotate_left
      · (intro w hSw; (try dsimp only at hSw); go_simp) <;> with_reducible rfl
      (try simp only [Act.put, List.getElem_toArray, List.getElem_cons_zero, List.getElem_cons_succ, List.setIfInBounds_toArray, List.set_cons_zero, List.set_cons_succ])
      refine wpAnyH_ready (rs := [42]) (by kernel_rfl) (by simp) ?_
      refine AllReadyH.cons rfl (fun K hK => ?_) AllReadyH.nil
      go_simp
      refine (holders_at b T2 x0 x1 w4 HBo4.out.caps hsn HI64.out).mono ?_
      have hDl := holdTo_len T2 x0 x1 12
      rw [HBo4.out.rel.hold] at hDl ⊢
      rintro e w5 ⟨v5, rfl, hown5, hb5⟩
      obtain ⟨a5, c5, rfl, hrow5⟩ := own_irow hown5
      have HRo5 : Hid _ := hrow5
      have HN5 : Hid (Nine w5 B kd env slot tg rt x0 x1 x2 x3) := Nine.below HN4.out hb5
      have HBo5 : Hid _ := HBo4.out.below hb5
      have HW5 : Hid (Below w.heap.size w w5) := HW4.out.trans (hb5.mono HW4.out.size)
      have hR5 := hR4.below hb5
      clear HN4 HBo4 HW4 hb5 hR4 hown5 hrow5
      refine hK.out _ _ (Nine.cells HN5.out) (fun hHeld => ?_)
      clear hK K
      (try simp only [Act.put, List.getElem_toArray, List.getElem_cons_zero, List.getElem_cons_succ, List.setIfInBounds_toArray, List.set_cons_zero, List.set_cons_succ])
      refine wpAnyH_ready (rs := [50]) (by kernel_rfl) (by simp) ?_
      refine AllReadyH.cons rfl (fun K hK => ?_) AllReadyH.nil
      go_simp
      refine (rhold_at (c + 1) c sv2 L2 last2 x0 x1 w5 hR5 (by omega) hrsn HI64.out).mono ?_
      rintro e w6 ⟨v6, rfl, hown6, hb6⟩
      obtain ⟨a6, c6, rfl, hrow6⟩ := own_irow hown6
      have hrow5 := IRow.below HRo5.out hb6
      have HN6 : Hid (Nine w6 B kd env slot tg rt x0 x1 x2 x3) := Nine.below HN5.out hb6
      have HBo6 : Hid _ := HBo5.out.below hb6
      have HW6 : Hid (Below w.heap.size w w6) := HW5.out.trans (hb6.mono HW5.out.size)
      clear HN5 HBo5 HW5 hb6 hR5 hown6 HRo5
      refine hK.out _ _ (Nine.cells HN6.out) (fun hHeld => ?_)
      clear hK K
      (try simp only [Act.put, List.getElem_toArray, List.getElem_cons_zero, List.getElem_cons_succ, List.setIfInBounds_toArray, List.set_cons_zero, List.set_cons_succ])
      refine wpAnyH_ready (rs := [51]) (by kernel_rfl) (by simp) ?_
      refine AllReadyH.cons rfl (fun K hK => ?_) AllReadyH.nil
      go_simp
      refine (ints_same (holdL x0 x1 L2) a5 a6 c5 c6 w6 hrow5 hrow6 (by omega)).mono ?_
      rintro e w7 ⟨rfl, hb7⟩
      have HN7 : Hid (Nine w7 B kd env slot tg rt x0 x1 x2 x3) := Nine.below HN6.out hb7
      have HBo7 : Hid _ := HBo6.out.below hb7
      have HW7 : Hid (Below w.heap.size w w7) := HW6.out.trans (hb7.mono HW6.out.size)
      clear HN6 HBo6 HW6 hb7 hrow5 hrow6
      refine hK.out _ _ (Nine.cells HN7.out) (fun hHeld => ?_)
      clear hK K
      (try simp only [Act.put, List.getElem_toArray, List.getElem_cons_zero, List.getElem_cons_succ, List.setIfInBounds_toArray, List.set_cons_zero, List.set_cons_succ])
      refine wpAnyH_take (i := 52) (v := ?_) rfl (by kernel_rfl) (by kernel_rfl) (by kernel_rfl) (fun _ _ _ h => h) (Or.inl ⟨by kernel_rfl, ?_⟩) (by assumption) ?_
      rotate_left
      · (intro w hSw; (try dsimp only at hSw); go_simp) <;> with_reducible rfl
      (try simp only [Act.put, List.getElem_toArray, List.getElem_cons_zero, List.getElem_cons_succ, List.setIfInBounds_toArray, List.set_cons_zero, List.set_cons_succ])
      refine wpAnyH_take (i := 53) (v := ?_) rfl (by kernel_rfl) (by kernel_rfl) (by kernel_rfl) (fun _ _ _ h => h) (Or.inl ⟨by kernel_rfl, ?_⟩) (by assumption) ?_
      rotate_left
      · (intro w hSw; (try dsimp only at hSw); go_simp) <;> with_reducible rfl
      (try simp only [Act.put, List.getElem_toArray, List.getElem_cons_zero, List.getElem_cons_succ, List.setIfInBounds_toArray, List.set_cons_zero, List.set_cons_succ])
      refine wpAnyH_done (by kernel_rfl) ?_ _
      clear hHeld HV HBn
      go_wp2
      go_loopw [7] (fun s7 wz => ∃ (m : Nat), m ≤ 5 ∧ s7 = .int .i64 m ∧ Both wz b c T2 L2 last2 ∧ Nine wz B kd env slot tg rt x0 x1 x2 x3 ∧ Below w.heap.size w wz) (fun s7 _ => 5 - (intOf s7).toNat)
      case atStart => exact ⟨0, by omega, rfl, HBo7.out, HN7.out, HW7.out⟩
      case round =>
        clear HBo7 HN7 HW7
        obtain ⟨m, hm, rfl, hBo8, hN8, hW8⟩ := hrel
        have HBo8 : Hid _ := hBo8
        have HN8 : Hid (Nine _ B kd env slot tg rt x0 x1 x2 x3) := hN8
        have HW8 : Hid _ := hW8
        by_cases hm5 : m < 5
        · have gm : decide ((m : Int) ≤ 4) = true := decide_eq_true (by omega)
          obtain ⟨_, _, _, f3, _⟩ := Nine.cells hN8
          have hg1 := get_at b T2 tg m wr hBo8.caps
          obtain ⟨r1, r2⟩ := hBo8.rel.get tg m
          rw [r1] at hg1 r2
          rw [r2] at hg1
          obtain ⟨sv3, hR3⟩ := hBo8.ref
          have HRg : Hid (∀ V, Below wr.heap.size wr V → Calls Try.prog 16 #[.pointer (some ⟨c, 0, none⟩), .int .i64 tg, .int .i64 m] V fun e w' => e = .returned (.tuple #[.agg (cpRow (rgetX L2 tg m)), .bool (decide (0 ≤ rfindI L2 tg m))]) ∧ Below V.heap.size V w') := fun V hV => rget_at (c + 1) c sv3 L2 last2 tg m V (hR3.below hV) (by omega)
          clear r1 r2 hBo8 hN8 hW8 hR3
          generalize rgetX L2 tg m = gx at *
          generalize decide (0 ≤ rfindI L2 tg m) = gi at *
          obtain ⟨y0, y1, y2, y3⟩ := gx
          dsimp only [cpRow] at *
          have hsame := cap_same y0 y1 y2 y3
          go_wp2_with fail
          refine hg1.mono ?_
          rintro e w8 ⟨rfl, hb8⟩
          obtain ⟨V8, hV8⟩ : ∃ V8, V8 = w8.alloc (.cells #[.int .i64 y0, .int .i64 y1, .int .i64 y2, .int .i64 y3] 30) := ⟨_, rfl⟩
          have hbx : V8.heap[w8.heap.size]? = some (.cells #[.int .i64 y0, .int .i64 y1, .int .i64 y2, .int .i64 y3] 30) := by rw [hV8]; exact heap_alloc_new _ _
          have hb9 : Below wr.heap.size wr V8 := by rw [hV8]; exact hb8.trans ((below_alloc w8 _).mono hb8.size)
          have hcall := HRg.out V8 hb9
          have f3' := (hb9.cell (cell_lt f3)).trans f3
          rw [hV8] at f3'
          have HB9 : Hid _ := hb9
          have HV8 : Hid _ := hV8
          have HBX : Hid _ := hbx
          clear hg1 HRg hb8 hb9 hV8 hbx f3
          go_wp2_with fail
          rw [← HV8.out]
          refine hcall.mono ?_
          rintro e w9 ⟨rfl, hb9'⟩
          obtain ⟨p0, p1, p2, p3⟩ := cap_cells (x := ⟨y0, y1, y2, y3⟩) ((hb9'.block _ (lt_of_heap HBX.out)).trans HBX.out)
          dsimp only at p0 p1 p2 p3
          have HBF : Hid (Below wr.heap.size wr w9) := HB9.out.trans (hb9'.mono HB9.out.size)
          have hlt8 : w8.heap.size < w9.heap.size := Nat.lt_of_lt_of_le (lt_of_heap HBX.out) hb9'.size
          clear hcall f3' hb9' HV8 HBX HB9
          go_wp2
          go_roundw
          case rel =>
            have hbz : Below wr.heap.size wr (w9.alloc (.cells #[.int .i64 y0, .int .i64 y1, .int .i64 y2, .int .i64 y3] 30)) := HBF.out.trans ((below_alloc w9 _).mono HBF.out.size)
            exact ⟨m + 1, by omega, by go_num, HBo8.out.below hbz, Nine.below HN8.out hbz, HW8.out.trans (hbz.mono HW8.out.size)⟩
          case measure => simp [intOf]; omega
        · obtain rfl : m = 5 := by omega
          clear hBo8 hN8 hW8
          go_wp2
          go_roundw
          case rel => exact ⟨k + 1, T2, L2, last2, by omega, by omega, by go_num, HBo8.out, by omega, by omega, HW8.out⟩
          case measure => simp [intOf]; omega
    · have gg : (k < len ∧ decide ((k : Int) < (len : Int)) = true ∧ decide ((k : Int) < 150) = false) ∨ (¬ k < len ∧ decide ((k : Int) < (len : Int)) = false) := by
        by_cases hkl : k < len
        · exact Or.inl ⟨hkl, decide_eq_true (by omega), decide_eq_false (by omega)⟩
        · exact Or.inr ⟨hkl, decide_eq_false (by omega)⟩
      have HB : Hid _ := hB
      clear hBo hB
      rcases gg with ⟨hkl, g0, g1⟩ | ⟨hkl, g0⟩
      all_goals
        go_wp2_with fail
        refine (awake_at _).mono ?_
        rintro e w7 ⟨rfl, hb7⟩
        go_wp2
        go_ret
        exact ⟨rfl, HB.out.trans (hb7.mono HB.out.size)⟩
end Go.Proofs.Ytfhkdcbhkjkkgaa
