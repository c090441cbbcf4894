/- Proved: januslaw09.ExomemPlays answers true for every number of frames and every list of deeds (each answer, how many frames are free, pages and slots behind each), at the commit of this claim; no condition beyond the row's own. -/
import Derived.Test.YtfnafjddajgahaaGreatDoD9
import Derived.ProofKit
import Derived.OpenShut
import Derived.ChangeOld
import Derived.Below
import Derived.Deep.Slices
namespace Go.Proofs.YtfnafjddajgahaaGreat
open Go.ChangeShapes Go.WideShapes Go.ChangeAt Go.RowKit Go.Lib Ca
set_option linter.unusedVariables false

theorem page_same (f : Int) (b : Bool) (W : World) : (binOp .neq 35 (.agg #[.int .i64 f, .bool b]) (.agg #[.int .i64 f, .bool b])).run Tryz.prog W = .ok (.bool false) W := by
  cases b <;> go_simp
/-- A deed's cells, all eight. -/
def Eight (w : World) (B : Nat) (d : Dd) : Prop := w.heap[B]? = some (.cells (ddRow d) 30)
theorem Eight.cells {w : World} {B : Nat} {d : Dd} (h : Eight w B d) : w.cell? ⟨B, 0, none⟩ = some (.int .i64 d.kind) ∧ w.cell? ⟨B, 1, none⟩ = some (.int .i64 d.env) ∧ w.cell? ⟨B, 2, none⟩ = some (.int .i64 d.slot) ∧ w.cell? ⟨B, 3, none⟩ = some (.int .i64 d.dst) ∧ w.cell? ⟨B, 4, none⟩ = some (.int .i64 d.n) ∧ w.cell? ⟨B, 5, none⟩ = some (.bool d.w) ∧ w.cell? ⟨B, 6, none⟩ = some (.int .u64 d.addr) ∧ w.cell? ⟨B, 7, none⟩ = some (.int .u64 d.v) := by
  refine ⟨?_, ?_, ?_, ?_, ?_, ?_, ?_, ?_⟩ <;> (rw [cell_of_heap h]; rfl)
theorem Eight.below {w w' : World} {B : Nat} {d : Dd} (h : Eight w B d) (hb : Below w.heap.size w w') : Eight w' B d := (hb.block _ (lt_of_heap h)).trans h

set_option maxRecDepth 100000 in
set_option maxHeartbeats 8000000 in
theorem plays_none (fr : Int) (a0' : Option Addr) (len cap : Nat) (w : World) (hlen : len ≤ 9223372036854775807) (h : fr < 1 ∨ 1024 < fr) :
    Calls Tryz.prog 3 #[.int .i64 fr, .slice a0' len cap] w fun e w' => e = .returned (.bool true) ∧ Below w.heap.size w w' := by
  have hk := knew_no fr w h
  have hx := rknew_no fr w h
  rcases h with h | h
  · have g : decide (100 < fr) = false := decide_eq_false (by omega)
    clear h
    go_enter Tryz.func3, Tryz.ntmps3
    go_wp2_with fail
    refine hk.mono ?_
    rintro x w1 ⟨rfl, hw1⟩
    rw [hw1]
    clear hw1 w1
    go_wp2_with fail
    refine hx.mono ?_
    rintro x w1 ⟨rfl, hw1⟩
    rw [hw1]
    clear hw1 w1 hk hx
    go_wp2
    go_loopw [7] (fun s wr => s = .int .i64 0 ∧ wr = w) (fun s _ => 0)
    case atStart => exact ⟨rfl, rfl⟩
    case round =>
      obtain ⟨rfl, hwr⟩ := hrel
      subst hwr
      by_cases hl : len = 0
      · subst hl
        go_wp2_with fail
        refine (Go.Proofs.YtfnafjddajgahaaGreat.awake_at _).mono ?_
        rintro x w7 ⟨rfl, hb7⟩
        go_wp2
        go_ret
        exact ⟨rfl, hb7⟩
      · have g2 : decide ((0 : Int) < (len : Int)) = true := decide_eq_true (by omega)
        go_wp2_with fail
        all_goals
          refine (Go.Proofs.YtfnafjddajgahaaGreat.awake_at _).mono ?_
          rintro x w7 ⟨rfl, hb7⟩
          go_wp2
          go_ret
          exact ⟨rfl, hb7⟩
  · have g : decide (100 < fr) = true := decide_eq_true (by omega)
    clear h
    go_enter Tryz.func3, Tryz.ntmps3
    go_wp2_with fail
    refine hk.mono ?_
    rintro x w1 ⟨rfl, hw1⟩
    rw [hw1]
    clear hw1 w1
    go_wp2_with fail
    refine hx.mono ?_
    rintro x w1 ⟨rfl, hw1⟩
    rw [hw1]
    clear hw1 w1 hk hx
    go_wp2_with fail
    refine (Go.Proofs.YtfnafjddajgahaaGreat.awake_at _).mono ?_
    rintro x w7 ⟨rfl, hb7⟩
    go_wp2
    go_ret
    exact ⟨rfl, hb7⟩

theorem plays_many (fr : Int) (a0' : Option Addr) (len cap : Nat) (w : World) (h1 : 100 < fr) (h2 : fr ≤ 1024) :
    Calls Tryz.prog 3 #[.int .i64 fr, .slice a0' len cap] w fun e w' => e = .returned (.bool true) ∧ Below w.heap.size w w' := by
  have hk := knew_at fr w (by omega) h2
  have hx := fun V => rknew_at fr V (by omega) h2
  have g : decide (100 < fr) = true := decide_eq_true h1
  clear h1 h2
  go_enter Tryz.func3, Tryz.ntmps3
  go_wp2_with fail
  refine hk.mono ?_
  rintro x w1 ⟨K, Y, rfl, _, hb1, _, _⟩
  go_wp2_with fail
  refine (hx w1).mono ?_
  rintro x w2 ⟨X, Q, rfl, _, hb2, _⟩
  have HB : Hid (Below w.heap.size w w2) := hb1.trans (hb2.mono hb1.size)
  clear hk hx hb1 hb2
  go_wp2_with fail
  refine (Go.Proofs.YtfnafjddajgahaaGreat.awake_at _).mono ?_
  rintro x w7 ⟨rfl, hb7⟩
  go_wp2
  go_ret
  exact ⟨rfl, HB.out.trans (hb7.mono HB.out.size)⟩

set_option maxRecDepth 100000 in
set_option maxHeartbeats 16000000 in
theorem plays_walk (fr : Int) (a0' : Option Addr) (len cap : Nat) (w : World) (hlen : len ≤ 9223372036854775807) (hdeeds : Hid (DdsAt w a0' len)) (h1 : 1 ≤ fr) (h2 : fr ≤ 100) :
    Calls Tryz.prog 3 #[.int .i64 fr, .slice a0' len cap] w fun e w' => e = .returned (.bool true) ∧ Below w.heap.size w w' := by
  have hk := knew_at fr w h1 (by omega)
  have hx := fun V => rknew_at fr V h1 (by omega)
  have g : decide (100 < fr) = false := decide_eq_false (by omega)
  have HDN : Hid _ := fun (w1 w2 : World) (K X : Nat) (Y : Lay) (Q : RLay) hK hb1 hf hR hb2 hl => duo_new fr w h1 (by omega) (w1 := w1) (w2 := w2) (K := K) (X := X) (Y := Y) (Q := Q) hK hb1 hf hR hb2 hl
  clear h1 h2
  go_enter Tryz.func3, Tryz.ntmps3
  go_wp2_with fail
  refine hk.mono ?_
  rintro x w1 ⟨K, Y, rfl, hK1, hb1, _, hf1⟩
  go_wp2_with fail
  refine (hx w1).mono ?_
  rintro x w2 ⟨X, Q, rfl, hR2, hb2, hl2⟩
  obtain ⟨hD0, hO⟩ := HDN.out w1 w2 K X Y Q hK1 hb1 hf1 hR2 hb2 hl2
  have HD : Hid _ := hD0
  have HO : Hid _ := hO
  have HB : Hid (Below w.heap.size w w2) := hb1.trans (hb2.mono hb1.size)
  clear hK1 hb1 hf1 hR2 hb2 hl2 hD0 hO hk hx HDN
  generalize fr.toNat = n at *
  generalize w1.heap.size = R at *
  go_wp2
  go_loopw [7] (fun s wr => ∃ (k : Nat) (vs : List Int) (T : Tab) (F : Pages) (L : List Ce) (last : Int), k ≤ len ∧ k ≤ 100 ∧ s = .int .i64 k ∧ Duo wr K Y X Q n R vs T F L last ∧ L.length ≤ k ∧ last ≤ k ∧ Below w.heap.size w wr) (fun s _ => 100 - (intOf s).toNat)
  case atStart => exact ⟨0, _, _, _, [], 0, by omega, by omega, rfl, HD.out, by simp, by simp, HB.out⟩
  case round =>
    clear HD HB
    obtain ⟨k, vs, T, F, L, last, hk, hk1, rfl, hDu, hL, hla, hB⟩ := hrel
    by_cases hlt : k < len ∧ k < 100
    · obtain ⟨hkl, hk100⟩ := hlt
      obtain ⟨gb, off, d, rfl, hfit, ⟨e0, e1, e2, e3⟩, e4, e5, e6, e7⟩ := (hdeeds.out.below hB) k hkl
      have g0 : decide ((k : Int) < (len : Int)) = true := decide_eq_true (by omega)
      have g1 : decide ((k : Int) < 100) = true := decide_eq_true (by omega)
      have ik : (k : Int) < (len : Int) := by omega
      obtain ⟨V, hV⟩ : ∃ V, V = wr.alloc (.cells (ddRow d) 30) := ⟨_, rfl⟩
      have hbV : Below wr.heap.size wr V := by rw [hV]; exact below_alloc _ _
      have hN : Eight V wr.heap.size d := by rw [hV]; exact heap_alloc_new _ _
      have hBd : Below wr.heap.size wr V.drew := hbV.drew
      have HDd : Hid _ := hDu.below hBd
      have hdo := do_at HDd.out (by omega) (by omega) d hfit
      have HNd : Hid (Eight V.drew wr.heap.size d) := hN
      have HWd : Hid (Below w.heap.size w V.drew) := hB.trans (hBd.mono hB.size)
      obtain ⟨ap1, ap2⟩ := hDu.apart
      have HV : Hid _ := hV
      obtain ⟨kd, env, slot, tg, num, wb, addr, val⟩ := d
      dsimp only [ddRow] at *
      clear hV hbV hDu hB hN hBd hfit
      obtain ⟨B, hBn⟩ : ∃ B, B = wr.heap.size := ⟨_, rfl⟩
      rw [← hBn] at HNd ap1 ap2
      have HBn : Hid _ := hBn
      clear hBn
      go_wp2_with fail
      rw [← HV.out, ← HBn.out]
      clear e0 e1 e2 e3 e4 e5 e6 e7
      refine wp_region_held_drew (S := fun w' => w'.cell? ⟨B, 0, none⟩ = some (.int .i64 kd) ∧ w'.cell? ⟨B, 1, none⟩ = some (.int .i64 env) ∧ w'.cell? ⟨B, 2, none⟩ = some (.int .i64 slot) ∧ w'.cell? ⟨B, 3, none⟩ = some (.int .i64 tg) ∧ w'.cell? ⟨B, 4, none⟩ = some (.int .i64 num) ∧ w'.cell? ⟨B, 5, none⟩ = some (.bool wb) ∧ w'.cell? ⟨B, 6, none⟩ = some (.int .u64 addr) ∧ w'.cell? ⟨B, 7, none⟩ = some (.int .u64 val)) (by kernel_rfl) (Eight.cells HNd.out) (fun hHeld => ?_)
      refine wpAnyH_take (i := 0) (v := ?_) rfl (by kernel_rfl) (by kernel_rfl) (by kernel_rfl) (fun _ _ _ h => h) (Or.inl ⟨by kernel_rfl, ?_⟩) (by assumption) ?_
      rotate_left
      · (intro w hSw; (try dsimp only at hSw); go_simp) <;> with_reducible rfl
      (try simp only [Act.put, List.getElem_toArray, List.getElem_cons_zero, List.setIfInBounds_toArray, List.set_cons_zero, List.set_cons_succ])
      refine wpAnyH_take (i := 1) (v := ?_) rfl (by kernel_rfl) (by kernel_rfl) (by kernel_rfl) (fun _ _ _ h => h) (Or.inl ⟨by kernel_rfl, ?_⟩) (by assumption) ?_
      rotate_left
      · (intro w hSw; (try dsimp only at hSw); go_simp) <;> with_reducible rfl
      (try simp only [Act.put, List.getElem_toArray, List.getElem_cons_zero, List.getElem_cons_succ, List.setIfInBounds_toArray, List.set_cons_zero, List.set_cons_succ])
      refine wpAnyH_take (i := 2) (v := ?_) rfl (by kernel_rfl) (by kernel_rfl) (by kernel_rfl) (fun _ _ _ h => h) (Or.inl ⟨by kernel_rfl, ?_⟩) (by assumption) ?_
      rotate_left
      · (intro w hSw; (try dsimp only at hSw); go_simp) <;> with_reducible rfl
      (try simp only [Act.put, List.getElem_toArray, List.getElem_cons_zero, List.getElem_cons_succ, List.setIfInBounds_toArray, List.set_cons_zero, List.set_cons_succ])
      refine wpAnyH_ready (rs := [3]) (by kernel_rfl) (by simp) ?_
      refine AllReadyH.cons rfl (fun K hK => ?_) AllReadyH.nil
      go_simp
      refine hdo.mono ?_
      rintro x w3 ⟨rfl, L3, last3, hD3, hL3, hla3, hu3⟩
      have HN3 : Hid (Eight w3 B ⟨kd, env, slot, tg, num, wb, addr, val⟩) := (hu3.block _ (lt_of_heap HNd.out) (fun e => by rcases e with e | e; exact ap1 e; exact ap2 e)).trans HNd.out
      have HB3 : Hid _ := both_below HO.out HDd.out HWd.out hu3
      have HD3 : Hid _ := hD3
      clear hu3 HNd HWd HDd hD3 hdo
      generalize stV n ⟨kd, env, slot, tg, num, wb, addr, val⟩ vs T F = vs3 at *
      generalize stF ⟨kd, env, slot, tg, num, wb, addr, val⟩ T F = F3 at *
      generalize stT n ⟨kd, env, slot, tg, num, wb, addr, val⟩ T = T3 at *
      refine hK.out _ _ (Eight.cells HN3.out) (fun hHeld => ?_)
      clear hK K
      (try simp only [Act.put, List.getElem_toArray, List.getElem_cons_zero, List.getElem_cons_succ, List.setIfInBounds_toArray, List.set_cons_zero, List.set_cons_succ])
      have hlk := HD3.out.lnk (by omega) (by omega)
      refine wpAnyH_take (i := 4) (v := ?_) rfl (by kernel_rfl) (by kernel_rfl) (by kernel_rfl) (fun _ _ _ h => h) (Or.inl ⟨by kernel_rfl, ?_⟩) (by assumption) ?_
      rotate_left
      · (intro w hSw; (try dsimp only at hSw); go_simp) <;> with_reducible rfl
      (try simp only [Act.put, List.getElem_toArray, List.getElem_cons_zero, List.getElem_cons_succ, List.setIfInBounds_toArray, List.set_cons_zero, List.set_cons_succ])
      refine wpAnyH_take (i := 5) (v := ?_) rfl (by kernel_rfl) (by kernel_rfl) (by kernel_rfl) (fun _ _ _ h => h) (Or.inl ⟨by kernel_rfl, ?_⟩) (by assumption) ?_
      rotate_left
      · (intro w hSw; (try dsimp only at hSw); go_simp) <;> with_reducible rfl
      (try simp only [Act.put, List.getElem_toArray, List.getElem_cons_zero, List.getElem_cons_succ, List.setIfInBounds_toArray, List.set_cons_zero, List.set_cons_succ])
      refine wpAnyH_take (i := 6) (v := ?_) rfl (by kernel_rfl) (by kernel_rfl) (by kernel_rfl) (fun _ _ _ h => h) (Or.inl ⟨by kernel_rfl, ?_⟩) (by assumption) ?_
      rotate_left
      · (intro w hSw; (try dsimp only at hSw); go_simp) <;> with_reducible rfl
      (try simp only [Act.put, List.getElem_toArray, List.getElem_cons_zero, List.getElem_cons_succ, List.setIfInBounds_toArray, List.set_cons_zero, List.set_cons_succ])
      refine wpAnyH_take (i := 8) (v := ?_) rfl (by kernel_rfl) (by kernel_rfl) (by kernel_rfl) (fun _ _ _ h => h) (Or.inl ⟨by kernel_rfl, ?_⟩) (by assumption) ?_
      rotate_left
      · (intro w hSw; (try dsimp only at hSw); go_simp) <;> with_reducible rfl
      (try simp only [Act.put, List.getElem_toArray, List.getElem_cons_zero, List.getElem_cons_succ, List.setIfInBounds_toArray, List.set_cons_zero, List.set_cons_succ])
      refine wpAnyH_ready (rs := [7]) (by kernel_rfl) (by simp) ?_
      refine AllReadyH.cons rfl (fun K hK => ?_) AllReadyH.nil
      go_simp
      refine (kleft_at HD3.out.ker).mono ?_
      rintro x w4 ⟨rfl, hb4⟩
      have HN4 : Hid (Eight w4 B ⟨kd, env, slot, tg, num, wb, addr, val⟩) := Eight.below HN3.out hb4
      have HB4 : Hid (Below w.heap.size w w4) := HB3.out.trans (hb4.mono HB3.out.size)
      have HD4 : Hid _ := HD3.out.below hb4
      clear HN3 HB3 HD3 hb4
      refine hK.out _ _ (Eight.cells HN4.out) (fun hHeld => ?_)
      clear hK K
      (try simp only [Act.put, List.getElem_toArray, List.getElem_cons_zero, List.getElem_cons_succ, List.setIfInBounds_toArray, List.set_cons_zero, List.set_cons_succ])
      refine wpAnyH_ready (rs := [9]) (by kernel_rfl) (by simp) ?_
      refine AllReadyH.cons rfl (fun K hK => ?_) AllReadyH.nil
      go_simp
      refine (rkleft_at HD4.out.ref hlk).mono ?_
      rintro x w5 ⟨rfl, hb5⟩
      have HN5 : Hid (Eight w5 B ⟨kd, env, slot, tg, num, wb, addr, val⟩) := Eight.below HN4.out hb5
      have HB5 : Hid (Below w.heap.size w w5) := HB4.out.trans (hb5.mono HB4.out.size)
      have HD5 : Hid _ := HD4.out.below hb5
      clear HN4 HB4 HD4 hb5
      generalize leftN T3 n = lf
      refine hK.out _ _ (Eight.cells HN5.out) (fun hHeld => ?_)
      clear hK K
      (try simp only [Act.put, List.getElem_toArray, List.getElem_cons_zero, List.getElem_cons_succ, List.setIfInBounds_toArray, List.set_cons_zero, List.set_cons_succ])
      refine wpAnyH_take (i := 10) (v := ?_) rfl (by kernel_rfl) (by kernel_rfl) (by kernel_rfl) (fun _ _ _ h => h) (Or.inl ⟨by kernel_rfl, ?_⟩) (by assumption) ?_
      rotate_left
      · (intro w hSw; (try dsimp only at hSw); go_simp) <;> with_reducible rfl
      (try simp only [Act.put, List.getElem_toArray, List.getElem_cons_zero, List.getElem_cons_succ, List.setIfInBounds_toArray, List.set_cons_zero, List.set_cons_succ])
      refine wpAnyH_take (i := 11) (v := ?_) rfl (by kernel_rfl) (by kernel_rfl) (by kernel_rfl) (fun _ _ _ h => h) (Or.inl ⟨by kernel_rfl, ?_⟩) (by assumption) ?_
      rotate_left
      · (intro w hSw; (try dsimp only at hSw); go_simp) <;> with_reducible rfl
      (try simp only [Act.put, List.getElem_toArray, List.getElem_cons_zero, List.getElem_cons_succ, List.setIfInBounds_toArray, List.set_cons_zero, List.set_cons_succ])
      refine wpAnyH_take (i := 12) (v := ?_) rfl (by kernel_rfl) (by kernel_rfl) (by kernel_rfl) (fun _ _ _ h => h) (Or.inl ⟨by kernel_rfl, ?_⟩) (by assumption) ?_
      rotate_left
      · (intro w hSw; (try dsimp only at hSw); go_simp) <;> with_reducible rfl
      (try simp only [Act.put, List.getElem_toArray, List.getElem_cons_zero, List.getElem_cons_succ, List.setIfInBounds_toArray, List.set_cons_zero, List.set_cons_succ])
      refine wpAnyH_take (i := 13) (v := ?_) rfl (by kernel_rfl) (by kernel_rfl) (by kernel_rfl) (fun _ _ _ h => h) (Or.inl ⟨by kernel_rfl, ?_⟩) (by assumption) ?_
      rotate_left
      · (intro w hSw; (try dsimp only at hSw); go_simp) <;> with_reducible rfl
      (try simp only [Act.put, List.getElem_toArray, List.getElem_cons_zero, List.getElem_cons_succ, List.setIfInBounds_toArray, List.set_cons_zero, List.set_cons_succ])
      refine wpAnyH_take (i := 14) (v := ?_) rfl (by kernel_rfl) (by kernel_rfl) (by kernel_rfl) (fun _ _ _ h => h) (Or.inl ⟨by kernel_rfl, ?_⟩) (by assumption) ?_
      rotate_left
      · (intro w hSw; (try dsimp only at hSw); go_simp) <;> with_reducible rfl
      (try simp only [Act.put, List.getElem_toArray, List.getElem_cons_zero, List.getElem_cons_succ, List.setIfInBounds_toArray, List.set_cons_zero, List.set_cons_succ])
      refine wpAnyH_take (i := 15) (v := ?_) rfl (by kernel_rfl) (by kernel_rfl) (by kernel_rfl) (fun _ _ _ h => h) (Or.inl ⟨by kernel_rfl, ?_⟩) (by assumption) ?_
      rotate_left
      · (intro w hSw; (try dsimp only at hSw); go_simp) <;> with_reducible rfl
      (try simp only [Act.put, List.getElem_toArray, List.getElem_cons_zero, List.getElem_cons_succ, List.setIfInBounds_toArray, List.set_cons_zero, List.set_cons_succ])
      refine wpAnyH_take (i := 16) (v := ?_) rfl (by kernel_rfl) (by kernel_rfl) (by kernel_rfl) (fun _ _ _ h => h) (Or.inl ⟨by kernel_rfl, ?_⟩) (by assumption) ?_
      rotate_left
      · (intro w hSw; (try dsimp only at hSw); go_simp) <;> with_reducible rfl
      (try simp only [Act.put, List.getElem_toArray, List.getElem_cons_zero, List.getElem_cons_succ, List.setIfInBounds_toArray, List.set_cons_zero, List.set_cons_succ])
      refine wpAnyH_take (i := 17) (v := ?_) rfl (by kernel_rfl) (by kernel_rfl) (by kernel_rfl) (fun _ _ _ h => h) (Or.inl ⟨by kernel_rfl, ?_⟩) (by assumption) ?_
      rotate_left
      · (intro w hSw; (try dsimp only at hSw); go_simp) <;> with_reducible rfl
      (try simp only [Act.put, List.getElem_toArray, List.getElem_cons_zero, List.getElem_cons_succ, List.setIfInBounds_toArray, List.set_cons_zero, List.set_cons_succ])
      refine wpAnyH_take (i := 19) (v := ?_) rfl (by kernel_rfl) (by kernel_rfl) (by kernel_rfl) (fun _ _ _ h => h) (Or.inl ⟨by kernel_rfl, ?_⟩) (by assumption) ?_
      rotate_left
      · (intro w hSw; (try dsimp only at hSw); go_simp) <;> with_reducible rfl
      (try simp only [Act.put, List.getElem_toArray, List.getElem_cons_zero, List.getElem_cons_succ, List.setIfInBounds_toArray, List.set_cons_zero, List.set_cons_succ])
      refine wpAnyH_take (i := 20) (v := ?_) rfl (by kernel_rfl) (by kernel_rfl) (by kernel_rfl) (fun _ _ _ h => h) (Or.inl ⟨by kernel_rfl, ?_⟩) (by assumption) ?_
      rotate_left
      · (intro w hSw; (try dsimp only at hSw); go_simp) <;> with_reducible rfl
      (try simp only [Act.put, List.getElem_toArray, List.getElem_cons_zero, List.getElem_cons_succ, List.setIfInBounds_toArray, List.set_cons_zero, List.set_cons_succ])
      refine wpAnyH_take (i := 21) (v := ?_) rfl (by kernel_rfl) (by kernel_rfl) (by kernel_rfl) (fun _ _ _ h => h) (Or.inl ⟨by kernel_rfl, ?_⟩) (by assumption) ?_
      rotate_left
      · (intro w hSw; (try dsimp only at hSw); go_simp) <;> with_reducible rfl
      (try simp only [Act.put, List.getElem_toArray, List.getElem_cons_zero, List.getElem_cons_succ, List.setIfInBounds_toArray, List.set_cons_zero, List.set_cons_succ])
      refine wpAnyH_take (i := 22) (v := ?_) rfl (by kernel_rfl) (by kernel_rfl) (by kernel_rfl) (fun _ _ _ h => h) (Or.inl ⟨by kernel_rfl, ?_⟩) (by assumption) ?_
      rotate_left
      · (intro w hSw; (try dsimp only at hSw); go_simp) <;> with_reducible rfl
      (try simp only [Act.put, List.getElem_toArray, List.getElem_cons_zero, List.getElem_cons_succ, List.setIfInBounds_toArray, List.set_cons_zero, List.set_cons_succ])
      refine wpAnyH_take (i := 23) (v := ?_) rfl (by kernel_rfl) (by kernel_rfl) (by kernel_rfl) (fun _ _ _ h => h) (Or.inl ⟨by kernel_rfl, ?_⟩) (by assumption) ?_
      rotate_left
      · (intro w hSw; (try dsimp only at hSw); go_simp) <;> with_reducible rfl
      (try simp only [Act.put, List.getElem_toArray, List.getElem_cons_zero, List.getElem_cons_succ, List.setIfInBounds_toArray, List.set_cons_zero, List.set_cons_succ])
      refine wpAnyH_ready (rs := [18]) (by kernel_rfl) (by simp) ?_
      refine AllReadyH.cons rfl (fun K hK => ?_) AllReadyH.nil
      go_simp
      refine (krefsN_at HD5.out.ker env slot).mono ?_
      rintro x w6 ⟨rfl, hb6⟩
      have HN6 : Hid (Eight w6 B ⟨kd, env, slot, tg, num, wb, addr, val⟩) := Eight.below HN5.out hb6
      have HB6 : Hid (Below w.heap.size w w6) := HB5.out.trans (hb6.mono HB5.out.size)
      have HD6 : Hid _ := HD5.out.below hb6
      clear HN5 HB5 HD5 hb6
      refine hK.out _ _ (Eight.cells HN6.out) (fun hHeld => ?_)
      clear hK K
      (try simp only [Act.put, List.getElem_toArray, List.getElem_cons_zero, List.getElem_cons_succ, List.setIfInBounds_toArray, List.set_cons_zero, List.set_cons_succ])
      refine wpAnyH_ready (rs := [24]) (by kernel_rfl) (by simp) ?_
      refine AllReadyH.cons rfl (fun K hK => ?_) AllReadyH.nil
      go_simp
      refine (rkrefs_at HD6.out.ref hlk env slot).mono ?_
      rintro x w7 ⟨rfl, hb7⟩
      have HN7 : Hid (Eight w7 B ⟨kd, env, slot, tg, num, wb, addr, val⟩) := Eight.below HN6.out hb7
      have HB7 : Hid (Below w.heap.size w w7) := HB6.out.trans (hb7.mono HB6.out.size)
      have HD7 : Hid _ := HD6.out.below hb7
      clear HN6 HB6 HD6 hb7
      generalize refsN T3 env slot = rf
      refine hK.out _ _ (Eight.cells HN7.out) (fun hHeld => ?_)
      clear hK K
      (try simp only [Act.put, List.getElem_toArray, List.getElem_cons_zero, List.getElem_cons_succ, List.setIfInBounds_toArray, List.set_cons_zero, List.set_cons_succ])
      refine wpAnyH_take (i := 25) (v := ?_) rfl (by kernel_rfl) (by kernel_rfl) (by kernel_rfl) (fun _ _ _ h => h) (Or.inl ⟨by kernel_rfl, ?_⟩) (by assumption) ?_
      rotate_left
      · (intro w hSw; (try dsimp only at hSw); go_simp) <;> with_reducible rfl
      (try simp only [Act.put, List.getElem_toArray, List.getElem_cons_zero, List.getElem_cons_succ, List.setIfInBounds_toArray, List.set_cons_zero, List.set_cons_succ])
      refine wpAnyH_take (i := 26) (v := ?_) rfl (by kernel_rfl) (by kernel_rfl) (by kernel_rfl) (fun _ _ _ h => h) (Or.inl ⟨by kernel_rfl, ?_⟩) (by assumption) ?_
      rotate_left
      · (intro w hSw; (try dsimp only at hSw); go_simp) <;> with_reducible rfl
      (try simp only [Act.put, List.getElem_toArray, List.getElem_cons_zero, List.getElem_cons_succ, List.setIfInBounds_toArray, List.set_cons_zero, List.set_cons_succ])
      refine wpAnyH_take (i := 27) (v := ?_) rfl (by kernel_rfl) (by kernel_rfl) (by kernel_rfl) (fun _ _ _ h => h) (Or.inl ⟨by kernel_rfl, ?_⟩) (by assumption) ?_
      rotate_left
      · (intro w hSw; (try dsimp only at hSw); go_simp) <;> with_reducible rfl
      (try simp only [Act.put, List.getElem_toArray, List.getElem_cons_zero, List.getElem_cons_succ, List.setIfInBounds_toArray, List.set_cons_zero, List.set_cons_succ])
      refine wpAnyH_take (i := 28) (v := ?_) rfl (by kernel_rfl) (by kernel_rfl) (by kernel_rfl) (fun _ _ _ h => h) (Or.inl ⟨by kernel_rfl, ?_⟩) (by assumption) ?_
      rotate_left
      · (intro w hSw; (try dsimp only at hSw); go_simp) <;> with_reducible rfl
      (try simp only [Act.put, List.getElem_toArray, List.getElem_cons_zero, List.getElem_cons_succ, List.setIfInBounds_toArray, List.set_cons_zero, List.set_cons_succ])
      refine wpAnyH_take (i := 29) (v := ?_) rfl (by kernel_rfl) (by kernel_rfl) (by kernel_rfl) (fun _ _ _ h => h) (Or.inl ⟨by kernel_rfl, ?_⟩) (by assumption) ?_
      rotate_left
      · (intro w hSw; (try dsimp only at hSw); go_simp) <;> with_reducible rfl
      (try simp only [Act.put, List.getElem_toArray, List.getElem_cons_zero, List.getElem_cons_succ, List.setIfInBounds_toArray, List.set_cons_zero, List.set_cons_succ])
      refine wpAnyH_take (i := 30) (v := ?_) rfl (by kernel_rfl) (by kernel_rfl) (by kernel_rfl) (fun _ _ _ h => h) (Or.inl ⟨by kernel_rfl, ?_⟩) (by assumption) ?_
      rotate_left
      · (intro w hSw; (try dsimp only at hSw); go_simp) <;> with_reducible rfl
      (try simp only [Act.put, List.getElem_toArray, List.getElem_cons_zero, List.getElem_cons_succ, List.setIfInBounds_toArray, List.set_cons_zero, List.set_cons_succ])
      refine wpAnyH_take (i := 31) (v := ?_) rfl (by kernel_rfl) (by kernel_rfl) (by kernel_rfl) (fun _ _ _ h => h) (Or.inl ⟨by kernel_rfl, ?_⟩) (by assumption) ?_
      rotate_left
      · (intro w hSw; (try dsimp only at hSw); go_simp) <;> with_reducible rfl
      (try simp only [Act.put, List.getElem_toArray, List.getElem_cons_zero, List.getElem_cons_succ, List.setIfInBounds_toArray, List.set_cons_zero, List.set_cons_succ])
      refine wpAnyH_take (i := 32) (v := ?_) rfl (by kernel_rfl) (by kernel_rfl) (by kernel_rfl) (fun _ _ _ h => h) (Or.inl ⟨by kernel_rfl, ?_⟩) (by assumption) ?_
      rotate_left
      · (intro w hSw; (try dsimp only at hSw); go_simp) <;> with_reducible rfl
      (try simp only [Act.put, List.getElem_toArray, List.getElem_cons_zero, List.getElem_cons_succ, List.setIfInBounds_toArray, List.set_cons_zero, List.set_cons_succ])
      refine wpAnyH_take (i := 34) (v := ?_) rfl (by kernel_rfl) (by kernel_rfl) (by kernel_rfl) (fun _ _ _ h => h) (Or.inl ⟨by kernel_rfl, ?_⟩) (by assumption) ?_
      rotate_left
      · (intro w hSw; (try dsimp only at hSw); go_simp) <;> with_reducible rfl
      (try simp only [Act.put, List.getElem_toArray, List.getElem_cons_zero, List.getElem_cons_succ, List.setIfInBounds_toArray, List.set_cons_zero, List.set_cons_succ])
      refine wpAnyH_take (i := 35) (v := ?_) rfl (by kernel_rfl) (by kernel_rfl) (by kernel_rfl) (fun _ _ _ h => h) (Or.inl ⟨by kernel_rfl, ?_⟩) (by assumption) ?_
      rotate_left
      · (intro w hSw; (try dsimp only at hSw); go_simp) <;> with_reducible rfl
      (try simp only [Act.put, List.getElem_toArray, List.getElem_cons_zero, List.getElem_cons_succ, List.setIfInBounds_toArray, List.set_cons_zero, List.set_cons_succ])
      refine wpAnyH_take (i := 36) (v := ?_) rfl (by kernel_rfl) (by kernel_rfl) (by kernel_rfl) (fun _ _ _ h => h) (Or.inl ⟨by kernel_rfl, ?_⟩) (by assumption) ?_
      rotate_left
      · (intro w hSw; (try dsimp only at hSw); go_simp) <;> with_reducible rfl
      (try simp only [Act.put, List.getElem_toArray, List.getElem_cons_zero, List.getElem_cons_succ, List.setIfInBounds_toArray, List.set_cons_zero, List.set_cons_succ])
      refine wpAnyH_take (i := 37) (v := ?_) rfl (by kernel_rfl) (by kernel_rfl) (by kernel_rfl) (fun _ _ _ h => h) (Or.inl ⟨by kernel_rfl, ?_⟩) (by assumption) ?_
      rotate_left
      · (intro w hSw; (try dsimp only at hSw); go_simp) <;> with_reducible rfl
      (try simp only [Act.put, List.getElem_toArray, List.getElem_cons_zero, List.getElem_cons_succ, List.setIfInBounds_toArray, List.set_cons_zero, List.set_cons_succ])
      refine wpAnyH_take (i := 38) (v := ?_) rfl (by kernel_rfl) (by kernel_rfl) (by kernel_rfl) (fun _ _ _ h => h) (Or.inl ⟨by kernel_rfl, ?_⟩) (by assumption) ?_
      rotate_left
      · (intro w hSw; (try dsimp only at hSw); go_simp) <;> with_reducible rfl
      (try simp only [Act.put, List.getElem_toArray, List.getElem_cons_zero, List.getElem_cons_succ, List.setIfInBounds_toArray, List.set_cons_zero, List.set_cons_succ])
      refine wpAnyH_ready (rs := [33]) (by kernel_rfl) (by simp) ?_
      refine AllReadyH.cons rfl (fun K hK => ?_) AllReadyH.nil
      go_simp
      refine (kslot_at HD7.out.ker env num).mono ?_
      rintro x w8 ⟨rfl, hb8⟩
      have HN8 : Hid (Eight w8 B ⟨kd, env, slot, tg, num, wb, addr, val⟩) := Eight.below HN7.out hb8
      have HB8 : Hid (Below w.heap.size w w8) := HB7.out.trans (hb8.mono HB7.out.size)
      have HD8 : Hid _ := HD7.out.below hb8
      clear HN7 HB7 HD7 hb8
      refine hK.out _ _ (Eight.cells HN8.out) (fun hHeld => ?_)
      clear hK K
      (try simp only [Act.put, List.getElem_toArray, List.getElem_cons_zero, List.getElem_cons_succ, List.setIfInBounds_toArray, List.set_cons_zero, List.set_cons_succ])
      refine wpAnyH_ready (rs := [39]) (by kernel_rfl) (by simp) ?_
      refine AllReadyH.cons rfl (fun K hK => ?_) AllReadyH.nil
      go_simp
      refine (rkslot_at HD8.out.ref hlk env num).mono ?_
      rintro x w9 ⟨rfl, hb9⟩
      have HN9 : Hid (Eight w9 B ⟨kd, env, slot, tg, num, wb, addr, val⟩) := Eight.below HN8.out hb9
      have HB9 : Hid (Below w.heap.size w w9) := HB8.out.trans (hb9.mono HB8.out.size)
      have HD9 : Hid _ := HD8.out.below hb9
      clear HN8 HB8 HD8 hb9
      generalize slotI T3 env num = sl
      refine hK.out _ _ (Eight.cells HN9.out) (fun hHeld => ?_)
      clear hK K
      (try simp only [Act.put, List.getElem_toArray, List.getElem_cons_zero, List.getElem_cons_succ, List.setIfInBounds_toArray, List.set_cons_zero, List.set_cons_succ])
      refine wpAnyH_take (i := 40) (v := ?_) rfl (by kernel_rfl) (by kernel_rfl) (by kernel_rfl) (fun _ _ _ h => h) (Or.inl ⟨by kernel_rfl, ?_⟩) (by assumption) ?_
      rotate_left
      · (intro w hSw; (try dsimp only at hSw); go_simp) <;> with_reducible rfl
      (try simp only [Act.put, List.getElem_toArray, List.getElem_cons_zero, List.getElem_cons_succ, List.setIfInBounds_toArray, List.set_cons_zero, List.set_cons_succ])
      refine wpAnyH_take (i := 41) (v := ?_) rfl (by kernel_rfl) (by kernel_rfl) (by kernel_rfl) (fun _ _ _ h => h) (Or.inl ⟨by kernel_rfl, ?_⟩) (by assumption) ?_
      rotate_left
      · (intro w hSw; (try dsimp only at hSw); go_simp) <;> with_reducible rfl
      (try simp only [Act.put, List.getElem_toArray, List.getElem_cons_zero, List.getElem_cons_succ, List.setIfInBounds_toArray, List.set_cons_zero, List.set_cons_succ])
      refine wpAnyH_done (by kernel_rfl) ?_ _
      clear hHeld HV HBn HN9 ap1 ap2
      go_wp2
      go_loopw [9] (fun s wz => ∃ (m : Nat), m ≤ 12 ∧ s = .int .i64 m ∧ Duo wz K Y X Q n R vs3 T3 F3 L3 last3 ∧ Below w.heap.size w wz) (fun s _ => 12 - (intOf s).toNat)
      case atStart => exact ⟨0, by omega, rfl, HD9.out, HB9.out⟩
      case round =>
        clear HD9 HB9
        obtain ⟨m, hm, rfl, hDm, hBm⟩ := hrel
        by_cases hm12 : m < 12
        · have gm : decide ((m : Int) < 12) = true := decide_eq_true (by omega)
          have HDm : Hid _ := hDm
          have HBm : Hid _ := hBm
          clear hDm hBm
          go_wp2
          go_loopw [10] (fun s wz => ∃ (j : Nat), j ≤ 4 ∧ s = .int .i64 j ∧ Duo wz K Y X Q n R vs3 T3 F3 L3 last3 ∧ Below w.heap.size w wz) (fun s _ => 4 - (intOf s).toNat)
          case atStart => exact ⟨0, by omega, rfl, HDm.out, HBm.out⟩
          case round =>
            clear HDm HBm
            obtain ⟨j, hj, rfl, hDj, hBj⟩ := hrel
            by_cases hj4 : j < 4
            · have gj : decide ((j : Int) < 4) = true := decide_eq_true (by omega)
              have hp1 := kpage_at hDj.ker m j
              have HP2 : Hid (∀ V, Below wr.heap.size wr V → Calls Tryz.prog 17 #[ptr X, .int .i64 m, .int .i64 j] V fun x w' => x = .returned (.tuple #[Mu.pv ((kpageV F3 m j).getD (0, false)), .bool (kpageV F3 m j).isSome]) ∧ Below V.heap.size V w') := fun V hV => rkpage_at (hDj.ref.below hV) m j
              have HDj : Hid _ := hDj
              have HBj : Hid _ := hBj
              clear hDj hBj
              generalize (kpageV F3 m j).isSome = pb at *
              generalize (kpageV F3 m j).getD (0, false) = py at *
              obtain ⟨pf, pw⟩ := py
              dsimp only [Mu.pv] at *
              have hsame := page_same pf pw
              go_wp2_with fail
              refine hp1.mono ?_
              rintro x w8 ⟨rfl, hb8⟩
              obtain ⟨V8, hV8⟩ : ∃ V8, V8 = w8.alloc (.cells #[.int .i64 pf, .bool pw] 35) := ⟨_, rfl⟩
              have hbx : V8.heap[w8.heap.size]? = some (.cells #[.int .i64 pf, .bool pw] 35) := by rw [hV8]; exact heap_alloc_new _ _
              have hb9 : Below wr.heap.size wr V8 := by rw [hV8]; exact hb8.trans ((below_alloc w8 _).mono hb8.size)
              have hcall := HP2.out V8 hb9
              have HB9 : Hid _ := hb9
              have HV8 : Hid _ := hV8
              have HBX : Hid _ := hbx
              clear hp1 HP2 hb8 hb9 hV8 hbx
              go_wp2_with fail
              rw [← HV8.out]
              refine hcall.mono ?_
              rintro x w9 ⟨rfl, hb9'⟩
              have hbx9 := (hb9'.block _ (lt_of_heap HBX.out)).trans HBX.out
              have p0 : w9.cell? ⟨w8.heap.size, 0, none⟩ = some (.int .i64 pf) := by rw [cell_of_heap hbx9]; rfl
              have p1 : w9.cell? ⟨w8.heap.size, 1, none⟩ = some (.bool pw) := by rw [cell_of_heap hbx9]; rfl
              have HBF : Hid (Below wr.heap.size wr w9) := HB9.out.trans (hb9'.mono HB9.out.size)
              have hlt8 : w8.heap.size < w9.heap.size := lt_of_heap hbx9
              clear hcall hb9' HV8 HBX HB9 hbx9
              go_wp2
              go_roundw
              case rel =>
                have hbz : Below wr.heap.size wr (w9.alloc (.cells #[.int .i64 pf, .bool pw] 35)) := HBF.out.trans ((below_alloc w9 _).mono HBF.out.size)
                exact ⟨j + 1, by omega, by go_num, HDj.out.below hbz, HBj.out.trans (hbz.mono HBj.out.size)⟩
              case measure => simp [intOf]; omega
            · obtain rfl : j = 4 := by omega
              go_wp2
              go_roundw
              case rel => exact ⟨m + 1, by omega, by go_num, hDj, hBj⟩
              case measure => simp [intOf]; omega
        · obtain rfl : m = 12 := by omega
          go_wp2
          go_roundw
          case rel => exact ⟨k + 1, vs3, T3, F3, L3, last3, by omega, by omega, by go_num, hDm, by omega, by omega, hBm⟩
          case measure => simp [intOf]; omega
    · have gg : (k < len ∧ decide ((k : Int) < (len : Int)) = true ∧ decide ((k : Int) < 100) = false) ∨ (¬ k < len ∧ decide ((k : Int) < (len : Int)) = false) := by
        by_cases hkl : k < len
        · exact Or.inl ⟨hkl, decide_eq_true (by omega), decide_eq_false (by omega)⟩
        · exact Or.inr ⟨hkl, decide_eq_false (by omega)⟩
      have HB : Hid _ := hB
      clear hDu hB
      rcases gg with ⟨hkl, g0, g1⟩ | ⟨hkl, g0⟩
      all_goals
        go_wp2_with fail
        refine (Go.Proofs.YtfnafjddajgahaaGreat.awake_at _).mono ?_
        rintro e w7 ⟨rfl, hb7⟩
        go_wp2
        go_ret
        exact ⟨rfl, HB.out.trans (hb7.mono HB.out.size)⟩

theorem own : ownKnob Tryz.prog.godebug = none := by kernel_rfl
theorem laidOut : laidOutB Tryz.prog = true := by kernel_rfl

set_option maxRecDepth 100000 in
theorem plays_lifted (os : Os) (started : os.Started) (H : Type) (enc : TypeId × Value → H) :
    ReturnsInHanded {} Tryz.checked os 3 .any (Rows.exomemPlaysSpec.pre6 enc Tryz.prog Tryz.f3 Rows.exomemPlaysRow.domain false) (Rows.exomemPlaysSpec.post enc Tryz.prog Tryz.f3 false true false false) := by
  refine returnsInHanded_of_change (C := Tryz.checked) own started (by kernel_rfl) Tryz.func3
    (ChangeSpec.witness6 (enc := enc) (C := Tryz.checked) false ⟨#[], #[.int .i64 0, .slice none 0 0], []⟩ 8 (by kernel_rfl) (by kernel_rfl) (by kernel_rfl) (by kernel_rfl)) ?_
  intro W base args ds gs before hval0 hW hcnd _
  have hval : ∀ (j : Nat) t v, Tryz.f3.params[j]? = some t → args[j]? = some v → Value.okWide Tryz.prog W .any base t v := hval0
  have hW' := hW
  obtain ⟨p, q, hA0, hV, rfl, hfz, hnd⟩ := hW
  have hA : DataW.TrodAll enc Tryz.prog W 0 (fun _ => true) true Tryz.f3.params.toList args.toList ds p := hA0
  rw [Tryz.params3] at hA hval
  obtain ⟨v0, vs0, d0, ds0, p0, q0, hargs, rfl, rfl, h0, r0⟩ := trodAll_cons hA
  obtain ⟨v1, vs1, d1, ds1, p1, q1, rfl, rfl, rfl, h1, r1⟩ := trodAll_cons r0
  obtain ⟨rfl, rfl, rfl⟩ := trodAll_nil r1
  obtain rfl : args = #[v0, v1] := by cases args; simp_all
  obtain ⟨rfl, rfl⟩ := trodVars_none hV
  obtain ⟨a0, rfl, rfl, rfl, w0⟩ := open_int Tryz.underlying3 (hval 0 3 v0 rfl rfl) h0
  have k1 := h1
  have lt1 : ∀ x ∈ p1, x.block < W.heap.size := by obtain ⟨m, hm⟩ := k1; exact DataW.trod_lt m _ _ _ hm
  obtain ⟨a1, len1, cap1, rfl⟩ := okWide_slice Tryz.underlying22 (hval 1 22 v1 rfl rfl)
  clear hA0 hval0
  have hdeeds : len1 ≤ 9223372036854775807 ∧ DdsAt W a1 len1 := by
    obtain ⟨fuel, hf⟩ := h1
    obtain ⟨hl, hc⟩ := slice_fits (l := ddCK) Tryz.underlying22 ddKinds (by simp) ddSize (by simpa [Value.cells] using hf)
    exact ⟨hl, dds_of hc⟩
  have hwalk : Calls Tryz.prog 3 #[.int .i64 a0, .slice a1 len1 cap1] W fun e w' => e = .returned (.bool true) ∧ Below W.heap.size W w' := by
    by_cases c1 : a0 < 1 ∨ 1024 < a0
    · exact plays_none a0 a1 len1 cap1 W hdeeds.1 c1
    · by_cases c2 : 100 < a0
      · exact plays_many a0 a1 len1 cap1 W c2 (by omega)
      · exact plays_walk a0 a1 len1 cap1 W hdeeds.1 hdeeds.2 (by omega) (by omega)
  refine hwalk.mono fun e W' ⟨he, bel⟩ => ?_
  subst he
  exact ⟨_, rfl, _, _, _, [], _, [], hW', trodAll_mk1 (shut_bool Tryz.underlying4 _), (trodAll_cons_mk (shut_int Tryz.underlying3 w0) (trodAll_cons_mk (Below.trod laidOut (by kernel_rfl) (of_decide_eq_true (by kernel_rfl)) k1 bel lt1) trodAll_mk0)), rfl, bel.frame _, fun h => by cases h⟩

theorem plays_holds : Rows.ExomemPlaysSaid :=
  OpenClaim.holds_of_wide 3 Tryz.f3 rfl rfl rfl rfl rfl rfl rfl ⟨rfl, rfl, rfl, rfl, rfl⟩ rfl rfl rfl rfl rfl (by kernel_rfl) Tryz.func3 (by kernel_rfl)
    (of_decide_eq_true (by kernel_rfl)) (by unfold Func.isWrapper; first | (rw [if_pos (by decide +kernel)]; kernel_rfl) | (rw [if_neg (by decide +kernel)]; exact ⟨rfl, rfl⟩))
    (fun os started H enc _ => plays_lifted os started H enc)
#print axioms plays_holds
end Go.Proofs.YtfnafjddajgahaaGreat
