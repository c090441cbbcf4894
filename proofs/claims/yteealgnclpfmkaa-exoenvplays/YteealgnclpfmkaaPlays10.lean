/- The walk of januslaw10.ExoenvPlays. -/
import Derived.Test.YteealgnclpfmkaaEnvW
import Derived.Test.YteealgnclpfmkaaRlM10
import Derived.Deep.DeepCutAuto
import Derived.Deep.CutBlock
namespace Go.Proofs.Yteealgnclpfmkaa
open Go.RowKit
set_option linter.unusedVariables false

section
variable {w w1 : World} {b g B c gv : Nat} {E : ES} {L V : List Int} {U : List (Int × Int)}
theorem duo_rcreate (h : Duo w b g B c gv E L V U) (n : Int) (hE : EnvAt w1 b g (createT E n) V) (hu : UpdP (Mine b g) w w1) :
    Calls Try.prog 10 #[.pointer (some ⟨c, 0, none⟩), .int .i64 n] w1 fun e w2 => e = .returned (.int .i64 (createR E n)) ∧ Duo w2 b g B c gv (createT E n) (rcreateL L n) V U ∧ UpdP (Its c gv) w1 w2 := by
  obtain ⟨al, cl, cv, au, cu, hR⟩ := h.ref.mine hu h.bB h.gB
  refine (rcreate_at n w1 hR (by have := h.rl.len; omega)).mono ?_
  rw [h.rl.createR n]
  rintro e w2 ⟨rfl, hR2, hu2⟩
  exact ⟨rfl, ⟨hE.its hu2 h.bB h.gB h.bc h.bg, hR2, h.rl.create n, h.bB, h.gB, h.bc, h.bg⟩, hu2⟩
theorem duo_rkill (h : Duo w b g B c gv E L V U) (hU : U.length ≤ 1000) (n : Int) (hE : EnvAt w1 b g (killT E n) (killV E V n)) (hu : UpdP (Mine b g) w w1) :
    Calls Try.prog 12 #[.pointer (some ⟨c, 0, none⟩), .int .i64 n] w1 fun e w2 => e = .returned (.int .i64 (killR E n)) ∧ Duo w2 b g B c gv (killT E n) (rkillL L n) (killV E V n) (rkillU L U n) ∧ UpdP (Its c gv) w1 w2 := by
  obtain ⟨al, cl, cv, au, cu, hR⟩ := h.ref.mine hu h.bB h.gB
  refine (rkill_at n w1 hR (by have := h.rl.len; omega) hU).mono ?_
  rw [h.rl.killR n, h.rl.killV V n]
  rintro e w2 ⟨rfl, hR2, hu2⟩
  exact ⟨rfl, ⟨hE.its hu2 h.bB h.gB h.bc h.bg, hR2, h.rl.kill n, h.bB, h.gB, h.bc, h.bg⟩, hu2⟩
theorem duo_rslice (h : Duo w b g B c gv E L V U) (s n : Int) (hE : EnvAt w1 b g E (sliceV E V s n)) (hu : UpdP (Mine b g) w w1) :
    Calls Try.prog 14 #[.pointer (some ⟨c, 0, none⟩), .int .i64 s, .int .i64 n] w1 fun e w2 => e = .returned (.int .i64 (sliceR E V s n)) ∧ Duo w2 b g B c gv E L (sliceV E V s n) U ∧ UpdP (Its c gv) w1 w2 := by
  obtain ⟨al, cl, cv, au, cu, hR⟩ := h.ref.mine hu h.bB h.gB
  refine (rslice_at s n w1 hR (by have := h.rl.len; omega)).mono ?_
  rw [h.rl.sliceR V s n, h.rl.sliceV V s n]
  rintro e w2 ⟨rfl, hR2, hu2⟩
  exact ⟨rfl, ⟨hE.its hu2 h.bB h.gB h.bc h.bg, hR2, h.rl, h.bB, h.gB, h.bc, h.bg⟩, hu2⟩
theorem duo_rpick (h : Duo w b g B c gv E L V U) (n : Int) (hE : EnvAt w1 b g E V) (hu : UpdP (Mine b g) w w1) :
    Calls Try.prog 16 #[.pointer (some ⟨c, 0, none⟩), .int .i64 n] w1 fun e w2 => e = .returned (.int .i64 (pickA V n)) ∧ Duo w2 b g B c gv E L V U ∧ UpdP (Its c gv) w1 w2 := by
  have hr := h.ref.mine hu h.bB h.gB
  obtain ⟨al, cl, cv, au, cu, hR⟩ := hr
  refine (rpick_at n w1 hR).mono ?_
  rintro e w2 ⟨rfl, rfl⟩
  exact ⟨rfl, ⟨hE, ⟨_, _, _, _, _, hR⟩, h.rl, h.bB, h.gB, h.bc, h.bg⟩, UpdP.refl _ _⟩
theorem duo_pick (h : Duo w b g B c gv E L V U) (n : Int) :
    Calls Try.prog 15 #[.pointer (some ⟨b, 0, none⟩), .int .i64 n] w fun e w1 => e = .returned (.int .i64 (pickA V n)) ∧ EnvAt w1 b g E V ∧ UpdP (Mine b g) w w1 := by
  refine (pick_at b g E V n w h.env).mono ?_
  rintro e w2 ⟨rfl, rfl⟩
  exact ⟨rfl, h.env, UpdP.refl _ _⟩
theorem duo_rfault (h : Duo w b g B c gv E L V U) (hU : U.length ≤ 1000) (n a : Int) (hE : EnvAt w1 b g (faultT E n a) V) (hu : UpdP (Mine b g) w w1) :
    Calls Try.prog 18 #[.pointer (some ⟨c, 0, none⟩), .int .i64 n, .int .u64 a] w1 fun e w2 => e = .returned (.int .i64 (faultR E n)) ∧ Duo w2 b g B c gv (faultT E n a) L V (rfaultU L U n a) ∧ UpdP (Its c gv) w1 w2 := by
  obtain ⟨al, cl, cv, au, cu, hR⟩ := h.ref.mine hu h.bB h.gB
  refine (rfault_at n a w1 hR (by have := h.rl.len; omega) hU).mono ?_
  rw [h.rl.faultR n]
  rintro e w2 ⟨rfl, hR2, hu2⟩
  exact ⟨rfl, ⟨hE.its hu2 h.bB h.gB h.bc h.bg, hR2, h.rl.fault n a, h.bB, h.gB, h.bc, h.bg⟩, hu2⟩
theorem duo_rup (h : Duo w b g B c gv E L V U) (hU : U.length ≤ 1000) (n : Int) (hE : EnvAt w1 b g (upT E n) V) (hu : UpdP (Mine b g) w w1) :
    Calls Try.prog 20 #[.pointer (some ⟨c, 0, none⟩), .int .i64 n] w1 fun e w2 => e = .returned (.tuple #[.int .u64 (upA E n), .bool (upB E n)]) ∧ Duo w2 b g B c gv (upT E n) L V (upK U n) ∧ UpdP (Its c gv) w1 w2 := by
  obtain ⟨al, cl, cv, au, cu, hR⟩ := h.ref.mine hu h.bB h.gB
  refine (rupcall_at n w1 hR hU).mono ?_
  rw [h.rl.a n, h.rl.h n]
  rintro e w2 ⟨rfl, hR2, hu2⟩
  exact ⟨rfl, ⟨hE.its hu2 h.bB h.gB h.bc h.bg, hR2, h.rl.up n, h.bB, h.gB, h.bc, h.bg⟩, hu2⟩
end
theorem its_below {c gv : Nat} {w w1 w2 : World} (h : Below w.heap.size w w1) (hu : UpdP (Its c gv) w1 w2) (hb : w.heap.size ≤ c) (hg : w.heap.size ≤ gv) : Below w.heap.size w w2 :=
  h.trans (hu.below (by rintro k (rfl | rfl) <;> omega) h.size)
/-- A deed in its block. -/
def Box (w : World) (D : Nat) (kd env n a : Int) : Prop := w.heap[D]? = some (.cells #[.int .i64 kd, .int .i64 env, .int .i64 n, .int .u64 a] 29)
theorem Box.cells {w : World} {D : Nat} {kd env n a : Int} (h : Box w D kd env n a) : w.cell? ⟨D, 0, none⟩ = some (.int .i64 kd) ∧ w.cell? ⟨D, 1, none⟩ = some (.int .i64 env) ∧ w.cell? ⟨D, 2, none⟩ = some (.int .i64 n) ∧ w.cell? ⟨D, 3, none⟩ = some (.int .u64 a) := by
  refine ⟨?_, ?_, ?_, ?_⟩ <;> (rw [cell_of_heap h]; rfl)
theorem Box.below {w w' : World} {D : Nat} {kd env n a : Int} (h : Box w D kd env n a) (hb : Below w.heap.size w w') : Box w' D kd env n a := (hb.block _ (lt_of_heap h)).trans h
theorem Box.upd {w w' : World} {P : Nat → Prop} {D : Nat} {kd env n a : Int} (h : Box w D kd env n a) (hu : UpdP P w w') (hp : ¬ P D) : Box w' D kd env n a := (hu.block _ (lt_of_heap h) hp).trans h
theorem rptr_ne (c : Nat) (W : World) : (binOp .neq 25 (.pointer (some ⟨c, 0, none⟩)) (.pointer none)).run Try.prog W = .ok (.bool true) W := by go_simp
theorem rptr_eq (c : Nat) (W : World) : (binOp .eql 25 (.pointer (some ⟨c, 0, none⟩)) (.pointer none)).run Try.prog W = .ok (.bool false) W := by go_simp

theorem irow_of {w : World} {G : Nat} {V : List Int} {t : TypeId} (h : w.heap[G]? = some (.cells (irow V) t)) : IRow w (some ⟨G, 0, none⟩) V := by
  intro j x hx
  refine ⟨G, 0, rfl, ?_⟩
  rw [Nat.zero_add]
  exact irow_cell h hx
theorem RfIs.vrow {w : World} {B c gv : Nat} {al : Option Addr} {cl cv : Nat} {au : Option Addr} {cu : Nat} {L V : List Int} {U : List (Int × Int)} (h : RfIs w B c gv al cl cv au cu L V U) : IRow w (some ⟨gv, 0, none⟩) V := by
  intro j x hx
  refine ⟨gv, 0, rfl, ?_⟩
  rw [Nat.zero_add]
  exact h.vcell hx

theorem plays_no (n : Int) (a0' : Option Addr) (len cap : Nat) (w : World) (h : n < 1 ∨ 64 < n) :
    Calls Try.prog 3 #[.int .i64 n, .slice a0' len cap] w fun e w' => e = .returned (.bool true) ∧ Below w.heap.size w w' := by
  have hk := new_no n w h
  have hx := rnew_no n w h
  clear h
  by_cases h0 : 0 < len
  · have g0 : decide ((0 : Int) < (len : Int)) = true := decide_eq_true (by omega)
    go_enter Try.func3, Try.ntmps3
    go_wp2_with fail
    refine hk.mono ?_
    rintro e w1 ⟨rfl, hw1⟩
    rw [hw1]
    clear hw1 w1
    go_wp2_with fail
    refine hx.mono ?_
    rintro e w1 ⟨rfl, hw1⟩
    rw [hw1]
    clear hw1 w1 hk hx
    go_wp2
    go_loopw [7] (fun s wr => s = .int .i64 0 ∧ wr = w) (fun _ _ => 0)
    case atStart => exact ⟨rfl, rfl⟩
    case round =>
      obtain ⟨rfl, hwr⟩ := hrel
      subst hwr
      go_wp2_with fail
      refine (awake_at _).mono ?_
      rintro e w7 ⟨rfl, hb7⟩
      go_wp2
      go_ret
      exact ⟨rfl, hb7⟩
  · have g0 : decide ((0 : Int) < (len : Int)) = false := decide_eq_false (by omega)
    go_enter Try.func3, Try.ntmps3
    go_wp2_with fail
    refine hk.mono ?_
    rintro e w1 ⟨rfl, hw1⟩
    rw [hw1]
    clear hw1 w1
    go_wp2_with fail
    refine hx.mono ?_
    rintro e w1 ⟨rfl, hw1⟩
    rw [hw1]
    clear hw1 w1 hk hx
    go_wp2
    go_loopw [7] (fun s wr => s = .int .i64 0 ∧ wr = w) (fun _ _ => 0)
    case atStart => exact ⟨rfl, rfl⟩
    case round =>
      obtain ⟨rfl, hwr⟩ := hrel
      subst hwr
      go_wp2_with fail
      refine (awake_at _).mono ?_
      rintro e w7 ⟨rfl, hb7⟩
      go_wp2
      go_ret
      exact ⟨rfl, hb7⟩

set_option maxRecDepth 100000 in
set_option maxHeartbeats 4000000 in
theorem plays_yes (n : Nat) (a0' : Option Addr) (len cap : Nat) (w : World) (h1 : 1 ≤ n) (h2 : n ≤ 64) (hlen : len ≤ 9223372036854775807) (hdeeds : Hid (DeedsAt w a0' len)) :
    Calls Try.prog 3 #[.int .i64 n, .slice a0' len cap] w fun e w' => e = .returned (.bool true) ∧ Below w.heap.size w w' := by
  have hk := new_yes n w h1 h2
  have hx := fun V => rnew_yes n V h1 h2
  clear h1 h2
  go_enter Try.func3, Try.ntmps3
  go_wp2_with fail
  refine hk.mono ?_
  rintro e w1 ⟨rfl, hE, hB, hsz⟩
  obtain ⟨b, hbq⟩ : ∃ b, b = w.heap.size + 1 := ⟨_, rfl⟩
  obtain ⟨g, hgq⟩ : ∃ g, g = w.heap.size := ⟨_, rfl⟩
  rw [← hbq] at hE ⊢
  have HE1 : Hid (EnvAt w1 b g E0 (List.replicate n (-1))) := by rw [hgq]; exact hE
  have HB1 : Hid (Below w.heap.size w w1) := hB
  have hbb : w.heap.size ≤ b := by omega
  have hgg : w.heap.size ≤ g := by omega
  have HLT : Hid (b < w1.heap.size ∧ g < w1.heap.size) := ⟨by omega, by omega⟩
  clear hE hB hsz hbq hgq hk
  go_wp2_with fail
  refine (hx w1).mono ?_
  rintro e w2 ⟨rfl, ⟨gv, hR⟩, hB2⟩
  obtain ⟨c, hcq⟩ : ∃ c, c = w1.heap.size := ⟨_, rfl⟩
  rw [← hcq] at hR ⊢
  have hgv : c ≤ gv := by
    obtain ⟨_, _, _, _, _, hR'⟩ := hR
    exact hR'.bg
  have hbc : b < c := by rw [hcq]; exact HLT.out.1
  have hgc : g < c := by rw [hcq]; exact HLT.out.2
  have HD : Hid (Duo w2 b g c c gv E0 [] (List.replicate n (-1)) []) := ⟨HE1.out.below hB2, hR, Rl.zero, hbc, hgc, Nat.le_refl _, hgv⟩
  have HB : Hid (Below w.heap.size w w2) := HB1.out.trans (hB2.mono HB1.out.size)
  have hcc : w.heap.size ≤ c := by omega
  have hvv : w.heap.size ≤ gv := by omega
  have hn1 := ptr_eq b
  have hn2 := rptr_eq c
  have hn3 := rptr_ne c
  clear hR hB2 hcq hx HLT HE1 HB1
  go_wp2
  go_loopw [7] (fun s wr => ∃ (k : Nat) (E : ES) (L V : List Int) (U : List (Int × Int)), k ≤ len ∧ k ≤ 200 ∧ s = .int .i64 k ∧ Duo wr b g c c gv E L V U ∧ U.length ≤ k ∧ Below w.heap.size w wr) (fun s _ => 200 - (intOf s).toNat)
  case atStart => exact ⟨0, _, _, _, _, by omega, by omega, rfl, HD.out, by simp, HB.out⟩
  case round =>
    clear HD HB
    obtain ⟨k, E, L, V, U, hk, hk2, rfl, hD, hUk, hB⟩ := hrel
    by_cases hlt : k < len ∧ k < 200
    · obtain ⟨l1, l2⟩ := hlt
      obtain ⟨gb, off, d, rfl, e0, e1, e2, e3⟩ := (hdeeds.out.below hB) k l1
      obtain ⟨kd, env, nn, ad⟩ := d
      dsimp only at *
      have g0 : decide ((k : Int) < (len : Int)) = true := decide_eq_true (by omega)
      have g1 : decide ((k : Int) < 200) = true := decide_eq_true (by omega)
      have ik : (k : Int) < (len : Int) := by omega
      obtain ⟨W, hW⟩ : ∃ W, W = wr.alloc (.cells #[.int .i64 kd, .int .i64 env, .int .i64 nn, .int .u64 ad] 29) := ⟨_, rfl⟩
      have hbW : Below wr.heap.size wr W := by rw [hW]; exact below_alloc _ _
      obtain ⟨D, hDn⟩ : ∃ D, D = wr.heap.size := ⟨_, rfl⟩
      have HX : Hid (Box W D kd env nn ad) := by rw [hW, hDn]; exact heap_alloc_new _ _
      have hDb : b < D := by rw [hDn]; exact hD.env.ltb
      have hDg : g < D := by rw [hDn]; exact hD.env.ltg
      have hDc : c < D ∧ gv < D := by
        obtain ⟨_, _, _, _, _, hR'⟩ := hD.ref
        rw [hDn]
        exact ⟨hR'.ltc, hR'.ltg⟩
      obtain ⟨hDc, hDv⟩ := hDc
      have HD : Hid _ := hD.below hbW
      have HB : Hid (Below w.heap.size w W) := hB.trans (hbW.mono hB.size)
      have HW : Hid _ := hW
      have HDn : Hid _ := hDn
      clear hW hbW hD hB hDn
      go_upto_block 2 with fail
      rw [← HW.out, ← HDn.out]
      clear HW HDn e0 e1 e2 e3 hdeeds
      go_cut [9, 10, 11, 12, 13] (fun ok _ _ _ _ wc => ok = .bool true ∧ ∃ (E' : ES) (L' V' : List Int) (U' : List (Int × Int)), Duo wc b g c c gv E' L' V' U' ∧ U'.length ≤ k + 1 ∧ Box wc D kd env nn ad ∧ Below w.heap.size w wc)
      case first =>
        have hdr : Below W.heap.size W W.drew := (Below.refl _ _).drew
        obtain ⟨c0, c1, c2, c3⟩ := Box.cells HX.out
        obtain ⟨f0, f1, f2, f3⟩ := Box.cells (Box.below HX.out hdr)
        have HXd : Hid (Box W.drew D kd env nn ad) := Box.below HX.out hdr
        have HDd : Hid _ := HD.out.below hdr
        have HBd : Hid (Below w.heap.size w W.drew) := HB.out.drew
        have kinds : (kd == 0) = true ∨ ((kd == 0) = false ∧ (kd == 1) = true) ∨ ((kd == 0) = false ∧ (kd == 1) = false ∧ (kd == 2) = true) ∨ ((kd == 0) = false ∧ (kd == 1) = false ∧ (kd == 2) = false ∧ (kd == 3) = true) ∨ ((kd == 0) = false ∧ (kd == 1) = false ∧ (kd == 2) = false ∧ (kd == 3) = false ∧ (kd == 4) = true) ∨ ((kd == 0) = false ∧ (kd == 1) = false ∧ (kd == 2) = false ∧ (kd == 3) = false ∧ (kd == 4) = false) := by
          simp only [beq_iff_eq, beq_eq_false_iff_ne]
          omega
        clear hdr
        rcases kinds with k0 | ⟨k0, k1⟩ | ⟨k0, k1, k2⟩ | ⟨k0, k1, k2, k3⟩ | ⟨k0, k1, k2, k3, k4⟩ | ⟨k0, k1, k2, k3, k4⟩
        · have hop := create_at b g E V env W.drew HDd.out.env
          have hrf := fun (w1 : World) (hE1 : EnvAt w1 b g _ _) (hu1 : UpdP (Mine b g) W.drew w1) => duo_rcreate HDd.out env hE1 hu1
          generalize createR E env = r at hop hrf
          go_wp2_with fail
          clear c0 c1 c2 c3
          refine wp_region_held_drew (S := fun w' => w'.cell? ⟨D, 1, none⟩ = some (.int .i64 env)) (by kernel_rfl) f1 (fun hHeld => ?_)
          refine wpAnyH_take (i := 0) (v := ?_) rfl (by kernel_rfl) (by kernel_rfl) (by kernel_rfl) (fun _ _ _ h => h) (Or.inl ⟨by kernel_rfl, ?_⟩) (by assumption) ?_
          rotate_left
          · (intro w hSw; (try dsimp only at hSw); go_simp) <;> with_reducible rfl
          (try simp only [Act.put, List.getElem_toArray, List.getElem_cons_zero, List.setIfInBounds_toArray, List.set_cons_zero, List.set_cons_succ])
          refine wpAnyH_take (i := 1) (v := ?_) rfl (by kernel_rfl) (by kernel_rfl) (by kernel_rfl) (fun _ _ _ h => h) (Or.inl ⟨by kernel_rfl, ?_⟩) (by assumption) ?_
          rotate_left
          · (intro w hSw; (try dsimp only at hSw); go_simp) <;> with_reducible rfl
          (try simp only [Act.put, List.getElem_toArray, List.getElem_cons_zero, List.getElem_cons_succ, List.setIfInBounds_toArray, List.set_cons_zero, List.set_cons_succ])
          refine wpAnyH_take (i := 2) (v := ?_) rfl (by kernel_rfl) (by kernel_rfl) (by kernel_rfl) (fun _ _ _ h => h) (Or.inl ⟨by kernel_rfl, ?_⟩) (by assumption) ?_
          rotate_left
          · (intro w hSw; (try dsimp only at hSw); go_simp) <;> with_reducible rfl
          (try simp only [Act.put, List.getElem_toArray, List.getElem_cons_zero, List.getElem_cons_succ, List.setIfInBounds_toArray, List.set_cons_zero, List.set_cons_succ])
          refine wpAnyH_take (i := 4) (v := ?_) rfl (by kernel_rfl) (by kernel_rfl) (by kernel_rfl) (fun _ _ _ h => h) (Or.inl ⟨by kernel_rfl, ?_⟩) (by assumption) ?_
          rotate_left
          · (intro w hSw; (try dsimp only at hSw); go_simp) <;> with_reducible rfl
          (try simp only [Act.put, List.getElem_toArray, List.getElem_cons_zero, List.getElem_cons_succ, List.setIfInBounds_toArray, List.set_cons_zero, List.set_cons_succ])
          refine wpAnyH_take (i := 5) (v := ?_) rfl (by kernel_rfl) (by kernel_rfl) (by kernel_rfl) (fun _ _ _ h => h) (Or.inl ⟨by kernel_rfl, ?_⟩) (by assumption) ?_
          rotate_left
          · (intro w hSw; (try dsimp only at hSw); go_simp) <;> with_reducible rfl
          (try simp only [Act.put, List.getElem_toArray, List.getElem_cons_zero, List.getElem_cons_succ, List.setIfInBounds_toArray, List.set_cons_zero, List.set_cons_succ])
          refine wpAnyH_take (i := 6) (v := ?_) rfl (by kernel_rfl) (by kernel_rfl) (by kernel_rfl) (fun _ _ _ h => h) (Or.inl ⟨by kernel_rfl, ?_⟩) (by assumption) ?_
          rotate_left
          · (intro w hSw; (try dsimp only at hSw); go_simp) <;> with_reducible rfl
          (try simp only [Act.put, List.getElem_toArray, List.getElem_cons_zero, List.getElem_cons_succ, List.setIfInBounds_toArray, List.set_cons_zero, List.set_cons_succ])
          refine wpAnyH_ready (rs := [3]) (by kernel_rfl) (by simp) ?_
          refine AllReadyH.cons rfl (fun K hK => ?_) AllReadyH.nil
          go_simp
          refine hop.mono ?_
          rintro e w1 ⟨rfl, hE1, hu1⟩
          have hX1 := Box.upd HXd.out hu1 (by rintro (q | q) <;> omega)
          have HB1 : Hid (Below w.heap.size w w1) := mine_below HBd.out hu1 hbb hgg
          have HX1 : Hid _ := hX1
          obtain ⟨g0, g1, g2, g3⟩ := Box.cells hX1
          have hrf1 := hrf w1 hE1 hu1
          clear hX1 hE1 hu1 hrf hop
          refine hK.out _ _ g1 (fun hHeld => ?_)
          clear hK K
          (try simp only [Act.put, List.getElem_toArray, List.getElem_cons_zero, List.getElem_cons_succ, List.setIfInBounds_toArray, List.set_cons_zero, List.set_cons_succ])
          refine wpAnyH_ready (rs := [7]) (by kernel_rfl) (by simp) ?_
          refine AllReadyH.cons rfl (fun K hK => ?_) AllReadyH.nil
          go_simp
          refine hrf1.mono ?_
          rintro e w2 ⟨rfl, hD2, hu2⟩
          have hX2 := Box.upd HX1.out hu2 (by rintro (q | q) <;> omega)
          have HB2 : Hid (Below w.heap.size w w2) := its_below HB1.out hu2 hcc hvv
          have HX2 : Hid _ := hX2
          have HD2 : Hid _ := hD2
          obtain ⟨m0, m1, m2, m3⟩ := Box.cells hX2
          clear hX2 hD2 hu2 hrf1
          refine hK.out _ _ m1 (fun hHeld => ?_)
          clear hK K
          (try simp only [Act.put, List.getElem_toArray, List.getElem_cons_zero, List.getElem_cons_succ, List.setIfInBounds_toArray, List.set_cons_zero, List.set_cons_succ])
          refine wpAnyH_take (i := 8) (v := ?_) rfl (by kernel_rfl) (by kernel_rfl) (by kernel_rfl) (fun _ _ _ h => h) (Or.inl ⟨by kernel_rfl, ?_⟩) (by assumption) ?_
          rotate_left
          · (intro w hSw; (try dsimp only at hSw); go_simp) <;> with_reducible rfl
          (try simp only [Act.put, List.getElem_toArray, List.getElem_cons_zero, List.getElem_cons_succ, List.setIfInBounds_toArray, List.set_cons_zero, List.set_cons_succ])
          refine wpAnyH_take (i := 9) (v := ?_) rfl (by kernel_rfl) (by kernel_rfl) (by kernel_rfl) (fun _ _ _ h => h) (Or.inl ⟨by kernel_rfl, ?_⟩) (by assumption) ?_
          rotate_left
          · (intro w hSw; (try dsimp only at hSw); go_simp) <;> with_reducible rfl
          (try simp only [Act.put, List.getElem_toArray, List.getElem_cons_zero, List.getElem_cons_succ, List.setIfInBounds_toArray, List.set_cons_zero, List.set_cons_succ])
          refine wpAnyH_done (by kernel_rfl) ?_ _
          clear hHeld
          go_wp2_with fail
          go_meet
          case rel => exact ⟨by simp, _, _, _, _, HD2.out, by omega, HX2.out, HB2.out⟩
        · have hop := kill_at b g E V env W.drew HDd.out.env
          have hrf := fun (w1 : World) (hE1 : EnvAt w1 b g _ _) (hu1 : UpdP (Mine b g) W.drew w1) => duo_rkill HDd.out (by omega) env hE1 hu1
          generalize killR E env = r at hop hrf
          go_wp2_with fail
          clear c0 c1 c2 c3
          refine wp_region_held_drew (S := fun w' => w'.cell? ⟨D, 1, none⟩ = some (.int .i64 env)) (by kernel_rfl) f1 (fun hHeld => ?_)
          refine wpAnyH_take (i := 0) (v := ?_) rfl (by kernel_rfl) (by kernel_rfl) (by kernel_rfl) (fun _ _ _ h => h) (Or.inl ⟨by kernel_rfl, ?_⟩) (by assumption) ?_
          rotate_left
          · (intro w hSw; (try dsimp only at hSw); go_simp) <;> with_reducible rfl
          (try simp only [Act.put, List.getElem_toArray, List.getElem_cons_zero, List.setIfInBounds_toArray, List.set_cons_zero, List.set_cons_succ])
          refine wpAnyH_take (i := 1) (v := ?_) rfl (by kernel_rfl) (by kernel_rfl) (by kernel_rfl) (fun _ _ _ h => h) (Or.inl ⟨by kernel_rfl, ?_⟩) (by assumption) ?_
          rotate_left
          · (intro w hSw; (try dsimp only at hSw); go_simp) <;> with_reducible rfl
          (try simp only [Act.put, List.getElem_toArray, List.getElem_cons_zero, List.getElem_cons_succ, List.setIfInBounds_toArray, List.set_cons_zero, List.set_cons_succ])
          refine wpAnyH_take (i := 2) (v := ?_) rfl (by kernel_rfl) (by kernel_rfl) (by kernel_rfl) (fun _ _ _ h => h) (Or.inl ⟨by kernel_rfl, ?_⟩) (by assumption) ?_
          rotate_left
          · (intro w hSw; (try dsimp only at hSw); go_simp) <;> with_reducible rfl
          (try simp only [Act.put, List.getElem_toArray, List.getElem_cons_zero, List.getElem_cons_succ, List.setIfInBounds_toArray, List.set_cons_zero, List.set_cons_succ])
          refine wpAnyH_take (i := 4) (v := ?_) rfl (by kernel_rfl) (by kernel_rfl) (by kernel_rfl) (fun _ _ _ h => h) (Or.inl ⟨by kernel_rfl, ?_⟩) (by assumption) ?_
          rotate_left
          · (intro w hSw; (try dsimp only at hSw); go_simp) <;> with_reducible rfl
          (try simp only [Act.put, List.getElem_toArray, List.getElem_cons_zero, List.getElem_cons_succ, List.setIfInBounds_toArray, List.set_cons_zero, List.set_cons_succ])
          refine wpAnyH_take (i := 5) (v := ?_) rfl (by kernel_rfl) (by kernel_rfl) (by kernel_rfl) (fun _ _ _ h => h) (Or.inl ⟨by kernel_rfl, ?_⟩) (by assumption) ?_
          rotate_left
          · (intro w hSw; (try dsimp only at hSw); go_simp) <;> with_reducible rfl
          (try simp only [Act.put, List.getElem_toArray, List.getElem_cons_zero, List.getElem_cons_succ, List.setIfInBounds_toArray, List.set_cons_zero, List.set_cons_succ])
          refine wpAnyH_take (i := 6) (v := ?_) rfl (by kernel_rfl) (by kernel_rfl) (by kernel_rfl) (fun _ _ _ h => h) (Or.inl ⟨by kernel_rfl, ?_⟩) (by assumption) ?_
          rotate_left
          · (intro w hSw; (try dsimp only at hSw); go_simp) <;> with_reducible rfl
          (try simp only [Act.put, List.getElem_toArray, List.getElem_cons_zero, List.getElem_cons_succ, List.setIfInBounds_toArray, List.set_cons_zero, List.set_cons_succ])
          refine wpAnyH_ready (rs := [3]) (by kernel_rfl) (by simp) ?_
          refine AllReadyH.cons rfl (fun K hK => ?_) AllReadyH.nil
          go_simp
          refine hop.mono ?_
          rintro e w1 ⟨rfl, hE1, hu1⟩
          have hX1 := Box.upd HXd.out hu1 (by rintro (q | q) <;> omega)
          have HB1 : Hid (Below w.heap.size w w1) := mine_below HBd.out hu1 hbb hgg
          have HX1 : Hid _ := hX1
          obtain ⟨g0, g1, g2, g3⟩ := Box.cells hX1
          have hrf1 := hrf w1 hE1 hu1
          clear hX1 hE1 hu1 hrf hop
          refine hK.out _ _ g1 (fun hHeld => ?_)
          clear hK K
          (try simp only [Act.put, List.getElem_toArray, List.getElem_cons_zero, List.getElem_cons_succ, List.setIfInBounds_toArray, List.set_cons_zero, List.set_cons_succ])
          refine wpAnyH_ready (rs := [7]) (by kernel_rfl) (by simp) ?_
          refine AllReadyH.cons rfl (fun K hK => ?_) AllReadyH.nil
          go_simp
          refine hrf1.mono ?_
          rintro e w2 ⟨rfl, hD2, hu2⟩
          have hX2 := Box.upd HX1.out hu2 (by rintro (q | q) <;> omega)
          have HB2 : Hid (Below w.heap.size w w2) := its_below HB1.out hu2 hcc hvv
          have HX2 : Hid _ := hX2
          have HD2 : Hid _ := hD2
          obtain ⟨m0, m1, m2, m3⟩ := Box.cells hX2
          clear hX2 hD2 hu2 hrf1
          refine hK.out _ _ m1 (fun hHeld => ?_)
          clear hK K
          (try simp only [Act.put, List.getElem_toArray, List.getElem_cons_zero, List.getElem_cons_succ, List.setIfInBounds_toArray, List.set_cons_zero, List.set_cons_succ])
          refine wpAnyH_take (i := 8) (v := ?_) rfl (by kernel_rfl) (by kernel_rfl) (by kernel_rfl) (fun _ _ _ h => h) (Or.inl ⟨by kernel_rfl, ?_⟩) (by assumption) ?_
          rotate_left
          · (intro w hSw; (try dsimp only at hSw); go_simp) <;> with_reducible rfl
          (try simp only [Act.put, List.getElem_toArray, List.getElem_cons_zero, List.getElem_cons_succ, List.setIfInBounds_toArray, List.set_cons_zero, List.set_cons_succ])
          refine wpAnyH_take (i := 9) (v := ?_) rfl (by kernel_rfl) (by kernel_rfl) (by kernel_rfl) (fun _ _ _ h => h) (Or.inl ⟨by kernel_rfl, ?_⟩) (by assumption) ?_
          rotate_left
          · (intro w hSw; (try dsimp only at hSw); go_simp) <;> with_reducible rfl
          (try simp only [Act.put, List.getElem_toArray, List.getElem_cons_zero, List.getElem_cons_succ, List.setIfInBounds_toArray, List.set_cons_zero, List.set_cons_succ])
          refine wpAnyH_done (by kernel_rfl) ?_ _
          clear hHeld
          go_wp2_with fail
          go_meet
          case rel => exact ⟨by simp, _, _, _, _, HD2.out, by have := rkillU_len L U env; omega, HX2.out, HB2.out⟩
        · have hop := slice_at b g E V nn env W.drew HDd.out.env
          have hrf := fun (w1 : World) (hE1 : EnvAt w1 b g _ _) (hu1 : UpdP (Mine b g) W.drew w1) => duo_rslice HDd.out nn env hE1 hu1
          generalize sliceR E V nn env = r at hop hrf
          go_wp2_with fail
          clear c0 c1 c2 c3
          refine wp_region_held_drew (S := fun w' => w'.cell? ⟨D, 2, none⟩ = some (.int .i64 nn) ∧ w'.cell? ⟨D, 1, none⟩ = some (.int .i64 env)) (by kernel_rfl) ⟨f2, f1⟩ (fun hHeld => ?_)
          refine wpAnyH_take (i := 0) (v := ?_) rfl (by kernel_rfl) (by kernel_rfl) (by kernel_rfl) (fun _ _ _ h => h) (Or.inl ⟨by kernel_rfl, ?_⟩) (by assumption) ?_
          rotate_left
          · (intro w hSw; (try dsimp only at hSw); go_simp) <;> with_reducible rfl
          (try simp only [Act.put, List.getElem_toArray, List.getElem_cons_zero, List.setIfInBounds_toArray, List.set_cons_zero, List.set_cons_succ])
          refine wpAnyH_take (i := 1) (v := ?_) rfl (by kernel_rfl) (by kernel_rfl) (by kernel_rfl) (fun _ _ _ h => h) (Or.inl ⟨by kernel_rfl, ?_⟩) (by assumption) ?_
          rotate_left
          · (intro w hSw; (try dsimp only at hSw); go_simp) <;> with_reducible rfl
          (try simp only [Act.put, List.getElem_toArray, List.getElem_cons_zero, List.getElem_cons_succ, List.setIfInBounds_toArray, List.set_cons_zero, List.set_cons_succ])
          refine wpAnyH_take (i := 2) (v := ?_) rfl (by kernel_rfl) (by kernel_rfl) (by kernel_rfl) (fun _ _ _ h => h) (Or.inl ⟨by kernel_rfl, ?_⟩) (by assumption) ?_
          rotate_left
          · (intro w hSw; (try dsimp only at hSw); go_simp) <;> with_reducible rfl
          (try simp only [Act.put, List.getElem_toArray, List.getElem_cons_zero, List.getElem_cons_succ, List.setIfInBounds_toArray, List.set_cons_zero, List.set_cons_succ])
          refine wpAnyH_take (i := 3) (v := ?_) rfl (by kernel_rfl) (by kernel_rfl) (by kernel_rfl) (fun _ _ _ h => h) (Or.inl ⟨by kernel_rfl, ?_⟩) (by assumption) ?_
          rotate_left
          · (intro w hSw; (try dsimp only at hSw); go_simp) <;> with_reducible rfl
          (try simp only [Act.put, List.getElem_toArray, List.getElem_cons_zero, List.getElem_cons_succ, List.setIfInBounds_toArray, List.set_cons_zero, List.set_cons_succ])
          refine wpAnyH_take (i := 4) (v := ?_) rfl (by kernel_rfl) (by kernel_rfl) (by kernel_rfl) (fun _ _ _ h => h) (Or.inl ⟨by kernel_rfl, ?_⟩) (by assumption) ?_
          rotate_left
          · (intro w hSw; (try dsimp only at hSw); go_simp) <;> with_reducible rfl
          (try simp only [Act.put, List.getElem_toArray, List.getElem_cons_zero, List.getElem_cons_succ, List.setIfInBounds_toArray, List.set_cons_zero, List.set_cons_succ])
          refine wpAnyH_take (i := 6) (v := ?_) rfl (by kernel_rfl) (by kernel_rfl) (by kernel_rfl) (fun _ _ _ h => h) (Or.inl ⟨by kernel_rfl, ?_⟩) (by assumption) ?_
          rotate_left
          · (intro w hSw; (try dsimp only at hSw); go_simp) <;> with_reducible rfl
          (try simp only [Act.put, List.getElem_toArray, List.getElem_cons_zero, List.getElem_cons_succ, List.setIfInBounds_toArray, List.set_cons_zero, List.set_cons_succ])
          refine wpAnyH_take (i := 7) (v := ?_) rfl (by kernel_rfl) (by kernel_rfl) (by kernel_rfl) (fun _ _ _ h => h) (Or.inl ⟨by kernel_rfl, ?_⟩) (by assumption) ?_
          rotate_left
          · (intro w hSw; (try dsimp only at hSw); go_simp) <;> with_reducible rfl
          (try simp only [Act.put, List.getElem_toArray, List.getElem_cons_zero, List.getElem_cons_succ, List.setIfInBounds_toArray, List.set_cons_zero, List.set_cons_succ])
          refine wpAnyH_take (i := 8) (v := ?_) rfl (by kernel_rfl) (by kernel_rfl) (by kernel_rfl) (fun _ _ _ h => h) (Or.inl ⟨by kernel_rfl, ?_⟩) (by assumption) ?_
          rotate_left
          · (intro w hSw; (try dsimp only at hSw); go_simp) <;> with_reducible rfl
          (try simp only [Act.put, List.getElem_toArray, List.getElem_cons_zero, List.getElem_cons_succ, List.setIfInBounds_toArray, List.set_cons_zero, List.set_cons_succ])
          refine wpAnyH_take (i := 9) (v := ?_) rfl (by kernel_rfl) (by kernel_rfl) (by kernel_rfl) (fun _ _ _ h => h) (Or.inl ⟨by kernel_rfl, ?_⟩) (by assumption) ?_
          rotate_left
          · (intro w hSw; (try dsimp only at hSw); go_simp) <;> with_reducible rfl
          (try simp only [Act.put, List.getElem_toArray, List.getElem_cons_zero, List.getElem_cons_succ, List.setIfInBounds_toArray, List.set_cons_zero, List.set_cons_succ])
          refine wpAnyH_take (i := 10) (v := ?_) rfl (by kernel_rfl) (by kernel_rfl) (by kernel_rfl) (fun _ _ _ h => h) (Or.inl ⟨by kernel_rfl, ?_⟩) (by assumption) ?_
          rotate_left
          · (intro w hSw; (try dsimp only at hSw); go_simp) <;> with_reducible rfl
          (try simp only [Act.put, List.getElem_toArray, List.getElem_cons_zero, List.getElem_cons_succ, List.setIfInBounds_toArray, List.set_cons_zero, List.set_cons_succ])
          refine wpAnyH_ready (rs := [5]) (by kernel_rfl) (by simp) ?_
          refine AllReadyH.cons rfl (fun K hK => ?_) AllReadyH.nil
          go_simp
          refine hop.mono ?_
          rintro e w1 ⟨rfl, hE1, hu1⟩
          have hX1 := Box.upd HXd.out hu1 (by rintro (q | q) <;> omega)
          have HB1 : Hid (Below w.heap.size w w1) := mine_below HBd.out hu1 hbb hgg
          have HX1 : Hid _ := hX1
          obtain ⟨g0, g1, g2, g3⟩ := Box.cells hX1
          have hrf1 := hrf w1 hE1 hu1
          clear hX1 hE1 hu1 hrf hop
          refine hK.out _ _ ⟨g2, g1⟩ (fun hHeld => ?_)
          clear hK K
          (try simp only [Act.put, List.getElem_toArray, List.getElem_cons_zero, List.getElem_cons_succ, List.setIfInBounds_toArray, List.set_cons_zero, List.set_cons_succ])
          refine wpAnyH_ready (rs := [11]) (by kernel_rfl) (by simp) ?_
          refine AllReadyH.cons rfl (fun K hK => ?_) AllReadyH.nil
          go_simp
          refine hrf1.mono ?_
          rintro e w2 ⟨rfl, hD2, hu2⟩
          have hX2 := Box.upd HX1.out hu2 (by rintro (q | q) <;> omega)
          have HB2 : Hid (Below w.heap.size w w2) := its_below HB1.out hu2 hcc hvv
          have HX2 : Hid _ := hX2
          have HD2 : Hid _ := hD2
          obtain ⟨m0, m1, m2, m3⟩ := Box.cells hX2
          clear hX2 hD2 hu2 hrf1
          refine hK.out _ _ ⟨m2, m1⟩ (fun hHeld => ?_)
          clear hK K
          (try simp only [Act.put, List.getElem_toArray, List.getElem_cons_zero, List.getElem_cons_succ, List.setIfInBounds_toArray, List.set_cons_zero, List.set_cons_succ])
          refine wpAnyH_take (i := 12) (v := ?_) rfl (by kernel_rfl) (by kernel_rfl) (by kernel_rfl) (fun _ _ _ h => h) (Or.inl ⟨by kernel_rfl, ?_⟩) (by assumption) ?_
          rotate_left
          · (intro w hSw; (try dsimp only at hSw); go_simp) <;> with_reducible rfl
          (try simp only [Act.put, List.getElem_toArray, List.getElem_cons_zero, List.getElem_cons_succ, List.setIfInBounds_toArray, List.set_cons_zero, List.set_cons_succ])
          refine wpAnyH_take (i := 13) (v := ?_) rfl (by kernel_rfl) (by kernel_rfl) (by kernel_rfl) (fun _ _ _ h => h) (Or.inl ⟨by kernel_rfl, ?_⟩) (by assumption) ?_
          rotate_left
          · (intro w hSw; (try dsimp only at hSw); go_simp) <;> with_reducible rfl
          (try simp only [Act.put, List.getElem_toArray, List.getElem_cons_zero, List.getElem_cons_succ, List.setIfInBounds_toArray, List.set_cons_zero, List.set_cons_succ])
          refine wpAnyH_done (by kernel_rfl) ?_ _
          clear hHeld
          go_wp2_with fail
          go_meet
          case rel => exact ⟨by simp, _, _, _, _, HD2.out, by omega, HX2.out, HB2.out⟩
        · have hop := duo_pick HDd.out nn
          have hrf := fun (w1 : World) (hE1 : EnvAt w1 b g _ _) (hu1 : UpdP (Mine b g) W.drew w1) => duo_rpick HDd.out nn hE1 hu1
          generalize pickA V nn = r at hop hrf
          go_wp2_with fail
          clear c0 c1 c2 c3
          refine wp_region_held_drew (S := fun w' => w'.cell? ⟨D, 2, none⟩ = some (.int .i64 nn)) (by kernel_rfl) f2 (fun hHeld => ?_)
          refine wpAnyH_take (i := 0) (v := ?_) rfl (by kernel_rfl) (by kernel_rfl) (by kernel_rfl) (fun _ _ _ h => h) (Or.inl ⟨by kernel_rfl, ?_⟩) (by assumption) ?_
          rotate_left
          · (intro w hSw; (try dsimp only at hSw); go_simp) <;> with_reducible rfl
          (try simp only [Act.put, List.getElem_toArray, List.getElem_cons_zero, List.setIfInBounds_toArray, List.set_cons_zero, List.set_cons_succ])
          refine wpAnyH_take (i := 1) (v := ?_) rfl (by kernel_rfl) (by kernel_rfl) (by kernel_rfl) (fun _ _ _ h => h) (Or.inl ⟨by kernel_rfl, ?_⟩) (by assumption) ?_
          rotate_left
          · (intro w hSw; (try dsimp only at hSw); go_simp) <;> with_reducible rfl
          (try simp only [Act.put, List.getElem_toArray, List.getElem_cons_zero, List.getElem_cons_succ, List.setIfInBounds_toArray, List.set_cons_zero, List.set_cons_succ])
          refine wpAnyH_take (i := 2) (v := ?_) rfl (by kernel_rfl) (by kernel_rfl) (by kernel_rfl) (fun _ _ _ h => h) (Or.inl ⟨by kernel_rfl, ?_⟩) (by assumption) ?_
          rotate_left
          · (intro w hSw; (try dsimp only at hSw); go_simp) <;> with_reducible rfl
          (try simp only [Act.put, List.getElem_toArray, List.getElem_cons_zero, List.getElem_cons_succ, List.setIfInBounds_toArray, List.set_cons_zero, List.set_cons_succ])
          refine wpAnyH_take (i := 4) (v := ?_) rfl (by kernel_rfl) (by kernel_rfl) (by kernel_rfl) (fun _ _ _ h => h) (Or.inl ⟨by kernel_rfl, ?_⟩) (by assumption) ?_
          rotate_left
          · (intro w hSw; (try dsimp only at hSw); go_simp) <;> with_reducible rfl
          (try simp only [Act.put, List.getElem_toArray, List.getElem_cons_zero, List.getElem_cons_succ, List.setIfInBounds_toArray, List.set_cons_zero, List.set_cons_succ])
          refine wpAnyH_take (i := 5) (v := ?_) rfl (by kernel_rfl) (by kernel_rfl) (by kernel_rfl) (fun _ _ _ h => h) (Or.inl ⟨by kernel_rfl, ?_⟩) (by assumption) ?_
          rotate_left
          · (intro w hSw; (try dsimp only at hSw); go_simp) <;> with_reducible rfl
          (try simp only [Act.put, List.getElem_toArray, List.getElem_cons_zero, List.getElem_cons_succ, List.setIfInBounds_toArray, List.set_cons_zero, List.set_cons_succ])
          refine wpAnyH_take (i := 6) (v := ?_) rfl (by kernel_rfl) (by kernel_rfl) (by kernel_rfl) (fun _ _ _ h => h) (Or.inl ⟨by kernel_rfl, ?_⟩) (by assumption) ?_
          rotate_left
          · (intro w hSw; (try dsimp only at hSw); go_simp) <;> with_reducible rfl
          (try simp only [Act.put, List.getElem_toArray, List.getElem_cons_zero, List.getElem_cons_succ, List.setIfInBounds_toArray, List.set_cons_zero, List.set_cons_succ])
          refine wpAnyH_ready (rs := [3]) (by kernel_rfl) (by simp) ?_
          refine AllReadyH.cons rfl (fun K hK => ?_) AllReadyH.nil
          go_simp
          refine hop.mono ?_
          rintro e w1 ⟨rfl, hE1, hu1⟩
          have hX1 := Box.upd HXd.out hu1 (by rintro (q | q) <;> omega)
          have HB1 : Hid (Below w.heap.size w w1) := mine_below HBd.out hu1 hbb hgg
          have HX1 : Hid _ := hX1
          obtain ⟨g0, g1, g2, g3⟩ := Box.cells hX1
          have hrf1 := hrf w1 hE1 hu1
          clear hX1 hE1 hu1 hrf hop
          refine hK.out _ _ g2 (fun hHeld => ?_)
          clear hK K
          (try simp only [Act.put, List.getElem_toArray, List.getElem_cons_zero, List.getElem_cons_succ, List.setIfInBounds_toArray, List.set_cons_zero, List.set_cons_succ])
          refine wpAnyH_ready (rs := [7]) (by kernel_rfl) (by simp) ?_
          refine AllReadyH.cons rfl (fun K hK => ?_) AllReadyH.nil
          go_simp
          refine hrf1.mono ?_
          rintro e w2 ⟨rfl, hD2, hu2⟩
          have hX2 := Box.upd HX1.out hu2 (by rintro (q | q) <;> omega)
          have HB2 : Hid (Below w.heap.size w w2) := its_below HB1.out hu2 hcc hvv
          have HX2 : Hid _ := hX2
          have HD2 : Hid _ := hD2
          obtain ⟨m0, m1, m2, m3⟩ := Box.cells hX2
          clear hX2 hD2 hu2 hrf1
          refine hK.out _ _ m2 (fun hHeld => ?_)
          clear hK K
          (try simp only [Act.put, List.getElem_toArray, List.getElem_cons_zero, List.getElem_cons_succ, List.setIfInBounds_toArray, List.set_cons_zero, List.set_cons_succ])
          refine wpAnyH_take (i := 8) (v := ?_) rfl (by kernel_rfl) (by kernel_rfl) (by kernel_rfl) (fun _ _ _ h => h) (Or.inl ⟨by kernel_rfl, ?_⟩) (by assumption) ?_
          rotate_left
          · (intro w hSw; (try dsimp only at hSw); go_simp) <;> with_reducible rfl
          (try simp only [Act.put, List.getElem_toArray, List.getElem_cons_zero, List.getElem_cons_succ, List.setIfInBounds_toArray, List.set_cons_zero, List.set_cons_succ])
          refine wpAnyH_take (i := 9) (v := ?_) rfl (by kernel_rfl) (by kernel_rfl) (by kernel_rfl) (fun _ _ _ h => h) (Or.inl ⟨by kernel_rfl, ?_⟩) (by assumption) ?_
          rotate_left
          · (intro w hSw; (try dsimp only at hSw); go_simp) <;> with_reducible rfl
          (try simp only [Act.put, List.getElem_toArray, List.getElem_cons_zero, List.getElem_cons_succ, List.setIfInBounds_toArray, List.set_cons_zero, List.set_cons_succ])
          refine wpAnyH_done (by kernel_rfl) ?_ _
          clear hHeld
          go_wp2_with fail
          go_meet
          case rel => exact ⟨by simp, _, _, _, _, HD2.out, by omega, HX2.out, HB2.out⟩
        · have hop := fault_at b g E V env ad W.drew HDd.out.env
          have hrf := fun (w1 : World) (hE1 : EnvAt w1 b g _ _) (hu1 : UpdP (Mine b g) W.drew w1) => duo_rfault HDd.out (by omega) env ad hE1 hu1
          generalize faultR E env = r at hop hrf
          go_wp2_with fail
          clear c0 c1 c2 c3
          refine wp_region_held_drew (S := fun w' => w'.cell? ⟨D, 1, none⟩ = some (.int .i64 env) ∧ w'.cell? ⟨D, 3, none⟩ = some (.int .u64 ad)) (by kernel_rfl) ⟨f1, f3⟩ (fun hHeld => ?_)
          refine wpAnyH_take (i := 0) (v := ?_) rfl (by kernel_rfl) (by kernel_rfl) (by kernel_rfl) (fun _ _ _ h => h) (Or.inl ⟨by kernel_rfl, ?_⟩) (by assumption) ?_
          rotate_left
          · (intro w hSw; (try dsimp only at hSw); go_simp) <;> with_reducible rfl
          (try simp only [Act.put, List.getElem_toArray, List.getElem_cons_zero, List.setIfInBounds_toArray, List.set_cons_zero, List.set_cons_succ])
          refine wpAnyH_take (i := 1) (v := ?_) rfl (by kernel_rfl) (by kernel_rfl) (by kernel_rfl) (fun _ _ _ h => h) (Or.inl ⟨by kernel_rfl, ?_⟩) (by assumption) ?_
          rotate_left
          · (intro w hSw; (try dsimp only at hSw); go_simp) <;> with_reducible rfl
          (try simp only [Act.put, List.getElem_toArray, List.getElem_cons_zero, List.getElem_cons_succ, List.setIfInBounds_toArray, List.set_cons_zero, List.set_cons_succ])
          refine wpAnyH_take (i := 2) (v := ?_) rfl (by kernel_rfl) (by kernel_rfl) (by kernel_rfl) (fun _ _ _ h => h) (Or.inl ⟨by kernel_rfl, ?_⟩) (by assumption) ?_
          rotate_left
          · (intro w hSw; (try dsimp only at hSw); go_simp) <;> with_reducible rfl
          (try simp only [Act.put, List.getElem_toArray, List.getElem_cons_zero, List.getElem_cons_succ, List.setIfInBounds_toArray, List.set_cons_zero, List.set_cons_succ])
          refine wpAnyH_take (i := 3) (v := ?_) rfl (by kernel_rfl) (by kernel_rfl) (by kernel_rfl) (fun _ _ _ h => h) (Or.inl ⟨by kernel_rfl, ?_⟩) (by assumption) ?_
          rotate_left
          · (intro w hSw; (try dsimp only at hSw); go_simp) <;> with_reducible rfl
          (try simp only [Act.put, List.getElem_toArray, List.getElem_cons_zero, List.getElem_cons_succ, List.setIfInBounds_toArray, List.set_cons_zero, List.set_cons_succ])
          refine wpAnyH_take (i := 4) (v := ?_) rfl (by kernel_rfl) (by kernel_rfl) (by kernel_rfl) (fun _ _ _ h => h) (Or.inl ⟨by kernel_rfl, ?_⟩) (by assumption) ?_
          rotate_left
          · (intro w hSw; (try dsimp only at hSw); go_simp) <;> with_reducible rfl
          (try simp only [Act.put, List.getElem_toArray, List.getElem_cons_zero, List.getElem_cons_succ, List.setIfInBounds_toArray, List.set_cons_zero, List.set_cons_succ])
          refine wpAnyH_take (i := 6) (v := ?_) rfl (by kernel_rfl) (by kernel_rfl) (by kernel_rfl) (fun _ _ _ h => h) (Or.inl ⟨by kernel_rfl, ?_⟩) (by assumption) ?_
          rotate_left
          · (intro w hSw; (try dsimp only at hSw); go_simp) <;> with_reducible rfl
          (try simp only [Act.put, List.getElem_toArray, List.getElem_cons_zero, List.getElem_cons_succ, List.setIfInBounds_toArray, List.set_cons_zero, List.set_cons_succ])
          refine wpAnyH_take (i := 7) (v := ?_) rfl (by kernel_rfl) (by kernel_rfl) (by kernel_rfl) (fun _ _ _ h => h) (Or.inl ⟨by kernel_rfl, ?_⟩) (by assumption) ?_
          rotate_left
          · (intro w hSw; (try dsimp only at hSw); go_simp) <;> with_reducible rfl
          (try simp only [Act.put, List.getElem_toArray, List.getElem_cons_zero, List.getElem_cons_succ, List.setIfInBounds_toArray, List.set_cons_zero, List.set_cons_succ])
          refine wpAnyH_take (i := 8) (v := ?_) rfl (by kernel_rfl) (by kernel_rfl) (by kernel_rfl) (fun _ _ _ h => h) (Or.inl ⟨by kernel_rfl, ?_⟩) (by assumption) ?_
          rotate_left
          · (intro w hSw; (try dsimp only at hSw); go_simp) <;> with_reducible rfl
          (try simp only [Act.put, List.getElem_toArray, List.getElem_cons_zero, List.getElem_cons_succ, List.setIfInBounds_toArray, List.set_cons_zero, List.set_cons_succ])
          refine wpAnyH_take (i := 9) (v := ?_) rfl (by kernel_rfl) (by kernel_rfl) (by kernel_rfl) (fun _ _ _ h => h) (Or.inl ⟨by kernel_rfl, ?_⟩) (by assumption) ?_
          rotate_left
          · (intro w hSw; (try dsimp only at hSw); go_simp) <;> with_reducible rfl
          (try simp only [Act.put, List.getElem_toArray, List.getElem_cons_zero, List.getElem_cons_succ, List.setIfInBounds_toArray, List.set_cons_zero, List.set_cons_succ])
          refine wpAnyH_take (i := 10) (v := ?_) rfl (by kernel_rfl) (by kernel_rfl) (by kernel_rfl) (fun _ _ _ h => h) (Or.inl ⟨by kernel_rfl, ?_⟩) (by assumption) ?_
          rotate_left
          · (intro w hSw; (try dsimp only at hSw); go_simp) <;> with_reducible rfl
          (try simp only [Act.put, List.getElem_toArray, List.getElem_cons_zero, List.getElem_cons_succ, List.setIfInBounds_toArray, List.set_cons_zero, List.set_cons_succ])
          refine wpAnyH_ready (rs := [5]) (by kernel_rfl) (by simp) ?_
          refine AllReadyH.cons rfl (fun K hK => ?_) AllReadyH.nil
          go_simp
          refine hop.mono ?_
          rintro e w1 ⟨rfl, hE1, hu1⟩
          have hX1 := Box.upd HXd.out hu1 (by rintro (q | q) <;> omega)
          have HB1 : Hid (Below w.heap.size w w1) := mine_below HBd.out hu1 hbb hgg
          have HX1 : Hid _ := hX1
          obtain ⟨g0, g1, g2, g3⟩ := Box.cells hX1
          have hrf1 := hrf w1 hE1 hu1
          clear hX1 hE1 hu1 hrf hop
          refine hK.out _ _ ⟨g1, g3⟩ (fun hHeld => ?_)
          clear hK K
          (try simp only [Act.put, List.getElem_toArray, List.getElem_cons_zero, List.getElem_cons_succ, List.setIfInBounds_toArray, List.set_cons_zero, List.set_cons_succ])
          refine wpAnyH_ready (rs := [11]) (by kernel_rfl) (by simp) ?_
          refine AllReadyH.cons rfl (fun K hK => ?_) AllReadyH.nil
          go_simp
          refine hrf1.mono ?_
          rintro e w2 ⟨rfl, hD2, hu2⟩
          have hX2 := Box.upd HX1.out hu2 (by rintro (q | q) <;> omega)
          have HB2 : Hid (Below w.heap.size w w2) := its_below HB1.out hu2 hcc hvv
          have HX2 : Hid _ := hX2
          have HD2 : Hid _ := hD2
          obtain ⟨m0, m1, m2, m3⟩ := Box.cells hX2
          clear hX2 hD2 hu2 hrf1
          refine hK.out _ _ ⟨m1, m3⟩ (fun hHeld => ?_)
          clear hK K
          (try simp only [Act.put, List.getElem_toArray, List.getElem_cons_zero, List.getElem_cons_succ, List.setIfInBounds_toArray, List.set_cons_zero, List.set_cons_succ])
          refine wpAnyH_take (i := 12) (v := ?_) rfl (by kernel_rfl) (by kernel_rfl) (by kernel_rfl) (fun _ _ _ h => h) (Or.inl ⟨by kernel_rfl, ?_⟩) (by assumption) ?_
          rotate_left
          · (intro w hSw; (try dsimp only at hSw); go_simp) <;> with_reducible rfl
          (try simp only [Act.put, List.getElem_toArray, List.getElem_cons_zero, List.getElem_cons_succ, List.setIfInBounds_toArray, List.set_cons_zero, List.set_cons_succ])
          refine wpAnyH_take (i := 13) (v := ?_) rfl (by kernel_rfl) (by kernel_rfl) (by kernel_rfl) (fun _ _ _ h => h) (Or.inl ⟨by kernel_rfl, ?_⟩) (by assumption) ?_
          rotate_left
          · (intro w hSw; (try dsimp only at hSw); go_simp) <;> with_reducible rfl
          (try simp only [Act.put, List.getElem_toArray, List.getElem_cons_zero, List.getElem_cons_succ, List.setIfInBounds_toArray, List.set_cons_zero, List.set_cons_succ])
          refine wpAnyH_done (by kernel_rfl) ?_ _
          clear hHeld
          go_wp2_with fail
          go_meet
          case rel => exact ⟨by simp, _, _, _, _, HD2.out, by have := rfaultU_len L U env ad; omega, HX2.out, HB2.out⟩
        · have hop := upcall_at b g E V env W HD.out.env
          have hrf := fun (w1 : World) (hE1 : EnvAt w1 b g _ _) (hu1 : UpdP (Mine b g) W w1) => duo_rup HD.out (by omega) env hE1 hu1
          generalize upA E env = x at hop hrf
          generalize upB E env = y at hop hrf
          go_wp2_with fail
          refine hop.mono ?_
          rintro e w1 ⟨rfl, hE1, hu1⟩
          have hX1 := Box.upd HX.out hu1 (by rintro (q | q) <;> omega)
          have HB1 : Hid (Below w.heap.size w w1) := mine_below HB.out hu1 hbb hgg
          have HX1 : Hid _ := hX1
          obtain ⟨g0, g1, g2, g3⟩ := Box.cells hX1
          have hrf1 := hrf w1 hE1 hu1
          clear hX1 hE1 hu1 hrf hop c0 c1 c2 c3
          go_wp2_with fail
          refine hrf1.mono ?_
          rintro e w2 ⟨rfl, hD2, hu2⟩
          have HX2 : Hid _ := Box.upd HX1.out hu2 (by rintro (q | q) <;> omega)
          have HB2 : Hid (Below w.heap.size w w2) := its_below HB1.out hu2 hcc hvv
          have HD2 : Hid _ := hD2
          clear hD2 hu2 hrf1
          go_wp2_with fail
          go_meet
          case rel => exact ⟨by simp, _, _, _, _, HD2.out, by have := upK_len U env; omega, HX2.out, HB2.out⟩
      case rest =>
        obtain ⟨rfl, E', L', V', U', hD, hU', hX, hB⟩ := hcut
        clear HX HD HB
        have hdr : Below wc.heap.size wc wc.drew := (Below.refl _ _).drew
        have HX : Hid (Box wc.drew D kd env nn ad) := Box.below hX hdr
        have hDd := hD.below hdr
        have HD : Hid _ := hDd
        have HB : Hid (Below w.heap.size w wc.drew) := hB.drew
        obtain ⟨al, cl, cv, au, cu, hR⟩ := hDd.ref
        have hLl := hDd.rl.len
        have HLL : Hid (liveTo E' 12 = L') := hDd.rl.l.symm
        have hVl := hDd.env.len
        have hI := is_at b g E' V' env wc.drew hDd.env
        have hrI := ris_at env wc.drew hR (by omega)
        rw [hDd.rl.has env] at hrI
        generalize isB E' env = bb at hI hrI
        have HR : Hid _ := hR
        obtain ⟨x0, x1, x2, x3⟩ := Box.cells HX.out
        obtain ⟨y0, y1, y2⟩ := hR.cells
        clear hdr hX hDd hR hD hB
        go_wp2_with fail
        refine wp_region_held_drew (S := fun w' => w'.cell? ⟨D, 1, none⟩ = some (.int .i64 env) ∧ w'.cell? ⟨c, 0, none⟩ = some (.slice al L'.length cl) ∧ w'.cell? ⟨c, 1, none⟩ = some (.slice (some ⟨gv, 0, none⟩) V'.length cv)) (by kernel_rfl) ⟨x1, y0, y1⟩ (fun hHeld => ?_)
        refine wpAnyH_take (i := 0) (v := ?_) rfl (by kernel_rfl) (by kernel_rfl) (by kernel_rfl) (fun _ _ _ h => h) (Or.inl ⟨by kernel_rfl, ?_⟩) (by assumption) ?_
        rotate_left
        · (intro w hSw; (try dsimp only at hSw); go_simp) <;> with_reducible rfl
        (try simp only [Act.put, List.getElem_toArray, List.getElem_cons_zero, List.setIfInBounds_toArray, List.set_cons_zero, List.set_cons_succ])
        refine wpAnyH_take (i := 1) (v := ?_) rfl (by kernel_rfl) (by kernel_rfl) (by kernel_rfl) (fun _ _ _ h => h) (Or.inl ⟨by kernel_rfl, ?_⟩) (by assumption) ?_
        rotate_left
        · (intro w hSw; (try dsimp only at hSw); go_simp) <;> with_reducible rfl
        (try simp only [Act.put, List.getElem_toArray, List.getElem_cons_zero, List.getElem_cons_succ, List.setIfInBounds_toArray, List.set_cons_zero, List.set_cons_succ])
        refine wpAnyH_take (i := 2) (v := ?_) rfl (by kernel_rfl) (by kernel_rfl) (by kernel_rfl) (fun _ _ _ h => h) (Or.inl ⟨by kernel_rfl, ?_⟩) (by assumption) ?_
        rotate_left
        · (intro w hSw; (try dsimp only at hSw); go_simp) <;> with_reducible rfl
        (try simp only [Act.put, List.getElem_toArray, List.getElem_cons_zero, List.getElem_cons_succ, List.setIfInBounds_toArray, List.set_cons_zero, List.set_cons_succ])
        refine wpAnyH_take (i := 3) (v := ?_) rfl (by kernel_rfl) (by kernel_rfl) (by kernel_rfl) (fun _ _ _ h => h) (Or.inl ⟨by kernel_rfl, ?_⟩) (by assumption) ?_
        rotate_left
        · (intro w hSw; (try dsimp only at hSw); go_simp) <;> with_reducible rfl
        (try simp only [Act.put, List.getElem_toArray, List.getElem_cons_zero, List.getElem_cons_succ, List.setIfInBounds_toArray, List.set_cons_zero, List.set_cons_succ])
        refine wpAnyH_take (i := 4) (v := ?_) rfl (by kernel_rfl) (by kernel_rfl) (by kernel_rfl) (fun _ _ _ h => h) (Or.inl ⟨by kernel_rfl, ?_⟩) (by assumption) ?_
        rotate_left
        · (intro w hSw; (try dsimp only at hSw); go_simp) <;> with_reducible rfl
        (try simp only [Act.put, List.getElem_toArray, List.getElem_cons_zero, List.getElem_cons_succ, List.setIfInBounds_toArray, List.set_cons_zero, List.set_cons_succ])
        refine wpAnyH_take (i := 5) (v := ?_) rfl (by kernel_rfl) (by kernel_rfl) (by kernel_rfl) (fun _ _ _ h => h) (Or.inl ⟨by kernel_rfl, ?_⟩) (by assumption) ?_
        rotate_left
        · (intro w hSw; (try dsimp only at hSw); go_simp) <;> with_reducible rfl
        (try simp only [Act.put, List.getElem_toArray, List.getElem_cons_zero, List.getElem_cons_succ, List.setIfInBounds_toArray, List.set_cons_zero, List.set_cons_succ])
        refine wpAnyH_take (i := 7) (v := ?_) rfl (by kernel_rfl) (by kernel_rfl) (by kernel_rfl) (fun _ _ _ h => h) (Or.inl ⟨by kernel_rfl, ?_⟩) (by assumption) ?_
        rotate_left
        · (intro w hSw; (try dsimp only at hSw); go_simp) <;> with_reducible rfl
        (try simp only [Act.put, List.getElem_toArray, List.getElem_cons_zero, List.getElem_cons_succ, List.setIfInBounds_toArray, List.set_cons_zero, List.set_cons_succ])
        refine wpAnyH_take (i := 8) (v := ?_) rfl (by kernel_rfl) (by kernel_rfl) (by kernel_rfl) (fun _ _ _ h => h) (Or.inl ⟨by kernel_rfl, ?_⟩) (by assumption) ?_
        rotate_left
        · (intro w hSw; (try dsimp only at hSw); go_simp) <;> with_reducible rfl
        (try simp only [Act.put, List.getElem_toArray, List.getElem_cons_zero, List.getElem_cons_succ, List.setIfInBounds_toArray, List.set_cons_zero, List.set_cons_succ])
        refine wpAnyH_take (i := 9) (v := ?_) rfl (by kernel_rfl) (by kernel_rfl) (by kernel_rfl) (fun _ _ _ h => h) (Or.inl ⟨by kernel_rfl, ?_⟩) (by assumption) ?_
        rotate_left
        · (intro w hSw; (try dsimp only at hSw); go_simp) <;> with_reducible rfl
        (try simp only [Act.put, List.getElem_toArray, List.getElem_cons_zero, List.getElem_cons_succ, List.setIfInBounds_toArray, List.set_cons_zero, List.set_cons_succ])
        refine wpAnyH_ready (rs := [6]) (by kernel_rfl) (by simp) ?_
        refine AllReadyH.cons rfl (fun K hK => ?_) AllReadyH.nil
        go_simp
        refine hI.mono ?_
        rintro e w3 ⟨rfl, hw⟩
        rw [hw]
        clear hw w3 hI
        refine hK.out _ _ ⟨x1, y0, y1⟩ (fun hHeld => ?_)
        clear hK K
        (try simp only [Act.put, List.getElem_toArray, List.getElem_cons_zero, List.getElem_cons_succ, List.setIfInBounds_toArray, List.set_cons_zero, List.set_cons_succ])
        refine wpAnyH_ready (rs := [10]) (by kernel_rfl) (by simp) ?_
        refine AllReadyH.cons rfl (fun K hK => ?_) AllReadyH.nil
        go_simp
        refine hrI.mono ?_
        rintro e w3 ⟨rfl, hw⟩
        rw [hw]
        clear hw w3 hrI
        refine hK.out _ _ ⟨x1, y0, y1⟩ (fun hHeld => ?_)
        clear hK K
        (try simp only [Act.put, List.getElem_toArray, List.getElem_cons_zero, List.getElem_cons_succ, List.setIfInBounds_toArray, List.set_cons_zero, List.set_cons_succ])
        refine wpAnyH_take (i := 11) (v := ?_) rfl (by kernel_rfl) (by kernel_rfl) (by kernel_rfl) (fun _ _ _ h => h) (Or.inl ⟨by kernel_rfl, ?_⟩) (by assumption) ?_
        rotate_left
        · (intro w hSw; (try dsimp only at hSw); go_simp) <;> with_reducible rfl
        (try simp only [Act.put, List.getElem_toArray, List.getElem_cons_zero, List.getElem_cons_succ, List.setIfInBounds_toArray, List.set_cons_zero, List.set_cons_succ])
        refine wpAnyH_take (i := 12) (v := ?_) rfl (by kernel_rfl) (by kernel_rfl) (by kernel_rfl) (fun _ _ _ h => h) (Or.inl ⟨by kernel_rfl, ?_⟩) (by assumption) ?_
        rotate_left
        · (intro w hSw; (try dsimp only at hSw); go_simp) <;> with_reducible rfl
        (try simp only [Act.put, List.getElem_toArray, List.getElem_cons_zero, List.getElem_cons_succ, List.setIfInBounds_toArray, List.set_cons_zero, List.set_cons_succ])
        refine wpAnyH_take (i := 13) (v := ?_) rfl (by kernel_rfl) (by kernel_rfl) (by kernel_rfl) (fun _ _ _ h => h) (Or.inl ⟨by kernel_rfl, ?_⟩) (by assumption) ?_
        rotate_left
        · (intro w hSw; (try dsimp only at hSw); go_simp) <;> with_reducible rfl
        (try simp only [Act.put, List.getElem_toArray, List.getElem_cons_zero, List.getElem_cons_succ, List.setIfInBounds_toArray, List.set_cons_zero, List.set_cons_succ])
        refine wpAnyH_take (i := 14) (v := ?_) rfl (by kernel_rfl) (by kernel_rfl) (by kernel_rfl) (fun _ _ _ h => h) (Or.inl ⟨by kernel_rfl, ?_⟩) (by assumption) ?_
        rotate_left
        · (intro w hSw; (try dsimp only at hSw); go_simp) <;> with_reducible rfl
        (try simp only [Act.put, List.getElem_toArray, List.getElem_cons_zero, List.getElem_cons_succ, List.setIfInBounds_toArray, List.set_cons_zero, List.set_cons_succ])
        refine wpAnyH_take (i := 16) (v := ?_) rfl (by kernel_rfl) (by kernel_rfl) (by kernel_rfl) (fun _ _ _ h => h) (Or.inl ⟨by kernel_rfl, ?_⟩) (by assumption) ?_
        rotate_left
        · (intro w hSw; (try dsimp only at hSw); go_simp) <;> with_reducible rfl
        (try simp only [Act.put, List.getElem_toArray, List.getElem_cons_zero, List.getElem_cons_succ, List.setIfInBounds_toArray, List.set_cons_zero, List.set_cons_succ])
        refine wpAnyH_take (i := 17) (v := ?_) rfl (by kernel_rfl) (by kernel_rfl) (by kernel_rfl) (fun _ _ _ h => h) (Or.inl ⟨by kernel_rfl, ?_⟩) (by assumption) ?_
        rotate_left
        · (intro w hSw; (try dsimp only at hSw); go_simp) <;> with_reducible rfl
        (try simp only [Act.put, List.getElem_toArray, List.getElem_cons_zero, List.getElem_cons_succ, List.setIfInBounds_toArray, List.set_cons_zero, List.set_cons_succ])
        refine wpAnyH_take (i := 18) (v := ?_) rfl (by kernel_rfl) (by kernel_rfl) (by kernel_rfl) (fun _ _ _ h => h) (Or.inl ⟨by kernel_rfl, ?_⟩) (by assumption) ?_
        rotate_left
        · (intro w hSw; (try dsimp only at hSw); go_simp) <;> with_reducible rfl
        (try simp only [Act.put, List.getElem_toArray, List.getElem_cons_zero, List.getElem_cons_succ, List.setIfInBounds_toArray, List.set_cons_zero, List.set_cons_succ])
        refine wpAnyH_take (i := 19) (v := ?_) rfl (by kernel_rfl) (by kernel_rfl) (by kernel_rfl) (fun _ _ _ h => h) (Or.inl ⟨by kernel_rfl, ?_⟩) (by assumption) ?_
        rotate_left
        · (intro w hSw; (try dsimp only at hSw); go_simp) <;> with_reducible rfl
        (try simp only [Act.put, List.getElem_toArray, List.getElem_cons_zero, List.getElem_cons_succ, List.setIfInBounds_toArray, List.set_cons_zero, List.set_cons_succ])
        refine wpAnyH_ready (rs := [15]) (by kernel_rfl) (by simp) ?_
        refine AllReadyH.cons rfl (fun K hK => ?_) AllReadyH.nil
        go_simp
        refine (live_at b g E' V' wc.drew HD.out.env).mono ?_
        rw [HLL.out]
        rintro e w3 ⟨v3, rfl, hown3, hb3⟩
        obtain ⟨a3, c3, rfl, hrow3⟩ := own_irow hown3
        have HX3 : Hid _ := Box.below HX.out hb3
        have HD3 : Hid _ := HD.out.below hb3
        have HR3 : Hid _ := HR.out.below hb3
        have HB3 : Hid (Below w.heap.size w w3) := HB.out.trans (hb3.mono HB.out.size)
        have HI3 : Hid _ := hrow3
        obtain ⟨p0, p1, p2, p3⟩ := Box.cells HX3.out
        obtain ⟨q0, q1, q2⟩ := HR3.out.cells
        clear hb3 hown3 hrow3 HX HD HR HB x0 x1 x2 x3 y0 y1 y2
        refine hK.out _ _ ⟨p1, q0, q1⟩ (fun hHeld => ?_)
        clear hK K
        (try simp only [Act.put, List.getElem_toArray, List.getElem_cons_zero, List.getElem_cons_succ, List.setIfInBounds_toArray, List.set_cons_zero, List.set_cons_succ])
        refine wpAnyH_ready (rs := [20]) (by kernel_rfl) (by simp) ?_
        refine AllReadyH.cons rfl (fun K hK => ?_) AllReadyH.nil
        go_simp
        refine (ints_same L' a3 al c3 cl w3 HI3.out HR3.out.lrow.irow (by omega)).mono ?_
        rintro e w4 ⟨rfl, hb4⟩
        have HX4 : Hid _ := Box.below HX3.out hb4
        have HD4 : Hid _ := HD3.out.below hb4
        have HR4 : Hid _ := HR3.out.below hb4
        have HB4 : Hid (Below w.heap.size w w4) := HB3.out.trans (hb4.mono HB3.out.size)
        obtain ⟨x0, x1, x2, x3⟩ := Box.cells HX4.out
        obtain ⟨y0, y1, y2⟩ := HR4.out.cells
        clear hb4 HX3 HD3 HR3 HB3 HI3 p0 p1 p2 p3 q0 q1 q2
        refine hK.out _ _ ⟨x1, y0, y1⟩ (fun hHeld => ?_)
        clear hK K
        (try simp only [Act.put, List.getElem_toArray, List.getElem_cons_zero, List.getElem_cons_succ, List.setIfInBounds_toArray, List.set_cons_zero, List.set_cons_succ])
        refine wpAnyH_take (i := 21) (v := ?_) rfl (by kernel_rfl) (by kernel_rfl) (by kernel_rfl) (fun _ _ _ h => h) (Or.inl ⟨by kernel_rfl, ?_⟩) (by assumption) ?_
        rotate_left
        · (intro w hSw; (try dsimp only at hSw); go_simp) <;> with_reducible rfl
        (try simp only [Act.put, List.getElem_toArray, List.getElem_cons_zero, List.getElem_cons_succ, List.setIfInBounds_toArray, List.set_cons_zero, List.set_cons_succ])
        refine wpAnyH_take (i := 22) (v := ?_) rfl (by kernel_rfl) (by kernel_rfl) (by kernel_rfl) (fun _ _ _ h => h) (Or.inl ⟨by kernel_rfl, ?_⟩) (by assumption) ?_
        rotate_left
        · (intro w hSw; (try dsimp only at hSw); go_simp) <;> with_reducible rfl
        (try simp only [Act.put, List.getElem_toArray, List.getElem_cons_zero, List.getElem_cons_succ, List.setIfInBounds_toArray, List.set_cons_zero, List.set_cons_succ])
        refine wpAnyH_take (i := 23) (v := ?_) rfl (by kernel_rfl) (by kernel_rfl) (by kernel_rfl) (fun _ _ _ h => h) (Or.inl ⟨by kernel_rfl, ?_⟩) (by assumption) ?_
        rotate_left
        · (intro w hSw; (try dsimp only at hSw); go_simp) <;> with_reducible rfl
        (try simp only [Act.put, List.getElem_toArray, List.getElem_cons_zero, List.getElem_cons_succ, List.setIfInBounds_toArray, List.set_cons_zero, List.set_cons_succ])
        refine wpAnyH_take (i := 24) (v := ?_) rfl (by kernel_rfl) (by kernel_rfl) (by kernel_rfl) (fun _ _ _ h => h) (Or.inl ⟨by kernel_rfl, ?_⟩) (by assumption) ?_
        rotate_left
        · (intro w hSw; (try dsimp only at hSw); go_simp) <;> with_reducible rfl
        (try simp only [Act.put, List.getElem_toArray, List.getElem_cons_zero, List.getElem_cons_succ, List.setIfInBounds_toArray, List.set_cons_zero, List.set_cons_succ])
        refine wpAnyH_take (i := 26) (v := ?_) rfl (by kernel_rfl) (by kernel_rfl) (by kernel_rfl) (fun _ _ _ h => h) (Or.inl ⟨by kernel_rfl, ?_⟩) (by assumption) ?_
        rotate_left
        · (intro w hSw; (try dsimp only at hSw); go_simp) <;> with_reducible rfl
        (try simp only [Act.put, List.getElem_toArray, List.getElem_cons_zero, List.getElem_cons_succ, List.setIfInBounds_toArray, List.set_cons_zero, List.set_cons_succ])
        refine wpAnyH_take (i := 27) (v := ?_) rfl (by kernel_rfl) (by kernel_rfl) (by kernel_rfl) (fun _ _ _ h => h) (Or.inl ⟨by kernel_rfl, ?_⟩) (by assumption) ?_
        rotate_left
        · (intro w hSw; (try dsimp only at hSw); go_simp) <;> with_reducible rfl
        (try simp only [Act.put, List.getElem_toArray, List.getElem_cons_zero, List.getElem_cons_succ, List.setIfInBounds_toArray, List.set_cons_zero, List.set_cons_succ])
        refine wpAnyH_take (i := 28) (v := ?_) rfl (by kernel_rfl) (by kernel_rfl) (by kernel_rfl) (fun _ _ _ h => h) (Or.inl ⟨by kernel_rfl, ?_⟩) (by assumption) ?_
        rotate_left
        · (intro w hSw; (try dsimp only at hSw); go_simp) <;> with_reducible rfl
        (try simp only [Act.put, List.getElem_toArray, List.getElem_cons_zero, List.getElem_cons_succ, List.setIfInBounds_toArray, List.set_cons_zero, List.set_cons_succ])
        refine wpAnyH_take (i := 29) (v := ?_) rfl (by kernel_rfl) (by kernel_rfl) (by kernel_rfl) (fun _ _ _ h => h) (Or.inl ⟨by kernel_rfl, ?_⟩) (by assumption) ?_
        rotate_left
        · (intro w hSw; (try dsimp only at hSw); go_simp) <;> with_reducible rfl
        (try simp only [Act.put, List.getElem_toArray, List.getElem_cons_zero, List.getElem_cons_succ, List.setIfInBounds_toArray, List.set_cons_zero, List.set_cons_succ])
        refine wpAnyH_ready (rs := [25]) (by kernel_rfl) (by simp) ?_
        refine AllReadyH.cons rfl (fun K hK => ?_) AllReadyH.nil
        go_simp
        refine (vector_at b g E' V' w4 HD4.out.env).mono ?_
        rintro e w5 ⟨rfl, hrow5, hb5⟩
        have HX5 : Hid _ := Box.below HX4.out hb5
        have HD5 : Hid _ := HD4.out.below hb5
        have HR5 : Hid _ := HR4.out.below hb5
        have HB5 : Hid (Below w.heap.size w w5) := HB4.out.trans (hb5.mono HB4.out.size)
        have HI5 : Hid _ := irow_of hrow5
        obtain ⟨p0, p1, p2, p3⟩ := Box.cells HX5.out
        obtain ⟨q0, q1, q2⟩ := HR5.out.cells
        clear hb5 hrow5 HX4 HD4 HR4 HB4 x0 x1 x2 x3 y0 y1 y2
        generalize w4.heap.size = g5 at *
        refine hK.out _ _ ⟨p1, q0, q1⟩ (fun hHeld => ?_)
        clear hK K
        (try simp only [Act.put, List.getElem_toArray, List.getElem_cons_zero, List.getElem_cons_succ, List.setIfInBounds_toArray, List.set_cons_zero, List.set_cons_succ])
        refine wpAnyH_ready (rs := [30]) (by kernel_rfl) (by simp) ?_
        refine AllReadyH.cons rfl (fun K hK => ?_) AllReadyH.nil
        go_simp
        refine (ints_same V' (some ⟨g5, 0, none⟩) (some ⟨gv, 0, none⟩) V'.length cv w5 HI5.out HR5.out.vrow (by omega)).mono ?_
        rintro e w6 ⟨rfl, hb6⟩
        have HD6 : Hid _ := HD5.out.below hb6
        have HR6 := HR5.out.below hb6
        have HX6 : Hid _ := Box.below HX5.out hb6
        have HB6 : Hid (Below w.heap.size w w6) := HB5.out.trans (hb6.mono HB5.out.size)
        obtain ⟨x0, x1, x2, x3⟩ := Box.cells HX6.out
        obtain ⟨y0, y1, y2⟩ := HR6.cells
        clear hb6 HX5 HD5 HR5 HB5 HI5 p0 p1 p2 p3 q0 q1 q2 HR6
        refine hK.out _ _ ⟨x1, y0, y1⟩ (fun hHeld => ?_)
        clear hK K
        (try simp only [Act.put, List.getElem_toArray, List.getElem_cons_zero, List.getElem_cons_succ, List.setIfInBounds_toArray, List.set_cons_zero, List.set_cons_succ])
        refine wpAnyH_take (i := 31) (v := ?_) rfl (by kernel_rfl) (by kernel_rfl) (by kernel_rfl) (fun _ _ _ h => h) (Or.inl ⟨by kernel_rfl, ?_⟩) (by assumption) ?_
        rotate_left
        · (intro w hSw; (try dsimp only at hSw); go_simp) <;> with_reducible rfl
        (try simp only [Act.put, List.getElem_toArray, List.getElem_cons_zero, List.getElem_cons_succ, List.setIfInBounds_toArray, List.set_cons_zero, List.set_cons_succ])
        refine wpAnyH_take (i := 32) (v := ?_) rfl (by kernel_rfl) (by kernel_rfl) (by kernel_rfl) (fun _ _ _ h => h) (Or.inl ⟨by kernel_rfl, ?_⟩) (by assumption) ?_
        rotate_left
        · (intro w hSw; (try dsimp only at hSw); go_simp) <;> with_reducible rfl
        (try simp only [Act.put, List.getElem_toArray, List.getElem_cons_zero, List.getElem_cons_succ, List.setIfInBounds_toArray, List.set_cons_zero, List.set_cons_succ])
        refine wpAnyH_done (by kernel_rfl) ?_ _
        clear hHeld
        go_wp2
        go_roundw
        case rel => exact ⟨k + 1, E', L', V', U', by omega, by omega, by go_num, HD6.out, hU', HB6.out⟩
        case measure => simp [intOf]; omega
    · have HB : Hid _ := hB
      clear hD hB hdeeds
      have hkl : k < len ∨ len ≤ k := by omega
      rcases hkl with hkl | hkl
      · have g0 : decide ((k : Int) < (len : Int)) = true := decide_eq_true (by omega)
        have g1 : decide ((k : Int) < 200) = false := decide_eq_false (by omega)
        go_wp2_with fail
        refine (awake_at _).mono ?_
        rintro e w6 ⟨rfl, hb6⟩
        go_wp2
        go_ret
        exact ⟨rfl, HB.out.trans (hb6.mono HB.out.size)⟩
      · have g0 : decide ((k : Int) < (len : Int)) = false := decide_eq_false (by omega)
        go_wp2_with fail
        refine (awake_at _).mono ?_
        rintro e w6 ⟨rfl, hb6⟩
        go_wp2
        go_ret
        exact ⟨rfl, HB.out.trans (hb6.mono HB.out.size)⟩
end Go.Proofs.Yteealgnclpfmkaa
