/- Proved: januslaw15.InodeFiles answers true for every list of deeds (files that are written by turns are what plain texts would be), at the commit of this claim; no condition beyond the row's own. -/
import Derived.Test.YtinjllnoonbjmaaLwL
import Derived.Test.YtinjllnoonbjmaaKinds
import Derived.Deep.DeepCutAuto
import Derived.Deep.CutBlock
import Derived.Deep.RegionHeld3
import Derived.ProofKit
import Derived.OpenShut
import Derived.ChangeOld
import Derived.ChangeSlices
import Derived.Deep.Slices
import Derived.Below
namespace Go.Proofs.Ytinjllnoonbjmaa
open Go.ChangeShapes Go.WideShapes Go.ChangeAt Go.RowKit Go.Lib
set_option linter.unusedVariables false

/-- An append whose run is known. -/
theorem wpList_append_eq {P : Program} {w w' : World} {ops : Array Oper} {rest : List Oper} {o : Oper} {a : Act} {Q : Exit → Act → World → Prop} (hgd : o.guard = none) (s x : Operand) (t : TypeId)
    (ho : o.op = .call { callee := .builtin .append, args := #[s, x], argTypes := #[t, t] }) (sv xv r : Value) (hs : a.eval s = sv) (hx : a.eval x = xv) (hr : ∀ ty, (Builtin.append_ #[t, t] ty #[sv, xv]).run P w = .ok r w')
    (h : wpList P ops Q rest (a.put o.dst r) w') : wpList P ops Q (o :: rest) a w := by
  refine wpList_plain hgd fun K hK => ?_
  unfold Oper.wp
  simp [execOp, ho, resolve, invoke, builtin, hs, hx, hr, Result.andThen]
  exact hK _ _ h
theorem tx_ne_self (t : List UInt8) (W : World) : (binOp BinOp.neq 9 (tx t) (tx t)).run Try.prog W = .ok (.bool false) W := by
  go_simp
theorem elemB8 : Try.prog.elem 59 = 5 := by kernel_rfl
set_option maxRecDepth 100000 in
theorem cut_bytes (g o len cap k : Nat) (h1 : k ≤ cap) (V : World) :
    (Instr.slice 59 (.slice (some ⟨g, o, none⟩) len cap) none (some (.int .i64 k)) none).run Try.prog V = .ok (.slice (some ⟨g, o, none⟩) k cap) V := by
  obtain ⟨i0, hi0, hzz⟩ := Option.map_eq_some_iff.1 byteInfo
  rw [run_slice_h V 59 _ _ _ Try.underlying59 _ _ (by omega) (by omega)]
  simp [sizeOf, typeInfo, elemB8, hi0, sliced, Addr.add]
/-- A slice's length. -/
def slen : Value → Nat
  | .slice _ n _ => n
  | _ => 0
def zis : Array Value := #[.int .i64 0, .int .i64 0, .int .i64 0]
def zws : Array Value := #[.string ⟨#[]⟩, .string ⟨#[]⟩, .string ⟨#[]⟩]
def zdd : Array Value := #[.int .i64 0, .int .i64 0, .int .i64 0, .int .i64 0, .string ⟨#[]⟩]
theorem lit_zis : (#[.int .i64 0, .int .i64 0, .int .i64 0] : Array Value) = isR 0 := rfl
theorem lit_zws : (#[.string ⟨#[]⟩, .string ⟨#[]⟩, .string ⟨#[]⟩] : Array Value) = wantR (fun _ => []) := rfl
theorem lit_zdd : (#[.int .i64 0, .int .i64 0, .int .i64 0, .int .i64 0, .string ⟨#[]⟩] : Array Value) = zdd := rfl
set_option maxHeartbeats 8000000 in
set_option maxRecDepth 100000 in
theorem files_walk (a0 : Option Addr) (len cap : Nat) (w : World) (hlen : len ≤ 9223372036854775807) (hd : DeedsAt w a0 len) :
    Calls Try.prog 4 #[.slice a0 len cap] w fun e w' => e = .returned (.bool true) ∧ Below w.heap.size w w' := by
  have HD : Hid (DeedsAt w a0 len) := hd
  clear hd
  have hP := pair_at 60 w (by omega) (by omega)
  go_enter Try.func4, Try.ntmps4
  go_wp2_with fail
  refine hP.mono ?_
  rintro e w1 ⟨B, bx, rfl, ⟨G, gx, hpr⟩, hb1⟩
  obtain ⟨p6, hp6⟩ : ∃ p, p = w1.heap.size := ⟨_, rfl⟩
  obtain ⟨W2, hW2⟩ : ∃ W, W = w1.alloc (.cells (isR 0) 57) := ⟨_, rfl⟩
  obtain ⟨p7, hp7⟩ : ∃ p, p = w1.heap.size + 1 := ⟨_, rfl⟩
  obtain ⟨W3, hW3⟩ : ∃ W, W = W2.alloc (.cells (wantR (fun _ => [])) 58) := ⟨_, rfl⟩
  have hb2 : Below w1.heap.size w1 W2 := by rw [hW2]; exact below_alloc _ _
  have hb3 : Below W2.heap.size W2 W3 := by rw [hW3]; exact below_alloc _ _
  have hs2 : W2.heap.size = w1.heap.size + 1 := by rw [hW2]; simp
  have HLo : Hid (w.heap.size ≤ B ∧ w.heap.size ≤ G ∧ B < p6 ∧ G < p6 ∧ p6 < p7) := by
    obtain ⟨_, hq⟩ := hpr.fs
    obtain ⟨_, _, hd, _, _⟩ := hq.dk
    have := lt_of_heap hd.head
    have := lt_of_heap hd.row
    exact ⟨hpr.lo.1, hpr.lo.2.1, by omega, by omega, by omega⟩
  have HF : Hid (Fs W3 B G (F0 60) 2000) := (hpr.fs.below hb2).below hb3
  have H6 : Hid (W3.heap[p6]? = some (.cells (isR 0) 57)) := (hb3.block p6 (by omega)).trans (by rw [hp6, hW2]; exact heap_alloc_new _ _)
  have H7 : Hid (W3.heap[p7]? = some (.cells (wantR (fun _ => [])) 58)) := by rw [hp7, ← hs2, hW3]; exact heap_alloc_new _ _
  have HB : Hid (Below w.heap.size w W3) := (hb1.trans (hb2.mono hb1.size)).trans (hb3.mono (by have := hb1.size; omega))
  have z1 := lit_zis
  have z2 := lit_zws
  have HW2 : Hid _ := hW2
  have HW3 : Hid _ := hW3
  have Hp6 : Hid _ := hp6
  have Hp7 : Hid _ := hp7
  clear hpr hb1 hb2 hb3 hs2 hW2 hW3 hp6 hp7 hP
  go_wp2_with fail
  rw [← HW2.out, ← HW3.out, ← Hp7.out, ← Hp6.out]
  clear HW2 HW3 Hp6 Hp7 z1 z2
  go_loopw [8] (fun s wr => ∃ (k : Nat) (F : FS), k ≤ 3 ∧ s = .int .i64 k ∧ Fs wr B G F (2000 + 2000 * k) ∧ wr.heap[p6]? = some (.cells (isR k) 57) ∧ wr.heap[p7]? = some (.cells (wantR (fun _ => [])) 58) ∧ Below w.heap.size w wr ∧ Hid (Rst F 60 0 k ∧ ∀ j, 1 ≤ j → j ≤ k → (F.ino j).txt = [])) (fun s _ => 3 - (intOf s).toNat)
  case atStart => exact ⟨0, _, by omega, rfl, HF.out, H6.out, H7.out, HB.out, rst0 60, fun j h1 h2 => by omega⟩
  case round =>
    clear HF H6 H7 HB
    obtain ⟨k, F, hk3, rfl, hF, h6, h7, hB, HR⟩ := hrel
    by_cases hlt : k < 3
    · have hki : (k : Int) < 3 := by omega
      obtain ⟨r1, r2, r3, R1, r5, r6⟩ := rst_alloc hF.inv HR.out.1 (by omega)
      have hC := alloc_all hF (by omega) 1 ⟨by omega, by omega⟩
      rw [r1, r2, r3] at hC
      have HR1 : Hid (Rst (allocF F (k + 1) 1) 60 0 (k + 1) ∧ ∀ j, 1 ≤ j → j ≤ k + 1 → ((allocF F (k + 1) 1).ino j).txt = []) := by
        refine ⟨R1, fun j h1 h2 => ?_⟩
        by_cases e : j = k + 1
        · rw [e, r5]
        · show ((if j = k + 1 then (⟨1, 0, [], []⟩ : Ino) else F.ino j)).txt = []
          rw [if_neg e]
          exact HR.out.2 j h1 (by omega)
      generalize allocF F (k + 1) 1 = F1 at *
      have H6 : Hid _ := h6
      have H7 : Hid _ := h7
      have HB : Hid _ := hB
      clear r1 r2 r3 R1 r5 r6 HR hF h6 h7 hB
      go_wp2_with fail
      refine hC.mono ?_
      rintro e w2 ⟨rfl, hf, hbg⟩
      have h6 : w2.heap[p6]? = some (.cells (isR k) 57) := (hbg.block p6 (lt_of_heap H6.out) (by have := HLo.out; rintro (e | e) <;> omega)).trans H6.out
      have h7 : w2.heap[p7]? = some (.cells (wantR (fun _ => [])) 58) := (hbg.block p7 (lt_of_heap H7.out) (by have := HLo.out; rintro (e | e) <;> omega)).trans H7.out
      have hB := HB.out.trans (bg_below hbg HLo.out.1 HLo.out.2.1 HB.out.size)
      obtain ⟨z, hz⟩ := isR_some k k hlt
      have c6 : w2.cell? ⟨p6, k, none⟩ = some (.int .i64 z) := by rw [cell_of_heap h6]; exact hz
      have f6 : w2.frozen? ⟨p6, k, none⟩ = false := frozen_of_heap h6
      have h0 := Upd.setCell p6 k w2 (.int .i64 ((k : Int) + 1))
      have HN : Hid (Fs (w2.setCell ⟨p6, k, none⟩ (.int .i64 ((k : Int) + 1))) B G F1 (2000 + 2000 * (k + 1)) ∧ (w2.setCell ⟨p6, k, none⟩ (.int .i64 ((k : Int) + 1))).heap[p6]? = some (.cells (isR (k + 1)) 57) ∧ (w2.setCell ⟨p6, k, none⟩ (.int .i64 ((k : Int) + 1))).heap[p7]? = some (.cells (wantR (fun _ => [])) 58) ∧ Below w.heap.size w (w2.setCell ⟨p6, k, none⟩ (.int .i64 ((k : Int) + 1)))) := by
        have hl := HLo.out
        refine ⟨(hf.keep (P := fun j => j = p6) ⟨h0.os, h0.tape, h0.output, h0.size, h0.block⟩ (by omega) (by omega)).mono (by omega), ?_, (h0.block p7 (lt_of_heap h7) (by omega)).trans h7, hB.trans (h0.below (by omega) hB.size)⟩
        rw [setCell_eq_setRow w2 p6 _ _ _ _ _ h6, setRow_heap w2 p6 _ _ _ _ h6, isR_set k hlt]
      clear hC hf hbg h6 h7 hB hz h0 H6 H7 HB
      go_wp2
      go_roundw
      case rel => exact ⟨k + 1, F1, by omega, by go_num, HN.out.1, HN.out.2.1, HN.out.2.2.1, HN.out.2.2.2, HR1⟩
      case measure => simp [intOf]; omega
    · obtain rfl : k = 3 := by omega
      have HS : Hid (FlsAt w wr B G p6 p7 F (8000 + 8000 * 0) (fun _ => [])) := ⟨hF, h6, h7, hB, HLo.out, fun i hi => by rw [HR.out.1.bits (i + 1) (by omega)]; exact decide_eq_true (by omega)⟩
      have HT : Hid (∀ j, j < 3 → (fun _ => []) j = byts (F.ino (j + 1)).txt) := fun j hj => by rw [HR.out.2 (j + 1) (by omega) (by omega)]; rfl
      clear hF h6 h7 hB HR
      go_wp2
      go_loopw [11] (fun s wr => ∃ (k : Nat) (F : FS) (T : Nat → List UInt8), k ≤ len ∧ k ≤ 100 ∧ s = .int .i64 k ∧ FlsAt w wr B G p6 p7 F (8000 + 8000 * k) T ∧ Hid (∀ j, j < 3 → T j = byts (F.ino (j + 1)).txt)) (fun s _ => 100 - (intOf s).toNat)
      case atStart => exact ⟨0, F, _, by omega, by omega, rfl, HS.out, HT⟩
      case round =>
        clear HS HT hk3 hlt
        obtain ⟨k, F, T, hkl, hk2, rfl, hS, HT⟩ := hrel
        by_cases hlt : k < len ∧ k < 100
        · obtain ⟨hl1, hl2⟩ := hlt
          have ik : (k : Int) < (len : Int) := by omega
          obtain ⟨gb, off, d, rfl, hft, hrg⟩ := HD.out.below hS.old k hl1
          obtain ⟨kd, i, o, n, s⟩ := d
          have HFt : Hid (Deed.Fit ⟨kd, i, o, n, s⟩) := hft
          have HRg : Hid _ := hrg
          obtain ⟨R, hR⟩ : ∃ R, R = deedRow ⟨kd, i, o, n, s⟩ := ⟨_, rfl⟩
          rw [← hR] at HRg
          obtain ⟨W, hW⟩ : ∃ W, W = wr.alloc (.cells R 28) := ⟨_, rfl⟩
          have hbW : Below wr.heap.size wr W := by rw [hW]; exact below_alloc _ _
          obtain ⟨D, hDn⟩ : ∃ D, D = wr.heap.size := ⟨_, rfl⟩
          have HX : Hid (DBox W D ⟨kd, i, o, n, s⟩) := by rw [hW, hDn, hR]; exact heap_alloc_new _ _
          have hpD : p7 < D := by rw [hDn]; exact lt_of_heap hS.want
          have HSW : Hid (FlsAt w W B G p6 p7 F (8000 + 8000 * k) T) := hS.below hbW
          have HRs : Hid (R.size = 5) := by rw [hR]; rfl
          have hro : R.all (·.oneCell') = true := by rw [hR]; simp [Value.oneCell']
          have HRo : Hid _ := hro
          clear hro
          have HW : Hid _ := hW
          have HDn : Hid _ := hDn
          have z3 := lit_zdd
          obtain ⟨kk, hkk, hk3⟩ := mod3 i
          have hki : (kk : Int) < 3 := by omega
          obtain ⟨c0, c1, c2, c3, c4⟩ := deedCells HX.out
          dsimp only at c0 c1 c2 c3 c4
          have c7 := HSW.out.c7 kk hk3
          have HTl : Hid ((T kk).length ≤ 192) := by
            rw [HT.out kk hk3]
            show _ ≤ _
            rw [byts_len]
            exact HSW.out.fs.inv.max (kk + 1) (by omega)
          obtain ⟨vb, wb, hcv, hBs, hbb⟩ := Bs.of_text W (T kk) (by have := HTl.out; omega)
          have hDl : D < W.heap.size := lt_of_heap HX.out
          have HXb : Hid (DBox wb D ⟨kd, i, o, n, s⟩) := (hbb.block D hDl).trans HX.out
          obtain ⟨d0, d1, d2, d3, d4⟩ := deedCells HXb.out
          dsimp only at d0 d1 d2 d3 d4
          obtain ⟨M, hM⟩ : ∃ M, M = W.heap.size := ⟨_, rfl⟩
          have hDM : D < M := by rw [hM]; exact hDl
          have HBs : Hid (Bs wb M vb (T kk)) := by rw [hM]; exact hBs
          have HSb : Hid (FlsAt w wb B G p6 p7 F (8000 + 8000 * k) T) := HSW.out.below hbb
          have hMs : M ≤ wb.heap.size := by rw [hM]; exact hbb.size
          clear hft hrg hR hW hbW hDn hS hM hBs hbb hDl
          go_upto_block 4 with (first
            | (refine wpList_load_mid rfl 28 _ rfl gb (off + k * 5) rfl R.toList _ HRg.out Try.underlying28 rfl (by rw [Array.length_toList, HRs.out]; kernel_rfl) ?_)
            | (refine wpList_store_row rfl 28 _ _ rfl wr.heap.size R rfl rfl 28 zdd (heap_alloc_new _ _) (by rw [HRs.out]; kernel_rfl) (by rw [HRs.out]; rfl) HRo.out ?_; rw [setRow_alloc_new, ← HW.out, ← HDn.out])
            | fail)
          clear HW HDn HRg c0 c1 c2 c3 c4 c7 hcv HX HSW z3 HRs HRo hkk HD
          go_cut [14, 15] (fun s14 _ wc => ∃ (F' : FS) (l' : List UInt8) (v' : Value), v' = s14 ∧ Bs wc M v' l' ∧ FlsAt w wc B G p6 p7 F' (8000 + 8000 * k + 2000) T ∧ Hid (∀ j, j < 3 → (if j = kk then l' else T j) = byts (F'.ino (j + 1)).txt))
          case first =>
            have kinds : (kd == 3) = true ∨ ((kd == 3) = false ∧ (kd == 4) = true) ∨ ((kd == 3) = false ∧ (kd == 4) = false) := by
              simp only [beq_iff_eq, beq_eq_false_iff_ne]
              omega
            have hdr : Below wb.heap.size wb wb.drew := (Below.refl _ _).drew
            have HSd : Hid _ := HSb.out.below hdr
            have HXd : Hid (DBox wb.drew D ⟨kd, i, o, n, s⟩) := (hdr.block D (lt_of_heap HXb.out)).trans HXb.out
            have HBd : Hid (Bs wb.drew M vb (T kk)) := HBs.out.below hdr
            have c6 := HSd.out.c6 kk hk3
            clear hdr
            rcases kinds with k0 | ⟨k0, k1⟩ | ⟨k0, k1⟩
            · obtain ⟨e0, e1, e2, e3, e4⟩ := deedCells HXd.out
              dsimp only at e0 e1 e2 e3 e4
              have hC := write_all HSd.out.fs (by omega) (kk + 1) (by omega) (HSd.out.us kk hk3) o s HFt.out.s
              have hcs := wr_cases F (kk + 1) o s
              obtain ⟨rc, hrc⟩ : ∃ r, r = wrR F (kk + 1) o s := ⟨_, rfl⟩
              obtain ⟨F1, hF1⟩ : ∃ F1, F1 = wrF F (kk + 1) o s := ⟨_, rfl⟩
              have HIw : Hid (F1.iw = F.iw) := by rw [hF1]; exact (wrF_iw _ _ _ _).1
              have HOt : Hid (∀ j, j ≠ kk + 1 → F1.ino j = F.ino j) := fun j hj => by rw [hF1]; exact wr_other _ _ _ _ hj
              rw [← hrc, ← hF1] at hC hcs
              clear hrc hF1 d0 d1 d2 d3 d4
              rcases hcs with ⟨q1, q2, nn, rfl, q3, q4⟩ | ⟨q1, rfl, rfl⟩ | ⟨q1, rfl⟩
              · obtain rfl : rc = 0 := by simpa using q1
                have HQ : Hid _ := q4
                clear q1 q4
                have hemp : s.isEmpty = false := by
                  cases s with
                  | nil => exact absurd rfl q2
                  | cons a l => rfl
                go_wp2_with fail
                refine wp_region_held_drew (S := fun w' => w'.cell? ⟨p6, kk, none⟩ = some (.int .i64 ((kk : Int) + 1)) ∧ w'.cell? ⟨D, 2, none⟩ = some (.int .i64 (nn : Int)) ∧ w'.cell? ⟨D, 4, none⟩ = some (tx s)) (by kernel_rfl) ⟨c6, e2, e4⟩ (fun hHeld => ?_)
                refine wpAnyH_take (i := 0) (v := ?_) rfl (by kernel_rfl) (by kernel_rfl) (by kernel_rfl) (fun _ _ _ h => h) (Or.inl ⟨by kernel_rfl, ?_⟩) (by assumption) ?_
                rotate_left
                · (intro w hSw; (try dsimp only at hSw); go_simp) <;> with_reducible rfl
                (try simp only [Act.put, List.getElem_toArray, List.getElem_cons_zero, List.setIfInBounds_toArray, List.set_cons_zero, List.set_cons_succ])
                refine wpAnyH_take (i := 1) (v := ?_) rfl (by kernel_rfl) (by kernel_rfl) (by kernel_rfl) (fun _ _ _ h => h) (Or.inl ⟨by kernel_rfl, ?_⟩) (by assumption) ?_
                rotate_left
                · (intro w hSw; (try dsimp only at hSw); go_simp) <;> with_reducible rfl
                (try simp only [Act.put, List.getElem_toArray, List.getElem_cons_zero, List.getElem_cons_succ, List.setIfInBounds_toArray, List.set_cons_zero, List.set_cons_succ])
                refine wpAnyH_take (i := 2) (v := ?_) rfl (by kernel_rfl) (by kernel_rfl) (by kernel_rfl) (fun _ _ _ h => h) (Or.inl ⟨by kernel_rfl, ?_⟩) (by assumption) ?_
                rotate_left
                · (intro w hSw; (try dsimp only at hSw); go_simp) <;> with_reducible rfl
                (try simp only [Act.put, List.getElem_toArray, List.getElem_cons_zero, List.getElem_cons_succ, List.setIfInBounds_toArray, List.set_cons_zero, List.set_cons_succ])
                refine wpAnyH_take (i := 3) (v := ?_) rfl (by kernel_rfl) (by kernel_rfl) (by kernel_rfl) (fun _ _ _ h => h) (Or.inl ⟨by kernel_rfl, ?_⟩) (by assumption) ?_
                rotate_left
                · (intro w hSw; (try dsimp only at hSw); go_simp) <;> with_reducible rfl
                (try simp only [Act.put, List.getElem_toArray, List.getElem_cons_zero, List.getElem_cons_succ, List.setIfInBounds_toArray, List.set_cons_zero, List.set_cons_succ])
                refine wpAnyH_take (i := 4) (v := ?_) rfl (by kernel_rfl) (by kernel_rfl) (by kernel_rfl) (fun _ _ _ h => h) (Or.inl ⟨by kernel_rfl, ?_⟩) (by assumption) ?_
                rotate_left
                · (intro w hSw; (try dsimp only at hSw); go_simp) <;> with_reducible rfl
                (try simp only [Act.put, List.getElem_toArray, List.getElem_cons_zero, List.getElem_cons_succ, List.setIfInBounds_toArray, List.set_cons_zero, List.set_cons_succ])
                refine wpAnyH_take (i := 5) (v := ?_) rfl (by kernel_rfl) (by kernel_rfl) (by kernel_rfl) (fun _ _ _ h => h) (Or.inl ⟨by kernel_rfl, ?_⟩) (by assumption) ?_
                rotate_left
                · (intro w hSw; (try dsimp only at hSw); go_simp) <;> with_reducible rfl
                (try simp only [Act.put, List.getElem_toArray, List.getElem_cons_zero, List.getElem_cons_succ, List.setIfInBounds_toArray, List.set_cons_zero, List.set_cons_succ])
                refine wpAnyH_take (i := 6) (v := ?_) rfl (by kernel_rfl) (by kernel_rfl) (by kernel_rfl) (fun _ _ _ h => h) (Or.inl ⟨by kernel_rfl, ?_⟩) (by assumption) ?_
                rotate_left
                · (intro w hSw; (try dsimp only at hSw); go_simp) <;> with_reducible rfl
                (try simp only [Act.put, List.getElem_toArray, List.getElem_cons_zero, List.getElem_cons_succ, List.setIfInBounds_toArray, List.set_cons_zero, List.set_cons_succ])
                refine wpAnyH_take (i := 7) (v := ?_) rfl (by kernel_rfl) (by kernel_rfl) (by kernel_rfl) (fun _ _ _ h => h) (Or.inl ⟨by kernel_rfl, ?_⟩) (by assumption) ?_
                rotate_left
                · (intro w hSw; (try dsimp only at hSw); go_simp) <;> with_reducible rfl
                (try simp only [Act.put, List.getElem_toArray, List.getElem_cons_zero, List.getElem_cons_succ, List.setIfInBounds_toArray, List.set_cons_zero, List.set_cons_succ])
                refine wpAnyH_take (i := 8) (v := ?_) rfl (by kernel_rfl) (by kernel_rfl) (by kernel_rfl) (fun _ _ _ h => h) (Or.inl ⟨by kernel_rfl, ?_⟩) (by assumption) ?_
                rotate_left
                · (intro w hSw; (try dsimp only at hSw); go_simp) <;> with_reducible rfl
                (try simp only [Act.put, List.getElem_toArray, List.getElem_cons_zero, List.getElem_cons_succ, List.setIfInBounds_toArray, List.set_cons_zero, List.set_cons_succ])
                refine wpAnyH_ready (rs := [9]) (by kernel_rfl) (by simp) ?_
                refine AllReadyH.cons rfl (fun K hK => ?_) AllReadyH.nil
                go_simp
                refine hC.mono ?_
                rintro e w3 ⟨rfl, hf, hbg⟩
                have HS3 : Hid _ := HSd.out.bg hf hbg HIw.out
                have HX3 : Hid (DBox w3 D ⟨kd, i, (nn : Int), n, s⟩) := (hbg.block D (lt_of_heap HXd.out) (by have := HSd.out.lo; rintro (e | e) <;> omega)).trans HXd.out
                have HB3 : Hid (Bs w3 M vb (T kk)) := HBd.out.keep hbg (fun k hk => by have := HSd.out.lo; rcases hk with e | e <;> omega)
                have hM3 : M ≤ w3.heap.size := Nat.le_trans hMs hbg.size
                have c6' := HS3.out.c6 kk hk3
                obtain ⟨-, -, f2, -, f4⟩ := deedCells HX3.out
                dsimp only at f2 f4
                clear hC hf hbg c6 e0 e1 e2 e3 e4
                refine hK.out _ _ ⟨c6', f2, f4⟩ (fun hHeld => ?_)
                clear hK K
                (try simp only [Act.put, List.getElem_toArray, List.getElem_cons_zero, List.getElem_cons_succ, List.setIfInBounds_toArray, List.set_cons_zero, List.set_cons_succ])
                refine wpAnyH_take (i := 10) (v := ?_) rfl (by kernel_rfl) (by kernel_rfl) (by kernel_rfl) (fun _ _ _ h => h) (Or.inl ⟨by kernel_rfl, ?_⟩) (by assumption) ?_
                rotate_left
                · (intro w hSw; (try dsimp only at hSw); go_simp) <;> with_reducible rfl
                (try simp only [Act.put, List.getElem_toArray, List.getElem_cons_zero, List.getElem_cons_succ, List.setIfInBounds_toArray, List.set_cons_zero, List.set_cons_succ])
                refine wpAnyH_take (i := 11) (v := ?_) rfl (by kernel_rfl) (by kernel_rfl) (by kernel_rfl) (fun _ _ _ h => h) (Or.inl ⟨by kernel_rfl, ?_⟩) (by assumption) ?_
                rotate_left
                · (intro w hSw; (try dsimp only at hSw); go_simp) <;> with_reducible rfl
                (try simp only [Act.put, List.getElem_toArray, List.getElem_cons_zero, List.getElem_cons_succ, List.setIfInBounds_toArray, List.set_cons_zero, List.set_cons_succ])
                refine wpAnyH_take (i := 12) (v := ?_) rfl (by kernel_rfl) (by kernel_rfl) (by kernel_rfl) (fun _ _ _ h => h) (Or.inl ⟨by kernel_rfl, ?_⟩) (by assumption) ?_
                rotate_left
                · (intro w hSw; (try dsimp only at hSw); go_simp) <;> with_reducible rfl
                (try simp only [Act.put, List.getElem_toArray, List.getElem_cons_zero, List.getElem_cons_succ, List.setIfInBounds_toArray, List.set_cons_zero, List.set_cons_succ])
                refine wpAnyH_take (i := 13) (v := ?_) rfl (by kernel_rfl) (by kernel_rfl) (by kernel_rfl) (fun _ _ _ h => h) (Or.inl ⟨by kernel_rfl, ?_⟩) (by assumption) ?_
                rotate_left
                · (intro w hSw; (try dsimp only at hSw); go_simp) <;> with_reducible rfl
                (try simp only [Act.put, List.getElem_toArray, List.getElem_cons_zero, List.getElem_cons_succ, List.setIfInBounds_toArray, List.set_cons_zero, List.set_cons_succ])
                refine wpAnyH_take (i := 14) (v := ?_) rfl (by kernel_rfl) (by kernel_rfl) (by kernel_rfl) (fun _ _ _ h => h) (Or.inl ⟨by kernel_rfl, ?_⟩) (by assumption) ?_
                rotate_left
                · (intro w hSw; (try dsimp only at hSw); go_simp) <;> with_reducible rfl
                (try simp only [Act.put, List.getElem_toArray, List.getElem_cons_zero, List.getElem_cons_succ, List.setIfInBounds_toArray, List.set_cons_zero, List.set_cons_succ])
                refine wpAnyH_take (i := 15) (v := ?_) rfl (by kernel_rfl) (by kernel_rfl) (by kernel_rfl) (fun _ _ _ h => h) (Or.inl ⟨by kernel_rfl, ?_⟩) (by assumption) ?_
                rotate_left
                · (intro w hSw; (try dsimp only at hSw); go_simp) <;> with_reducible rfl
                (try simp only [Act.put, List.getElem_toArray, List.getElem_cons_zero, List.getElem_cons_succ, List.setIfInBounds_toArray, List.set_cons_zero, List.set_cons_succ])
                refine wpAnyH_done (by kernel_rfl) ?_ _
                clear hHeld c6' f2 f4 HSd HXd HBd HSb HXb HBs hMs
                obtain ⟨b0, hb0⟩ : ∃ b, b = T kk := ⟨_, rfl⟩
                rw [← hb0] at HB3 HTl
                have HQ' : Hid (byts (F1.ino (kk + 1)).txt = laidB (padB b0 (nn + s.length)) nn s) := by rw [hb0, HT.out kk hk3]; exact HQ.out
                have Hb0 : Hid _ := hb0
                clear hb0 HQ
                have hbl := HTl.out
                have hls := run_len_text s
                (try simp only [hemp, Bool.not_false])
                go_wp2_with fail
                go_loopw [14] (fun s14 wq => ∃ (q : Nat) (v' : Value), v' = s14 ∧ q ≤ nn + s.length - b0.length ∧ Bs wq M v' (b0 ++ List.replicate q 0) ∧ FlsAt w wq B G p6 p7 F1 (8000 + 8000 * k + 2000) T ∧ DBox wq D ⟨kd, i, (nn : Int), n, s⟩ ∧ M ≤ wq.heap.size) (fun s14 _ => nn + s.length - slen s14)
                case atStart => exact ⟨0, vb, rfl, by omega, by simpa using HB3.out, HS3.out, HX3.out, hM3⟩
                case round =>
                  clear HB3 HS3 HX3 hM3
                  obtain ⟨q, v', rfl, hq, hBs, hS, hX, hMs⟩ := hrel
                  have hle : (b0 ++ List.replicate q (0 : UInt8)).length = b0.length + q := by simp
                  obtain ⟨g, cp, rfl, hgc⟩ := hBs.form
                  rw [hle] at hgc hBs ⊢
                  obtain ⟨e0, e1, e2, e3, e4⟩ := deedCells hX
                  dsimp only at e0 e1 e2 e3 e4
                  by_cases hlt : b0.length + q < nn + s.length
                  · have hBs0 : Bs wr M (.slice (some ⟨g, 0, none⟩) (b0.length + q) cp) (b0 ++ List.replicate q 0) := hBs
                    obtain ⟨W4, hW4⟩ : ∃ W, W = wr.alloc (.cells #[.int .u8 0] 5) := ⟨_, rfl⟩
                    have hb4 : Below wr.heap.size wr W4 := by rw [hW4]; exact below_alloc _ _
                    obtain ⟨g', c', w', hr, hB', hbl'⟩ := (hBs0.below hb4).app wr.heap.size (by rw [hW4]; exact heap_alloc_new _ _) (by rw [hle]; omega) (Nat.le_trans hMs hb4.size)
                    rw [hle] at hr hB'
                    have HR : Hid _ := hr
                    have HN : Hid (Bs w' M (.slice (some ⟨g', 0, none⟩) (b0.length + q + 1) c') (b0 ++ List.replicate (q + 1) 0) ∧ FlsAt w w' B G p6 p7 F1 (8000 + 8000 * k + 2000) T ∧ DBox w' D ⟨kd, i, (nn : Int), n, s⟩ ∧ M ≤ w'.heap.size) := by
                      refine ⟨?_, (hS.below hb4).low hbl' (by omega), (hbl'.block D (by omega)).trans ((hb4.block D (lt_of_heap hX)).trans hX), Nat.le_trans (Nat.le_trans hMs hb4.size) hbl'.size⟩
                      rw [List.replicate_succ', ← List.append_assoc]
                      exact hB'
                    have HW4 : Hid _ := hW4
                    clear hBs hBs0 hS hX hr hB' hbl' hb4 hW4
                    go_wp2_with (first | (at_builtin; rw [← HW4.out]; refine wpList_append_eq rfl _ _ _ rfl _ _ _ rfl rfl HR.out ?_) | go_in)
                    go_roundw
                    case rel => exact ⟨q + 1, _, rfl, by omega, HN.out.1, HN.out.2.1, HN.out.2.2.1, HN.out.2.2.2⟩
                    case measure => simp [slen]; omega
                  · have hqe : padB b0 (nn + s.length) = b0 ++ List.replicate q (0 : UInt8) := by
                      unfold padB
                      rw [show nn + s.length - b0.length = q by omega]
                    obtain ⟨Pb, hPb⟩ : ∃ P, P = padB b0 (nn + s.length) := ⟨_, rfl⟩
                    have hPl : Pb.length = b0.length + q := by rw [hPb, hqe]; exact hle
                    have HB4 : Hid (Bs wr M (.slice (some ⟨g, 0, none⟩) Pb.length cp) Pb) := by rw [hPl, hPb, hqe]; exact hBs
                    rw [← hPb] at HQ'
                    rw [← hPl]
                    have hPs : nn + s.length ≤ Pb.length := by omega
                    have hng : ¬ Pb.length < nn + s.length := by omega
                    have HS4 : Hid _ := hS
                    have HX4 : Hid _ := hX
                    clear hle hlt hgc hPl hqe hBs hS hX hq hPb hbl HTl
                    go_wp2_with fail
                    go_loopw [15] (fun s15 wq => ∃ (j : Nat), j ≤ s.length ∧ s15 = .int .i64 j ∧ Bs wq M (.slice (some ⟨g, 0, none⟩) Pb.length cp) (laidB Pb nn (s.take j)) ∧ FlsAt w wq B G p6 p7 F1 (8000 + 8000 * k + 2000) T ∧ DBox wq D ⟨kd, i, (nn : Int), n, s⟩ ∧ M ≤ wq.heap.size) (fun s15 _ => s.length - (intOf s15).toNat)
                    case atStart => exact ⟨0, by omega, rfl, by rw [List.take_zero, laidB_nil]; exact HB4.out, HS4.out, HX4.out, hMs⟩
                    case round =>
                      clear HB4 HS4 HX4 hMs e0 e1 e2 e3 e4 hng
                      obtain ⟨j, hj, rfl, hBs, hS, hX, hMs⟩ := hrel
                      obtain ⟨-, -, e2, -, e4⟩ := deedCells hX
                      dsimp only at e2 e4
                      by_cases hlt : j < s.length
                      · have hji : (j : Int) < (s.length : Int) := by omega
                        have hla : (laidB Pb nn (s.take j)).length = Pb.length := laidB_len _ _ _ (by rw [List.length_take]; omega)
                        rw [← hla] at hBs
                        obtain ⟨y1, y2, y3, y4⟩ := hBs.at (nn + j) (by rw [hla]; omega) ((nums s).getD j 0) s[j] (nums_get s j hlt)
                        rw [hla, laidB_set Pb nn s (by omega) j hlt] at y3
                        have hix := fun W => tx_index s j hlt W
                        have hw1 : IntKind.i64.wrap ((nn : Int) + (j : Int)) = ((nn + j : Nat) : Int) := by
                          have := Bi.wrap_small (nn + j) (by omega)
                          rw [Int.natCast_add] at this
                          rw [this, Int.natCast_add]
                        have hin : nn + j < Pb.length := by omega
                        generalize (nums s).getD j 0 = z at *
                        generalize (nums (laidB Pb nn (s.take j))).getD (nn + j) 0 = z0 at *
                        have hu := Upd.setCell g (nn + j) wr (.int .u8 z)
                        have hbl' : Below M wr (wr.setCell ⟨g, nn + j, none⟩ (.int .u8 z)) := hu.below y4 hMs
                        have HN : Hid (Bs (wr.setCell ⟨g, nn + j, none⟩ (.int .u8 z)) M (.slice (some ⟨g, 0, none⟩) Pb.length cp) (laidB Pb nn (s.take (j + 1))) ∧ FlsAt w (wr.setCell ⟨g, nn + j, none⟩ (.int .u8 z)) B G p6 p7 F1 (8000 + 8000 * k + 2000) T ∧ DBox (wr.setCell ⟨g, nn + j, none⟩ (.int .u8 z)) D ⟨kd, i, (nn : Int), n, s⟩ ∧ M ≤ (wr.setCell ⟨g, nn + j, none⟩ (.int .u8 z)).heap.size) := 
                          ⟨y3, hS.low hbl' (by omega), (hbl'.block D (by omega)).trans hX, Nat.le_trans hMs hbl'.size⟩
                        clear hla hBs hS hX y3 y4 hu hbl'
                        go_wp2_with fail
                        go_region
                        go_wp2
                        go_roundw
                        case rel => exact ⟨j + 1, by omega, by go_num, HN.out.1.below (Di.drewN_below ⟨1, rfl⟩), HN.out.2.1.below (Di.drewN_below ⟨1, rfl⟩), HN.out.2.2.1, HN.out.2.2.2⟩
                        case measure => simp [intOf]; omega
                      · obtain rfl : j = s.length := by omega
                        rw [List.take_length] at hBs
                        have hla : (laidB Pb nn s).length = Pb.length := laidB_len _ _ _ (by omega)
                        have HBf : Hid _ := hBs
                        have HSf : Hid _ := hS
                        clear hBs hS hX hlt hla
                        go_wp2
                        go_meet
                        case rel => exact ⟨F1, laidB Pb nn s, _, rfl, HBf.out, HSf.out, fun j hj => by
                          by_cases e : j = kk
                          · rw [if_pos e, e, HQ'.out]
                          · rw [if_neg e, HOt.out (j + 1) (by omega)]; exact HT.out j hj⟩
              · obtain rfl : rc = 0 := by simpa using q1
                clear q1
                go_wp2_with fail
                refine wp_region_held_drew (S := fun w' => w'.cell? ⟨p6, kk, none⟩ = some (.int .i64 ((kk : Int) + 1)) ∧ w'.cell? ⟨D, 2, none⟩ = some (.int .i64 o) ∧ w'.cell? ⟨D, 4, none⟩ = some (tx [])) (by kernel_rfl) ⟨c6, e2, e4⟩ (fun hHeld => ?_)
                refine wpAnyH_take (i := 0) (v := ?_) rfl (by kernel_rfl) (by kernel_rfl) (by kernel_rfl) (fun _ _ _ h => h) (Or.inl ⟨by kernel_rfl, ?_⟩) (by assumption) ?_
                rotate_left
                · (intro w hSw; (try dsimp only at hSw); go_simp) <;> with_reducible rfl
                (try simp only [Act.put, List.getElem_toArray, List.getElem_cons_zero, List.setIfInBounds_toArray, List.set_cons_zero, List.set_cons_succ])
                refine wpAnyH_take (i := 1) (v := ?_) rfl (by kernel_rfl) (by kernel_rfl) (by kernel_rfl) (fun _ _ _ h => h) (Or.inl ⟨by kernel_rfl, ?_⟩) (by assumption) ?_
                rotate_left
                · (intro w hSw; (try dsimp only at hSw); go_simp) <;> with_reducible rfl
                (try simp only [Act.put, List.getElem_toArray, List.getElem_cons_zero, List.getElem_cons_succ, List.setIfInBounds_toArray, List.set_cons_zero, List.set_cons_succ])
                refine wpAnyH_take (i := 2) (v := ?_) rfl (by kernel_rfl) (by kernel_rfl) (by kernel_rfl) (fun _ _ _ h => h) (Or.inl ⟨by kernel_rfl, ?_⟩) (by assumption) ?_
                rotate_left
                · (intro w hSw; (try dsimp only at hSw); go_simp) <;> with_reducible rfl
                (try simp only [Act.put, List.getElem_toArray, List.getElem_cons_zero, List.getElem_cons_succ, List.setIfInBounds_toArray, List.set_cons_zero, List.set_cons_succ])
                refine wpAnyH_take (i := 3) (v := ?_) rfl (by kernel_rfl) (by kernel_rfl) (by kernel_rfl) (fun _ _ _ h => h) (Or.inl ⟨by kernel_rfl, ?_⟩) (by assumption) ?_
                rotate_left
                · (intro w hSw; (try dsimp only at hSw); go_simp) <;> with_reducible rfl
                (try simp only [Act.put, List.getElem_toArray, List.getElem_cons_zero, List.getElem_cons_succ, List.setIfInBounds_toArray, List.set_cons_zero, List.set_cons_succ])
                refine wpAnyH_take (i := 4) (v := ?_) rfl (by kernel_rfl) (by kernel_rfl) (by kernel_rfl) (fun _ _ _ h => h) (Or.inl ⟨by kernel_rfl, ?_⟩) (by assumption) ?_
                rotate_left
                · (intro w hSw; (try dsimp only at hSw); go_simp) <;> with_reducible rfl
                (try simp only [Act.put, List.getElem_toArray, List.getElem_cons_zero, List.getElem_cons_succ, List.setIfInBounds_toArray, List.set_cons_zero, List.set_cons_succ])
                refine wpAnyH_take (i := 5) (v := ?_) rfl (by kernel_rfl) (by kernel_rfl) (by kernel_rfl) (fun _ _ _ h => h) (Or.inl ⟨by kernel_rfl, ?_⟩) (by assumption) ?_
                rotate_left
                · (intro w hSw; (try dsimp only at hSw); go_simp) <;> with_reducible rfl
                (try simp only [Act.put, List.getElem_toArray, List.getElem_cons_zero, List.getElem_cons_succ, List.setIfInBounds_toArray, List.set_cons_zero, List.set_cons_succ])
                refine wpAnyH_take (i := 6) (v := ?_) rfl (by kernel_rfl) (by kernel_rfl) (by kernel_rfl) (fun _ _ _ h => h) (Or.inl ⟨by kernel_rfl, ?_⟩) (by assumption) ?_
                rotate_left
                · (intro w hSw; (try dsimp only at hSw); go_simp) <;> with_reducible rfl
                (try simp only [Act.put, List.getElem_toArray, List.getElem_cons_zero, List.getElem_cons_succ, List.setIfInBounds_toArray, List.set_cons_zero, List.set_cons_succ])
                refine wpAnyH_take (i := 7) (v := ?_) rfl (by kernel_rfl) (by kernel_rfl) (by kernel_rfl) (fun _ _ _ h => h) (Or.inl ⟨by kernel_rfl, ?_⟩) (by assumption) ?_
                rotate_left
                · (intro w hSw; (try dsimp only at hSw); go_simp) <;> with_reducible rfl
                (try simp only [Act.put, List.getElem_toArray, List.getElem_cons_zero, List.getElem_cons_succ, List.setIfInBounds_toArray, List.set_cons_zero, List.set_cons_succ])
                refine wpAnyH_take (i := 8) (v := ?_) rfl (by kernel_rfl) (by kernel_rfl) (by kernel_rfl) (fun _ _ _ h => h) (Or.inl ⟨by kernel_rfl, ?_⟩) (by assumption) ?_
                rotate_left
                · (intro w hSw; (try dsimp only at hSw); go_simp) <;> with_reducible rfl
                (try simp only [Act.put, List.getElem_toArray, List.getElem_cons_zero, List.getElem_cons_succ, List.setIfInBounds_toArray, List.set_cons_zero, List.set_cons_succ])
                refine wpAnyH_ready (rs := [9]) (by kernel_rfl) (by simp) ?_
                refine AllReadyH.cons rfl (fun K hK => ?_) AllReadyH.nil
                go_simp
                refine hC.mono ?_
                rintro e w3 ⟨rfl, hf, hbg⟩
                have HS3 : Hid _ := HSd.out.bg hf hbg rfl
                have HX3 : Hid (DBox w3 D ⟨kd, i, o, n, []⟩) := (hbg.block D (lt_of_heap HXd.out) (by have := HSd.out.lo; rintro (e | e) <;> omega)).trans HXd.out
                have HB3 : Hid (Bs w3 M vb (T kk)) := HBd.out.keep hbg (fun k hk => by have := HSd.out.lo; rcases hk with e | e <;> omega)
                have c6' := HS3.out.c6 kk hk3
                obtain ⟨-, -, f2, -, f4⟩ := deedCells HX3.out
                dsimp only at f2 f4
                clear hC hf hbg c6 e0 e1 e2 e3 e4
                refine hK.out _ _ ⟨c6', f2, f4⟩ (fun hHeld => ?_)
                clear hK K
                (try simp only [Act.put, List.getElem_toArray, List.getElem_cons_zero, List.getElem_cons_succ, List.setIfInBounds_toArray, List.set_cons_zero, List.set_cons_succ])
                refine wpAnyH_take (i := 10) (v := ?_) rfl (by kernel_rfl) (by kernel_rfl) (by kernel_rfl) (fun _ _ _ h => h) (Or.inl ⟨by kernel_rfl, ?_⟩) (by assumption) ?_
                rotate_left
                · (intro w hSw; (try dsimp only at hSw); go_simp) <;> with_reducible rfl
                (try simp only [Act.put, List.getElem_toArray, List.getElem_cons_zero, List.getElem_cons_succ, List.setIfInBounds_toArray, List.set_cons_zero, List.set_cons_succ])
                refine wpAnyH_take (i := 11) (v := ?_) rfl (by kernel_rfl) (by kernel_rfl) (by kernel_rfl) (fun _ _ _ h => h) (Or.inl ⟨by kernel_rfl, ?_⟩) (by assumption) ?_
                rotate_left
                · (intro w hSw; (try dsimp only at hSw); go_simp) <;> with_reducible rfl
                (try simp only [Act.put, List.getElem_toArray, List.getElem_cons_zero, List.getElem_cons_succ, List.setIfInBounds_toArray, List.set_cons_zero, List.set_cons_succ])
                refine wpAnyH_take (i := 12) (v := ?_) rfl (by kernel_rfl) (by kernel_rfl) (by kernel_rfl) (fun _ _ _ h => h) (Or.inl ⟨by kernel_rfl, ?_⟩) (by assumption) ?_
                rotate_left
                · (intro w hSw; (try dsimp only at hSw); go_simp) <;> with_reducible rfl
                (try simp only [Act.put, List.getElem_toArray, List.getElem_cons_zero, List.getElem_cons_succ, List.setIfInBounds_toArray, List.set_cons_zero, List.set_cons_succ])
                refine wpAnyH_take (i := 13) (v := ?_) rfl (by kernel_rfl) (by kernel_rfl) (by kernel_rfl) (fun _ _ _ h => h) (Or.inl ⟨by kernel_rfl, ?_⟩) (by assumption) ?_
                rotate_left
                · (intro w hSw; (try dsimp only at hSw); go_simp) <;> with_reducible rfl
                (try simp only [Act.put, List.getElem_toArray, List.getElem_cons_zero, List.getElem_cons_succ, List.setIfInBounds_toArray, List.set_cons_zero, List.set_cons_succ])
                refine wpAnyH_take (i := 14) (v := ?_) rfl (by kernel_rfl) (by kernel_rfl) (by kernel_rfl) (fun _ _ _ h => h) (Or.inl ⟨by kernel_rfl, ?_⟩) (by assumption) ?_
                rotate_left
                · (intro w hSw; (try dsimp only at hSw); go_simp) <;> with_reducible rfl
                (try simp only [Act.put, List.getElem_toArray, List.getElem_cons_zero, List.getElem_cons_succ, List.setIfInBounds_toArray, List.set_cons_zero, List.set_cons_succ])
                refine wpAnyH_take (i := 15) (v := ?_) rfl (by kernel_rfl) (by kernel_rfl) (by kernel_rfl) (fun _ _ _ h => h) (Or.inl ⟨by kernel_rfl, ?_⟩) (by assumption) ?_
                rotate_left
                · (intro w hSw; (try dsimp only at hSw); go_simp) <;> with_reducible rfl
                (try simp only [Act.put, List.getElem_toArray, List.getElem_cons_zero, List.getElem_cons_succ, List.setIfInBounds_toArray, List.set_cons_zero, List.set_cons_succ])
                refine wpAnyH_done (by kernel_rfl) ?_ _
                clear hHeld c6' f2 f4 HSd HXd HBd HSb HXb HBs hMs
                go_wp2
                go_meet
                case rel => exact ⟨F1, T kk, vb, rfl, HB3.out, HS3.out, fun j hj => by
                  by_cases e : j = kk
                  · rw [if_pos e, e]; exact HT.out kk hk3
                  · rw [if_neg e]; exact HT.out j hj⟩
              · go_wp2_with fail
                refine wp_region_held_drew (S := fun w' => w'.cell? ⟨p6, kk, none⟩ = some (.int .i64 ((kk : Int) + 1)) ∧ w'.cell? ⟨D, 2, none⟩ = some (.int .i64 o) ∧ w'.cell? ⟨D, 4, none⟩ = some (tx s)) (by kernel_rfl) ⟨c6, e2, e4⟩ (fun hHeld => ?_)
                refine wpAnyH_take (i := 0) (v := ?_) rfl (by kernel_rfl) (by kernel_rfl) (by kernel_rfl) (fun _ _ _ h => h) (Or.inl ⟨by kernel_rfl, ?_⟩) (by assumption) ?_
                rotate_left
                · (intro w hSw; (try dsimp only at hSw); go_simp) <;> with_reducible rfl
                (try simp only [Act.put, List.getElem_toArray, List.getElem_cons_zero, List.setIfInBounds_toArray, List.set_cons_zero, List.set_cons_succ])
                refine wpAnyH_take (i := 1) (v := ?_) rfl (by kernel_rfl) (by kernel_rfl) (by kernel_rfl) (fun _ _ _ h => h) (Or.inl ⟨by kernel_rfl, ?_⟩) (by assumption) ?_
                rotate_left
                · (intro w hSw; (try dsimp only at hSw); go_simp) <;> with_reducible rfl
                (try simp only [Act.put, List.getElem_toArray, List.getElem_cons_zero, List.getElem_cons_succ, List.setIfInBounds_toArray, List.set_cons_zero, List.set_cons_succ])
                refine wpAnyH_take (i := 2) (v := ?_) rfl (by kernel_rfl) (by kernel_rfl) (by kernel_rfl) (fun _ _ _ h => h) (Or.inl ⟨by kernel_rfl, ?_⟩) (by assumption) ?_
                rotate_left
                · (intro w hSw; (try dsimp only at hSw); go_simp) <;> with_reducible rfl
                (try simp only [Act.put, List.getElem_toArray, List.getElem_cons_zero, List.getElem_cons_succ, List.setIfInBounds_toArray, List.set_cons_zero, List.set_cons_succ])
                refine wpAnyH_take (i := 3) (v := ?_) rfl (by kernel_rfl) (by kernel_rfl) (by kernel_rfl) (fun _ _ _ h => h) (Or.inl ⟨by kernel_rfl, ?_⟩) (by assumption) ?_
                rotate_left
                · (intro w hSw; (try dsimp only at hSw); go_simp) <;> with_reducible rfl
                (try simp only [Act.put, List.getElem_toArray, List.getElem_cons_zero, List.getElem_cons_succ, List.setIfInBounds_toArray, List.set_cons_zero, List.set_cons_succ])
                refine wpAnyH_take (i := 4) (v := ?_) rfl (by kernel_rfl) (by kernel_rfl) (by kernel_rfl) (fun _ _ _ h => h) (Or.inl ⟨by kernel_rfl, ?_⟩) (by assumption) ?_
                rotate_left
                · (intro w hSw; (try dsimp only at hSw); go_simp) <;> with_reducible rfl
                (try simp only [Act.put, List.getElem_toArray, List.getElem_cons_zero, List.getElem_cons_succ, List.setIfInBounds_toArray, List.set_cons_zero, List.set_cons_succ])
                refine wpAnyH_take (i := 5) (v := ?_) rfl (by kernel_rfl) (by kernel_rfl) (by kernel_rfl) (fun _ _ _ h => h) (Or.inl ⟨by kernel_rfl, ?_⟩) (by assumption) ?_
                rotate_left
                · (intro w hSw; (try dsimp only at hSw); go_simp) <;> with_reducible rfl
                (try simp only [Act.put, List.getElem_toArray, List.getElem_cons_zero, List.getElem_cons_succ, List.setIfInBounds_toArray, List.set_cons_zero, List.set_cons_succ])
                refine wpAnyH_take (i := 6) (v := ?_) rfl (by kernel_rfl) (by kernel_rfl) (by kernel_rfl) (fun _ _ _ h => h) (Or.inl ⟨by kernel_rfl, ?_⟩) (by assumption) ?_
                rotate_left
                · (intro w hSw; (try dsimp only at hSw); go_simp) <;> with_reducible rfl
                (try simp only [Act.put, List.getElem_toArray, List.getElem_cons_zero, List.getElem_cons_succ, List.setIfInBounds_toArray, List.set_cons_zero, List.set_cons_succ])
                refine wpAnyH_take (i := 7) (v := ?_) rfl (by kernel_rfl) (by kernel_rfl) (by kernel_rfl) (fun _ _ _ h => h) (Or.inl ⟨by kernel_rfl, ?_⟩) (by assumption) ?_
                rotate_left
                · (intro w hSw; (try dsimp only at hSw); go_simp) <;> with_reducible rfl
                (try simp only [Act.put, List.getElem_toArray, List.getElem_cons_zero, List.getElem_cons_succ, List.setIfInBounds_toArray, List.set_cons_zero, List.set_cons_succ])
                refine wpAnyH_take (i := 8) (v := ?_) rfl (by kernel_rfl) (by kernel_rfl) (by kernel_rfl) (fun _ _ _ h => h) (Or.inl ⟨by kernel_rfl, ?_⟩) (by assumption) ?_
                rotate_left
                · (intro w hSw; (try dsimp only at hSw); go_simp) <;> with_reducible rfl
                (try simp only [Act.put, List.getElem_toArray, List.getElem_cons_zero, List.getElem_cons_succ, List.setIfInBounds_toArray, List.set_cons_zero, List.set_cons_succ])
                refine wpAnyH_ready (rs := [9]) (by kernel_rfl) (by simp) ?_
                refine AllReadyH.cons rfl (fun K hK => ?_) AllReadyH.nil
                go_simp
                refine hC.mono ?_
                rintro e w3 ⟨rfl, hf, hbg⟩
                have HS3 : Hid _ := HSd.out.bg hf hbg rfl
                have HX3 : Hid (DBox w3 D ⟨kd, i, o, n, s⟩) := (hbg.block D (lt_of_heap HXd.out) (by have := HSd.out.lo; rintro (e | e) <;> omega)).trans HXd.out
                have HB3 : Hid (Bs w3 M vb (T kk)) := HBd.out.keep hbg (fun k hk => by have := HSd.out.lo; rcases hk with e | e <;> omega)
                have c6' := HS3.out.c6 kk hk3
                obtain ⟨-, -, f2, -, f4⟩ := deedCells HX3.out
                dsimp only at f2 f4
                clear hC hf hbg c6 e0 e1 e2 e3 e4
                refine hK.out _ _ ⟨c6', f2, f4⟩ (fun hHeld => ?_)
                clear hK K
                (try simp only [Act.put, List.getElem_toArray, List.getElem_cons_zero, List.getElem_cons_succ, List.setIfInBounds_toArray, List.set_cons_zero, List.set_cons_succ])
                refine wpAnyH_take (i := 10) (v := ?_) rfl (by kernel_rfl) (by kernel_rfl) (by kernel_rfl) (fun _ _ _ h => h) (Or.inl ⟨by kernel_rfl, ?_⟩) (by assumption) ?_
                rotate_left
                · (intro w hSw; (try dsimp only at hSw); go_simp) <;> with_reducible rfl
                (try simp only [Act.put, List.getElem_toArray, List.getElem_cons_zero, List.getElem_cons_succ, List.setIfInBounds_toArray, List.set_cons_zero, List.set_cons_succ])
                refine wpAnyH_take (i := 11) (v := ?_) rfl (by kernel_rfl) (by kernel_rfl) (by kernel_rfl) (fun _ _ _ h => h) (Or.inl ⟨by kernel_rfl, ?_⟩) (by assumption) ?_
                rotate_left
                · (intro w hSw; (try dsimp only at hSw); go_simp) <;> with_reducible rfl
                (try simp only [Act.put, List.getElem_toArray, List.getElem_cons_zero, List.getElem_cons_succ, List.setIfInBounds_toArray, List.set_cons_zero, List.set_cons_succ])
                refine wpAnyH_take (i := 12) (v := undef) rfl (by kernel_rfl) (by kernel_rfl) (by kernel_rfl) (fun _ _ _ h => h) (Or.inr ⟨by kernel_rfl, rfl⟩) (by assumption) ?_
                (try simp only [Act.put, List.getElem_toArray, List.getElem_cons_zero, List.getElem_cons_succ, List.setIfInBounds_toArray, List.set_cons_zero, List.set_cons_succ])
                refine wpAnyH_take (i := 13) (v := undef) rfl (by kernel_rfl) (by kernel_rfl) (by kernel_rfl) (fun _ _ _ h => h) (Or.inr ⟨by kernel_rfl, rfl⟩) (by assumption) ?_
                (try simp only [Act.put, List.getElem_toArray, List.getElem_cons_zero, List.getElem_cons_succ, List.setIfInBounds_toArray, List.set_cons_zero, List.set_cons_succ])
                refine wpAnyH_take (i := 14) (v := undef) rfl (by kernel_rfl) (by kernel_rfl) (by kernel_rfl) (fun _ _ _ h => h) (Or.inr ⟨by kernel_rfl, rfl⟩) (by assumption) ?_
                (try simp only [Act.put, List.getElem_toArray, List.getElem_cons_zero, List.getElem_cons_succ, List.setIfInBounds_toArray, List.set_cons_zero, List.set_cons_succ])
                refine wpAnyH_take (i := 15) (v := ?_) rfl (by kernel_rfl) (by kernel_rfl) (by kernel_rfl) (fun _ _ _ h => h) (Or.inl ⟨by kernel_rfl, ?_⟩) (by assumption) ?_
                rotate_left
                · (intro w hSw; (try dsimp only at hSw); go_simp) <;> with_reducible rfl
                (try simp only [Act.put, List.getElem_toArray, List.getElem_cons_zero, List.getElem_cons_succ, List.setIfInBounds_toArray, List.set_cons_zero, List.set_cons_succ])
                refine wpAnyH_done (by kernel_rfl) ?_ _
                clear hHeld c6' f2 f4 HSd HXd HBd HSb HXb HBs hMs
                go_wp2
                go_meet
                case rel => exact ⟨F1, T kk, vb, rfl, HB3.out, HS3.out, fun j hj => by
                  by_cases e : j = kk
                  · rw [if_pos e, e]; exact HT.out kk hk3
                  · rw [if_neg e]; exact HT.out j hj⟩
            · obtain ⟨e0, e1, e2, e3, e4⟩ := deedCells HXd.out
              dsimp only at e0 e1 e2 e3 e4
              have hC := resize_all HSd.out.fs (by omega) (kk + 1) (by omega) (HSd.out.us kk hk3) n
              have hcs := rs_cases F (kk + 1) n
              obtain ⟨rc, hrc⟩ : ∃ r, r = rsR F (kk + 1) n := ⟨_, rfl⟩
              obtain ⟨F1, hF1⟩ : ∃ F1, F1 = rsF F (kk + 1) n := ⟨_, rfl⟩
              have HIw : Hid (F1.iw = F.iw) := by rw [hF1]; exact (rsF_iw _ _ _).1
              have HOt : Hid (∀ j, j ≠ kk + 1 → F1.ino j = F.ino j) := fun j hj => by rw [hF1]; exact rs_other _ _ _ hj
              rw [← hrc, ← hF1] at hC hcs
              clear hrc hF1 d0 d1 d2 d3 d4
              rcases hcs with ⟨q1, nn, rfl, q3, q4⟩ | ⟨q1, rfl⟩
              · obtain rfl : rc = 0 := by simpa using q1
                have HQ : Hid _ := q4
                clear q1 q4
                go_wp2_with fail
                refine wp_region_held_drew (S := fun w' => w'.cell? ⟨p6, kk, none⟩ = some (.int .i64 ((kk : Int) + 1)) ∧ w'.cell? ⟨D, 3, none⟩ = some (.int .i64 (nn : Int))) (by kernel_rfl) ⟨c6, e3⟩ (fun hHeld => ?_)
                refine wpAnyH_take (i := 0) (v := ?_) rfl (by kernel_rfl) (by kernel_rfl) (by kernel_rfl) (fun _ _ _ h => h) (Or.inl ⟨by kernel_rfl, ?_⟩) (by assumption) ?_
                rotate_left
                · (intro w hSw; (try dsimp only at hSw); go_simp) <;> with_reducible rfl
                (try simp only [Act.put, List.getElem_toArray, List.getElem_cons_zero, List.setIfInBounds_toArray, List.set_cons_zero, List.set_cons_succ])
                refine wpAnyH_take (i := 1) (v := ?_) rfl (by kernel_rfl) (by kernel_rfl) (by kernel_rfl) (fun _ _ _ h => h) (Or.inl ⟨by kernel_rfl, ?_⟩) (by assumption) ?_
                rotate_left
                · (intro w hSw; (try dsimp only at hSw); go_simp) <;> with_reducible rfl
                (try simp only [Act.put, List.getElem_toArray, List.getElem_cons_zero, List.getElem_cons_succ, List.setIfInBounds_toArray, List.set_cons_zero, List.set_cons_succ])
                refine wpAnyH_take (i := 2) (v := ?_) rfl (by kernel_rfl) (by kernel_rfl) (by kernel_rfl) (fun _ _ _ h => h) (Or.inl ⟨by kernel_rfl, ?_⟩) (by assumption) ?_
                rotate_left
                · (intro w hSw; (try dsimp only at hSw); go_simp) <;> with_reducible rfl
                (try simp only [Act.put, List.getElem_toArray, List.getElem_cons_zero, List.getElem_cons_succ, List.setIfInBounds_toArray, List.set_cons_zero, List.set_cons_succ])
                refine wpAnyH_take (i := 3) (v := ?_) rfl (by kernel_rfl) (by kernel_rfl) (by kernel_rfl) (fun _ _ _ h => h) (Or.inl ⟨by kernel_rfl, ?_⟩) (by assumption) ?_
                rotate_left
                · (intro w hSw; (try dsimp only at hSw); go_simp) <;> with_reducible rfl
                (try simp only [Act.put, List.getElem_toArray, List.getElem_cons_zero, List.getElem_cons_succ, List.setIfInBounds_toArray, List.set_cons_zero, List.set_cons_succ])
                refine wpAnyH_take (i := 4) (v := ?_) rfl (by kernel_rfl) (by kernel_rfl) (by kernel_rfl) (fun _ _ _ h => h) (Or.inl ⟨by kernel_rfl, ?_⟩) (by assumption) ?_
                rotate_left
                · (intro w hSw; (try dsimp only at hSw); go_simp) <;> with_reducible rfl
                (try simp only [Act.put, List.getElem_toArray, List.getElem_cons_zero, List.getElem_cons_succ, List.setIfInBounds_toArray, List.set_cons_zero, List.set_cons_succ])
                refine wpAnyH_take (i := 5) (v := ?_) rfl (by kernel_rfl) (by kernel_rfl) (by kernel_rfl) (fun _ _ _ h => h) (Or.inl ⟨by kernel_rfl, ?_⟩) (by assumption) ?_
                rotate_left
                · (intro w hSw; (try dsimp only at hSw); go_simp) <;> with_reducible rfl
                (try simp only [Act.put, List.getElem_toArray, List.getElem_cons_zero, List.getElem_cons_succ, List.setIfInBounds_toArray, List.set_cons_zero, List.set_cons_succ])
                refine wpAnyH_take (i := 6) (v := ?_) rfl (by kernel_rfl) (by kernel_rfl) (by kernel_rfl) (fun _ _ _ h => h) (Or.inl ⟨by kernel_rfl, ?_⟩) (by assumption) ?_
                rotate_left
                · (intro w hSw; (try dsimp only at hSw); go_simp) <;> with_reducible rfl
                (try simp only [Act.put, List.getElem_toArray, List.getElem_cons_zero, List.getElem_cons_succ, List.setIfInBounds_toArray, List.set_cons_zero, List.set_cons_succ])
                refine wpAnyH_ready (rs := [7]) (by kernel_rfl) (by simp) ?_
                refine AllReadyH.cons rfl (fun K hK => ?_) AllReadyH.nil
                go_simp
                refine hC.mono ?_
                rintro e w3 ⟨rfl, hf, hbg⟩
                have HS3 : Hid _ := HSd.out.bg hf hbg HIw.out
                have HX3 : Hid (DBox w3 D ⟨kd, i, o, (nn : Int), s⟩) := (hbg.block D (lt_of_heap HXd.out) (by have := HSd.out.lo; rintro (e | e) <;> omega)).trans HXd.out
                have HB3 : Hid (Bs w3 M vb (T kk)) := HBd.out.keep hbg (fun k hk => by have := HSd.out.lo; rcases hk with e | e <;> omega)
                have hM3 : M ≤ w3.heap.size := Nat.le_trans hMs hbg.size
                have c6' := HS3.out.c6 kk hk3
                obtain ⟨-, -, -, f3, -⟩ := deedCells HX3.out
                dsimp only at f3
                clear hC hf hbg c6 e0 e1 e2 e3 e4
                refine hK.out _ _ ⟨c6', f3⟩ (fun hHeld => ?_)
                clear hK K
                (try simp only [Act.put, List.getElem_toArray, List.getElem_cons_zero, List.getElem_cons_succ, List.setIfInBounds_toArray, List.set_cons_zero, List.set_cons_succ])
                refine wpAnyH_take (i := 8) (v := ?_) rfl (by kernel_rfl) (by kernel_rfl) (by kernel_rfl) (fun _ _ _ h => h) (Or.inl ⟨by kernel_rfl, ?_⟩) (by assumption) ?_
                rotate_left
                · (intro w hSw; (try dsimp only at hSw); go_simp) <;> with_reducible rfl
                (try simp only [Act.put, List.getElem_toArray, List.getElem_cons_zero, List.getElem_cons_succ, List.setIfInBounds_toArray, List.set_cons_zero, List.set_cons_succ])
                refine wpAnyH_done (by kernel_rfl) ?_ _
                clear hHeld c6' f3 HSd HXd HBd HSb HXb HBs hMs
                obtain ⟨b0, hb0⟩ : ∃ b, b = T kk := ⟨_, rfl⟩
                rw [← hb0] at HB3 HTl
                have HQ' : Hid (byts (F1.ino (kk + 1)).txt = (padB b0 nn).take nn) := by rw [hb0, HT.out kk hk3]; exact HQ.out
                have Hb0 : Hid _ := hb0
                clear hb0 HQ
                have hbl := HTl.out
                go_wp2_with fail
                go_loopw [14] (fun s14 wq => ∃ (q : Nat) (v' : Value), v' = s14 ∧ q ≤ nn - b0.length ∧ Bs wq M v' (b0 ++ List.replicate q 0) ∧ FlsAt w wq B G p6 p7 F1 (8000 + 8000 * k + 2000) T ∧ DBox wq D ⟨kd, i, o, (nn : Int), s⟩ ∧ M ≤ wq.heap.size) (fun s14 _ => nn - slen s14)
                case atStart => exact ⟨0, vb, rfl, by omega, by simpa using HB3.out, HS3.out, HX3.out, hM3⟩
                case round =>
                  clear HB3 HS3 HX3 hM3
                  obtain ⟨q, v', rfl, hq, hBs, hS, hX, hMs⟩ := hrel
                  have hle : (b0 ++ List.replicate q (0 : UInt8)).length = b0.length + q := by simp
                  obtain ⟨g, cp, rfl, hgc⟩ := hBs.form
                  rw [hle] at hgc hBs ⊢
                  obtain ⟨-, -, -, e3, -⟩ := deedCells hX
                  dsimp only at e3
                  by_cases hlt : b0.length + q < nn
                  · have hBs0 : Bs wr M (.slice (some ⟨g, 0, none⟩) (b0.length + q) cp) (b0 ++ List.replicate q 0) := hBs
                    obtain ⟨W4, hW4⟩ : ∃ W, W = wr.alloc (.cells #[.int .u8 0] 5) := ⟨_, rfl⟩
                    have hb4 : Below wr.heap.size wr W4 := by rw [hW4]; exact below_alloc _ _
                    obtain ⟨g', c', w', hr, hB', hbl'⟩ := (hBs0.below hb4).app wr.heap.size (by rw [hW4]; exact heap_alloc_new _ _) (by rw [hle]; omega) (Nat.le_trans hMs hb4.size)
                    rw [hle] at hr hB'
                    have HR : Hid _ := hr
                    have HN : Hid (Bs w' M (.slice (some ⟨g', 0, none⟩) (b0.length + q + 1) c') (b0 ++ List.replicate (q + 1) 0) ∧ FlsAt w w' B G p6 p7 F1 (8000 + 8000 * k + 2000) T ∧ DBox w' D ⟨kd, i, o, (nn : Int), s⟩ ∧ M ≤ w'.heap.size) := by
                      refine ⟨?_, (hS.below hb4).low hbl' (by omega), (hbl'.block D (by omega)).trans ((hb4.block D (lt_of_heap hX)).trans hX), Nat.le_trans (Nat.le_trans hMs hb4.size) hbl'.size⟩
                      rw [List.replicate_succ', ← List.append_assoc]
                      exact hB'
                    have HW4 : Hid _ := hW4
                    clear hBs hBs0 hS hX hr hB' hbl' hb4 hW4
                    go_wp2_with (first | (at_builtin; rw [← HW4.out]; refine wpList_append_eq rfl _ _ _ rfl _ _ _ rfl rfl HR.out ?_) | go_in)
                    go_roundw
                    case rel => exact ⟨q + 1, _, rfl, by omega, HN.out.1, HN.out.2.1, HN.out.2.2.1, HN.out.2.2.2⟩
                    case measure => simp [slen]; omega
                  · have hqe : padB b0 nn = b0 ++ List.replicate q (0 : UInt8) := by
                      unfold padB
                      rw [show nn - b0.length = q by omega]
                    have hBs0 : Bs wr M (.slice (some ⟨g, 0, none⟩) (b0 ++ List.replicate q (0 : UInt8)).length cp) (b0 ++ List.replicate q 0) := by rw [hle]; exact hBs
                    have HBf : Hid (Bs wr M (.slice (some ⟨g, 0, none⟩) nn cp) ((padB b0 nn).take nn)) := by rw [hqe]; exact hBs0.cut nn (by rw [hle]; omega)
                    have hsl := fun V => cut_bytes g 0 (b0.length + q) cp nn (by omega) V
                    have HSf : Hid _ := hS
                    clear hBs hBs0 hS hX hqe hle
                    go_wp2
                    go_meet
                    case rel => exact ⟨F1, _, _, rfl, HBf.out, HSf.out, fun j hj => by
                      by_cases e : j = kk
                      · rw [if_pos e, e, HQ'.out]
                      · rw [if_neg e, HOt.out (j + 1) (by omega)]; exact HT.out j hj⟩
              · go_wp2_with fail
                refine wp_region_held_drew (S := fun w' => w'.cell? ⟨p6, kk, none⟩ = some (.int .i64 ((kk : Int) + 1)) ∧ w'.cell? ⟨D, 3, none⟩ = some (.int .i64 n)) (by kernel_rfl) ⟨c6, e3⟩ (fun hHeld => ?_)
                refine wpAnyH_take (i := 0) (v := ?_) rfl (by kernel_rfl) (by kernel_rfl) (by kernel_rfl) (fun _ _ _ h => h) (Or.inl ⟨by kernel_rfl, ?_⟩) (by assumption) ?_
                rotate_left
                · (intro w hSw; (try dsimp only at hSw); go_simp) <;> with_reducible rfl
                (try simp only [Act.put, List.getElem_toArray, List.getElem_cons_zero, List.setIfInBounds_toArray, List.set_cons_zero, List.set_cons_succ])
                refine wpAnyH_take (i := 1) (v := ?_) rfl (by kernel_rfl) (by kernel_rfl) (by kernel_rfl) (fun _ _ _ h => h) (Or.inl ⟨by kernel_rfl, ?_⟩) (by assumption) ?_
                rotate_left
                · (intro w hSw; (try dsimp only at hSw); go_simp) <;> with_reducible rfl
                (try simp only [Act.put, List.getElem_toArray, List.getElem_cons_zero, List.getElem_cons_succ, List.setIfInBounds_toArray, List.set_cons_zero, List.set_cons_succ])
                refine wpAnyH_take (i := 2) (v := ?_) rfl (by kernel_rfl) (by kernel_rfl) (by kernel_rfl) (fun _ _ _ h => h) (Or.inl ⟨by kernel_rfl, ?_⟩) (by assumption) ?_
                rotate_left
                · (intro w hSw; (try dsimp only at hSw); go_simp) <;> with_reducible rfl
                (try simp only [Act.put, List.getElem_toArray, List.getElem_cons_zero, List.getElem_cons_succ, List.setIfInBounds_toArray, List.set_cons_zero, List.set_cons_succ])
                refine wpAnyH_take (i := 3) (v := ?_) rfl (by kernel_rfl) (by kernel_rfl) (by kernel_rfl) (fun _ _ _ h => h) (Or.inl ⟨by kernel_rfl, ?_⟩) (by assumption) ?_
                rotate_left
                · (intro w hSw; (try dsimp only at hSw); go_simp) <;> with_reducible rfl
                (try simp only [Act.put, List.getElem_toArray, List.getElem_cons_zero, List.getElem_cons_succ, List.setIfInBounds_toArray, List.set_cons_zero, List.set_cons_succ])
                refine wpAnyH_take (i := 4) (v := ?_) rfl (by kernel_rfl) (by kernel_rfl) (by kernel_rfl) (fun _ _ _ h => h) (Or.inl ⟨by kernel_rfl, ?_⟩) (by assumption) ?_
                rotate_left
                · (intro w hSw; (try dsimp only at hSw); go_simp) <;> with_reducible rfl
                (try simp only [Act.put, List.getElem_toArray, List.getElem_cons_zero, List.getElem_cons_succ, List.setIfInBounds_toArray, List.set_cons_zero, List.set_cons_succ])
                refine wpAnyH_take (i := 5) (v := ?_) rfl (by kernel_rfl) (by kernel_rfl) (by kernel_rfl) (fun _ _ _ h => h) (Or.inl ⟨by kernel_rfl, ?_⟩) (by assumption) ?_
                rotate_left
                · (intro w hSw; (try dsimp only at hSw); go_simp) <;> with_reducible rfl
                (try simp only [Act.put, List.getElem_toArray, List.getElem_cons_zero, List.getElem_cons_succ, List.setIfInBounds_toArray, List.set_cons_zero, List.set_cons_succ])
                refine wpAnyH_take (i := 6) (v := ?_) rfl (by kernel_rfl) (by kernel_rfl) (by kernel_rfl) (fun _ _ _ h => h) (Or.inl ⟨by kernel_rfl, ?_⟩) (by assumption) ?_
                rotate_left
                · (intro w hSw; (try dsimp only at hSw); go_simp) <;> with_reducible rfl
                (try simp only [Act.put, List.getElem_toArray, List.getElem_cons_zero, List.getElem_cons_succ, List.setIfInBounds_toArray, List.set_cons_zero, List.set_cons_succ])
                refine wpAnyH_ready (rs := [7]) (by kernel_rfl) (by simp) ?_
                refine AllReadyH.cons rfl (fun K hK => ?_) AllReadyH.nil
                go_simp
                refine hC.mono ?_
                rintro e w3 ⟨rfl, hf, hbg⟩
                have HS3 : Hid _ := HSd.out.bg hf hbg rfl
                have HX3 : Hid (DBox w3 D ⟨kd, i, o, n, s⟩) := (hbg.block D (lt_of_heap HXd.out) (by have := HSd.out.lo; rintro (e | e) <;> omega)).trans HXd.out
                have HB3 : Hid (Bs w3 M vb (T kk)) := HBd.out.keep hbg (fun k hk => by have := HSd.out.lo; rcases hk with e | e <;> omega)
                have c6' := HS3.out.c6 kk hk3
                obtain ⟨-, -, -, f3, -⟩ := deedCells HX3.out
                dsimp only at f3
                clear hC hf hbg c6 e0 e1 e2 e3 e4
                refine hK.out _ _ ⟨c6', f3⟩ (fun hHeld => ?_)
                clear hK K
                (try simp only [Act.put, List.getElem_toArray, List.getElem_cons_zero, List.getElem_cons_succ, List.setIfInBounds_toArray, List.set_cons_zero, List.set_cons_succ])
                refine wpAnyH_take (i := 8) (v := ?_) rfl (by kernel_rfl) (by kernel_rfl) (by kernel_rfl) (fun _ _ _ h => h) (Or.inl ⟨by kernel_rfl, ?_⟩) (by assumption) ?_
                rotate_left
                · (intro w hSw; (try dsimp only at hSw); go_simp) <;> with_reducible rfl
                (try simp only [Act.put, List.getElem_toArray, List.getElem_cons_zero, List.getElem_cons_succ, List.setIfInBounds_toArray, List.set_cons_zero, List.set_cons_succ])
                refine wpAnyH_done (by kernel_rfl) ?_ _
                clear hHeld c6' f3 HSd HXd HBd HSb HXb HBs hMs
                go_wp2
                go_meet
                case rel => exact ⟨F1, T kk, vb, rfl, HB3.out, HS3.out, fun j hj => by
                  by_cases e : j = kk
                  · rw [if_pos e, e]; exact HT.out kk hk3
                  · rw [if_neg e]; exact HT.out j hj⟩
            · go_wp2_with fail
              go_meet
              case rel => exact ⟨F, T kk, vb, rfl, HBs.out, HSb.out.mono (by omega), fun j hj => by
                by_cases e : j = kk
                · rw [if_pos e, e]; exact HT.out kk hk3
                · rw [if_neg e]; exact HT.out j hj⟩
          case rest =>
            clear d0 d1 d2 d3 d4 HXb HBs HSb hMs
            obtain ⟨F', l', v', rfl, hBs, hS, HT'⟩ := hcut
            have hstr := hBs.string
            have c7 := hS.c7 kk hk3
            have f7 : wc.frozen? ⟨p7, kk, none⟩ = false := frozen_of_heap hS.want
            have HS2 : Hid _ := hS.set kk hk3 l'
            clear hBs hS
            go_wp2_with fail
            go_loopw [16] (fun s16 wq => ∃ (j : Nat), j ≤ 3 ∧ s16 = .int .i64 j ∧ FlsAt w wq B G p6 p7 F' (8000 + 8000 * k + 2000 + 2000 * j) (fun j => if j = kk then l' else T j)) (fun s16 _ => 3 - (intOf s16).toNat)
            case atStart => exact ⟨0, by omega, rfl, HS2.out⟩
            case round =>
              clear HS2 c7 f7 hstr
              obtain ⟨j, hj3, rfl, hS⟩ := hrel
              by_cases hlt : j < 3
              · have hji : (j : Int) < 3 := by omega
                have c6 := hS.c6 j hlt
                have hC := read_all hS.fs (by omega) ((j + 1 : Nat) : Int) 0 192 (by omega) (by omega)
                obtain ⟨e1, e2⟩ := rd_all hS.fs.inv (j + 1) (by omega)
                rw [e1, e2, ← HT'.out j hlt] at hC
                have HS : Hid _ := hS
                obtain ⟨t, ht⟩ : ∃ t, t = (if j = kk then l' else T j) := ⟨_, rfl⟩
                rw [← ht] at hC
                have Ht : Hid _ := ht
                have hne := tx_ne_self t
                clear hS e1 e2 ht
                go_wp2_with fail
                refine hC.mono ?_
                rintro e w3 ⟨rfl, hf, hbg⟩
                have HS3 : Hid _ := HS.out.bg hf hbg rfl
                have c7 := HS3.out.c7 j hlt
                rw [← Ht.out] at c7
                clear hC hf hbg c6
                go_wp2
                go_roundw
                case rel => exact ⟨j + 1, by omega, by go_num, HS3.out.mono (by omega)⟩
                case measure => simp [intOf]; omega
              · obtain rfl : j = 3 := by omega
                have HS : Hid _ := hS
                clear hS
                go_wp2
                go_roundw
                case rel => exact ⟨k + 1, F', _, by omega, by omega, by go_num, HS.out.mono (by omega), HT'⟩
                case measure => simp [intOf]; omega
        · have hend : k < len ∧ ¬ k < 100 ∨ ¬ k < len := by omega
          clear hlt
          have HS : Hid _ := hS
          have hA := awake_at wr
          clear hS
          rcases hend with ⟨g0, g1⟩ | g0
          all_goals
            go_wp2_with (first | (go_at_call 26; refine hA.mono ?_; rintro e w7 ⟨rfl, hb7⟩) | go_in)
            go_ret
            exact ⟨rfl, HS.out.old.trans (hb7.mono HS.out.old.size)⟩
end Go.Proofs.Ytinjllnoonbjmaa
