/- januslaw15.InodePlays: the walk. -/
import Derived.Test.YtinjllnoonbjmaaPyIJ
import Derived.Test.YtinjllnoonbjmaaKinds
import Derived.Laws.StructEq
import Derived.Deep.DeepCutAuto
import Derived.Deep.CutBlock
import Derived.Deep.RegionHeld3
import Derived.ProofKit
import Derived.OpenShut
import Derived.ChangeOld
import Derived.ChangeSlices
import Derived.Deep.Slices
import Derived.Below
namespace Go.Proofs.Ytinjllnoonbjmaa
open Go.ChangeShapes Go.WideShapes Go.ChangeAt Go.RowKit Go.Lib
set_option linter.all false

theorem and_bit1 (n : Int) : ∃ z : Nat, z ≤ 1 ∧ bits .and .i64 n 1 = (z : Int) := by
  have h : (BitVec.ofInt 64 n &&& BitVec.ofInt 64 1).toNat ≤ 1 := by
    rw [BitVec.toNat_and]
    exact Nat.le_trans Nat.and_le_right (by decide)
  refine ⟨_, h, ?_⟩
  show IntKind.i64.wrap (((BitVec.ofInt 64 n &&& BitVec.ofInt 64 1).toNat : Nat) : Int) = _
  exact Bi.wrap_small _ (by omega)
theorem tx_same (t : List UInt8) (W : World) : (binOp BinOp.eql 9 (tx t) (tx t)).run Try.prog W = .ok (.bool true) W := by
  go_simp
theorem list9 {l : List Int} (h : l.length = 9) : ∃ a b c d e f g i j, l = [a, b, c, d, e, f, g, i, j] := by
  match l, h with
  | [a, b, c, d, e, f, g, i, j], _ => exact ⟨a, b, c, d, e, f, g, i, j, rfl⟩
theorem intCells : Try.prog.cellsOf 3 = 1 := by kernel_rfl
theorem arrUnder : Try.prog.underlying 45 = some (.array 6 3) := by kernel_rfl
theorem arr_eq (W : World) (a b c d e f : Int) : (Op.equalIn 9999 45 (.agg #[.int .i64 a, .int .i64 b, .int .i64 c, .int .i64 d, .int .i64 e, .int .i64 f]) (.agg #[.int .i64 a, .int .i64 b, .int .i64 c, .int .i64 d, .int .i64 e, .int .i64 f])).run Try.prog W = .ok true W := by
  have h1 : (Try.prog.info? 3).isSome = true := by kernel_rfl
  obtain ⟨i, hi⟩ := Option.isSome_iff_exists.mp h1
  rw [run_equalIn_array W 9998 _ _ arrUnder hi, intCells]
  have hr : List.range 6 = [0, 1, 2, 3, 4, 5] := rfl
  rw [hr]
  simp only [Op.eqItems]
  go_simp
/-- Two inodes are the same. -/
theorem ino_same (xs : List Int) (h : xs.length = 9) (W : World) : (binOp BinOp.eql 47 (.agg (irow xs)) (.agg (irow xs))).run Try.prog W = .ok (.bool true) W := by
  obtain ⟨a, b, c, d, e, f, g, i, j, rfl⟩ := list9 h
  have e1 : irow [a, b, c, d, e, f, g, i, j] = #[.int .i64 a, .int .i64 b, .int .i64 c, .int .i64 d, .int .i64 e, .int .i64 f, .int .i64 g, .int .i64 i, .int .i64 j] := rfl
  have h2 := arr_eq W d e f g i j
  rw [e1]
  go_simp
def zdd : Array Value := #[.int .i64 0, .int .i64 0, .int .i64 0, .int .i64 0, .string ⟨#[]⟩]
theorem lit_zdd : (#[.int .i64 0, .int .i64 0, .int .i64 0, .int .i64 0, .string ⟨#[]⟩] : Array Value) = zdd := rfl
/-- A deed in its box. -/
def DBox (w : World) (p : Nat) (d : Deed) : Prop := w.heap[p]? = some (.cells (deedRow d) 28)
/-- A slice at a0 holds so many deeds. -/
def DeedsAt (w : World) (a0 : Option Addr) (len : Nat) : Prop := ∀ j, j < len → ∃ gb off d, a0 = some ⟨gb, off, none⟩ ∧ Deed.Fit d ∧ w.rangeAt gb (off + j * 5) (deedRow d).toList
theorem DeedsAt.below {w w' : World} {a0 : Option Addr} {len : Nat} (h : DeedsAt w a0 len) (hb : Below w.heap.size w w') : DeedsAt w' a0 len := by
  intro j hj
  obtain ⟨gb, off, d, e, hf, hc⟩ := h j hj
  exact ⟨gb, off, d, e, hf, fun i u hu => (hb.cell (cell_lt (hc i u hu))).trans (hc i u hu)⟩
theorem DBox.keep {w w' : World} {p a b : Nat} {d : Deed} (h : DBox w p d) (hu : BG a b w w') (h1 : p ≠ a) (h2 : p ≠ b) : DBox w' p d := (hu.block p (lt_of_heap h) (by rintro (e | e) <;> omega)).trans h
theorem DBox.below {w w' : World} {p : Nat} {d : Deed} (h : DBox w p d) (hb : Below w.heap.size w w') : DBox w' p d := (hb.block p (lt_of_heap h)).trans h
theorem rs_n (F : FS) (i s : Int) : (rsB F i s).n = F.n := by
  unfold rsB
  split
  · exact (rsF_iw _ _ _).2
  · rfl
theorem wr_n (F : FS) (i o : Int) (l : List UInt8) : (wrB F i o l).n = F.n := by
  unfold wrB
  split
  · exact (wrF_iw _ _ _ _).2
  · rfl
theorem fr_n (F : FS) (i : Int) : (frB F i).n = F.n := by
  unfold frB
  split <;> rfl
theorem al_n (F : FS) (k : Int) : (alF F k).n = F.n := by
  unfold alF
  split <;> rfl
theorem isI_lo {i : Int} (h : i < 0) : isI i = false := by unfold isI; simp; omega
theorem isI_hi {i : Int} (h : 32 ≤ i) : isI i = false := by unfold isI; simp; omega
theorem isI_in {i : Int} (h : ¬ i < 0) (h2 : i < 32) : isI i = true := by unfold isI; simp; omega
set_option maxHeartbeats 16000000 in
set_option maxRecDepth 100000 in
theorem plays_walk (n0 : Int) (a0 : Option Addr) (len cap : Nat) (w : World) (hlen : len ≤ 9223372036854775807) (hd : DeedsAt w a0 len) :
    Calls Try.prog 3 #[.int .i64 n0, .slice a0 len cap] w fun e w' => e = .returned (.bool true) ∧ Below w.heap.size w w' := by
  have HD : Hid (DeedsAt w a0 len) := hd
  clear hd
  obtain ⟨N, hN, hN1, hN2⟩ : ∃ N : Nat, max 13 (min n0 60) = (N : Int) ∧ 13 ≤ N ∧ N ≤ 60 := ⟨(max 13 (min n0 60)).toNat, by omega, by omega, by omega⟩
  have hP := pair_at N w (by omega) (by omega)
  go_enter Try.func3, Try.ntmps3
  go_wp2_with fail
  refine hP.mono ?_
  rintro e w1 ⟨B, bx, rfl, ⟨G, gx, hpr⟩, hb1⟩
  have HT : Hid (TwAt w w1 B G bx gx (F0 N) (F0 N) (2000 + 5000 * 0) (2000 + 5000 * 0)) := ⟨hpr.fs, hpr.es, hpr.lo, hb1⟩
  have HLo : Hid (w.heap.size ≤ B ∧ w.heap.size ≤ G ∧ B < bx ∧ G < bx ∧ bx < gx) := hpr.lo
  have HN0 : Hid ((F0 N).n ≤ 64) := by show N ≤ 64; omega
  clear hpr hb1 hP hN
  go_wp2
  go_loopw [8] (fun s wr => ∃ (k : Nat) (F : FS), k ≤ len ∧ k ≤ 80 ∧ s = .int .i64 k ∧ TwAt w wr B G bx gx F F (2000 + 5000 * k) (2000 + 5000 * k) ∧ Hid (F.n ≤ 64)) (fun s _ => 80 - (intOf s).toNat)
  case atStart => exact ⟨0, F0 N, by omega, by omega, rfl, HT.out, HN0⟩
  case round =>
    clear HT HN0 hN1 hN2
    obtain ⟨k, F, hkl, hk2, rfl, hS, H64⟩ := hrel
    by_cases hlt : k < len ∧ k < 80
    · obtain ⟨hl1, hl2⟩ := hlt
      have ik : (k : Int) < (len : Int) := by omega
      obtain ⟨gb, off, d, rfl, hft, hrg⟩ := HD.out.below hS.old k hl1
      obtain ⟨kd, i, o, n, s⟩ := d
      have HFt : Hid (Deed.Fit ⟨kd, i, o, n, s⟩) := hft
      have HRg : Hid _ := hrg
      obtain ⟨R, hR⟩ : ∃ R, R = deedRow ⟨kd, i, o, n, s⟩ := ⟨_, rfl⟩
      rw [← hR] at HRg
      obtain ⟨W, hW⟩ : ∃ W, W = wr.alloc (.cells R 28) := ⟨_, rfl⟩
      have hbW : Below wr.heap.size wr W := by rw [hW]; exact below_alloc _ _
      obtain ⟨D, hDn⟩ : ∃ D, D = wr.heap.size := ⟨_, rfl⟩
      have HX : Hid (DBox W D ⟨kd, i, o, n, s⟩) := by rw [hW, hDn, hR]; exact heap_alloc_new _ _
      have HDg : Hid (D ≠ B ∧ D ≠ G ∧ D ≠ bx ∧ D ≠ gx) := by
        obtain ⟨cap', vs', hr', _⟩ := hS.es
        have a1 := hr'.lt
        have a2 := hS.lo
        show _ ∧ _
        omega
      have HS : Hid (TwAt w W B G bx gx F F (2000 + 5000 * k) (2000 + 5000 * k)) := hS.below hbW
      have HRs : Hid (R.size = 5) := by rw [hR]; rfl
      have HRo : Hid (R.all (·.oneCell') = true) := by rw [hR]; simp [Hid, Value.oneCell']
      have HW : Hid _ := hW
      have HDn : Hid _ := hDn
      have z3 := lit_zdd
      obtain ⟨c0, c1, c2, c3, c4⟩ := deedCells HX.out
      dsimp only at c0 c1 c2 c3 c4
      clear hft hrg hR hW hbW hDn hS
      go_upto_region 9 with (first
        | (refine wpList_load_mid rfl 28 _ rfl gb (off + k * 5) rfl R.toList _ HRg.out Try.underlying28 rfl (by rw [Array.length_toList, HRs.out]; kernel_rfl) ?_)
        | (refine wpList_store_row rfl 28 _ _ rfl wr.heap.size R rfl rfl 28 zdd (heap_alloc_new _ _) (by rw [HRs.out]; kernel_rfl) (by rw [HRs.out]; rfl) HRo.out ?_; rw [setRow_alloc_new, ← HW.out, ← HDn.out])
        | fail)
      clear HW HDn HRg z3 HRs HRo HD
      simp only [Act.put]
      go_cut [10] (fun s10 wc => s10 = .bool (isI i) ∧ wc = W)
      case first => as_aux_lemma =>
          by_cases h0 : i < 0
          · have e0 := isI_lo h0
            have h0' : ¬ 0 ≤ i := by omega
            go_wp2_with fail
            go_meet
            case rel => exact ⟨by rw [e0], rfl⟩
          · by_cases h1 : i < 32
            · have e0 := isI_in h0 h1
              go_wp2_with fail
              go_meet
              case rel => exact ⟨by rw [e0], rfl⟩
            · have e0 := isI_hi (i := i) (by omega)
              go_wp2_with fail
              go_meet
              case rel => exact ⟨by rw [e0], rfl⟩
      case rest =>
        obtain ⟨rfl, rfl⟩ := hcut
        go_upto_region 10 with fail
        go_cut [10, 73] (fun _ s73 wd => ∃ b : Bool, s73 = .bool b ∧ TwAt w wd B G bx gx F F (2000 + 5000 * k) (2000 + 5000 * k + 100) ∧ DBox wd D ⟨kd, i, o, n, s⟩ ∧ Hid (b = false → 0 < kd → isI i = true → Bi.bt F.iw i.toNat = true))
        case first => as_aux_lemma =>
            by_cases hk0 : 0 < kd
            · cases hI : isI i with
              | true =>
                have hU := r_used HS.out.es (by omega) HS.out.fs.inv i hI
                go_wp2_with fail
                refine hU.mono ?_
                rintro e w3 ⟨rfl, he, hu3⟩
                have HJ : Hid (TwAt w w3 B G bx gx F F (2000 + 5000 * k) (2000 + 5000 * k + 100) ∧ DBox w3 D ⟨kd, i, o, n, s⟩) := ⟨HS.out.ref he hu3, HX.out.keep hu3 HDg.out.2.2.1 HDg.out.2.2.2⟩
                clear hU he hu3
                go_wp2_with fail
                go_meet
                case rel => exact ⟨_, rfl, HJ.out.1, HJ.out.2, fun hb _ _ => by simpa using hb⟩
              | false =>
                go_wp2_with fail
                go_meet
                case rel => exact ⟨false, rfl, HS.out.mono (by omega) (by omega), HX.out, fun _ _ h => by first | (rw [hI] at h; cases h) | cases h⟩
            · go_wp2_with fail
              go_meet
              case rel => exact ⟨false, rfl, HS.out.mono (by omega) (by omega), HX.out, fun _ h => absurd h (by omega)⟩
        case rest =>
          clear c0 c1 c2 c3 c4 HS HX
          obtain ⟨b, rfl, hS, hX, HU⟩ := hcut
          obtain ⟨c0, c1, c2, c3, c4⟩ := deedCells hX
          dsimp only at c0 c1 c2 c3 c4
          cases b with
          | true =>
            have HS2 : Hid (TwAt w wc B G bx gx F F (2000 + 5000 * k) (2000 + 5000 * k + 100)) := hS
            clear hS hX
            go_wp2
            go_roundw
            case rel => exact ⟨k + 1, F, by omega, by omega, by go_num, HS2.out.mono (by omega) (by omega), H64⟩
            case measure => simp [intOf]; omega
          | false =>
            have HU2 : Hid (0 < kd → isI i = true → Bi.bt F.iw i.toNat = true) := HU.out rfl
            have HS2 : Hid (TwAt w wc B G bx gx F F (2000 + 5000 * k) (2000 + 5000 * k + 100)) := hS
            have HX2 : Hid (DBox wc D ⟨kd, i, o, n, s⟩) := hX
            clear HU hS hX
            by_cases hfz : kd = 1 ∧ i = 0
            · obtain ⟨rfl, rfl⟩ := hfz
              go_wp2
              go_roundw
              case rel => exact ⟨k + 1, F, by omega, by omega, by go_num, HS2.out.mono (by omega) (by omega), H64⟩
              case measure => simp [intOf]; omega
            · have HFz : Hid (¬ (kd = 1 ∧ i = 0)) := hfz
              clear hfz
              go_upto_block 2 with fail
              go_cut [11] (fun s11 wd => s11 = .bool true ∧ ∃ F' : FS, TwAt w wd B G bx gx F' F' (2000 + 5000 * k + 2000) (2000 + 5000 * k + 2100) ∧ Hid (F'.n ≤ 64))
              case first =>
                have kinds : (kd == 0) = true ∨ ((kd == 0) = false ∧ (kd == 1) = true) ∨ ((kd == 0) = false ∧ (kd == 1) = false ∧ (kd == 2) = true) ∨ ((kd == 0) = false ∧ (kd == 1) = false ∧ (kd == 2) = false ∧ (kd == 3) = true) ∨ ((kd == 0) = false ∧ (kd == 1) = false ∧ (kd == 2) = false ∧ (kd == 3) = false ∧ (kd == 4) = true) ∨ ((kd == 0) = false ∧ (kd == 1) = false ∧ (kd == 2) = false ∧ (kd == 3) = false ∧ (kd == 4) = false) := by
                  simp only [beq_iff_eq, beq_eq_false_iff_ne]
                  omega
                have hdr : Below wc.heap.size wc wc.drew := (Below.refl _ _).drew
                have HSd : Hid (TwAt w wc.drew B G bx gx F F (2000 + 5000 * k) (2000 + 5000 * k + 100)) := HS2.out.below hdr
                have HXd : Hid (DBox wc.drew D ⟨kd, i, o, n, s⟩) := HX2.out.below hdr
                have HI : Hid (FInv F) := HS2.out.fs.inv
                clear hdr
                rcases kinds with k0 | ⟨k0, k1⟩ | ⟨k0, k1, k2⟩ | ⟨k0, k1, k2, k3⟩ | ⟨k0, k1, k2, k3, k4⟩ | ⟨k0, k1, k2, k3, k4⟩
                · as_aux_lemma =>
                    obtain ⟨z, hz1, hzb⟩ := and_bit1 n
                    have hkv : Fit (1 + (z : Int)) := ⟨by omega, by omega⟩
                    have hC := alloc_all HS2.out.fs (by omega) (1 + (z : Int)) hkv
                    have HKv : Hid (Fit (1 + (z : Int))) := hkv
                    obtain ⟨x1, hx1⟩ : ∃ x, x = alI F := ⟨_, rfl⟩
                    obtain ⟨x2, hx2⟩ : ∃ x, x = alR F := ⟨_, rfl⟩
                    have HXq : Hid (x1 = alI F ∧ x2 = alR F) := ⟨hx1, hx2⟩
                    rw [← hx1, ← hx2] at hC
                    clear hkv hx1 hx2
                    go_wp2_with fail
                    refine hC.mono ?_
                    rintro e w3 ⟨rfl, hf, hbg⟩
                    have hT3 := HS2.out.code hf hbg
                    have hX3 := HX2.out.keep hbg HDg.out.1 HDg.out.2.1
                    have hR := r_alloc hT3.es (by omega) HI.out (1 + (z : Int)) HKv.out
                    rw [← HXq.out.1, ← HXq.out.2] at hR
                    obtain ⟨-, -, -, f3, -⟩ := deedCells hX3
                    dsimp only at f3
                    have HT3 : Hid (TwAt w w3 B G bx gx (alF F (1 + (z : Int))) F (2000 + 5000 * k + 2000) (2000 + 5000 * k + 100)) := hT3
                    clear hC hf hbg hT3 hX3 c0 c1 c2 c3 c4
                    go_wp2_with fail
                    refine hR.mono ?_
                    rintro e w4 ⟨rfl, he, hbg⟩
                    have HT4 : Hid (TwAt w w4 B G bx gx (alF F (1 + (z : Int))) (alF F (1 + (z : Int))) (2000 + 5000 * k + 2000) (2000 + 5000 * k + 2100)) := HT3.out.ref he hbg
                    clear hR he hbg HT3 f3
                    go_wp2
                    go_meet
                    case rel => exact ⟨rfl, _, HT4.out, by rw [al_n]; exact H64.out⟩
                · as_aux_lemma =>
                    have hu : isI i = true → Bi.bt F.iw i.toNat = true := HU2.out (by simp only [beq_iff_eq] at k1; omega)
                    have hne : i ≠ 0 := fun e => HFz.out ⟨by simpa using k1, e⟩
                    have hne2 : (i == 0) = false := by simpa using hne
                    go_wp2_with fail
                    refine wp_region_held_drew (S := fun w' => w'.cell? ⟨D, 1, none⟩ = some (.int .i64 i)) (by kernel_rfl) c1 (fun hHeld => ?_)
                    refine wpAnyH_take (i := 0) (v := ?_) rfl (by kernel_rfl) (by kernel_rfl) (by kernel_rfl) (fun _ _ _ h => h) (Or.inl ⟨by kernel_rfl, ?_⟩) (by assumption) ?_
                    rotate_left
                    · (intro w hSw; (try dsimp only at hSw); go_simp) <;> with_reducible rfl
                    (try simp only [Act.put, List.getElem_toArray, List.getElem_cons_zero, List.setIfInBounds_toArray, List.set_cons_zero, List.set_cons_succ])
                    refine wpAnyH_take (i := 1) (v := ?_) rfl (by kernel_rfl) (by kernel_rfl) (by kernel_rfl) (fun _ _ _ h => h) (Or.inl ⟨by kernel_rfl, ?_⟩) (by assumption) ?_
                    rotate_left
                    · (intro w hSw; (try dsimp only at hSw); go_simp) <;> with_reducible rfl
                    (try simp only [Act.put, List.getElem_toArray, List.getElem_cons_zero, List.getElem_cons_succ, List.setIfInBounds_toArray, List.set_cons_zero, List.set_cons_succ])
                    refine wpAnyH_take (i := 2) (v := ?_) rfl (by kernel_rfl) (by kernel_rfl) (by kernel_rfl) (fun _ _ _ h => h) (Or.inl ⟨by kernel_rfl, ?_⟩) (by assumption) ?_
                    rotate_left
                    · (intro w hSw; (try dsimp only at hSw); go_simp) <;> with_reducible rfl
                    (try simp only [Act.put, List.getElem_toArray, List.getElem_cons_zero, List.getElem_cons_succ, List.setIfInBounds_toArray, List.set_cons_zero, List.set_cons_succ])
                    refine wpAnyH_take (i := 3) (v := ?_) rfl (by kernel_rfl) (by kernel_rfl) (by kernel_rfl) (fun _ _ _ h => h) (Or.inl ⟨by kernel_rfl, ?_⟩) (by assumption) ?_
                    rotate_left
                    · (intro w hSw; (try dsimp only at hSw); go_simp) <;> with_reducible rfl
                    (try simp only [Act.put, List.getElem_toArray, List.getElem_cons_zero, List.getElem_cons_succ, List.setIfInBounds_toArray, List.set_cons_zero, List.set_cons_succ])
                    refine wpAnyH_take (i := 5) (v := ?_) rfl (by kernel_rfl) (by kernel_rfl) (by kernel_rfl) (fun _ _ _ h => h) (Or.inl ⟨by kernel_rfl, ?_⟩) (by assumption) ?_
                    rotate_left
                    · (intro w hSw; (try dsimp only at hSw); go_simp) <;> with_reducible rfl
                    (try simp only [Act.put, List.getElem_toArray, List.getElem_cons_zero, List.getElem_cons_succ, List.setIfInBounds_toArray, List.set_cons_zero, List.set_cons_succ])
                    refine wpAnyH_take (i := 6) (v := ?_) rfl (by kernel_rfl) (by kernel_rfl) (by kernel_rfl) (fun _ _ _ h => h) (Or.inl ⟨by kernel_rfl, ?_⟩) (by assumption) ?_
                    rotate_left
                    · (intro w hSw; (try dsimp only at hSw); go_simp) <;> with_reducible rfl
                    (try simp only [Act.put, List.getElem_toArray, List.getElem_cons_zero, List.getElem_cons_succ, List.setIfInBounds_toArray, List.set_cons_zero, List.set_cons_succ])
                    refine wpAnyH_take (i := 7) (v := ?_) rfl (by kernel_rfl) (by kernel_rfl) (by kernel_rfl) (fun _ _ _ h => h) (Or.inl ⟨by kernel_rfl, ?_⟩) (by assumption) ?_
                    rotate_left
                    · (intro w hSw; (try dsimp only at hSw); go_simp) <;> with_reducible rfl
                    (try simp only [Act.put, List.getElem_toArray, List.getElem_cons_zero, List.getElem_cons_succ, List.setIfInBounds_toArray, List.set_cons_zero, List.set_cons_succ])
                    clear c0 c1 c2 c3 c4
                    refine wpAnyH_ready (rs := [4]) (by kernel_rfl) (by simp) ?_
                    refine AllReadyH.cons rfl (fun K hK => ?_) AllReadyH.nil
                    go_simp
                    refine (c_free HSd.out.fs (by omega) i hne hu).mono ?_
                    rintro e w3 ⟨rfl, hf, hbg⟩
                    have hT3 := HSd.out.code hf hbg
                    have hX3 : DBox w3 D ⟨kd, i, o, n, s⟩ := HXd.out.keep hbg HDg.out.1 HDg.out.2.1
                    obtain ⟨-, f1, -, -, -⟩ := deedCells hX3
                    dsimp only at f1
                    have hC2 := r_free hT3.es (by omega) HI.out H64.out i hu
                    have HX3 : Hid (DBox w3 D ⟨kd, i, o, n, s⟩) := hX3
                    have HT3 : Hid (TwAt w w3 B G bx gx (frB F i) F (2000 + 5000 * k + 2000) (2000 + 5000 * k + 100)) := hT3.mono (by omega) (by omega)
                    clear hf hbg hT3 hX3
                    refine hK.out _ _ f1 (fun hHeld => ?_)
                    clear hK K
                    (try simp only [Act.put, List.getElem_toArray, List.getElem_cons_zero, List.getElem_cons_succ, List.setIfInBounds_toArray, List.set_cons_zero, List.set_cons_succ])
                    refine wpAnyH_ready (rs := [8]) (by kernel_rfl) (by simp) ?_
                    refine AllReadyH.cons rfl (fun K hK => ?_) AllReadyH.nil
                    go_simp
                    refine hC2.mono ?_
                    rintro e w4 ⟨rfl, hf, hbg⟩
                    have HT4 : Hid (TwAt w w4 B G bx gx (frB F i) (frB F i) (2000 + 5000 * k + 2000) (2000 + 5000 * k + 2100)) := (HT3.out.ref hf hbg).mono (by omega) (by omega)
                    have hX4 : DBox w4 D ⟨kd, i, o, n, s⟩ := HX3.out.keep hbg HDg.out.2.2.1 HDg.out.2.2.2
                    clear f1
                    obtain ⟨-, f1, -, -, -⟩ := deedCells hX4
                    dsimp only at f1
                    clear hC2 hf hbg hX4 HT3 HX3
                    refine hK.out _ _ f1 (fun hHeld => ?_)
                    clear hK K
                    (try simp only [Act.put, List.getElem_toArray, List.getElem_cons_zero, List.getElem_cons_succ, List.setIfInBounds_toArray, List.set_cons_zero, List.set_cons_succ])
                    refine wpAnyH_take (i := 9) (v := ?_) rfl (by kernel_rfl) (by kernel_rfl) (by kernel_rfl) (fun _ _ _ h => h) (Or.inl ⟨by kernel_rfl, ?_⟩) (by assumption) ?_
                    rotate_left
                    · (intro w hSw; (try dsimp only at hSw); go_simp) <;> with_reducible rfl
                    (try simp only [Act.put, List.getElem_toArray, List.getElem_cons_zero, List.getElem_cons_succ, List.setIfInBounds_toArray, List.set_cons_zero, List.set_cons_succ])
                    refine wpAnyH_take (i := 10) (v := ?_) rfl (by kernel_rfl) (by kernel_rfl) (by kernel_rfl) (fun _ _ _ h => h) (Or.inl ⟨by kernel_rfl, ?_⟩) (by assumption) ?_
                    rotate_left
                    · (intro w hSw; (try dsimp only at hSw); go_simp) <;> with_reducible rfl
                    (try simp only [Act.put, List.getElem_toArray, List.getElem_cons_zero, List.getElem_cons_succ, List.setIfInBounds_toArray, List.set_cons_zero, List.set_cons_succ])
                    refine wpAnyH_done (by kernel_rfl) ?_ _
                    clear hHeld f1
                    go_wp2
                    go_meet
                    case rel => exact ⟨rfl, _, HT4.out, by rw [fr_n]; exact H64.out⟩
                · as_aux_lemma =>
                    have hC := read_all HS2.out.fs (by omega) i o n (by have q : I64 o := HFt.out.off; unfold I64 at q; omega) (by have q : I64 n := HFt.out.n; unfold I64 at q; omega)
                    obtain ⟨T, hT⟩ : ∃ x, x = rdT F i o n := ⟨_, rfl⟩
                    obtain ⟨x2, hx2⟩ : ∃ x, x = rdR i o n := ⟨_, rfl⟩
                    have HXq : Hid (T = rdT F i o n ∧ x2 = rdR i o n) := ⟨hT, hx2⟩
                    rw [← hT, ← hx2] at hC
                    have hts := tx_same T
                    clear hT hx2
                    go_wp2_with fail
                    refine hC.mono ?_
                    rintro e w3 ⟨rfl, hf, hbg⟩
                    have hT3 := HS2.out.code hf hbg
                    have hX3 := HX2.out.keep hbg HDg.out.1 HDg.out.2.1
                    have hR := r_read hT3.es (by omega) HI.out i o n (by have q : I64 o := HFt.out.off; unfold I64 at q; omega) (by have q : I64 n := HFt.out.n; unfold I64 at q; omega)
                    rw [← HXq.out.1, ← HXq.out.2] at hR
                    obtain ⟨-, f1, f2, f3, -⟩ := deedCells hX3
                    dsimp only at f1 f2 f3
                    have HT3 : Hid (TwAt w w3 B G bx gx F F (2000 + 5000 * k + 2000) (2000 + 5000 * k + 100)) := hT3
                    clear hC hf hbg hT3 hX3 c0 c1 c2 c3 c4
                    go_wp2_with fail
                    refine hR.mono ?_
                    rintro e w4 ⟨rfl, he, hbg⟩
                    have HT4 : Hid (TwAt w w4 B G bx gx F F (2000 + 5000 * k + 2000) (2000 + 5000 * k + 2100)) := HT3.out.ref he hbg
                    clear hR he hbg HT3 f1 f2 f3
                    go_wp2
                    go_meet
                    case rel => exact ⟨rfl, _, HT4.out, H64⟩
                · as_aux_lemma =>
                    have hu : isI i = true → Bi.bt F.iw i.toNat = true := HU2.out (by simp only [beq_iff_eq] at k3; omega)
                    go_wp2_with fail
                    refine wp_region_held_drew (S := fun w' => w'.cell? ⟨D, 1, none⟩ = some (.int .i64 i) ∧ w'.cell? ⟨D, 2, none⟩ = some (.int .i64 o) ∧ w'.cell? ⟨D, 4, none⟩ = some (tx s)) (by kernel_rfl) ⟨c1, c2, c4⟩ (fun hHeld => ?_)
                    refine wpAnyH_take (i := 0) (v := ?_) rfl (by kernel_rfl) (by kernel_rfl) (by kernel_rfl) (fun _ _ _ h => h) (Or.inl ⟨by kernel_rfl, ?_⟩) (by assumption) ?_
                    rotate_left
                    · (intro w hSw; (try dsimp only at hSw); go_simp) <;> with_reducible rfl
                    (try simp only [Act.put, List.getElem_toArray, List.getElem_cons_zero, List.setIfInBounds_toArray, List.set_cons_zero, List.set_cons_succ])
                    refine wpAnyH_take (i := 1) (v := ?_) rfl (by kernel_rfl) (by kernel_rfl) (by kernel_rfl) (fun _ _ _ h => h) (Or.inl ⟨by kernel_rfl, ?_⟩) (by assumption) ?_
                    rotate_left
                    · (intro w hSw; (try dsimp only at hSw); go_simp) <;> with_reducible rfl
                    (try simp only [Act.put, List.getElem_toArray, List.getElem_cons_zero, List.getElem_cons_succ, List.setIfInBounds_toArray, List.set_cons_zero, List.set_cons_succ])
                    refine wpAnyH_take (i := 2) (v := ?_) rfl (by kernel_rfl) (by kernel_rfl) (by kernel_rfl) (fun _ _ _ h => h) (Or.inl ⟨by kernel_rfl, ?_⟩) (by assumption) ?_
                    rotate_left
                    · (intro w hSw; (try dsimp only at hSw); go_simp) <;> with_reducible rfl
                    (try simp only [Act.put, List.getElem_toArray, List.getElem_cons_zero, List.getElem_cons_succ, List.setIfInBounds_toArray, List.set_cons_zero, List.set_cons_succ])
                    refine wpAnyH_take (i := 3) (v := ?_) rfl (by kernel_rfl) (by kernel_rfl) (by kernel_rfl) (fun _ _ _ h => h) (Or.inl ⟨by kernel_rfl, ?_⟩) (by assumption) ?_
                    rotate_left
                    · (intro w hSw; (try dsimp only at hSw); go_simp) <;> with_reducible rfl
                    (try simp only [Act.put, List.getElem_toArray, List.getElem_cons_zero, List.getElem_cons_succ, List.setIfInBounds_toArray, List.set_cons_zero, List.set_cons_succ])
                    refine wpAnyH_take (i := 4) (v := ?_) rfl (by kernel_rfl) (by kernel_rfl) (by kernel_rfl) (fun _ _ _ h => h) (Or.inl ⟨by kernel_rfl, ?_⟩) (by assumption) ?_
                    rotate_left
                    · (intro w hSw; (try dsimp only at hSw); go_simp) <;> with_reducible rfl
                    (try simp only [Act.put, List.getElem_toArray, List.getElem_cons_zero, List.getElem_cons_succ, List.setIfInBounds_toArray, List.set_cons_zero, List.set_cons_succ])
                    refine wpAnyH_take (i := 5) (v := ?_) rfl (by kernel_rfl) (by kernel_rfl) (by kernel_rfl) (fun _ _ _ h => h) (Or.inl ⟨by kernel_rfl, ?_⟩) (by assumption) ?_
                    rotate_left
                    · (intro w hSw; (try dsimp only at hSw); go_simp) <;> with_reducible rfl
                    (try simp only [Act.put, List.getElem_toArray, List.getElem_cons_zero, List.getElem_cons_succ, List.setIfInBounds_toArray, List.set_cons_zero, List.set_cons_succ])
                    refine wpAnyH_take (i := 6) (v := ?_) rfl (by kernel_rfl) (by kernel_rfl) (by kernel_rfl) (fun _ _ _ h => h) (Or.inl ⟨by kernel_rfl, ?_⟩) (by assumption) ?_
                    rotate_left
                    · (intro w hSw; (try dsimp only at hSw); go_simp) <;> with_reducible rfl
                    (try simp only [Act.put, List.getElem_toArray, List.getElem_cons_zero, List.getElem_cons_succ, List.setIfInBounds_toArray, List.set_cons_zero, List.set_cons_succ])
                    refine wpAnyH_take (i := 7) (v := ?_) rfl (by kernel_rfl) (by kernel_rfl) (by kernel_rfl) (fun _ _ _ h => h) (Or.inl ⟨by kernel_rfl, ?_⟩) (by assumption) ?_
                    rotate_left
                    · (intro w hSw; (try dsimp only at hSw); go_simp) <;> with_reducible rfl
                    (try simp only [Act.put, List.getElem_toArray, List.getElem_cons_zero, List.getElem_cons_succ, List.setIfInBounds_toArray, List.set_cons_zero, List.set_cons_succ])
                    refine wpAnyH_take (i := 9) (v := ?_) rfl (by kernel_rfl) (by kernel_rfl) (by kernel_rfl) (fun _ _ _ h => h) (Or.inl ⟨by kernel_rfl, ?_⟩) (by assumption) ?_
                    rotate_left
                    · (intro w hSw; (try dsimp only at hSw); go_simp) <;> with_reducible rfl
                    (try simp only [Act.put, List.getElem_toArray, List.getElem_cons_zero, List.getElem_cons_succ, List.setIfInBounds_toArray, List.set_cons_zero, List.set_cons_succ])
                    refine wpAnyH_take (i := 10) (v := ?_) rfl (by kernel_rfl) (by kernel_rfl) (by kernel_rfl) (fun _ _ _ h => h) (Or.inl ⟨by kernel_rfl, ?_⟩) (by assumption) ?_
                    rotate_left
                    · (intro w hSw; (try dsimp only at hSw); go_simp) <;> with_reducible rfl
                    (try simp only [Act.put, List.getElem_toArray, List.getElem_cons_zero, List.getElem_cons_succ, List.setIfInBounds_toArray, List.set_cons_zero, List.set_cons_succ])
                    refine wpAnyH_take (i := 11) (v := ?_) rfl (by kernel_rfl) (by kernel_rfl) (by kernel_rfl) (fun _ _ _ h => h) (Or.inl ⟨by kernel_rfl, ?_⟩) (by assumption) ?_
                    rotate_left
                    · (intro w hSw; (try dsimp only at hSw); go_simp) <;> with_reducible rfl
                    (try simp only [Act.put, List.getElem_toArray, List.getElem_cons_zero, List.getElem_cons_succ, List.setIfInBounds_toArray, List.set_cons_zero, List.set_cons_succ])
                    refine wpAnyH_take (i := 12) (v := ?_) rfl (by kernel_rfl) (by kernel_rfl) (by kernel_rfl) (fun _ _ _ h => h) (Or.inl ⟨by kernel_rfl, ?_⟩) (by assumption) ?_
                    rotate_left
                    · (intro w hSw; (try dsimp only at hSw); go_simp) <;> with_reducible rfl
                    (try simp only [Act.put, List.getElem_toArray, List.getElem_cons_zero, List.getElem_cons_succ, List.setIfInBounds_toArray, List.set_cons_zero, List.set_cons_succ])
                    refine wpAnyH_take (i := 13) (v := ?_) rfl (by kernel_rfl) (by kernel_rfl) (by kernel_rfl) (fun _ _ _ h => h) (Or.inl ⟨by kernel_rfl, ?_⟩) (by assumption) ?_
                    rotate_left
                    · (intro w hSw; (try dsimp only at hSw); go_simp) <;> with_reducible rfl
                    (try simp only [Act.put, List.getElem_toArray, List.getElem_cons_zero, List.getElem_cons_succ, List.setIfInBounds_toArray, List.set_cons_zero, List.set_cons_succ])
                    refine wpAnyH_take (i := 14) (v := ?_) rfl (by kernel_rfl) (by kernel_rfl) (by kernel_rfl) (fun _ _ _ h => h) (Or.inl ⟨by kernel_rfl, ?_⟩) (by assumption) ?_
                    rotate_left
                    · (intro w hSw; (try dsimp only at hSw); go_simp) <;> with_reducible rfl
                    (try simp only [Act.put, List.getElem_toArray, List.getElem_cons_zero, List.getElem_cons_succ, List.setIfInBounds_toArray, List.set_cons_zero, List.set_cons_succ])
                    refine wpAnyH_take (i := 15) (v := ?_) rfl (by kernel_rfl) (by kernel_rfl) (by kernel_rfl) (fun _ _ _ h => h) (Or.inl ⟨by kernel_rfl, ?_⟩) (by assumption) ?_
                    rotate_left
                    · (intro w hSw; (try dsimp only at hSw); go_simp) <;> with_reducible rfl
                    (try simp only [Act.put, List.getElem_toArray, List.getElem_cons_zero, List.getElem_cons_succ, List.setIfInBounds_toArray, List.set_cons_zero, List.set_cons_succ])
                    clear c0 c1 c2 c3 c4
                    refine wpAnyH_ready (rs := [8]) (by kernel_rfl) (by simp) ?_
                    refine AllReadyH.cons rfl (fun K hK => ?_) AllReadyH.nil
                    go_simp
                    refine (c_write HSd.out.fs (by omega) i o s HFt.out.s hu).mono ?_
                    rintro e w3 ⟨rfl, hf, hbg⟩
                    have hT3 := HSd.out.code hf hbg
                    have hX3 : DBox w3 D ⟨kd, i, o, n, s⟩ := HXd.out.keep hbg HDg.out.1 HDg.out.2.1
                    obtain ⟨-, f1, f2, -, f4⟩ := deedCells hX3
                    dsimp only at f1 f2 f4
                    have hC2 := r_write hT3.es (by omega) HI.out H64.out i o (by have q : I64 o := HFt.out.off; unfold I64 at q; omega) s HFt.out.s hu
                    have HX3 : Hid (DBox w3 D ⟨kd, i, o, n, s⟩) := hX3
                    have HT3 : Hid (TwAt w w3 B G bx gx (wrB F i o s) F (2000 + 5000 * k + 2000) (2000 + 5000 * k + 100)) := hT3.mono (by omega) (by omega)
                    clear hf hbg hT3 hX3
                    refine hK.out _ _ ⟨f1, f2, f4⟩ (fun hHeld => ?_)
                    clear hK K
                    (try simp only [Act.put, List.getElem_toArray, List.getElem_cons_zero, List.getElem_cons_succ, List.setIfInBounds_toArray, List.set_cons_zero, List.set_cons_succ])
                    refine wpAnyH_ready (rs := [16]) (by kernel_rfl) (by simp) ?_
                    refine AllReadyH.cons rfl (fun K hK => ?_) AllReadyH.nil
                    go_simp
                    refine hC2.mono ?_
                    rintro e w4 ⟨rfl, hf, hbg⟩
                    have HT4 : Hid (TwAt w w4 B G bx gx (wrB F i o s) (wrB F i o s) (2000 + 5000 * k + 2000) (2000 + 5000 * k + 2100)) := (HT3.out.ref hf hbg).mono (by omega) (by omega)
                    have hX4 : DBox w4 D ⟨kd, i, o, n, s⟩ := HX3.out.keep hbg HDg.out.2.2.1 HDg.out.2.2.2
                    clear f1 f2 f4
                    obtain ⟨-, f1, f2, -, f4⟩ := deedCells hX4
                    dsimp only at f1 f2 f4
                    clear hC2 hf hbg hX4 HT3 HX3
                    refine hK.out _ _ ⟨f1, f2, f4⟩ (fun hHeld => ?_)
                    clear hK K
                    (try simp only [Act.put, List.getElem_toArray, List.getElem_cons_zero, List.getElem_cons_succ, List.setIfInBounds_toArray, List.set_cons_zero, List.set_cons_succ])
                    refine wpAnyH_take (i := 17) (v := ?_) rfl (by kernel_rfl) (by kernel_rfl) (by kernel_rfl) (fun _ _ _ h => h) (Or.inl ⟨by kernel_rfl, ?_⟩) (by assumption) ?_
                    rotate_left
                    · (intro w hSw; (try dsimp only at hSw); go_simp) <;> with_reducible rfl
                    (try simp only [Act.put, List.getElem_toArray, List.getElem_cons_zero, List.getElem_cons_succ, List.setIfInBounds_toArray, List.set_cons_zero, List.set_cons_succ])
                    refine wpAnyH_take (i := 18) (v := ?_) rfl (by kernel_rfl) (by kernel_rfl) (by kernel_rfl) (fun _ _ _ h => h) (Or.inl ⟨by kernel_rfl, ?_⟩) (by assumption) ?_
                    rotate_left
                    · (intro w hSw; (try dsimp only at hSw); go_simp) <;> with_reducible rfl
                    (try simp only [Act.put, List.getElem_toArray, List.getElem_cons_zero, List.getElem_cons_succ, List.setIfInBounds_toArray, List.set_cons_zero, List.set_cons_succ])
                    refine wpAnyH_done (by kernel_rfl) ?_ _
                    clear hHeld f1 f2 f4
                    go_wp2
                    go_meet
                    case rel => exact ⟨rfl, _, HT4.out, by rw [wr_n]; exact H64.out⟩
                · as_aux_lemma =>
                    have hu : isI i = true → Bi.bt F.iw i.toNat = true := HU2.out (by simp only [beq_iff_eq] at k4; omega)
                    go_wp2_with fail
                    refine wp_region_held_drew (S := fun w' => w'.cell? ⟨D, 1, none⟩ = some (.int .i64 i) ∧ w'.cell? ⟨D, 3, none⟩ = some (.int .i64 n)) (by kernel_rfl) ⟨c1, c3⟩ (fun hHeld => ?_)
                    refine wpAnyH_take (i := 0) (v := ?_) rfl (by kernel_rfl) (by kernel_rfl) (by kernel_rfl) (fun _ _ _ h => h) (Or.inl ⟨by kernel_rfl, ?_⟩) (by assumption) ?_
                    rotate_left
                    · (intro w hSw; (try dsimp only at hSw); go_simp) <;> with_reducible rfl
                    (try simp only [Act.put, List.getElem_toArray, List.getElem_cons_zero, List.setIfInBounds_toArray, List.set_cons_zero, List.set_cons_succ])
                    refine wpAnyH_take (i := 1) (v := ?_) rfl (by kernel_rfl) (by kernel_rfl) (by kernel_rfl) (fun _ _ _ h => h) (Or.inl ⟨by kernel_rfl, ?_⟩) (by assumption) ?_
                    rotate_left
                    · (intro w hSw; (try dsimp only at hSw); go_simp) <;> with_reducible rfl
                    (try simp only [Act.put, List.getElem_toArray, List.getElem_cons_zero, List.getElem_cons_succ, List.setIfInBounds_toArray, List.set_cons_zero, List.set_cons_succ])
                    refine wpAnyH_take (i := 2) (v := ?_) rfl (by kernel_rfl) (by kernel_rfl) (by kernel_rfl) (fun _ _ _ h => h) (Or.inl ⟨by kernel_rfl, ?_⟩) (by assumption) ?_
                    rotate_left
                    · (intro w hSw; (try dsimp only at hSw); go_simp) <;> with_reducible rfl
                    (try simp only [Act.put, List.getElem_toArray, List.getElem_cons_zero, List.getElem_cons_succ, List.setIfInBounds_toArray, List.set_cons_zero, List.set_cons_succ])
                    refine wpAnyH_take (i := 3) (v := ?_) rfl (by kernel_rfl) (by kernel_rfl) (by kernel_rfl) (fun _ _ _ h => h) (Or.inl ⟨by kernel_rfl, ?_⟩) (by assumption) ?_
                    rotate_left
                    · (intro w hSw; (try dsimp only at hSw); go_simp) <;> with_reducible rfl
                    (try simp only [Act.put, List.getElem_toArray, List.getElem_cons_zero, List.getElem_cons_succ, List.setIfInBounds_toArray, List.set_cons_zero, List.set_cons_succ])
                    refine wpAnyH_take (i := 4) (v := ?_) rfl (by kernel_rfl) (by kernel_rfl) (by kernel_rfl) (fun _ _ _ h => h) (Or.inl ⟨by kernel_rfl, ?_⟩) (by assumption) ?_
                    rotate_left
                    · (intro w hSw; (try dsimp only at hSw); go_simp) <;> with_reducible rfl
                    (try simp only [Act.put, List.getElem_toArray, List.getElem_cons_zero, List.getElem_cons_succ, List.setIfInBounds_toArray, List.set_cons_zero, List.set_cons_succ])
                    refine wpAnyH_take (i := 5) (v := ?_) rfl (by kernel_rfl) (by kernel_rfl) (by kernel_rfl) (fun _ _ _ h => h) (Or.inl ⟨by kernel_rfl, ?_⟩) (by assumption) ?_
                    rotate_left
                    · (intro w hSw; (try dsimp only at hSw); go_simp) <;> with_reducible rfl
                    (try simp only [Act.put, List.getElem_toArray, List.getElem_cons_zero, List.getElem_cons_succ, List.setIfInBounds_toArray, List.set_cons_zero, List.set_cons_succ])
                    refine wpAnyH_take (i := 7) (v := ?_) rfl (by kernel_rfl) (by kernel_rfl) (by kernel_rfl) (fun _ _ _ h => h) (Or.inl ⟨by kernel_rfl, ?_⟩) (by assumption) ?_
                    rotate_left
                    · (intro w hSw; (try dsimp only at hSw); go_simp) <;> with_reducible rfl
                    (try simp only [Act.put, List.getElem_toArray, List.getElem_cons_zero, List.getElem_cons_succ, List.setIfInBounds_toArray, List.set_cons_zero, List.set_cons_succ])
                    refine wpAnyH_take (i := 8) (v := ?_) rfl (by kernel_rfl) (by kernel_rfl) (by kernel_rfl) (fun _ _ _ h => h) (Or.inl ⟨by kernel_rfl, ?_⟩) (by assumption) ?_
                    rotate_left
                    · (intro w hSw; (try dsimp only at hSw); go_simp) <;> with_reducible rfl
                    (try simp only [Act.put, List.getElem_toArray, List.getElem_cons_zero, List.getElem_cons_succ, List.setIfInBounds_toArray, List.set_cons_zero, List.set_cons_succ])
                    refine wpAnyH_take (i := 9) (v := ?_) rfl (by kernel_rfl) (by kernel_rfl) (by kernel_rfl) (fun _ _ _ h => h) (Or.inl ⟨by kernel_rfl, ?_⟩) (by assumption) ?_
                    rotate_left
                    · (intro w hSw; (try dsimp only at hSw); go_simp) <;> with_reducible rfl
                    (try simp only [Act.put, List.getElem_toArray, List.getElem_cons_zero, List.getElem_cons_succ, List.setIfInBounds_toArray, List.set_cons_zero, List.set_cons_succ])
                    refine wpAnyH_take (i := 10) (v := ?_) rfl (by kernel_rfl) (by kernel_rfl) (by kernel_rfl) (fun _ _ _ h => h) (Or.inl ⟨by kernel_rfl, ?_⟩) (by assumption) ?_
                    rotate_left
                    · (intro w hSw; (try dsimp only at hSw); go_simp) <;> with_reducible rfl
                    (try simp only [Act.put, List.getElem_toArray, List.getElem_cons_zero, List.getElem_cons_succ, List.setIfInBounds_toArray, List.set_cons_zero, List.set_cons_succ])
                    refine wpAnyH_take (i := 11) (v := ?_) rfl (by kernel_rfl) (by kernel_rfl) (by kernel_rfl) (fun _ _ _ h => h) (Or.inl ⟨by kernel_rfl, ?_⟩) (by assumption) ?_
                    rotate_left
                    · (intro w hSw; (try dsimp only at hSw); go_simp) <;> with_reducible rfl
                    (try simp only [Act.put, List.getElem_toArray, List.getElem_cons_zero, List.getElem_cons_succ, List.setIfInBounds_toArray, List.set_cons_zero, List.set_cons_succ])
                    clear c0 c1 c2 c3 c4
                    refine wpAnyH_ready (rs := [6]) (by kernel_rfl) (by simp) ?_
                    refine AllReadyH.cons rfl (fun K hK => ?_) AllReadyH.nil
                    go_simp
                    refine (c_resize HSd.out.fs (by omega) i n hu).mono ?_
                    rintro e w3 ⟨rfl, hf, hbg⟩
                    have hT3 := HSd.out.code hf hbg
                    have hX3 : DBox w3 D ⟨kd, i, o, n, s⟩ := HXd.out.keep hbg HDg.out.1 HDg.out.2.1
                    obtain ⟨-, f1, -, f3, -⟩ := deedCells hX3
                    dsimp only at f1 f3
                    have hC2 := r_resize hT3.es (by omega) HI.out H64.out i n hu
                    have HX3 : Hid (DBox w3 D ⟨kd, i, o, n, s⟩) := hX3
                    have HT3 : Hid (TwAt w w3 B G bx gx (rsB F i n) F (2000 + 5000 * k + 2000) (2000 + 5000 * k + 100)) := hT3.mono (by omega) (by omega)
                    clear hf hbg hT3 hX3
                    refine hK.out _ _ ⟨f1, f3⟩ (fun hHeld => ?_)
                    clear hK K
                    (try simp only [Act.put, List.getElem_toArray, List.getElem_cons_zero, List.getElem_cons_succ, List.setIfInBounds_toArray, List.set_cons_zero, List.set_cons_succ])
                    refine wpAnyH_ready (rs := [12]) (by kernel_rfl) (by simp) ?_
                    refine AllReadyH.cons rfl (fun K hK => ?_) AllReadyH.nil
                    go_simp
                    refine hC2.mono ?_
                    rintro e w4 ⟨rfl, hf, hbg⟩
                    have HT4 : Hid (TwAt w w4 B G bx gx (rsB F i n) (rsB F i n) (2000 + 5000 * k + 2000) (2000 + 5000 * k + 2100)) := (HT3.out.ref hf hbg).mono (by omega) (by omega)
                    have hX4 : DBox w4 D ⟨kd, i, o, n, s⟩ := HX3.out.keep hbg HDg.out.2.2.1 HDg.out.2.2.2
                    clear f1 f3
                    obtain ⟨-, f1, -, f3, -⟩ := deedCells hX4
                    dsimp only at f1 f3
                    clear hC2 hf hbg hX4 HT3 HX3
                    refine hK.out _ _ ⟨f1, f3⟩ (fun hHeld => ?_)
                    clear hK K
                    (try simp only [Act.put, List.getElem_toArray, List.getElem_cons_zero, List.getElem_cons_succ, List.setIfInBounds_toArray, List.set_cons_zero, List.set_cons_succ])
                    refine wpAnyH_take (i := 13) (v := ?_) rfl (by kernel_rfl) (by kernel_rfl) (by kernel_rfl) (fun _ _ _ h => h) (Or.inl ⟨by kernel_rfl, ?_⟩) (by assumption) ?_
                    rotate_left
                    · (intro w hSw; (try dsimp only at hSw); go_simp) <;> with_reducible rfl
                    (try simp only [Act.put, List.getElem_toArray, List.getElem_cons_zero, List.getElem_cons_succ, List.setIfInBounds_toArray, List.set_cons_zero, List.set_cons_succ])
                    refine wpAnyH_take (i := 14) (v := ?_) rfl (by kernel_rfl) (by kernel_rfl) (by kernel_rfl) (fun _ _ _ h => h) (Or.inl ⟨by kernel_rfl, ?_⟩) (by assumption) ?_
                    rotate_left
                    · (intro w hSw; (try dsimp only at hSw); go_simp) <;> with_reducible rfl
                    (try simp only [Act.put, List.getElem_toArray, List.getElem_cons_zero, List.getElem_cons_succ, List.setIfInBounds_toArray, List.set_cons_zero, List.set_cons_succ])
                    refine wpAnyH_done (by kernel_rfl) ?_ _
                    clear hHeld f1 f3
                    go_wp2
                    go_meet
                    case rel => exact ⟨rfl, _, HT4.out, by rw [rs_n]; exact H64.out⟩
                · as_aux_lemma =>
                    have hC := get_all HS2.out.fs (by omega) i
                    obtain ⟨xs, hxs⟩ : ∃ x, x = gtX F i := ⟨_, rfl⟩
                    obtain ⟨x2, hx2⟩ : ∃ x, x = gtR i := ⟨_, rfl⟩
                    have HXq : Hid (xs = gtX F i ∧ x2 = gtR i) := ⟨hxs, hx2⟩
                    have hxl : xs.length = 9 := by rw [hxs]; exact gtX_len HI.out i
                    have hsm := ino_same xs hxl
                    obtain ⟨R5, hR5⟩ : ∃ R, R = irow xs := ⟨_, rfl⟩
                    have HR5 : Hid (R5 = irow xs) := hR5
                    have HRs : Hid (R5.size = 9) := by rw [hR5]; show _ = _; rw [irow_size]; exact hxl
                    have HRo : Hid (R5.all (·.oneCell') = true) := by rw [hR5]; exact irow_one _
                    rw [← hxs, ← hx2, ← hR5] at hC
                    rw [← hR5] at hsm
                    have hz := lit_zi
                    clear hxs hx2 hR5 hxl
                    go_wp2_with fail
                    refine hC.mono ?_
                    rintro e w3 ⟨rfl, hf, hbg⟩
                    have hT3 := HS2.out.code hf hbg
                    have hX3 := HX2.out.keep hbg HDg.out.1 HDg.out.2.1
                    obtain ⟨W4, hW4⟩ : ∃ W, W = w3.alloc (.cells R5 47) := ⟨_, rfl⟩
                    have hb4 : Below w3.heap.size w3 W4 := by rw [hW4]; exact below_alloc _ _
                    obtain ⟨p1, hp1⟩ : ∃ p, p = w3.heap.size := ⟨_, rfl⟩
                    have HP1 : Hid (W4.heap[p1]? = some (.cells R5 47)) := by rw [hW4, hp1]; exact heap_alloc_new _ _
                    have hT4 := hT3.below hb4
                    have hX4 := hX3.below hb4
                    have hR := r_get hT4.es (by omega) HI.out i
                    rw [← HXq.out.1, ← HXq.out.2, ← HR5.out] at hR
                    obtain ⟨-, f1, -, -, -⟩ := deedCells hX4
                    dsimp only at f1
                    have HT4 : Hid (TwAt w W4 B G bx gx F F (2000 + 5000 * k + 2000) (2000 + 5000 * k + 100)) := hT4
                    have HPn : Hid (p1 ≠ bx ∧ p1 ≠ gx) := by
                      obtain ⟨cap', vs', hr', _⟩ := hT3.es
                      have a1 := hr'.lt
                      show _ ∧ _
                      omega
                    have HW4 : Hid _ := hW4
                    have Hp1 : Hid _ := hp1
                    clear hC hf hbg hT3 hX3 hT4 hX4 hW4 hb4 hp1 c0 c1 c2 c3 c4
                    go_wp2_with (first
                      | (refine wpList_store_row rfl 47 _ _ rfl w3.heap.size R5 rfl rfl 47 zi (heap_alloc_new _ _) (by rw [HRs.out]; exact inoSize) (by rw [HRs.out]; rfl) HRo.out ?_; rw [setRow_alloc_new, ← HW4.out, ← Hp1.out])
                      | fail)
                    clear HW4 Hp1
                    refine hR.mono ?_
                    rintro e w5 ⟨rfl, he, hbg⟩
                    have hT5 := HT4.out.ref he hbg
                    have hP5 : w5.heap[p1]? = some (.cells R5 47) := (hbg.block p1 (lt_of_heap HP1.out) (by have := HPn.out; rintro (e | e) <;> omega)).trans HP1.out
                    obtain ⟨W6, hW6⟩ : ∃ W, W = w5.alloc (.cells R5 47) := ⟨_, rfl⟩
                    have hb6 : Below w5.heap.size w5 W6 := by rw [hW6]; exact below_alloc _ _
                    obtain ⟨p2, hp2⟩ : ∃ p, p = w5.heap.size := ⟨_, rfl⟩
                    have HP2 : Hid (W6.heap[p2]? = some (.cells R5 47)) := by rw [hW6, hp2]; exact heap_alloc_new _ _
                    have HP6 : Hid (W6.heap[p1]? = some (.cells R5 47)) := (hb6.block p1 (lt_of_heap hP5)).trans hP5
                    have HT6 : Hid (TwAt w W6 B G bx gx F F (2000 + 5000 * k + 2000) (2000 + 5000 * k + 2100)) := hT5.below hb6
                    have HW6 : Hid _ := hW6
                    have Hp2 : Hid _ := hp2
                    clear hR he hbg hT5 hP5 hW6 hb6 hp2 HT4 HP1 f1
                    go_wp2_with (first
                      | (refine wpList_store_row rfl 47 _ _ rfl w5.heap.size R5 rfl rfl 47 zi (heap_alloc_new _ _) (by rw [HRs.out]; exact inoSize) (by rw [HRs.out]; rfl) HRo.out ?_; rw [setRow_alloc_new, ← HW6.out, ← Hp2.out])
                      | (refine wpList_load_row rfl 47 _ rfl p1 rfl 47 R5 (0, 0) _ HP6.out Try.underlying47 rfl (by rw [HRs.out]; exact inoSize) ?_)
                      | (refine wpList_load_row rfl 47 _ rfl p2 rfl 47 R5 (0, 0) _ HP2.out Try.underlying47 rfl (by rw [HRs.out]; exact inoSize) ?_)
                      | go_in)
                    go_meet
                    case rel => exact ⟨rfl, _, HT6.out, H64⟩
              case rest => as_aux_lemma =>
                  clear c0 c1 c2 c3 c4 HS2 HX2
                  obtain ⟨rfl, F', hT, H64'⟩ := hcut
                  have hC := left_at hT.fs (by omega)
                  have HT : Hid (TwAt w wc B G bx gx F' F' (2000 + 5000 * k + 2000) (2000 + 5000 * k + 2100)) := hT
                  obtain ⟨q1, hq1⟩ : ∃ x, x = Bi.cntF (Bi.bt F'.iw) 32 := ⟨_, rfl⟩
                  obtain ⟨q2, hq2⟩ : ∃ x, x = Bi.cntF (Bi.bt F'.bw) F'.n := ⟨_, rfl⟩
                  have HQ : Hid (q1 = Bi.cntF (Bi.bt F'.iw) 32 ∧ q2 = Bi.cntF (Bi.bt F'.bw) F'.n) := ⟨hq1, hq2⟩
                  rw [← hq1, ← hq2] at hC
                  clear hT hq1 hq2
                  go_wp2_with fail
                  refine hC.mono ?_
                  rintro e w5 ⟨rfl, hf, hbg⟩
                  have hT5 := HT.out.code hf hbg
                  have hR := r_left hT5.es (by omega) hT5.fs.inv H64'.out
                  rw [← HQ.out.1, ← HQ.out.2] at hR
                  have HT5 : Hid (TwAt w w5 B G bx gx F' F' (2000 + 5000 * k + 2000 + 2000) (2000 + 5000 * k + 2100)) := hT5
                  clear hC hf hbg hT5 HT
                  go_wp2_with fail
                  refine hR.mono ?_
                  rintro e w6 ⟨rfl, he, hbg⟩
                  have hT6 := HT5.out.ref he hbg
                  have hA := hT6.alike (by omega) (by omega) H64'.out
                  clear hR he hbg hT6 HT5
                  go_wp2_with fail
                  refine hA.mono ?_
                  rintro e w7 ⟨rfl, hT7⟩
                  have HT7 : Hid _ := hT7.mono (a' := 2000 + 5000 * (k + 1)) (b' := 2000 + 5000 * (k + 1)) (by omega) (by omega)
                  clear hA hT7
                  go_wp2
                  go_roundw
                  case rel => exact ⟨k + 1, F', by omega, by omega, by go_num, HT7.out, H64'⟩
                  case measure => simp [intOf]; omega
    · have hend : k < len ∧ ¬ k < 80 ∨ ¬ k < len := by omega
      clear hlt
      have HS : Hid _ := hS
      have hA := awake_at wr
      clear hS
      rcases hend with ⟨g0, g1⟩ | g0
      all_goals
        go_wp2_with (first | (go_at_call 26; refine hA.mono ?_; rintro e w7 ⟨rfl, hb7⟩) | go_in)
        go_ret
        exact ⟨rfl, HS.out.old.trans (hb7.mono HS.out.old.size)⟩
end Go.Proofs.Ytinjllnoonbjmaa
