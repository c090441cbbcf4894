/- januslaw16.DirPlays: the walk. -/
import Derived.Test.YtcaofdbcgdgbbaaGreatDoorRtE
import Derived.Test.YtcaofdbcgdgbbaaGreatDoorKinds
import Derived.Deep.DeepCutAuto
import Derived.Deep.CutBlock
import Derived.Deep.RegionHeld3
import Derived.Deep.MidRow
import Derived.ProofKit
import Derived.OpenShut
import Derived.ChangeOld
import Derived.ChangeSlices
import Derived.Deep.Slices
import Derived.Below
namespace Go.Proofs.YtcaofdbcgdgbbaaGreatDoor
open Go.ChangeShapes Go.WideShapes Go.ChangeAt Go.RowKit Go.Lib
set_option linter.all false

theorem and_bit1 (n : Int) : ∃ z : Nat, z ≤ 1 ∧ bits .and .i64 n 1 = (z : Int) := by
  have h : (BitVec.ofInt 64 n &&& BitVec.ofInt 64 1).toNat ≤ 1 := by
    rw [BitVec.toNat_and]
    exact Nat.le_trans Nat.and_le_right (by decide)
  refine ⟨_, h, ?_⟩
  show IntKind.i64.wrap (((BitVec.ofInt 64 n &&& BitVec.ofInt 64 1).toNat : Nat) : Int) = _
  exact Bi.wrap_small _ (by omega)
theorem tx_same (t : List UInt8) (W : World) : (binOp BinOp.eql 9 (tx t) (tx t)).run Tryz.prog W = .ok (.bool true) W := by
  go_simp
/-- A deed. -/
structure DeedD where
  kind : Int
  i : Int
  t : Int
  name : List UInt8
  path : List UInt8
structure DeedD.Fit (d : DeedD) : Prop where
  i : I64 d.i
  name : d.name.length ≤ 9223372036854775807
  path : d.path.length ≤ 9223372036854775807
abbrev deedRowD (d : DeedD) : Array Value := #[.int .i64 d.kind, .int .i64 d.i, .int .i64 d.t, tx d.name, tx d.path]
theorem deedCellsD {w : World} {g : Nat} {d : DeedD} {t : TypeId} (h : w.heap[g]? = some (.cells (deedRowD d) t)) :
    w.cell? ⟨g, 0, none⟩ = some (.int .i64 d.kind) ∧ w.cell? ⟨g, 1, none⟩ = some (.int .i64 d.i) ∧ w.cell? ⟨g, 2, none⟩ = some (.int .i64 d.t) ∧ w.cell? ⟨g, 3, none⟩ = some (tx d.name) ∧ w.cell? ⟨g, 4, none⟩ = some (tx d.path) := by
  refine ⟨?_, ?_, ?_, ?_, ?_⟩ <;> (rw [cell_of_heap h]; rfl)
def zdd : Array Value := #[.int .i64 0, .int .i64 0, .int .i64 0, .string ⟨#[]⟩, .string ⟨#[]⟩]
theorem lit_zdd : (#[.int .i64 0, .int .i64 0, .int .i64 0, .string ⟨#[]⟩, .string ⟨#[]⟩] : Array Value) = zdd := rfl
/-- A deed in its box. -/
def DBox (w : World) (p : Nat) (d : DeedD) : Prop := w.heap[p]? = some (.cells (deedRowD d) 37)
/-- A slice at a0 holds so many deeds. -/
def DeedsAt (w : World) (a0 : Option Addr) (len : Nat) : Prop := ∀ j, j < len → ∃ gb off d, a0 = some ⟨gb, off, none⟩ ∧ DeedD.Fit d ∧ w.rangeAt gb (off + j * 5) (deedRowD d).toList
theorem DeedsAt.below {w w' : World} {a0 : Option Addr} {len : Nat} (h : DeedsAt w a0 len) (hb : Below w.heap.size w w') : DeedsAt w' a0 len := by
  intro j hj
  obtain ⟨gb, off, d, e, hf, hc⟩ := h j hj
  exact ⟨gb, off, d, e, hf, fun i u hu => (hb.cell (cell_lt (hc i u hu))).trans (hc i u hu)⟩
theorem DBox.keep {w w' : World} {p a b : Nat} {d : DeedD} (h : DBox w p d) (hu : BG a b w w') (h1 : p ≠ a) (h2 : p ≠ b) : DBox w' p d := (hu.block p (lt_of_heap h) (by rintro (e | e) <;> omega)).trans h
theorem DBox.below {w w' : World} {p : Nat} {d : DeedD} (h : DBox w p d) (hb : Below w.heap.size w w') : DBox w' p d := (hb.block p (lt_of_heap h)).trans h
theorem al_n (F : FS) (k : Int) : (alF F k).n = F.n := by
  unfold alF
  split <;> rfl
theorem ad_n (F : FS) (i : Int) (s : List UInt8) (t : Int) : (adF F i s t).n = F.n := by
  unfold adF
  split
  · exact (wrF_iw _ _ _ _).2
  · rfl
theorem rm_n (F : FS) (i : Int) (s : List UInt8) : (rmF F i s).n = F.n := by
  unfold rmF
  split <;> rfl
theorem isI_in {i : Int} (h : ¬ i < 0) (h2 : i < 32) : isI i = true := by unfold isI; simp; omega
set_option maxHeartbeats 1000000 in
theorem ints_same (u v : Value) (ns : List Nat) (b1 b2 : Nat) (w : World) (h1 : Ns w b1 u ns) (h2 : Ns w b2 v ns) (hl : ns.length ≤ 1000) :
    Calls Tryz.prog 28 #[u, v] w fun e w' => e = .returned (.bool true) ∧ ∃ q, w' = w.drewN q := by
  obtain ⟨a, cap, rfl, -⟩ := h1.form
  obtain ⟨a', cap', rfl, -⟩ := h2.form
  have HA : Hid (Ns w b1 (.slice a ns.length cap) ns) := h1
  have HB : Hid (Ns w b2 (.slice a' ns.length cap') ns) := h2
  clear h1 h2
  go_enter Tryz.func28, Tryz.ntmps28
  go_wp2
  go_loopw [5] (fun i wr => ∃ (k q : Nat), k ≤ ns.length ∧ i = .int .i64 k ∧ wr = w.drewN q) (fun i _ => ns.length - (RowKit.intOf i).toNat)
  case atStart => exact ⟨0, 0, by omega, rfl, rfl⟩
  case round =>
    obtain ⟨k, q, hk, rfl, rfl⟩ := hrel
    by_cases hlt : k < ns.length
    · obtain ⟨t, ht⟩ : ∃ t, ns[k]? = some t := ⟨ns[k], List.getElem?_eq_getElem hlt⟩
      obtain ⟨g, rfl, c1, -⟩ := HA.out.at ht
      obtain ⟨g', rfl, c2, -⟩ := HB.out.at ht
      have hint : (k : Int) < (ns.length : Int) := by omega
      clear ht
      go_wp2
      go_quiet (fail)
      go_wp2
      go_roundw
      case rel => exact ⟨k + 1, _, by omega, by go_num, rfl⟩
      case measure => simp [RowKit.intOf]; omega
    · have hnl : ¬ (k : Int) < (ns.length : Int) := by omega
      go_wp2
      go_ret
      exact ⟨rfl, q, rfl⟩
set_option maxHeartbeats 16000000 in
set_option maxRecDepth 100000 in
theorem plays_walk (a0 : Option Addr) (len cap : Nat) (w : World) (hlen : len ≤ 9223372036854775807) (hd : DeedsAt w a0 len) :
    Calls Tryz.prog 4 #[.slice a0 len cap] w fun e w' => e = .returned (.bool true) ∧ Below w.heap.size w w' := by
  have HD : Hid (DeedsAt w a0 len) := hd
  clear hd
  have hP := pair_at 40 w (by omega) (by omega)
  go_enter Tryz.func4, Tryz.ntmps4
  go_wp2_with fail
  refine hP.mono ?_
  rintro e w1 ⟨B, bx, rfl, ⟨G, gx, hpr⟩, hb1⟩
  have HT : Hid (TwAt w w1 B G bx gx (F0 40) (F0 40) (2000 + 300000 * 0) (2000 + 300000 * 0)) := ⟨hpr.fs, hpr.es, hpr.lo, hb1⟩
  have HN0 : Hid ((F0 40).n ≤ 64 ∧ AllD (F0 40)) := ⟨by show 40 ≤ 64; omega, allD0 40⟩
  clear hpr hb1 hP
  go_wp2
  go_loopw [6] (fun s wr => ∃ (k : Nat) (F : FS), k ≤ len ∧ k ≤ 80 ∧ s = .int .i64 k ∧ TwAt w wr B G bx gx F F (2000 + 300000 * k) (2000 + 300000 * k) ∧ Hid (F.n ≤ 64 ∧ AllD F)) (fun s _ => 80 - (RowKit.intOf s).toNat)
  case atStart => exact ⟨0, F0 40, by omega, by omega, rfl, HT.out, HN0⟩
  case round =>
    clear HT HN0
    obtain ⟨k, F, hkl, hk2, rfl, hS, H64⟩ := hrel
    by_cases hlt : k < len ∧ k < 80
    · obtain ⟨hl1, hl2⟩ := hlt
      have ik : (k : Int) < (len : Int) := by omega
      have ik2 : (k : Int) < 80 := by omega
      obtain ⟨gb, off, d, rfl, hft, hrg⟩ := HD.out.below hS.old k hl1
      obtain ⟨kd, i, tn, s, p⟩ := d
      have HFt : Hid (DeedD.Fit ⟨kd, i, tn, s, p⟩) := hft
      have HRg : Hid _ := hrg
      obtain ⟨R, hR⟩ : ∃ R, R = deedRowD ⟨kd, i, tn, s, p⟩ := ⟨_, rfl⟩
      rw [← hR] at HRg
      obtain ⟨W, hW⟩ : ∃ W, W = wr.alloc (.cells R 37) := ⟨_, rfl⟩
      have hbW : Below wr.heap.size wr W := by rw [hW]; exact below_alloc _ _
      obtain ⟨D, hDn⟩ : ∃ D, D = wr.heap.size := ⟨_, rfl⟩
      have HX : Hid (DBox W D ⟨kd, i, tn, s, p⟩) := by rw [hW, hDn, hR]; exact heap_alloc_new _ _
      have HDg : Hid (D ≠ B ∧ D ≠ G ∧ D ≠ bx ∧ D ≠ gx) := by
        have a1 := hS.es.lt
        have a2 := hS.lo
        show _ ∧ _
        omega
      have HS : Hid (TwAt w W B G bx gx F F (2000 + 300000 * k) (2000 + 300000 * k)) := hS.below hbW
      have HRs : Hid (R.size = 5) := by rw [hR]; rfl
      have HRo : Hid (R.all (·.oneCell') = true) := by rw [hR]; simp [Hid, Value.oneCell']
      have HW : Hid _ := hW
      have HDn : Hid _ := hDn
      have z3 := lit_zdd
      obtain ⟨c0, c1, c2, c3, c4⟩ := deedCellsD HX.out
      dsimp only at c0 c1 c2 c3 c4
      clear hft hrg hR hW hbW hDn hS
      go_upto_region 8 with (first
        | (refine wpList_load_mid rfl 37 _ rfl gb (off + k * 5) rfl R.toList _ HRg.out Tryz.underlying37 rfl (by rw [Array.length_toList, HRs.out]; kernel_rfl) ?_)
        | (refine wpList_store_row rfl 37 _ _ rfl wr.heap.size R rfl rfl 37 zdd (heap_alloc_new _ _) (by rw [HRs.out]; kernel_rfl) (by rw [HRs.out]; rfl) HRo.out ?_; rw [setRow_alloc_new, ← HW.out, ← HDn.out])
        | fail)
      clear HW HDn HRg z3 HRs HRo HD
      simp only [Act.put]
      go_cut [56, 62] (fun _ s62 wd => ∃ b : Bool, s62 = .bool b ∧ TwAt w wd B G bx gx F F (2000 + 300000 * k) (2000 + 300000 * k + 100) ∧ DBox wd D ⟨kd, i, tn, s, p⟩ ∧ Hid (b = false → isI i = true ∧ Bi.bt F.iw i.toNat = true))
      case first => as_aux_lemma =>
          by_cases h0 : i < 0
          · go_wp2_with fail
            go_meet
            case rel => exact ⟨true, rfl, HS.out.mono (by omega) (by omega), HX.out, fun h => by cases h⟩
          · by_cases h1 : 32 ≤ i
            · go_wp2_with fail
              go_meet
              case rel => exact ⟨true, rfl, HS.out.mono (by omega) (by omega), HX.out, fun h => by cases h⟩
            · have hI := isI_in h0 (by omega)
              have hU := r_used HS.out.es (by omega) HS.out.fs.inv i hI
              have HI1 : Hid (isI i = true) := hI
              clear hI
              obtain ⟨ub, hub⟩ : ∃ ub, ub = Bi.bt F.iw i.toNat := ⟨_, rfl⟩
              have Hub : Hid (ub = Bi.bt F.iw i.toNat) := hub
              rw [← hub] at hU
              clear hub
              go_wp2_with fail
              refine hU.mono ?_
              rintro e w3 ⟨rfl, he, hu3⟩
              have HJ : Hid (TwAt w w3 B G bx gx F F (2000 + 300000 * k) (2000 + 300000 * k + 100) ∧ DBox w3 D ⟨kd, i, tn, s, p⟩) := ⟨HS.out.ref he hu3, HX.out.keep hu3 HDg.out.2.2.1 HDg.out.2.2.2⟩
              clear hU he hu3
              cases ub with
              | true =>
                go_wp2_with fail
                go_meet
                case rel => exact ⟨_, rfl, HJ.out.1, HJ.out.2, fun _ => ⟨HI1.out, Hub.out.symm⟩⟩
              | false =>
                go_wp2_with fail
                go_meet
                case rel => exact ⟨_, rfl, HJ.out.1, HJ.out.2, fun h => by cases h⟩
      case rest =>
        clear c0 c1 c2 c3 c4 HS HX
        obtain ⟨b, rfl, hS, hX, HU⟩ := hcut
        obtain ⟨c0, c1, c2, c3, c4⟩ := deedCellsD hX
        dsimp only at c0 c1 c2 c3 c4
        cases b with
        | true =>
          have HS2 : Hid (TwAt w wc B G bx gx F F (2000 + 300000 * k) (2000 + 300000 * k + 100)) := hS
          clear hS hX
          go_wp2
          go_roundw
          case rel => exact ⟨k + 1, F, by omega, by omega, by go_num, HS2.out.mono (by omega) (by omega), H64⟩
          case measure => simp [RowKit.intOf]; omega
        | false =>
          have HU2 : Hid (isI i = true ∧ Bi.bt F.iw i.toNat = true) := HU.out rfl
          have HS2 : Hid (TwAt w wc B G bx gx F F (2000 + 300000 * k) (2000 + 300000 * k + 100)) := hS
          have HX2 : Hid (DBox wc D ⟨kd, i, tn, s, p⟩) := hX
          clear HU hS hX
          go_upto_block 2 with fail
          go_cut [8] (fun s8 wd => s8 = .bool true ∧ ∃ F' : FS, TwAt w wd B G bx gx F' F' (2000 + 300000 * k + 200000) (2000 + 300000 * k + 280000) ∧ DBox wd D ⟨kd, i, tn, s, p⟩ ∧ Hid (F'.n ≤ 64 ∧ AllD F'))
          case first =>
            have kinds : (kd == 0) = true ∨ ((kd == 0) = false ∧ (kd == 1) = true) ∨ ((kd == 0) = false ∧ (kd == 1) = false ∧ (kd == 2) = true) ∨ ((kd == 0) = false ∧ (kd == 1) = false ∧ (kd == 2) = false ∧ (kd == 3) = true) ∨ ((kd == 0) = false ∧ (kd == 1) = false ∧ (kd == 2) = false ∧ (kd == 3) = false) := by
              simp only [beq_iff_eq, beq_eq_false_iff_ne]
              omega
            have hdr : Below wc.heap.size wc wc.drew := (Below.refl _ _).drew
            have HSd : Hid (TwAt w wc.drew B G bx gx F F (2000 + 300000 * k) (2000 + 300000 * k + 100)) := HS2.out.below hdr
            have HXd : Hid (DBox wc.drew D ⟨kd, i, tn, s, p⟩) := HX2.out.below hdr
            have HI : Hid (FInv F) := HS2.out.fs.inv
            have HA : Hid (AllD F) := H64.out.2
            clear hdr
            rcases kinds with k0 | ⟨k0, k1⟩ | ⟨k0, k1, k2⟩ | ⟨k0, k1, k2, k3⟩ | ⟨k0, k1, k2, k3⟩
            · as_aux_lemma =>
                obtain ⟨z, hz1, hzb⟩ := and_bit1 tn
                have hkv : Fit (1 + (z : Int)) := ⟨by omega, by omega⟩
                have hC := alloc_all HS2.out.fs (by omega) (1 + (z : Int)) hkv
                have HKv : Hid (Fit (1 + (z : Int))) := hkv
                obtain ⟨x1, hx1⟩ : ∃ x, x = alI F := ⟨_, rfl⟩
                obtain ⟨x2, hx2⟩ : ∃ x, x = alR F := ⟨_, rfl⟩
                have HXq : Hid (x1 = alI F ∧ x2 = alR F) := ⟨hx1, hx2⟩
                rw [← hx1, ← hx2] at hC
                clear hkv hx1 hx2
                go_wp2_with fail
                refine hC.mono ?_
                rintro e w3 ⟨rfl, hf, hbg⟩
                have hT3 := HS2.out.code hf hbg
                have hX3 := HX2.out.keep hbg HDg.out.1 HDg.out.2.1
                have hR := r_alloc hT3.es (by omega) HI.out (1 + (z : Int)) HKv.out
                rw [← HXq.out.1, ← HXq.out.2] at hR
                obtain ⟨-, -, f2, -, -⟩ := deedCellsD hX3
                dsimp only at f2
                have HX3 : Hid (DBox w3 D ⟨kd, i, tn, s, p⟩) := hX3
                have HT3 : Hid (TwAt w w3 B G bx gx (alF F (1 + (z : Int))) F (2000 + 300000 * k + 2000) (2000 + 300000 * k + 100)) := hT3
                clear hC hf hbg hT3 hX3 c0 c1 c2 c3 c4
                go_wp2_with fail
                refine hR.mono ?_
                rintro e w4 ⟨rfl, he, hbg⟩
                have hT4 : TwAt w w4 B G bx gx (alF F (1 + (z : Int))) (alF F (1 + (z : Int))) (2000 + 300000 * k + 2000) (2000 + 300000 * k + 2100) := HT3.out.ref he hbg
                have hX4 : DBox w4 D ⟨kd, i, tn, s, p⟩ := HX3.out.keep hbg HDg.out.2.2.1 HDg.out.2.2.2
                have hdr : Below w4.heap.size w4 w4.drew := (Below.refl _ _).drew
                have HTd : Hid (TwAt w w4.drew B G bx gx (alF F (1 + (z : Int))) (alF F (1 + (z : Int))) (2000 + 300000 * k + 2000) (2000 + 300000 * k + 2100)) := hT4.below hdr
                have HXd4 : Hid (DBox w4.drew D ⟨kd, i, tn, s, p⟩) := hX4.below hdr
                have HN1 : Hid ((alF F (1 + (z : Int))).n ≤ 64 ∧ AllD (alF F (1 + (z : Int)))) := ⟨by rw [al_n]; exact H64.out.1, HA.out.al _⟩
                have HF1 : Hid (FInv (alF F (1 + (z : Int)))) := hT4.fs.inv
                obtain ⟨-, g1, -, g3, -⟩ := deedCellsD hX4
                dsimp only at g1 g3
                clear hR he hbg HT3 f2 hdr hT4 hX4 HX3
                generalize alF F (1 + (z : Int)) = F1 at *
                go_wp2_with fail
                refine wp_region_held_drew (S := fun w' => w'.cell? ⟨D, 1, none⟩ = some (.int .i64 i) ∧ w'.cell? ⟨D, 3, none⟩ = some (tx s)) (by kernel_rfl) ⟨g1, g3⟩ (fun hHeld => ?_)
                refine wpAnyH_take (i := 0) (v := ?_) rfl (by kernel_rfl) (by kernel_rfl) (by kernel_rfl) (fun _ _ _ h => h) (Or.inl ⟨by kernel_rfl, ?_⟩) (by assumption) ?_
                rotate_left
                · (intro w hSw; (try dsimp only at hSw); go_simp) <;> with_reducible rfl
                (try simp only [Act.put, List.getElem_toArray, List.getElem_cons_zero, List.setIfInBounds_toArray, List.set_cons_zero, List.set_cons_succ])
                refine wpAnyH_take (i := 1) (v := ?_) rfl (by kernel_rfl) (by kernel_rfl) (by kernel_rfl) (fun _ _ _ h => h) (Or.inl ⟨by kernel_rfl, ?_⟩) (by assumption) ?_
                rotate_left
                · (intro w hSw; (try dsimp only at hSw); go_simp) <;> with_reducible rfl
                (try simp only [Act.put, List.getElem_toArray, List.getElem_cons_zero, List.getElem_cons_succ, List.setIfInBounds_toArray, List.set_cons_zero, List.set_cons_succ])
                refine wpAnyH_take (i := 2) (v := ?_) rfl (by kernel_rfl) (by kernel_rfl) (by kernel_rfl) (fun _ _ _ h => h) (Or.inl ⟨by kernel_rfl, ?_⟩) (by assumption) ?_
                rotate_left
                · (intro w hSw; (try dsimp only at hSw); go_simp) <;> with_reducible rfl
                (try simp only [Act.put, List.getElem_toArray, List.getElem_cons_zero, List.getElem_cons_succ, List.setIfInBounds_toArray, List.set_cons_zero, List.set_cons_succ])
                refine wpAnyH_take (i := 3) (v := ?_) rfl (by kernel_rfl) (by kernel_rfl) (by kernel_rfl) (fun _ _ _ h => h) (Or.inl ⟨by kernel_rfl, ?_⟩) (by assumption) ?_
                rotate_left
                · (intro w hSw; (try dsimp only at hSw); go_simp) <;> with_reducible rfl
                (try simp only [Act.put, List.getElem_toArray, List.getElem_cons_zero, List.getElem_cons_succ, List.setIfInBounds_toArray, List.set_cons_zero, List.set_cons_succ])
                refine wpAnyH_take (i := 4) (v := ?_) rfl (by kernel_rfl) (by kernel_rfl) (by kernel_rfl) (fun _ _ _ h => h) (Or.inl ⟨by kernel_rfl, ?_⟩) (by assumption) ?_
                rotate_left
                · (intro w hSw; (try dsimp only at hSw); go_simp) <;> with_reducible rfl
                (try simp only [Act.put, List.getElem_toArray, List.getElem_cons_zero, List.getElem_cons_succ, List.setIfInBounds_toArray, List.set_cons_zero, List.set_cons_succ])
                refine wpAnyH_take (i := 5) (v := ?_) rfl (by kernel_rfl) (by kernel_rfl) (by kernel_rfl) (fun _ _ _ h => h) (Or.inl ⟨by kernel_rfl, ?_⟩) (by assumption) ?_
                rotate_left
                · (intro w hSw; (try dsimp only at hSw); go_simp) <;> with_reducible rfl
                (try simp only [Act.put, List.getElem_toArray, List.getElem_cons_zero, List.getElem_cons_succ, List.setIfInBounds_toArray, List.set_cons_zero, List.set_cons_succ])
                refine wpAnyH_take (i := 6) (v := ?_) rfl (by kernel_rfl) (by kernel_rfl) (by kernel_rfl) (fun _ _ _ h => h) (Or.inl ⟨by kernel_rfl, ?_⟩) (by assumption) ?_
                rotate_left
                · (intro w hSw; (try dsimp only at hSw); go_simp) <;> with_reducible rfl
                (try simp only [Act.put, List.getElem_toArray, List.getElem_cons_zero, List.getElem_cons_succ, List.setIfInBounds_toArray, List.set_cons_zero, List.set_cons_succ])
                refine wpAnyH_take (i := 7) (v := ?_) rfl (by kernel_rfl) (by kernel_rfl) (by kernel_rfl) (fun _ _ _ h => h) (Or.inl ⟨by kernel_rfl, ?_⟩) (by assumption) ?_
                rotate_left
                · (intro w hSw; (try dsimp only at hSw); go_simp) <;> with_reducible rfl
                (try simp only [Act.put, List.getElem_toArray, List.getElem_cons_zero, List.getElem_cons_succ, List.setIfInBounds_toArray, List.set_cons_zero, List.set_cons_succ])
                refine wpAnyH_take (i := 8) (v := ?_) rfl (by kernel_rfl) (by kernel_rfl) (by kernel_rfl) (fun _ _ _ h => h) (Or.inl ⟨by kernel_rfl, ?_⟩) (by assumption) ?_
                rotate_left
                · (intro w hSw; (try dsimp only at hSw); go_simp) <;> with_reducible rfl
                (try simp only [Act.put, List.getElem_toArray, List.getElem_cons_zero, List.getElem_cons_succ, List.setIfInBounds_toArray, List.set_cons_zero, List.set_cons_succ])
                refine wpAnyH_take (i := 9) (v := ?_) rfl (by kernel_rfl) (by kernel_rfl) (by kernel_rfl) (fun _ _ _ h => h) (Or.inl ⟨by kernel_rfl, ?_⟩) (by assumption) ?_
                rotate_left
                · (intro w hSw; (try dsimp only at hSw); go_simp) <;> with_reducible rfl
                (try simp only [Act.put, List.getElem_toArray, List.getElem_cons_zero, List.getElem_cons_succ, List.setIfInBounds_toArray, List.set_cons_zero, List.set_cons_succ])
                refine wpAnyH_take (i := 10) (v := ?_) rfl (by kernel_rfl) (by kernel_rfl) (by kernel_rfl) (fun _ _ _ h => h) (Or.inl ⟨by kernel_rfl, ?_⟩) (by assumption) ?_
                rotate_left
                · (intro w hSw; (try dsimp only at hSw); go_simp) <;> with_reducible rfl
                (try simp only [Act.put, List.getElem_toArray, List.getElem_cons_zero, List.getElem_cons_succ, List.setIfInBounds_toArray, List.set_cons_zero, List.set_cons_succ])
                refine wpAnyH_take (i := 11) (v := ?_) rfl (by kernel_rfl) (by kernel_rfl) (by kernel_rfl) (fun _ _ _ h => h) (Or.inl ⟨by kernel_rfl, ?_⟩) (by assumption) ?_
                rotate_left
                · (intro w hSw; (try dsimp only at hSw); go_simp) <;> with_reducible rfl
                (try simp only [Act.put, List.getElem_toArray, List.getElem_cons_zero, List.getElem_cons_succ, List.setIfInBounds_toArray, List.set_cons_zero, List.set_cons_succ])
                refine wpAnyH_take (i := 12) (v := ?_) rfl (by kernel_rfl) (by kernel_rfl) (by kernel_rfl) (fun _ _ _ h => h) (Or.inl ⟨by kernel_rfl, ?_⟩) (by assumption) ?_
                rotate_left
                · (intro w hSw; (try dsimp only at hSw); go_simp) <;> with_reducible rfl
                (try simp only [Act.put, List.getElem_toArray, List.getElem_cons_zero, List.getElem_cons_succ, List.setIfInBounds_toArray, List.set_cons_zero, List.set_cons_succ])
                refine wpAnyH_take (i := 13) (v := ?_) rfl (by kernel_rfl) (by kernel_rfl) (by kernel_rfl) (fun _ _ _ h => h) (Or.inl ⟨by kernel_rfl, ?_⟩) (by assumption) ?_
                rotate_left
                · (intro w hSw; (try dsimp only at hSw); go_simp) <;> with_reducible rfl
                (try simp only [Act.put, List.getElem_toArray, List.getElem_cons_zero, List.getElem_cons_succ, List.setIfInBounds_toArray, List.set_cons_zero, List.set_cons_succ])
                refine wpAnyH_take (i := 14) (v := ?_) rfl (by kernel_rfl) (by kernel_rfl) (by kernel_rfl) (fun _ _ _ h => h) (Or.inl ⟨by kernel_rfl, ?_⟩) (by assumption) ?_
                rotate_left
                · (intro w hSw; (try dsimp only at hSw); go_simp) <;> with_reducible rfl
                (try simp only [Act.put, List.getElem_toArray, List.getElem_cons_zero, List.getElem_cons_succ, List.setIfInBounds_toArray, List.set_cons_zero, List.set_cons_succ])
                refine wpAnyH_take (i := 15) (v := ?_) rfl (by kernel_rfl) (by kernel_rfl) (by kernel_rfl) (fun _ _ _ h => h) (Or.inl ⟨by kernel_rfl, ?_⟩) (by assumption) ?_
                rotate_left
                · (intro w hSw; (try dsimp only at hSw); go_simp) <;> with_reducible rfl
                (try simp only [Act.put, List.getElem_toArray, List.getElem_cons_zero, List.getElem_cons_succ, List.setIfInBounds_toArray, List.set_cons_zero, List.set_cons_succ])
                refine wpAnyH_take (i := 17) (v := ?_) rfl (by kernel_rfl) (by kernel_rfl) (by kernel_rfl) (fun _ _ _ h => h) (Or.inl ⟨by kernel_rfl, ?_⟩) (by assumption) ?_
                rotate_left
                · (intro w hSw; (try dsimp only at hSw); go_simp) <;> with_reducible rfl
                (try simp only [Act.put, List.getElem_toArray, List.getElem_cons_zero, List.getElem_cons_succ, List.setIfInBounds_toArray, List.set_cons_zero, List.set_cons_succ])
                refine wpAnyH_take (i := 18) (v := ?_) rfl (by kernel_rfl) (by kernel_rfl) (by kernel_rfl) (fun _ _ _ h => h) (Or.inl ⟨by kernel_rfl, ?_⟩) (by assumption) ?_
                rotate_left
                · (intro w hSw; (try dsimp only at hSw); go_simp) <;> with_reducible rfl
                (try simp only [Act.put, List.getElem_toArray, List.getElem_cons_zero, List.getElem_cons_succ, List.setIfInBounds_toArray, List.set_cons_zero, List.set_cons_succ])
                refine wpAnyH_take (i := 19) (v := ?_) rfl (by kernel_rfl) (by kernel_rfl) (by kernel_rfl) (fun _ _ _ h => h) (Or.inl ⟨by kernel_rfl, ?_⟩) (by assumption) ?_
                rotate_left
                · (intro w hSw; (try dsimp only at hSw); go_simp) <;> with_reducible rfl
                (try simp only [Act.put, List.getElem_toArray, List.getElem_cons_zero, List.getElem_cons_succ, List.setIfInBounds_toArray, List.set_cons_zero, List.set_cons_succ])
                refine wpAnyH_take (i := 20) (v := ?_) rfl (by kernel_rfl) (by kernel_rfl) (by kernel_rfl) (fun _ _ _ h => h) (Or.inl ⟨by kernel_rfl, ?_⟩) (by assumption) ?_
                rotate_left
                · (intro w hSw; (try dsimp only at hSw); go_simp) <;> with_reducible rfl
                (try simp only [Act.put, List.getElem_toArray, List.getElem_cons_zero, List.getElem_cons_succ, List.setIfInBounds_toArray, List.set_cons_zero, List.set_cons_succ])
                refine wpAnyH_take (i := 21) (v := ?_) rfl (by kernel_rfl) (by kernel_rfl) (by kernel_rfl) (fun _ _ _ h => h) (Or.inl ⟨by kernel_rfl, ?_⟩) (by assumption) ?_
                rotate_left
                · (intro w hSw; (try dsimp only at hSw); go_simp) <;> with_reducible rfl
                (try simp only [Act.put, List.getElem_toArray, List.getElem_cons_zero, List.getElem_cons_succ, List.setIfInBounds_toArray, List.set_cons_zero, List.set_cons_succ])
                refine wpAnyH_take (i := 22) (v := ?_) rfl (by kernel_rfl) (by kernel_rfl) (by kernel_rfl) (fun _ _ _ h => h) (Or.inl ⟨by kernel_rfl, ?_⟩) (by assumption) ?_
                rotate_left
                · (intro w hSw; (try dsimp only at hSw); go_simp) <;> with_reducible rfl
                (try simp only [Act.put, List.getElem_toArray, List.getElem_cons_zero, List.getElem_cons_succ, List.setIfInBounds_toArray, List.set_cons_zero, List.set_cons_succ])
                clear g1 g3
                refine wpAnyH_ready (rs := [16]) (by kernel_rfl) (by simp) ?_
                refine AllReadyH.cons rfl (fun K hK => ?_) AllReadyH.nil
                go_simp
                refine (Add_at HTd.out.fs HN1.out.2 (by omega) i s HFt.out.name x1).mono ?_
                rintro e w5 ⟨rfl, hf, hbg⟩
                have hT5 := HTd.out.code hf hbg
                have hX5 : DBox w5 D ⟨kd, i, tn, s, p⟩ := HXd4.out.keep hbg HDg.out.1 HDg.out.2.1
                obtain ⟨-, f1, -, f3, -⟩ := deedCellsD hX5
                dsimp only at f1 f3
                have hC2 := radd_at hT5.es HN1.out.2 (by omega) HF1.out HN1.out.1 i s HFt.out.name x1
                have HX5 : Hid (DBox w5 D ⟨kd, i, tn, s, p⟩) := hX5
                have HT5 : Hid (TwAt w w5 B G bx gx (adF F1 i s x1) F1 (2000 + 300000 * k + 2000 + 6000) (2000 + 300000 * k + 2100)) := hT5
                clear hf hbg hT5 hX5
                refine hK.out _ _ ⟨f1, f3⟩ (fun hHeld => ?_)
                clear hK K
                (try simp only [Act.put, List.getElem_toArray, List.getElem_cons_zero, List.getElem_cons_succ, List.setIfInBounds_toArray, List.set_cons_zero, List.set_cons_succ])
                refine wpAnyH_ready (rs := [23]) (by kernel_rfl) (by simp) ?_
                refine AllReadyH.cons rfl (fun K hK => ?_) AllReadyH.nil
                go_simp
                refine hC2.mono ?_
                rintro e w6 ⟨rfl, hf, hbg⟩
                have HT6 : Hid (TwAt w w6 B G bx gx (adF F1 i s x1) (adF F1 i s x1) (2000 + 300000 * k + 200000) (2000 + 300000 * k + 280000)) := (HT5.out.ref hf hbg).mono (by omega) (by omega)
                have hX6 : DBox w6 D ⟨kd, i, tn, s, p⟩ := HX5.out.keep hbg HDg.out.2.2.1 HDg.out.2.2.2
                clear f1 f3
                obtain ⟨-, f1, -, f3, -⟩ := deedCellsD hX6
                dsimp only at f1 f3
                have HX6 : Hid (DBox w6 D ⟨kd, i, tn, s, p⟩) := hX6
                clear hC2 hf hbg hX6 HT5 HX5
                refine hK.out _ _ ⟨f1, f3⟩ (fun hHeld => ?_)
                clear hK K
                (try simp only [Act.put, List.getElem_toArray, List.getElem_cons_zero, List.getElem_cons_succ, List.setIfInBounds_toArray, List.set_cons_zero, List.set_cons_succ])
                refine wpAnyH_take (i := 24) (v := ?_) rfl (by kernel_rfl) (by kernel_rfl) (by kernel_rfl) (fun _ _ _ h => h) (Or.inl ⟨by kernel_rfl, ?_⟩) (by assumption) ?_
                rotate_left
                · (intro w hSw; (try dsimp only at hSw); go_simp) <;> with_reducible rfl
                (try simp only [Act.put, List.getElem_toArray, List.getElem_cons_zero, List.getElem_cons_succ, List.setIfInBounds_toArray, List.set_cons_zero, List.set_cons_succ])
                refine wpAnyH_take (i := 25) (v := ?_) rfl (by kernel_rfl) (by kernel_rfl) (by kernel_rfl) (fun _ _ _ h => h) (Or.inl ⟨by kernel_rfl, ?_⟩) (by assumption) ?_
                rotate_left
                · (intro w hSw; (try dsimp only at hSw); go_simp) <;> with_reducible rfl
                (try simp only [Act.put, List.getElem_toArray, List.getElem_cons_zero, List.getElem_cons_succ, List.setIfInBounds_toArray, List.set_cons_zero, List.set_cons_succ])
                refine wpAnyH_take (i := 26) (v := ?_) rfl (by kernel_rfl) (by kernel_rfl) (by kernel_rfl) (fun _ _ _ h => h) (Or.inl ⟨by kernel_rfl, ?_⟩) (by assumption) ?_
                rotate_left
                · (intro w hSw; (try dsimp only at hSw); go_simp) <;> with_reducible rfl
                (try simp only [Act.put, List.getElem_toArray, List.getElem_cons_zero, List.getElem_cons_succ, List.setIfInBounds_toArray, List.set_cons_zero, List.set_cons_succ])
                refine wpAnyH_done (by kernel_rfl) ?_ _
                clear hHeld f1 f3
                go_wp2
                go_meet
                case rel => exact ⟨rfl, _, HT6.out, HX6.out, by rw [ad_n]; exact HN1.out.1, HN1.out.2.add HF1.out i s x1⟩
            · as_aux_lemma =>
                go_wp2_with fail
                refine wp_region_held_drew (S := fun w' => w'.cell? ⟨D, 1, none⟩ = some (.int .i64 i) ∧ w'.cell? ⟨D, 3, none⟩ = some (tx s)) (by kernel_rfl) ⟨c1, c3⟩ (fun hHeld => ?_)
                refine wpAnyH_take (i := 0) (v := ?_) rfl (by kernel_rfl) (by kernel_rfl) (by kernel_rfl) (fun _ _ _ h => h) (Or.inl ⟨by kernel_rfl, ?_⟩) (by assumption) ?_
                rotate_left
                · (intro w hSw; (try dsimp only at hSw); go_simp) <;> with_reducible rfl
                (try simp only [Act.put, List.getElem_toArray, List.getElem_cons_zero, List.setIfInBounds_toArray, List.set_cons_zero, List.set_cons_succ])
                refine wpAnyH_take (i := 1) (v := ?_) rfl (by kernel_rfl) (by kernel_rfl) (by kernel_rfl) (fun _ _ _ h => h) (Or.inl ⟨by kernel_rfl, ?_⟩) (by assumption) ?_
                rotate_left
                · (intro w hSw; (try dsimp only at hSw); go_simp) <;> with_reducible rfl
                (try simp only [Act.put, List.getElem_toArray, List.getElem_cons_zero, List.getElem_cons_succ, List.setIfInBounds_toArray, List.set_cons_zero, List.set_cons_succ])
                refine wpAnyH_take (i := 2) (v := ?_) rfl (by kernel_rfl) (by kernel_rfl) (by kernel_rfl) (fun _ _ _ h => h) (Or.inl ⟨by kernel_rfl, ?_⟩) (by assumption) ?_
                rotate_left
                · (intro w hSw; (try dsimp only at hSw); go_simp) <;> with_reducible rfl
                (try simp only [Act.put, List.getElem_toArray, List.getElem_cons_zero, List.getElem_cons_succ, List.setIfInBounds_toArray, List.set_cons_zero, List.set_cons_succ])
                refine wpAnyH_take (i := 3) (v := ?_) rfl (by kernel_rfl) (by kernel_rfl) (by kernel_rfl) (fun _ _ _ h => h) (Or.inl ⟨by kernel_rfl, ?_⟩) (by assumption) ?_
                rotate_left
                · (intro w hSw; (try dsimp only at hSw); go_simp) <;> with_reducible rfl
                (try simp only [Act.put, List.getElem_toArray, List.getElem_cons_zero, List.getElem_cons_succ, List.setIfInBounds_toArray, List.set_cons_zero, List.set_cons_succ])
                refine wpAnyH_take (i := 4) (v := ?_) rfl (by kernel_rfl) (by kernel_rfl) (by kernel_rfl) (fun _ _ _ h => h) (Or.inl ⟨by kernel_rfl, ?_⟩) (by assumption) ?_
                rotate_left
                · (intro w hSw; (try dsimp only at hSw); go_simp) <;> with_reducible rfl
                (try simp only [Act.put, List.getElem_toArray, List.getElem_cons_zero, List.getElem_cons_succ, List.setIfInBounds_toArray, List.set_cons_zero, List.set_cons_succ])
                refine wpAnyH_take (i := 5) (v := ?_) rfl (by kernel_rfl) (by kernel_rfl) (by kernel_rfl) (fun _ _ _ h => h) (Or.inl ⟨by kernel_rfl, ?_⟩) (by assumption) ?_
                rotate_left
                · (intro w hSw; (try dsimp only at hSw); go_simp) <;> with_reducible rfl
                (try simp only [Act.put, List.getElem_toArray, List.getElem_cons_zero, List.getElem_cons_succ, List.setIfInBounds_toArray, List.set_cons_zero, List.set_cons_succ])
                refine wpAnyH_take (i := 7) (v := ?_) rfl (by kernel_rfl) (by kernel_rfl) (by kernel_rfl) (fun _ _ _ h => h) (Or.inl ⟨by kernel_rfl, ?_⟩) (by assumption) ?_
                rotate_left
                · (intro w hSw; (try dsimp only at hSw); go_simp) <;> with_reducible rfl
                (try simp only [Act.put, List.getElem_toArray, List.getElem_cons_zero, List.getElem_cons_succ, List.setIfInBounds_toArray, List.set_cons_zero, List.set_cons_succ])
                refine wpAnyH_take (i := 8) (v := ?_) rfl (by kernel_rfl) (by kernel_rfl) (by kernel_rfl) (fun _ _ _ h => h) (Or.inl ⟨by kernel_rfl, ?_⟩) (by assumption) ?_
                rotate_left
                · (intro w hSw; (try dsimp only at hSw); go_simp) <;> with_reducible rfl
                (try simp only [Act.put, List.getElem_toArray, List.getElem_cons_zero, List.getElem_cons_succ, List.setIfInBounds_toArray, List.set_cons_zero, List.set_cons_succ])
                refine wpAnyH_take (i := 9) (v := ?_) rfl (by kernel_rfl) (by kernel_rfl) (by kernel_rfl) (fun _ _ _ h => h) (Or.inl ⟨by kernel_rfl, ?_⟩) (by assumption) ?_
                rotate_left
                · (intro w hSw; (try dsimp only at hSw); go_simp) <;> with_reducible rfl
                (try simp only [Act.put, List.getElem_toArray, List.getElem_cons_zero, List.getElem_cons_succ, List.setIfInBounds_toArray, List.set_cons_zero, List.set_cons_succ])
                refine wpAnyH_take (i := 10) (v := ?_) rfl (by kernel_rfl) (by kernel_rfl) (by kernel_rfl) (fun _ _ _ h => h) (Or.inl ⟨by kernel_rfl, ?_⟩) (by assumption) ?_
                rotate_left
                · (intro w hSw; (try dsimp only at hSw); go_simp) <;> with_reducible rfl
                (try simp only [Act.put, List.getElem_toArray, List.getElem_cons_zero, List.getElem_cons_succ, List.setIfInBounds_toArray, List.set_cons_zero, List.set_cons_succ])
                refine wpAnyH_take (i := 11) (v := ?_) rfl (by kernel_rfl) (by kernel_rfl) (by kernel_rfl) (fun _ _ _ h => h) (Or.inl ⟨by kernel_rfl, ?_⟩) (by assumption) ?_
                rotate_left
                · (intro w hSw; (try dsimp only at hSw); go_simp) <;> with_reducible rfl
                (try simp only [Act.put, List.getElem_toArray, List.getElem_cons_zero, List.getElem_cons_succ, List.setIfInBounds_toArray, List.set_cons_zero, List.set_cons_succ])
                clear c0 c1 c2 c3 c4
                refine wpAnyH_ready (rs := [6]) (by kernel_rfl) (by simp) ?_
                refine AllReadyH.cons rfl (fun K hK => ?_) AllReadyH.nil
                go_simp
                refine (Remove_at HSd.out.fs HA.out (by omega) i s).mono ?_
                rintro e w3 ⟨rfl, hf, hbg⟩
                have hT3 := HSd.out.code hf hbg
                have hX3 : DBox w3 D ⟨kd, i, tn, s, p⟩ := HXd.out.keep hbg HDg.out.1 HDg.out.2.1
                obtain ⟨-, f1, -, f3, -⟩ := deedCellsD hX3
                dsimp only at f1 f3
                have hC2 := rremove_at hT3.es HA.out (by omega) HI.out H64.out.1 i s
                have HX3 : Hid (DBox w3 D ⟨kd, i, tn, s, p⟩) := hX3
                have HT3 : Hid (TwAt w w3 B G bx gx (rmF F i s) F (2000 + 300000 * k + 8000) (2000 + 300000 * k + 100)) := hT3
                clear hf hbg hT3 hX3
                refine hK.out _ _ ⟨f1, f3⟩ (fun hHeld => ?_)
                clear hK K
                (try simp only [Act.put, List.getElem_toArray, List.getElem_cons_zero, List.getElem_cons_succ, List.setIfInBounds_toArray, List.set_cons_zero, List.set_cons_succ])
                refine wpAnyH_ready (rs := [12]) (by kernel_rfl) (by simp) ?_
                refine AllReadyH.cons rfl (fun K hK => ?_) AllReadyH.nil
                go_simp
                refine hC2.mono ?_
                rintro e w4 ⟨rfl, hf, hbg⟩
                have HT4 : Hid (TwAt w w4 B G bx gx (rmF F i s) (rmF F i s) (2000 + 300000 * k + 200000) (2000 + 300000 * k + 280000)) := (HT3.out.ref hf hbg).mono (by omega) (by omega)
                have hX4 : DBox w4 D ⟨kd, i, tn, s, p⟩ := HX3.out.keep hbg HDg.out.2.2.1 HDg.out.2.2.2
                clear f1 f3
                obtain ⟨-, f1, -, f3, -⟩ := deedCellsD hX4
                dsimp only at f1 f3
                have HX4 : Hid (DBox w4 D ⟨kd, i, tn, s, p⟩) := hX4
                clear hC2 hf hbg hX4 HT3 HX3
                refine hK.out _ _ ⟨f1, f3⟩ (fun hHeld => ?_)
                clear hK K
                (try simp only [Act.put, List.getElem_toArray, List.getElem_cons_zero, List.getElem_cons_succ, List.setIfInBounds_toArray, List.set_cons_zero, List.set_cons_succ])
                refine wpAnyH_take (i := 13) (v := ?_) rfl (by kernel_rfl) (by kernel_rfl) (by kernel_rfl) (fun _ _ _ h => h) (Or.inl ⟨by kernel_rfl, ?_⟩) (by assumption) ?_
                rotate_left
                · (intro w hSw; (try dsimp only at hSw); go_simp) <;> with_reducible rfl
                (try simp only [Act.put, List.getElem_toArray, List.getElem_cons_zero, List.getElem_cons_succ, List.setIfInBounds_toArray, List.set_cons_zero, List.set_cons_succ])
                refine wpAnyH_take (i := 14) (v := ?_) rfl (by kernel_rfl) (by kernel_rfl) (by kernel_rfl) (fun _ _ _ h => h) (Or.inl ⟨by kernel_rfl, ?_⟩) (by assumption) ?_
                rotate_left
                · (intro w hSw; (try dsimp only at hSw); go_simp) <;> with_reducible rfl
                (try simp only [Act.put, List.getElem_toArray, List.getElem_cons_zero, List.getElem_cons_succ, List.setIfInBounds_toArray, List.set_cons_zero, List.set_cons_succ])
                refine wpAnyH_done (by kernel_rfl) ?_ _
                clear hHeld f1 f3
                go_wp2
                go_meet
                case rel => exact ⟨rfl, _, HT4.out, HX4.out, by rw [rm_n]; exact H64.out.1, HA.out.rem HI.out i s⟩
            · as_aux_lemma =>
                have hC := Walk_at HS2.out.fs HA.out (by omega) p HFt.out.path
                obtain ⟨x1, hx1⟩ : ∃ x, x = (walkR F p).1 := ⟨_, rfl⟩
                obtain ⟨x2, hx2⟩ : ∃ x, x = (walkR F p).2 := ⟨_, rfl⟩
                have HXq : Hid (x1 = (walkR F p).1 ∧ x2 = (walkR F p).2) := ⟨hx1, hx2⟩
                rw [← hx1, ← hx2] at hC
                clear hx1 hx2
                go_wp2_with fail
                refine hC.mono ?_
                rintro e w3 ⟨rfl, hf, hbg⟩
                have hT3 := HS2.out.code hf hbg
                have hX3 := HX2.out.keep hbg HDg.out.1 HDg.out.2.1
                have hR := rWalk_at hT3.es HI.out HA.out (by omega) p HFt.out.path
                rw [← HXq.out.1, ← HXq.out.2] at hR
                obtain ⟨-, -, -, -, f4⟩ := deedCellsD hX3
                dsimp only at f4
                have HX3 : Hid (DBox w3 D ⟨kd, i, tn, s, p⟩) := hX3
                have HT3 : Hid (TwAt w w3 B G bx gx F F (2000 + 300000 * k + 140000) (2000 + 300000 * k + 100)) := hT3
                clear hC hf hbg hT3 hX3 c0 c1 c2 c3 c4
                go_wp2_with fail
                refine hR.mono ?_
                rintro e w4 ⟨rfl, he, hbg⟩
                have HT4 : Hid (TwAt w w4 B G bx gx F F (2000 + 300000 * k + 200000) (2000 + 300000 * k + 280000)) := (HT3.out.ref he hbg).mono (by omega) (by omega)
                have HX4 : Hid (DBox w4 D ⟨kd, i, tn, s, p⟩) := HX3.out.keep hbg HDg.out.2.2.1 HDg.out.2.2.2
                clear hR he hbg HT3 f4 HX3
                go_wp2
                go_meet
                case rel => exact ⟨rfl, _, HT4.out, HX4.out, H64⟩
            · as_aux_lemma =>
                have hC := Parent_at HS2.out.fs HA.out (by omega) p HFt.out.path
                obtain ⟨x1, hx1⟩ : ∃ x, x = (paR F p).1 := ⟨_, rfl⟩
                obtain ⟨x2, hx2⟩ : ∃ x, x = (paR F p).2.1 := ⟨_, rfl⟩
                obtain ⟨x3, hx3⟩ : ∃ x, x = (paR F p).2.2 := ⟨_, rfl⟩
                have HXq : Hid (x1 = (paR F p).1 ∧ x2 = (paR F p).2.1 ∧ x3 = (paR F p).2.2) := ⟨hx1, hx2, hx3⟩
                rw [← hx1, ← hx2, ← hx3] at hC
                have hts := tx_same x2
                have hss := text_same x2
                clear hx1 hx2 hx3
                go_wp2_with fail
                refine hC.mono ?_
                rintro e w3 ⟨rfl, hf, hbg⟩
                have hT3 := HS2.out.code hf hbg
                have hX3 := HX2.out.keep hbg HDg.out.1 HDg.out.2.1
                have hR := rParent_at hT3.es HI.out HA.out (by omega) p HFt.out.path
                rw [← HXq.out.1, ← HXq.out.2.1, ← HXq.out.2.2] at hR
                obtain ⟨-, -, -, -, f4⟩ := deedCellsD hX3
                dsimp only at f4
                have HX3 : Hid (DBox w3 D ⟨kd, i, tn, s, p⟩) := hX3
                have HT3 : Hid (TwAt w w3 B G bx gx F F (2000 + 300000 * k + 150000) (2000 + 300000 * k + 100)) := hT3
                clear hC hf hbg hT3 hX3 c0 c1 c2 c3 c4
                go_wp2_with fail
                refine hR.mono ?_
                rintro e w4 ⟨rfl, he, hbg⟩
                have HT4 : Hid (TwAt w w4 B G bx gx F F (2000 + 300000 * k + 200000) (2000 + 300000 * k + 280000)) := (HT3.out.ref he hbg).mono (by omega) (by omega)
                have HX4 : Hid (DBox w4 D ⟨kd, i, tn, s, p⟩) := HX3.out.keep hbg HDg.out.2.2.1 HDg.out.2.2.2
                clear hR he hbg HT3 f4 HX3
                go_wp2
                go_meet
                case rel => exact ⟨rfl, _, HT4.out, HX4.out, H64⟩
            · as_aux_lemma =>
                go_wp2_with fail
                refine wp_region_held_drew (S := fun w' => w'.cell? ⟨D, 1, none⟩ = some (.int .i64 i) ∧ w'.cell? ⟨D, 3, none⟩ = some (tx s)) (by kernel_rfl) ⟨c1, c3⟩ (fun hHeld => ?_)
                refine wpAnyH_take (i := 0) (v := ?_) rfl (by kernel_rfl) (by kernel_rfl) (by kernel_rfl) (fun _ _ _ h => h) (Or.inl ⟨by kernel_rfl, ?_⟩) (by assumption) ?_
                rotate_left
                · (intro w hSw; (try dsimp only at hSw); go_simp) <;> with_reducible rfl
                (try simp only [Act.put, List.getElem_toArray, List.getElem_cons_zero, List.setIfInBounds_toArray, List.set_cons_zero, List.set_cons_succ])
                refine wpAnyH_take (i := 1) (v := ?_) rfl (by kernel_rfl) (by kernel_rfl) (by kernel_rfl) (fun _ _ _ h => h) (Or.inl ⟨by kernel_rfl, ?_⟩) (by assumption) ?_
                rotate_left
                · (intro w hSw; (try dsimp only at hSw); go_simp) <;> with_reducible rfl
                (try simp only [Act.put, List.getElem_toArray, List.getElem_cons_zero, List.getElem_cons_succ, List.setIfInBounds_toArray, List.set_cons_zero, List.set_cons_succ])
                refine wpAnyH_take (i := 2) (v := ?_) rfl (by kernel_rfl) (by kernel_rfl) (by kernel_rfl) (fun _ _ _ h => h) (Or.inl ⟨by kernel_rfl, ?_⟩) (by assumption) ?_
                rotate_left
                · (intro w hSw; (try dsimp only at hSw); go_simp) <;> with_reducible rfl
                (try simp only [Act.put, List.getElem_toArray, List.getElem_cons_zero, List.getElem_cons_succ, List.setIfInBounds_toArray, List.set_cons_zero, List.set_cons_succ])
                refine wpAnyH_take (i := 3) (v := ?_) rfl (by kernel_rfl) (by kernel_rfl) (by kernel_rfl) (fun _ _ _ h => h) (Or.inl ⟨by kernel_rfl, ?_⟩) (by assumption) ?_
                rotate_left
                · (intro w hSw; (try dsimp only at hSw); go_simp) <;> with_reducible rfl
                (try simp only [Act.put, List.getElem_toArray, List.getElem_cons_zero, List.getElem_cons_succ, List.setIfInBounds_toArray, List.set_cons_zero, List.set_cons_succ])
                refine wpAnyH_take (i := 4) (v := ?_) rfl (by kernel_rfl) (by kernel_rfl) (by kernel_rfl) (fun _ _ _ h => h) (Or.inl ⟨by kernel_rfl, ?_⟩) (by assumption) ?_
                rotate_left
                · (intro w hSw; (try dsimp only at hSw); go_simp) <;> with_reducible rfl
                (try simp only [Act.put, List.getElem_toArray, List.getElem_cons_zero, List.getElem_cons_succ, List.setIfInBounds_toArray, List.set_cons_zero, List.set_cons_succ])
                refine wpAnyH_take (i := 5) (v := ?_) rfl (by kernel_rfl) (by kernel_rfl) (by kernel_rfl) (fun _ _ _ h => h) (Or.inl ⟨by kernel_rfl, ?_⟩) (by assumption) ?_
                rotate_left
                · (intro w hSw; (try dsimp only at hSw); go_simp) <;> with_reducible rfl
                (try simp only [Act.put, List.getElem_toArray, List.getElem_cons_zero, List.getElem_cons_succ, List.setIfInBounds_toArray, List.set_cons_zero, List.set_cons_succ])
                refine wpAnyH_take (i := 7) (v := ?_) rfl (by kernel_rfl) (by kernel_rfl) (by kernel_rfl) (fun _ _ _ h => h) (Or.inl ⟨by kernel_rfl, ?_⟩) (by assumption) ?_
                rotate_left
                · (intro w hSw; (try dsimp only at hSw); go_simp) <;> with_reducible rfl
                (try simp only [Act.put, List.getElem_toArray, List.getElem_cons_zero, List.getElem_cons_succ, List.setIfInBounds_toArray, List.set_cons_zero, List.set_cons_succ])
                refine wpAnyH_take (i := 8) (v := ?_) rfl (by kernel_rfl) (by kernel_rfl) (by kernel_rfl) (fun _ _ _ h => h) (Or.inl ⟨by kernel_rfl, ?_⟩) (by assumption) ?_
                rotate_left
                · (intro w hSw; (try dsimp only at hSw); go_simp) <;> with_reducible rfl
                (try simp only [Act.put, List.getElem_toArray, List.getElem_cons_zero, List.getElem_cons_succ, List.setIfInBounds_toArray, List.set_cons_zero, List.set_cons_succ])
                refine wpAnyH_take (i := 9) (v := ?_) rfl (by kernel_rfl) (by kernel_rfl) (by kernel_rfl) (fun _ _ _ h => h) (Or.inl ⟨by kernel_rfl, ?_⟩) (by assumption) ?_
                rotate_left
                · (intro w hSw; (try dsimp only at hSw); go_simp) <;> with_reducible rfl
                (try simp only [Act.put, List.getElem_toArray, List.getElem_cons_zero, List.getElem_cons_succ, List.setIfInBounds_toArray, List.set_cons_zero, List.set_cons_succ])
                refine wpAnyH_take (i := 10) (v := ?_) rfl (by kernel_rfl) (by kernel_rfl) (by kernel_rfl) (fun _ _ _ h => h) (Or.inl ⟨by kernel_rfl, ?_⟩) (by assumption) ?_
                rotate_left
                · (intro w hSw; (try dsimp only at hSw); go_simp) <;> with_reducible rfl
                (try simp only [Act.put, List.getElem_toArray, List.getElem_cons_zero, List.getElem_cons_succ, List.setIfInBounds_toArray, List.set_cons_zero, List.set_cons_succ])
                refine wpAnyH_take (i := 11) (v := ?_) rfl (by kernel_rfl) (by kernel_rfl) (by kernel_rfl) (fun _ _ _ h => h) (Or.inl ⟨by kernel_rfl, ?_⟩) (by assumption) ?_
                rotate_left
                · (intro w hSw; (try dsimp only at hSw); go_simp) <;> with_reducible rfl
                (try simp only [Act.put, List.getElem_toArray, List.getElem_cons_zero, List.getElem_cons_succ, List.setIfInBounds_toArray, List.set_cons_zero, List.set_cons_succ])
                clear c0 c1 c2 c3 c4
                refine wpAnyH_ready (rs := [6]) (by kernel_rfl) (by simp) ?_
                refine AllReadyH.cons rfl (fun K hK => ?_) AllReadyH.nil
                go_simp
                refine (Find_at HSd.out.fs HA.out (by omega) i s).mono ?_
                rintro e w3 ⟨rfl, hf, hbg⟩
                have hT3 := HSd.out.code hf hbg
                have hX3 : DBox w3 D ⟨kd, i, tn, s, p⟩ := HXd.out.keep hbg HDg.out.1 HDg.out.2.1
                obtain ⟨-, f1, -, f3, -⟩ := deedCellsD hX3
                dsimp only at f1 f3
                have hC2 := rfind_at hT3.es HA.out (by omega) HI.out i s
                have HX3 : Hid (DBox w3 D ⟨kd, i, tn, s, p⟩) := hX3
                have HT3 : Hid (TwAt w w3 B G bx gx F F (2000 + 300000 * k + 4000) (2000 + 300000 * k + 100)) := hT3
                clear hf hbg hT3 hX3
                refine hK.out _ _ ⟨f1, f3⟩ (fun hHeld => ?_)
                clear hK K
                (try simp only [Act.put, List.getElem_toArray, List.getElem_cons_zero, List.getElem_cons_succ, List.setIfInBounds_toArray, List.set_cons_zero, List.set_cons_succ])
                refine wpAnyH_ready (rs := [12]) (by kernel_rfl) (by simp) ?_
                refine AllReadyH.cons rfl (fun K hK => ?_) AllReadyH.nil
                go_simp
                refine hC2.mono ?_
                rintro e w4 ⟨rfl, hf, hbg⟩
                have HT4 : Hid (TwAt w w4 B G bx gx F F (2000 + 300000 * k + 200000) (2000 + 300000 * k + 280000)) := (HT3.out.ref hf hbg).mono (by omega) (by omega)
                have hX4 : DBox w4 D ⟨kd, i, tn, s, p⟩ := HX3.out.keep hbg HDg.out.2.2.1 HDg.out.2.2.2
                clear f1 f3
                obtain ⟨-, f1, -, f3, -⟩ := deedCellsD hX4
                dsimp only at f1 f3
                have HX4 : Hid (DBox w4 D ⟨kd, i, tn, s, p⟩) := hX4
                clear hC2 hf hbg hX4 HT3 HX3
                refine hK.out _ _ ⟨f1, f3⟩ (fun hHeld => ?_)
                clear hK K
                (try simp only [Act.put, List.getElem_toArray, List.getElem_cons_zero, List.getElem_cons_succ, List.setIfInBounds_toArray, List.set_cons_zero, List.set_cons_succ])
                refine wpAnyH_take (i := 13) (v := ?_) rfl (by kernel_rfl) (by kernel_rfl) (by kernel_rfl) (fun _ _ _ h => h) (Or.inl ⟨by kernel_rfl, ?_⟩) (by assumption) ?_
                rotate_left
                · (intro w hSw; (try dsimp only at hSw); go_simp) <;> with_reducible rfl
                (try simp only [Act.put, List.getElem_toArray, List.getElem_cons_zero, List.getElem_cons_succ, List.setIfInBounds_toArray, List.set_cons_zero, List.set_cons_succ])
                refine wpAnyH_take (i := 14) (v := ?_) rfl (by kernel_rfl) (by kernel_rfl) (by kernel_rfl) (fun _ _ _ h => h) (Or.inl ⟨by kernel_rfl, ?_⟩) (by assumption) ?_
                rotate_left
                · (intro w hSw; (try dsimp only at hSw); go_simp) <;> with_reducible rfl
                (try simp only [Act.put, List.getElem_toArray, List.getElem_cons_zero, List.getElem_cons_succ, List.setIfInBounds_toArray, List.set_cons_zero, List.set_cons_succ])
                refine wpAnyH_done (by kernel_rfl) ?_ _
                clear hHeld f1 f3
                go_wp2
                go_meet
                case rel => exact ⟨rfl, _, HT4.out, HX4.out, H64⟩
          case rest => as_aux_lemma =>
              clear c0 c1 c2 c3 c4 HS2 HX2
              obtain ⟨rfl, F', hT, hX, H64'⟩ := hcut
              obtain ⟨-, c1, -, -, -⟩ := deedCellsD hX
              dsimp only at c1
              have hC := List_at hT.fs H64'.out.2 (by omega) i
              have h21 := dir_len H64'.out.2 i
              have HT : Hid (TwAt w wc B G bx gx F' F' (2000 + 300000 * k + 200000) (2000 + 300000 * k + 280000)) := hT
              have HX : Hid (DBox wc D ⟨kd, i, tn, s, p⟩) := hX
              obtain ⟨ta, hta⟩ : ∃ x, x = (dirL F' i).map Ent.name := ⟨_, rfl⟩
              obtain ⟨na, hna⟩ : ∃ x, x = (dirL F' i).map Ent.to := ⟨_, rfl⟩
              have HL : Hid (ta = (dirL F' i).map Ent.name ∧ na = (dirL F' i).map Ent.to) := ⟨hta, hna⟩
              have HLt : Hid (ta.length ≤ 1000) := by rw [hta, List.length_map]; show _ ≤ _; omega
              have HLn : Hid (na.length ≤ 1000) := by rw [hna, List.length_map]; show _ ≤ _; omega
              rw [← hta, ← hna] at hC
              clear hT hX hta hna h21
              go_wp2_with fail
              refine hC.mono ?_
              rintro e w5 ⟨va, ua, rfl, hTs, hNs, hf, hbg⟩
              have hT5 := HT.out.code hf hbg
              have hX5 : DBox w5 D ⟨kd, i, tn, s, p⟩ := HX.out.keep hbg HDg.out.1 HDg.out.2.1
              have hR := rlist_at hT5.es H64'.out.2 (by omega) hT5.fs.inv i
              rw [← HL.out.1, ← HL.out.2] at hR
              have HV5 : Hid (Ts w5 wc.heap.size va ta ∧ Ns w5 wc.heap.size ua na) := ⟨hTs, hNs⟩
              have HGx : Hid (bx < wc.heap.size ∧ gx < wc.heap.size) := HT.out.es.lt
              have HT5 : Hid (TwAt w w5 B G bx gx F' F' (2000 + 300000 * k + 200000 + 4000) (2000 + 300000 * k + 280000)) := hT5
              obtain ⟨xa, xc, rfl, -⟩ := hTs.form
              obtain ⟨ya, yc, rfl, -⟩ := hNs.form
              clear c1
              obtain ⟨-, c1, -, -, -⟩ := deedCellsD hX5
              dsimp only at c1
              clear hC hTs hNs hf hbg hT5 hX5 HT HX
              go_wp2_with fail
              refine hR.mono ?_
              rintro e w6 ⟨vb, ub, rfl, hTs, hNs, he, hbg⟩
              have HT6 : Hid (TwAt w w6 B G bx gx F' F' (2000 + 300000 * k + 204000) (2000 + 300000 * k + 284000)) := (HT5.out.ref he hbg).mono (by omega) (by omega)
              have hV6 := HV5.out.1.keep hbg (fun j hj => by have := HGx.out; rcases hj with e | e <;> omega)
              have hU6 := HV5.out.2.keep hbg (fun j hj => by have := HGx.out; rcases hj with e | e <;> omega)
              have hX := texts_same _ _ _ _ _ w6 hV6 hTs HLt.out
              have HNn : Hid (Ns w6 wc.heap.size _ na ∧ Ns w6 w5.heap.size ub na) := ⟨hU6, hNs⟩
              obtain ⟨xa', xc', rfl, -⟩ := hTs.form
              obtain ⟨ya', yc', rfl, -⟩ := hNs.form
              clear hR hTs hNs he hbg hV6 hU6 HV5 HT5 c1
              go_wp2_with fail
              refine hX.mono ?_
              rintro e w7 ⟨rfl, hq⟩
              have hb7 := Di.drewN_below hq
              have HT7 : Hid (TwAt w w7 B G bx gx F' F' (2000 + 300000 * k + 204000) (2000 + 300000 * k + 284000)) := HT6.out.below hb7
              have hY := ints_same _ _ _ _ _ w7 (HNn.out.1.below hb7) (HNn.out.2.below hb7) HLn.out
              clear hX hq hb7 HT6 HNn
              go_wp2_with fail
              refine hY.mono ?_
              rintro e w8 ⟨rfl, hq⟩
              have hb8 := Di.drewN_below hq
              have hT8 := HT7.out.below hb8
              have hA := hT8.alike (by omega) (by omega) H64'.out.1
              clear hY hq hb8 HT7 hT8
              go_wp2_with fail
              refine hA.mono ?_
              rintro e w9 ⟨rfl, hT9⟩
              have HT9 : Hid (TwAt w w9 B G bx gx F' F' (2000 + 300000 * (k + 1)) (2000 + 300000 * (k + 1))) := hT9.mono (by omega) (by omega)
              clear hA hT9
              go_wp2
              go_roundw
              case rel => exact ⟨k + 1, F', by omega, by omega, by go_num, HT9.out, H64'⟩
              case measure => simp [RowKit.intOf]; omega
    · have hend : k < len ∧ ¬ k < 80 ∨ ¬ k < len := by omega
      clear hlt
      have HS : Hid _ := hS
      have hA := awake_at wr
      clear hS
      rcases hend with ⟨g0, g1⟩ | g0
      all_goals
        go_wp2_with (first | (go_at_call 11; refine hA.mono ?_; rintro e w7 ⟨rfl, hb7⟩) | go_in)
        go_ret
        exact ⟨rfl, HS.out.old.trans (hb7.mono HS.out.old.size)⟩
end Go.Proofs.YtcaofdbcgdgbbaaGreatDoor
