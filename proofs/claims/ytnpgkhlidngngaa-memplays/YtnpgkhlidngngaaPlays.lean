/- Proved: januslaw01.MemPlays answers true for every number of frames and every list of deeds (each answer, and all words behind each, are the document's), at the commit of this claim; no condition beyond the row's own. -/
import Derived.Test.YtnpgkhlidngngaaPlaysA
import Derived.Deep.DeepCutAuto
import Derived.Deep.CutBlock
import Derived.Deep.RegionHeld3
import Derived.Deep.DrawnRows
import Derived.ProofKit
import Derived.OpenShut
import Derived.ChangeOld
import Derived.Below
namespace Go.Proofs.Ytnpgkhlidngngaa
open Go.ChangeShapes Go.WideShapes Go.ChangeAt Go.RowKit
set_option linter.unusedVariables false

/-- Both memories hold the same words. -/
structure Same (w wr : World) (B n gx cap : Nat) (rs : List Nat) (vs : List Int) : Prop where
  mem : MemAt wr (B + 1) B n vs
  ref : RefAt wr (B + 2) gx cap n rs vs
  hgx : B + 2 < gx
  hrs : ∀ i, i < n → B + 2 < rs.getD i 0
  old : Below B w wr

attribute [local go_sem ↓] Go.wp_at_zero Go.wp_at_succ

theorem Same.two {w wr : World} {B n gx cap : Nat} {rs : List Nat} {vs : List Int} (h : Same w wr B n gx cap rs vs) (kd f d x : Int) :
    Two w (wr.alloc (.cells #[.int .i64 kd, .int .i64 f, .int .i64 d, .int .u64 x] 29)) B n gx cap wr.heap.size rs vs vs kd f d x := by
  have hb : Below wr.heap.size wr (wr.alloc (.cells #[.int .i64 kd, .int .i64 f, .int .i64 d, .int .u64 x] 29)) := (Below.refl _ _).alloc (Nat.le_refl _) _
  have hx := lt_of_heap h.ref.head
  have ht := h.ref.tablt
  exact ⟨h.mem.below hb, h.ref.below hb, h.hgx, h.hrs, h.old.trans (hb.mono (by omega)), heap_alloc_new _ _, by omega, by omega, fun i hi => by have := lt_of_heap (h.ref.row i hi); omega⟩
theorem Two.same {w W : World} {B n gx cap H : Nat} {rs : List Nat} {vs : List Int} {kd f d x : Int} (h : Two w W B n gx cap H rs vs vs kd f d x) : Same w W B n gx cap rs vs :=
  ⟨h.mem, h.ref, h.hgx, h.hrs, h.old⟩

theorem plays_no (n : Int) (a0 : Option Addr) (len cap : Nat) (w : World) (h : n < 1 ∨ 1024 < n) :
    Calls Try.prog 3 #[.int .i64 n, .slice a0 len cap] w fun e w' => e = .returned (.bool true) ∧ Below w.heap.size w w' := by
  go_enter Try.func3, Try.ntmps3
  go_wp2_with fail
  refine (new_no n _ h).mono ?_
  rintro e w1 ⟨rfl, rfl⟩
  go_wp2_with fail
  refine (rnew_no n _ h).mono ?_
  rintro e w1 ⟨rfl, rfl⟩
  go_wp2_with fail
  refine wp_loop_rounds 1 ?_
  rw [rounds_succ]
  go_wp2_with fail
  all_goals
    refine (awake_any _).mono ?_
    rintro e w1 ⟨rfl, hb⟩
    go_wp2_with fail
    go_ret
    exact ⟨rfl, hb⟩

set_option maxRecDepth 100000 in
set_option maxHeartbeats 4000000 in
theorem plays_yes (n : Int) (a0 : Option Addr) (len cap : Nat) (w : World) (h1 : 1 ≤ n) (h2 : n ≤ 1024) (hlen : len ≤ 9223372036854775807)
    (HC : Hid (∀ j, j < len → ∃ gb off, a0 = some ⟨gb, off, none⟩ ∧ ∃ k f d v : Int, w.cell? ⟨gb, off + j * 4, none⟩ = some (.int .i64 k) ∧ w.cell? ⟨gb, off + j * 4 + 1, none⟩ = some (.int .i64 f) ∧ w.cell? ⟨gb, off + j * 4 + 2, none⟩ = some (.int .i64 d) ∧ w.cell? ⟨gb, off + j * 4 + 3, none⟩ = some (.int .u64 v))) :
    Calls Try.prog 3 #[.int .i64 n, .slice a0 len cap] w fun e w' => e = .returned (.bool true) ∧ Below w.heap.size w w' := by
  obtain ⟨N, rfl⟩ := nat_of n (by omega)
  go_enter Try.func3, Try.ntmps3
  go_wp2_with fail
  refine (new_at N _ (by omega) (by omega)).mono ?_
  rintro e w1 ⟨rfl, hm1, hb1, hs1⟩
  have HS1 : Hid _ := hs1
  have HM1 : Hid (MemAt w1 (w.heap.size + 1) w.heap.size N (List.replicate (N * 32) 0)) := hm1
  clear hs1 hm1
  go_wp2_with fail
  refine (rnew_at N _ (by omega) (by omega)).mono ?_
  rintro e w2 ⟨rfl, ⟨v, rs, hmk⟩, hb2⟩
  have e1 : w1.heap.size = w.heap.size + 2 := HS1.out
  rw [e1] at hmk hb2 ⊢
  obtain ⟨gx, cap', hr2, hgx, hrs⟩ := hmk.done (by omega)
  have hsame : Same w w2 w.heap.size N gx cap' rs (List.replicate (N * 32) 0) :=
    ⟨(HM1.out).keep (hb2.block _ (by omega)) (hb2.block _ (by omega)), hr2, hgx, hrs, hb1.trans (hb2.mono (by omega))⟩
  clear hmk hr2 hb2 hb1 HM1 HS1 e1
  go_wp2_with fail
  go_loopw [7] (fun i wr => ∃ (k : Nat) (vs : List Int), k ≤ len ∧ k ≤ 200 ∧ i = .int .i64 k ∧ Same w wr w.heap.size N gx cap' rs vs) (fun i _ => 200 - (intOf i).toNat)
  case atStart => exact ⟨0, _, Nat.zero_le _, Nat.zero_le _, rfl, hsame⟩
  case round =>
    obtain ⟨k, vs, hk, hk2, rfl, hs⟩ := hrel
    by_cases hlt : k < len ∧ k < 200
    · obtain ⟨l1, l2⟩ := hlt
      obtain ⟨gb, off, rfl, kd, f, d, x, c0, c1, c2, c3⟩ := HC.out k l1
      have c0' := (hs.old.cell (cell_lt c0)).trans c0
      have c1' := (hs.old.cell (cell_lt c1)).trans c1
      have c2' := (hs.old.cell (cell_lt c2)).trans c2
      have c3' := (hs.old.cell (cell_lt c3)).trans c3
      clear c0 c1 c2 c3
      go_upto_block 2 with fail
      go_cut [9] (fun ok wc => ok = .bool true ∧ ∃ vs', Two w wc w.heap.size N gx cap' wr.heap.size rs vs' vs' kd f d x)
      case first =>
        have ht := hs.two kd f d x
        generalize wr.alloc (.cells #[.int .i64 kd, .int .i64 f, .int .i64 d, .int .u64 x] 29) = W at ht ⊢
        have htd : Two w W.drew w.heap.size N gx cap' wr.heap.size rs vs vs kd f d x := ht.below ⟨rfl, rfl, rfl, Nat.le_refl _, fun _ _ => rfl⟩
        have b1 := ht.c1
        have b2 := ht.c2
        have b3 := ht.c3
        clear hs c0' c1' c2' c3' HC hsame
        have kinds : (kd == 0) = true ∨ ((kd == 0) = false ∧ (kd == 1) = true) ∨ ((kd == 0) = false ∧ (kd == 1) = false ∧ (kd == 2) = true) ∨ ((kd == 0) = false ∧ (kd == 1) = false ∧ (kd == 2) = false) := by
          simp only [beq_iff_eq, beq_eq_false_iff_ne]
          omega
        rcases kinds with t0 | ⟨t0, t1⟩ | ⟨t0, t1, t2⟩ | ⟨t0, t1, t2⟩
        · go_wp2_with fail
          refine (two_read_m ht).mono ?_
          rintro e w3 ⟨rfl, rfl⟩
          go_wp2_with fail
          refine (two_read_x ht).mono ?_
          rintro e w3 ⟨rfl, rfl⟩
          go_wp2_with fail
          go_meet
          case rel => exact ⟨by simp, _, ht⟩
        · go_wp2_with fail
          go_region_held3 (fun w' => w'.cell? ⟨wr.heap.size, 1, none⟩ = some (.int .i64 f) ∧ w'.cell? ⟨wr.heap.size, 2, none⟩ = some (.int .i64 d) ∧ w'.cell? ⟨wr.heap.size, 3, none⟩ = some (.int .u64 x))
            (first | go_keep | (exact ⟨hq.c1, hq.c2, hq.c3⟩))
            (first
              | (go_at_call 12; refine (two_write_m (by assumption)).mono ?_; rintro e wq ⟨rfl, hq⟩)
              | (go_at_call 13; refine (two_write_x (by assumption)).mono ?_; rintro e wq ⟨rfl, hq⟩))
          all_goals
            go_wp2_with fail
            go_meet
            case rel => exact ⟨by simp, _, hq⟩
        · go_wp2_with fail
          go_region_held3 (fun w' => w'.cell? ⟨wr.heap.size, 1, none⟩ = some (.int .i64 f) ∧ w'.cell? ⟨wr.heap.size, 2, none⟩ = some (.int .i64 d) ∧ w'.cell? ⟨wr.heap.size, 3, none⟩ = some (.int .u64 x))
            (first | go_keep | (exact ⟨hq.c1, hq.c2, hq.c3⟩))
            (first
              | (go_at_call 14; refine (two_copy_m (by assumption)).mono ?_; rintro e wq ⟨rfl, hq⟩)
              | (go_at_call 15; refine (two_copy_x (by assumption)).mono ?_; rintro e wq ⟨rfl, hq⟩))
          all_goals
            go_wp2_with fail
            go_meet
            case rel => exact ⟨by simp, _, hq⟩
        · go_wp2_with fail
          go_region_held3 (fun w' => w'.cell? ⟨wr.heap.size, 1, none⟩ = some (.int .i64 f) ∧ w'.cell? ⟨wr.heap.size, 2, none⟩ = some (.int .i64 d) ∧ w'.cell? ⟨wr.heap.size, 3, none⟩ = some (.int .u64 x))
            (first | go_keep | (exact ⟨hq.c1, hq.c2, hq.c3⟩))
            (first
              | (go_at_call 16; refine (two_zero_m (by assumption)).mono ?_; rintro e wq ⟨rfl, hq⟩)
              | (go_at_call 17; refine (two_zero_x (by assumption)).mono ?_; rintro e wq ⟨rfl, hq⟩))
          all_goals
            go_wp2_with fail
            go_meet
            case rel => exact ⟨by simp, _, hq⟩
      case rest =>
        obtain ⟨rfl, vs', ht⟩ := hcut
        have htd : Two w wc.drew w.heap.size N gx cap' wr.heap.size rs vs' vs' kd f d x := ht.below ⟨rfl, rfl, rfl, Nat.le_refl _, fun _ _ => rfl⟩
        have hl := ht.mem.len
        have HL : Hid _ := hl
        have b1 := ht.c1
        have b2 := ht.xl
        clear hl hs c0' c1' c2' c3' HC hsame
        go_wp2_with fail
        go_region_held3 (fun w' => w'.cell? ⟨wr.heap.size, 1, none⟩ = some (.int .i64 f) ∧ w'.cell? ⟨w.heap.size + 2, 0, none⟩ = some (.slice (some ⟨gx, 0, none⟩) N cap'))
          (first | go_keep | (exact ⟨hw.c1, hw.xl⟩) | (exact ⟨hq.c1, hq.xl⟩))
          (first
            | (go_at_call 18; refine (two_frames_m (by assumption)).mono ?_; rintro e wq ⟨rfl, rfl⟩)
            | (go_at_call 20; refine (two_page_m (by assumption)).mono ?_; rintro e wq ⟨p, rfl, hp, hq, hkp⟩)
            | (go_at_call 21; refine (two_page_x (by assumption)).mono ?_; rintro e wz ⟨p2, rfl, hp2, rfl⟩)
            | (go_at_call 19; refine (two_words N vs' f _ _ _ HL.out hp hp2).mono ?_; rintro e wz ⟨rfl, hbz⟩; have hw := hq.below hbz)
            | (go_at_call 19; refine (two_words N vs' f _ _ _ HL.out hp (hkp _ _ hp2)).mono ?_; rintro e wz ⟨rfl, hbz⟩; have hw := hq.below hbz))
        all_goals
          go_wp2_with fail
          go_roundw
          case rel => exact ⟨k + 1, vs', by omega, by omega, by go_num, hw.same⟩
          case measure => simp [intOf]; omega
    · have HS : Hid _ := hs
      clear hs HC
      have hkl : k < len ∨ len ≤ k := by omega
      rcases hkl with hkl | hkl
      all_goals
        go_wp2_with fail
        refine (awake_any _).mono ?_
        rintro e w6 ⟨rfl, hb6⟩
        go_wp2_with fail
        go_ret
        have q := Same.old HS.out
        exact ⟨rfl, q.trans (hb6.mono q.size)⟩

end Go.Proofs.Ytnpgkhlidngngaa
