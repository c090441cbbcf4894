/- The walk of januslaw03.BlocksPlays: any deeds on any disk. -/
import Derived.Test.YtoceadcifgkimaaPlaysA3
import Derived.Deep.DeepCutAuto
import Derived.Deep.CutBlock
namespace Go.Proofs.Ytoceadcifgkimaa
open Go.RowKit
set_option linter.unusedVariables false

theorem plays_no (n : Int) (a0 : Option Addr) (len cap : Nat) (w : World) (h : n < 1 ∨ 1024 < n) :
    Calls Try.prog 3 #[.int .i64 n, .slice a0 len cap] w fun e w' => e = .returned (.bool true) ∧ Below w.heap.size w w' := by
  go_enter Try.func3, Try.ntmps3
  go_wp2_with fail
  refine (new_no n _ h).mono ?_
  rintro e w1 ⟨rfl, rfl⟩
  go_wp2_with fail
  refine (rnew_no n _ h).mono ?_
  rintro e w1 ⟨rfl, rfl⟩
  go_wp2_with fail
  refine wp_loop_rounds 1 ?_
  rw [rounds_succ]
  go_wp2_with fail
  all_goals
    refine (awake_any _).mono ?_
    rintro e w1 ⟨rfl, hb⟩
    go_wp2_with fail
    go_ret
    exact ⟨rfl, hb⟩

/-- Both disks alike, at a round's head. -/
structure Same (w W : World) (n gx cap : Nat) (vs : List Int) (g p : Nat) : Prop where
  disk : DiskAt W (w.heap.size + 1) w.heap.size n vs g p
  ref : RefAt W (w.heap.size + 2) gx cap n vs g p
  old : Below w.heap.size w W

theorem Same.two {w W : World} {n gx cap : Nat} {vs : List Int} {g p : Nat} (h : Same w W n gx cap vs g p) (pb : Bool) (b m v : Int) :
    Two w (W.alloc (.cells (deedRow pb b m v) 29)) w.heap.size n gx cap W.heap.size vs vs g p g p pb b m v := by
  have hb : Below W.heap.size W (W.alloc (.cells (deedRow pb b m v) 29)) := (Below.refl _ _).alloc (Nat.le_refl _) _
  exact ⟨h.disk.below hb, h.ref.below hb, h.old.trans (hb.mono h.old.size), heap_alloc_new _ _, h.ref.glt, Nat.le_refl _⟩
theorem Two.same {w W : World} {n gx cap H : Nat} {vs : List Int} {g p : Nat} {pb : Bool} {b m v : Int} (h : Two w W w.heap.size n gx cap H vs vs g p g p pb b m v) : Same w W n gx cap vs g p := ⟨h.disk, h.ref, h.old⟩

set_option maxRecDepth 100000 in
set_option maxHeartbeats 4000000 in
theorem plays_yes (n : Int) (a0 : Option Addr) (len cap : Nat) (w : World) (h1 : 1 ≤ n) (h2 : n ≤ 1024) (hlen : len ≤ 9223372036854775807)
    (HC : Hid (∀ j, j < len → ∃ gb off, a0 = some ⟨gb, off, none⟩ ∧ ∃ (pb : Bool) (b m v : Int), w.cell? ⟨gb, off + j * 4, none⟩ = some (.bool pb) ∧ w.cell? ⟨gb, off + j * 4 + 1, none⟩ = some (.int .i64 b) ∧ w.cell? ⟨gb, off + j * 4 + 2, none⟩ = some (.int .i64 m) ∧ w.cell? ⟨gb, off + j * 4 + 3, none⟩ = some (.int .u64 v))) :
    Calls Try.prog 3 #[.int .i64 n, .slice a0 len cap] w fun e w' => e = .returned (.bool true) ∧ Below w.heap.size w w' := by
  obtain ⟨N, rfl⟩ := nat_of n (by omega)
  go_enter Try.func3, Try.ntmps3
  go_wp2_with fail
  refine (new_at N _ (by omega) (by omega)).mono ?_
  rintro e w1 ⟨rfl, hm1, hb1, hs1⟩
  have HS1 : Hid _ := hs1
  have HM1 : Hid (DiskAt w1 (w.heap.size + 1) w.heap.size N (List.replicate (N * 32) 0) 0 0) := hm1
  clear hs1 hm1
  go_wp2_with fail
  refine (rnew_ref N _ (by omega) (by omega)).mono ?_
  rintro e w2 ⟨rfl, ⟨gx, cap', hr2⟩, hb2⟩
  have e1 : w1.heap.size = w.heap.size + 2 := HS1.out
  rw [e1] at hr2 hb2 ⊢
  have hsame : Same w w2 N gx cap' (List.replicate (N * 32) 0) 0 0 :=
    ⟨(HM1.out).keep (hb2.block _ (by omega)) (hb2.block _ (by omega)), hr2, hb1.trans (hb2.mono (by omega))⟩
  clear hr2 hb2 hb1 HM1 HS1 e1
  go_wp2_with fail
  go_loopw [7] (fun i wr => ∃ (k : Nat) (vs : List Int) (g p : Nat), k ≤ len ∧ k ≤ 200 ∧ i = .int .i64 k ∧ g ≤ k ∧ p ≤ k ∧ Same w wr N gx cap' vs g p) (fun i _ => 200 - (intOf i).toNat)
  case atStart => exact ⟨0, _, 0, 0, Nat.zero_le _, Nat.zero_le _, rfl, Nat.le_refl _, Nat.le_refl _, hsame⟩
  case round =>
    obtain ⟨k, vs, g, p, hk, hk2, rfl, hgk, hpk, hs⟩ := hrel
    by_cases hlt : k < len ∧ k < 200
    · obtain ⟨l1, l2⟩ := hlt
      obtain ⟨gb, off, rfl, pb, b, m, v, c0, c1, c2, c3⟩ := HC.out k l1
      have c0' := (hs.old.cell (cell_lt c0)).trans c0
      have c1' := (hs.old.cell (cell_lt c1)).trans c1
      have c2' := (hs.old.cell (cell_lt c2)).trans c2
      have c3' := (hs.old.cell (cell_lt c3)).trans c3
      clear c0 c1 c2 c3
      go_upto_if 43 with fail
      go_cut [9, 10, 11, 12] (fun _ _ _ _ wc => ∃ vs' g' p', g' ≤ k + 1 ∧ p' ≤ k + 1 ∧ Two w wc w.heap.size N gx cap' wr.heap.size vs' vs' g' p' g' p' pb b m v)
      case first =>
        have ht := hs.two pb b m v
        unfold deedRow at ht
        obtain ⟨W, hW⟩ : ∃ W, W = wr.alloc (.cells #[.bool pb, .int .i64 b, .int .i64 m, .int .u64 v] 29) := ⟨_, rfl⟩
        rw [← hW] at ht ⊢
        clear hs c0' c1' c2' c3' HC hsame hW
        have htd : Two w W.drew w.heap.size N gx cap' wr.heap.size vs vs g p g p pb b m v := ht.below ⟨rfl, rfl, rfl, Nat.le_refl _, fun _ _ => rfl⟩
        have d1 := ht.cb1
        have d2 := ht.cb2
        have d3 := ht.cb3
        cases pb
        · go_wp2_with fail
          refine (two_get_m ht (by omega)).mono ?_
          rintro e w3 ⟨u3, rfl, hr3, hq3, hk3⟩
          have d1' := hq3.cb1
          go_wp2_with fail
          refine (two_get_x hq3 (by omega)).mono ?_
          rintro e w4 ⟨u4, rfl, hr4, hq4, hk4⟩
          have hr5 := hr3.keep hk4
          go_wp2_with fail
          refine (words_same _ _ _ _ _ _ hr5 hr4 (getL_len ht)).mono ?_
          rintro e w5 ⟨rfl, hq5⟩
          have hq6 := hq4.below (drewN_below hq5)
          clear hq5
          go_wp2_with fail
          go_meet
          case rel => exact ⟨vs, _, p, getC_le _ _ _ _ hgk, by omega, hq6⟩
        · go_wp2_with fail
          go_region_held3 (fun w' => w'.cell? ⟨wr.heap.size, 1, none⟩ = some (.int .i64 b) ∧ w'.cell? ⟨wr.heap.size, 2, none⟩ = some (.int .i64 m) ∧ w'.cell? ⟨wr.heap.size, 3, none⟩ = some (.int .u64 v))
            (first | go_keep | (exact ⟨hq.cb1, hq.cb2, hq.cb3⟩))
            (first
              | (go_at_call 10; refine (two_block (by assumption)).mono ?_; rintro e wq ⟨u, rfl, hr, hq, hk⟩)
              | (go_at_call 9; refine (two_put_m (by assumption) hr (by omega)).mono ?_; rintro e wq ⟨rfl, hq, hk⟩)
              | (go_at_call 11; refine (two_put_x (by assumption) hr (by omega)).mono ?_; rintro e wq ⟨rfl, hq, hk⟩))
          all_goals
            go_wp2_with fail
            go_meet
            case rel => exact ⟨_, g, _, by omega, putC_le _ _ _ _ _ hpk, hq⟩
      case rest =>
        obtain ⟨vs', g', p', hg', hp', ht⟩ := hcut
        clear hs c0' c1' c2' c3' HC hsame
        go_wp2_with fail
        refine (moves_at _ _ _ _ _ _ _ ht.disk).mono ?_
        rintro e w5 ⟨rfl, hq5⟩
        have hq := ht.below (drewN_below hq5)
        have hqd : Two w w5.drew w.heap.size N gx cap' wr.heap.size vs' vs' g' p' g' p' pb b m v := hq.below ⟨rfl, rfl, rfl, Nat.le_refl _, fun _ _ => rfl⟩
        clear hq5 ht
        have x0 := hq.ref.c0
        have x1 := hq.ref.c1
        have x2 := hq.ref.c2
        go_wp2_with fail
        go_region_held3 (fun w' => w'.cell? ⟨w.heap.size + 2, 0, none⟩ = some (.slice (some ⟨gx, 0, none⟩) N cap') ∧ w'.cell? ⟨w.heap.size + 2, 1, none⟩ = some (.int .i64 g') ∧ w'.cell? ⟨w.heap.size + 2, 2, none⟩ = some (.int .i64 p'))
          (first | go_keep | (exact ⟨hqd.ref.c0, hqd.ref.c1, hqd.ref.c2⟩))
          (first
            | (go_at_call 16; refine (len_at _ _ _ _ _ _ _ hqd.disk).mono ?_; rintro e wz ⟨rfl, rfl⟩))
        all_goals
          go_wp2_with fail
          go_roundw
          case rel => exact ⟨k + 1, vs', g', p', by omega, by omega, by go_num, hg', hp', hqd.same⟩
          case measure => simp [intOf]; omega
    · have HS : Hid _ := hs
      clear hs HC
      have hkl : k < len ∨ len ≤ k := by omega
      rcases hkl with hkl | hkl
      all_goals
        go_wp2_with fail
        refine (awake_any _).mono ?_
        rintro e w6 ⟨rfl, hb6⟩
        go_wp2_with fail
        go_ret
        have q := Same.old HS.out
        exact ⟨rfl, q.trans (hb6.mono q.size)⟩

end Go.Proofs.Ytoceadcifgkimaa
