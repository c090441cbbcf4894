/- FscoreRenames. -/
import Derived.Test.YtcjpahnlckfgoaaGreatDoorOpAll
import Derived.Test.YtcjpahnlckfgoaaGreatDoorAwO
namespace Go.Proofs.YtcjpahnlckfgoaaGreatDoor
open Go.RowKit
set_option linter.unusedVariables false

theorem row_nine {F : FS} (hF : FInv F) : ∃ x0 x1 x2 x3 x4 x5 : Int, (F.ino 1).row = [(F.ino 1).kind, (F.ino 1).links, ((F.ino 1).txt.length : Int), x0, x1, x2, x3, x4, x5] := by
  have h := Ino.row_len (hF.six (i := 1) (by omega))
  obtain ⟨r, hr⟩ : ∃ r, (F.ino 1).row = (F.ino 1).kind :: (F.ino 1).links :: ((F.ino 1).txt.length : Int) :: r := ⟨_, by unfold Ino.row; rfl⟩
  rw [hr] at h ⊢
  match r, h with
  | [x0, x1, x2, x3, x4, x5], _ => exact ⟨x0, x1, x2, x3, x4, x5, rfl⟩
set_option maxRecDepth 100000 in
set_option maxHeartbeats 8000000 in
theorem frenames_at (p q b : List UInt8) (hp : p.length ≤ 9223372036854775807) (hq : q.length ≤ 9223372036854775807) (hbl : b.length ≤ 9223372036854775807) (w : World) :
    Calls Tryz.prog 8 #[tx p, tx q, tx b] w fun e w' => e = .returned (.bool true) ∧ Below w.heap.size w w' := by
  have hN := Di.new_at 60 w (by omega) (by omega)
  go_enter Tryz.func8, Tryz.ntmps8
  go_wp2_with fail
  refine hN.mono ?_
  rintro e w1 ⟨rfl, hd, hb1, hs1⟩
  obtain ⟨lo, hlo⟩ : ∃ lo, lo = w.heap.size := ⟨_, rfl⟩
  obtain ⟨B, hB⟩ : ∃ B, B = w.heap.size + 1 := ⟨_, rfl⟩
  rw [← hB, ← hlo] at hd
  have hk : Dk w1 (dsk lo B lo) 60 (List.replicate (60 * 32) 0) 0 := dsk_new hd (by omega) (Nat.le_refl _)
  have hFm : Calls Tryz.prog 20 #[dv B, .int .i64 60] w1 fun e w' => e = .returned (.int .i64 0) ∧ Fs w' (dsk lo B lo) (F0 60) (0 + 3000) ∧ ST lo w1 w' := format_at hk (by omega) (by omega) (by omega)
  have HB1 : Hid (Below w.heap.size w w1) := hb1
  have HLo2 : Hid (∀ {a b : World}, Below w.heap.size w a → ST lo a b → Below w.heap.size w b) := fun ha hs => ha.trans (hs.below (by rw [hlo]; exact Nat.le_refl _) ha.size)
  rw [← hB]
  clear hN hd hs1 hk hlo hb1 hB
  go_wp2_with fail
  refine hFm.mono ?_
  rintro e w2 ⟨rfl, hf2, hs2⟩
  have hC : Calls Tryz.prog 21 #[dv B, tx p] w2 fun e w' => e = .returned (.tuple #[.int .i64 (if crR (F0 60) p = 0 then crI (F0 60) p else 0), .int .i64 (crR (F0 60) p)]) ∧ Fs w' (dsk lo B lo) (if crR (F0 60) p = 0 then crF (F0 60) p else F0 60) (0 + 3000 + 260000) ∧ ST lo w2 w' := Create_at hf2 (sh0.all (by omega)) (by omega) p hp
  have HB2 : Hid (Below w.heap.size w w2) := HLo2.out HB1.out hs2
  clear hFm hf2 hs2 HB1
  by_cases hbb : 192 < b.length
  · have g0 : decide (192 < (b.length : Int)) = true := decide_eq_true (by omega)
    have hA := awake_at w2
    clear hC hbb
    go_wp2_with fail
    refine hA.mono ?_
    rintro e wc ⟨rfl, hbc⟩
    have HE : Hid (Below w.heap.size w wc) := HB2.out.trans (hbc.mono HB2.out.size)
    clear hA hbc
    go_wp2
    go_ret
    exact ⟨rfl, HE.out⟩
  have g0 : decide (192 < (b.length : Int)) = false := decide_eq_false (by omega)
  have HBl : Hid (b.length ≤ 192) := by show _ ≤ _; omega
  clear hbb
  by_cases hcr : crR (F0 60) p = 0
  · obtain ⟨s, q1, q2, q3, q4⟩ := cr_first hcr
    rw [hcr, if_pos rfl, if_pos rfl, q3] at hC
    have HS : Hid (Sh (crF (F0 60) p) [⟨s, 1⟩] [3] 1 1 []) := q4
    have HQ : Hid (splitR p = 0 ∧ splitP p = [s]) := ⟨q1, q2⟩
    clear hcr q1 q2 q3 q4
    generalize crF (F0 60) p = F1 at *
    go_wp2_with fail
    refine hC.mono ?_
    rintro e w3 ⟨rfl, hf3, hs3⟩
    have HB3 : Hid (Below w.heap.size w w3) := HLo2.out HB2.out hs3
    have hW : Calls Tryz.prog 23 #[dv B, .int .i64 1, .int .i64 0, tx b] w3 fun e w' => e = .returned (.int .i64 (wrR F1 1 0 b)) ∧ Fs w' (dsk lo B lo) (wrF F1 1 0 b) (0 + 3000 + 260000 + 3000) ∧ ST lo w3 w' := write_all hf3 (by omega) 1 (by omega) (by rw [HS.out.iw]; decide +kernel) 0 b hbl
    have hw : wrR F1 1 0 b = 0 := HS.out.write hf3.inv HBl.out
    rw [hw] at hW
    have HS2 : Hid (Sh (wrF F1 1 0 b) [⟨s, 1⟩] [3] 1 1 (nums b)) := (HS.out.wr hw).1
    clear hC hf3 hs3 HB2 hw HS
    generalize wrF F1 1 0 b = F2 at *
    go_wp2_with fail
    refine hW.mono ?_
    rintro e w4 ⟨rfl, hf4, hs4⟩
    have HB4 : Hid (Below w.heap.size w w4) := HLo2.out HB3.out hs4
    have hL : Calls Tryz.prog 25 #[dv B] w4 fun e w' => e = .returned (.tuple #[.int .i64 ((Bi.cntF (Bi.bt F2.iw) 32 : Nat) : Int), .int .i64 ((Bi.cntF (Bi.bt F2.bw) F2.n : Nat) : Int)]) ∧ Fs w' (dsk lo B lo) F2 (0 + 3000 + 260000 + 3000 + 3000) ∧ ST lo w4 w' := left_at hf4 (by omega)
    obtain ⟨y, hy⟩ : ∃ y, y = 60 - (12 + need (9 * 1) + need (nums b).length) := ⟨_, rfl⟩
    have hy2 : Bi.cntF (Bi.bt F2.bw) F2.n = y := by have := HS2.out.cnt hf4.inv; rw [hy]; simp only [List.length_singleton] at this; omega
    have HY : Hid (y = 60 - (12 + need (9 * 1) + need (nums b).length)) := hy
    rw [HS2.out.iw, left3, hy2] at hL
    clear hW hf4 hs4 HB3 hy hy2
    go_wp2_with fail
    refine hL.mono ?_
    rintro e w5 ⟨rfl, hf5, hs5⟩
    have HB5 : Hid (Below w.heap.size w w5) := HLo2.out HB4.out hs5
    obtain ⟨wk1, wk2⟩ := HS2.out.one (by omega) HQ.out.1 HQ.out.2
    have hone : (paR F2 q).2.2 = 0 → ∀ j : Nat, fdR F2 (paR F2 q).1 (paR F2 q).2.1 = (j : Int) → j = 1 := fun hz j hj => by
      obtain ⟨s2, -, -, r3⟩ := HS2.out.pa (by omega) (fun e he => by rw [List.mem_singleton.1 he]; exact Nat.one_ne_zero) hz
      rw [r3] at hj
      dsimp only at hj
      unfold fdR at hj
      rw [HS2.out.dir] at hj
      obtain ⟨e, he, hz⟩ := find_to hj (by omega)
      rw [List.mem_singleton.1 he] at hz
      dsimp only at hz
      omega
    have hR := Rename_at hf5 (HS2.out.all (by omega)) (by omega) p q hp hq (OpIn.nil w5) (fun hz j hj _ => by rw [hone hz j hj]; exact HS2.out.named (by omega) (by omega)) (fun _ _ hz j hj _ _ hne => by
      rw [wk1, hone hz j hj] at hne
      exact absurd rfl hne)
    have hR' : Calls Tryz.prog 28 #[dv B, tx p, tx q, .slice none 0 0] w5 fun e w' => e = .returned (.int .i64 (rnR F2 p q [])) ∧ Fs w' (dsk lo B lo) (if rnR F2 p q [] = 0 then rnF F2 p q [] else F2) (0 + 3000 + 260000 + 3000 + 3000 + 1010000) ∧ ST lo w5 w' := hR
    have HI5 : Hid (FInv F2) := hf5.inv
    clear hL hf5 hs5 HB4 wk1 wk2 hone hR
    by_cases hrn : rnR F2 p q [] = 0
    · obtain ⟨s', hS3⟩ := HS2.out.ren HI5.out HQ.out.1 HQ.out.2 hrn
      have HS3 : Hid (Sh (rnF F2 p q []) [⟨s', 1⟩] [3] 1 1 (nums b)) := hS3
      rw [hrn, if_pos rfl] at hR'
      clear hrn hS3 HS2 HI5 HQ
      generalize rnF F2 p q [] = F3 at *
      go_wp2_with fail
      refine hR'.mono ?_
      rintro e w6 ⟨rfl, hf6, hs6⟩
      have HB6 : Hid (Below w.heap.size w w6) := HLo2.out HB5.out hs6
      obtain ⟨sn', hn⟩ := HS3.out.tell HBl.out
      have hT : Calls Tryz.prog 13 #[dv B] w6 fun e w' => ∃ v, e = .returned v ∧ OwD w' w6.heap.size v [⟨47 :: s', false, b⟩] ∧ Fs w' (dsk lo B lo) F3 _ ∧ ST lo w6 w' := Tree_at hf6 (HS3.out.all (by omega)) (fun i => Nat.lt_of_le_of_lt (HS3.out.dirs (by omega) i) (by simp)) 1 (by omega) hn (by simp) (by omega)
      clear hR' hf6 hs6 HB5 hn
      go_wp2_with fail
      refine hT.mono ?_
      rintro e w7 ⟨v, rfl, ho, hf7, hs7⟩
      have HB7 : Hid (Below w.heap.size w w7) := HLo2.out HB6.out hs7
      obtain ⟨va, vc, rfl, hnd⟩ := NdIn.of_own ho
      obtain ⟨g, off, cur, fz, rfl, hg1, hg2⟩ := hnd (by simp)
      have HG1 : Hid (w7.heap[g]? = some (.cells cur 54 fz)) := hg1
      have HG2 : Hid (cur[off + 2]? = some (tx b)) := hg2 2 _ rfl
      have hL2 : Calls Tryz.prog 25 #[dv B] w7 fun e w' => e = .returned (.tuple #[.int .i64 ((Bi.cntF (Bi.bt F3.iw) 32 : Nat) : Int), .int .i64 ((Bi.cntF (Bi.bt F3.bw) F3.n : Nat) : Int)]) ∧ Fs w' (dsk lo B lo) F3 _ ∧ ST lo w7 w' := left_at hf7 (by omega)
      have hy2 : Bi.cntF (Bi.bt F3.bw) F3.n = y := by have := HS3.out.cnt hf7.inv; rw [HY.out]; simp only [List.length_singleton] at this; omega
      rw [HS3.out.iw, left3, hy2] at hL2
      clear hT ho hf7 hs7 HB6 hnd hg1 hg2 hy2
      dsimp only [List.length_singleton]
      go_wp2_with fail
      refine hL2.mono ?_
      rintro e w8 ⟨rfl, hf8, hs8⟩
      have HB8 : Hid (Below w.heap.size w w8) := HLo2.out HB7.out hs8
      have HG3 : Hid (w8.heap[g]? = some (.cells cur 54 fz)) := hs8.other HG1.out (by decide)
      have hGt : Calls Tryz.prog 29 #[dv B, .int .i64 1] w8 fun e w' => e = .returned (.tuple #[.agg (irow (gtX F3 1)), .int .i64 (gtR 1)]) ∧ Fs w' (dsk lo B lo) F3 _ ∧ ST lo w8 w' := get_all hf8 (by omega) 1
      obtain ⟨x0, x1, x2, x3, x4, x5, hrow⟩ := row_nine hf8.inv
      have hgx : irow (gtX F3 1) = #[.int .i64 1, .int .i64 1, .int .i64 ((nums b).length : Int), .int .i64 x0, .int .i64 x1, .int .i64 x2, .int .i64 x3, .int .i64 x4, .int .i64 x5] := by
        have : gtX F3 1 = (F3.ino 1).row := rfl
        rw [this, hrow, HS3.out.kd, HS3.out.lk, HS3.out.txt]
        rfl
      rw [hgx, show gtR 1 = 0 from rfl] at hGt
      generalize ((nums b).length : Int) = xl at *
      clear hL2 hf8 hs8 HB7 HG1 hrow hgx
      go_wp2_with fail
      refine hGt.mono ?_
      rintro e w9 ⟨rfl, -, hs9⟩
      have HB9 : Hid (Below w.heap.size w w9) := HLo2.out HB8.out hs9
      have hG4 : w9.heap[g]? = some (.cells cur 54 fz) := hs9.other HG3.out (by decide)
      have hgl : g < w9.heap.size := lt_of_heap hG4
      have hcl : w9.cell? ⟨g, off + 2, none⟩ = some (tx b) := by rw [cell_of_heap hG4]; exact HG2.out
      clear hGt hs9 HB8 HG3 HG2 hG4
      go_wp2_with fail
      generalize hWx : w9.alloc _ = W
      have HBW : Hid (Below w.heap.size w W) := by
        show Below _ _ _
        rw [← hWx]
        exact HB9.out.trans ((below_alloc _ _).mono HB9.out.size)
      have hA := awake_at W
      clear hWx hcl hgl HB9
      refine hA.mono ?_
      rintro e wc ⟨rfl, hbc⟩
      have HE : Hid (Below w.heap.size w wc) := HBW.out.trans (hbc.mono HBW.out.size)
      clear hA hbc
      go_wp2
      go_ret
      exact ⟨rfl, HE.out⟩
    · have hn := ne_bool hrn
      rw [if_neg hrn] at hR'
      clear hrn HS2 HI5 HQ HBl HY
      generalize rnR F2 p q [] = er at *
      go_wp2_with fail
      refine hR'.mono ?_
      rintro e w6 ⟨rfl, hf6, hs6⟩
      have HB6 : Hid (Below w.heap.size w w6) := HLo2.out HB5.out hs6
      have hA := awake_at w6
      clear hR' hf6 hs6 HB5
      go_wp2_with fail
      refine hA.mono ?_
      rintro e wc ⟨rfl, hbc⟩
      have HE : Hid (Below w.heap.size w wc) := HB6.out.trans (hbc.mono HB6.out.size)
      clear hA hbc
      go_wp2
      go_ret
      exact ⟨rfl, HE.out⟩
  · have hn := ne_bool hcr
    rw [if_neg hcr, if_neg hcr] at hC
    clear hcr
    generalize crR (F0 60) p = er at *
    go_wp2_with fail
    refine hC.mono ?_
    rintro e w3 ⟨rfl, hf3, hs3⟩
    have HB3 : Hid (Below w.heap.size w w3) := HLo2.out HB2.out hs3
    have hA := awake_at w3
    clear hC hf3 hs3 HB2
    go_wp2_with fail
    refine hA.mono ?_
    rintro e wc ⟨rfl, hbc⟩
    have HE : Hid (Below w.heap.size w wc) := HB3.out.trans (hbc.mono HB3.out.size)
    clear hA hbc
    go_wp2
    go_ret
    exact ⟨rfl, HE.out⟩
end Go.Proofs.YtcjpahnlckfgoaaGreatDoor
