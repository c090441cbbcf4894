/- FscoreOpen. -/
import Derived.Test.YtcjpahnlckfgoaaGreatDoorOpAll
import Derived.Test.YtcjpahnlckfgoaaGreatDoorAwO
namespace Go.Proofs.YtcjpahnlckfgoaaGreatDoor
open Go.RowKit
set_option linter.unusedVariables false

section
variable {w : World} {lo B G m : Nat}
/-- An int alone in a slice. -/
theorem opin_one {w : World} {g : Nat} {x : Int} (h : w.heap[g]? = some (.cells #[.int .i64 x] 3)) : OpIn w (.slice (some ⟨g, 0, none⟩) 1 1) [x] := ⟨_, 1, rfl, by simp, fun _ => ⟨g, 0, _, (0, 0), rfl, h, fun j y hy => by
  rw [Nat.zero_add, List.getElem?_toArray]
  match j with
  | 0 => simp at hy; rw [hy]; rfl
  | j + 1 => simp at hy⟩⟩
set_option maxRecDepth 100000 in
set_option maxHeartbeats 4000000 in
theorem fopen_at (p b : List UInt8) (hp : p.length ≤ 9223372036854775807) (hbl : b.length ≤ 9223372036854775807) (w : World) :
    Calls Tryz.prog 7 #[tx p, tx b] w fun e w' => e = .returned (.bool true) ∧ Below w.heap.size w w' := by
  have hN := Di.new_at 60 w (by omega) (by omega)
  go_enter Tryz.func7, Tryz.ntmps7
  go_wp2_with fail
  refine hN.mono ?_
  rintro e w1 ⟨rfl, hd, hb1, hs1⟩
  obtain ⟨lo, hlo⟩ : ∃ lo, lo = w.heap.size := ⟨_, rfl⟩
  obtain ⟨B, hB⟩ : ∃ B, B = w.heap.size + 1 := ⟨_, rfl⟩
  rw [← hB, ← hlo] at hd
  have hk : Dk w1 (dsk lo B lo) 60 (List.replicate (60 * 32) 0) 0 := dsk_new hd (by omega) (Nat.le_refl _)
  have hFm : Calls Tryz.prog 20 #[dv B, .int .i64 60] w1 fun e w' => e = .returned (.int .i64 0) ∧ Fs w' (dsk lo B lo) (F0 60) (0 + 3000) ∧ ST lo w1 w' := format_at hk (by omega) (by omega) (by omega)
  have HB1 : Hid (Below w.heap.size w w1) := hb1
  have HLo2 : Hid (∀ {a b : World}, Below w.heap.size w a → ST lo a b → Below w.heap.size w b) := fun ha hs => ha.trans (hs.below (by rw [hlo]; exact Nat.le_refl _) ha.size)
  rw [← hB]
  clear hN hd hs1 hk hlo hb1 hB
  go_wp2_with fail
  refine hFm.mono ?_
  rintro e w2 ⟨rfl, hf2, hs2⟩
  have hC : Calls Tryz.prog 21 #[dv B, tx p] w2 fun e w' => e = .returned (.tuple #[.int .i64 (if crR (F0 60) p = 0 then crI (F0 60) p else 0), .int .i64 (crR (F0 60) p)]) ∧ Fs w' (dsk lo B lo) (if crR (F0 60) p = 0 then crF (F0 60) p else F0 60) (0 + 3000 + 260000) ∧ ST lo w2 w' := Create_at hf2 (sh0.all (by omega)) (by omega) p hp
  have HB2 : Hid (Below w.heap.size w w2) := HLo2.out HB1.out hs2
  clear hFm hf2 hs2 HB1
  by_cases hcr : crR (F0 60) p = 0
  · obtain ⟨s, q1, q2, q3, q4⟩ := cr_first hcr
    rw [hcr, if_pos rfl, if_pos rfl, q3] at hC
    have HS : Hid (Sh (crF (F0 60) p) [⟨s, 1⟩] [3] 1 1 []) := q4
    have HQ : Hid (splitR p = 0 ∧ splitP p = [s]) := ⟨q1, q2⟩
    clear hcr q1 q2 q3 q4
    generalize crF (F0 60) p = F1 at *
    go_wp2_with fail
    refine hC.mono ?_
    rintro e w3 ⟨rfl, hf3, hs3⟩
    have HB3 : Hid (Below w.heap.size w w3) := HLo2.out HB2.out hs3
    have hW : Calls Tryz.prog 23 #[dv B, .int .i64 1, .int .i64 0, tx b] w3 fun e w' => e = .returned (.int .i64 (wrR F1 1 0 b)) ∧ Fs w' (dsk lo B lo) (wrF F1 1 0 b) (0 + 3000 + 260000 + 3000) ∧ ST lo w3 w' := write_all hf3 (by omega) 1 (by omega) (by rw [HS.out.iw]; decide +kernel) 0 b hbl
    clear hC hf3 hs3 HB2
    by_cases hw : wrR F1 1 0 b = 0
    · obtain ⟨q5, q6⟩ := HS.out.wr hw
      rw [hw] at hW
      have HS2 : Hid (Sh (wrF F1 1 0 b) [⟨s, 1⟩] [3] 1 1 (nums b) ∧ b.length ≤ 192) := ⟨q5, q6⟩
      clear hw q5 q6 HS
      generalize wrF F1 1 0 b = F2 at *
      go_wp2_with fail
      refine hW.mono ?_
      rintro e w4 ⟨rfl, hf4, hs4⟩
      have HB4 : Hid (Below w.heap.size w w4) := HLo2.out HB3.out hs4
      obtain ⟨W5, hW5⟩ : ∃ W, W = w4.alloc (.cells #[.int .i64 1] 3) := ⟨_, rfl⟩
      have hb5 : Below w4.heap.size w4 W5 := by rw [hW5]; exact below_alloc _ _
      obtain ⟨g, hg⟩ : ∃ g, g = w4.heap.size := ⟨_, rfl⟩
      have ho : OpIn W5 (.slice (some ⟨g, 0, none⟩) 1 1) [1] := opin_one (by rw [hW5, hg]; exact heap_alloc_new _ _)
      have hf5 := hf4.below hb5
      obtain ⟨wk1, wk2⟩ := HS2.out.1.one (by omega) HQ.out.1 HQ.out.2
      have hU := Unlink_at hf5 (HS2.out.1.all (by omega)) (by omega) ((HS2.out.1.isd (by omega)).2 rfl) p hp (fun _ _ => by rw [wk1]; exact HS2.out.1.named (by omega) (by omega)) ho
      obtain ⟨u1, u2, -⟩ := HS2.out.1.ul hf5.inv HQ.out.1 HQ.out.2 [1]
      rw [u1, if_pos rfl] at hU
      have HS3 : Hid (Sh (ulF F2 p [1]) [] [3] 1 0 (nums b)) := u2 (by simp)
      have HBl : Hid (b.length ≤ 192) := HS2.out.2
      have HB5 : Hid (Below w.heap.size w W5) := HB4.out.trans (hb5.mono HB4.out.size)
      have HW5 : Hid _ := hW5
      have Hg : Hid (g = w4.heap.size) := hg
      have hU' : Calls Tryz.prog 24 #[dv B, tx p, .slice (some ⟨g, 0, none⟩) 1 1] W5 fun e w' => e = .returned (.int .i64 0) ∧ Fs w' (dsk lo B lo) (ulF F2 p [1]) (0 + 3000 + 260000 + 3000 + 510000) ∧ ST lo W5 w' := hU
      clear hW hf4 hs4 HB3 hW5 hb5 hg ho hf5 wk1 wk2 u1 u2 HS2 HQ HB4 hU
      generalize ulF F2 p [1] = F3 at *
      go_wp2_with fail
      rw [← HW5.out, ← Hg.out]
      clear HW5 Hg
      refine hU'.mono ?_
      rintro e w6 ⟨rfl, hf6, hs6⟩
      have HB6 : Hid (Below w.heap.size w w6) := HLo2.out HB5.out hs6
      have hR : Calls Tryz.prog 26 #[dv B, .int .i64 1, .int .i64 0, .int .i64 192] w6 fun e w' => e = .returned (.tuple #[tx (rdT F3 1 0 192), .int .i64 (rdR 1 0 192)]) ∧ Fs w' (dsk lo B lo) F3 (0 + 3000 + 260000 + 3000 + 510000 + 3000) ∧ ST lo w6 w' := read_all hf6 (by omega) 1 0 192 (by omega) (by omega)
      obtain ⟨r1, r2⟩ := HS3.out.rd HBl.out
      rw [r1, r2] at hR
      clear hU' hf6 hs6 HB5 r1 r2
      go_wp2_with fail
      refine hR.mono ?_
      rintro e w7 ⟨rfl, hf7, hs7⟩
      have HB7 : Hid (Below w.heap.size w w7) := HLo2.out HB6.out hs7
      have hL : Calls Tryz.prog 25 #[dv B] w7 fun e w' => e = .returned (.tuple #[.int .i64 ((Bi.cntF (Bi.bt F3.iw) 32 : Nat) : Int), .int .i64 ((Bi.cntF (Bi.bt F3.bw) F3.n : Nat) : Int)]) ∧ Fs w' (dsk lo B lo) F3 (0 + 3000 + 260000 + 3000 + 510000 + 3000 + 3000) ∧ ST lo w7 w' := left_at hf7 (by omega)
      rw [HS3.out.iw, left3] at hL
      clear hR hf7 hs7 HB6
      generalize ((Bi.cntF (Bi.bt F3.bw) F3.n : Nat) : Int) = x3 at *
      go_wp2_with fail
      refine hL.mono ?_
      rintro e w8 ⟨rfl, hf8, hs8⟩
      have HB8 : Hid (Below w.heap.size w w8) := HLo2.out HB7.out hs8
      have hCl : Calls Tryz.prog 27 #[dv B, .int .i64 1] w8 fun e w' => e = .returned (.tuple #[]) ∧ Fs w' (dsk lo B lo) (clF F3 1) (0 + 3000 + 260000 + 3000 + 510000 + 3000 + 3000 + 25000) ∧ ST lo w8 w' := Close_at hf8 (by omega) 1 (by omega) HS3.out.root.kind
      have HS4 : Hid (Sh (clF F3 1) [] [1] 0 0 []) := HS3.out.cl
      clear hL hf8 hs8 HB7 HS3
      generalize clF F3 1 = F4 at *
      go_wp2_with fail
      refine hCl.mono ?_
      rintro e w9 ⟨rfl, hf9, hs9⟩
      have HB9 : Hid (Below w.heap.size w w9) := HLo2.out HB8.out hs9
      have hL2 : Calls Tryz.prog 25 #[dv B] w9 fun e w' => e = .returned (.tuple #[.int .i64 ((Bi.cntF (Bi.bt F4.iw) 32 : Nat) : Int), .int .i64 ((Bi.cntF (Bi.bt F4.bw) F4.n : Nat) : Int)]) ∧ Fs w' (dsk lo B lo) F4 (0 + 3000 + 260000 + 3000 + 510000 + 3000 + 3000 + 25000 + 3000) ∧ ST lo w9 w' := left_at hf9 (by omega)
      rw [HS4.out.iw, left1] at hL2
      clear hCl hf9 hs9 HB8
      generalize ((Bi.cntF (Bi.bt F4.bw) F4.n : Nat) : Int) = x4 at *
      go_wp2_with fail
      refine hL2.mono ?_
      rintro e wa ⟨rfl, hfa, hsa⟩
      have HBa : Hid (Below w.heap.size w wa) := HLo2.out HB9.out hsa
      obtain ⟨sn', hn⟩ := HS4.out.none
      have hT : Calls Tryz.prog 13 #[dv B] wa fun e w' => ∃ v, e = .returned v ∧ OwD w' wa.heap.size v [] ∧ Fs w' (dsk lo B lo) F4 _ ∧ ST lo wa w' := Tree_at hfa (HS4.out.all (by omega)) (fun i => Nat.lt_of_le_of_lt (HS4.out.dirs (by omega) i) (by simp)) 1 (by omega) hn (by simp) (by omega)
      clear hL2 hfa hsa HB9 hn
      go_wp2_with fail
      refine hT.mono ?_
      rintro e wb ⟨v, rfl, ho, -, hsb⟩
      have HBb : Hid (Below w.heap.size w wb) := HLo2.out HBa.out hsb
      obtain ⟨va, vc, rfl⟩ := own_slice ho
      have hA := awake_at wb
      clear hT ho hsb HBa
      go_wp2_with fail
      refine hA.mono ?_
      rintro e wc ⟨rfl, hbc⟩
      have HE : Hid (Below w.heap.size w wc) := HBb.out.trans (hbc.mono HBb.out.size)
      clear hA hbc
      go_wp2
      go_ret
      exact ⟨rfl, HE.out⟩
    · have hn := ne_bool hw
      clear hw HS HQ
      generalize wrR F1 1 0 b = er at *
      generalize wrF F1 1 0 b = F2 at *
      go_wp2_with fail
      refine hW.mono ?_
      rintro e w4 ⟨rfl, hf4, hs4⟩
      have HB4 : Hid (Below w.heap.size w w4) := HLo2.out HB3.out hs4
      have hA := awake_at w4
      clear hW hf4 hs4 HB3
      go_wp2_with fail
      refine hA.mono ?_
      rintro e wc ⟨rfl, hbc⟩
      have HE : Hid (Below w.heap.size w wc) := HB4.out.trans (hbc.mono HB4.out.size)
      clear hA hbc
      go_wp2
      go_ret
      exact ⟨rfl, HE.out⟩
  · have hn := ne_bool hcr
    rw [if_neg hcr, if_neg hcr] at hC
    clear hcr
    generalize crR (F0 60) p = er at *
    go_wp2_with fail
    refine hC.mono ?_
    rintro e w3 ⟨rfl, hf3, hs3⟩
    have HB3 : Hid (Below w.heap.size w w3) := HLo2.out HB2.out hs3
    have hA := awake_at w3
    clear hC hf3 hs3 HB2
    go_wp2_with fail
    refine hA.mono ?_
    rintro e wc ⟨rfl, hbc⟩
    have HE : Hid (Below w.heap.size w wc) := HB3.out.trans (hbc.mono HB3.out.size)
    clear hA hbc
    go_wp2
    go_ret
    exact ⟨rfl, HE.out⟩
end
end Go.Proofs.YtcjpahnlckfgoaaGreatDoor
