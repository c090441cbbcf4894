/- A file with two names in the root, plain: linked, told, unlinked. Names no program. -/
/- FscoreLinks. -/
import Derived.Test.YtcjpahnlckfgoaaGreatDoorOpAll
import Derived.Test.YtcjpahnlckfgoaaGreatDoorAwO
namespace Go.Proofs.YtcjpahnlckfgoaaGreatDoor
open Go.RowKit
set_option linter.unusedVariables false

theorem place_head (s : List UInt8) (k : Nat) (l : List Ent) : placeE (⟨s, k⟩ :: l) s = 0 := by simp [placeE, List.findIdx_cons]
theorem find_head (s : List UInt8) (k : Nat) (l : List Ent) : findE (⟨s, k⟩ :: l) s = (k : Int) := by
  unfold findE
  rw [place_head, if_pos (by simp)]
  rfl
section
variable {F : FS} {l : List Ent} {iw : List Nat} {kd lk : Int} {t : List Int} {s s2 p q : List UInt8}
theorem Sh.head (h : Sh F (⟨s, 1⟩ :: l) iw kd lk t) (hk : kd ≠ 2) (h1 : splitR p = 0) (h2 : splitP p = [s]) : walkR F p = (1, 0) ∧ paR F p = (0, s, 0) := by
  have hf : fdR F 0 s = 1 := by unfold fdR; rw [h.dir, find_head]; rfl
  constructor
  · unfold walkR
    rw [if_pos h1, h2]
    show (if isD F 0 = false then ((0 : Int), (20 : Int)) else if fdR F 0 s < 0 then (0, 2) else (fdR F 0 s, 0)) = _
    rw [(h.isd hk).2 rfl, if_neg (by simp), hf, if_neg (by omega)]
  · exact pa_one h1 h2 ((h.isd hk).2 rfl)
/-- A second name. -/
theorem Sh.ln (h : Sh F [⟨s, 1⟩] [3] 1 1 t) (hF : FInv F) (h1 : splitR p = 0) (h2 : splitP p = [s]) (hr : lnR F p q = 0) : ∃ s2, splitR q = 0 ∧ splitP q = [s2] ∧ Sh (lnF F p q) [⟨s, 1⟩, ⟨s2, 1⟩] [3] 1 2 t := by
  obtain ⟨w1, w2⟩ := h.one (by omega) h1 h2
  have hf : isD F 1 = false := h.isf (by omega) (by omega)
  unfold lnR at hr
  unfold lnF
  rw [w1] at hr ⊢
  dsimp only at hr ⊢
  rw [if_pos rfl, hf, if_neg (by simp)] at hr
  by_cases hp : (paR F q).2.2 = 0
  · obtain ⟨s2, r1, r2, r3⟩ := h.pa (by omega) (fun e he => by rw [List.mem_singleton.1 he]; exact Nat.one_ne_zero) hp
    rw [r3] at hr ⊢
    dsimp only at hr ⊢
    rw [if_pos rfl] at hr
    have hS := (h.ad (by omega) hF hr).lkf 2
    refine ⟨s2, r1, r2, ?_⟩
    have e : (1 : Int).toNat = 1 := rfl
    rw [e, h.lk]
    exact hS
  · rw [if_neg hp] at hr
    exact absurd hr hp
theorem adds_tell {b : List UInt8} (hf : isD F ((1 : Nat) : Int) = false) (hd : rdT F ((1 : Nat) : Int) 0 192 = b) (sn : Nat → Bool) : ∀ (m : List (List UInt8 × Nat)), (∀ e ∈ m, e.2 = 1) → addsN (intoN 0 F) F [] sn m = some (m.map (fun e => ⟨47 :: e.1, false, b⟩), sn)
  | [], _ => rfl
  | e :: m, h => by
    have e1 := h e (List.mem_cons_self ..)
    have ih := adds_tell hf hd sn m (fun x hx => h x (List.mem_cons_of_mem _ hx))
    unfold addsN addN
    rw [e1, hf, if_neg (by simp), hd]
    show (addsN (intoN 0 F) F [] sn m).map _ = _
    rw [ih]
    rfl
theorem Sh.tells {b : List UInt8} (h : Sh F [⟨s, 1⟩, ⟨s2, 1⟩] iw 1 lk (nums b)) (hb : b.length ≤ 192) : ∃ (n1 n2 : List UInt8) (sn' : Nat → Bool), intoN 1 F (fun _ => false) 0 [] = some ([⟨47 :: n1, false, b⟩, ⟨47 :: n2, false, b⟩], sn') := by
  have hf : isD F ((1 : Nat) : Int) = false := h.isf (by omega) (by omega)
  obtain ⟨q1, q2, -⟩ := srt_facts (prs [⟨s, 1⟩, ⟨s2, 1⟩])
  have hA := adds_tell hf (h.rd hb).1 (snU (fun _ => false) 0) (srt (prs [⟨s, 1⟩, ⟨s2, 1⟩])) (fun e he => by
    have := q2.mem_iff.1 he
    simp [prs] at this
    rcases this with rfl | rfl <;> rfl)
  have e : intoN 1 F (fun _ => false) 0 [] = addsN (intoN 0 F) F [] (snU (fun _ => false) 0) (srt (prs [⟨s, 1⟩, ⟨s2, 1⟩])) := by
    show addsN (intoN 0 F) F [] (snU (fun _ => false) 0) (srt (prs (dirL F ((0 : Nat) : Int)))) = _
    rw [show ((0 : Nat) : Int) = 0 from rfl, h.dir]
  rw [e, hA]
  generalize srt (prs [⟨s, 1⟩, ⟨s2, 1⟩]) = m at q1
  match m, q1 with
  | [x, y], _ => exact ⟨x.1, y.1, _, rfl⟩
/-- The first of two names is taken away. -/
theorem Sh.ul2 (h : Sh F [⟨s, 1⟩, ⟨s2, 1⟩] [3] 1 2 t) (hF : FInv F) (h1 : splitR p = 0) (h2 : splitP p = [s]) : ulR F p = 0 ∧ Sh (ulF F p []) [⟨s2, 1⟩] [3] 1 1 t := by
  obtain ⟨w1, w2⟩ := h.head (by omega) h1 h2
  have hf : isD F 1 = false := h.isf (by omega) (by omega)
  have hfd : fdR F 0 s = 1 := by unfold fdR; rw [h.dir, find_head]; rfl
  have hr : rmR F 0 s = 0 := rm_yes ((h.isd (by omega)).2 rfl) (by rw [hfd]; omega)
  have hS := (h.rm (by omega) hF hr).lkf 1
  rw [place_head] at hS
  have e : (1 : Int).toNat = 1 := rfl
  refine ⟨?_, ?_⟩
  · unfold ulR
    rw [w1]
    dsimp only
    rw [if_pos rfl, hf]
    rfl
  · unfold ulF dpF
    rw [w1, w2]
    dsimp only
    rw [e, h.lk, if_neg (fun x => absurd x.1 (by omega))]
    exact hS
theorem Sh.big (h : Sh F l iw kd lk t) {b : List UInt8} (hb : 192 < b.length) : wrR F 1 0 b = 27 := by
  unfold wrR
  rw [if_neg (by omega), if_pos (by omega)]
end
end Go.Proofs.YtcjpahnlckfgoaaGreatDoor

namespace Go.Proofs.YtcjpahnlckfgoaaGreatDoor
open Go.RowKit
set_option linter.unusedVariables false

set_option maxRecDepth 100000 in
set_option maxHeartbeats 8000000 in
theorem flinks_at (p q b : List UInt8) (hp : p.length ≤ 9223372036854775807) (hq : q.length ≤ 9223372036854775807) (hbl : b.length ≤ 9223372036854775807) (w : World) :
    Calls Tryz.prog 6 #[tx p, tx q, tx b] w fun e w' => e = .returned (.bool true) ∧ Below w.heap.size w w' := by
  have hN := Di.new_at 60 w (by omega) (by omega)
  go_enter Tryz.func6, Tryz.ntmps6
  go_wp2_with fail
  refine hN.mono ?_
  rintro e w1 ⟨rfl, hd, hb1, hs1⟩
  obtain ⟨lo, hlo⟩ : ∃ lo, lo = w.heap.size := ⟨_, rfl⟩
  obtain ⟨B, hB⟩ : ∃ B, B = w.heap.size + 1 := ⟨_, rfl⟩
  rw [← hB, ← hlo] at hd
  have hk : Dk w1 (dsk lo B lo) 60 (List.replicate (60 * 32) 0) 0 := dsk_new hd (by omega) (Nat.le_refl _)
  have hFm : Calls Tryz.prog 20 #[dv B, .int .i64 60] w1 fun e w' => e = .returned (.int .i64 0) ∧ Fs w' (dsk lo B lo) (F0 60) (0 + 3000) ∧ ST lo w1 w' := format_at hk (by omega) (by omega) (by omega)
  have HB1 : Hid (Below w.heap.size w w1) := hb1
  have HLo2 : Hid (∀ {a b : World}, Below w.heap.size w a → ST lo a b → Below w.heap.size w b) := fun ha hs => ha.trans (hs.below (by rw [hlo]; exact Nat.le_refl _) ha.size)
  rw [← hB]
  clear hN hd hs1 hk hlo hb1 hB
  go_wp2_with fail
  refine hFm.mono ?_
  rintro e w2 ⟨rfl, hf2, hs2⟩
  have hC : Calls Tryz.prog 21 #[dv B, tx p] w2 fun e w' => e = .returned (.tuple #[.int .i64 (if crR (F0 60) p = 0 then crI (F0 60) p else 0), .int .i64 (crR (F0 60) p)]) ∧ Fs w' (dsk lo B lo) (if crR (F0 60) p = 0 then crF (F0 60) p else F0 60) (0 + 3000 + 260000) ∧ ST lo w2 w' := Create_at hf2 (sh0.all (by omega)) (by omega) p hp
  have HB2 : Hid (Below w.heap.size w w2) := HLo2.out HB1.out hs2
  clear hFm hf2 hs2 HB1
  by_cases hcr : crR (F0 60) p = 0
  case neg =>
    have hn := ne_bool hcr
    rw [if_neg hcr, if_neg hcr] at hC
    clear hcr
    generalize crR (F0 60) p = er at *
    go_wp2_with fail
    refine hC.mono ?_
    rintro e w3 ⟨rfl, hf3, hs3⟩
    have HB3 : Hid (Below w.heap.size w w3) := HLo2.out HB2.out hs3
    have hA := awake_at w3
    clear hC hf3 hs3 HB2
    go_wp2_with fail
    refine hA.mono ?_
    rintro e wc ⟨rfl, hbc⟩
    have HE : Hid (Below w.heap.size w wc) := HB3.out.trans (hbc.mono HB3.out.size)
    clear hA hbc
    go_wp2
    go_ret
    exact ⟨rfl, HE.out⟩
  case pos =>
  obtain ⟨s, q1, q2, q3, q4⟩ := cr_first hcr
  rw [hcr, if_pos rfl, if_pos rfl, q3] at hC
  have HS : Hid (Sh (crF (F0 60) p) [⟨s, 1⟩] [3] 1 1 []) := q4
  have HQ : Hid (splitR p = 0 ∧ splitP p = [s]) := ⟨q1, q2⟩
  clear hcr q1 q2 q3 q4
  generalize crF (F0 60) p = F1 at *
  go_wp2_with fail
  refine hC.mono ?_
  rintro e w3 ⟨rfl, hf3, hs3⟩
  have HB3 : Hid (Below w.heap.size w w3) := HLo2.out HB2.out hs3
  obtain ⟨wk1, wk2⟩ := HS.out.one (by omega) HQ.out.1 HQ.out.2
  have hLn : Calls Tryz.prog 22 #[dv B, tx p, tx q] w3 fun e w' => e = .returned (.int .i64 (lnR F1 p q)) ∧ Fs w' (dsk lo B lo) (if lnR F1 p q = 0 then lnF F1 p q else F1) (0 + 3000 + 260000 + 510000) ∧ ST lo w3 w' := Link_at hf3 (HS.out.all (by omega)) (by omega) p q hp hq (fun _ _ => by rw [wk1]; exact HS.out.named (by omega) (by omega))
  have HI3 : Hid (FInv F1) := hf3.inv
  clear hC hf3 hs3 HB2 wk1 wk2
  by_cases hl : lnR F1 p q = 0
  case neg =>
    have hn := ne_bool hl
    rw [if_neg hl] at hLn
    clear hl HS HQ HI3
    generalize lnR F1 p q = er at *
    go_wp2_with fail
    refine hLn.mono ?_
    rintro e w4 ⟨rfl, hf4, hs4⟩
    have HB4 : Hid (Below w.heap.size w w4) := HLo2.out HB3.out hs4
    have hA := awake_at w4
    clear hLn hf4 hs4 HB3
    go_wp2_with fail
    refine hA.mono ?_
    rintro e wc ⟨rfl, hbc⟩
    have HE : Hid (Below w.heap.size w wc) := HB4.out.trans (hbc.mono HB4.out.size)
    clear hA hbc
    go_wp2
    go_ret
    exact ⟨rfl, HE.out⟩
  case pos =>
  obtain ⟨s2, r1, r2, r3⟩ := HS.out.ln HI3.out HQ.out.1 HQ.out.2 hl
  rw [hl, if_pos rfl] at hLn
  have HS2 : Hid (Sh (lnF F1 p q) [⟨s, 1⟩, ⟨s2, 1⟩] [3] 1 2 []) := r3
  have HR : Hid (splitR q = 0 ∧ splitP q = [s2]) := ⟨r1, r2⟩
  clear hl r1 r2 r3 HS HI3
  generalize lnF F1 p q = F2 at *
  go_wp2_with fail
  refine hLn.mono ?_
  rintro e w4 ⟨rfl, hf4, hs4⟩
  have HB4 : Hid (Below w.heap.size w w4) := HLo2.out HB3.out hs4
  obtain ⟨n1, n2, sn', hn⟩ := HS2.out.tells (b := []) (by simp)
  have hT : Calls Tryz.prog 13 #[dv B] w4 fun e w' => ∃ v, e = .returned v ∧ OwD w' w4.heap.size v [⟨47 :: n1, false, []⟩, ⟨47 :: n2, false, []⟩] ∧ Fs w' (dsk lo B lo) F2 _ ∧ ST lo w4 w' := Tree_at hf4 (HS2.out.all (by omega)) (fun i => Nat.lt_of_le_of_lt (HS2.out.dirs (by omega) i) (by simp)) 1 (by omega) hn (by simp) (by omega)
  clear hLn hf4 hs4 HB3 hn
  go_wp2_with fail
  refine hT.mono ?_
  rintro e w5 ⟨v, rfl, ho, hf5, hs5⟩
  have HB5 : Hid (Below w.heap.size w w5) := HLo2.out HB4.out hs5
  obtain ⟨va, vc, rfl, -⟩ := NdIn.of_own ho
  have HF5 : Hid (Fs w5 (dsk lo B lo) F2 (0 + 3000 + 260000 + 510000 + 62000000)) := hf5
  clear hT ho hf5 hs5 HB4
  dsimp only [List.length_cons, List.length_nil]
  by_cases hx : 1000 < b.length
  · have g0 : decide (1000 < (b.length : Int)) = true := decide_eq_true (by omega)
    have hA := awake_at w5
    clear hx
    go_wp2_with fail
    refine hA.mono ?_
    rintro e wc ⟨rfl, hbc⟩
    have HE : Hid (Below w.heap.size w wc) := HB5.out.trans (hbc.mono HB5.out.size)
    clear hA hbc
    go_wp2
    go_ret
    exact ⟨rfl, HE.out⟩
  have g0 : decide (1000 < (b.length : Int)) = false := decide_eq_false (by omega)
  have hW : Calls Tryz.prog 23 #[dv B, .int .i64 1, .int .i64 0, tx b] w5 fun e w' => e = .returned (.int .i64 (wrR F2 1 0 b)) ∧ Fs w' (dsk lo B lo) (wrF F2 1 0 b) (0 + 3000 + 260000 + 510000 + 62000000 + 3000) ∧ ST lo w5 w' := write_all HF5.out (by omega) 1 (by omega) (by rw [HS2.out.iw]; decide +kernel) 0 b hbl
  have HI5 : Hid (FInv F2) := HF5.out.inv
  clear hx HF5
  by_cases hbb : 192 < b.length
  · have g1 : decide (192 < (b.length : Int)) = true := decide_eq_true (by omega)
    rw [HS2.out.big hbb] at hW
    clear hbb HS2 HI5
    go_wp2_with fail
    refine hW.mono ?_
    rintro e w6 ⟨rfl, hf6, hs6⟩
    have HB6 : Hid (Below w.heap.size w w6) := HLo2.out HB5.out hs6
    have hA := awake_at w6
    clear hW hf6 hs6 HB5
    go_wp2_with fail
    refine hA.mono ?_
    rintro e wc ⟨rfl, hbc⟩
    have HE : Hid (Below w.heap.size w wc) := HB6.out.trans (hbc.mono HB6.out.size)
    clear hA hbc
    go_wp2
    go_ret
    exact ⟨rfl, HE.out⟩
  have HBl : Hid (b.length ≤ 192) := by show _ ≤ _; omega
  have hw : wrR F2 1 0 b = 0 := HS2.out.write HI5.out HBl.out
  rw [hw] at hW
  have HS3 : Hid (Sh (wrF F2 1 0 b) [⟨s, 1⟩, ⟨s2, 1⟩] [3] 1 2 (nums b)) := (HS2.out.wr hw).1
  clear hbb hw HS2 HI5
  generalize wrF F2 1 0 b = F3 at *
  go_wp2_with fail
  refine hW.mono ?_
  rintro e w6 ⟨rfl, hf6, hs6⟩
  have HB6 : Hid (Below w.heap.size w w6) := HLo2.out HB5.out hs6
  obtain ⟨m1, m2, sm', hm⟩ := HS3.out.tells HBl.out
  have hT : Calls Tryz.prog 13 #[dv B] w6 fun e w' => ∃ v, e = .returned v ∧ OwD w' w6.heap.size v [⟨47 :: m1, false, b⟩, ⟨47 :: m2, false, b⟩] ∧ Fs w' (dsk lo B lo) F3 _ ∧ ST lo w6 w' := Tree_at hf6 (HS3.out.all (by omega)) (fun i => Nat.lt_of_le_of_lt (HS3.out.dirs (by omega) i) (by simp)) 1 (by omega) hm (by simp) (by omega)
  clear hW hf6 hs6 HB5 hm
  go_wp2_with fail
  refine hT.mono ?_
  rintro e w7 ⟨v, rfl, ho, hf7, hs7⟩
  have HB7 : Hid (Below w.heap.size w w7) := HLo2.out HB6.out hs7
  obtain ⟨va, vc, rfl, hnd⟩ := NdIn.of_own ho
  obtain ⟨g, off, cur, fz, rfl, hg1, hg2⟩ := hnd (by simp)
  have HG1 : Hid (w7.heap[g]? = some (.cells cur 54 fz)) := hg1
  have HG2 : Hid (cur[off + 2]? = some (tx b) ∧ cur[off + 5]? = some (tx b)) := ⟨hg2 2 _ rfl, hg2 5 _ rfl⟩
  obtain ⟨wk1, wk2⟩ := HS3.out.head (by omega) HQ.out.1 HQ.out.2
  have hU := Unlink_at hf7 (HS3.out.all (by omega)) (by omega) ((HS3.out.isd (by omega)).2 rfl) p hp (fun _ _ => by rw [wk1]; exact HS3.out.named (by omega) (by omega)) (OpIn.nil w7)
  obtain ⟨u1, u2⟩ := HS3.out.ul2 hf7.inv HQ.out.1 HQ.out.2
  rw [u1, if_pos rfl] at hU
  have HS4 : Hid (Sh (ulF F3 p []) [⟨s2, 1⟩] [3] 1 1 (nums b)) := u2
  have hU' : Calls Tryz.prog 24 #[dv B, tx p, .slice none 0 0] w7 fun e w' => e = .returned (.int .i64 0) ∧ Fs w' (dsk lo B lo) (ulF F3 p []) _ ∧ ST lo w7 w' := hU
  clear hT ho hf7 hs7 HB6 hnd hg1 hg2 wk1 wk2 u1 u2 hU HS3 HQ
  generalize ulF F3 p [] = F4 at *
  dsimp only [List.length_cons, List.length_nil]
  go_wp2_with fail
  refine hU'.mono ?_
  rintro e w8 ⟨rfl, hf8, hs8⟩
  have HB8 : Hid (Below w.heap.size w w8) := HLo2.out HB7.out hs8
  have HG3 : Hid (w8.heap[g]? = some (.cells cur 54 fz)) := hs8.other HG1.out (by decide)
  obtain ⟨sk', hk⟩ := HS4.out.tell HBl.out
  have hT : Calls Tryz.prog 13 #[dv B] w8 fun e w' => ∃ v, e = .returned v ∧ OwD w' w8.heap.size v [⟨47 :: s2, false, b⟩] ∧ Fs w' (dsk lo B lo) F4 _ ∧ ST lo w8 w' := Tree_at hf8 (HS4.out.all (by omega)) (fun i => Nat.lt_of_le_of_lt (HS4.out.dirs (by omega) i) (by simp)) 1 (by omega) hk (by simp) (by omega)
  clear hU' hf8 hs8 HB7 hk HG1
  go_wp2_with fail
  refine hT.mono ?_
  rintro e w9 ⟨v, rfl, ho, hf9, hs9⟩
  have HB9 : Hid (Below w.heap.size w w9) := HLo2.out HB8.out hs9
  obtain ⟨ua, uc, rfl, hnd⟩ := NdIn.of_own ho
  obtain ⟨h, ofh, cuh, fh, rfl, hh1, hh2⟩ := hnd (by simp)
  have HG4 : Hid (w9.heap[g]? = some (.cells cur 54 fz)) := hs9.other HG3.out (by decide)
  have HH1 : Hid (w9.heap[h]? = some (.cells cuh 54 fh)) := hh1
  have HH2 : Hid (cuh[ofh + 2]? = some (tx b)) := hh2 2 _ rfl
  have hL : Calls Tryz.prog 25 #[dv B] w9 fun e w' => e = .returned (.tuple #[.int .i64 ((Bi.cntF (Bi.bt F4.iw) 32 : Nat) : Int), .int .i64 ((Bi.cntF (Bi.bt F4.bw) F4.n : Nat) : Int)]) ∧ Fs w' (dsk lo B lo) F4 _ ∧ ST lo w9 w' := left_at hf9 (by omega)
  rw [HS4.out.iw, left3] at hL
  clear hT ho hf9 hs9 HB8 hnd hh1 hh2 HG3
  dsimp only [List.length_cons, List.length_nil]
  generalize ((Bi.cntF (Bi.bt F4.bw) F4.n : Nat) : Int) = x4 at *
  go_wp2_with fail
  refine hL.mono ?_
  rintro e wa ⟨rfl, hfa, hsa⟩
  have HBa : Hid (Below w.heap.size w wa) := HLo2.out HB9.out hsa
  have HG5 : Hid (wa.heap[g]? = some (.cells cur 54 fz)) := hsa.other HG4.out (by decide)
  have HH3 : Hid (wa.heap[h]? = some (.cells cuh 54 fh)) := hsa.other HH1.out (by decide)
  obtain ⟨wk1, wk2⟩ := HS4.out.one (by omega) HR.out.1 HR.out.2
  have hU := Unlink_at hfa (HS4.out.all (by omega)) (by omega) ((HS4.out.isd (by omega)).2 rfl) q hq (fun _ _ => by rw [wk1]; exact HS4.out.named (by omega) (by omega)) (OpIn.nil wa)
  obtain ⟨u1, -, u2⟩ := HS4.out.ul hfa.inv HR.out.1 HR.out.2 []
  rw [u1, if_pos rfl] at hU
  have HS5 : Hid (Sh (ulF F4 q []) [] [1] 0 0 []) := u2 (by simp)
  have hU' : Calls Tryz.prog 24 #[dv B, tx q, .slice none 0 0] wa fun e w' => e = .returned (.int .i64 0) ∧ Fs w' (dsk lo B lo) (ulF F4 q []) _ ∧ ST lo wa w' := hU
  clear hL hfa hsa HB9 wk1 wk2 u1 u2 hU HS4 HR HG4 HH1
  generalize ulF F4 q [] = F5 at *
  go_wp2_with fail
  refine hU'.mono ?_
  rintro e wb ⟨rfl, hfb, hsb⟩
  have HBb : Hid (Below w.heap.size w wb) := HLo2.out HBa.out hsb
  have HG6 : Hid (wb.heap[g]? = some (.cells cur 54 fz)) := hsb.other HG5.out (by decide)
  have HH4 : Hid (wb.heap[h]? = some (.cells cuh 54 fh)) := hsb.other HH3.out (by decide)
  have hL : Calls Tryz.prog 25 #[dv B] wb fun e w' => e = .returned (.tuple #[.int .i64 ((Bi.cntF (Bi.bt F5.iw) 32 : Nat) : Int), .int .i64 ((Bi.cntF (Bi.bt F5.bw) F5.n : Nat) : Int)]) ∧ Fs w' (dsk lo B lo) F5 _ ∧ ST lo wb w' := left_at hfb (by omega)
  rw [HS5.out.iw, left1] at hL
  clear hU' hfb hsb HBa HG5 HH3
  generalize ((Bi.cntF (Bi.bt F5.bw) F5.n : Nat) : Int) = x5 at *
  go_wp2_with fail
  refine hL.mono ?_
  rintro e wc ⟨rfl, hfc, hsc⟩
  have HBc : Hid (Below w.heap.size w wc) := HLo2.out HBb.out hsc
  have hG7 : wc.heap[g]? = some (.cells cur 54 fz) := hsc.other HG6.out (by decide)
  have hH5 : wc.heap[h]? = some (.cells cuh 54 fh) := hsc.other HH4.out (by decide)
  have c0 : wc.cell? ⟨g, off + 2, none⟩ = some (tx b) := by rw [cell_of_heap hG7]; exact HG2.out.1
  have c1 : wc.cell? ⟨g, off + 5, none⟩ = some (tx b) := by rw [cell_of_heap hG7]; exact HG2.out.2
  have c2 : wc.cell? ⟨g, off + 3 + 2, none⟩ = some (tx b) := c1
  have c3 : wc.cell? ⟨h, ofh + 2, none⟩ = some (tx b) := by rw [cell_of_heap hH5]; exact HH2.out
  obtain ⟨sz', hz⟩ := HS5.out.none
  have hT : Calls Tryz.prog 13 #[dv B] wc fun e w' => ∃ v, e = .returned v ∧ OwD w' wc.heap.size v [] ∧ Fs w' (dsk lo B lo) F5 _ ∧ ST lo wc w' := Tree_at hfc (HS5.out.all (by omega)) (fun i => Nat.lt_of_le_of_lt (HS5.out.dirs (by omega) i) (by simp)) 1 (by omega) hz (by simp) (by omega)
  clear hL hfc hsc HBb HG6 HH4 hG7 hH5 HG2 HH2 hz
  go_wp2_with fail
  refine hT.mono ?_
  rintro e wd ⟨v, rfl, ho, -, hsd⟩
  have HBd : Hid (Below w.heap.size w wd) := HLo2.out HBc.out hsd
  obtain ⟨va, vc, rfl⟩ := own_slice ho
  have hA := awake_at wd
  clear hT ho hsd HBc c0 c1 c2 c3
  go_wp2_with fail
  refine hA.mono ?_
  rintro e we ⟨rfl, hbe⟩
  have HE : Hid (Below w.heap.size w we) := HBd.out.trans (hbe.mono HBd.out.size)
  clear hA hbe
  go_wp2
  go_ret
  exact ⟨rfl, HE.out⟩
end Go.Proofs.YtcjpahnlckfgoaaGreatDoor
