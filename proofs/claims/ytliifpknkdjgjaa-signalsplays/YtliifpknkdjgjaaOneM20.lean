/- What process 1 alone does: plain; two machines held against each other; fit. -/
import Derived.Test.YtliifpknkdjgjaaDeed20
namespace Go.Proofs.Ytliifpknkdjgjaa
open Go.RowKit Go.Lib
set_option linter.unusedVariables false

theorem p1 : isP 1 = true := rfl
theorem at1_se {S : SS} {m : Nat} (x : Int) (hm : m < 15) (h8 : m ≠ 8) : (seS S 1 ((m : Int) + 1) x) 0 = ⟨(S 0).h.set m x, (S 0).q, (S 0).k⟩ := by
  unfold seS
  rw [p1, isS_of hm, bne_iff_ne.2 (show ((m : Int) + 1) ≠ 9 by omega), if_pos (by rfl), show ((1 : Int) - 1).toNat = 0 from rfl, SS.set_same, show ((m : Int) + 1 - 1).toNat = m by omega]
theorem at1_seE {m : Nat} (hm : m < 15) (h8 : m ≠ 8) : seE 1 ((m : Int) + 1) = 0 := by
  unfold seE
  rw [p1, isS_of hm, bne_iff_ne.2 (show ((m : Int) + 1) ≠ 9 by omega)]
  rfl
theorem at1_en {S : SS} (pc : Int) (st : List Int) (hk : (S 0).k = none) : (enS S 1 pc st) 0 = ⟨(S 0).h, (S 0).q, some (pc, st)⟩ := by
  unfold enS
  rw [p1, show ((1 : Int) - 1).toNat = 0 from rfl, hk, if_pos (by rfl), SS.set_same]
theorem at1_enE {S : SS} (hk : (S 0).k = none) : enE S 1 = 0 := by
  unfold enE
  rw [p1, show ((1 : Int) - 1).toNat = 0 from rfl, hk]
  rfl
theorem at1_sd {S : SS} {m : Nat} (hm : m < 15) : (sdS S 1 ((m : Int) + 1)) 0 = (S 0).q' (addB (S 0).q (m + 1)) := by
  unfold sdS
  rw [p1, isS_of hm, if_pos (by rfl), show ((1 : Int) - 1).toNat = 0 from rfl, SS.set_same, show ((m : Int) + 1).toNat = m + 1 by omega]
theorem at1_sdE {m : Nat} (hm : m < 15) : sdE 1 ((m : Int) + 1) = 0 := by
  unfold sdE
  rw [p1, isS_of hm]
  rfl
theorem at1_nx (S : SS) : (nxS S 1) 0 = (S 0).q' (S 0).nx.2 := by
  unfold nxS
  rw [p1, if_pos rfl, show ((1 : Int) - 1).toNat = 0 from rfl, SS.set_same]
theorem at1_nxI (S : SS) : nxI S 1 = (S 0).nx.1 := by
  unfold nxI
  rw [p1, if_pos rfl, show ((1 : Int) - 1).toNat = 0 from rfl]
theorem at1_nxH (S : SS) : nxH S 1 = if (S 0).nx.1 = 0 then 0 else (S 0).hd (S 0).nx.1 := by
  unfold nxH
  rw [at1_nxI, show ((1 : Int) - 1).toNat = 0 from rfl]
theorem at1_nxB (S : SS) : nxB S 1 = ((S 0).nx.1 != 0) := by
  unfold nxB
  rw [at1_nxI]
theorem at1_le (S : SS) : (leS S 1) 0 = ⟨(S 0).h, (S 0).q, none⟩ := by
  unfold leS
  rw [p1, if_pos rfl, show ((1 : Int) - 1).toNat = 0 from rfl, SS.set_same]
theorem at1_leE {S : SS} {z : Int × List Int} (hk : (S 0).k = some z) : leE S 1 = 0 ∧ lePc S 1 = z.1 ∧ leSt S 1 = z.2 := by
  unfold leE lePc leSt Sg.pc Sg.st
  rw [p1, if_pos rfl, if_pos rfl, if_pos rfl, show ((1 : Int) - 1).toNat = 0 from rfl, hk]
  exact ⟨rfl, rfl, rfl⟩

def fitB (pc : Int) (n : Nat) : Bool := (decide (0 ≤ pc) && decide (pc ≤ 1048576)) && decide (n ≤ 32)
set_option maxHeartbeats 1000000 in
theorem fit_at (pc : Int) (a : Option Addr) (n c : Nat) (w : World) :
    Calls Try.prog 10 #[vmV pc a n c] w fun e w' => e = .returned (.bool (fitB pc n)) ∧ Below w.heap.size w w' := by
  obtain ⟨W, hW⟩ : ∃ W, W = w.alloc (.cells #[.int .i64 pc, .slice a n c] 30) := ⟨_, rfl⟩
  obtain ⟨g, hg⟩ : ∃ g, g = w.heap.size := ⟨_, rfl⟩
  have HB : Hid (Below w.heap.size w W) := by rw [hW]; exact below_alloc _ _
  have h0 : W.heap[g]? = some (.cells #[.int .i64 pc, .slice a n c] 30 (0, 0)) := by rw [hW, hg]; exact heap_alloc_new _ _
  have z0 : W.cell? ⟨g, 0, none⟩ = some (.int .i64 pc) := by rw [cell_of_heap h0]; rfl
  have z1 : W.cell? ⟨g, 1, none⟩ = some (.slice a n c) := by rw [cell_of_heap h0]; rfl
  have HW : Hid _ := hW
  have HG : Hid _ := hg
  clear hW hg h0
  by_cases h1 : 0 ≤ pc
  · have g0 : decide (0 ≤ pc) = true := decide_eq_true h1
    by_cases h2 : pc ≤ 1048576
    · have g1 : decide (pc ≤ 1048576) = true := decide_eq_true h2
      by_cases h3 : n ≤ 32
      · have g2 : decide ((n : Int) ≤ 32) = true := decide_eq_true (by omega)
        have HF : Hid (fitB pc n = true) := by show _ = _; unfold fitB; rw [g0, g1, decide_eq_true h3]; rfl
        clear h1 h2 h3
        go_enter Try.func10, Try.ntmps10
        go_upto_region 1 with fail
        rw [← HW.out, ← HG.out]
        clear HW
        go_wp2
        go_ret
        exact ⟨by rw [HF.out]; rfl, HB.out⟩
      · have g2 : decide ((n : Int) ≤ 32) = false := decide_eq_false (by omega)
        have HF : Hid (fitB pc n = false) := by show _ = _; unfold fitB; rw [g0, g1, decide_eq_false h3]; rfl
        clear h1 h2 h3
        go_enter Try.func10, Try.ntmps10
        go_upto_region 1 with fail
        rw [← HW.out, ← HG.out]
        clear HW
        go_wp2
        go_ret
        exact ⟨by rw [HF.out]; rfl, HB.out⟩
    · have g1 : decide (pc ≤ 1048576) = false := decide_eq_false h2
      have HF : Hid (fitB pc n = false) := by show _ = _; unfold fitB; rw [g0, g1]; rfl
      clear h1 h2
      go_enter Try.func10, Try.ntmps10
      go_upto_region 1 with fail
      rw [← HW.out, ← HG.out]
      clear HW
      go_wp2
      go_ret
      exact ⟨by rw [HF.out]; rfl, HB.out⟩
  · have g0 : decide (0 ≤ pc) = false := decide_eq_false h1
    have HF : Hid (fitB pc n = false) := by show _ = _; unfold fitB; rw [g0]; rfl
    clear h1
    go_enter Try.func10, Try.ntmps10
    go_upto_region 1 with fail
    rw [← HW.out, ← HG.out]
    clear HW
    go_wp2
    go_ret
    exact ⟨by rw [HF.out]; rfl, HB.out⟩
set_option maxRecDepth 100000 in
set_option maxHeartbeats 4000000 in
theorem same_at (pc : Int) (D : List Int) (a a' : Option Addr) (n c c' : Nat) (w : World) (hn : n = D.length) (ha : Rd w a D) (ha' : Rd w a' D) (hl : n ≤ 1000000) :
    Calls Try.prog 23 #[vmV pc a n c, vmV pc a' n c'] w fun e w' => e = .returned (.bool true) ∧ Below w.heap.size w w' := by
  obtain ⟨W, hW⟩ : ∃ W, W = (w.alloc (.cells #[.int .i64 pc, .slice a n c] 30)).alloc (.cells #[.int .i64 pc, .slice a' n c'] 30) := ⟨_, rfl⟩
  obtain ⟨g, hg⟩ : ∃ g, g = w.heap.size := ⟨_, rfl⟩
  have hB : Below w.heap.size w W := by rw [hW]; exact below_alloc2 _ _ _
  have h0 : W.heap[g]? = some (.cells #[.int .i64 pc, .slice a n c] 30 (0, 0)) := by
    rw [hW, hg, Below.heap_alloc _ _ _ (by simp)]
    exact heap_alloc_new _ _
  have h1 : W.heap[g + 1]? = some (.cells #[.int .i64 pc, .slice a' n c'] 30 (0, 0)) := by
    rw [hW, hg]
    have := heap_alloc_new (w.alloc (.cells #[.int .i64 pc, .slice a n c] 30)) (.cells #[.int .i64 pc, .slice a' n c'] 30)
    simpa using this
  have H0 : Hid _ := h0
  have H1 : Hid _ := h1
  have HA : Hid (Rd W a D) := ha.below hB
  have HA' : Hid (Rd W a' D) := ha'.below hB
  have HB : Hid (Below w.heap.size w W) := hB
  have z0 : W.cell? ⟨g, 0, none⟩ = some (.int .i64 pc) := by rw [cell_of_heap h0]; rfl
  have z1 : W.cell? ⟨g, 1, none⟩ = some (.slice a n c) := by rw [cell_of_heap h0]; rfl
  have y0 : W.cell? ⟨g + 1, 0, none⟩ = some (.int .i64 pc) := by rw [cell_of_heap h1]; rfl
  have y1 : W.cell? ⟨g + 1, 1, none⟩ = some (.slice a' n c') := by rw [cell_of_heap h1]; rfl
  have HW : Hid _ := hW
  have HG : Hid _ := hg
  have HN : Hid (n = D.length) := hn
  clear hW hg h0 h1 ha ha' hB hn
  go_enter Try.func23, Try.ntmps23
  go_upto_region 1 with fail
  rw [← HW.out, ← HG.out]
  clear HW
  go_wp2
  clear z0 z1 y0 y1
  go_loopw [5] (fun s wr => ∃ (k : Nat), k ≤ n ∧ s = .int .i64 k ∧ Below W.heap.size W wr) (fun s _ => n - (intOf s).toNat)
  case atStart => exact ⟨0, by omega, rfl, Below.refl _ _⟩
  case round =>
    obtain ⟨k, hk, rfl, hbw⟩ := hrel
    have k0 := (hbw.block g (lt_of_heap H0.out)).trans H0.out
    have k1 := (hbw.block (g + 1) (lt_of_heap H1.out)).trans H1.out
    have z1 : wr.cell? ⟨g, 1, none⟩ = some (.slice a n c) := by rw [cell_of_heap k0]; rfl
    have y1 : wr.cell? ⟨g + 1, 1, none⟩ = some (.slice a' n c') := by rw [cell_of_heap k1]; rfl
    have HBw : Hid (Below W.heap.size W wr) := hbw
    clear k0 k1
    by_cases hlt : k < n
    · obtain ⟨x, hx⟩ : ∃ x, D[k]? = some x := ⟨D[k]'(by rw [← HN.out]; exact hlt), List.getElem?_eq_getElem _⟩
      obtain ⟨ga, oa, rfl, a0⟩ := (Rd.below HA.out hbw) k x hx
      obtain ⟨gb, ob, rfl, b0⟩ := (Rd.below HA'.out hbw) k x hx
      have i1 : decide ((k : Int) < (n : Int)) = true := decide_eq_true (by omega)
      have hki : (k : Int) < (n : Int) := by omega
      clear hx hbw
      go_upto_region 6 with fail
      go_quiet (fail)
      go_wp2
      go_roundw
      case rel => exact ⟨k + 1, by omega, by go_num, HBw.out.trans ((drewN_below ⟨nq, rfl⟩).mono HBw.out.size)⟩
      case measure => simp [intOf]; omega
    · obtain rfl : k = n := by omega
      have i1 : decide ((k : Int) < (k : Int)) = false := decide_eq_false (by omega)
      clear hbw
      go_wp2
      go_ret
      exact ⟨rfl, HB.out.trans (HBw.out.mono HB.out.size)⟩
end Go.Proofs.Ytliifpknkdjgjaa
